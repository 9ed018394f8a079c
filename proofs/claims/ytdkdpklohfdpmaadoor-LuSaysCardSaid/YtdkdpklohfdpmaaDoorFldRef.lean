/- Contracts of the document's answer for package field (package rankmereref1: Mod, Pow, Div), within the document's bounds. -/
import Derived.Test.YtdkdpklohfdpmaaDoorFld
namespace Go.Proofs.YtdkdpklohfdpmaaDoor
open Go.ChangeShapes Go.WideShapes Go.ChangeAt Go.RowKit
set_option linter.unusedVariables false

theorem refMod_any (n : Int) (w : World) (h1 : -1000000000000000 ≤ n) (h2 : n ≤ 1000000000000000) :
    Calls Tryd.prog 12 #[.int .i64 n] w fun e w' => e = .returned (.int .i64 (n % 9973)) ∧ w = w' := by
  obtain ⟨f1, f2⟩ := Num.tmod_fix n 9973 (by omega)
  obtain ⟨b2, b1⟩ := Num.tmod_bound n 9973 (by omega)
  have F1 := Lib.hid f1
  have F2 := Lib.hid f2
  clear f1 f2
  by_cases h : n.tmod 9973 < 0
  · go_enter Tryd.func12, Tryd.ntmps12
    go_wp2
    go_ret
    exact ⟨ret_int (F1.out h), rfl⟩
  · have h' : 0 ≤ n.tmod 9973 := by omega
    clear h
    go_enter Tryd.func12, Tryd.ntmps12
    go_wp2
    go_ret
    exact ⟨ret_int (F2.out h'), rfl⟩

theorem refMod_el (n : Int) (w : World) (h1 : -1000000000000000 ≤ n) (h2 : n ≤ 1000000000000000) :
    Calls Tryd.prog 12 #[.int .i64 n] w fun e w' => e = .returned (el (Fp.ofInt n)) ∧ w = w' := by
  have h := refMod_any n w h1 h2
  unfold el
  rw [Fp.ofInt_val]
  exact h

set_option maxHeartbeats 800000 in
theorem refPow_any (k : Nat) : ∀ (a : Fp.F) (n : Nat) (w : World), n ≤ k → n ≤ 1000000 →
    Calls Tryd.prog 13 #[el a, .int .i64 (n : Int)] w fun e w' => e = .returned (el (Fp.pw a n)) ∧ w = w' := by
  have zero : ∀ (a : Fp.F) (w : World),
      Calls Tryd.prog 13 #[el a, .int .i64 ((0 : Nat) : Int)] w fun e w' => e = .returned (el (Fp.pw a 0)) ∧ w = w' := by
    intro a w
    unfold el
    generalize (a.val : Int) = x
    go_enter Tryd.func13, Tryd.ntmps13
    go_wp2_with fail
    go_ret
    exact ⟨rfl, rfl⟩
  induction k with
  | zero =>
    intro a n w hk hn
    obtain rfl : n = 0 := by omega
    exact zero a w
  | succ k ih =>
    intro a n w hk hn
    by_cases h : n = 0
    · subst h; exact zero a w
    · clear zero
      have IH := Lib.hid (ih (a * a) (n / 2))
      have EA := Lib.hid (Fp.mul_val a a)
      have ha := Fp.val_bound a
      have hp := prod_bound a a
      have hq : ((n : Int) == 0) = false := by rw [beq_eq_false_iff_ne]; omega
      have hn2 : ((n / 2 : Nat) : Int) = (n : Int) / 2 := by omega
      have hv := prod_bound (Fp.pw (a * a) (n / 2)) a
      have EP := Lib.hid (Fp.mul_val (Fp.pw (a * a) (n / 2)) a)
      have ST := Lib.hid (Fp.pw_half a n)
      have hz := Fp.val_bound (Fp.pw (a * a) (n / 2))
      unfold el at *
      rw [EA.out, hn2] at IH
      generalize hzz : ((Fp.pw (a * a) (n / 2)).val : Int) = z at *
      have E1 := Lib.hid (show n % 2 = 1 → z * (a.val : Int) % 9973 = ((Fp.pw a n).val : Int) from fun h => by
        have := ST.out; rw [if_pos h] at this; rw [this]; exact EP.out.symm)
      have E0 := Lib.hid (show ¬ n % 2 = 1 → z = ((Fp.pw a n).val : Int) from fun h => by
        have := ST.out; rw [if_neg h, Fin.mul_one] at this; rw [this, hzz])
      clear ST EP EA
      generalize (a.val : Int) = x at *
      by_cases h2 : n % 2 = 1
      · have E := Lib.hid (E1.out h2)
        have hr : ((n : Int) % 2 == 1) = true := by rw [beq_iff_eq]; omega
        clear E1 E0 ih h
        go_enter Tryd.func13, Tryd.ntmps13
        go_wp2_with fail
        refine (IH.out _ (by omega) (by omega)).mono ?_; rintro e w' ⟨rfl, rfl⟩
        go_wp2_with fail
        go_ret
        exact ⟨ret_int E.out, rfl⟩
      · have E := Lib.hid (E0.out h2)
        have hr : ((n : Int) % 2 == 1) = false := by rw [beq_eq_false_iff_ne]; omega
        clear E1 E0 ih h
        go_enter Tryd.func13, Tryd.ntmps13
        go_wp2_with fail
        refine (IH.out _ (by omega) (by omega)).mono ?_; rintro e w' ⟨rfl, rfl⟩
        go_wp2_with fail
        go_ret
        exact ⟨ret_int E.out, rfl⟩


end Go.Proofs.YtdkdpklohfdpmaaDoor
