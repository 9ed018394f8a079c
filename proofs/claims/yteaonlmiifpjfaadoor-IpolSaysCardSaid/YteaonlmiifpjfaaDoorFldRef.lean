/- Contracts of the document's answer for package field (package rankmereref1: Mod, Pow, Div), within the document's bounds. -/
import Derived.Test.YteaonlmiifpjfaaDoorFld
namespace Go.Proofs.YteaonlmiifpjfaaDoor
open Go.ChangeShapes Go.WideShapes Go.ChangeAt Go.RowKit
set_option linter.unusedVariables false

theorem refMod_any (n : Int) (w : World) (h1 : -1000000000000000 ≤ n) (h2 : n ≤ 1000000000000000) :
    Calls Tryd.prog 17 #[.int .i64 n] w fun e w' => e = .returned (.int .i64 (n % 9973)) ∧ w = w' := by
  obtain ⟨f1, f2⟩ := Num.tmod_fix n 9973 (by omega)
  obtain ⟨b2, b1⟩ := Num.tmod_bound n 9973 (by omega)
  have F1 := Lib.hid f1
  have F2 := Lib.hid f2
  clear f1 f2
  by_cases h : n.tmod 9973 < 0
  · go_enter Tryd.func17, Tryd.ntmps17
    go_wp2
    go_ret
    exact ⟨ret_int (F1.out h), rfl⟩
  · have h' : 0 ≤ n.tmod 9973 := by omega
    clear h
    go_enter Tryd.func17, Tryd.ntmps17
    go_wp2
    go_ret
    exact ⟨ret_int (F2.out h'), rfl⟩

theorem refMod_el (n : Int) (w : World) (h1 : -1000000000000000 ≤ n) (h2 : n ≤ 1000000000000000) :
    Calls Tryd.prog 17 #[.int .i64 n] w fun e w' => e = .returned (el (Fp.ofInt n)) ∧ w = w' := by
  have h := refMod_any n w h1 h2
  unfold el
  rw [Fp.ofInt_val]
  exact h


/-- One number alone does: what the loop of Div asks. -/
theorem div_test (a b : Fp.F) (hb : b ≠ 0) (x : Nat) (hx : x < 9973) :
    ((x : Int) * (b.val : Int) % 9973 = (a.val : Int)) ↔ x = (a * Fp.inv b).val := by
  have e : (x : Int) * (b.val : Int) % 9973 = (((⟨x, hx⟩ : Fp.F) * b).val : Int) := by rw [Fp.mul_val]
  rw [e, Fp.val_eq]
  have hi := Fp.inv_mul hb
  constructor
  · intro h
    rw [← h, Fin.mul_assoc, Fp.mul_inv hb, Fin.mul_one]
  · intro h
    have : (⟨x, hx⟩ : Fp.F) = a * Fp.inv b := Fin.ext h
    rw [this, Fin.mul_assoc, hi, Fin.mul_one]

set_option maxRecDepth 100000 in
set_option maxHeartbeats 800000 in
theorem refDiv_el (a b : Fp.F) (w : World) (hb : b ≠ 0) :
    Calls Tryd.prog 16 #[el a, el b] w fun e w' => e = .returned (el (a * Fp.inv b)) ∧ w = w' := by
  have T := Lib.hid (div_test a b hb)
  have hd := (a * Fp.inv b).isLt
  have bb := Fp.val_bound b
  have ba := Fp.val_bound a
  unfold el at *
  generalize (a * Fp.inv b).val = d at *
  generalize (b.val : Int) = y at *
  generalize (a.val : Int) = z at *
  go_enter Tryd.func16, Tryd.ntmps16
  go_wp2_with fail
  go_loop [5] (fun u => ∃ x : Nat, x ≤ d ∧ u = .int .i64 (x : Int)) (fun u => 9973 - (intOf u).toNat)
  case atStart => exact ⟨0, by omega, rfl⟩
  case round =>
    obtain ⟨x, hx, rfl⟩ := hrel
    have hp : 0 ≤ (x : Int) * y ∧ (x : Int) * y ≤ 99440784 := by
      have := Int.mul_le_mul (show (x : Int) ≤ 9972 by omega) bb.2 bb.1 (by omega)
      exact ⟨Int.mul_nonneg (by omega) bb.1, by omega⟩
    by_cases h : x = d
    · have E := Lib.hid ((T.out x (by omega)).2 h)
      have hq : ((x : Int) * y % 9973 != z) = false := by rw [bne_eq_false_iff_eq]; exact E.out
      subst h
      go_wp2_with fail
      go_ret
      exact ⟨rfl, rfl⟩
    · have hq : ((x : Int) * y % 9973 != z) = true := by rw [bne_iff_ne]; exact fun c => h ((T.out x (by omega)).1 c)
      go_wp2_with fail
      go_round
      case rel => exact ⟨x + 1, by omega, by go_num⟩
      case measure => simp [intOf]; omega

end Go.Proofs.YteaonlmiifpjfaaDoor
