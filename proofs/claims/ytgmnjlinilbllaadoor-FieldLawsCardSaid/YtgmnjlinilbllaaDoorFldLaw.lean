/- The walks of the laws of package field that ask no error's number: FieldFermat, FieldSquares, FieldLaws' helpers. -/
import Derived.Test.YtgmnjlinilbllaaDoorFld
namespace Go.Proofs.YtgmnjlinilbllaaDoor
open Go.ChangeShapes Go.WideShapes Go.ChangeAt Go.RowKit
set_option linter.unusedVariables false

theorem in_any (n l h : Int) (w : World) (b : Bool) (hb : (decide (l ≤ n) && decide (n ≤ h)) = b) :
    Calls Tryd.prog 5 #[.int .i64 n, .int .i64 l, .int .i64 h] w fun e w' => e = .returned (.bool b) ∧ w = w' := by
  have H := Lib.hid hb
  clear hb
  by_cases h1 : l ≤ n
  · go_enter Tryd.func5, Tryd.ntmps5
    go_wp2
    go_ret
    exact ⟨ret_bool (by have := H.out; rw [decide_eq_true h1] at this; simpa using this), rfl⟩
  · go_enter Tryd.func5, Tryd.ntmps5
    go_wp2
    go_ret
    exact ⟨ret_bool (by have := H.out; rw [decide_eq_false (show ¬ l ≤ n by omega)] at this; simpa using this), rfl⟩

theorem in_el (a : Fp.F) (w : World) :
    Calls Tryd.prog 5 #[el a, .int .i64 0, .int .i64 9972] w fun e w' => e = .returned (.bool true) ∧ w = w' :=
  in_any _ _ _ w true (by have := Fp.val_bound a; simp; omega)

theorem mulLaw_el (a b : Fp.F) (w : World) :
    Calls Tryd.prog 15 #[el a, el b] w fun e w' => e = .returned (el (a * b)) ∧ w = w' := by
  have H := Lib.hid (mul_el a b)
  unfold el at *
  generalize (a.val : Int) = x at *
  generalize (b.val : Int) = y at *
  go_enter Tryd.func15, Tryd.ntmps15
  go_wp2_with fail
  refine (H.out _).mono ?_; rintro e w' ⟨rfl, rfl⟩
  go_wp2_with fail
  go_ret
  exact ⟨rfl, rfl⟩

theorem mulLaw_out (a b : Int) (w : World) (h : ¬ Both a b) :
    Calls Tryd.prog 15 #[.int .i64 a, .int .i64 b] w fun e w' => e = .returned (.int .i64 (-1)) ∧ w = w' := by
  have H := Lib.hid (mul_out a b w h)
  clear h
  go_enter Tryd.func15, Tryd.ntmps15
  go_wp2_with fail
  refine H.out.mono ?_; rintro e w' ⟨rfl, rfl⟩
  go_wp2_with fail
  go_ret
  exact ⟨rfl, rfl⟩

theorem mul_9972 (w : World) :
    Calls Tryd.prog 9 #[.int .i64 9972, .int .i64 9972] w fun e w' => e = .returned (.tuple #[.int .i64 1, .nilIface]) ∧ w = w' := by
  have h := mul_el 9972 9972 w
  have e : (9972 : Fp.F) * 9972 = 1 := by decide
  rw [e] at h
  exact h

theorem div_1_2 (w : World) :
    Calls Tryd.prog 11 #[.int .i64 1, .int .i64 2] w fun e w' => e = .returned (.tuple #[.int .i64 4987, .nilIface]) ∧ Drew w w' := by
  have h := div_el 1 2 w (by decide)
  have e2 : (4987 : Fp.F) = Fp.inv 2 := inv_unique (by decide) (by decide)
  have e : (1 : Fp.F) * Fp.inv 2 = 4987 := by rw [← e2]; decide
  rw [e] at h
  exact h

theorem fact_any (w : World) :
    Calls Tryd.prog 14 #[] w fun e w' => e = .returned (.bool true) ∧ Drew w w' := by
  go_enter Tryd.func14, Tryd.ntmps14
  go_wp2_with fail
  refine (mul_9972 _).mono ?_; rintro e w1 ⟨rfl, rfl⟩
  go_wp2_with fail
  refine (div_1_2 _).mono ?_; rintro e w1 ⟨rfl, hd⟩
  go_wp2_with fail
  go_ret
  exact ⟨rfl, hd⟩

/-- Of a number within its bounds its element. -/
theorem to_el {a : Int} (h : 0 ≤ a ∧ a ≤ 9972) : ∃ x : Fp.F, a = (x.val : Int) := ⟨Fp.ofInt a, (Fp.ofInt_of a h.1 h.2).symm⟩

theorem pow_el (a : Fp.F) (n : Int) (w : World) (h0 : 0 ≤ n) (h1 : n ≤ 1000000) :
    Calls Tryd.prog 13 #[el a, .int .i64 n] w fun e w' => e = .returned (.tuple #[el (Fp.pw a n.toNat), .nilIface]) ∧ Drew w w' := by
  obtain ⟨m, rfl⟩ := Int.eq_ofNat_of_zero_le h0
  exact pow_in a m w (by omega)






end Go.Proofs.YtgmnjlinilbllaaDoor
