/- Contracts of package field: element, times, Add, Mul, Div, Pow, within and outside of their bounds. -/
import Derived.Test.YtldkamhknaflbaaBz
import Derived.Test.YtldkamhknaflbaaFp
namespace Go.Proofs.Ytldkamhknaflbaa
open Go.ChangeShapes Go.WideShapes Go.ChangeAt Go.RowKit
set_option linter.unusedVariables false

/-- The error that the program gives where there is none. -/
abbrev errNone : Value := .iface 56 (.int .i64 5)

/-- An element of the field as the program has it. -/
abbrev el (a : Fp.F) : Value := .int .i64 (a.val : Int)

theorem element_any (n : Int) (w : World) (b : Bool) (hb : (decide (0 ≤ n) && decide (n ≤ 9972)) = b) :
    Calls Try.prog 58 #[.int .i64 n] w fun e w' => e = .returned (.bool b) ∧ w = w' := by
  have H := Lib.hid hb
  clear hb
  by_cases h1 : 0 ≤ n
  · go_enter Try.func58, Try.ntmps58
    go_wp2
    go_ret
    exact ⟨ret_bool (by rw [← H.out, decide_eq_true h1, Bool.true_and]; exact decide_eq_decide.2 (by omega)), rfl⟩
  · go_enter Try.func58, Try.ntmps58
    go_wp2
    go_ret
    exact ⟨ret_bool (by rw [← H.out, decide_eq_false (show ¬ 0 ≤ n by omega), Bool.false_and]), rfl⟩

theorem element_el (a : Fp.F) (w : World) :
    Calls Try.prog 58 #[el a] w fun e w' => e = .returned (.bool true) ∧ w = w' :=
  element_any _ w true (by have := Fp.val_bound a; simp; omega)

theorem prod_bound (a b : Fp.F) : 0 ≤ (a.val : Int) * (b.val : Int) ∧ (a.val : Int) * (b.val : Int) ≤ 99440784 := by
  have h1 := Fp.val_bound a
  have h2 := Fp.val_bound b
  have := Int.mul_le_mul h1.2 h2.2 h2.1 (by omega)
  exact ⟨Int.mul_nonneg h1.1 h2.1, by omega⟩

theorem times_el (a b : Fp.F) (w : World) :
    Calls Try.prog 60 #[el a, el b] w fun e w' => e = .returned (el (a * b)) ∧ w = w' := by
  have E := Lib.hid (Fp.mul_val a b)
  obtain ⟨p1, p2⟩ := prod_bound a b
  have h1 := Fp.val_bound a
  have h2 := Fp.val_bound b
  unfold el
  generalize (a.val : Int) = x at *
  generalize (b.val : Int) = y at *
  go_enter Try.func60, Try.ntmps60
  go_wp2
  go_ret
  exact ⟨ret_int (by rw [E.out]), rfl⟩

/-- Both are elements, or one is none. -/
abbrev Both (a b : Int) : Prop := (0 ≤ a ∧ a ≤ 9972) ∧ (0 ≤ b ∧ b ≤ 9972)



theorem inv_unique {b x : Fp.F} (hb : b ≠ 0) (h : x * b = 1) : x = Fp.inv b := by
  have h2 := Fp.inv_mul hb
  generalize Fp.inv b = i at *
  exact Fp.mul_cancel hb (h.trans h2.symm)

/-- Bezout's number of an element and the prime is what undoes the element. -/
theorem bez_inv (b : Fp.F) (hb : b ≠ 0) (x y : Int) (h : Num.BezOk (b.val : Int) 9973 x y) : x = ((Fp.inv b).val : Int) := by
  obtain ⟨e, k, _⟩ := h
  have hg : Int.gcd (b.val : Int) 9973 = 1 := Fp.coprime b.val (Fp.ne_val hb) b.isLt
  have k := k (by decide)
  rw [hg] at e k
  have k2 : x < 9973 := by
    have : (((9973 : Int).natAbs / 1 : Nat) : Int) = 9973 := rfl
    omega
  have hx := Fp.ofInt_of x (by omega) (by omega)
  have hm : Fp.ofInt x * b = 1 := by
    refine Fp.val_inj ?_
    rw [Fp.mul_val, hx]
    have : (((1 : Fp.F).val : Nat) : Int) = 1 := rfl
    rw [this, Int.mul_comm]
    omega
  rw [← hx, inv_unique hb hm]

theorem div_el (a b : Fp.F) (w : World) (hb : b ≠ 0) :
    Calls Try.prog 44 #[el a, el b] w fun e w' => e = .returned (.tuple #[el (a * Fp.inv b), .nilIface]) ∧ Drew w w' := by
  have H1 := Lib.hid (element_el a)
  have H2 := Lib.hid (element_el b)
  have H3 := Lib.hid (times_el a (Fp.inv b))
  have hv := Fp.ne_val hb
  have h0 : (b.val : Int) ≠ 0 := by omega
  have hl := Fp.val_bound b
  have hne : ((b.val : Int) == 0) = false := by rw [beq_eq_false_iff_ne]; exact h0
  have HB := Lib.hid (bez_inv b hb)
  have HG := Lib.hid (show Int.gcd (b.val : Int) 9973 = 1 from Fp.coprime b.val hv b.isLt)
  clear hv
  unfold el at *
  generalize ((a * Fp.inv b).val : Int) = z at *
  generalize ((Fp.inv b).val : Int) = i at *
  generalize (a.val : Int) = x at *
  generalize (b.val : Int) = y at *
  go_enter Try.func44, Try.ntmps44
  go_wp2_with fail
  refine (H1.out _).mono ?_; rintro e w' ⟨rfl, rfl⟩
  go_wp2_with fail
  refine (H2.out _).mono ?_; rintro e w' ⟨rfl, rfl⟩
  go_wp2_with fail
  refine (bezout_any _ _ _ (by omega) (by omega) (by omega) (by omega)).mono ?_
  rintro e w1 ⟨x', y', hxy, rfl, hd⟩
  obtain rfl := HB.out _ _ hxy
  clear hxy
  go_wp2_with fail
  refine (H3.out _).mono ?_; rintro e w' ⟨rfl, rfl⟩
  go_wp2_with fail
  go_ret2
  exact ⟨rfl, hd⟩

theorem div_zero (a : Fp.F) (w : World) :
    Calls Try.prog 44 #[el a, .int .i64 0] w fun e w' => e = .returned (.tuple #[.int .i64 0, errNone]) ∧ w = w' := by
  have H1 := Lib.hid (element_el a)
  unfold el at *
  generalize (a.val : Int) = x at *
  go_enter Try.func44, Try.ntmps44
  go_wp2_with fail
  refine (H1.out _).mono ?_; rintro e w' ⟨rfl, rfl⟩
  go_wp2_with fail
  refine (element_any 0 _ true (by decide)).mono ?_; rintro e w' ⟨rfl, rfl⟩
  go_wp2_with fail
  go_ret2
  exact ⟨rfl, rfl⟩

theorem div_out (a b : Int) (w : World) (h : ¬ Both a b) :
    Calls Try.prog 44 #[.int .i64 a, .int .i64 b] w fun e w' => e = .returned (.tuple #[.int .i64 0, errRange]) ∧ w = w' := by
  by_cases ha : 0 ≤ a ∧ a ≤ 9972
  · have HA := Lib.hid (show (decide (0 ≤ a) && decide (a ≤ 9972)) = true by simp; omega)
    have HB := Lib.hid (show (decide (0 ≤ b) && decide (b ≤ 9972)) = false by simp; omega)
    clear h ha
    go_enter Try.func44, Try.ntmps44
    go_wp2_with fail
    refine (element_any _ _ _ HA.out).mono ?_; rintro e w' ⟨rfl, rfl⟩
    go_wp2_with fail
    refine (element_any _ _ _ HB.out).mono ?_; rintro e w' ⟨rfl, rfl⟩
    go_wp2_with fail
    go_ret2
    exact ⟨rfl, rfl⟩
  · have HA := Lib.hid (show (decide (0 ≤ a) && decide (a ≤ 9972)) = false by simp; omega)
    clear h ha
    go_enter Try.func44, Try.ntmps44
    go_wp2_with fail
    refine (element_any _ _ _ HA.out).mono ?_; rintro e w' ⟨rfl, rfl⟩
    go_wp2_with fail
    go_ret2
    exact ⟨rfl, rfl⟩


end Go.Proofs.Ytldkamhknaflbaa
