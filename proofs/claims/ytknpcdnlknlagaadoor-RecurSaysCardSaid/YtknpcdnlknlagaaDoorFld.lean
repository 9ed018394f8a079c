/- Contracts of package field: element, times, Add, Mul, Div, Pow, within and outside of their bounds. -/
import Derived.Test.YtknpcdnlknlagaaDoorBz
import Derived.Test.YtknpcdnlknlagaaDoorFp
namespace Go.Proofs.YtknpcdnlknlagaaDoor
open Go.ChangeShapes Go.WideShapes Go.ChangeAt Go.RowKit
set_option linter.unusedVariables false

/-- The error that the program gives where there is none. -/
abbrev errNone : Value := .iface 37 (.int .i64 5)

/-- An element of the field as the program has it. -/
abbrev el (a : Fp.F) : Value := .int .i64 (a.val : Int)

theorem prod_bound (a b : Fp.F) : 0 ≤ (a.val : Int) * (b.val : Int) ∧ (a.val : Int) * (b.val : Int) ≤ 99440784 := by
  have h1 := Fp.val_bound a
  have h2 := Fp.val_bound b
  have := Int.mul_le_mul h1.2 h2.2 h2.1 (by omega)
  exact ⟨Int.mul_nonneg h1.1 h2.1, by omega⟩

/-- Both are elements, or one is none. -/
abbrev Both (a b : Int) : Prop := (0 ≤ a ∧ a ≤ 9972) ∧ (0 ≤ b ∧ b ≤ 9972)



theorem inv_unique {b x : Fp.F} (hb : b ≠ 0) (h : x * b = 1) : x = Fp.inv b := by
  have h2 := Fp.inv_mul hb
  generalize Fp.inv b = i at *
  exact Fp.mul_cancel hb (h.trans h2.symm)

/-- Bezout's number of an element and the prime is what undoes the element. -/
theorem bez_inv (b : Fp.F) (hb : b ≠ 0) (x y : Int) (h : Num.BezOk (b.val : Int) 9973 x y) : x = ((Fp.inv b).val : Int) := by
  obtain ⟨e, k, _⟩ := h
  have hg : Int.gcd (b.val : Int) 9973 = 1 := Fp.coprime b.val (Fp.ne_val hb) b.isLt
  have k := k (by decide)
  rw [hg] at e k
  have k2 : x < 9973 := by
    have : (((9973 : Int).natAbs / 1 : Nat) : Int) = 9973 := rfl
    omega
  have hx := Fp.ofInt_of x (by omega) (by omega)
  have hm : Fp.ofInt x * b = 1 := by
    refine Fp.val_inj ?_
    rw [Fp.mul_val, hx]
    have : (((1 : Fp.F).val : Nat) : Int) = 1 := rfl
    rw [this, Int.mul_comm]
    omega
  rw [← hx, inv_unique hb hm]


end Go.Proofs.YtknpcdnlknlagaaDoor
