/- Plain facts for package det: how many numbers are not at their places; what a value is as a sign. No program is named here. -/
import Derived.Test.YtkebjmapdcbnaaaMatA
namespace Go.Proofs.Ytkebjmapdcbnaaa.Mx
open Fp
set_option linter.unusedVariables false

/-- How many of the first n are not at their places. -/
def nf : Nat → (Nat → Int) → Nat
  | 0, _ => 0
  | n + 1, s => nf n s + if s n = (n : Int) then 0 else 1
theorem nf_le : ∀ (n : Nat) {s t : Nat → Int}, (∀ i, i < n → s i = (i : Int) → t i = (i : Int)) → nf n t ≤ nf n s
  | 0, _, _, _ => Nat.le_refl _
  | n + 1, s, t, h => by
    have h1 := nf_le n (s := s) (t := t) fun i hi => h i (by omega)
    show nf n t + (if t n = (n : Int) then 0 else 1) ≤ nf n s + if s n = (n : Int) then 0 else 1
    by_cases e : s n = (n : Int)
    · rw [if_pos e, if_pos (h n (by omega) e)]; omega
    · rw [if_neg e]; split <;> omega
theorem nf_lt : ∀ (n : Nat) {s t : Nat → Int} {m : Nat}, (∀ i, i < n → s i = (i : Int) → t i = (i : Int)) → m < n → s m ≠ (m : Int) → t m = (m : Int) → nf n t < nf n s
  | 0, _, _, m, _, hm, _, _ => absurd hm (by omega)
  | n + 1, s, t, m, h, hm, h1, h2 => by
    show nf n t + (if t n = (n : Int) then 0 else 1) < nf n s + if s n = (n : Int) then 0 else 1
    by_cases e : m = n
    · subst e
      have := nf_le m (s := s) (t := t) fun i hi => h i (by omega)
      rw [if_neg h1, if_pos h2]; omega
    · have := nf_lt n (s := s) (t := t) (m := m) (fun i hi => h i (by omega)) (by omega) h1 h2
      by_cases e : s n = (n : Int)
      · rw [if_pos e, if_pos (h n (by omega) e)]; omega
      · rw [if_neg e]; split <;> omega

theorem ofInt_neg (x : Int) : ofInt (-x) = -(ofInt x) := by
  have := ofInt_add x (-x)
  rw [show x + -x = 0 by omega, show ofInt 0 = 0 from rfl] at this
  grind
/-- x is 1, -1 or 0, and S in the field. -/
def SgnIs (S : F) (x : Int) : Prop := (x = 1 ∨ x = -1 ∨ x = 0) ∧ ofInt x = S
theorem SgnIs.one {S : F} {x y : Int} (h : SgnIs S x) (k : SgnIs S y) : x = y := by
  have e := h.2.trans k.2.symm
  have n1 : ofInt 1 ≠ ofInt (-1) := by decide
  have n2 : ofInt 1 ≠ ofInt 0 := by decide
  have n3 : ofInt (-1) ≠ ofInt 0 := by decide
  rcases h.1 with a | a | a <;> rcases k.1 with b | b | b <;> first | exact a.trans b.symm | (rw [a, b] at e; first | exact absurd e n1 | exact absurd e.symm n1 | exact absurd e n2 | exact absurd e.symm n2 | exact absurd e n3 | exact absurd e.symm n3)
theorem SgnIs.neg {S : F} {x : Int} (h : SgnIs S x) : SgnIs (-S) (-x) := by
  refine ⟨?_, by rw [ofInt_neg, h.2]⟩
  rcases h.1 with a | a | a <;> rw [a] <;> decide
theorem SgnIs.bound {S : F} {x : Int} (h : SgnIs S x) : -1 ≤ x ∧ x ≤ 1 := by rcases h.1 with a | a | a <;> omega
theorem tmod_F (x : Int) : ofInt (x.tmod 9973) = ofInt x := by
  have h := Int.mul_tdiv_add_tmod x 9973
  have h2 : ofInt x = ofInt (9973 * x.tdiv 9973 + x.tmod 9973) := by rw [h]
  rw [ofInt_add, ofInt_mul, show ofInt 9973 = 0 from rfl] at h2
  rw [h2]; grind
theorem tmod_bound (x : Int) : -9972 ≤ x.tmod 9973 ∧ x.tmod 9973 ≤ 9972 := by
  have h1 := Int.tmod_lt_of_pos x (show (0 : Int) < 9973 by omega)
  have h2 := Int.lt_tmod_of_pos x (show (0 : Int) < 9973 by omega)
  omega
/-- A remainder made an element. -/
theorem fit (x : Int) : (x.tmod 9973 + 9973).tmod 9973 = ((ofInt x).val : Int) := by
  have h := tmod_bound x
  rw [Int.tmod_eq_emod_of_nonneg (by omega), ← ofInt_val, ofInt_add, tmod_F, show ofInt 9973 = 0 from rfl]
  congr 1; congr 1; grind

/-- How many orders there may be of so many. -/
def lv : Nat → Nat
  | 0 => 1
  | m + 1 => 5 * lv m
theorem lv_le : ∀ {m : Nat}, m ≤ 5 → lv m ≤ 3125
  | 0, _ => by decide
  | 1, _ => by decide
  | 2, _ => by decide
  | 3, _ => by decide
  | 4, _ => by decide
  | 5, _ => by decide
  | m + 6, h => absurd h (by omega)

end Go.Proofs.Ytkebjmapdcbnaaa.Mx
