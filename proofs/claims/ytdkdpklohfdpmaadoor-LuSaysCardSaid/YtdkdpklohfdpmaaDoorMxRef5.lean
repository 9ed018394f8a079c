/- Contracts of the document's answer on matrices, fifth part: Stairs. For all packages. -/
import Derived.Test.YtdkdpklohfdpmaaDoorMxRef2
import Derived.Test.YtdkdpklohfdpmaaDoorFldRef
import Derived.Test.YtdkdpklohfdpmaaDoorOwnH
import Derived.Test.YtdkdpklohfdpmaaDoorMatG
namespace Go.Proofs.YtdkdpklohfdpmaaDoor
open Go.ChangeShapes Go.WideShapes Go.ChangeAt Go.RowKit
set_option linter.unusedVariables false

theorem mod_times (a b : Fp.F) : (a.val : Int) * (b.val : Int) % 9973 = ((a * b).val : Int) := (Fp.mul_val a b).symm
theorem mod_less (a x b : Fp.F) : ((a.val : Int) - (x.val : Int) * (b.val : Int)) % 9973 = ((a - x * b).val : Int) := by
  have h : Fp.ofInt ((a.val : Int) - (x.val : Int) * (b.val : Int)) = a - x * b := by
    have h2 := Fp.ofInt_add ((a.val : Int) - (x.val : Int) * (b.val : Int)) ((x.val : Int) * (b.val : Int))
    rw [Int.sub_add_cancel, Fp.ofInt_mul, Fp.ofInt_self, Fp.ofInt_self, Fp.ofInt_self] at h2
    generalize Fp.ofInt ((a.val : Int) - (x.val : Int) * (b.val : Int)) = y at *
    grind
  rw [← Fp.ofInt_val, h]

/-- A row from p on, before row t, that is not nought at column c; or there is none. -/
def Last (f : Nat → Nat → Fp.F) (p c t : Nat) (v : Int) : Prop := (v = -1 ∧ ∀ s, p ≤ s → s < t → f s c = 0) ∨ ∃ a : Nat, v = (a : Int) ∧ p ≤ a ∧ a < t ∧ f a c ≠ 0
theorem Last.start (f : Nat → Nat → Fp.F) (p c : Nat) : Last f p c p (-1) := .inl ⟨rfl, fun s h1 h2 => absurd h1 (by omega)⟩
theorem Last.zero {f : Nat → Nat → Fp.F} {p c t : Nat} {v : Int} (h : Last f p c t v) (h0 : f t c = 0) : Last f p c (t + 1) v := by
  rcases h with ⟨h1, h2⟩ | ⟨a, h1, h2, h3, h4⟩
  · exact .inl ⟨h1, fun s hs1 hs2 => by
      by_cases e : s = t
      · rw [e]; exact h0
      · exact h2 s hs1 (by omega)⟩
  · exact .inr ⟨a, h1, h2, by omega, h4⟩
theorem Last.hit {f : Nat → Nat → Fp.F} {p c t : Nat} (hp : p ≤ t) (h0 : f t c ≠ 0) : Last f p c (t + 1) (t : Int) := .inr ⟨t, rfl, hp, Nat.lt_succ_self t, h0⟩

/-- The matrix in steps and the columns in which they begin, as the document's answer has them. -/
def MadeSteps (r c k : Nat) (f : Nat → Nat → Fp.F) (w : World) (e : Ending) (w' : World) : Prop :=
  ∃ b g A d A' d', Stair r c k f b g ∧ e = .returned (.tuple #[.slice A r d, .slice A' b.length d']) ∧ LiesM w' A (Mx.matl r c g) ∧ Lies w' A' (cols b) ∧ Kp w w'

end Go.Proofs.YtdkdpklohfdpmaaDoor
