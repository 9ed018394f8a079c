/- Contracts of package poly, fourth part: monic, Div, Gcd, At. -/
import Derived.Test.YteaonlmiifpjfaaDoorPolC3
namespace Go.Proofs.YteaonlmiifpjfaaDoor
open Go.ChangeShapes Go.WideShapes Go.ChangeAt Go.RowKit
set_option linter.unusedVariables false

theorem Lies.trim {w : World} {A : Option Addr} {p : List Fp.F} (h : Lies w A (Pol.vals p)) : Lies w A (Pol.vals (Pol.trim p)) := by
  rw [Pol.trim_take, Pol.vals_take]; exact h.take _

/-- The last one alone. -/
theorem lies_last {w : World} {ad : Addr} {p : List Fp.F} {k : Nat} (hk : p.length = k + 1) (h : Lies w (some ad) (Pol.vals p)) : Lies w (some (ad.add k)) (Pol.vals [Pol.top p]) := fun j hj => by
  have hj0 : j = 0 := by simp [Pol.vals] at hj; exact hj
  subst hj0
  obtain ⟨ad', e, h1, h2⟩ := h k (by rw [Pol.len_vals]; omega)
  injection e with e
  subst e
  refine ⟨_, rfl, by rw [block_add]; exact h1, ?_⟩
  rw [add_add, Nat.add_zero, h2, Pol.vals_at, Pol.vals_at, Pol.co_zero, Pol.top, hk]
  rfl

/-- The answer is an error, and no rows. -/
def Fails2 (c : Nat) (w : World) (e : Ending) (w' : World) : Prop := e = .returned (.tuple #[.slice none 0 0, .slice none 0 0, errOf c]) ∧ Kp w w'

/-- What is wrong with a row and a place. -/
def atCode (l : List Int) (x : Int) : Nat := if Pol.code l = 0 then (if 0 ≤ x ∧ x ≤ 9972 then 0 else 1) else Pol.code l

end Go.Proofs.YteaonlmiifpjfaaDoor
