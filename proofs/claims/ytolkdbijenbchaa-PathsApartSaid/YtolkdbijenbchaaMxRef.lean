/- Contracts of the document's answer on matrices (package rankmereref1: Mod, Unit, Flip, Copy, MatMul, MatAdd, Matrix, Field). For all packages. -/
import Derived.Test.YtolkdbijenbchaaOwnM
import Derived.StillTailTactics
import Derived.BigQuiet
namespace Go.Proofs.Ytolkdbijenbchaa
open Go.ChangeShapes Go.WideShapes Go.ChangeAt Go.RowKit
set_option linter.unusedVariables false

theorem own_made {w : World} {base g n : Nat} (h : w.ownsRow base 3 1 (.slice (some ⟨g, 0, none⟩) n n) n (madeCells #[.int .i64 0] (n * 1)).toList) : Own w base (.slice (some ⟨g, 0, none⟩) n n) (Mx.row n fun _ => 0) := by
  unfold Own
  rw [Mx.len_row, ← Mx.row_rep]
  rw [toList_madeCells_one, Nat.mul_one] at h
  simpa [ints] using h
theorem rval (a : Fp.F) : 0 ≤ (a.val : Int) ∧ (a.val : Int) ≤ 9972 := by have := a.isLt; omega
theorem rprod (a b : Fp.F) : 0 ≤ (a.val : Int) * (b.val : Int) ∧ (a.val : Int) * (b.val : Int) ≤ 99440784 := by
  have h1 := rval a
  have h2 := rval b
  exact ⟨Int.mul_nonneg h1.1 h2.1, Int.mul_le_mul h1.2 h2.2 h2.1 (by decide)⟩
theorem rzero : ((0 : Fp.F).val : Int) = 0 := rfl


/-- A matrix that the call made. -/
def Made (r c : Nat) (f : Nat → Nat → Fp.F) (w : World) (e : Ending) (w' : World) : Prop := ∃ A d, e = .returned (.slice A r d) ∧ LiesM w' A (Mx.matl r c f) ∧ Kp w w'
/-- The same, to be written to. -/
def MadeOwn (r c : Nat) (f : Nat → Nat → Fp.F) (w : World) (e : Ending) (w' : World) : Prop := ∃ v G C, e = .returned v ∧ OwnM w' w.heap.size v G C (Mx.matl r c f) ∧ Kp w w'



end Go.Proofs.Ytolkdbijenbchaa
