/- Contracts of package mat, first part: zero, identity, checkRow, Check, checkBoth. -/
import Derived.Test.YtpffekaldpllkaaDoorGrid
import Derived.StillTailTactics
namespace Go.Proofs.YtpffekaldpllkaaDoor
open Go.ChangeShapes Go.WideShapes Go.ChangeAt Go.RowKit
set_option linter.unusedVariables false



/-- The first k rows have no fault. -/
def rowsGo (lo hi : Int) (m : List (List Int)) (k : Nat) : Prop := Mx.rows lo hi (m.getD 0 []).length m = Mx.rows lo hi (m.getD 0 []).length (m.drop k)
theorem rows_go {lo hi : Int} {m : List (List Int)} {k : Nat} (hk : k < m.length) (h : rowsGo lo hi m k) (h0 : Mx.rcode lo hi (m.getD 0 []).length (m.getD k []) = 0) : rowsGo lo hi m (k + 1) := by
  unfold rowsGo at *
  rw [h, Mx.rows_drop hk, if_pos h0]

/-- What is wrong with two matrices: the first one's fault, else the second one's. -/
def mcode2 (a b : List (List Int)) : Nat := if Mx.mcode 5 0 9972 a = 0 then Mx.mcode 5 0 9972 b else Mx.mcode 5 0 9972 a
theorem mcode2_zero {a b : List (List Int)} (h : mcode2 a b = 0) : Mx.mcode 5 0 9972 a = 0 ∧ Mx.mcode 5 0 9972 b = 0 := by
  unfold mcode2 at h
  by_cases h0 : Mx.mcode 5 0 9972 a = 0
  · rw [if_pos h0] at h; exact ⟨h0, h⟩
  · rw [if_neg h0] at h; exact absurd h h0

end Go.Proofs.YtpffekaldpllkaaDoor
