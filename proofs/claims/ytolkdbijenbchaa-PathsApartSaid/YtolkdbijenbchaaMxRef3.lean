/- Contracts of the document's answer on matrices, third part: All, Matrix, Field. For all packages. -/
import Derived.Test.YtolkdbijenbchaaMxRef2
namespace Go.Proofs.Ytolkdbijenbchaa
open Go.ChangeShapes Go.WideShapes Go.ChangeAt Go.RowKit
set_option linter.unusedVariables false

/-- The first k rows have no fault. -/
def rowsUp (lo hi : Int) (m : List (List Int)) (k : Nat) : Prop := Mx.rows lo hi (m.getD 0 []).length m = Mx.rows lo hi (m.getD 0 []).length (m.drop k)
theorem rowsUp_go {lo hi : Int} {m : List (List Int)} {k : Nat} (hk : k < m.length) (h : rowsUp lo hi m k) (h0 : Mx.rcode lo hi (m.getD 0 []).length (m.getD k []) = 0) : rowsUp lo hi m (k + 1) := by
  unfold rowsUp at *
  rw [h, Mx.rows_drop hk, if_pos h0]



end Go.Proofs.Ytolkdbijenbchaa
