/- Contract of package mat's Add. -/
import Derived.Test.YtpffekaldpllkaaMtTurn
import Derived.BigQuiet
namespace Go.Proofs.Ytpffekaldpllkaa
open Go.ChangeShapes Go.WideShapes Go.ChangeAt Go.RowKit Go.Shelf
set_option linter.unusedVariables false
attribute [local go_sem] Oper.semAt_some

theorem fval (a : Fp.F) : 0 ≤ (a.val : Int) ∧ (a.val : Int) ≤ 9972 := by have := a.isLt; omega
theorem sum_mod (a b : Fp.F) : ((a.val : Int) + (b.val : Int)).tmod 9973 = ((a + b).val : Int) := by
  rw [Int.tmod_eq_emod_of_nonneg (by have := fval a; have := fval b; omega), Mx.val_plus]


end Go.Proofs.Ytpffekaldpllkaa
