/- The law DetMul. -/
import Derived.Test.YtmkjfoecofeioaaDeFact
import Derived.Test.YtmkjfoecofeioaaMtFact
import Derived.Test.YtmkjfoecofeioaaLawIn
import Derived.Test.YtmkjfoecofeioaaFldRef
namespace Go.Proofs.Ytmkjfoecofeioaa
open Go.ChangeShapes Go.WideShapes Go.ChangeAt Go.RowKit
set_option linter.unusedVariables false

theorem in_el (x : Fp.F) : (decide ((0 : Int) ≤ (x.val : Int)) && decide ((x.val : Int) ≤ 9972)) = true := by
  have := gval x
  simp; omega


end Go.Proofs.Ytmkjfoecofeioaa
