/- Contracts of package gauss, second part: clean. -/
import Derived.Test.YtmkjfoecofeioaaGaC1
import Derived.Test.YtmkjfoecofeioaaFld
import Derived.StillTailTactics
namespace Go.Proofs.Ytmkjfoecofeioaa
open Go.ChangeShapes Go.WideShapes Go.ChangeAt Go.RowKit
set_option linter.unusedVariables false

end Go.Proofs.Ytmkjfoecofeioaa
