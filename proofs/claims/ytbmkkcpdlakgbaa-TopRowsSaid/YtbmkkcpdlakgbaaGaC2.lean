/- Contracts of package gauss, second part: clean. -/
import Derived.Test.YtbmkkcpdlakgbaaGaC1
import Derived.Test.YtbmkkcpdlakgbaaFld
import Derived.StillTailTactics
namespace Go.Proofs.Ytbmkkcpdlakgbaa
open Go.ChangeShapes Go.WideShapes Go.ChangeAt Go.RowKit
set_option linter.unusedVariables false

end Go.Proofs.Ytbmkkcpdlakgbaa
