/- Contracts of package gauss, second part: clean. -/
import Derived.Test.YtbmkkcpdlakgbaaDoorGaC1
import Derived.Test.YtbmkkcpdlakgbaaDoorFld
import Derived.StillTailTactics
namespace Go.Proofs.YtbmkkcpdlakgbaaDoor
open Go.ChangeShapes Go.WideShapes Go.ChangeAt Go.RowKit
set_option linter.unusedVariables false

end Go.Proofs.YtbmkkcpdlakgbaaDoor
