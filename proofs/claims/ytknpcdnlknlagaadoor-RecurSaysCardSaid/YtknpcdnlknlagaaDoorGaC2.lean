/- Contracts of package gauss, second part: clean. -/
import Derived.Test.YtknpcdnlknlagaaDoorGaC1
import Derived.Test.YtknpcdnlknlagaaDoorFld
import Derived.StillTailTactics
namespace Go.Proofs.YtknpcdnlknlagaaDoor
open Go.ChangeShapes Go.WideShapes Go.ChangeAt Go.RowKit
set_option linter.unusedVariables false

end Go.Proofs.YtknpcdnlknlagaaDoor
