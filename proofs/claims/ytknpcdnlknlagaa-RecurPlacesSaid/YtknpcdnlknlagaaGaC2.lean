/- Contracts of package gauss, second part: clean. -/
import Derived.Test.YtknpcdnlknlagaaGaC1
import Derived.Test.YtknpcdnlknlagaaFld
import Derived.StillTailTactics
namespace Go.Proofs.Ytknpcdnlknlagaa
open Go.ChangeShapes Go.WideShapes Go.ChangeAt Go.RowKit
set_option linter.unusedVariables false

end Go.Proofs.Ytknpcdnlknlagaa
