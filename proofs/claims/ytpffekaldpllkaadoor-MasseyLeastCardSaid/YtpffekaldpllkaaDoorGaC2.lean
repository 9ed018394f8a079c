/- Contracts of package gauss, second part: clean. -/
import Derived.Test.YtpffekaldpllkaaDoorGaC1
import Derived.Test.YtpffekaldpllkaaDoorFld
import Derived.StillTailTactics
namespace Go.Proofs.YtpffekaldpllkaaDoor
open Go.ChangeShapes Go.WideShapes Go.ChangeAt Go.RowKit
set_option linter.unusedVariables false

end Go.Proofs.YtpffekaldpllkaaDoor
