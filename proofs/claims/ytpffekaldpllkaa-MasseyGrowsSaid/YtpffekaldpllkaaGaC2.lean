/- Contracts of package gauss, second part: clean. -/
import Derived.Test.YtpffekaldpllkaaGaC1
import Derived.Test.YtpffekaldpllkaaFld
import Derived.StillTailTactics
namespace Go.Proofs.Ytpffekaldpllkaa
open Go.ChangeShapes Go.WideShapes Go.ChangeAt Go.RowKit
set_option linter.unusedVariables false

end Go.Proofs.Ytpffekaldpllkaa
