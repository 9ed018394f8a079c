/- slices.Equal of rows of numbers and slices.EqualFunc of matrices with it. For all packages. -/
import Derived.Test.YtlnehhhlpdaebaaRowsG
namespace Go.Proofs.Ytlnehhhlpdaebaa
open Go.ChangeShapes Go.WideShapes Go.ChangeAt Go.RowKit
set_option linter.unusedVariables false


end Go.Proofs.Ytlnehhhlpdaebaa
