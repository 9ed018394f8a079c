/- Contracts of package euclid: Gcd and Bezout within and outside of their bounds. -/
import Derived.Test.YtlemhkceilkfhaaSmall
namespace Go.Proofs.Ytlemhkceilkfhaa
open Go.ChangeShapes Go.WideShapes Go.ChangeAt Go.RowKit
set_option linter.unusedVariables false

/-- The error that the program gives for a number out of its range. -/
abbrev errRange : Value := .iface 46 (.int .i64 1)

end Go.Proofs.Ytlemhkceilkfhaa
