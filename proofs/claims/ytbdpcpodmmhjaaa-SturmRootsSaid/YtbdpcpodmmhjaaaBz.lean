/- Contracts of package euclid: Gcd and Bezout within and outside of their bounds. -/
import Derived.Test.YtbdpcpodmmhjaaaSmall
namespace Go.Proofs.Ytbdpcpodmmhjaaa
open Go.ChangeShapes Go.WideShapes Go.ChangeAt Go.RowKit
set_option linter.unusedVariables false

/-- The error that the program gives for a number out of its range. -/
abbrev errRange : Value := .iface 39 (.int .i64 1)

end Go.Proofs.Ytbdpcpodmmhjaaa
