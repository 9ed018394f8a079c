/- Contracts of the document's answer: greatest common divisors of numbers of any size, what divides all numbers of a row. For all packages. -/
import Derived.Test.YtlnehhhlpdaebaaDoorNum
import Derived.Test.YtlnehhhlpdaebaaDoorGrid
import Derived.Test.YtlnehhhlpdaebaaDoorMatSm
import Derived.Test.YtlnehhhlpdaebaaDoorMatH
namespace Go.Proofs.YtlnehhhlpdaebaaDoor
open Go.ChangeShapes Go.WideShapes Go.ChangeAt Go.RowKit
set_option linter.unusedVariables false

theorem absN_any (n : Int) (w : World) (h1 : -4000000000000000000 ≤ n) (h2 : n ≤ 4000000000000000000) :
    Calls Tryd.prog 8 #[.int .i64 n] w fun e w' => e = .returned (.int .i64 (n.natAbs : Int)) ∧ w = w' := by
  by_cases h : n < 0
  · rw [show (n.natAbs : Int) = -n by omega]
    have hw : IntKind.i64.wrap (-n) = -n := IntWalk.i64_in _ (by omega)
    go_enter Tryd.func8, Tryd.ntmps8
    go_wp2
    go_ret
    exact ⟨rfl, rfl⟩
  · rw [show (n.natAbs : Int) = n by omega]
    go_enter Tryd.func8, Tryd.ntmps8
    go_wp2
    go_ret
    exact ⟨rfl, rfl⟩
end Go.Proofs.YtlnehhhlpdaebaaDoor
