/- Contracts of package gauss, third part: Steps, Rank. -/
import Derived.Test.YtpffekaldpllkaaDoorGaC2
import Derived.Test.YtpffekaldpllkaaDoorMtC1
namespace Go.Proofs.YtpffekaldpllkaaDoor
open Go.ChangeShapes Go.WideShapes Go.ChangeAt Go.RowKit
set_option linter.unusedVariables false

/-- The matrix in steps, and the columns of its pivots. -/
def GotSteps (r c : Nat) (f : Nat → Nat → Fp.F) (w : World) (e : Ending) (w' : World) : Prop :=
  ∃ b g A d A' d', Stair r c c f b g ∧ e = .returned (.tuple #[.slice A r d, .slice A' b.length d', .nilIface]) ∧ LiesM w' A (Mx.matl r c g) ∧ Lies w' A' (cols b) ∧ Kp w w'
/-- No matrix, no columns, an error. -/
def FailsSteps (c : Nat) (w : World) (e : Ending) (w' : World) : Prop := e = .returned (.tuple #[.slice none 0 0, .slice none 0 0, errOf c]) ∧ Kp w w'


end Go.Proofs.YtpffekaldpllkaaDoor
