/- Contracts of package solve, third part: satisfy. -/
import Derived.Test.YtfjajcfcbjmbpaaSoC2
namespace Go.Proofs.Ytfjajcfcbjmbpaa
open Go.ChangeShapes Go.WideShapes Go.ChangeAt Go.RowKit
set_option linter.unusedVariables false

/-- One more row is met; or there is no answer at all. -/
def Stepped (B0 B gx cx r c i : Nat) (f : Nat → Nat → Fp.F) (to : Nat → Fp.F) (b : List Nat) (w : World) (e : Ending) (w' : World) : Prop :=
  (∃ A n d G C x W, e = .returned (.tuple #[.slice A n d, .nilIface]) ∧ OwnM w' B (.slice A n d) G C (Mx.matl n c W) ∧ Own w' B0 (.slice (some ⟨gx, 0, none⟩) c cx) (rowF c x) ∧
    Mx.Srch c f to b (i + 1) x (Mx.wl n W) ∧ n ≤ 1000 ∧ Below B0 w w') ∨
  (e = .returned (.tuple #[.slice none 0 0, .iface 50 (.int .i64 5)]) ∧ Mx.NoAns r c f to ∧ Below B0 w w')

end Go.Proofs.Ytfjajcfcbjmbpaa
