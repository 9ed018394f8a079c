/- Contracts of plain.Told and rankmeresame.Error: of nil and of an Errno; nothing that was there turns. The one premise: the variable errors.errorType holds its type. -/
import Derived.Test.YtolkdbijenbchaaDoorTold
import Derived.Test.YtolkdbijenbchaaDoorMem
import Derived.ProofKit
import Derived.OpenShut
import Derived.Lib.Hide
namespace Go.Proofs.YtolkdbijenbchaaDoor
open Go.RowKit Go.Proofs.YtolkdbijenbchaaDoor.Told
set_option linter.unusedVariables false

theorem laid_kp {w w' : World} (h : Laid w) (hg : Kp w w') : Laid w' :=
  (hg.cell (p := ⟨0, 0, none⟩) (laid_lt h)).trans h

theorem toldK_nil (w : World) :
    Calls Tryd.prog 15 #[.nilIface] w fun e w' => e = .returned (.int .i64 0) ∧ w = w' := by
  go_enter Tryd.func15, Tryd.ntmps15
  go_wp2
  go_ret
  exact ⟨rfl, rfl⟩

set_option maxHeartbeats 4000000 in
theorem toldK_hit (n : Int) (w : World) (hg : Laid w) :
    Calls Tryd.prog 15 #[.iface 37 (.int .i64 n)] w fun e w' => e = .returned (.int .i64 n) ∧ Kp w w' := by
  have hgA := Lib.hid (laid_kp hg ((Kp.rfl' w).new (.cells #[.int .i64 0] 37)))
  clear hg
  go_enter Tryd.func15, Tryd.ntmps15
  go_wp2_with (go_at_call 19; refine (as_hit n _ (.int .i64 0) _ hgA.out (by simp) (by simp)).mono ?_; rintro e w' ⟨rfl, rfl⟩)
  go_ret
  exact ⟨rfl, ((((((Kp.rfl' w).new _).new _).new _).new _).new _)⟩

/-- rankmeresame.Error on no error. -/
theorem errorK_nil (c : Int) (w : World) (b : Bool) (hb : ((0 : Int) == c) = b) :
    Calls Tryd.prog 6 #[.nilIface, .int .i64 c] w fun e w' => e = .returned (.bool b) ∧ Kp w w' := by
  have H := Lib.hid hb
  clear hb
  go_enter Tryd.func6, Tryd.ntmps6
  go_wp2_with (go_at_call 15; refine (toldK_nil _).mono ?_; rintro e w' ⟨rfl, rfl⟩)
  go_ret
  exact ⟨congrArg (fun b => Ending.returned (.bool b)) H.out, Kp.rfl' _⟩

/-- rankmeresame.Error on an Errno. -/
theorem errorK_hit (n c : Int) (w : World) (hg : Laid w) (hn : 0 ≤ n ∧ n ≤ 100) (b : Bool) (hb : (n == c) = b) :
    Calls Tryd.prog 6 #[.iface 37 (.int .i64 n), .int .i64 c] w fun e w' => e = .returned (.bool b) ∧ Kp w w' := by
  have H := Lib.hid hb
  have HG := Lib.hid hg
  clear hb hg
  go_enter Tryd.func6, Tryd.ntmps6
  go_wp2_with (go_at_call 15; refine (toldK_hit _ _ HG.out).mono ?_; rintro e w' ⟨rfl, hw⟩)
  go_ret
  exact ⟨congrArg (fun b => Ending.returned (.bool b)) H.out, hw⟩

end Go.Proofs.YtolkdbijenbchaaDoor
