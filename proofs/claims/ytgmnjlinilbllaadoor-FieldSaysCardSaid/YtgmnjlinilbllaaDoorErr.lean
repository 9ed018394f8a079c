/- Contracts of plain.Told and rankmeresame.Error: of nil and of an Errno. The one premise: the variable errors.errorType holds its type. -/
import Derived.Test.YtgmnjlinilbllaaDoorTold
import Derived.ProofKit
import Derived.OpenShut
import Derived.Lib.Hide
namespace Go.Proofs.YtgmnjlinilbllaaDoor
open Go.RowKit Go.Proofs.YtgmnjlinilbllaaDoor.Told
set_option linter.unusedVariables false

theorem grown_trans {W w1 w2 : World} (h : Grown W w1) (h' : Grown w1 w2) : Grown W w2 :=
  ⟨World.keptBut_trans h.1 h'.1, fun a => (h'.2.1 a).trans (h.2.1 a), Nat.le_trans h.2.2 h'.2.2⟩

theorem laid_grown {w w' : World} (h : Laid w) (hg : Grown w w') : Laid w' := by
  have e := World.keptBut.cell hg.1 (laid_lt h) (off := 0) (fun f => f)
  exact e.trans h

theorem told_nil (w : World) :
    Calls Tryd.prog 17 #[.nilIface] w fun e w' => e = .returned (.int .i64 0) ∧ w = w' := by
  go_enter Tryd.func17, Tryd.ntmps17
  go_wp2
  go_ret
  exact ⟨rfl, rfl⟩

set_option maxHeartbeats 4000000 in
theorem told_hit (n : Int) (w : World) (hg : Laid w) :
    Calls Tryd.prog 17 #[.iface 32 (.int .i64 n)] w fun e w' => e = .returned (.int .i64 n) ∧ Grown w w' := by
  have hgA := Lib.hid (laid_grown hg ((Grown.refl w).alloc #[.int .i64 0] 32))
  clear hg
  go_enter Tryd.func17, Tryd.ntmps17
  go_wp2_with (go_at_call 20; refine (as_hit n _ (.int .i64 0) _ hgA.out (by simp) (by simp)).mono ?_; rintro e w' ⟨rfl, rfl⟩)
  go_ret
  exact ⟨rfl, by go_grown⟩

/-- rankmeresame.Error on no error. -/
theorem error_nil (c : Int) (w : World) (b : Bool) (hb : ((0 : Int) == c) = b) :
    Calls Tryd.prog 8 #[.nilIface, .int .i64 c] w fun e w' => e = .returned (.bool b) ∧ Grown w w' := by
  have H := Lib.hid hb
  clear hb
  go_enter Tryd.func8, Tryd.ntmps8
  go_wp2_with (go_at_call 17; refine (told_nil _).mono ?_; rintro e w' ⟨rfl, rfl⟩)
  go_ret
  exact ⟨congrArg (fun b => Ending.returned (.bool b)) H.out, Grown.refl _⟩

/-- rankmeresame.Error on an Errno. -/
theorem error_hit (n c : Int) (w : World) (hg : Laid w) (hn : 0 ≤ n ∧ n ≤ 100) (b : Bool) (hb : (n == c) = b) :
    Calls Tryd.prog 8 #[.iface 32 (.int .i64 n), .int .i64 c] w fun e w' => e = .returned (.bool b) ∧ Grown w w' := by
  have H := Lib.hid hb
  have HG := Lib.hid hg
  clear hb hg
  go_enter Tryd.func8, Tryd.ntmps8
  go_wp2_with (go_at_call 17; refine (told_hit _ _ HG.out).mono ?_; rintro e w' ⟨rfl, hw⟩)
  go_ret
  exact ⟨congrArg (fun b => Ending.returned (.bool b)) H.out, hw⟩

end Go.Proofs.YtgmnjlinilbllaaDoor
