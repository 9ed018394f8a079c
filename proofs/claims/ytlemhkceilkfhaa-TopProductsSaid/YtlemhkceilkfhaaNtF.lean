/- The closed fact of package ntt. -/
import Derived.Test.YtlemhkceilkfhaaNtC5
namespace Go.Proofs.Ytlemhkceilkfhaa
open Go.ChangeShapes Go.WideShapes Go.ChangeAt Go.RowKit
set_option linter.unusedVariables false

theorem lies_at {w : World} {g : Nat} {l : List Int} (h : Lies w (some ⟨g, 0, none⟩) l) (k : Nat) (hk : k < l.length) : w.cell? ⟨g, k, none⟩ = some (.int .i64 (l.getD k 0)) := by
  obtain ⟨ad, e, _, hc⟩ := h k hk
  injection e with e
  rw [← hc, ← e, add_at]

def fxA (i : Nat) : Nt.G := if i < 2 then 1 else 0
def fxB (i : Nat) : Nt.G := if i = 0 then 8 else 0
theorem fxA_nt : Nt.nt fxA = [1, 1, 0, 0, 0, 0, 0, 0] := by decide
theorem fxB_nt : Nt.nt fxB = [8, 0, 0, 0, 0, 0, 0, 0] := by decide
theorem fxA_tr : Nt.nt (Nt.tr 64 fxA) = [2, 65, 242, 5, 0, 194, 17, 254] := by decide +kernel
theorem fxB_bk : Nt.nt (Nt.bk fxB) = [1, 1, 1, 1, 1, 1, 1, 1] := by decide +kernel

set_option maxRecDepth 100000 in
set_option maxHeartbeats 1600000 in
theorem nFact_any (w : World) :
    Calls Try.prog 7 #[] w fun e w' => e = .returned (.bool true) ∧ Kp w w' := by
  have TH := Lib.hid (fun (wx : World) (A : Option Addr) (h : Lies wx A [1, 1, 0, 0, 0, 0, 0, 0]) => there_ok A fxA 8 wx (by rw [fxA_nt]; exact h))
  have BK := Lib.hid (fun (wx : World) (A : Option Addr) (h : Lies wx A [8, 0, 0, 0, 0, 0, 0, 0]) => nback_ok A fxB 8 wx (by rw [fxB_nt]; exact h))
  unfold NGives at TH BK
  rw [fxA_tr] at TH
  rw [fxB_bk] at BK
  go_enter Try.func7, Try.ntmps7
  go_wp2_with fail
  refine (TH.out _ _ (lies_new w _ [1, 1, 0, 0, 0, 0, 0, 0])).mono ?_
  rintro e w1 ⟨g1, rfl, l1, hk1⟩
  have L1 := Lib.hid l1
  have K1 := Lib.hid (((Kp.rfl' w).new _).trans hk1)
  clear l1 hk1
  go_wp2_with fail
  refine (BK.out _ _ (lies_new w1 _ [8, 0, 0, 0, 0, 0, 0, 0])).mono ?_
  rintro e w2 ⟨g2, rfl, l2, hk2⟩
  have L2 := Lib.hid l2
  have K2 := Lib.hid (((Kp.rfl' w1).new _).trans hk2)
  clear l2 hk2
  have c0 := lies_at (L1.out.keep K2.out) 0 (by decide)
  have c1 := lies_at (L1.out.keep K2.out) 1 (by decide)
  have c2 := lies_at (L1.out.keep K2.out) 2 (by decide)
  have c4 := lies_at (L1.out.keep K2.out) 4 (by decide)
  rw [show [2, 65, 242, 5, 0, 194, 17, 254].getD 0 0 = (2 : Int) from rfl] at c0
  rw [show [2, 65, 242, 5, 0, 194, 17, 254].getD 1 0 = (65 : Int) from rfl] at c1
  rw [show [2, 65, 242, 5, 0, 194, 17, 254].getD 2 0 = (242 : Int) from rfl] at c2
  rw [show [2, 65, 242, 5, 0, 194, 17, 254].getD 4 0 = (0 : Int) from rfl] at c4
  go_wp2_with fail
  refine (same_eq (some ⟨g2, 0, none⟩) _ [1, 1, 1, 1, 1, 1, 1, 1] [1, 1, 1, 1, 1, 1, 1, 1] 8 8 8 8 _ (L2.out.keep ((Kp.rfl' w2).new _)) (lies_new w2 _ [1, 1, 1, 1, 1, 1, 1, 1]) rfl rfl (by decide) rfl).mono ?_
  rintro e w3 ⟨rfl, hk3⟩
  have K3 := Lib.hid (show Kp w2 w3 from ((Kp.rfl' w2).new _).trans hk3)
  clear hk3
  go_wp2_with fail
  go_ret
  exact ⟨rfl, (K1.out.trans K2.out).trans K3.out⟩

end Go.Proofs.Ytlemhkceilkfhaa
