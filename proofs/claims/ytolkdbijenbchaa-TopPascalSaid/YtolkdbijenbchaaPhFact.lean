/- The closed fact of the laws on paths. -/
import Derived.Test.YtolkdbijenbchaaPhC5
import Derived.Test.YtolkdbijenbchaaLawIn
namespace Go.Proofs.Ytolkdbijenbchaa
open Go.ChangeShapes Go.WideShapes Go.ChangeAt Go.RowKit
set_option linter.unusedVariables false

theorem PWay_err (r u : Int) (w : World) (h : stcd r u = 1) :
    Calls Try.prog 8 #[.int .i64 r, .int .i64 u] w fun e w' => e = .returned (.tuple #[.int .i64 0, .iface 40 (.int .i64 1)]) ∧ w = w' := PWay_no r u w h
theorem ph_fact : Ph 1 [0, 1] [1, 2] [0, 1] [1, 2] := ⟨by decide, rfl, rfl, by decide, by decide, rfl, ⟨by decide, by show 1 < 7; decide⟩, ⟨by decide, by show 2 < 7; decide⟩⟩
theorem ap_fact : Zx.ap 1 [0, 1] [1, 2] = 1 := by decide +kernel
theorem wy_fact : Zx.wy 2 2 = 6 := by decide +kernel
set_option maxRecDepth 100000 in
set_option maxHeartbeats 1600000 in
theorem pathsFact_any (w : World) : Calls Try.prog 6 #[] w fun e w' => e = .returned (.bool true) ∧ Kp w w' := by
  obtain ⟨W, hW⟩ : ∃ W, W = (w.alloc (.cells #[.int .i64 0, .int .i64 1] 3)).alloc (.cells #[.int .i64 1, .int .i64 2] 3) := ⟨_, rfl⟩
  have k1 : Kp w W := by rw [hW]; exact ((Kp.rfl' w).new _).new _
  have l1 : Lies W (some ⟨w.heap.size, 0, none⟩) [0, 1] := by rw [hW]; exact (lies_new' w _ [0, 1] _ rfl).keep ((Kp.rfl' _).new _)
  have l2 : Lies W (some ⟨w.heap.size + 1, 0, none⟩) [1, 2] := by rw [hW]; exact lies_new' (w.alloc _) _ [1, 2] _ (by simp)
  have F1 := Lib.hid (Apart_ok 1 [0, 1] [1, 2] [0, 1] [1, 2] ph_fact (some ⟨w.heap.size, 0, none⟩) (some ⟨w.heap.size + 1, 0, none⟩) 2 2 2 2 W l1 l2 rfl rfl)
  rw [ap_fact] at F1
  have F2 := Lib.hid (fun w => PWay_ok 2 2 w (by decide) (by decide))
  rw [wy_fact] at F2
  rw [hW] at F1
  have K1 := Lib.hid k1
  rw [hW] at K1
  clear l1 l2 k1 hW
  go_enter Try.func6, Try.ntmps6
  go_wp2_with fail
  refine (F1.out).mono ?_; rintro e w1 ⟨rfl, k1⟩
  have K2 := Lib.hid (K1.out.trans k1)
  clear k1
  go_wp2_with fail
  refine (F2.out w1).mono ?_; rintro e w2 ⟨rfl, k2⟩
  have K3 := Lib.hid (K2.out.trans k2)
  clear k2
  go_wp2_with fail
  go_ret
  exact ⟨rfl, K3.out⟩

end Go.Proofs.Ytolkdbijenbchaa
