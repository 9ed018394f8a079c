/- The closed fact of package poly, outright. -/
import Derived.Test.YtakhnacfnobldaaPolLaw
namespace Go.Proofs.Ytakhnacfnobldaa
open Go.ChangeShapes Go.WideShapes Go.ChangeAt Go.RowKit
set_option linter.unusedVariables false

set_option maxRecDepth 100000 in
set_option maxHeartbeats 1600000 in
theorem fact_any (w : World) :
    Calls Try.prog 8 #[] w fun e w' => e = .returned (.bool true) ∧ Kp w w' := by
  go_enter Try.func8, Try.ntmps8
  go_wp2_with fail
  refine (mul_ok (some ⟨w.heap.size, 0, none⟩) (some ⟨w.heap.size + 1, 0, none⟩) [1, 1] [9972, 1] 2 2 _ ?_ ?_ (by decide) (by decide)).mono ?_
  · exact (lies_new w _ [1, 1]).keep ((Kp.rfl' _).new _)
  · exact lies_new' (w.alloc _) _ [9972, 1] _ (by simp)
  rw [fact_mul]
  rintro e w1 ⟨A1, c1, rfl, l1, lc1, hk1⟩
  have HK := Lib.hid ((((Kp.rfl' w).new _).new _).trans hk1)
  have L1 := Lib.hid l1
  clear hk1 l1
  go_wp2_with fail
  refine (div_ok (some ⟨w1.heap.size, 0, none⟩) (some ⟨w1.heap.size + 1, 0, none⟩) [5, 0, 1] [1, 1] 3 2 _ ?_ ?_ (by decide) (by decide) (by decide) (by decide) (by decide +kernel)).mono ?_
  · exact (lies_new w1 _ [5, 0, 1]).keep ((Kp.rfl' _).new _)
  · exact lies_new' (w1.alloc _) _ [1, 1] _ (by simp)
  rintro e w2 ⟨q, r, dv, A2, c2, A3, c3, rfl, l2, lc2, l3, lc3, hk2⟩
  obtain ⟨rfl, rfl⟩ := fact_div q r dv
  have HK1 := Lib.hid ((((Kp.rfl' w1).new _).new _).trans hk2)
  have L2 := Lib.hid l2
  have L3 := Lib.hid l3
  clear dv hk2 l2 l3
  go_wp2_with fail
  refine (ints_eq' A1 _ [9972, 0, 1] [9972, 0, 1] 3 3 c1 3 _ (L1.out.keep (HK1.out.trans ((Kp.rfl' w2).new _))) (lies_new w2 _ [9972, 0, 1]) rfl rfl (by decide) rfl).mono ?_
  rintro e w3 ⟨rfl, hk3⟩
  have HK2 := Lib.hid (show Kp w2 w3 from ((Kp.rfl' w2).new _).trans hk3)
  clear hk3
  go_wp2_with fail
  refine (ints_eq' A2 _ [9972, 1] [9972, 1] 2 2 c2 2 _ (L2.out.keep (HK2.out.trans ((Kp.rfl' w3).new _))) (lies_new w3 _ [9972, 1]) rfl rfl (by decide) rfl).mono ?_
  rintro e w4 ⟨rfl, hk4⟩
  have HK3 := Lib.hid (show Kp w3 w4 from ((Kp.rfl' w3).new _).trans hk4)
  clear hk4
  go_wp2_with fail
  refine (ints_eq' A3 _ [6] [6] 1 1 c3 1 _ (L3.out.keep ((HK2.out.trans HK3.out).trans ((Kp.rfl' w4).new _))) (lies_new w4 _ [6]) rfl rfl (by decide) rfl).mono ?_
  rintro e w5 ⟨rfl, hk5⟩
  have HK4 := Lib.hid (show Kp w4 w5 from ((Kp.rfl' w4).new _).trans hk5)
  clear hk5
  go_wp2_with fail
  go_ret
  exact ⟨rfl, (((HK.out.trans HK1.out).trans HK2.out).trans HK3.out).trans HK4.out⟩

end Go.Proofs.Ytakhnacfnobldaa
