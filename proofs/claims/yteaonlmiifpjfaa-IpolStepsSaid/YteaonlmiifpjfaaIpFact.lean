/- The closed fact of package ipol, and the answers of Through and Steps whatever the points. -/
import Derived.Test.YteaonlmiifpjfaaIpC3
import Derived.Test.YteaonlmiifpjfaaSame
import Derived.StillTailTactics
namespace Go.Proofs.Yteaonlmiifpjfaa
open Go.ChangeShapes Go.WideShapes Go.ChangeAt Go.RowKit
set_option linter.unusedVariables false

/-- An operation's answer, whatever it is: with the error of its arguments. -/
def SomeEr (x : Nat) (w : World) (e : Ending) (w' : World) : Prop := ∃ v, e = .returned (.tuple #[v, errOf x]) ∧ Kp w w'
theorem through_some (A B : Option Addr) (l m : List Int) (c d : Nat) (w : World) (ha : Lies w A l) (hb : Lies w B m) (hc : l.length ≤ c) :
    Calls Try.prog 7 #[.slice A l.length c, .slice B m.length d] w fun e w' => SomeEr (dcode l m) w e w' := by
  by_cases h : dcode l m = 0
  · obtain ⟨p, q, rfl, rfl, h1, h2, h3⟩ := dcode_zero h
    rw [h, Pol.len_vals, Pol.len_vals, h2]
    rw [Pol.len_vals] at hc
    exact (through_ok A B p q p.length c d w ha hb rfl h2.symm h1 hc h3).mono fun e w' ⟨A', c', he, _, _, hk⟩ => ⟨_, he, hk⟩
  · exact (through_bad A B l m c d w ha hb hc h).mono fun e w' ⟨he, hk⟩ => ⟨_, he, hk⟩

theorem fx_apart : Pol.Apart (Pol.co [0, 1, 2]) 3 := fun i j h1 h2 => (by decide : ∀ j, j < 3 → ∀ i, i < j → Pol.co [0, 1, 2] i ≠ Pol.co [0, 1, 2] j) j h2 i h1
theorem fx_th0 : Pol.Th (Pol.co [0, 1, 2]) (Pol.co [1, 2, 5]) 1 [1] := ⟨by decide, by decide +kernel⟩
theorem fx_th1 : Pol.Th (Pol.co [0, 1, 2]) (Pol.co [1, 2, 5]) 2 [1, 1] := ⟨by decide, by decide +kernel⟩
theorem fx_th2 : Pol.Th (Pol.co [0, 1, 2]) (Pol.co [1, 2, 5]) 3 [1, 0, 1] := ⟨by decide, by decide +kernel⟩
theorem fx_thr : Pol.thr (Pol.co [0, 1, 2]) (Pol.co [1, 2, 5]) 3 = [1, 0, 1] := (Pol.thr_of (by decide) fx_apart fx_th2 (by unfold Pol.Tr; decide)).symm
theorem fx_steps : stepRow [0, 1, 2] [1, 2, 5] = [1, 1, 1] := by
  show [Pol.dd (Pol.co [0, 1, 2]) (Pol.co [1, 2, 5]) 0 0, Pol.dd (Pol.co [0, 1, 2]) (Pol.co [1, 2, 5]) 1 0, Pol.dd (Pol.co [0, 1, 2]) (Pol.co [1, 2, 5]) 2 0] = [1, 1, 1]
  rw [← Pol.dd_top (fx_apart.le (by decide)) fx_th0, ← Pol.dd_top (fx_apart.le (by decide)) fx_th1, ← Pol.dd_top fx_apart fx_th2]
  rfl

set_option maxRecDepth 100000 in
set_option maxHeartbeats 1600000 in
theorem ipFact_any (w : World) :
    Calls Try.prog 6 #[] w fun e w' => e = .returned (.bool true) ∧ Kp w w' := by
  go_enter Try.func6, Try.ntmps6
  go_wp2_with fail
  refine (through_ok (some ⟨w.heap.size, 0, none⟩) (some ⟨w.heap.size + 1, 0, none⟩) [0, 1, 2] [1, 2, 5] 3 3 3 _ ?_ ?_ rfl rfl (by decide) (by decide) fx_apart).mono ?_
  · exact (lies_new w _ [0, 1, 2]).keep ((Kp.rfl' _).new _)
  · exact lies_new' (w.alloc _) _ [1, 2, 5] _ (by simp)
  rw [fx_thr]
  rintro e w1 ⟨A1, c1, rfl, l1, lc1, hk1⟩
  have HK := Lib.hid ((((Kp.rfl' w).new _).new _).trans hk1)
  have L1 := Lib.hid l1
  clear hk1 l1
  go_wp2_with fail
  refine (steps_ok (some ⟨w1.heap.size, 0, none⟩) (some ⟨w1.heap.size + 1, 0, none⟩) [0, 1, 2] [1, 2, 5] 3 3 3 _ ?_ ?_ rfl rfl (by decide) (by decide) fx_apart).mono ?_
  · exact (lies_new w1 _ [0, 1, 2]).keep ((Kp.rfl' _).new _)
  · exact lies_new' (w1.alloc _) _ [1, 2, 5] _ (by simp)
  rw [fx_steps]
  rintro e w2 ⟨A2, c2, rfl, l2, lc2, hk2⟩
  have HK1 := Lib.hid ((((Kp.rfl' w1).new _).new _).trans hk2)
  have L2 := Lib.hid l2
  clear hk2 l2
  go_wp2_with fail
  refine (ints_eq' A1 _ [1, 0, 1] [1, 0, 1] 3 3 c1 3 _ (L1.out.keep (HK1.out.trans ((Kp.rfl' w2).new _))) (lies_new w2 _ [1, 0, 1]) rfl rfl (by decide) rfl).mono ?_
  rintro e w3 ⟨rfl, hk3⟩
  have HK2 := Lib.hid (show Kp w2 w3 from ((Kp.rfl' w2).new _).trans hk3)
  clear hk3
  go_wp2_with fail
  refine (ints_eq' A2 _ [1, 1, 1] [1, 1, 1] 3 3 c2 3 _ (L2.out.keep (HK2.out.trans ((Kp.rfl' w3).new _))) (lies_new w3 _ [1, 1, 1]) rfl rfl (by decide) rfl).mono ?_
  rintro e w4 ⟨rfl, hk4⟩
  have HK3 := Lib.hid (show Kp w3 w4 from ((Kp.rfl' w3).new _).trans hk4)
  clear hk4
  go_wp2_with fail
  go_ret
  exact ⟨rfl, ((HK.out.trans HK1.out).trans HK2.out).trans HK3.out⟩

end Go.Proofs.Yteaonlmiifpjfaa
