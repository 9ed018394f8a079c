/- The law MasseyGrows. -/
import Derived.Test.YtpffekaldpllkaaMsFact
import Derived.Test.YtpffekaldpllkaaLawIn
import Derived.Deep.RegionLaw
namespace Go.Proofs.Ytpffekaldpllkaa
open Go.ChangeShapes Go.WideShapes Go.ChangeAt Go.RowKit
set_option linter.unusedVariables false

theorem few_congr {N l : Nat} {x y : Nat → Fp.F} (h : Mx.Few N l x) (e : ∀ i, i < N → x i = y i) : Mx.Few N l y :=
  ⟨by obtain ⟨c, hc⟩ := h.1; exact ⟨c, hc.congr e⟩, fun m hm ⟨c, hc⟩ => h.2 m hm ⟨c, hc.congr fun i hi => (e i hi).symm⟩⟩
/-- A row with one number more. -/
theorem sr_more {N M : Nat} {x y : Nat → Fp.F} {L : List Int} {z : Int} (h : Sr N x L) (k : Sr M y (L ++ [z])) : M = N + 1 ∧ ∀ i, i < N → x i = y i := by
  have e1 := k.len
  have e2 := h.len
  have hM : M = N + 1 := by rw [← e1, List.length_append, e2]; rfl
  refine ⟨hM, fun i hi => ?_⟩
  have h1 := h.row
  have h2 := k.row
  rw [h1] at h2
  have h3 : (rowF N x ++ [z]).getD i 0 = (rowF M y).getD i 0 := by rw [h2]
  unfold rowF at h3
  rw [Mx.row_at _ _ _ (by omega)] at h3
  rw [List.getD_eq_getElem?_getD, List.getElem?_append_left (by rw [Mx.len_row]; exact hi), ← List.getD_eq_getElem?_getD, Mx.row_at _ _ _ hi] at h3
  exact Fp.val_inj h3
theorem sr_not {N : Nat} {x : Nat → Fp.F} {L : List Int} {z : Int} (h : Sr N x L) (k : scd (L ++ [z]) ≠ 0) : N = 16 ∨ ¬ (0 ≤ z ∧ z ≤ 9972) := by
  by_cases h1 : N = 16
  · exact .inl h1
  · refine .inr fun hz => k ?_
    have hl := h.le
    have hn := h.len
    refine scd_ok (by rw [List.length_append, hn]; simp; omega) fun i hi => ?_
    rw [List.length_append, hn] at hi
    by_cases e : i < N
    · rw [List.getD_eq_getElem?_getD, List.getElem?_append_left (by omega), ← List.getD_eq_getElem?_getD]
      have := rrow_in N x i (by rw [Mx.len_row]; exact e)
      rw [← h.row] at this
      exact this
    · have : i = N := by simp at hi; omega
      rw [List.getD_eq_getElem?_getD, List.getElem?_append_right (by omega), hn, this, Nat.sub_self]
      exact hz

set_option maxRecDepth 100000 in
set_option maxHeartbeats 3200000 in
theorem walk_MasseyGrows (A : Option Addr) (L : List Int) (c : Nat) (z : Int) (w : World) (ha : Lies w A L) :
    Calls Try.prog 4 #[.slice A L.length c, .int .i64 z] w fun e w' => e = .returned (.bool true) ∧ Kp w w' := by
  have FA := Lib.hid (masseyFact_any w)
  have HA := Lib.hid ha
  rcases SFew_or L with ⟨N, x, sr⟩ | bad
  · obtain ⟨l, hl, hf⟩ := Mx.few_some N x
    have FE := Lib.hid (fun w' (k : Kp w w') => SFew_sr sr hf A c w' (ha.keep k))
    have hN := sr.le
    have hlen := sr.len
    rw [hlen]
    have HLE := Lib.hid hlen
    -- what comes of the longer row
    have FM := Lib.hid (show (∃ m, (m = l ∨ (l < m ∧ m + l = N + 1)) ∧ ∀ (B : Option Addr) (d : Nat) (w' : World), Lies w' B (L ++ [z]) → Calls Try.prog 9 #[.slice B (N + 1) d] w' fun e w'' => e = .returned (.tuple #[.int .i64 (m : Int), .nilIface]) ∧ Kp w' w'') ∨
        ((N = 16 ∨ ¬ (0 ≤ z ∧ z ≤ 9972)) ∧ ∃ q : Nat, ∀ (B : Option Addr) (d : Nat) (w' : World), Lies w' B (L ++ [z]) → Calls Try.prog 9 #[.slice B (N + 1) d] w' fun e w'' => e = .returned (.tuple #[.int .i64 0, .iface 46 (.int .i64 (q : Int))]) ∧ Kp w' w'') by
      have hlm : (L ++ [z]).length = N + 1 := by rw [List.length_append, hlen]; rfl
      rcases sr_or (L ++ [z]) with ⟨M, y, sm⟩ | h
      · obtain ⟨rfl, hxy⟩ := sr_more sr sm
        obtain ⟨m, hm, hfm⟩ := Mx.few_some (N + 1) y
        exact .inl ⟨m, Mx.few_grows (few_congr hf hxy) hfm, fun B d w' hb => SFew_sr sm hfm B d w' hb⟩
      · refine .inr ⟨sr_not sr h, scd (L ++ [z]), fun B d w' hb => ?_⟩
        have := Fewest_bad B (L ++ [z]) d w' hb h
        rw [hlm, errOf_ne _ h] at this
        exact this)
    clear ha sr hf hlen
    go_enter Try.func4, Try.ntmps4
    go_wp2_with fail
    refine (FA.out).mono ?_; rintro e w1 ⟨rfl, k1⟩
    have K1 := Lib.hid k1
    clear k1 FA
    go_wp2_with fail
    refine (FE.out _ K1.out).mono ?_; rintro e w2 ⟨rfl, k2⟩
    have K2 := Lib.hid (K1.out.trans k2)
    clear k2 FE
    have HLM := Lib.hid (show (L ++ [z]).length = N + 1 by rw [List.length_append, HLE.out]; rfl)
    have e16 : N = 16 → ((N : Int) == 16) = true := fun h => by rw [h]; rfl
    have HE16 := Lib.hid e16
    have HE17 := Lib.hid (show N ≠ 16 → ((N : Int) == 16) = false from fun h => by rw [beq_eq_false_iff_ne]; omega)
    have hwn : IntKind.i64.wrap ((N : Int) + 1) = (N : Int) + 1 := IntWalk.i64_in _ (by omega)
    have hwl : IntKind.i64.wrap ((N : Int) + 1 - (l : Int)) = (N : Int) + 1 - (l : Int) := IntWalk.i64_in _ (by omega)
    clear e16
    go_upto_region 9 with (at_builtin; refine wpList_cat rfl _ _ rfl w2.heap.size _ [] L A N c rfl rfl (HLE.out.symm) (Own.none _ _) (HA.out.keep K2.out) (by simp; have := HLE.out; omega) (Nat.le_refl _) ?_; intro v3 w3 h1 h2 _; have HO := Lib.hid (show Own w3 w2.heap.size v3 L from h1); have K3 := Lib.hid (show Kp w2 w3 from own_below (Own.none _ _) (Kp.rfl' w2) (Nat.le_refl _) h2); clear h1 h2)
    have hlen : L.length + 1 ≤ 17000000000000 := by have := HLE.out; omega
    have HSZ := Lib.hid (show w2.heap.size ≤ (w3.alloc (.cells #[.int .i64 z] 3)).heap.size from Nat.le_trans K3.out.size ((Kp.rfl' w3).new _).size)
    rcases FM.out with ⟨m, hm, CM⟩ | ⟨hx, q, CM⟩
    · have CM := Lib.hid CM
      have HM := Lib.hid hm
      clear hm FM
      go_wp2_with (at_builtin; (refine wpList_push rfl _ _ rfl w2.heap.size _ L z w3.heap.size 1 rfl rfl (HO.out.new _) (by simp) hlen HSZ.out ?_; intro v4 w4 h1 h2 _; obtain ⟨A4, c4, rfl, l4, _⟩ := h1.cap; rw [HLM.out]; have L4 := Lib.hid l4; have K4 := Lib.hid (show Kp w2 w4 from own_below (HO.out.new _) (K3.out.new _) HSZ.out h2); clear h1 h2 l4))
      refine (CM.out _ _ _ L4.out).mono ?_; rintro e w5 ⟨rfl, k5⟩
      have K5 := Lib.hid (K2.out.trans (K4.out.trans k5))
      clear k5
      rcases HM.out with rfl | ⟨h1, h2⟩
      · have e1 : ((m : Int) == (m : Int)) = true := by simp
        go_wp2_with fail
        go_ret
        exact ⟨rfl, K5.out⟩
      · have e1 : ((m : Int) == (l : Int)) = false := by rw [beq_eq_false_iff_ne]; omega
        have e2 : ((m : Int) == (N : Int) + 1 - (l : Int)) = true := by rw [beq_iff_eq]; omega
        have e3 : (l : Int) < (m : Int) := by omega
        clear h1 h2
        go_wp2_with fail
        go_ret
        exact ⟨rfl, K5.out⟩
    · have CM := Lib.hid CM
      have HX := Lib.hid hx
      clear hx FM
      go_wp2_with (at_builtin; (refine wpList_push rfl _ _ rfl w2.heap.size _ L z w3.heap.size 1 rfl rfl (HO.out.new _) (by simp) hlen HSZ.out ?_; intro v4 w4 h1 h2 _; obtain ⟨A4, c4, rfl, l4, _⟩ := h1.cap; rw [HLM.out]; have L4 := Lib.hid l4; have K4 := Lib.hid (show Kp w2 w4 from own_below (HO.out.new _) (K3.out.new _) HSZ.out h2); clear h1 h2 l4))
      refine (CM.out _ _ _ L4.out).mono ?_; rintro e w5 ⟨rfl, k5⟩
      have K5 := Lib.hid (K2.out.trans (K4.out.trans k5))
      clear k5
      by_cases h16 : N = 16
      · have e1 := HE16.out h16
        clear h16
        go_wp2_with fail
        go_ret
        exact ⟨rfl, K5.out⟩
      · have e1 := HE17.out h16
        have IN := Lib.hid (fun w => law3In_any z 0 9972 w false (by
          rcases HX.out with h | h
          · exact absurd h h16
          · simp; omega))
        clear h16
        go_wp2_with fail
        refine (IN.out _).mono ?_; rintro e w' ⟨rfl, rfl⟩
        go_wp2_with fail
        go_ret
        exact ⟨rfl, K5.out⟩
  · have FB := Lib.hid (fun w' (k : Kp w w') => bad A c w' (HA.out.keep k))
    generalize L.length = n at *
    clear ha bad HA
    go_enter Try.func4, Try.ntmps4
    go_wp2_with fail
    refine (FA.out).mono ?_; rintro e w1 ⟨rfl, k1⟩
    have K1 := Lib.hid k1
    clear k1 FA
    go_wp2_with fail
    refine (FB.out _ K1.out).mono ?_; rintro e w2 ⟨q, rfl, k2⟩
    have K2 := Lib.hid (K1.out.trans k2)
    clear k2 FB
    go_wp2_with fail
    go_ret
    exact ⟨rfl, K2.out⟩

end Go.Proofs.Ytpffekaldpllkaa
