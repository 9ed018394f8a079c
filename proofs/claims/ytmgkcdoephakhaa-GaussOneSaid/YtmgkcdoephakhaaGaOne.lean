/- The law GaussOne. -/
import Derived.Test.YtmgkcdoephakhaaGaLaw
import Derived.Test.YtmgkcdoephakhaaMtLaw
import Derived.Test.YtmgkcdoephakhaaMxRef4
namespace Go.Proofs.Ytmgkcdoephakhaa
open Go.ChangeShapes Go.WideShapes Go.ChangeAt Go.RowKit
set_option linter.unusedVariables false

theorem Sh.of {r c : Nat} {f : Nat → Nat → Fp.F} {m : List (List Int)} (h : Sh r c f m) (g : Nat → Nat → Fp.F) : Sh r c g (Mx.matl r c g) := ⟨rfl, h.r0, h.r5, h.c0, h.c5⟩
theorem Stair.again {r c : Nat} {f : Nat → Nat → Fp.F} {b d : List Nat} {g h : Nat → Nat → Fp.F} (s : Stair r c c f b g) (t : Stair r c c g d h) : b = d ∧ Mx.Eqm r c g h := s.steps.unique t.steps t.req
theorem Stair.undone {r c : Nat} {f k : Nat → Nat → Fp.F} {b d : List Nat} {g h : Nat → Nat → Fp.F} (s : Stair r c c f b g) (hk : Mx.dt r k ≠ 0) (t : Stair r c c (Mx.mul r k f) d h) : b = d ∧ Mx.Eqm r c g h := by
  obtain ⟨u, hu⟩ := Mx.undo hk
  exact s.steps.unique t.steps ((s.req.symm.trans (Mx.req_undo hu f)).trans t.req)
theorem qcode_zero {m : List (List Int)} (h : qcode 5 0 9972 m = 0) : ∃ n f, Sh n n f m := by
  unfold qcode at h
  by_cases h1 : Mx.mcode 5 0 9972 m = 0 ∧ m.length ≠ (m.getD 0 []).length
  · rw [if_pos h1] at h; cases h
  · rw [if_neg h1] at h
    obtain ⟨r, c, f, e, h2, h3, h4, h5⟩ := Mx.mcode_zero h
    have : r = c := by
      rcases Nat.lt_or_ge 0 0 with hh | _
      · omega
      · by_cases hrc : r = c
        · exact hrc
        · exfalso
          refine h1 ⟨h, ?_⟩
          rw [e, Mx.len_matl, Mx.matl, Mx.tab_len _ _ _ _ h2]; exact hrc
    subst this
    exact ⟨r, f, ⟨e, h2, h3, h4, h5⟩⟩
theorem Sh.qcode {n : Nat} {f : Nat → Nat → Fp.F} {m : List (List Int)} (s : Sh n n f m) : qcode 5 0 9972 m = 0 := by
  unfold Go.Proofs.Ytmgkcdoephakhaa.qcode
  rw [s.code, if_neg]
  rintro ⟨_, h⟩
  refine h ?_
  rw [s.eq, Mx.len_matl, Mx.matl, Mx.tab_len _ _ _ _ s.r0]

set_option maxRecDepth 100000 in
set_option maxHeartbeats 3200000 in
theorem walk_GaussOne (A : Option Addr) (a : List (List Int)) (c : Nat) (B : Option Addr) (b : List (List Int)) (d : Nat) (w : World) (ha : LiesM w A a) (hb : LiesM w B b) :
    Calls Try.prog 5 #[.slice A a.length c, .slice B b.length d] w fun e w' => e = .returned (.bool true) ∧ Kp w w' := by
  obtain ⟨n, hn⟩ : ∃ n, n = a.length := ⟨_, rfl⟩
  obtain ⟨m, hm⟩ : ∃ m, m = b.length := ⟨_, rfl⟩
  rw [← hn, ← hm]
  have HA := Lib.hid ha
  have HB := Lib.hid hb
  have FA := Lib.hid (gaussFact_any w)
  have SQ := Lib.hid (fun w h => rSquare_any B b m d 5 0 9972 w h hm.symm (by decide))
  clear ha hb
  rcases Steps_or A a n c hn.symm with ⟨r, q, f, sa⟩ | bad
  · have hr := sa.len
    rw [← hn] at hr
    subst hr
    have SA := Lib.hid sa
    have n5 := sa.r5
    by_cases hq : qcode 5 0 9972 b = 0
    · obtain ⟨r', f', sb⟩ := qcode_zero hq
      have hr' := sb.len
      rw [← hm] at hr'
      subst hr'
      rw [hq] at SQ
      by_cases hmn : m = n
      · subst hmn
        have SB := Lib.hid sb
        have e0 : ((m : Int) != (m : Int)) = false := by simp
        have DM := Lib.hid (fun w h => rDetMod_any m (by omega) B f' d w h)
        have SBE := Lib.hid sb.eq
        by_cases hz : Mx.dt m f' = 0
        · rw [hz, show (((0 : Fp.F).val : Nat) : Int) = 0 from rfl] at DM
          clear hn hm sa sb hq hz
          go_enter Try.func5, Try.ntmps5
          go_wp2_with fail
          refine (FA.out).mono ?_; rintro e w1 ⟨rfl, k1⟩
          have K1 := Lib.hid k1; clear k1
          go_wp2_with fail
          refine (Steps_sh SA.out c w1 (HA.out.keep K1.out)).mono ?_; rintro e w2 ⟨b1, g1, A2, c2, A3, c3, s1, rfl, l2, l3, k2⟩
          have S1 := Lib.hid s1; have K2 := Lib.hid (K1.out.trans k2); have L2 := Lib.hid l2; have L3 := Lib.hid l3; clear k2 s1 l2 l3
          have x1 := S1.out.le
          go_wp2_with fail
          refine (Steps_sh (SA.out.of g1) c2 w2 L2.out).mono ?_; rintro e w3 ⟨b2, g2, A4, c4, A5, c5, s2, rfl, l4, l5, k3⟩
          obtain ⟨rfl, hg⟩ := S1.out.again s2
          have HG := Lib.hid hg; have K23 := Lib.hid k3; have L4 := Lib.hid l4; have L5 := Lib.hid l5; clear k3 s2 l4 l5 hg
          go_wp2_with fail
          refine (same_mat (SA.out.of g1) (SA.out.of g2) HG.out c2 c4 w3 (L2.out.keep K23.out) L4.out).mono ?_; rintro e w4 ⟨rfl, k4⟩
          have K24 := Lib.hid (K23.out.trans k4); have K34 := Lib.hid k4; clear k4
          go_wp2_with fail
          refine (same_eq A3 A5 (cols b1) (cols b1) b1.length b1.length c3 c5 w4 (L3.out.keep K24.out) (L5.out.keep K34.out) (len_cols _).symm (len_cols _).symm (by omega) rfl).mono ?_; rintro e w5 ⟨rfl, k5⟩
          have K25 := Lib.hid (K24.out.trans k5); have K5 := Lib.hid (K2.out.trans (K24.out.trans k5)); clear k5
          go_wp2_with fail
          refine (SQ.out w5 (HB.out.keep K5.out)).mono ?_; rintro e w6 ⟨rfl, hd⟩
          have K26 := Lib.hid (K25.out.trans hd.kp); have K6 := Lib.hid (K5.out.trans hd.kp); clear hd
          go_wp2_with fail
          refine (DM.out w6 (by rw [← SBE.out]; exact HB.out.keep K6.out)).mono ?_; rintro e w7 ⟨rfl, k7⟩
          have K7 := Lib.hid (K6.out.trans k7); clear k7
          go_wp2_with fail
          go_ret
          exact ⟨rfl, K7.out⟩
        · have hv := Fp.ne_val hz
          have e1 : (((Mx.dt m f').val : Int) == 0) = false := by rw [beq_eq_false_iff_ne]; omega
          have HZ := Lib.hid hz
          generalize ((Mx.dt m f').val : Int) = dv at *
          clear hn hm sa sb hq hz hv
          go_enter Try.func5, Try.ntmps5
          go_wp2_with fail
          refine (FA.out).mono ?_; rintro e w1 ⟨rfl, k1⟩
          have K1 := Lib.hid k1; clear k1
          go_wp2_with fail
          refine (Steps_sh SA.out c w1 (HA.out.keep K1.out)).mono ?_; rintro e w2 ⟨b1, g1, A2, c2, A3, c3, s1, rfl, l2, l3, k2⟩
          have S1 := Lib.hid s1; have K2 := Lib.hid (K1.out.trans k2); have L2 := Lib.hid l2; have L3 := Lib.hid l3; clear k2 s1 l2 l3
          have x1 := S1.out.le
          go_wp2_with fail
          refine (Steps_sh (SA.out.of g1) c2 w2 L2.out).mono ?_; rintro e w3 ⟨b2, g2, A4, c4, A5, c5, s2, rfl, l4, l5, k3⟩
          obtain ⟨rfl, hg⟩ := S1.out.again s2
          have HG := Lib.hid hg; have K23 := Lib.hid k3; have L4 := Lib.hid l4; have L5 := Lib.hid l5; clear k3 s2 l4 l5 hg
          go_wp2_with fail
          refine (same_mat (SA.out.of g1) (SA.out.of g2) HG.out c2 c4 w3 (L2.out.keep K23.out) L4.out).mono ?_; rintro e w4 ⟨rfl, k4⟩
          have K24 := Lib.hid (K23.out.trans k4); have K34 := Lib.hid k4; clear k4
          go_wp2_with fail
          refine (same_eq A3 A5 (cols b1) (cols b1) b1.length b1.length c3 c5 w4 (L3.out.keep K24.out) (L5.out.keep K34.out) (len_cols _).symm (len_cols _).symm (by omega) rfl).mono ?_; rintro e w5 ⟨rfl, k5⟩
          have K25 := Lib.hid (K24.out.trans k5); have K5 := Lib.hid (K2.out.trans (K24.out.trans k5)); clear k5
          go_wp2_with fail
          refine (SQ.out w5 (HB.out.keep K5.out)).mono ?_; rintro e w6 ⟨rfl, hd⟩
          have K26 := Lib.hid (K25.out.trans hd.kp); have K6 := Lib.hid (K5.out.trans hd.kp); clear hd
          go_wp2_with fail
          refine (DM.out w6 (by rw [← SBE.out]; exact HB.out.keep K6.out)).mono ?_; rintro e w7 ⟨rfl, k7⟩
          have K27 := Lib.hid (K26.out.trans k7); have K7 := Lib.hid (K6.out.trans k7); clear k7
          go_wp2_with fail
          refine (Mul_sh SB.out SA.out d c w7 (HB.out.keep K7.out) (HA.out.keep K7.out)).mono ?_; rintro e w8 ⟨A8, c8, rfl, l8, k8⟩
          have K28 := Lib.hid (K27.out.trans k8); have K8 := Lib.hid (K7.out.trans k8); have L8 := Lib.hid l8; clear k8 l8
          go_wp2_with fail
          refine (Steps_sh (SB.out.mul SA.out) c8 w8 L8.out).mono ?_; rintro e w9 ⟨b3, g3, A9, c9, A10, c10, s3, rfl, l9, l10, k9⟩
          obtain ⟨rfl, hg3⟩ := S1.out.undone HZ.out s3
          have HG3 := Lib.hid hg3; have K29 := Lib.hid (K28.out.trans k9); have K9 := Lib.hid (K8.out.trans k9); have L9 := Lib.hid l9; have L10 := Lib.hid l10; clear k9 s3 l9 l10 hg3
          go_wp2_with fail
          refine (same_mat (SA.out.of g1) (SA.out.of g3) HG3.out c2 c9 w9 (L2.out.keep K29.out) L9.out).mono ?_; rintro e w10 ⟨rfl, k10⟩
          have K210 := Lib.hid (K29.out.trans k10); have K10 := Lib.hid (K9.out.trans k10); have K910 := Lib.hid k10; clear k10
          go_wp2_with fail
          refine (same_eq A3 A10 (cols b1) (cols b1) b1.length b1.length c3 c10 w10 (L3.out.keep K210.out) (L10.out.keep K910.out) (len_cols _).symm (len_cols _).symm (by omega) rfl).mono ?_; rintro e w11 ⟨rfl, k11⟩
          have K11 := Lib.hid (K10.out.trans k11); clear k11
          go_wp2_with fail
          go_ret
          exact ⟨rfl, K11.out⟩
      · have e0 : ((m : Int) != (n : Int)) = true := by rw [bne_iff_ne]; omega
        clear hn hm sa sb hq hmn
        go_enter Try.func5, Try.ntmps5
        go_wp2_with fail
        refine (FA.out).mono ?_; rintro e w1 ⟨rfl, k1⟩
        have K1 := Lib.hid k1; clear k1
        go_wp2_with fail
        refine (Steps_sh SA.out c w1 (HA.out.keep K1.out)).mono ?_; rintro e w2 ⟨b1, g1, A2, c2, A3, c3, s1, rfl, l2, l3, k2⟩
        have S1 := Lib.hid s1; have K2 := Lib.hid (K1.out.trans k2); have L2 := Lib.hid l2; have L3 := Lib.hid l3; clear k2 s1 l2 l3
        have x1 := S1.out.le
        go_wp2_with fail
        refine (Steps_sh (SA.out.of g1) c2 w2 L2.out).mono ?_; rintro e w3 ⟨b2, g2, A4, c4, A5, c5, s2, rfl, l4, l5, k3⟩
        obtain ⟨rfl, hg⟩ := S1.out.again s2
        have HG := Lib.hid hg; have K23 := Lib.hid k3; have L4 := Lib.hid l4; have L5 := Lib.hid l5; clear k3 s2 l4 l5 hg
        go_wp2_with fail
        refine (same_mat (SA.out.of g1) (SA.out.of g2) HG.out c2 c4 w3 (L2.out.keep K23.out) L4.out).mono ?_; rintro e w4 ⟨rfl, k4⟩
        have K24 := Lib.hid (K23.out.trans k4); have K34 := Lib.hid k4; clear k4
        go_wp2_with fail
        refine (same_eq A3 A5 (cols b1) (cols b1) b1.length b1.length c3 c5 w4 (L3.out.keep K24.out) (L5.out.keep K34.out) (len_cols _).symm (len_cols _).symm (by omega) rfl).mono ?_; rintro e w5 ⟨rfl, k5⟩
        have K25 := Lib.hid (K24.out.trans k5); have K5 := Lib.hid (K2.out.trans (K24.out.trans k5)); clear k5
        go_wp2_with fail
        refine (SQ.out w5 (HB.out.keep K5.out)).mono ?_; rintro e w6 ⟨rfl, hd⟩
        have K26 := Lib.hid (K25.out.trans hd.kp); have K6 := Lib.hid (K5.out.trans hd.kp); clear hd
        go_wp2_with fail
        go_ret
        exact ⟨rfl, K6.out⟩
    · have e0 : ((qcode 5 0 9972 b : Int) != 0) = true := by rw [bne_iff_ne]; omega
      generalize qcode 5 0 9972 b = z at *
      clear hn hm sa hq
      go_enter Try.func5, Try.ntmps5
      go_wp2_with fail
      refine (FA.out).mono ?_; rintro e w1 ⟨rfl, k1⟩
      have K1 := Lib.hid k1; clear k1
      go_wp2_with fail
      refine (Steps_sh SA.out c w1 (HA.out.keep K1.out)).mono ?_; rintro e w2 ⟨b1, g1, A2, c2, A3, c3, s1, rfl, l2, l3, k2⟩
      have S1 := Lib.hid s1; have K2 := Lib.hid (K1.out.trans k2); have L2 := Lib.hid l2; have L3 := Lib.hid l3; clear k2 s1 l2 l3
      have x1 := S1.out.le
      go_wp2_with fail
      refine (Steps_sh (SA.out.of g1) c2 w2 L2.out).mono ?_; rintro e w3 ⟨b2, g2, A4, c4, A5, c5, s2, rfl, l4, l5, k3⟩
      obtain ⟨rfl, hg⟩ := S1.out.again s2
      have HG := Lib.hid hg; have K23 := Lib.hid k3; have L4 := Lib.hid l4; have L5 := Lib.hid l5; clear k3 s2 l4 l5 hg
      go_wp2_with fail
      refine (same_mat (SA.out.of g1) (SA.out.of g2) HG.out c2 c4 w3 (L2.out.keep K23.out) L4.out).mono ?_; rintro e w4 ⟨rfl, k4⟩
      have K24 := Lib.hid (K23.out.trans k4); have K34 := Lib.hid k4; clear k4
      go_wp2_with fail
      refine (same_eq A3 A5 (cols b1) (cols b1) b1.length b1.length c3 c5 w4 (L3.out.keep K24.out) (L5.out.keep K34.out) (len_cols _).symm (len_cols _).symm (by omega) rfl).mono ?_; rintro e w5 ⟨rfl, k5⟩
      have K25 := Lib.hid (K24.out.trans k5); have K5 := Lib.hid (K2.out.trans (K24.out.trans k5)); clear k5
      go_wp2_with fail
      refine (SQ.out w5 (HB.out.keep K5.out)).mono ?_; rintro e w6 ⟨rfl, hd⟩
      have K26 := Lib.hid (K25.out.trans hd.kp); have K6 := Lib.hid (K5.out.trans hd.kp); clear hd
      go_wp2_with fail
      go_ret
      exact ⟨rfl, K6.out⟩
  · have BAD := Lib.hid bad
    clear hn hm bad SQ
    go_enter Try.func5, Try.ntmps5
    go_wp2_with fail
    refine (FA.out).mono ?_; rintro e w1 ⟨rfl, k1⟩
    have K1 := Lib.hid k1; clear k1
    go_wp2_with fail
    refine (BAD.out w1 (HA.out.keep K1.out)).mono ?_; rintro e w2 ⟨z, rfl, k2⟩
    have K2 := Lib.hid k2; clear k2
    go_wp2_with fail
    go_ret
    exact ⟨rfl, K1.out.trans K2.out⟩
end Go.Proofs.Ytmgkcdoephakhaa
