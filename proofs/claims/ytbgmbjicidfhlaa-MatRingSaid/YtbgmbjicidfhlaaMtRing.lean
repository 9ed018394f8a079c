/- The law MatRing. -/
import Derived.Test.YtbgmbjicidfhlaaMtLaw
namespace Go.Proofs.Ytbgmbjicidfhlaa
open Go.ChangeShapes Go.WideShapes Go.ChangeAt Go.RowKit
set_option linter.unusedVariables false

set_option maxRecDepth 100000 in
set_option maxHeartbeats 6400000 in
theorem ring_bad (A : Option Addr) (a : List (List Int)) (ca : Nat) (B : Option Addr) (b : List (List Int)) (cb : Nat) (C : Option Addr) (c : List (List Int)) (cc : Nat) (D : Option Addr) (d : List (List Int)) (cd : Nat) (w : World)
    (ha : LiesM w A a) (hb : LiesM w B b) (hc : LiesM w C c) (hd : LiesM w D d)
    (bad : ¬ ((∃ r q k f f', Sh r q f a ∧ Sh q k f' b) ∧ (∃ r q k f f', Sh r q f b ∧ Sh q k f' c))) :
    Calls Try.prog 3 #[.slice A a.length ca, .slice B b.length cb, .slice C c.length cc, .slice D d.length cd] w fun e w' => e = .returned (.bool true) ∧ Kp w w' := by
  obtain ⟨na, hna⟩ : ∃ n, n = a.length := ⟨_, rfl⟩
  obtain ⟨nb, hnb⟩ : ∃ n, n = b.length := ⟨_, rfl⟩
  obtain ⟨nc, hnc⟩ : ∃ n, n = c.length := ⟨_, rfl⟩
  obtain ⟨nd, hnd⟩ : ∃ n, n = d.length := ⟨_, rfl⟩
  rw [← hna, ← hnb, ← hnc, ← hnd]
  have HA := Lib.hid ha
  have HB := Lib.hid hb
  have HC := Lib.hid hc
  have HD := Lib.hid hd
  have FA := Lib.hid (matFact_any w)
  clear ha hb hc hd
  rcases Mul_or A B a b na nb ca cb hna.symm hnb.symm with ok1 | bad1
  · rcases Mul_or B C b c nb nc cb cc hnb.symm hnc.symm with ok2 | bad2
    · exact absurd ⟨ok1, ok2⟩ bad
    · obtain ⟨r, q, k, f, f', sa, sb⟩ := ok1
      have e1 := sa.len
      have e2 := sb.len
      rw [← hna] at e1
      rw [← hnb] at e2
      subst e1 e2
      have SA := Lib.hid sa
      have SB := Lib.hid sb
      have BAD := Lib.hid bad2
      clear hna hnb hnc hnd bad bad2 sa sb
      go_enter Try.func3, Try.ntmps3
      go_wp2_with fail
      refine (FA.out).mono ?_; rintro e w1 ⟨rfl, k1⟩
      have K1 := Lib.hid k1; clear k1
      go_wp2_with fail
      refine (Mul_sh SA.out SB.out ca cb w1 (HA.out.keep K1.out) (HB.out.keep K1.out)).mono ?_; rintro e w2 ⟨A2, c2, rfl, l2, k2⟩
      have K2 := Lib.hid (K1.out.trans k2); clear k2 l2
      go_wp2_with fail
      refine (BAD.out w2 (HB.out.keep K2.out) (HC.out.keep K2.out)).mono ?_; rintro e w3 ⟨z, rfl, k3⟩
      have K3 := Lib.hid (K2.out.trans k3); clear k3
      have hz : ((na : Int) == 0) = false := by rw [beq_eq_false_iff_ne]; have := SA.out.r0; omega
      go_wp2_with fail
      go_ret
      exact ⟨rfl, K3.out⟩
  · have BAD := Lib.hid bad1
    rcases Mul_or B C b c nb nc cb cc hnb.symm hnc.symm with ⟨r, q, k, f, f', sb, sc⟩ | bad2
    · have e1 := sb.len
      have e2 := sc.len
      rw [← hnb] at e1
      rw [← hnc] at e2
      subst e1 e2
      have SB := Lib.hid sb
      have SC := Lib.hid sc
      clear hna hnb hnc hnd bad bad1 sb sc
      go_enter Try.func3, Try.ntmps3
      go_wp2_with fail
      refine (FA.out).mono ?_; rintro e w1 ⟨rfl, k1⟩
      have K1 := Lib.hid k1; clear k1
      go_wp2_with fail
      refine (BAD.out w1 (HA.out.keep K1.out) (HB.out.keep K1.out)).mono ?_; rintro e w2 ⟨z, rfl, k2⟩
      have K2 := Lib.hid (K1.out.trans k2); clear k2
      go_wp2_with fail
      refine (Mul_sh SB.out SC.out cb cc w2 (HB.out.keep K2.out) (HC.out.keep K2.out)).mono ?_; rintro e w3 ⟨A3, c3, rfl, l3, k3⟩
      have K3 := Lib.hid (K2.out.trans k3); clear k3 l3
      go_wp2_with fail
      go_ret
      exact ⟨rfl, K3.out⟩
    · have BAD2 := Lib.hid bad2
      clear hna hnb hnc hnd bad bad1 bad2
      go_enter Try.func3, Try.ntmps3
      go_wp2_with fail
      refine (FA.out).mono ?_; rintro e w1 ⟨rfl, k1⟩
      have K1 := Lib.hid k1; clear k1
      go_wp2_with fail
      refine (BAD.out w1 (HA.out.keep K1.out) (HB.out.keep K1.out)).mono ?_; rintro e w2 ⟨z, rfl, k2⟩
      have K2 := Lib.hid (K1.out.trans k2); clear k2
      go_wp2_with fail
      refine (BAD2.out w2 (HB.out.keep K2.out) (HC.out.keep K2.out)).mono ?_; rintro e w3 ⟨z2, rfl, k3⟩
      have K3 := Lib.hid (K2.out.trans k3); clear k3
      go_wp2_with fail
      go_ret
      exact ⟨rfl, K3.out⟩

set_option maxRecDepth 100000 in
set_option maxHeartbeats 6400000 in
theorem ring_good (A : Option Addr) (a : List (List Int)) (ca : Nat) (B : Option Addr) (b : List (List Int)) (cb : Nat) (C : Option Addr) (c : List (List Int)) (cc : Nat) (D : Option Addr) (d : List (List Int)) (cd : Nat) (w : World)
    (ha : LiesM w A a) (hb : LiesM w B b) (hc : LiesM w C c) (hd : LiesM w D d)
    (r q k t : Nat) (f f' g : Nat → Nat → Fp.F) (sa : Sh r q f a) (sb : Sh q k f' b) (sc : Sh k t g c) :
    Calls Try.prog 3 #[.slice A a.length ca, .slice B b.length cb, .slice C c.length cc, .slice D d.length cd] w fun e w' => e = .returned (.bool true) ∧ Kp w w' := by
  obtain ⟨na, hna⟩ : ∃ n, n = a.length := ⟨_, rfl⟩
  obtain ⟨nb, hnb⟩ : ∃ n, n = b.length := ⟨_, rfl⟩
  obtain ⟨nc, hnc⟩ : ∃ n, n = c.length := ⟨_, rfl⟩
  obtain ⟨nd, hnd⟩ : ∃ n, n = d.length := ⟨_, rfl⟩
  rw [← hna, ← hnb, ← hnc, ← hnd]
  have HA := Lib.hid ha
  have HB := Lib.hid hb
  have HC := Lib.hid hc
  have HD := Lib.hid hd
  have FA := Lib.hid (matFact_any w)
  clear ha hb hc hd
  have e1 := sa.len
  have e2 := sb.len
  have e3 := sc.len
  rw [← hna] at e1
  rw [← hnb] at e2
  rw [← hnc] at e3
  subst e1 e2 e3
  have SA := Lib.hid sa
  have SB := Lib.hid sb
  have SC := Lib.hid sc
  have ON := Lib.hid (fun w => One_ok na w sa.r0 sa.r5)
  have hz : ((na : Int) == 0) = false := by rw [beq_eq_false_iff_ne]; have := sa.r0; omega
  rcases Add_or B D b d nb nd cb cd hnb.symm hnd.symm with ⟨q', k', g1, g2, sb', sd⟩ | bad
  · have e1 := sb.eq.symm.trans sb'.eq
    obtain ⟨rfl, rfl, _⟩ := Mx.matl_inj sb.r0 e1
    have e2 := sd.len
    rw [← hnd] at e2
    subst e2
    have SD := Lib.hid sd
    clear hna hnb hnc hnd sa sb sc sb' sd e1
    go_enter Try.func3, Try.ntmps3
    go_wp2_with fail
    refine (FA.out).mono ?_; rintro e w1 ⟨rfl, k1⟩
    have K1 := Lib.hid k1; clear k1
    go_wp2_with fail
    refine (Mul_sh SA.out SB.out ca cb w1 (HA.out.keep K1.out) (HB.out.keep K1.out)).mono ?_; rintro e w2 ⟨A2, c2, rfl, l2, k2⟩
    have K2 := Lib.hid (K1.out.trans k2); have L2 := Lib.hid l2; clear k2 l2
    go_wp2_with fail
    refine (Mul_sh SB.out SC.out cb cc w2 (HB.out.keep K2.out) (HC.out.keep K2.out)).mono ?_; rintro e w3 ⟨A3, c3, rfl, l3, k3⟩
    have K23 := Lib.hid k3; have K3 := Lib.hid (K2.out.trans k3); have L3 := Lib.hid l3; clear k3 l3
    go_wp2_with fail
    refine (Mul_sh (SA.out.mul SB.out) SC.out c2 cc w3 (L2.out.keep K23.out) (HC.out.keep K3.out)).mono ?_; rintro e w4 ⟨A4, c4, rfl, l4, k4⟩
    have K34 := Lib.hid k4; have K4 := Lib.hid (K3.out.trans k4); have L4 := Lib.hid l4; clear k4 l4
    go_wp2_with fail
    refine (Mul_sh SA.out (SB.out.mul SC.out) ca c3 w4 (HA.out.keep K4.out) (L3.out.keep K34.out)).mono ?_; rintro e w5 ⟨A5, c5, rfl, l5, k5⟩
    have K45 := Lib.hid k5; have K5 := Lib.hid (K4.out.trans k5); have L5 := Lib.hid l5; clear k5 l5
    go_wp2_with fail
    refine (same_mat ((SA.out.mul SB.out).mul SC.out) (SA.out.mul (SB.out.mul SC.out)) (by rw [Mx.mul_assoc]; exact Mx.Eqm.rfl' _ _ _) c4 c5 w5 (L4.out.keep K45.out) L5.out).mono ?_; rintro e w6 ⟨rfl, k6⟩
    have K56 := Lib.hid k6; have K6 := Lib.hid (K5.out.trans k6); clear k6
    go_wp2_with fail
    refine (ON.out w6).mono ?_; rintro e w7 ⟨A7, c7, rfl, _, l7, k7⟩
    rw [Mx.len_matl]
    have K67 := Lib.hid k7; have K7 := Lib.hid (K6.out.trans k7); have L7 := Lib.hid l7; clear k7 l7
    go_wp2_with fail
    refine (Mul_sh SA.out.one SA.out c7 ca w7 L7.out (HA.out.keep K7.out)).mono ?_; rintro e w8 ⟨A8, c8, rfl, l8, k8⟩
    have K78 := Lib.hid k8; have K8 := Lib.hid (K7.out.trans k8); have L8 := Lib.hid l8; clear k8 l8
    go_wp2_with fail
    refine (same_mat (SA.out.one.mul SA.out) SA.out (Mx.one_mul _ _ _) c8 ca w8 L8.out (HA.out.keep K8.out)).mono ?_; rintro e w9 ⟨rfl, k9⟩
    have K89 := Lib.hid k9; have K9 := Lib.hid (K8.out.trans k9); clear k9
    have K29 := Lib.hid ((((((K23.out.trans K34.out).trans K45.out).trans K56.out).trans K67.out).trans K78.out).trans K89.out)
    go_wp2_with fail
    refine (Add_sh SB.out SD.out cb cd w9 (HB.out.keep K9.out) (HD.out.keep K9.out)).mono ?_; rintro e v1 ⟨B1, b1, rfl, m1, j1⟩
    have J1 := Lib.hid (K9.out.trans j1); have J91 := Lib.hid j1; have M1 := Lib.hid m1; clear j1 m1
    go_wp2_with fail
    refine (Mul_sh SA.out SD.out ca cd v1 (HA.out.keep J1.out) (HD.out.keep J1.out)).mono ?_; rintro e v2 ⟨B2, b2, rfl, m2, j2⟩
    have J2 := Lib.hid (J1.out.trans j2); have J12 := Lib.hid j2; have M2 := Lib.hid m2; clear j2 m2
    go_wp2_with fail
    refine (Mul_sh SA.out SB.out.plus ca b1 v2 (HA.out.keep J2.out) (M1.out.keep J12.out)).mono ?_; rintro e v3 ⟨B3, b3, rfl, m3, j3⟩
    have J23 := Lib.hid j3; have J3 := Lib.hid (J2.out.trans j3); have M3 := Lib.hid m3; clear j3 m3
    go_wp2_with fail
    refine (Add_sh (SA.out.mul SB.out) (SA.out.mul SD.out) c2 b2 v3 (L2.out.keep (((K29.out.trans J91.out).trans J12.out).trans J23.out)) (M2.out.keep J23.out)).mono ?_; rintro e v4 ⟨B4, b4, rfl, m4, j4⟩
    have J34 := Lib.hid j4; have J4 := Lib.hid (J3.out.trans j4); have M4 := Lib.hid m4; clear j4 m4
    go_wp2_with fail
    refine (same_mat (SA.out.mul SB.out.plus) (SA.out.mul SB.out).plus (by rw [Mx.mul_plus]; exact Mx.Eqm.rfl' _ _ _) b3 b4 v4 (M3.out.keep J34.out) M4.out).mono ?_; rintro e v5 ⟨rfl, j5⟩
    have J5 := Lib.hid (J4.out.trans j5); clear j5
    go_wp2_with fail
    go_ret
    exact ⟨rfl, J5.out⟩
  · have BAD := Lib.hid bad
    clear hna hnb hnc hnd sa sb sc bad
    go_enter Try.func3, Try.ntmps3
    go_wp2_with fail
    refine (FA.out).mono ?_; rintro e w1 ⟨rfl, k1⟩
    have K1 := Lib.hid k1; clear k1
    go_wp2_with fail
    refine (Mul_sh SA.out SB.out ca cb w1 (HA.out.keep K1.out) (HB.out.keep K1.out)).mono ?_; rintro e w2 ⟨A2, c2, rfl, l2, k2⟩
    have K2 := Lib.hid (K1.out.trans k2); have L2 := Lib.hid l2; clear k2 l2
    go_wp2_with fail
    refine (Mul_sh SB.out SC.out cb cc w2 (HB.out.keep K2.out) (HC.out.keep K2.out)).mono ?_; rintro e w3 ⟨A3, c3, rfl, l3, k3⟩
    have K23 := Lib.hid k3; have K3 := Lib.hid (K2.out.trans k3); have L3 := Lib.hid l3; clear k3 l3
    go_wp2_with fail
    refine (Mul_sh (SA.out.mul SB.out) SC.out c2 cc w3 (L2.out.keep K23.out) (HC.out.keep K3.out)).mono ?_; rintro e w4 ⟨A4, c4, rfl, l4, k4⟩
    have K34 := Lib.hid k4; have K4 := Lib.hid (K3.out.trans k4); have L4 := Lib.hid l4; clear k4 l4
    go_wp2_with fail
    refine (Mul_sh SA.out (SB.out.mul SC.out) ca c3 w4 (HA.out.keep K4.out) (L3.out.keep K34.out)).mono ?_; rintro e w5 ⟨A5, c5, rfl, l5, k5⟩
    have K45 := Lib.hid k5; have K5 := Lib.hid (K4.out.trans k5); have L5 := Lib.hid l5; clear k5 l5
    go_wp2_with fail
    refine (same_mat ((SA.out.mul SB.out).mul SC.out) (SA.out.mul (SB.out.mul SC.out)) (by rw [Mx.mul_assoc]; exact Mx.Eqm.rfl' _ _ _) c4 c5 w5 (L4.out.keep K45.out) L5.out).mono ?_; rintro e w6 ⟨rfl, k6⟩
    have K56 := Lib.hid k6; have K6 := Lib.hid (K5.out.trans k6); clear k6
    go_wp2_with fail
    refine (ON.out w6).mono ?_; rintro e w7 ⟨A7, c7, rfl, _, l7, k7⟩
    rw [Mx.len_matl]
    have K67 := Lib.hid k7; have K7 := Lib.hid (K6.out.trans k7); have L7 := Lib.hid l7; clear k7 l7
    go_wp2_with fail
    refine (Mul_sh SA.out.one SA.out c7 ca w7 L7.out (HA.out.keep K7.out)).mono ?_; rintro e w8 ⟨A8, c8, rfl, l8, k8⟩
    have K78 := Lib.hid k8; have K8 := Lib.hid (K7.out.trans k8); have L8 := Lib.hid l8; clear k8 l8
    go_wp2_with fail
    refine (same_mat (SA.out.one.mul SA.out) SA.out (Mx.one_mul _ _ _) c8 ca w8 L8.out (HA.out.keep K8.out)).mono ?_; rintro e w9 ⟨rfl, k9⟩
    have K89 := Lib.hid k9; have K9 := Lib.hid (K8.out.trans k9); clear k9
    have K29 := Lib.hid ((((((K23.out.trans K34.out).trans K45.out).trans K56.out).trans K67.out).trans K78.out).trans K89.out)
    go_wp2_with fail
    refine (BAD.out w9 (HB.out.keep K9.out) (HD.out.keep K9.out)).mono ?_; rintro e v1 ⟨z, rfl, j1⟩
    have J1 := Lib.hid (K9.out.trans j1); clear j1
    go_wp2_with fail
    go_ret
    exact ⟨rfl, J1.out⟩

theorem walk_MatRing (A : Option Addr) (a : List (List Int)) (ca : Nat) (B : Option Addr) (b : List (List Int)) (cb : Nat) (C : Option Addr) (c : List (List Int)) (cc : Nat) (D : Option Addr) (d : List (List Int)) (cd : Nat) (w : World)
    (ha : LiesM w A a) (hb : LiesM w B b) (hc : LiesM w C c) (hd : LiesM w D d) :
    Calls Try.prog 3 #[.slice A a.length ca, .slice B b.length cb, .slice C c.length cc, .slice D d.length cd] w fun e w' => e = .returned (.bool true) ∧ Kp w w' := by
  by_cases h : (∃ r q k f f', Sh r q f a ∧ Sh q k f' b) ∧ (∃ r q k f f', Sh r q f b ∧ Sh q k f' c)
  · obtain ⟨⟨r, q, k, f, f', sa, sb⟩, ⟨q', k', t, f2, g, sb', sc⟩⟩ := h
    obtain ⟨rfl, rfl, _⟩ := Mx.matl_inj sb.r0 (sb.eq.symm.trans sb'.eq)
    exact ring_good A a ca B b cb C c cc D d cd w ha hb hc hd r q k t f f' g sa sb sc
  · exact ring_bad A a ca B b cb C c cc D d cd w ha hb hc hd h

end Go.Proofs.Ytbgmbjicidfhlaa
