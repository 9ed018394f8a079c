/- The laws GaussRank and GaussSum. -/
import Derived.Test.YtmgkcdoephakhaaGaFact
namespace Go.Proofs.Ytmgkcdoephakhaa
open Go.ChangeShapes Go.WideShapes Go.ChangeAt Go.RowKit
set_option linter.unusedVariables false

set_option maxRecDepth 100000 in
set_option maxHeartbeats 3200000 in
theorem walk_GaussRank (A : Option Addr) (a : List (List Int)) (c : Nat) (B : Option Addr) (b : List (List Int)) (d : Nat) (w : World) (ha : LiesM w A a) (hb : LiesM w B b) :
    Calls Try.prog 3 #[.slice A a.length c, .slice B b.length d] w fun e w' => e = .returned (.bool true) ∧ Kp w w' := by
  obtain ⟨n, hn⟩ : ∃ n, n = a.length := ⟨_, rfl⟩
  obtain ⟨m, hm⟩ : ∃ m, m = b.length := ⟨_, rfl⟩
  rw [← hn, ← hm]
  have HA := Lib.hid ha
  have HB := Lib.hid hb
  have FA := Lib.hid (gaussFact_any w)
  clear ha hb
  rcases Rank_or A a n c hn.symm with ⟨r, q, f, sa⟩ | bad
  · have hr := sa.len
    rw [← hn] at hr
    subst hr
    have SA := Lib.hid sa
    have n5 := sa.r5
    rcases Mul_or A B a b n m c d hn.symm hm.symm with ⟨r', q', k, f1, f2, sa', sb⟩ | bad
    · have e1 := sa.eq.symm.trans sa'.eq
      obtain ⟨rfl, rfl, hf⟩ := Mx.matl_inj sa.r0 e1
      have hq := sb.len
      rw [← hm] at hq
      subst hq
      have SB := Lib.hid sb
      have m5 := sb.r5
      have HF := Lib.hid hf
      clear hn hm e1 sa sa' sb hf
      go_enter Try.func3, Try.ntmps3
      go_wp2_with fail
      refine (FA.out).mono ?_; rintro e w1 ⟨rfl, k1⟩
      have K1 := Lib.hid k1; clear k1
      go_wp2_with fail
      refine (Rank_sh SA.out c w1 (HA.out.keep K1.out)).mono ?_; rintro e w2 ⟨b1, g1, s1, rfl, k2⟩
      have S1 := Lib.hid s1; have K2 := Lib.hid (K1.out.trans k2); clear k2 s1
      have x1 := S1.out.le
      go_wp2_with fail
      refine (Turn_sh SA.out c w2 (HA.out.keep K2.out)).mono ?_; rintro e w3 ⟨A3, c3, rfl, l3, k3⟩
      have K3 := Lib.hid (K2.out.trans k3); have L3 := Lib.hid l3; clear k3 l3
      go_wp2_with fail
      refine (Rank_sh SA.out.flip c3 w3 L3.out).mono ?_; rintro e w4 ⟨b2, g2, s2, rfl, k4⟩
      have S2 := Lib.hid s2; have K4 := Lib.hid (K3.out.trans k4); clear k4 s2
      rw [rank_flip S1.out S2.out]
      obtain ⟨p, hp⟩ : ∃ p, p = b1.length := ⟨_, rfl⟩
      rw [← hp] at x1 ⊢
      have HP := Lib.hid hp
      clear hp
      have e1 : ((p : Int) != (p : Int)) = false := by simp
      go_wp2_with fail
      refine (Mul_sh SA.out SB.out c d w4 (HA.out.keep K4.out) (HB.out.keep K4.out)).mono ?_; rintro e w5 ⟨A5, c5, rfl, l5, k5⟩
      have K5 := Lib.hid (K4.out.trans k5); have L5 := Lib.hid l5; clear k5 l5
      go_wp2_with fail
      refine (Rank_sh (SA.out.mul SB.out) c5 w5 L5.out).mono ?_; rintro e w6 ⟨b3, g3, s3, rfl, k6⟩
      have S3 := Lib.hid s3; have K6 := Lib.hid (K5.out.trans k6); clear k6 s3
      go_wp2_with fail
      refine (Rank_sh SB.out d w6 (HB.out.keep K6.out)).mono ?_; rintro e w7 ⟨b4, g4, s4, rfl, k7⟩
      have K7 := Lib.hid (K6.out.trans k7); clear k7
      obtain ⟨y1, y2, y3⟩ := rank_mul S1.out s4 S3.out
      rw [← HP.out] at y1 y3
      have x4 := s4.le
      clear s4
      generalize b3.length = s at *
      generalize b4.length = t at *
      go_wp2_with fail
      go_ret
      exact ⟨ret_bool (by simp; omega), K7.out⟩
    · have BAD := Lib.hid bad
      clear hn hm sa bad
      go_enter Try.func3, Try.ntmps3
      go_wp2_with fail
      refine (FA.out).mono ?_; rintro e w1 ⟨rfl, k1⟩
      have K1 := Lib.hid k1; clear k1
      go_wp2_with fail
      refine (Rank_sh SA.out c w1 (HA.out.keep K1.out)).mono ?_; rintro e w2 ⟨b1, g1, s1, rfl, k2⟩
      have S1 := Lib.hid s1; have K2 := Lib.hid (K1.out.trans k2); clear k2 s1
      have x1 := S1.out.le
      go_wp2_with fail
      refine (Turn_sh SA.out c w2 (HA.out.keep K2.out)).mono ?_; rintro e w3 ⟨A3, c3, rfl, l3, k3⟩
      have K3 := Lib.hid (K2.out.trans k3); have L3 := Lib.hid l3; clear k3 l3
      go_wp2_with fail
      refine (Rank_sh SA.out.flip c3 w3 L3.out).mono ?_; rintro e w4 ⟨b2, g2, s2, rfl, k4⟩
      have S2 := Lib.hid s2; have K4 := Lib.hid (K3.out.trans k4); clear k4 s2
      rw [rank_flip S1.out S2.out]
      obtain ⟨p, hp⟩ : ∃ p, p = b1.length := ⟨_, rfl⟩
      rw [← hp] at x1 ⊢
      have HP := Lib.hid hp
      clear hp
      have e1 : ((p : Int) != (p : Int)) = false := by simp
      go_wp2_with fail
      refine (BAD.out w4 (HA.out.keep K4.out) (HB.out.keep K4.out)).mono ?_; rintro e w5 ⟨z, rfl, k5⟩
      have K5 := Lib.hid k5; clear k5
      go_wp2_with fail
      go_ret
      exact ⟨rfl, K4.out.trans K5.out⟩
  · have BAD := Lib.hid bad
    clear hn hm bad
    go_enter Try.func3, Try.ntmps3
    go_wp2_with fail
    refine (FA.out).mono ?_; rintro e w1 ⟨rfl, k1⟩
    have K1 := Lib.hid k1; clear k1
    go_wp2_with fail
    refine (BAD.out w1 (HA.out.keep K1.out)).mono ?_; rintro e w2 ⟨z, rfl, k2⟩
    have K2 := Lib.hid k2; clear k2
    go_wp2_with fail
    go_ret
    exact ⟨rfl, K1.out.trans K2.out⟩

set_option maxRecDepth 100000 in
set_option maxHeartbeats 3200000 in
theorem walk_GaussSum (A : Option Addr) (a : List (List Int)) (c : Nat) (B : Option Addr) (b : List (List Int)) (d : Nat) (w : World) (ha : LiesM w A a) (hb : LiesM w B b) :
    Calls Try.prog 4 #[.slice A a.length c, .slice B b.length d] w fun e w' => e = .returned (.bool true) ∧ Kp w w' := by
  obtain ⟨n, hn⟩ : ∃ n, n = a.length := ⟨_, rfl⟩
  obtain ⟨m, hm⟩ : ∃ m, m = b.length := ⟨_, rfl⟩
  rw [← hn, ← hm]
  have HA := Lib.hid ha
  have HB := Lib.hid hb
  have FA := Lib.hid (gaussFact_any w)
  clear ha hb
  rcases Add_or A B a b n m c d hn.symm hm.symm with ⟨r, q, f, f', sa, sb⟩ | bad
  · have hr := sa.len
    rw [← hn] at hr
    subst hr
    have hq := sb.len
    rw [← hm] at hq
    subst hq
    have SA := Lib.hid sa
    have SB := Lib.hid sb
    have n5 := sa.r5
    clear hn hm sa sb
    go_enter Try.func4, Try.ntmps4
    go_wp2_with fail
    refine (FA.out).mono ?_; rintro e w1 ⟨rfl, k1⟩
    have K1 := Lib.hid k1; clear k1
    go_wp2_with fail
    refine (Add_sh SA.out SB.out c d w1 (HA.out.keep K1.out) (HB.out.keep K1.out)).mono ?_; rintro e w2 ⟨A2, c2, rfl, l2, k2⟩
    have K2 := Lib.hid (K1.out.trans k2); have L2 := Lib.hid l2; clear k2 l2
    go_wp2_with fail
    refine (Rank_sh SA.out c w2 (HA.out.keep K2.out)).mono ?_; rintro e w3 ⟨b1, g1, s1, rfl, k3⟩
    have S1 := Lib.hid s1; have K23 := Lib.hid k3; have K3 := Lib.hid (K2.out.trans k3); clear k3 s1
    go_wp2_with fail
    refine (Rank_sh SB.out d w3 (HB.out.keep K3.out)).mono ?_; rintro e w4 ⟨b2, g2, s2, rfl, k4⟩
    have S2 := Lib.hid s2; have K24 := Lib.hid (K23.out.trans k4); have K4 := Lib.hid (K3.out.trans k4); clear k4 s2
    go_wp2_with fail
    refine (Rank_sh (SA.out.plus (f' := f')) c2 w4 (L2.out.keep K24.out)).mono ?_; rintro e w5 ⟨b3, g3, s3, rfl, k5⟩
    have K5 := Lib.hid (K4.out.trans k5); clear k5
    obtain ⟨y1, y2, y3⟩ := rank_plus S1.out S2.out s3
    have x1 := S1.out.le
    have x2 := S2.out.le
    have x3 := s3.le
    clear s3 S1 S2
    generalize b1.length = p at *
    generalize b2.length = q at *
    generalize b3.length = s at *
    go_wp2_with fail
    go_ret
    exact ⟨ret_bool (by simp; omega), K5.out⟩
  · have BAD := Lib.hid bad
    clear hn hm bad
    go_enter Try.func4, Try.ntmps4
    go_wp2_with fail
    refine (FA.out).mono ?_; rintro e w1 ⟨rfl, k1⟩
    have K1 := Lib.hid k1; clear k1
    go_wp2_with fail
    refine (BAD.out w1 (HA.out.keep K1.out) (HB.out.keep K1.out)).mono ?_; rintro e w2 ⟨z, rfl, k2⟩
    have K2 := Lib.hid k2; clear k2
    go_wp2_with fail
    go_ret
    exact ⟨rfl, K1.out.trans K2.out⟩
end Go.Proofs.Ytmgkcdoephakhaa
