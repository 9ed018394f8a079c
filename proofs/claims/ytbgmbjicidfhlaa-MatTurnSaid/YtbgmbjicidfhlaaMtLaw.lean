/- The laws MatTurn, MatPow and MatRing. -/
import Derived.Test.YtbgmbjicidfhlaaMtFact
namespace Go.Proofs.Ytbgmbjicidfhlaa
open Go.ChangeShapes Go.WideShapes Go.ChangeAt Go.RowKit
set_option linter.unusedVariables false

theorem same_mat {A B : Option Addr} {r c : Nat} {f g : Nat → Nat → Fp.F} {a b : List (List Int)} (sa : Sh r c f a) (sb : Sh r c g b) (h : Mx.Eqm r c f g) (d e : Nat) (w : World) (ha : LiesM w A a) (hb : LiesM w B b) :
    Calls Try.prog 8 #[.slice A r d, .slice B r e] w fun e w' => e = .returned (.bool true) ∧ Kp w w' :=
  rows_eq A B a b r r d e w ha hb sa.len sb.len sa.modest sb.modest (by rw [sa.eq, sb.eq, h.mat])

set_option maxRecDepth 100000 in
set_option maxHeartbeats 3200000 in
theorem walk_MatTurn (A : Option Addr) (a : List (List Int)) (c : Nat) (B : Option Addr) (b : List (List Int)) (d : Nat) (w : World) (ha : LiesM w A a) (hb : LiesM w B b) :
    Calls Try.prog 4 #[.slice A a.length c, .slice B b.length d] w fun e w' => e = .returned (.bool true) ∧ Kp w w' := by
  obtain ⟨n, hn⟩ : ∃ n, n = a.length := ⟨_, rfl⟩
  obtain ⟨m, hm⟩ : ∃ m, m = b.length := ⟨_, rfl⟩
  rw [← hn, ← hm]
  have HA := Lib.hid ha
  have HB := Lib.hid hb
  have FA := Lib.hid (matFact_any w)
  clear ha hb
  rcases Turn_or A a n c hn.symm with ⟨r, q, f, sa⟩ | bad
  · have hr := sa.len
    rw [← hn] at hr
    subst hr
    have SA := Lib.hid sa
    rcases Mul_or A B a b n m c d hn.symm hm.symm with ⟨r', q', k, f1, f2, sa', sb⟩ | bad
    · have e1 := sa.eq.symm.trans sa'.eq
      obtain ⟨rfl, rfl, hf⟩ := Mx.matl_inj sa.r0 e1
      have hq := sb.len
      rw [← hm] at hq
      subst hq
      have SB := Lib.hid sb
      have HF := Lib.hid hf
      clear hn hm e1 sa sa' sb hf
      go_enter Try.func4, Try.ntmps4
      go_wp2_with fail
      refine (FA.out).mono ?_; rintro e w1 ⟨rfl, k1⟩
      have K1 := Lib.hid k1; clear k1
      go_wp2_with fail
      refine (Turn_sh SA.out c w1 (HA.out.keep K1.out)).mono ?_; rintro e w2 ⟨A2, c2, rfl, l2, k2⟩
      have K2 := Lib.hid k2; have L2 := Lib.hid l2; clear k2 l2
      go_wp2_with fail
      refine (Turn_sh SA.out.flip c2 w2 L2.out).mono ?_; rintro e w3 ⟨A3, c3, rfl, l3, k3⟩
      have K3 := Lib.hid k3; have L3 := Lib.hid l3; clear k3 l3
      go_wp2_with fail
      refine (same_mat SA.out.mat SA.out (Mx.Eqm.rfl' _ _ _) c3 c w3 L3.out (HA.out.keep ((K1.out.trans K2.out).trans K3.out))).mono ?_; rintro e w4 ⟨rfl, k4⟩
      have K4 := Lib.hid (((K1.out.trans K2.out).trans K3.out).trans k4); have K24 := Lib.hid (K3.out.trans k4); clear k4
      go_wp2_with fail
      refine (Mul_sh SA.out SB.out c d w4 (HA.out.keep K4.out) (HB.out.keep K4.out)).mono ?_; rintro e w5 ⟨A5, c5, rfl, l5, k5⟩
      have K5 := Lib.hid k5; have L5 := Lib.hid l5; clear k5 l5
      go_wp2_with fail
      refine (Turn_sh SB.out d w5 (HB.out.keep (K4.out.trans K5.out))).mono ?_; rintro e w6 ⟨A6, c6, rfl, l6, k6⟩
      have K6 := Lib.hid k6; have L6 := Lib.hid l6; clear k6 l6
      go_wp2_with fail
      refine (Turn_sh (SA.out.mul SB.out) c5 w6 (L5.out.keep K6.out)).mono ?_; rintro e w7 ⟨A7, c7, rfl, l7, k7⟩
      have K7 := Lib.hid k7; have L7 := Lib.hid l7; clear k7 l7
      go_wp2_with fail
      refine (Mul_sh SB.out.flip SA.out.flip c6 c2 w7 (L6.out.keep K7.out) (L2.out.keep (((K24.out.trans K5.out).trans K6.out).trans K7.out))).mono ?_; rintro e w8 ⟨A8, c8, rfl, l8, k8⟩
      have K8 := Lib.hid k8; have L8 := Lib.hid l8; clear k8 l8
      go_wp2_with fail
      refine (same_mat (SA.out.mul SB.out).flip (SB.out.flip.mul SA.out.flip) (by rw [Mx.flip_mul]; exact Mx.Eqm.rfl' _ _ _) c7 c8 w8 (L7.out.keep K8.out) L8.out).mono ?_; rintro e w9 ⟨rfl, k9⟩
      have K9 := Lib.hid k9; clear k9
      go_wp2_with fail
      go_ret
      exact ⟨rfl, ((((K4.out.trans K5.out).trans K6.out).trans K7.out).trans K8.out).trans K9.out⟩
    · have BAD := Lib.hid bad
      clear hn hm sa bad
      go_enter Try.func4, Try.ntmps4
      go_wp2_with fail
      refine (FA.out).mono ?_; rintro e w1 ⟨rfl, k1⟩
      have K1 := Lib.hid k1; clear k1
      go_wp2_with fail
      refine (Turn_sh SA.out c w1 (HA.out.keep K1.out)).mono ?_; rintro e w2 ⟨A2, c2, rfl, l2, k2⟩
      have K2 := Lib.hid k2; have L2 := Lib.hid l2; clear k2 l2
      go_wp2_with fail
      refine (Turn_sh SA.out.flip c2 w2 L2.out).mono ?_; rintro e w3 ⟨A3, c3, rfl, l3, k3⟩
      have K3 := Lib.hid k3; have L3 := Lib.hid l3; clear k3 l3
      go_wp2_with fail
      refine (same_mat SA.out.mat SA.out (Mx.Eqm.rfl' _ _ _) c3 c w3 L3.out (HA.out.keep ((K1.out.trans K2.out).trans K3.out))).mono ?_; rintro e w4 ⟨rfl, k4⟩
      have K4 := Lib.hid (((K1.out.trans K2.out).trans K3.out).trans k4); clear k4
      go_wp2_with fail
      refine (BAD.out w4 (HA.out.keep K4.out) (HB.out.keep K4.out)).mono ?_; rintro e w5 ⟨z, rfl, k5⟩
      have K5 := Lib.hid k5; clear k5
      go_wp2_with fail
      go_ret
      exact ⟨rfl, K4.out.trans K5.out⟩
  · have BAD := Lib.hid bad
    clear hn hm bad
    go_enter Try.func4, Try.ntmps4
    go_wp2_with fail
    refine (FA.out).mono ?_; rintro e w1 ⟨rfl, k1⟩
    have K1 := Lib.hid k1; clear k1
    go_wp2_with fail
    refine (BAD.out w1 (HA.out.keep K1.out)).mono ?_; rintro e w2 ⟨z, rfl, k2⟩
    have K2 := Lib.hid k2; clear k2
    go_wp2_with fail
    go_ret
    exact ⟨rfl, K1.out.trans K2.out⟩

theorem law2In_any (n a b : Int) (w : World) (t : Bool) (h : (decide (a ≤ n) && decide (n ≤ b)) = t) :
    Calls Try.prog 12 #[.int .i64 n, .int .i64 a, .int .i64 b] w fun e w' => e = .returned (.bool t) ∧ w = w' := by
  have H := Lib.hid h
  clear h
  by_cases h1 : a ≤ n
  · by_cases h2 : n ≤ b
    · go_enter Try.func12, Try.ntmps12
      go_wp2
      go_ret
      exact ⟨ret_bool (by rw [← H.out]; simp [h1, h2]), rfl⟩
    · go_enter Try.func12, Try.ntmps12
      go_wp2
      go_ret
      exact ⟨ret_bool (by rw [← H.out]; simp [h1]; omega), rfl⟩
  · go_enter Try.func12, Try.ntmps12
    go_wp2
    go_ret
    exact ⟨ret_bool (by rw [← H.out]; simp; omega), rfl⟩

set_option maxRecDepth 100000 in
set_option maxHeartbeats 3200000 in
theorem walk_MatPow (A : Option Addr) (a : List (List Int)) (c : Nat) (n m : Int) (w : World) (ha : LiesM w A a) :
    Calls Try.prog 5 #[.slice A a.length c, .int .i64 n, .int .i64 m] w fun e w' => e = .returned (.bool true) ∧ Kp w w' := by
  obtain ⟨r, hr⟩ : ∃ r, r = a.length := ⟨_, rfl⟩
  rw [← hr]
  have HA := Lib.hid ha
  have FA := Lib.hid (matFact_any w)
  clear ha
  have I1 := Lib.hid (fun w => law2In_any n 0 30 w _ rfl)
  have I2 := Lib.hid (fun w => law2In_any m 0 30 w _ rfl)
  by_cases hn : 0 ≤ n ∧ n ≤ 30
  · rw [show (decide (0 ≤ n) && decide (n ≤ 30)) = true by simp [hn]] at I1
    by_cases hm : 0 ≤ m ∧ m ≤ 30
    · rw [show (decide (0 ≤ m) && decide (m ≤ 30)) = true by simp [hm]] at I2
      obtain ⟨n, rfl⟩ := Int.eq_ofNat_of_zero_le hn.1
      obtain ⟨m, rfl⟩ := Int.eq_ofNat_of_zero_le hm.1
      have n30 : n ≤ 30 := by omega
      have m30 : m ≤ 30 := by omega
      have nm : n * m ≤ 900 := Nat.le_trans (Nat.mul_le_mul n30 m30) (by decide)
      rcases Pow_or A a r c (n : Int) hr.symm with ⟨r', f, sa⟩ | bad
      · have hr' := sa.len
        rw [← hr] at hr'
        subst hr'
        have SA := Lib.hid sa
        have P3 := Lib.hid (fun w h => Pow_sh (A := A) sa c (n + m) w h (by omega))
        have P4 := Lib.hid (fun w h => Pow_sh (A := A) sa c (n * m) w h (by omega))
        rw [Int.natCast_add] at P3
        rw [Int.natCast_mul] at P4
        have E1 := Lib.hid (Mx.pwm_add r f n m)
        have E2 := Lib.hid (Mx.pwm_mul r f n m)
        have hw : IntKind.i64.wrap ((n : Int) * (m : Int)) = (n : Int) * (m : Int) := IntWalk.i64_in _ (by rw [← Int.natCast_mul]; omega)
        have hw2 : wrap64 ((n : Int) * (m : Int)) = (n : Int) * (m : Int) := wrap64_id (by rw [← Int.natCast_mul]; omega)
        clear hr sa hn hm nm
        go_enter Try.func5, Try.ntmps5
        go_wp2_with fail
        refine (FA.out).mono ?_; rintro e w1 ⟨rfl, k1⟩
        have K1 := Lib.hid k1; clear k1
        go_wp2_with fail
        refine (I1.out _).mono ?_; rintro e w' ⟨rfl, rfl⟩
        go_wp2_with fail
        refine (I2.out _).mono ?_; rintro e w' ⟨rfl, rfl⟩
        go_wp2_with fail
        refine (Pow_sh SA.out c n w1 (HA.out.keep K1.out) (by omega)).mono ?_; rintro e w2 ⟨A2, c2, rfl, l2, k2⟩
        have K2 := Lib.hid (K1.out.trans k2); have L2 := Lib.hid l2; clear k2 l2
        go_wp2_with fail
        refine (Pow_sh SA.out c m w2 (HA.out.keep K2.out) (by omega)).mono ?_; rintro e w3 ⟨A3, c3, rfl, l3, k3⟩
        have K23 := Lib.hid k3; have K3 := Lib.hid (K2.out.trans k3); have L3 := Lib.hid l3; clear k3 l3
        go_wp2_with fail
        refine (P3.out w3 (HA.out.keep K3.out)).mono ?_; rintro e w4 ⟨A4, c4, rfl, l4, k4⟩
        have K34 := Lib.hid k4; have K4 := Lib.hid (K3.out.trans k4); have L4 := Lib.hid l4; clear k4 l4
        go_wp2_with fail
        refine (P4.out w4 (HA.out.keep K4.out)).mono ?_; rintro e w5 ⟨A5, c5, rfl, l5, k5⟩
        have K45 := Lib.hid k5; have L5 := Lib.hid l5; clear k5 l5
        go_wp2_with fail
        have K25 := Lib.hid ((K23.out.trans K34.out).trans K45.out)
        refine (Pow_sh (SA.out.pow n) c2 m w5 (L2.out.keep K25.out) (by omega)).mono ?_; rintro e w6 ⟨A6, c6, rfl, l6, k6⟩
        have K56 := Lib.hid k6; have L6 := Lib.hid l6; clear k6 l6
        go_wp2_with fail
        refine (Mul_sh (SA.out.pow n) (SA.out.pow m) c2 c3 w6 (L2.out.keep (K25.out.trans K56.out)) (L3.out.keep ((K34.out.trans K45.out).trans K56.out))).mono ?_; rintro e w7 ⟨A7, c7, rfl, l7, k7⟩
        have K67 := Lib.hid k7; have L7 := Lib.hid l7; clear k7 l7
        go_wp2_with fail
        refine (same_mat ((SA.out.pow n).mul (SA.out.pow m)) (SA.out.pow (n + m)) E1.out c7 c4 w7 L7.out (L4.out.keep ((K45.out.trans K56.out).trans K67.out))).mono ?_; rintro e w8 ⟨rfl, k8⟩
        have K78 := Lib.hid k8; clear k8
        go_wp2_with fail
        refine (same_mat ((SA.out.pow n).pow m) (SA.out.pow (n * m)) E2.out c6 c5 w8 (L6.out.keep (K67.out.trans K78.out)) (L5.out.keep ((K56.out.trans K67.out).trans K78.out))).mono ?_; rintro e w9 ⟨rfl, k9⟩
        have K89 := Lib.hid k9; clear k9
        go_wp2_with fail
        go_ret
        exact ⟨rfl, ((((K2.out.trans K25.out).trans K56.out).trans K67.out).trans K78.out).trans K89.out⟩
      · have BAD := Lib.hid bad
        clear hr bad hn hm nm
        go_enter Try.func5, Try.ntmps5
        go_wp2_with fail
        refine (FA.out).mono ?_; rintro e w1 ⟨rfl, k1⟩
        have K1 := Lib.hid k1; clear k1
        go_wp2_with fail
        refine (I1.out _).mono ?_; rintro e w' ⟨rfl, rfl⟩
        go_wp2_with fail
        refine (I2.out _).mono ?_; rintro e w' ⟨rfl, rfl⟩
        go_wp2_with fail
        refine (BAD.out w1 (HA.out.keep K1.out)).mono ?_; rintro e w2 ⟨z, rfl, k2⟩
        have K2 := Lib.hid k2; clear k2
        go_wp2_with fail
        go_ret
        exact ⟨rfl, K1.out.trans K2.out⟩
    · rw [show (decide (0 ≤ m) && decide (m ≤ 30)) = false by simp; omega] at I2
      clear hr hn hm
      go_enter Try.func5, Try.ntmps5
      go_wp2_with fail
      refine (FA.out).mono ?_; rintro e w1 ⟨rfl, k1⟩
      have K1 := Lib.hid k1; clear k1
      go_wp2_with fail
      refine (I1.out _).mono ?_; rintro e w' ⟨rfl, rfl⟩
      go_wp2_with fail
      refine (I2.out _).mono ?_; rintro e w' ⟨rfl, rfl⟩
      go_wp2_with fail
      go_ret
      exact ⟨rfl, K1.out⟩
  · rw [show (decide (0 ≤ n) && decide (n ≤ 30)) = false by simp; omega] at I1
    clear hr hn
    go_enter Try.func5, Try.ntmps5
    go_wp2_with fail
    refine (FA.out).mono ?_; rintro e w1 ⟨rfl, k1⟩
    have K1 := Lib.hid k1; clear k1
    go_wp2_with fail
    refine (I1.out _).mono ?_; rintro e w' ⟨rfl, rfl⟩
    go_wp2_with fail
    go_ret
    exact ⟨rfl, K1.out⟩

end Go.Proofs.Ytbgmbjicidfhlaa
