/- The law DetMul. -/
import Derived.Test.YtfjajcfcbjmbpaaDeFact
import Derived.Test.YtfjajcfcbjmbpaaMtFact
import Derived.Test.YtfjajcfcbjmbpaaLawIn
import Derived.Test.YtfjajcfcbjmbpaaFldRef
namespace Go.Proofs.Ytfjajcfcbjmbpaa
open Go.ChangeShapes Go.WideShapes Go.ChangeAt Go.RowKit
set_option linter.unusedVariables false

theorem in_el (x : Fp.F) : (decide ((0 : Int) ≤ (x.val : Int)) && decide ((x.val : Int) ≤ 9972)) = true := by
  have := gval x
  simp; omega

set_option maxRecDepth 100000 in
set_option maxHeartbeats 3200000 in
theorem walk_DetMul (A : Option Addr) (a : List (List Int)) (c : Nat) (B : Option Addr) (b : List (List Int)) (d : Nat) (w : World) (ha : LiesM w A a) (hb : LiesM w B b) :
    Calls Try.prog 3 #[.slice A a.length c, .slice B b.length d] w fun e w' => e = .returned (.bool true) ∧ Kp w w' := by
  obtain ⟨n, hn⟩ : ∃ n, n = a.length := ⟨_, rfl⟩
  obtain ⟨m, hm⟩ : ∃ m, m = b.length := ⟨_, rfl⟩
  rw [← hn, ← hm]
  have HA := Lib.hid ha
  have HB := Lib.hid hb
  have FA := Lib.hid (detFact_any w)
  clear ha hb
  rcases Of_or A a n c hn.symm with ⟨f, sa⟩ | bad
  · have SA := Lib.hid sa
    have n0 := sa.r0
    have n5 := sa.r5
    have TF := Lib.hid (Mx.dt_flip n f)
    obtain ⟨x, hx⟩ : ∃ x, x = Mx.dt n f := ⟨_, rfl⟩
    have HX := Lib.hid hx
    have IX := Lib.hid (fun w => law2In_any (x.val : Int) 0 9972 w true (in_el x))
    have OA := Lib.hid (fun w h => Of_sh (A := A) sa c w h)
    rw [← hx] at OA TF
    have OB := Lib.hid (fun A d w h => Of_sh (A := A) sa.flip d w h)
    rw [TF.out] at OB
    have e0 : ((x.val : Int) != (x.val : Int)) = false := by simp
    have hxv := gval x
    have SM := Lib.hid (show Sh n n f (Mx.matl n n f) from sa.mat)
    have HMM := Lib.hid hm
    clear hn sa hx TF hm
    go_enter Try.func3, Try.ntmps3
    go_wp2_with fail
    refine (FA.out).mono ?_; rintro e w1 ⟨rfl, k1⟩
    have K1 := Lib.hid k1; clear k1
    go_wp2_with fail
    refine (OA.out w1 (HA.out.keep K1.out)).mono ?_; rintro e w2 ⟨rfl, k2⟩
    have K2 := Lib.hid (K1.out.trans k2); clear k2
    go_wp2_with fail
    refine (Turn_sh SA.out c w2 (HA.out.keep K2.out)).mono ?_; rintro e w3 ⟨A3, c3, rfl, l3, k3⟩
    have K3 := Lib.hid (K2.out.trans k3); have L3 := Lib.hid l3; clear k3 l3
    go_wp2_with fail
    refine (OB.out A3 c3 w3 L3.out).mono ?_; rintro e w4 ⟨rfl, k4⟩
    have K4 := Lib.hid (K3.out.trans k4); clear k4
    go_wp2_with fail
    refine (IX.out w4).mono ?_; rintro e w5 ⟨rfl, rfl⟩
    go_wp2_with fail
    rcases Of_or B b m d HMM.out.symm with ⟨g, sb⟩ | bad
    · have SB := Lib.hid sb
      have m0 := sb.r0
      have m5 := sb.r5
      obtain ⟨y, hy⟩ : ∃ y, y = Mx.dt m g := ⟨_, rfl⟩
      have HY := Lib.hid hy
      have OC := Lib.hid (fun w h => Of_sh (A := B) sb d w h)
      rw [← hy] at OC
      have IY := Lib.hid (fun w => law2In_any (y.val : Int) 0 9972 w true (in_el y))
      have hyv := gval y
      clear sb hy
      refine (OC.out w4 (HB.out.keep K4.out)).mono ?_; rintro e w6 ⟨rfl, k6⟩
      have K6 := Lib.hid (K4.out.trans k6); clear k6
      by_cases hnm : n = m
      · subst hnm
        have hd : Mx.dt n (Mx.mul n f g) = x * y := by rw [Mx.dt_mul, HX.out, HY.out]
        have OM := Lib.hid (fun A d w h => Of_sh (A := A) (SA.out.mul SB.out) d w h)
        rw [hd] at OM
        have hb : 0 ≤ (x.val : Int) * (y.val : Int) ∧ (x.val : Int) * (y.val : Int) ≤ 99440784 := times_bound x y
        have MM := Lib.hid (fun w => refMod_any ((x.val : Int) * (y.val : Int)) w (by omega) (by omega))
        rw [← Fp.mul_val] at MM
        have e1 : ((n : Int) != (n : Int)) = false := by simp
        generalize x * y = xy at *
        generalize (x.val : Int) = xv at *
        generalize (y.val : Int) = yv at *
        have hwm : IntKind.i64.wrap (xv * yv) = xv * yv := IntWalk.i64_in _ (by omega)
        clear hd hb
        go_wp2_with fail
        refine (Mul_sh SA.out SB.out c d w6 (HA.out.keep K6.out) (HB.out.keep K6.out)).mono ?_; rintro e w7 ⟨A7, c7, rfl, l7, k7⟩
        have K7 := Lib.hid (K6.out.trans k7); have L7 := Lib.hid l7; clear k7 l7
        go_wp2_with fail
        refine (OM.out A7 c7 w7 L7.out).mono ?_; rintro e w8 ⟨rfl, k8⟩
        have K8 := Lib.hid (K7.out.trans k8); clear k8
        go_wp2_with fail
        refine (IY.out w8).mono ?_; rintro e w9 ⟨rfl, rfl⟩
        go_wp2_with fail
        refine (MM.out w8).mono ?_; rintro e w9 ⟨rfl, rfl⟩
        go_wp2_with fail
        go_ret
        exact ⟨ret_bool (by simp), K8.out⟩
      · have e1 : ((n : Int) != (m : Int)) = true := by rw [bne_iff_ne]; omega
        clear hnm
        go_wp2_with fail
        go_ret
        exact ⟨ret_bool (by simp), K6.out⟩
    · have BAD := Lib.hid bad
      clear bad
      refine (BAD.out w4 (HB.out.keep K4.out)).mono ?_; rintro e w6 ⟨z, rfl, k6⟩
      have K6 := Lib.hid (K4.out.trans k6); clear k6
      go_wp2_with fail
      go_ret
      exact ⟨ret_bool (by simp), K6.out⟩
  · have BAD := Lib.hid bad
    clear hn hm bad
    go_enter Try.func3, Try.ntmps3
    go_wp2_with fail
    refine (FA.out).mono ?_; rintro e w1 ⟨rfl, k1⟩
    have K1 := Lib.hid k1; clear k1
    go_wp2_with fail
    refine (BAD.out w1 (HA.out.keep K1.out)).mono ?_; rintro e w2 ⟨z, rfl, k2⟩
    have K2 := Lib.hid (K1.out.trans k2); clear k2
    go_wp2_with fail
    go_ret
    exact ⟨rfl, K2.out⟩

end Go.Proofs.Ytfjajcfcbjmbpaa
