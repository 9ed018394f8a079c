/- The law PfaffSwap. (Made by tools/gen_PfSwp.py.) -/
import Derived.Deep.Cut
import Derived.Deep.CutRange
import Derived.Deep.DeepCutAuto
import Derived.Test.YtkebjmapdcbnaaaPfLaw
import Derived.Test.YtkebjmapdcbnaaaZRef
import Derived.Test.YtkebjmapdcbnaaaZFlip
namespace Go.Proofs.Ytkebjmapdcbnaaa
open Go.ChangeShapes Go.WideShapes Go.ChangeAt Go.RowKit
set_option linter.unusedVariables false

theorem flip_swapped (f : Nat → Nat → Int) (n p q : Nat) : Mx.tab n n (Zx.flip (Zx.setr q (Zx.flip (Zx.setr q (f p) (Zx.setr p (f q) f)) p) (Zx.setr p (Zx.flip (Zx.setr q (f p) (Zx.setr p (f q) f)) q) (Zx.flip (Zx.setr q (f p) (Zx.setr p (f q) f)))))) =
    Mx.tab n n fun a b => f (Mx.sw p q a) (Mx.sw p q b) := Mx.tab_ext fun a b _ _ => by
  unfold Zx.flip Zx.setr Mx.sw
  grind

set_option maxRecDepth 100000 in
set_option maxHeartbeats 12800000 in
theorem walk_PfaffSwap (A : Option Addr) (m : List (List Int)) (d : Nat) (i j : Int) (w : World) (ha : LiesM w A m) :
    Calls Try.prog 4 #[.slice A m.length d, .int .i64 i, .int .i64 j] w fun e w' => e = .returned (.bool true) ∧ Kp w w' := by
  obtain ⟨n, hn⟩ : ∃ n, n = m.length := ⟨_, rfl⟩
  rw [← hn]
  have HA := Lib.hid ha
  have FA := Lib.hid (pfaffFact_any w)
  rcases POf_or A m n d hn.symm with ⟨f, s⟩ | ⟨z, _, hz, bad⟩
  · have OA := Lib.hid (fun w h => POf_ok A m f n d w s h)
    have n0 := s.n0
    have n6 := s.n6
    have bd := s.bound
    have NEG := pf_neg s.n6 (f := f) (g := Zx.flip f) fun a b => s.skw b a
    have hm := ha
    rw [s.eq] at hm
    have HM := Lib.hid hm
    have OF := Lib.hid (fun A' d' w' h => POf_ok A' _ (Zx.flip f) n d' w' s.flip h)
    have PS := Lib.hid (fun (p q : Nat) (hp : p < n) (hq : q < n) (hpq : p ≠ q) => Zx.pf_swap s.n6 hp hq hpq s.skw)
    have SS := Lib.hid s
    obtain ⟨v, hv⟩ : ∃ v, v = Zx.pf n f := ⟨_, rfl⟩
    rw [← hv] at OA bd NEG
    have HV := Lib.hid hv
    have hneg : IntKind.i64.wrap (-v) = -v := IntWalk.i64_in _ (by omega)
    obtain ⟨r, hr⟩ : ∃ r, r = n % 4 := ⟨_, rfl⟩
    rw [← hr] at NEG
    have hrem : (n : Int).tmod 4 = (r : Int) := by rw [Int.tmod_eq_emod_of_nonneg (by omega)]; omega
    have hn1 : IntKind.i64.wrap ((n : Int) - 1) = (n : Int) - 1 := IntWalk.i64_in _ (by omega)
    have e1 : ((-v) != (-v)) = false := by simp
    have e2 : (v != v) = false := by simp
    have e3 : ((-v) == (-v)) = true := by simp
    clear hm s ha hn hv hr
    by_cases h2 : r = 2
    · subst h2
      rw [NEG.1 rfl] at OF
      clear NEG
      by_cases hi : 0 ≤ i ∧ i ≤ (n : Int) - 1
      · obtain ⟨p, rfl⟩ : ∃ p : Nat, i = (p : Int) := ⟨i.toNat, by omega⟩
        have hp : p < n := by omega
        have II := Lib.hid (fun w => law4In_any (p : Int) 0 ((n : Int) - 1) w true (by simp; omega))
        clear hi
        by_cases hj : 0 ≤ j ∧ j ≤ (n : Int) - 1
        · obtain ⟨q, rfl⟩ : ∃ q : Nat, j = (q : Int) := ⟨j.toNat, by omega⟩
          have hq : q < n := by omega
          have IJ := Lib.hid (fun w => law4In_any (q : Int) 0 ((n : Int) - 1) w true (by simp; omega))
          clear hj
          by_cases hpq : p = q
          · have e0 : ((p : Int) == (q : Int)) = true := by rw [hpq]; simp
            clear hpq
            go_enter Try.func4, Try.ntmps4
            go_wp2_with fail
            refine (FA.out).mono ?_; rintro e w1 ⟨rfl, k1⟩
            have K1 := Lib.hid k1; clear k1
            go_wp2_with fail
            refine (OA.out w1 (HA.out.keep K1.out)).mono ?_; rintro e w2 ⟨rfl, k2⟩
            have K2 := Lib.hid (K1.out.trans k2); clear k2
            go_wp2_with fail
            refine (rFlipZ_any A f n n d w2 (HM.out.keep K2.out) n0 (by omega) (by omega)).mono ?_; rintro e w3 ⟨A3, d3, rfl, l3, k3⟩
            have K3 := Lib.hid (K2.out.trans k3)
            have L3 := Lib.hid l3
            clear k3 l3
            go_wp2_with fail
            refine (OF.out A3 d3 w3 L3.out).mono ?_; rintro e w4 ⟨rfl, k4⟩
            have K4 := Lib.hid (K3.out.trans k4); clear k4 L3
            go_wp2_with fail
            refine (II.out w4).mono ?_; rintro e w5 ⟨rfl, rfl⟩
            go_wp2_with fail
            refine (IJ.out w4).mono ?_; rintro e w5 ⟨rfl, rfl⟩
            go_wp2_with fail
            go_ret
            exact ⟨rfl, K4.out⟩
          · have e0 : ((p : Int) == (q : Int)) = false := by rw [beq_eq_false_iff_ne]; omega
            have HPQ := Lib.hid hpq
            clear hpq
            go_enter Try.func4, Try.ntmps4
            go_wp2_with fail
            refine (FA.out).mono ?_; rintro e w1 ⟨rfl, k1⟩
            have K1 := Lib.hid k1; clear k1
            go_wp2_with fail
            refine (OA.out w1 (HA.out.keep K1.out)).mono ?_; rintro e w2 ⟨rfl, k2⟩
            have K2 := Lib.hid (K1.out.trans k2); clear k2
            go_wp2_with fail
            refine (rFlipZ_any A f n n d w2 (HM.out.keep K2.out) n0 (by omega) (by omega)).mono ?_; rintro e w3 ⟨A3, d3, rfl, l3, k3⟩
            have K3 := Lib.hid (K2.out.trans k3)
            have L3 := Lib.hid l3
            clear k3 l3
            go_wp2_with fail
            refine (OF.out A3 d3 w3 L3.out).mono ?_; rintro e w4 ⟨rfl, k4⟩
            have K4 := Lib.hid (K3.out.trans k4); clear k4 L3
            go_wp2_with fail
            refine (II.out w4).mono ?_; rintro e w5 ⟨rfl, rfl⟩
            go_wp2_with fail
            refine (IJ.out w4).mono ?_; rintro e w5 ⟨rfl, rfl⟩
            go_wp2_with fail
            refine (rCopyZ_any A f n n d w4 (HM.out.keep K4.out) n0 (by omega) (by omega)).mono ?_; rintro e w5 ⟨V5, G5, C5, rfl, ho, k5⟩
            obtain ⟨g, gc, rfl, hg⟩ := ho.some (by rw [Mx.len_tab]; exact n0)
            rw [Mx.len_tab] at ho ⊢
            have X5 := Lib.hid (MxW.of ho hg)
            have K5 := Lib.hid (K4.out.trans k5)
            have gw := Nat.le_trans K4.out.size hg
            clear ho k5 hg
            obtain ⟨adm, Aq, dq, rfl, hlm, y1, cq, lq⟩ := (HM.out.keep K5.out).row hq
            obtain ⟨Ah, dh, y2, _, _⟩ := X5.out.head hp
            have y3 := X5.out.free p
            have X6 := Lib.hid (X5.out.put hp lq cq)
            have K6 := Lib.hid (K5.out.put (p := ⟨g, p, none⟩) gw (.slice Aq n dq))
            clear lq
            go_upto_region 15 with (fail)
            clear y1 y2 y3 X5 cq
            obtain ⟨w6, hw6⟩ : ∃ x, x = w5.setCell ⟨g, p, none⟩ (.slice Aq n dq) := ⟨_, rfl⟩
            rw [← hw6] at X6 K6 ⊢
            obtain ⟨adm', Ap, dp, ea, _, z1, cp, lp⟩ := (HM.out.keep K6.out).row hp
            obtain rfl := Option.some.inj ea
            obtain ⟨Ah2, dh2, z2, _, _⟩ := X6.out.head hq
            have z3 := X6.out.free q
            have X7 := Lib.hid (X6.out.put hq lp cp)
            have K7 := Lib.hid (K6.out.put (p := ⟨g, q, none⟩) gw (.slice Ap n dp))
            clear lp ea hw6 K5 hlm
            go_upto_region 16 with (fail)
            clear z1 z2 z3 X6 cp K6
            obtain ⟨w7, hw7⟩ : ∃ x, x = w6.setCell ⟨g, q, none⟩ (.slice Ap n dp) := ⟨_, rfl⟩
            rw [← hw7] at X7 K7 ⊢
            clear hw7
            go_wp2_with fail
            refine (rFlipZ_own (some ⟨g, 0, none⟩) _ n n gc w7 X7.out.lies n0 (by omega) (by omega)).mono ?_; rintro e w8 ⟨V8, G8, C8, rfl, ho, k8⟩
            obtain ⟨g8, gc8, rfl, hg8⟩ := ho.some (by rw [Mx.len_tab]; exact n0)
            rw [Mx.len_tab] at ho ⊢
            have X8 := Lib.hid (MxW.of ho hg8)
            have K8 := Lib.hid (K7.out.trans k8)
            have gw8 := Nat.le_trans K7.out.size hg8
            clear ho k8 hg8 X7
            obtain ⟨Bp, bp, t1, cbp, lbp⟩ := X8.out.head hp
            obtain ⟨Bq, bq, t2, cbq, lbq⟩ := X8.out.head hq
            have t3 := X8.out.free p
            have X9 := Lib.hid (X8.out.put hp lbq cbq)
            have K9 := Lib.hid (K8.out.put (p := ⟨g8, p, none⟩) gw8 (.slice Bq n bq))
            have LB := Lib.hid (lies_headPut lbp t1 (.slice Bq n bq))
            clear lbp lbq
            go_upto_region 19 with (fail)
            clear t1 t2 t3 X8 cbq
            obtain ⟨w9, hw9⟩ : ∃ x, x = w8.setCell ⟨g8, p, none⟩ (.slice Bq n bq) := ⟨_, rfl⟩
            rw [← hw9] at X9 K9 LB ⊢
            obtain ⟨Ah3, dh3, r2, _, _⟩ := X9.out.head hq
            have r3 := X9.out.free q
            have X10 := Lib.hid (X9.out.put hq LB.out cbp)
            have K10 := Lib.hid (K9.out.put (p := ⟨g8, q, none⟩) gw8 (.slice Bp n bp))
            clear hw9
            go_upto_region 20 with (fail)
            clear r2 r3 X9 cbp
            obtain ⟨w10, hw10⟩ : ∃ x, x = w9.setCell ⟨g8, q, none⟩ (.slice Bp n bp) := ⟨_, rfl⟩
            rw [← hw10] at X10 K10 ⊢
            clear hw10
            go_wp2_with fail
            refine (rFlipZ_any (some ⟨g8, 0, none⟩) _ n n gc8 w10 X10.out.lies n0 (by omega) (by omega)).mono ?_; rintro e w11 ⟨A11, d11, rfl, l11, k11⟩
            have K11 := Lib.hid (K10.out.trans k11)
            rw [show Mx.tab n n (Zx.flip (Zx.setr q (Zx.flip (Zx.setr q (f p) (Zx.setr p (f q) f)) p) (Zx.setr p (Zx.flip (Zx.setr q (f p) (Zx.setr p (f q) f)) q) (Zx.flip (Zx.setr q (f p) (Zx.setr p (f q) f)))))) = _ from flip_swapped f n p q] at l11
            have L11 := Lib.hid l11
            clear k11 l11
            go_wp2_with fail
            refine (POf_ok A11 _ _ n d11 w11 (SS.out.swap hp hq) L11.out).mono ?_; rintro e w12 ⟨rfl, k12⟩
            have K12 := Lib.hid (K11.out.trans k12)
            have EV := PS.out p q hp hq HPQ.out
            rw [← HV.out] at EV
            rw [EV]
            clear k12 EV
            go_wp2_with fail
            go_ret
            exact ⟨rfl, K12.out⟩
        · have IJ := Lib.hid (fun w => law4In_any j 0 ((n : Int) - 1) w false (by simp; omega))
          clear hj
          go_enter Try.func4, Try.ntmps4
          go_wp2_with fail
          refine (FA.out).mono ?_; rintro e w1 ⟨rfl, k1⟩
          have K1 := Lib.hid k1; clear k1
          go_wp2_with fail
          refine (OA.out w1 (HA.out.keep K1.out)).mono ?_; rintro e w2 ⟨rfl, k2⟩
          have K2 := Lib.hid (K1.out.trans k2); clear k2
          go_wp2_with fail
          refine (rFlipZ_any A f n n d w2 (HM.out.keep K2.out) n0 (by omega) (by omega)).mono ?_; rintro e w3 ⟨A3, d3, rfl, l3, k3⟩
          have K3 := Lib.hid (K2.out.trans k3)
          have L3 := Lib.hid l3
          clear k3 l3
          go_wp2_with fail
          refine (OF.out A3 d3 w3 L3.out).mono ?_; rintro e w4 ⟨rfl, k4⟩
          have K4 := Lib.hid (K3.out.trans k4); clear k4 L3
          go_wp2_with fail
          refine (II.out w4).mono ?_; rintro e w5 ⟨rfl, rfl⟩
          go_wp2_with fail
          refine (IJ.out w4).mono ?_; rintro e w5 ⟨rfl, rfl⟩
          go_wp2_with fail
          go_ret
          exact ⟨rfl, K4.out⟩
      · have II := Lib.hid (fun w => law4In_any i 0 ((n : Int) - 1) w false (by simp; omega))
        clear hi
        go_enter Try.func4, Try.ntmps4
        go_wp2_with fail
        refine (FA.out).mono ?_; rintro e w1 ⟨rfl, k1⟩
        have K1 := Lib.hid k1; clear k1
        go_wp2_with fail
        refine (OA.out w1 (HA.out.keep K1.out)).mono ?_; rintro e w2 ⟨rfl, k2⟩
        have K2 := Lib.hid (K1.out.trans k2); clear k2
        go_wp2_with fail
        refine (rFlipZ_any A f n n d w2 (HM.out.keep K2.out) n0 (by omega) (by omega)).mono ?_; rintro e w3 ⟨A3, d3, rfl, l3, k3⟩
        have K3 := Lib.hid (K2.out.trans k3)
        have L3 := Lib.hid l3
        clear k3 l3
        go_wp2_with fail
        refine (OF.out A3 d3 w3 L3.out).mono ?_; rintro e w4 ⟨rfl, k4⟩
        have K4 := Lib.hid (K3.out.trans k4); clear k4 L3
        go_wp2_with fail
        refine (II.out w4).mono ?_; rintro e w5 ⟨rfl, rfl⟩
        go_wp2_with fail
        go_ret
        exact ⟨rfl, K4.out⟩
    · have f1 : ((r : Int) == 2) = false := by rw [beq_eq_false_iff_ne]; omega
      have f2 : ((r : Int) != 2) = true := by rw [bne_iff_ne]; omega
      rw [NEG.2 h2] at OF
      clear NEG h2
      by_cases hi : 0 ≤ i ∧ i ≤ (n : Int) - 1
      · obtain ⟨p, rfl⟩ : ∃ p : Nat, i = (p : Int) := ⟨i.toNat, by omega⟩
        have hp : p < n := by omega
        have II := Lib.hid (fun w => law4In_any (p : Int) 0 ((n : Int) - 1) w true (by simp; omega))
        clear hi
        by_cases hj : 0 ≤ j ∧ j ≤ (n : Int) - 1
        · obtain ⟨q, rfl⟩ : ∃ q : Nat, j = (q : Int) := ⟨j.toNat, by omega⟩
          have hq : q < n := by omega
          have IJ := Lib.hid (fun w => law4In_any (q : Int) 0 ((n : Int) - 1) w true (by simp; omega))
          clear hj
          by_cases hpq : p = q
          · have e0 : ((p : Int) == (q : Int)) = true := by rw [hpq]; simp
            clear hpq
            go_enter Try.func4, Try.ntmps4
            go_wp2_with fail
            refine (FA.out).mono ?_; rintro e w1 ⟨rfl, k1⟩
            have K1 := Lib.hid k1; clear k1
            go_wp2_with fail
            refine (OA.out w1 (HA.out.keep K1.out)).mono ?_; rintro e w2 ⟨rfl, k2⟩
            have K2 := Lib.hid (K1.out.trans k2); clear k2
            go_wp2_with fail
            refine (rFlipZ_any A f n n d w2 (HM.out.keep K2.out) n0 (by omega) (by omega)).mono ?_; rintro e w3 ⟨A3, d3, rfl, l3, k3⟩
            have K3 := Lib.hid (K2.out.trans k3)
            have L3 := Lib.hid l3
            clear k3 l3
            go_wp2_with fail
            refine (OF.out A3 d3 w3 L3.out).mono ?_; rintro e w4 ⟨rfl, k4⟩
            have K4 := Lib.hid (K3.out.trans k4); clear k4 L3
            go_wp2_with fail
            refine (II.out w4).mono ?_; rintro e w5 ⟨rfl, rfl⟩
            go_wp2_with fail
            refine (IJ.out w4).mono ?_; rintro e w5 ⟨rfl, rfl⟩
            go_wp2_with fail
            go_ret
            exact ⟨rfl, K4.out⟩
          · have e0 : ((p : Int) == (q : Int)) = false := by rw [beq_eq_false_iff_ne]; omega
            have HPQ := Lib.hid hpq
            clear hpq
            go_enter Try.func4, Try.ntmps4
            go_wp2_with fail
            refine (FA.out).mono ?_; rintro e w1 ⟨rfl, k1⟩
            have K1 := Lib.hid k1; clear k1
            go_wp2_with fail
            refine (OA.out w1 (HA.out.keep K1.out)).mono ?_; rintro e w2 ⟨rfl, k2⟩
            have K2 := Lib.hid (K1.out.trans k2); clear k2
            go_wp2_with fail
            refine (rFlipZ_any A f n n d w2 (HM.out.keep K2.out) n0 (by omega) (by omega)).mono ?_; rintro e w3 ⟨A3, d3, rfl, l3, k3⟩
            have K3 := Lib.hid (K2.out.trans k3)
            have L3 := Lib.hid l3
            clear k3 l3
            go_wp2_with fail
            refine (OF.out A3 d3 w3 L3.out).mono ?_; rintro e w4 ⟨rfl, k4⟩
            have K4 := Lib.hid (K3.out.trans k4); clear k4 L3
            go_wp2_with fail
            refine (II.out w4).mono ?_; rintro e w5 ⟨rfl, rfl⟩
            go_wp2_with fail
            refine (IJ.out w4).mono ?_; rintro e w5 ⟨rfl, rfl⟩
            go_wp2_with fail
            refine (rCopyZ_any A f n n d w4 (HM.out.keep K4.out) n0 (by omega) (by omega)).mono ?_; rintro e w5 ⟨V5, G5, C5, rfl, ho, k5⟩
            obtain ⟨g, gc, rfl, hg⟩ := ho.some (by rw [Mx.len_tab]; exact n0)
            rw [Mx.len_tab] at ho ⊢
            have X5 := Lib.hid (MxW.of ho hg)
            have K5 := Lib.hid (K4.out.trans k5)
            have gw := Nat.le_trans K4.out.size hg
            clear ho k5 hg
            obtain ⟨adm, Aq, dq, rfl, hlm, y1, cq, lq⟩ := (HM.out.keep K5.out).row hq
            obtain ⟨Ah, dh, y2, _, _⟩ := X5.out.head hp
            have y3 := X5.out.free p
            have X6 := Lib.hid (X5.out.put hp lq cq)
            have K6 := Lib.hid (K5.out.put (p := ⟨g, p, none⟩) gw (.slice Aq n dq))
            clear lq
            go_upto_region 15 with (fail)
            clear y1 y2 y3 X5 cq
            obtain ⟨w6, hw6⟩ : ∃ x, x = w5.setCell ⟨g, p, none⟩ (.slice Aq n dq) := ⟨_, rfl⟩
            rw [← hw6] at X6 K6 ⊢
            obtain ⟨adm', Ap, dp, ea, _, z1, cp, lp⟩ := (HM.out.keep K6.out).row hp
            obtain rfl := Option.some.inj ea
            obtain ⟨Ah2, dh2, z2, _, _⟩ := X6.out.head hq
            have z3 := X6.out.free q
            have X7 := Lib.hid (X6.out.put hq lp cp)
            have K7 := Lib.hid (K6.out.put (p := ⟨g, q, none⟩) gw (.slice Ap n dp))
            clear lp ea hw6 K5 hlm
            go_upto_region 16 with (fail)
            clear z1 z2 z3 X6 cp K6
            obtain ⟨w7, hw7⟩ : ∃ x, x = w6.setCell ⟨g, q, none⟩ (.slice Ap n dp) := ⟨_, rfl⟩
            rw [← hw7] at X7 K7 ⊢
            clear hw7
            go_wp2_with fail
            refine (rFlipZ_own (some ⟨g, 0, none⟩) _ n n gc w7 X7.out.lies n0 (by omega) (by omega)).mono ?_; rintro e w8 ⟨V8, G8, C8, rfl, ho, k8⟩
            obtain ⟨g8, gc8, rfl, hg8⟩ := ho.some (by rw [Mx.len_tab]; exact n0)
            rw [Mx.len_tab] at ho ⊢
            have X8 := Lib.hid (MxW.of ho hg8)
            have K8 := Lib.hid (K7.out.trans k8)
            have gw8 := Nat.le_trans K7.out.size hg8
            clear ho k8 hg8 X7
            obtain ⟨Bp, bp, t1, cbp, lbp⟩ := X8.out.head hp
            obtain ⟨Bq, bq, t2, cbq, lbq⟩ := X8.out.head hq
            have t3 := X8.out.free p
            have X9 := Lib.hid (X8.out.put hp lbq cbq)
            have K9 := Lib.hid (K8.out.put (p := ⟨g8, p, none⟩) gw8 (.slice Bq n bq))
            have LB := Lib.hid (lies_headPut lbp t1 (.slice Bq n bq))
            clear lbp lbq
            go_upto_region 19 with (fail)
            clear t1 t2 t3 X8 cbq
            obtain ⟨w9, hw9⟩ : ∃ x, x = w8.setCell ⟨g8, p, none⟩ (.slice Bq n bq) := ⟨_, rfl⟩
            rw [← hw9] at X9 K9 LB ⊢
            obtain ⟨Ah3, dh3, r2, _, _⟩ := X9.out.head hq
            have r3 := X9.out.free q
            have X10 := Lib.hid (X9.out.put hq LB.out cbp)
            have K10 := Lib.hid (K9.out.put (p := ⟨g8, q, none⟩) gw8 (.slice Bp n bp))
            clear hw9
            go_upto_region 20 with (fail)
            clear r2 r3 X9 cbp
            obtain ⟨w10, hw10⟩ : ∃ x, x = w9.setCell ⟨g8, q, none⟩ (.slice Bp n bp) := ⟨_, rfl⟩
            rw [← hw10] at X10 K10 ⊢
            clear hw10
            go_wp2_with fail
            refine (rFlipZ_any (some ⟨g8, 0, none⟩) _ n n gc8 w10 X10.out.lies n0 (by omega) (by omega)).mono ?_; rintro e w11 ⟨A11, d11, rfl, l11, k11⟩
            have K11 := Lib.hid (K10.out.trans k11)
            rw [show Mx.tab n n (Zx.flip (Zx.setr q (Zx.flip (Zx.setr q (f p) (Zx.setr p (f q) f)) p) (Zx.setr p (Zx.flip (Zx.setr q (f p) (Zx.setr p (f q) f)) q) (Zx.flip (Zx.setr q (f p) (Zx.setr p (f q) f)))))) = _ from flip_swapped f n p q] at l11
            have L11 := Lib.hid l11
            clear k11 l11
            go_wp2_with fail
            refine (POf_ok A11 _ _ n d11 w11 (SS.out.swap hp hq) L11.out).mono ?_; rintro e w12 ⟨rfl, k12⟩
            have K12 := Lib.hid (K11.out.trans k12)
            have EV := PS.out p q hp hq HPQ.out
            rw [← HV.out] at EV
            rw [EV]
            clear k12 EV
            go_wp2_with fail
            go_ret
            exact ⟨rfl, K12.out⟩
        · have IJ := Lib.hid (fun w => law4In_any j 0 ((n : Int) - 1) w false (by simp; omega))
          clear hj
          go_enter Try.func4, Try.ntmps4
          go_wp2_with fail
          refine (FA.out).mono ?_; rintro e w1 ⟨rfl, k1⟩
          have K1 := Lib.hid k1; clear k1
          go_wp2_with fail
          refine (OA.out w1 (HA.out.keep K1.out)).mono ?_; rintro e w2 ⟨rfl, k2⟩
          have K2 := Lib.hid (K1.out.trans k2); clear k2
          go_wp2_with fail
          refine (rFlipZ_any A f n n d w2 (HM.out.keep K2.out) n0 (by omega) (by omega)).mono ?_; rintro e w3 ⟨A3, d3, rfl, l3, k3⟩
          have K3 := Lib.hid (K2.out.trans k3)
          have L3 := Lib.hid l3
          clear k3 l3
          go_wp2_with fail
          refine (OF.out A3 d3 w3 L3.out).mono ?_; rintro e w4 ⟨rfl, k4⟩
          have K4 := Lib.hid (K3.out.trans k4); clear k4 L3
          go_wp2_with fail
          refine (II.out w4).mono ?_; rintro e w5 ⟨rfl, rfl⟩
          go_wp2_with fail
          refine (IJ.out w4).mono ?_; rintro e w5 ⟨rfl, rfl⟩
          go_wp2_with fail
          go_ret
          exact ⟨rfl, K4.out⟩
      · have II := Lib.hid (fun w => law4In_any i 0 ((n : Int) - 1) w false (by simp; omega))
        clear hi
        go_enter Try.func4, Try.ntmps4
        go_wp2_with fail
        refine (FA.out).mono ?_; rintro e w1 ⟨rfl, k1⟩
        have K1 := Lib.hid k1; clear k1
        go_wp2_with fail
        refine (OA.out w1 (HA.out.keep K1.out)).mono ?_; rintro e w2 ⟨rfl, k2⟩
        have K2 := Lib.hid (K1.out.trans k2); clear k2
        go_wp2_with fail
        refine (rFlipZ_any A f n n d w2 (HM.out.keep K2.out) n0 (by omega) (by omega)).mono ?_; rintro e w3 ⟨A3, d3, rfl, l3, k3⟩
        have K3 := Lib.hid (K2.out.trans k3)
        have L3 := Lib.hid l3
        clear k3 l3
        go_wp2_with fail
        refine (OF.out A3 d3 w3 L3.out).mono ?_; rintro e w4 ⟨rfl, k4⟩
        have K4 := Lib.hid (K3.out.trans k4); clear k4 L3
        go_wp2_with fail
        refine (II.out w4).mono ?_; rintro e w5 ⟨rfl, rfl⟩
        go_wp2_with fail
        go_ret
        exact ⟨rfl, K4.out⟩
  · have OA := Lib.hid bad
    clear bad hn ha hz
    go_enter Try.func4, Try.ntmps4
    go_wp2_with fail
    refine (FA.out).mono ?_; rintro e w1 ⟨rfl, k1⟩
    have K1 := Lib.hid k1; clear k1
    go_wp2_with fail
    refine (OA.out w1 (HA.out.keep K1.out)).mono ?_; rintro e w2 ⟨rfl, k2⟩
    have K2 := Lib.hid (K1.out.trans k2); clear k2
    go_wp2_with fail
    go_ret
    exact ⟨rfl, K2.out⟩
end Go.Proofs.Ytkebjmapdcbnaaa
