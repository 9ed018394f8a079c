/- The law DetRows. -/
import Derived.Test.YtfjajcfcbjmbpaaDeSum
import Derived.Test.YtfjajcfcbjmbpaaSoC1
namespace Go.Proofs.Ytfjajcfcbjmbpaa
open Go.ChangeShapes Go.WideShapes Go.ChangeAt Go.RowKit
set_option linter.unusedVariables false

/-- A store into a block that is none of a matrix's. -/
theorem ownM_far {w : World} {B g n cap : Nat} {G C : Nat → Nat} {r c : Nat} {f : Nat → Nat → Int} (h : OwnM w B (.slice (some ⟨g, 0, none⟩) n cap) G C (Mx.tab r c f)) {p : Addr} (h1 : g ≠ p.block) (h2 : ∀ x, x < r → G x ≠ p.block) (u : Value) :
    OwnM (w.setCell p u) B (.slice (some ⟨g, 0, none⟩) n cap) G C (Mx.tab r c f) :=
  h.save (S := fun b => b = p.block) (Save.put (S := fun b => b = p.block) (p := p) (Save.refl _ w) rfl u) (fun b hb hs => h1 ((Option.some.inj hb).trans hs)) (fun x hx hs => h2 x (by rw [Mx.len_tab] at hx; exact hx) hs)
theorem mod_neg (x : Fp.F) : (-(x.val : Int)) % 9973 = ((-x : Fp.F).val : Int) := by
  rw [← Fp.ofInt_val, Mx.ofInt_neg, Fp.ofInt_self]
theorem el_F {k : Int} (h : 0 ≤ k ∧ k ≤ 9972) : ∃ x : Fp.F, k = (x.val : Int) := ⟨Fp.ofInt k, (Fp.ofInt_of k h.1 h.2).symm⟩

set_option maxRecDepth 100000 in
set_option maxHeartbeats 12800000 in
theorem walk_DetRows (A : Option Addr) (a : List (List Int)) (c : Nat) (i j k : Int) (w : World) (ha : LiesM w A a) :
    Calls Try.prog 4 #[.slice A a.length c, .int .i64 i, .int .i64 j, .int .i64 k] w fun e w' => e = .returned (.bool true) ∧ Kp w w' := by
  obtain ⟨n, hn⟩ : ∃ n, n = a.length := ⟨_, rfl⟩
  rw [← hn]
  have HA := Lib.hid ha
  have FA := Lib.hid (detFact_any w)
  clear ha
  rcases Of_or A a n c hn.symm with ⟨f, sa⟩ | bad
  · have SA := Lib.hid sa
    have n0 := sa.r0
    have n5 := sa.r5
    obtain ⟨x, hx⟩ : ∃ x, x = Mx.dt n f := ⟨_, rfl⟩
    have HX := Lib.hid hx
    have IX := Lib.hid (fun w => law2In_any (x.val : Int) 0 9972 w true (in_el x))
    have OA := Lib.hid (fun w h => Of_sh (A := A) sa c w h)
    rw [← hx] at OA
    have hxv := gval x
    clear hn sa hx
    by_cases hi : 0 ≤ i ∧ i ≤ (n : Int) - 1
    · obtain ⟨p, rfl⟩ : ∃ p : Nat, i = (p : Int) := ⟨i.toNat, by omega⟩
      have hp : p < n := by omega
      have II := Lib.hid (fun w => law2In_any (p : Int) 0 ((n : Int) - 1) w true (by simp; omega))
      clear hi
      by_cases hj : 0 ≤ j ∧ j ≤ (n : Int) - 1
      · obtain ⟨q, rfl⟩ : ∃ q : Nat, j = (q : Int) := ⟨j.toNat, by omega⟩
        have hq : q < n := by omega
        have IJ := Lib.hid (fun w => law2In_any (q : Int) 0 ((n : Int) - 1) w true (by simp; omega))
        clear hj
        by_cases hpq : p = q
        · have e0 : ((p : Int) == (q : Int)) = true := by rw [hpq]; simp
          clear hpq
          go_enter Try.func4, Try.ntmps4
          go_wp2_with fail
          refine (FA.out).mono ?_; rintro e w1 ⟨rfl, k1⟩
          have K1 := Lib.hid k1; clear k1
          go_wp2_with fail
          refine (OA.out w1 (HA.out.keep K1.out)).mono ?_; rintro e w2 ⟨rfl, k2⟩
          have K2 := Lib.hid (K1.out.trans k2); clear k2
          go_wp2_with fail
          refine (II.out w2).mono ?_; rintro e w3 ⟨rfl, rfl⟩
          go_wp2_with fail
          refine (IJ.out w2).mono ?_; rintro e w3 ⟨rfl, rfl⟩
          go_wp2_with fail
          refine (IX.out w2).mono ?_; rintro e w3 ⟨rfl, rfl⟩
          go_wp2_with fail
          go_ret
          exact ⟨rfl, K2.out⟩
        · have e0 : ((p : Int) == (q : Int)) = false := by rw [beq_eq_false_iff_ne]; omega
          have HNE := Lib.hid hpq
          clear hpq
          by_cases hk : 0 ≤ k ∧ k ≤ 9972
          · obtain ⟨kF, rfl⟩ := el_F hk
            have IK := Lib.hid (fun w => law2In_any (kF.val : Int) 0 9972 w true (in_el kF))
            have hm0 := HA.out
            rw [SA.out.eq] at hm0
            have HM := Lib.hid hm0
            clear hk hm0
            go_enter Try.func4, Try.ntmps4
            go_wp2_with fail
            refine (FA.out).mono ?_; rintro e w1 ⟨rfl, k1⟩
            have K1 := Lib.hid k1; clear k1
            go_wp2_with fail
            refine (OA.out w1 (HA.out.keep K1.out)).mono ?_; rintro e w2 ⟨rfl, k2⟩
            have K2 := Lib.hid (K1.out.trans k2); clear k2
            go_wp2_with fail
            refine (II.out w2).mono ?_; rintro e w3 ⟨rfl, rfl⟩
            go_wp2_with fail
            refine (IJ.out w2).mono ?_; rintro e w3 ⟨rfl, rfl⟩
            go_wp2_with fail
            refine (IK.out w2).mono ?_; rintro e w3 ⟨rfl, rfl⟩
            go_wp2_with fail
            refine (IX.out w2).mono ?_; rintro e w3 ⟨rfl, rfl⟩
            go_wp2_with fail
            refine (rCopy_any A f n n c w2 (HM.out.keep K2.out) n0 (by omega) (by omega)).mono ?_; rintro e w3 ⟨v, G, C, rfl, ho, k3⟩
            obtain ⟨g, gc, rfl, hg⟩ := ho.some (by rw [Mx.len_matl]; exact n0)
            rw [Mx.len_matl] at ho ⊢
            obtain ⟨ad, Aq, dq, rfl, _, y3, cq, lq⟩ := (HM.out.keep (K2.out.trans k3)).row hq
            obtain ⟨_, Ap, dp, e, _, y6, cp, lp⟩ := (HM.out.keep (K2.out.trans k3)).row hp
            cases e
            have y1 := ho.weak.head hp
            have y2 := ownM_topFree ho p
            have y4 := ho.weak.head hq
            have hne : (⟨g, p, none⟩ : Addr) ≠ ⟨g, q, none⟩ := fun e' => HNE.out (by cases e'; rfl)
            have k1 := (K2.out.trans k3).put (p := ⟨g, p, none⟩) (Nat.le_trans K2.out.size hg) (.slice Aq n dq)
            have hadl : ad.block < w.heap.size := by
              obtain ⟨_, _, _, e, h, _, _, _⟩ := HM.out.row hp
              cases e; exact h
            have y7 : (w3.setCell ⟨g, p, none⟩ (.slice Aq n dq)).cell? ⟨g, q, none⟩ = some (.slice (some ⟨G q, 0, none⟩) n (C q)) := cell_far _ y4 hne
            have y8 : (w3.setCell ⟨g, p, none⟩ (.slice Aq n dq)).frozen? ⟨g, q, none⟩ = false := by
              have := ownM_topFree ho q
              simpa using this
            have y9 : (w3.setCell ⟨g, p, none⟩ (.slice Aq n dq)).cell? (ad.add p) = some (.slice Ap n dp) := by
              have a1 := (K2.out.trans k3).cell (p := ad.add p) (by rw [block_add]; exact hadl)
              have a2 := k1.cell (p := ad.add p) (by rw [block_add]; exact hadl)
              rw [a2, ← a1]; exact y6
            have la1 := ho.liesM.setHead (i := p) (c1 := dq) (by rw [Mx.len_matl]; exact hp) lq (by rw [Mx.len_row]; exact cq)
            rw [Mx.len_row, matl_setr] at la1
            obtain ⟨_, Ap', dp', e, _, y6', cp', lp'⟩ := (HM.out.keep k1).row hp
            cases e
            rw [y9] at y6'
            cases y6'
            have la2 := la1.setHead (i := q) (c1 := dp) (by rw [Mx.len_matl]; exact hq) lp' (by rw [Mx.len_row]; exact cp')
            rw [Mx.len_row, matl_setr] at la2
            have LA := Lib.hid (show LiesM ((w3.setCell ⟨g, p, none⟩ (.slice Aq n dq)).setCell ⟨g, q, none⟩ (.slice Ap n dp)) (some ⟨g, 0, none⟩) (Mx.matl n n fun x y => f (Mx.sw p q x) y) by
              rw [show (Mx.matl n n fun x y => f (Mx.sw p q x) y) = Mx.matl n n (Mx.setr q (fun y => f p y) (Mx.setr p (fun y => f q y) f)) from Mx.matl_ext fun x y _ _ => by
                unfold Mx.setr
                by_cases h1 : x = q
                · rw [if_pos h1, h1, Mx.sw_right]
                · rw [if_neg h1]
                  by_cases h2 : x = p
                  · rw [if_pos h2, h2, Mx.sw_left]
                  · rw [if_neg h2, Mx.sw_none h2 h1]]
              exact la2)
            have K3 := Lib.hid (k1.put (p := ⟨g, q, none⟩) (Nat.le_trans K2.out.size hg) (.slice Ap n dp))
            clear ho k3 k1 la1 la2 lq lp lp' cq cp cp' hadl hne
            go_wp2_with fail
            refine (rCopy_any (some ad) f n n c _ (HM.out.keep K3.out) n0 (by omega) (by omega)).mono ?_; rintro e w4 ⟨v, G2, C2, rfl, ho, k4⟩
            obtain ⟨g2, gc2, rfl, hg2⟩ := ho.some (by rw [Mx.len_matl]; exact n0)
            rw [Mx.len_matl] at ho ⊢
            obtain ⟨w5, hw5⟩ : ∃ x, x = (w3.setCell ⟨g, p, none⟩ (.slice Aq n dq)).setCell ⟨g, q, none⟩ (.slice Ap n dp) := ⟨_, rfl⟩
            rw [← hw5] at LA K3 ho k4 hg2
            have HO := Lib.hid ho
            have K4 := Lib.hid k4
            have HL2 := Lib.hid (show g2 < w4.heap.size ∧ ∀ x, x < n → G2 x < w4.heap.size from ⟨ho.weak.topLe.2, fun x hx => (ho.weak.lt hx).2⟩)
            clear ho k4 hw5 y1 y2 y3 y4 y6 y7 y8 y9
            go_wp2_with fail
            refine (rCopy_any (some ad) f n n c _ (HM.out.keep (K3.out.trans K4.out)) n0 (by omega) (by omega)).mono ?_; rintro e w6 ⟨v, G3, C3, rfl, ho, k6⟩
            obtain ⟨g3, gc3, rfl, hg3⟩ := ho.some (by rw [Mx.len_matl]; exact n0)
            rw [Mx.len_matl] at ho ⊢
            have HO3 := Lib.hid ho
            have HO2 := Lib.hid (HO.out.kp k6)
            have K6 := Lib.hid (K4.out.trans k6)
            have HL3 := Lib.hid (show w4.heap.size ≤ g3 ∧ ∀ x, x < n → w4.heap.size ≤ G3 x from ⟨ho.weak.topLe.1, fun x hx => (ho.weak.lt hx).1⟩)
            have HG2 := Lib.hid (show w5.heap.size ≤ w4.heap.size from K4.out.size)
            clear ho k6 HO
            go_wp2_with fail
            go_loopw [16] (fun s wr => ∃ t : Nat, t ≤ n ∧ s = .int .i64 (t : Int) ∧ OwnM wr w5.heap.size (.slice (some ⟨g2, 0, none⟩) n gc2) G2 C2 (Mx.tab n n fun x y => if x = p ∧ y < t then ((f x y + kF * f q y).val : Int) else ((f x y).val : Int)) ∧
              OwnM wr w4.heap.size (.slice (some ⟨g3, 0, none⟩) n gc3) G3 C3 (Mx.tab n n fun x y => if x = p ∧ y < t then ((kF * f x y).val : Int) else ((f x y).val : Int)) ∧ Kp w5 wr) (fun s _ => n - (intOf s).toNat)
            case atStart => exact ⟨0, Nat.zero_le _, rfl, HO2.out.ext (fun x y _ _ => by rw [if_neg (by omega)]), HO3.out.ext (fun x y _ _ => by rw [if_neg (by omega)]), K6.out⟩
            case round =>
              clear HO2 HO3
              obtain ⟨t, ht, rfl, ho2, ho3, hkp⟩ := hrel
              have HO2 := Lib.hid ho2
              have HO3 := Lib.hid ho3
              have HK := Lib.hid hkp
              by_cases hlt : t < n
              · have x1 := ho2.weak.head hp
                have x2 := ho2.weak.free hp t
                have x3 := (ho2.weak.lt hp).1
                have x4 := ho2.weak.el hp hlt
                rw [if_neg (by omega)] at x4
                obtain ⟨_, Aq', dq', e, _, y1, _, lq⟩ := (HM.out.keep (K3.out.trans hkp)).row hq
                cases e
                obtain ⟨ad1, rfl, _, y2⟩ := lq.el hlt
                obtain ⟨z, hz⟩ : ∃ z, z = ((f p t + kF * f q t).val : Int) := ⟨_, rfl⟩
                have hm := Mx.val_more (f p t) kF (f q t)
                rw [← hz] at hm
                have HZ := Lib.hid hz
                have b1 := gval (f p t)
                have b2 := times_bound kF (f q t)
                have b3 := times_bound kF (f p t)
                obtain ⟨z2, hz2⟩ : ∃ z2, z2 = ((kF * f p t).val : Int) := ⟨_, rfl⟩
                have hm2 := Fp.mul_val kF (f p t)
                rw [← hz2] at hm2
                have HZ2 := Lib.hid hz2
                -- behind the first store
                obtain ⟨wx, hwx⟩ : ∃ x, x = (wr.setCell ⟨G2 p, t, none⟩ (.int .i64 z)).drew := ⟨_, rfl⟩
                have kp2 : Kp w5 wx := by rw [hwx]; exact (hkp.put (p := ⟨G2 p, t, none⟩) x3 (.int .i64 z)).drewN 1
                have o2 := (ho2.put hp t z).drewN 1
                have o3 := (ownM_far ho3 (p := ⟨G2 p, t, none⟩) (by have := HL2.out.2 p hp; have := HL3.out.1; show g3 ≠ G2 p; omega) (fun x hx => by have := HL2.out.2 p hp; have := HL3.out.2 x hx; show G3 x ≠ G2 p; omega) (.int .i64 z)).drewN 1
                rw [show (wr.setCell ⟨G2 p, t, none⟩ (.int .i64 z)).drewN 1 = wx from hwx.symm] at o2 o3
                have HWX := Lib.hid hwx
                have v1 := o3.weak.head hp
                have v2 := o3.weak.free hp t
                have v3 := (o3.weak.lt hp).1
                have v4 := o3.weak.el hp hlt
                rw [if_neg (by omega)] at v4
                obtain ⟨_, Ap', dp', e, _, y3, _, lp⟩ := (HM.out.keep (K3.out.trans kp2)).row hp
                cases e
                obtain ⟨ad2, rfl, _, y4⟩ := lp.el hlt
                have KP3 := Lib.hid ((kp2.drewN 1).put (p := ⟨G3 p, t, none⟩) (Nat.le_trans HG2.out v3) (.int .i64 z2))
                have O3 := Lib.hid ((o3.drewN 1).put hp t z2)
                have O2 := Lib.hid (ownM_far (o2.drewN 1) (p := ⟨G3 p, t, none⟩) (by have := HL2.out.1; show g2 ≠ G3 p; omega) (fun x hx => by have := HL2.out.2 x hx; show G2 x ≠ G3 p; omega) (.int .i64 z2))
                have hkv := gval kF
                generalize ((f p t).val : Int) = p1 at *
                generalize ((f q t).val : Int) = p2 at *
                generalize (kF.val : Int) = kv at *
                have hwm : IntKind.i64.wrap (kv * p2) = kv * p2 := IntWalk.i64_in _ (by omega)
                have hwa : IntKind.i64.wrap (p1 + kv * p2) = p1 + kv * p2 := IntWalk.i64_in _ (by omega)
                have hwn : IntKind.i64.wrap (kv * p1) = kv * p1 := IntWalk.i64_in _ (by omega)
                have MO := Lib.hid (fun w => rMod_any (p1 + kv * p2) w (by omega) (by omega))
                rw [hm] at MO
                have MP := Lib.hid (fun w => rMod_any (kv * p1) w (by omega) (by omega))
                rw [← hm2] at MP
                have X3 := Lib.hid x3
                clear ho2 ho3 hkp hz hm hz2 hm2 lq lp o2 o3 kp2 v3 x3 b2 b3 hwx
                go_wp2_with fail
                refine wp_region_still_tail 24 (by kernel_rfl) (by kernel_rfl) ?_
                simp only [List.take_succ_cons, List.take_zero, List.drop_succ_cons, List.drop_zero]
                repeat still_step
                still_call ((MO.out _).mono fun _ _ h => ⟨h.1, h.2.symm⟩)
                repeat still_step
                refine wpStill_nil ?_
                change wpList _ _ _ _ _ wr.drew
                go_wp2_with fail
                rw [← HWX.out]
                refine wp_region_still_tail 16 (by kernel_rfl) (by kernel_rfl) ?_
                simp only [List.take_succ_cons, List.take_zero, List.drop_succ_cons, List.drop_zero]
                repeat still_step
                still_call ((MP.out _).mono fun _ _ h => ⟨h.1, h.2.symm⟩)
                repeat still_step
                refine wpStill_nil ?_
                change wpList _ _ _ _ _ wx.drew
                go_wp2_with fail
                go_roundw
                case rel =>
                  refine ⟨t + 1, by omega, by go_num, O2.out.ext (fun x y hx hy => ?_), O3.out.ext (fun x y hx hy => ?_), KP3.out⟩
                  · by_cases e : x = p ∧ y = t
                    · rw [if_pos e, if_pos (by omega), e.1, e.2]; exact HZ.out
                    · rw [if_neg e]
                      by_cases e2 : x = p ∧ y < t
                      · rw [if_pos e2, if_pos (by omega)]
                      · rw [if_neg e2, if_neg (by omega)]
                  · by_cases e : x = p ∧ y = t
                    · rw [if_pos e, if_pos (by omega), e.1, e.2]; exact HZ2.out
                    · rw [if_neg e]
                      by_cases e2 : x = p ∧ y < t
                      · rw [if_pos e2, if_pos (by omega)]
                      · rw [if_neg e2, if_neg (by omega)]
                case measure => simp [intOf]; omega
              · obtain rfl : t = n := by omega
                have LB := Lib.hid (show LiesM wr (some ⟨g2, 0, none⟩) (Mx.matl t t (Mx.setr p (fun y => f p y + kF * f q y) f)) from (ho2.ext (f' := fun x y => ((Mx.setr p (fun y => f p y + kF * f q y) f x y).val : Int)) fun x y _ hy => by
                  unfold Mx.setr
                  by_cases e : x = p
                  · rw [if_pos ⟨e, hy⟩, if_pos e, e]
                  · rw [if_neg (fun h => e h.1), if_neg e]).liesM)
                have LC := Lib.hid (show LiesM wr (some ⟨g3, 0, none⟩) (Mx.matl t t (Mx.setr p (fun y => kF * f p y) f)) from (ho3.ext (f' := fun x y => ((Mx.setr p (fun y => kF * f p y) f x y).val : Int)) fun x y _ hy => by
                  unfold Mx.setr
                  by_cases e : x = p
                  · rw [if_pos ⟨e, hy⟩, if_pos e, e]
                  · rw [if_neg (fun h => e h.1), if_neg e]).liesM)
                have OY := Lib.hid (fun w h => Of_sh (A := some ⟨g, 0, none⟩) (show Sh t t (fun x y => f (Mx.sw p q x) y) (Mx.matl t t fun x y => f (Mx.sw p q x) y) from ⟨rfl, n0, n5, n0, n5⟩) gc w h)
                have OZ := Lib.hid (fun w h => Of_sh (A := some ⟨g2, 0, none⟩) (show Sh t t (Mx.setr p (fun y => f p y + kF * f q y) f) (Mx.matl t t (Mx.setr p (fun y => f p y + kF * f q y) f)) from ⟨rfl, n0, n5, n0, n5⟩) gc2 w h)
                have OW := Lib.hid (fun w h => Of_sh (A := some ⟨g3, 0, none⟩) (show Sh t t (Mx.setr p (fun y => kF * f p y) f) (Mx.matl t t (Mx.setr p (fun y => kF * f p y) f)) from ⟨rfl, n0, n5, n0, n5⟩) gc3 w h)
                rw [Mx.dt_rswap f hp hq HNE.out, ← HX.out] at OY
                rw [Mx.dt_add f hp hq HNE.out kF, ← HX.out] at OZ
                rw [Mx.dt_scale f hp kF, ← HX.out] at OW
                have b2 := times_bound kF x
                have MN := Lib.hid (fun w => rMod_any (-(x.val : Int)) w (by omega) (by omega))
                rw [mod_neg] at MN
                have MO := Lib.hid (fun w => rMod_any ((kF.val : Int) * (x.val : Int)) w (by omega) (by omega))
                rw [← Fp.mul_val] at MO
                generalize -x = nx at *
                generalize kF * x = kx at *
                generalize (x.val : Int) = xv at *
                generalize (kF.val : Int) = kv at *
                have hwn : IntKind.i64.wrap (-xv) = -xv := IntWalk.i64_in _ (by omega)
                have hwa : IntKind.i64.wrap (kv * xv) = kv * xv := IntWalk.i64_in _ (by omega)
                clear ho2 ho3 hkp b2
                go_wp2_with fail
                refine (OY.out _ (LA.out.keep HK.out)).mono ?_; rintro e w7 ⟨rfl, k7⟩
                have K7 := Lib.hid k7; clear k7
                go_wp2_with fail
                refine (OZ.out _ (LB.out.keep K7.out)).mono ?_; rintro e w8 ⟨rfl, k8⟩
                have K8 := Lib.hid (K7.out.trans k8); clear k8
                go_wp2_with fail
                refine (OW.out _ (LC.out.keep K8.out)).mono ?_; rintro e w9 ⟨rfl, k9⟩
                have K9 := Lib.hid ((K3.out.trans HK.out).trans (K8.out.trans k9)); clear k9
                go_wp2_with fail
                refine (MN.out w9).mono ?_; rintro e w10 ⟨rfl, rfl⟩
                go_wp2_with fail
                refine (MO.out w9).mono ?_; rintro e w10 ⟨rfl, rfl⟩
                go_wp2_with fail
                go_ret
                exact ⟨ret_bool (by simp), K9.out⟩

          · have IK := Lib.hid (fun w => law2In_any k 0 9972 w false (by simp; omega))
            clear hk
            go_enter Try.func4, Try.ntmps4
            go_wp2_with fail
            refine (FA.out).mono ?_; rintro e w1 ⟨rfl, k1⟩
            have K1 := Lib.hid k1; clear k1
            go_wp2_with fail
            refine (OA.out w1 (HA.out.keep K1.out)).mono ?_; rintro e w2 ⟨rfl, k2⟩
            have K2 := Lib.hid (K1.out.trans k2); clear k2
            go_wp2_with fail
            refine (II.out w2).mono ?_; rintro e w3 ⟨rfl, rfl⟩
            go_wp2_with fail
            refine (IJ.out w2).mono ?_; rintro e w3 ⟨rfl, rfl⟩
            go_wp2_with fail
            refine (IK.out w2).mono ?_; rintro e w3 ⟨rfl, rfl⟩
            go_wp2_with fail
            refine (IX.out w2).mono ?_; rintro e w3 ⟨rfl, rfl⟩
            go_wp2_with fail
            go_ret
            exact ⟨rfl, K2.out⟩
      · have IJ := Lib.hid (fun w => law2In_any j 0 ((n : Int) - 1) w false (by simp; omega))
        clear hj
        go_enter Try.func4, Try.ntmps4
        go_wp2_with fail
        refine (FA.out).mono ?_; rintro e w1 ⟨rfl, k1⟩
        have K1 := Lib.hid k1; clear k1
        go_wp2_with fail
        refine (OA.out w1 (HA.out.keep K1.out)).mono ?_; rintro e w2 ⟨rfl, k2⟩
        have K2 := Lib.hid (K1.out.trans k2); clear k2
        go_wp2_with fail
        refine (II.out w2).mono ?_; rintro e w3 ⟨rfl, rfl⟩
        go_wp2_with fail
        refine (IJ.out w2).mono ?_; rintro e w3 ⟨rfl, rfl⟩
        go_wp2_with fail
        refine (IX.out w2).mono ?_; rintro e w3 ⟨rfl, rfl⟩
        go_wp2_with fail
        go_ret
        exact ⟨rfl, K2.out⟩
    · have II := Lib.hid (fun w => law2In_any i 0 ((n : Int) - 1) w false (by simp; omega))
      clear hi
      go_enter Try.func4, Try.ntmps4
      go_wp2_with fail
      refine (FA.out).mono ?_; rintro e w1 ⟨rfl, k1⟩
      have K1 := Lib.hid k1; clear k1
      go_wp2_with fail
      refine (OA.out w1 (HA.out.keep K1.out)).mono ?_; rintro e w2 ⟨rfl, k2⟩
      have K2 := Lib.hid (K1.out.trans k2); clear k2
      go_wp2_with fail
      refine (II.out w2).mono ?_; rintro e w3 ⟨rfl, rfl⟩
      go_wp2_with fail
      refine (IX.out w2).mono ?_; rintro e w3 ⟨rfl, rfl⟩
      go_wp2_with fail
      go_ret
      exact ⟨rfl, K2.out⟩
  · have BAD := Lib.hid bad
    clear hn bad
    go_enter Try.func4, Try.ntmps4
    go_wp2_with fail
    refine (FA.out).mono ?_; rintro e w1 ⟨rfl, k1⟩
    have K1 := Lib.hid k1; clear k1
    go_wp2_with fail
    refine (BAD.out w1 (HA.out.keep K1.out)).mono ?_; rintro e w2 ⟨z, rfl, k2⟩
    have K2 := Lib.hid (K1.out.trans k2); clear k2
    go_wp2_with fail
    go_ret
    exact ⟨rfl, K2.out⟩

end Go.Proofs.Ytfjajcfcbjmbpaa
