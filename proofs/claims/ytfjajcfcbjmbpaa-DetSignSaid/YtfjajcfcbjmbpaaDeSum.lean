/- The law DetSum. -/
import Derived.Test.YtfjajcfcbjmbpaaDeFact
import Derived.Test.YtfjajcfcbjmbpaaLawIn
import Derived.Test.YtfjajcfcbjmbpaaMxRef2
namespace Go.Proofs.Ytfjajcfcbjmbpaa
open Go.ChangeShapes Go.WideShapes Go.ChangeAt Go.RowKit
set_option linter.unusedVariables false

theorem in_el (x : Fp.F) : (decide ((0 : Int) ≤ (x.val : Int)) && decide ((x.val : Int) ≤ 9972)) = true := by
  have := gval x
  simp; omega
/-- Numbers of the field as a row. -/
theorem row_F {l : List Int} {n : Nat} (hl : l.length = n) (h : AllIn l 0 9972) : ∃ u : Nat → Fp.F, l = Mx.row n fun j => ((u j).val : Int) := by
  refine ⟨fun j => Fp.ofInt (l.getD j 0), ?_⟩
  rw [← hl]
  refine (Mx.is_row l).trans (Mx.row_ext fun k hk => ?_)
  rw [Fp.ofInt_val]
  have := h k hk
  omega
/-- Another row in the place of row i: its head is written. -/
theorem LiesM.setHead {w : World} {g i c1 : Nat} {m : List (List Int)} {A1 : Option Addr} {l : List Int} (h : LiesM w (some ⟨g, 0, none⟩) m) (hi : i < m.length) (hl : Lies w A1 l) (hc : l.length ≤ c1) :
    LiesM (w.setCell ⟨g, i, none⟩ (.slice A1 l.length c1)) (some ⟨g, 0, none⟩) (m.set i l) := by
  obtain ⟨ad, A0, c0, e, hlt, hx, _, _⟩ := h i hi
  cases e
  rw [add_at] at hx
  have far : ∀ (A' : Option Addr) (l' : List Int), Lies w A' l' → Lies (w.setCell ⟨g, i, none⟩ (.slice A1 l.length c1)) A' l' := fun A' l' hl' k hk => by
    obtain ⟨ad', e', hlt', hx'⟩ := hl' k hk
    refine ⟨ad', e', by simpa [World.setCell] using hlt', cell_far _ hx' fun e2 => ?_⟩
    rw [← e2, hx] at hx'
    cases hx'
  intro k hk
  rw [List.length_set] at hk
  by_cases hki : k = i
  · subst hki
    have hg : (m.set k l).getD k [] = l := by rw [List.getD_eq_getElem?_getD, List.getElem?_set, if_pos rfl, if_pos hk]; rfl
    rw [hg]
    exact ⟨_, A1, c1, rfl, by simpa [World.setCell] using hlt, by rw [add_at]; exact World.cell?_setCell_same _ _ _ hx, hc, far _ _ hl⟩
  · have hg : (m.set i l).getD k [] = m.getD k [] := by rw [List.getD_eq_getElem?_getD, List.getElem?_set, if_neg (fun e => hki e.symm), List.getD_eq_getElem?_getD]
    rw [hg]
    obtain ⟨ad2, A2, c2, e2, hlt2, hx2, hc2, hl2⟩ := h k hk
    cases e2
    rw [add_at] at hx2
    refine ⟨_, A2, c2, rfl, by simpa [World.setCell] using hlt2, ?_, hc2, far _ _ hl2⟩
    rw [add_at]
    exact cell_far _ hx2 fun e3 => hki (by cases e3; rfl)
theorem matl_setr (r c : Nat) (f : Nat → Nat → Fp.F) (i : Nat) (u : Nat → Fp.F) : (Mx.matl r c f).set i (Mx.row c fun j => ((u j).val : Int)) = Mx.matl r c (Mx.setr i u f) := by
  unfold Mx.matl Mx.tab
  refine List.ext_getElem (by simp) fun k h1 h2 => ?_
  rw [List.getElem_set]
  by_cases h : i = k
  · rw [if_pos h]
    simp only [List.getElem_map, List.getElem_range]
    refine Mx.row_ext fun j _ => ?_
    show _ = (((if k = i then u j else f k j) : Fp.F).val : Int)
    rw [if_pos h.symm]
  · rw [if_neg h]
    simp only [List.getElem_map, List.getElem_range]
    refine Mx.row_ext fun j _ => ?_
    show _ = (((if k = i then u j else f k j) : Fp.F).val : Int)
    rw [if_neg (fun e => h e.symm)]
theorem ownM_topFree {w : World} {B : Nat} {G C : Nat → Nat} {r c g n cap : Nat} {f : Nat → Nat → Int} (h : OwnM w B (.slice (some ⟨g, 0, none⟩) n cap) G C (Mx.tab r c f)) (i : Nat) : w.frozen? ⟨g, i, none⟩ = false := h.weak.topFree i

set_option maxRecDepth 100000 in
set_option maxHeartbeats 6400000 in
theorem walk_DetSum (A : Option Addr) (a : List (List Int)) (c : Nat) (i : Int) (R : Option Addr) (l : List Int) (d : Nat) (w : World) (ha : LiesM w A a) (hr : Lies w R l) (lc : l.length ≤ d) :
    Calls Try.prog 5 #[.slice A a.length c, .int .i64 i, .slice R l.length d] w fun e w' => e = .returned (.bool true) ∧ Kp w w' := by
  obtain ⟨n, hn⟩ : ∃ n, n = a.length := ⟨_, rfl⟩
  obtain ⟨q, hq⟩ : ∃ q, q = l.length := ⟨_, rfl⟩
  rw [← hn, ← hq]
  have HA := Lib.hid ha
  have HR := Lib.hid hr
  have HQ := Lib.hid hq
  have HLC := Lib.hid (show q ≤ d by rw [hq]; exact lc)
  have FA := Lib.hid (detFact_any w)
  clear ha hr hq lc
  rcases Of_or A a n c hn.symm with ⟨f, sa⟩ | bad
  · have SA := Lib.hid sa
    have n0 := sa.r0
    have n5 := sa.r5
    obtain ⟨x, hx⟩ : ∃ x, x = Mx.dt n f := ⟨_, rfl⟩
    have HX := Lib.hid hx
    have IX := Lib.hid (fun w => law2In_any (x.val : Int) 0 9972 w true (in_el x))
    have OA := Lib.hid (fun w h => Of_sh (A := A) sa c w h)
    rw [← hx] at OA
    have hxv := gval x
    clear hn sa hx
    by_cases hi : 0 ≤ i ∧ i ≤ (n : Int) - 1
    · obtain ⟨k, rfl⟩ : ∃ k : Nat, i = (k : Int) := ⟨i.toNat, by omega⟩
      have hk : k < n := by omega
      have II := Lib.hid (fun w => law2In_any (k : Int) 0 ((n : Int) - 1) w true (by simp; omega))
      clear hi
      by_cases hqn : q = n
      · subst hqn
        have AL := Lib.hid (fun w h => all_any R l d 0 9972 w h (by rw [← HQ.out]; omega))
        rw [← HQ.out] at AL
        by_cases hall : AllIn l 0 9972
        · have AT := Lib.hid (fun w h => (AL.out w h).mono fun e w' h' => show e = .returned (.bool true) ∧ w = w' from ⟨tells_yes h'.1 hall, h'.2⟩)
          obtain ⟨u, hu⟩ := row_F HQ.out.symm hall
          have HU := Lib.hid hu
          have e0 : ((q : Int) != (q : Int)) = false := by simp
          have ha1 := HA.out
          rw [SA.out.eq] at ha1
          have HM := Lib.hid ha1
          clear AL hall hu ha1
          go_enter Try.func5, Try.ntmps5
          go_wp2_with fail
          refine (FA.out).mono ?_; rintro e w1 ⟨rfl, k1⟩
          have K1 := Lib.hid k1; clear k1
          go_wp2_with fail
          refine (OA.out w1 (HA.out.keep K1.out)).mono ?_; rintro e w2 ⟨rfl, k2⟩
          have K2 := Lib.hid (K1.out.trans k2); clear k2
          go_wp2_with fail
          refine (II.out w2).mono ?_; rintro e w3 ⟨rfl, rfl⟩
          go_wp2_with fail
          refine (AT.out w2 (HR.out.keep K2.out)).mono ?_; rintro e w3 ⟨rfl, rfl⟩
          go_wp2_with fail
          refine (rCopy_any A f q q c w2 (HM.out.keep K2.out) n0 (by omega) (by omega)).mono ?_; rintro e w3 ⟨v, G, C, rfl, ho, k3⟩
          obtain ⟨g, gc, rfl, hg⟩ := ho.some (by rw [Mx.len_matl]; exact n0)
          rw [Mx.len_matl] at ho ⊢
          have y1 := ho.weak.head hk
          have y2 := ownM_topFree ho k
          have hlr := (HR.out.keep K2.out).keep k3
          have LA := Lib.hid (ho.liesM.setHead (by rw [Mx.len_matl]; exact hk) hlr (by rw [← HQ.out]; exact HLC.out))
          rw [← HQ.out] at LA
          rw [HU.out, matl_setr] at LA
          have K3 := Lib.hid ((K2.out.trans k3).put (p := ⟨g, k, none⟩) (Nat.le_trans K2.out.size hg) (.slice R q d))
          clear ho k3 hlr
          go_wp2_with fail
          refine (rCopy_any A f q q c _ (HM.out.keep K3.out) n0 (by omega) (by omega)).mono ?_; rintro e w4 ⟨v, G2, C2, rfl, ho, k4⟩
          obtain ⟨g2, gc2, rfl, hg2⟩ := ho.some (by rw [Mx.len_matl]; exact n0)
          rw [Mx.len_matl] at ho ⊢
          obtain ⟨w5, hw5⟩ : ∃ x, x = w3.setCell ⟨g, k, none⟩ (.slice R q d) := ⟨_, rfl⟩
          rw [← hw5] at LA K3 ho k4 hg2
          have HO := Lib.hid ho
          have K4 := Lib.hid k4
          clear ho k4 hw5 y1 y2
          go_wp2_with fail
          go_loopw [12] (fun s wr => ∃ t : Nat, t ≤ q ∧ s = .int .i64 (t : Int) ∧ OwnM wr w5.heap.size (.slice (some ⟨g2, 0, none⟩) q gc2) G2 C2 (Mx.tab q q fun x y => if x = k ∧ y < t then ((f x y + u y).val : Int) else ((f x y).val : Int)) ∧ Kp w5 wr) (fun s _ => q - (intOf s).toNat)
          case atStart => exact ⟨0, Nat.zero_le _, rfl, HO.out.ext (fun x y _ _ => by rw [if_neg (by omega)]), K4.out⟩
          case round =>
            clear HO
            obtain ⟨t, ht, rfl, ho, hkp⟩ := hrel
            have HO := Lib.hid ho
            have HK := Lib.hid hkp
            by_cases hlt : t < q
            · have x1 := ho.weak.head hk
              have x2 := ho.weak.free hk t
              have x4 := ho.weak.el hk hlt
              rw [if_neg (by omega)] at x4
              have x3 := (ho.weak.lt hk).1
              obtain ⟨ad, A0, d0, rfl, _, y1, _, l1⟩ := (HM.out.keep (K3.out.trans hkp)).row hk
              obtain ⟨ad1, rfl, _, y2⟩ := l1.el hlt
              have hlr := HR.out.keep (K3.out.trans hkp)
              rw [HU.out] at hlr
              obtain ⟨ad2, rfl, _, y3⟩ := hlr.el hlt
              obtain ⟨z, hz⟩ : ∃ z, z = ((f k t + u t).val : Int) := ⟨_, rfl⟩
              have hm := Fp.add_val (f k t) (u t)
              rw [← hz] at hm
              have HZ := Lib.hid hz
              have b1 := gval (f k t)
              have b2 := gval (u t)
              generalize ((f k t).val : Int) = p1 at *
              generalize ((u t).val : Int) = p2 at *
              have hwa : IntKind.i64.wrap (p1 + p2) = p1 + p2 := IntWalk.i64_in _ (by omega)
              have MO := Lib.hid (fun w => rMod_any (p1 + p2) w (by omega) (by omega))
              rw [← hm] at MO
              have HX3 := Lib.hid x3
              clear ho hkp hz hm l1 hlr x3
              go_wp2_with fail
              refine wp_region_still_tail 19 (by kernel_rfl) (by kernel_rfl) ?_
              simp only [List.take_succ_cons, List.take_zero, List.drop_succ_cons, List.drop_zero]
              repeat still_step
              still_call ((MO.out _).mono fun _ _ h => ⟨h.1, h.2.symm⟩)
              repeat still_step
              refine wpStill_nil ?_
              change wpList _ _ _ _ _ wr.drew
              go_wp2_with fail
              go_roundw
              case rel =>
                refine ⟨t + 1, by omega, by go_num, ((HO.out.drewN 1).put hk t z).ext (fun x y hx hy => ?_), (HK.out.drewN 1).put (p := ⟨G2 k, t, none⟩) HX3.out _⟩
                by_cases e : x = k ∧ y = t
                · rw [if_pos e, if_pos (by omega), e.1, e.2]; exact HZ.out
                · rw [if_neg e]
                  by_cases e2 : x = k ∧ y < t
                  · rw [if_pos e2, if_pos (by omega)]
                  · rw [if_neg e2, if_neg (by omega)]
              case measure => simp [intOf]; omega
            · obtain rfl : t = q := by omega
              obtain ⟨y, hy⟩ : ∃ y, y = Mx.dt t (Mx.setr k u f) := ⟨_, rfl⟩
              have hd := Mx.dt_rplus f hk u
              rw [← hy, ← HX.out] at hd
              have LB := Lib.hid (show LiesM wr (some ⟨g2, 0, none⟩) (Mx.matl t t (Mx.setr k (fun j => f k j + u j) f)) from (ho.ext (f' := fun x y => ((Mx.setr k (fun j => f k j + u j) f x y).val : Int)) fun x y _ hy => by
                unfold Mx.setr
                by_cases e : x = k
                · rw [if_pos ⟨e, hy⟩, if_pos e, e]
                · rw [if_neg (fun h => e h.1), if_neg e]).liesM)
              have OY := Lib.hid (fun w h => Of_sh (A := some ⟨g, 0, none⟩) (show Sh t t (Mx.setr k u f) (Mx.matl t t (Mx.setr k u f)) from ⟨rfl, n0, n5, n0, n5⟩) gc w h)
              have OZ := Lib.hid (fun w h => Of_sh (A := some ⟨g2, 0, none⟩) (show Sh t t (Mx.setr k (fun j => f k j + u j) f) (Mx.matl t t (Mx.setr k (fun j => f k j + u j) f)) from ⟨rfl, n0, n5, n0, n5⟩) gc2 w h)
              rw [← hy] at OY
              rw [hd] at OZ
              have IY := Lib.hid (fun w => law2In_any (y.val : Int) 0 9972 w true (in_el y))
              have b2 := gval y
              have MO := Lib.hid (fun w => rMod_any ((x.val : Int) + (y.val : Int)) w (by omega) (by omega))
              rw [← Fp.add_val] at MO
              generalize x + y = xy at *
              generalize (x.val : Int) = xv at *
              generalize (y.val : Int) = yv at *
              have hwa : IntKind.i64.wrap (xv + yv) = xv + yv := IntWalk.i64_in _ (by omega)
              clear ho hkp hy hd
              go_wp2_with fail
              refine (OY.out _ (LA.out.keep HK.out)).mono ?_; rintro e w6 ⟨rfl, k6⟩
              have K6 := Lib.hid k6; clear k6
              go_wp2_with fail
              refine (OZ.out _ (LB.out.keep K6.out)).mono ?_; rintro e w7 ⟨rfl, k7⟩
              have K7 := Lib.hid ((K3.out.trans HK.out).trans (K6.out.trans k7)); clear k7
              go_wp2_with fail
              refine (IX.out w7).mono ?_; rintro e w8 ⟨rfl, rfl⟩
              go_wp2_with fail
              refine (IY.out w7).mono ?_; rintro e w8 ⟨rfl, rfl⟩
              go_wp2_with fail
              refine (MO.out w7).mono ?_; rintro e w8 ⟨rfl, rfl⟩
              go_wp2_with fail
              go_ret
              exact ⟨ret_bool (by simp), K7.out⟩
        · have AT := Lib.hid (fun w h => (AL.out w h).mono fun e w' h' => show e = .returned (.bool false) ∧ w = w' from ⟨tells_no h'.1 hall, h'.2⟩)
          have e0 : ((q : Int) != (q : Int)) = false := by simp
          clear AL hall
          go_enter Try.func5, Try.ntmps5
          go_wp2_with fail
          refine (FA.out).mono ?_; rintro e w1 ⟨rfl, k1⟩
          have K1 := Lib.hid k1; clear k1
          go_wp2_with fail
          refine (OA.out w1 (HA.out.keep K1.out)).mono ?_; rintro e w2 ⟨rfl, k2⟩
          have K2 := Lib.hid (K1.out.trans k2); clear k2
          go_wp2_with fail
          refine (II.out w2).mono ?_; rintro e w3 ⟨rfl, rfl⟩
          go_wp2_with fail
          refine (AT.out w2 (HR.out.keep K2.out)).mono ?_; rintro e w3 ⟨rfl, rfl⟩
          go_wp2_with fail
          go_ret
          exact ⟨rfl, K2.out⟩
      · have e0 : ((q : Int) != (n : Int)) = true := by rw [bne_iff_ne]; omega
        clear hqn
        go_enter Try.func5, Try.ntmps5
        go_wp2_with fail
        refine (FA.out).mono ?_; rintro e w1 ⟨rfl, k1⟩
        have K1 := Lib.hid k1; clear k1
        go_wp2_with fail
        refine (OA.out w1 (HA.out.keep K1.out)).mono ?_; rintro e w2 ⟨rfl, k2⟩
        have K2 := Lib.hid (K1.out.trans k2); clear k2
        go_wp2_with fail
        refine (II.out w2).mono ?_; rintro e w3 ⟨rfl, rfl⟩
        go_wp2_with fail
        go_ret
        exact ⟨rfl, K2.out⟩
    · have II := Lib.hid (fun w => law2In_any i 0 ((n : Int) - 1) w false (by simp; omega))
      clear hi
      go_enter Try.func5, Try.ntmps5
      go_wp2_with fail
      refine (FA.out).mono ?_; rintro e w1 ⟨rfl, k1⟩
      have K1 := Lib.hid k1; clear k1
      go_wp2_with fail
      refine (OA.out w1 (HA.out.keep K1.out)).mono ?_; rintro e w2 ⟨rfl, k2⟩
      have K2 := Lib.hid (K1.out.trans k2); clear k2
      go_wp2_with fail
      refine (II.out w2).mono ?_; rintro e w3 ⟨rfl, rfl⟩
      go_wp2_with fail
      go_ret
      exact ⟨rfl, K2.out⟩
  · have BAD := Lib.hid bad
    clear hn bad
    go_enter Try.func5, Try.ntmps5
    go_wp2_with fail
    refine (FA.out).mono ?_; rintro e w1 ⟨rfl, k1⟩
    have K1 := Lib.hid k1; clear k1
    go_wp2_with fail
    refine (BAD.out w1 (HA.out.keep K1.out)).mono ?_; rintro e w2 ⟨z, rfl, k2⟩
    have K2 := Lib.hid (K1.out.trans k2); clear k2
    go_wp2_with fail
    go_ret
    exact ⟨rfl, K2.out⟩

end Go.Proofs.Ytfjajcfcbjmbpaa
