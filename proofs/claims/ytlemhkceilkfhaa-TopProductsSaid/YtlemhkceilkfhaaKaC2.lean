/- Contracts of package kara, second part: multiply. -/
import Derived.Test.YtlemhkceilkfhaaKaC1
import Derived.Deep.RegionHeld3
import Derived.Deep.Cut
import Derived.Deep.DeepCutAuto
namespace Go.Proofs.Ytlemhkceilkfhaa
open Go.ChangeShapes Go.WideShapes Go.ChangeAt Go.RowKit
set_option linter.unusedVariables false

/-- The answer of multiply: N numbers, and how many products it took. -/
def MulAns (N : Nat) (cnt : Int) (P : List Int) (w : World) (e : Ending) (w' : World) : Prop :=
  ∃ A c, e = .returned (.tuple #[.slice A N c, .int .i64 cnt]) ∧ N ≤ c ∧ Lies w' A P ∧ Kp w w'

set_option maxRecDepth 100000 in
theorem mult_one (A B : Option Addr) (l m : List Int) (c d M : Nat) (w : World) (ha : Lies w A l) (hb : Lies w B m) (hl : l.length = 1) (hm : m.length = 1) (bl : Ka.Bd M l) (bm : Ka.Bd M m) (hM : M ≤ 16000) :
    Calls Try.prog 24 #[.slice A 1 c, .slice B 1 d] w fun e w' => MulAns 1 1 (Ka.prod 1 l m) w e w' := by
  obtain ⟨ad, rfl, _, hcx⟩ := ha 0 (by omega)
  obtain ⟨bd, rfl, _, hcy⟩ := hb 0 (by omega)
  rw [Ka.prod_one]
  have bx := bl 0
  have b_y := bm 0
  change World.cell? _ _ = some (.int .i64 (Ka.at' l 0)) at hcx
  change World.cell? _ _ = some (.int .i64 (Ka.at' m 0)) at hcy
  rw [add_zero'] at hcx hcy
  generalize Ka.at' l 0 = x at *
  generalize Ka.at' m 0 = y at *
  have hb' : -256000000 ≤ x * y ∧ x * y ≤ 256000000 := by
    have hb := Ka.mul_bounds (M := 16000) (x := x) (y := y) (by omega) (by omega)
    omega
  have hw : IntKind.i64.wrap (x * y) = x * y := IntWalk.i64_in _ (by omega)
  clear ha hb bx b_y hl hm bl bm
  go_enter Try.func24, Try.ntmps24
  go_wp2_with fail
  go_still_tail 7, (by kernel_rfl)
  change wpList _ _ _ _ _ w.drew
  go_wp2_with fail
  go_ret2
  exact ⟨_, _, rfl, Nat.le_refl _, lies_new _ _ [x * y], ((Kp.rfl' w).drewN 1).new _⟩

set_option maxRecDepth 100000 in
set_option maxHeartbeats 3200000 in
theorem mult_step (h n N q : Nat) (cnt C : Int) (hn : n = 2 * h) (hq : q + 1 = n) (hN : N + 1 = 2 * n) (h0 : 1 ≤ h) (h16 : n ≤ 16) (hc0 : 0 ≤ cnt) (hc1 : cnt ≤ 1000) (hC : C = cnt + cnt + cnt)
    (IH : ∀ A B l m c d M w, Lies w A l → Lies w B m → l.length = h → m.length = h → h ≤ c → h ≤ d → Ka.Bd M l → Ka.Bd M m → h * M ≤ 16000 → M ≤ 16000 →
      Calls Try.prog 24 #[.slice A h c, .slice B h d] w fun e w' => MulAns q cnt (Ka.prod h l m) w e w')
    (A B : Option Addr) (l m : List Int) (c d M : Nat) (w : World) (ha : Lies w A l) (hb : Lies w B m) (hl : l.length = n) (hm : m.length = n) (hc : n ≤ c) (hd : n ≤ d) (bl : Ka.Bd M l) (bm : Ka.Bd M m) (hnM : n * M ≤ 16000) (hM : M ≤ 16000) :
    Calls Try.prog 24 #[.slice A n c, .slice B n d] w fun e w' => MulAns N C (Ka.prod n l m) w e w' := by
  have l1 : (l.take h).length = h := by rw [List.length_take]; omega
  have l2 : (l.drop h).length = h := by rw [List.length_drop]; omega
  have m1 : (m.take h).length = h := by rw [List.length_take]; omega
  have m2 : (m.drop h).length = h := by rw [List.length_drop]; omega
  have hh2 : h * (2 * M) ≤ 16000 := by rw [show h * (2 * M) = n * M by rw [hn]; grind]; exact hnM
  have hh1 : h * M ≤ 16000 := Nat.le_trans (Nat.mul_le_mul_right M (by omega)) hnM
  have hM2 : 2 * M ≤ 16000 := by
    have := Nat.mul_le_mul_right (2 * M) h0; omega
  obtain ⟨ad, rfl, _, _⟩ := ha 0 (by omega)
  obtain ⟨bd, rfl, _, _⟩ := hb 0 (by omega)
  obtain ⟨L, eL⟩ : ∃ x, x = Ka.prod h (l.take h) (m.take h) := ⟨_, rfl⟩
  obtain ⟨H, eH⟩ : ∃ x, x = Ka.prod h (l.drop h) (m.drop h) := ⟨_, rfl⟩
  obtain ⟨BB, eB⟩ : ∃ x, x = Ka.prod h (Ka.plus h (l.take h) (l.drop h)) (Ka.plus h (m.take h) (m.drop h)) := ⟨_, rfl⟩
  have bL : ∀ k, -512000000 ≤ Ka.at' L k ∧ Ka.at' L k ≤ 512000000 := by rw [eL]; exact Ka.prod_bound l1 m1 (bl.take h) (bm.take h) hh1 hM
  have bH : ∀ k, -512000000 ≤ Ka.at' H k ∧ Ka.at' H k ≤ 512000000 := by rw [eH]; exact Ka.prod_bound l2 m2 (bl.drop h) (bm.drop h) hh1 hM
  have bB : ∀ k, -512000000 ≤ Ka.at' BB k ∧ Ka.at' BB k ≤ 512000000 := by
    rw [eB]; exact Ka.prod_bound (Ka.len_plus _ _ _) (Ka.len_plus _ _ _) ((bl.take h).plus (bl.drop h) h) ((bm.take h).plus (bm.drop h) h) hh2 hM2
  have lL : L.length = q := by rw [eL, Ka.len_prod]; omega
  have lH : H.length = q := by rw [eH, Ka.len_prod]; omega
  have lB : BB.length = q := by rw [eB, Ka.len_prod]; omega
  have END : Ka.row N (Ka.mix h L BB H q q q) = Ka.prod n l m := by
    have := Ka.mix_all (n := n) (h := h) (q := q) (l := l) (m := m) hn hq hl hm
    rw [← eL, ← eH, ← eB, show 2 * n - 1 = N by omega] at this
    exact this
  have LOW := Lib.hid (fun (wx : World) (hx : Kp w wx) => eL ▸ IH (some ad) (some bd) (l.take h) (m.take h) c d M wx ((ha.keep hx).take h) ((hb.keep hx).take h) l1 m1 (by omega) (by omega) (bl.take h) (bm.take h) hh1 hM)
  have HIG := Lib.hid (fun (wx : World) (hx : Kp w wx) => eH ▸ IH (some (ad.add h)) (some (bd.add h)) (l.drop h) (m.drop h) (c - h) (d - h) M wx ((ha.keep hx).drop h) ((hb.keep hx).drop h) l2 m2 (by omega) (by omega) (bl.drop h) (bm.drop h) hh1 hM)
  have SUA := Lib.hid (fun (wx : World) (hx : Kp w wx) => ksum_any (some ad) (some (ad.add h)) (l.take h) (l.drop h) h c (c - h) M wx ((ha.keep hx).take h) ((ha.keep hx).drop h) l1 l2 (by omega) (bl.take h) (bl.drop h) hM)
  have SUB := Lib.hid (fun (wx : World) (hx : Kp w wx) => ksum_any (some bd) (some (bd.add h)) (m.take h) (m.drop h) h d (d - h) M wx ((hb.keep hx).take h) ((hb.keep hx).drop h) m1 m2 (by omega) (bm.take h) (bm.drop h) hM)
  have BOT := Lib.hid (fun (A1 B1 : Option Addr) (c1 d1 : Nat) (wx : World) (h1 : Lies wx A1 (Ka.plus h (l.take h) (l.drop h))) (h2 : Lies wx B1 (Ka.plus h (m.take h) (m.drop h))) (h3 : h ≤ c1) (h4 : h ≤ d1) =>
    eB ▸ IH A1 B1 _ _ c1 d1 (2 * M) wx h1 h2 (Ka.len_plus _ _ _) (Ka.len_plus _ _ _) h3 h4 ((bl.take h).plus (bl.drop h) h) ((bm.take h).plus (bm.drop h) h) hh2 hM2)
  have BL := Lib.hid bL
  have BH := Lib.hid bH
  have BBd := Lib.hid bB
  have LL := Lib.hid lL
  have LH := Lib.hid lH
  have LB := Lib.hid lB
  have EN := Lib.hid END
  have HCC := Lib.hid hC
  have HMIX := Lib.hid (Ka.mix_bound (h := h) bL bB bH)
  generalize Ka.prod n l m = PR at *
  clear bL bH bB lL lH lB END hC eL eH eB l1 l2 m1 m2 hh1 hh2 hM2 hM hnM bl bm ha hb hl hm IH
  have e1 : ((n : Int) == 1) = false := by rw [beq_eq_false_iff_ne]; omega
  have hdiv : (n : Int) / 2 = (h : Int) := by omega
  have hdiv' : (n : Int).tdiv 2 = (h : Int) := by rw [Int.tdiv_eq_ediv_of_nonneg (by omega)]; exact hdiv
  have f1 : h ≤ n := by omega
  have f2 : h ≤ c := by omega
  have f3 : h ≤ d := by omega
  have f4 : n - h = h := by omega
  have g1 : ¬ c = h := by omega
  have g2 : ¬ d = h := by omega
  have HN1 := Lib.hid hn
  have HN2 := Lib.hid hq
  have HN3 := Lib.hid hN
  clear hn hq hN
  go_enter Try.func24, Try.ntmps24
  go_wp2_with fail
  go_region_held3 (fun w' => Kp w w')
    (first
    | exact Kp.rfl' _
    | exact (Kp.rfl' _).drewN 1
    | exact Kp.trans (by assumption) k1)
    ((first
    | (go_at_call 24; (with_reducible refine (LOW.out _ (by assumption)).mono ?_); rintro e w1 ⟨A1, c1, rfl, lc1, ll1, k1⟩)))
  have T1 : Kp w w1 := ((Kp.rfl' w).drewN 1).trans k1
  clear k1
  go_wp2_with fail
  go_region_held3 (fun w' => Kp w w')
    (first
    | exact T1
    | exact T1.drewN 1
    | exact Kp.trans (by assumption) k2)
    ((first
    | (go_at_call 24; (with_reducible refine (HIG.out _ (by assumption)).mono ?_); rintro e w2 ⟨A2, c2, rfl, lc2, ll2, k2⟩)))
  have T2 : Kp w w2 := (T1.drewN 1).trans k2
  have LL1 := Lib.hid (ll1.keep ((Kp.rfl' w1).drewN 1 |>.trans k2))
  have LL2 := Lib.hid ll2
  clear T1 k2 ll1 ll2
  go_upto_region 6 with (fail)
  go_cut [11, 12] from 48 to 66 (fun p r wx => ∃ A3 c3, p = .slice A3 q c3 ∧ r = .int .i64 cnt ∧ Lies wx A3 BB ∧ Kp w2 wx)
  case first =>
    go_region_held3 (fun w' => Kp w w')
      (first
      | exact T2
      | exact T2.drewN 1
      | exact Kp.trans (by assumption) k3
      | exact Kp.trans (by assumption) k4
      | exact Kp.trans (by assumption) k5)
      ((first
      | (go_at_call 30; (with_reducible refine (SUA.out _ (by assumption)).mono ?_); rintro e w3 ⟨A3, c3, rfl, lc3, ll3, k3⟩)
      | (go_at_call 30; (with_reducible refine (SUB.out _ (by assumption)).mono ?_); rintro e w4 ⟨A4, c4, rfl, lc4, ll4, k4⟩)
      | (go_at_call 24; (with_reducible refine (BOT.out A3 A4 c3 c4 _ (by first | exact ll3 | exact ll3.keep k4) (by first | exact ll4 | exact ll4.keep k3) lc3 lc4).mono ?_); rintro e w5 ⟨A5, c5, rfl, lc5, ll5, k5⟩)))
    all_goals
      go_wp2_with fail
      go_meet
      case rel => exact ⟨A5, c5, rfl, rfl, ll5, by first | exact ((((Kp.rfl' w2).drewN 1).trans k3).trans k4).trans k5 | exact ((((Kp.rfl' w2).drewN 1).trans k4).trans k3).trans k5⟩
  case rest =>
    obtain ⟨A3, c3, rfl, rfl, ll3, k3⟩ := hcut
    obtain ⟨w3, hw3⟩ : ∃ x, x = wc := ⟨_, rfl⟩
    subst hw3
    have LA := Lib.hid (LL1.out.keep k3)
    have LC := Lib.hid (LL2.out.keep k3)
    have LM := Lib.hid ll3
    have T3 := Lib.hid (T2.trans k3)
    clear ll3 k3 LL1 LL2 T2 LOW HIG SUA SUB BOT
    obtain ⟨i0, hi, hz0, hz1, hz2⟩ := info_parts int_info
    have hN2 : 2 * (n : Int) - 1 = (N : Int) := by have := HN3.out; omega
    have hN3 : IntKind.i64.wrap (2 * (n : Int)) = 2 * (n : Int) := IntWalk.i64_in _ (by omega)
    go_wp2_with (at_make; refine wpList_make_full _ rfl _ _ 22 rfl w3.heap.size 3 i0 (.int .i64 0) 1 Try.underlying22 hi hz0 hz1 _ _ _ _ N rfl rfl (by have := HN3.out; omega) (by have := HN3.out; omega) (by rw [hz2]; have := HN3.out; omega) (by unfold maxLen; have := HN3.out; omega) (Nat.le_refl _) ?_; intro w4 hown hgrow)
    have hrow : Row w4 w3.heap.size (Ka.row N (Ka.mix h L BB H 0 0 0)) := by
      rw [← Ka.row_zeros N _ (fun k _ => Ka.mix_zero h L BB H k)]; exact row_made hown
    have hkp : Kp w3 w4 := (Kp.rfl' w3).grown hgrow (Nat.le_refl _) (fun k hk => by cases hk)
    have HGB := Lib.hid (show w.heap.size ≤ w3.heap.size from T3.out.size)
    clear hown hgrow hi hz0 hz1 hz2
    obtain ⟨g, hg⟩ : ∃ g, g = w3.heap.size := ⟨_, rfl⟩
    rw [← hg] at hrow HGB ⊢
    have HG := Lib.hid hg
    clear hg
    go_loopw [73] (fun i wr => ∃ k : Nat, k ≤ q ∧ i = .int .i64 (k : Int) ∧ Row wr g (Ka.row N (Ka.mix h L BB H k k k)) ∧ Kp w3 wr) (fun i _ => q - (intOf i).toNat)
    case atStart => exact ⟨0, Nat.zero_le _, rfl, hrow, hkp⟩
    case round =>
      clear hrow hkp
      obtain ⟨k, hk, rfl, hr, hkp⟩ := hrel
      have HK := Lib.hid hkp
      by_cases hlt : k < q
      · have b1 := BL.out k
        have b2 := BBd.out k
        have b3 := BH.out k
        have kN : k < N := by have := HN3.out; have := HN2.out; omega
        obtain ⟨p, hp⟩ : ∃ p, p = k + h := ⟨_, rfl⟩
        obtain ⟨r, hr2⟩ : ∃ r, r = k + 2 * h := ⟨_, rfl⟩
        have pN : p < N := by have := HN3.out; have := HN2.out; have := HN1.out; omega
        have rN : r < N := by have := HN3.out; have := HN2.out; have := HN1.out; omega
        have wp : IntKind.i64.wrap ((k : Int) + (h : Int)) = (p : Int) := by rw [IntWalk.i64_in _ (by omega)]; omega
        have wr2 : IntKind.i64.wrap (2 * (h : Int)) = (n : Int) := by rw [IntWalk.i64_in _ (by omega)]; have := HN1.out; omega
        have wr3 : IntKind.i64.wrap ((k : Int) + (n : Int)) = (r : Int) := by rw [IntWalk.i64_in _ (by omega)]; have := HN1.out; omega
        have HP := Lib.hid hp
        have HR2 := Lib.hid hr2
        obtain ⟨x1, ex1⟩ : ∃ x, x = Ka.at' L k := ⟨_, rfl⟩
        obtain ⟨x2, ex2⟩ : ∃ x, x = Ka.at' BB k := ⟨_, rfl⟩
        obtain ⟨x3, ex3⟩ : ∃ x, x = Ka.at' H k := ⟨_, rfl⟩
        rw [← ex1] at b1
        rw [← ex2] at b2
        rw [← ex3] at b3
        -- the three stores, each in a world of its own
        have ST1 := Lib.hid (Ka.mix_low N h L BB H k k k)
        have ST2 := Lib.hid (Ka.mix_mid N h L BB H (k + 1) k k p (by omega))
        have ST3 := Lib.hid (Ka.mix_high N h L BB H (k + 1) (k + 1) k r (by omega))
        have m1 := HMIX.out k k k k
        have m2 := HMIX.out (k + 1) k k p
        have m3 := HMIX.out (k + 1) (k + 1) k r
        rw [← ex1] at ST1
        rw [← ex1, ← ex2, ← ex3] at ST2
        rw [← ex3] at ST3
        obtain ⟨y1, ey1⟩ : ∃ y, y = Ka.mix h L BB H k k k k := ⟨_, rfl⟩
        obtain ⟨y2, ey2⟩ : ∃ y, y = Ka.mix h L BB H (k + 1) k k p := ⟨_, rfl⟩
        obtain ⟨y3, ey3⟩ : ∃ y, y = Ka.mix h L BB H (k + 1) (k + 1) k r := ⟨_, rfl⟩
        rw [← ey1] at m1 ST1
        rw [← ey2] at m2 ST2
        rw [← ey3] at m3 ST3
        have w1a : IntKind.i64.wrap (y1 + x1) = y1 + x1 := IntWalk.i64_in _ (by omega)
        have w2a : IntKind.i64.wrap (x2 - x1) = x2 - x1 := IntWalk.i64_in _ (by omega)
        have w2b : IntKind.i64.wrap (x2 - x1 - x3) = x2 - x1 - x3 := IntWalk.i64_in _ (by omega)
        have w2c : IntKind.i64.wrap (y2 + (x2 - x1 - x3)) = y2 + (x2 - x1 - x3) := IntWalk.i64_in _ (by omega)
        have w3a : IntKind.i64.wrap (y3 + x3) = y3 + x3 := IntWalk.i64_in _ (by omega)
        clear m1 m2 m3 b1 b2 b3
        have ROW := Lib.hid (fun (wx : World) (i j c t : Nat) (v : Int) (hv : v = Ka.mix h L BB H i j c t) (ht : t < N) (hx : Row wx g (Ka.row N (Ka.mix h L BB H i j c))) =>
          show wx.cell? ⟨g, t, none⟩ = some (.int .i64 v) from by
            have h1 := hx.cell t (by rw [Ka.len_row]; exact ht)
            have h2 := Ka.at_row N (Ka.mix h L BB H i j c) t
            rw [if_pos ht] at h2
            unfold Ka.at' at h2
            rw [h1, h2, hv])
        have E1 := Lib.hid ey1
        have E2 := Lib.hid ey2
        have E3 := Lib.hid ey3
        clear ey1 ey2 ey3 hp hr2
        have HR := Lib.hid hr
        clear hr hkp
        have FST := Lib.hid (show ∀ wx, Kp w3 wx → ∃ a1 a2 a3, (L.length = q → BB.length = q → H.length = q → True) ∧ A1 = some a1 ∧ A3 = some a2 ∧ A2 = some a3 ∧ wx.cell? (a1.add k) = some (.int .i64 x1) ∧ wx.cell? (a2.add k) = some (.int .i64 x2) ∧ wx.cell? (a3.add k) = some (.int .i64 x3) from fun wx hx => by
          obtain ⟨a1, h1, _, hc1⟩ := (LA.out.keep hx) k (by rw [LL.out]; exact hlt)
          obtain ⟨a2, h2, _, hc2⟩ := (LM.out.keep hx) k (by rw [LB.out]; exact hlt)
          obtain ⟨a3, h3, _, hc3⟩ := (LC.out.keep hx) k (by rw [LH.out]; exact hlt)
          exact ⟨a1, a2, a3, fun _ _ _ => trivial, h1, h2, h3, by rw [ex1]; exact hc1, by rw [ex2]; exact hc2, by rw [ex3]; exact hc3⟩)
        clear ex1 ex2 ex3
        obtain ⟨a1, a2, a3, _, rfl, rfl, rfl, d1, d2, d3⟩ := FST.out wr HK.out
        go_wp2_with fail
        go_upto_region 11 with (fail)
        go_cut [73] from 73 to 121 (fun i wx => i = .int .i64 (k : Int) ∧ Row wx g (Ka.row N (Ka.mix h L BB H (k + 1) k k)) ∧ Kp w3 wx)
        case first =>
          have hcell := ROW.out wr k k k k y1 E1.out kN HR.out
          have hfree := HR.out.free k
          go_still_tail 10, (by kernel_rfl)
          change wpList _ _ _ _ _ wr.drew
          go_wp2_with fail
          go_meet
          case rel =>
            refine ⟨rfl, ?_, (HK.out.drewN 1).put (p := ⟨g, k, none⟩) (by rw [← HG.out]; exact Nat.le_refl _) _⟩
            rw [← ST1.out]
            exact (HR.out.drewN 1).put _ _
        case rest =>
          obtain ⟨rfl, r1, k1⟩ := hcut
          have HR := Lib.hid r1
          have HK := Lib.hid k1
          clear r1 k1 d1 d2 d3
          go_upto_region 12 with (fail)
          go_cut [73] from 73 to 121 (fun i wx => i = .int .i64 (k : Int) ∧ Row wx g (Ka.row N (Ka.mix h L BB H (k + 1) (k + 1) k)) ∧ Kp w3 wx)
          case first =>
            obtain ⟨_, _, _, _, q1, q2, q3, d1, d2, d3⟩ := FST.out _ HK.out
            cases q1; cases q2; cases q3
            have hcell := ROW.out _ (k + 1) k k p y2 E2.out pN HR.out
            have hfree := HR.out.free p
            go_still_tail 22, (by kernel_rfl)
            change wpList _ _ _ _ _ wc.drew
            go_wp2_with fail
            go_meet
            case rel =>
              refine ⟨rfl, ?_, (HK.out.drewN 1).put (p := ⟨g, p, none⟩) (by rw [← HG.out]; exact Nat.le_refl _) _⟩
              rw [← ST2.out]
              exact (HR.out.drewN 1).put _ _
          case rest =>
            obtain ⟨rfl, r1, k1⟩ := hcut
            have HR := Lib.hid r1
            have HK := Lib.hid k1
            clear r1 k1
            obtain ⟨_, _, _, _, q1, q2, q3, d1, d2, d3⟩ := FST.out _ HK.out
            cases q1; cases q2; cases q3
            have hcell := ROW.out _ (k + 1) (k + 1) k r y3 E3.out rN HR.out
            have hfree := HR.out.free r
            go_upto_region 13 with (fail)
            go_still_tail 13, (by kernel_rfl)
            change wpList _ _ _ _ _ wc.drew
            go_wp2_with fail
            go_roundw
            case rel =>
              refine ⟨k + 1, by omega, by go_num, ?_, (HK.out.drewN 1).put (p := ⟨g, r, none⟩) (by rw [← HG.out]; exact Nat.le_refl _) _⟩
              rw [← ST3.out]
              exact (HR.out.drewN 1).put _ _
            case measure => simp [intOf]; omega
      · obtain rfl : k = q := by omega
        have HR := Lib.hid (show Row wr g PR by rw [← EN.out]; exact hr)
        clear hr hkp
        have c2w : IntKind.i64.wrap (cnt + cnt) = cnt + cnt := IntWalk.i64_in _ (by omega)
        have c3w : IntKind.i64.wrap (cnt + cnt + cnt) = cnt + cnt + cnt := IntWalk.i64_in _ (by omega)
        go_wp2_with fail
        go_ret2
        exact ⟨some ⟨g, 0, none⟩, N, by rw [HCC.out]; rfl, Nat.le_refl _, HR.out.lies, T3.out.trans HK.out⟩

theorem mult_any (t : Nat) (h4 : t ≤ 4) : ∀ (n N : Nat) (hn : n = 2 ^ t) (hN : N + 1 = 2 * n) (A B : Option Addr) (l m : List Int) (c d M : Nat) (w : World), Lies w A l → Lies w B m → l.length = n → m.length = n → n ≤ c → n ≤ d → Ka.Bd M l → Ka.Bd M m → n * M ≤ 16000 → M ≤ 16000 →
    Calls Try.prog 24 #[.slice A n c, .slice B n d] w fun e w' => MulAns N (3 ^ t : Nat) (Ka.prod n l m) w e w' := by
  induction t with
  | zero =>
    intro n N hn hN A B l m c d M w ha hb hl hm hc hd bl bm hnM hM
    obtain rfl : n = 1 := hn
    obtain rfl : N = 1 := by omega
    exact mult_one A B l m c d M w ha hb hl hm bl bm hM
  | succ t ih =>
    intro n N hn hN A B l m c d M w ha hb hl hm hc hd bl bm hnM hM
    have hp : 2 ^ (t + 1) = 2 * 2 ^ t := by rw [Nat.pow_succ]; omega
    have h3 : 3 ^ (t + 1) = 3 * 3 ^ t := by rw [Nat.pow_succ]; omega
    have hpos : 1 ≤ 2 ^ t := Nat.one_le_two_pow
    have h16 : 2 ^ (t + 1) ≤ 16 := Nat.pow_le_pow_right (n := 2) (by decide) h4
    have h81 : 3 ^ t ≤ 3 ^ 4 := Nat.pow_le_pow_right (by decide) (by omega)
    exact mult_step (2 ^ t) n N (n - 1) ((3 ^ t : Nat) : Int) ((3 ^ (t + 1) : Nat) : Int) (by omega) (by omega) hN hpos (by omega) (by omega) (by omega) (by omega)
      (fun A B l m c d M w a1 a2 a3 a4 a5 a6 a7 a8 a9 a10 => ih (by omega) (2 ^ t) (n - 1) rfl (by omega) A B l m c d M w a1 a2 a3 a4 a5 a6 a7 a8 a9 a10)
      A B l m c d M w ha hb hl hm hc hd bl bm hnM hM

end Go.Proofs.Ytlemhkceilkfhaa
