/- Contracts of the document's Null and Solve. -/
import Derived.Test.YtcgpommgldecfaaDoorSoC5
import Derived.Test.YtcgpommgldecfaaDoorMxRef2
import Derived.Test.YtcgpommgldecfaaDoorMxRef5
namespace Go.Proofs.YtcgpommgldecfaaDoor
open Go.ChangeShapes Go.WideShapes Go.ChangeAt Go.RowKit
set_option linter.unusedVariables false

theorem neg_emod (a : Fp.F) : (-(a.val : Int)) % 9973 = ((-a : Fp.F).val : Int) := by
  have h := neg_mod a
  have hb := gval a
  rw [Int.tmod_eq_emod_of_nonneg (by omega)] at h
  omega
/-- What is taken to noughts, as the document's answer has it. -/
def MadeNull (r c : Nat) (f : Nat → Nat → Fp.F) (w : World) (e : Ending) (w' : World) : Prop :=
  ∃ b g A d, Stair r c c f b g ∧ e = .returned (.slice A (Mx.fr b c).length d) ∧ LiesM w' A (Mx.matl (Mx.fr b c).length c (Mx.nm b g c)) ∧ Kp w w'
/-- The one answer, as the document's answer has it. -/
def MadeSol (r c : Nat) (f : Nat → Nat → Fp.F) (ys : Nat → Fp.F) (w : World) (e : Ending) (w' : World) : Prop :=
  ∃ b g, Stair r c c f b g ∧ ((∃ x A d, Mx.Ans r c f ys b x ∧ e = .returned (.tuple #[.slice A c d, .bool true]) ∧ Lies w' A (rowF c x) ∧ Kp w w') ∨
    (Mx.NoAns r c f ys ∧ e = .returned (.tuple #[.slice none 0 0, .bool false]) ∧ Kp w w'))

set_option maxRecDepth 100000 in
set_option maxHeartbeats 6400000 in
theorem rNull_any (A : Option Addr) (f : Nat → Nat → Fp.F) (r c d : Nat) (w : World) (ha : LiesM w A (Mx.matl r c f)) (hr0 : 0 < r) (hr : r ≤ 1000) (hc0 : 0 < c) (hc : c ≤ 1000) :
    Calls Tryd.prog 6 #[.slice A r d] w fun e w' => MadeNull r c f w e w' := by
  obtain ⟨i0, hi, hz0, hz1, hz2⟩ := info_parts int_info
  obtain ⟨ad, A0, d0, rfl, hlad, x1, _, l0⟩ := ha.row hr0
  rw [add_zero'] at x1
  have STP := Lib.hid (rStairs_any (some ad) f r c c d w ha hr0 hc0 hr hc (Nat.le_refl _))
  clear ha l0 hlad
  go_enter Tryd.func6, Tryd.ntmps6
  go_wp2_with fail
  refine (STP.out).mono ?_; rintro e w1 ⟨b, g, A1, d1, A2, d2, hs, rfl, l1, l2, k1⟩
  have X1 := Lib.hid ((k1.cell (p := ad) (cell_lt x1)).trans x1)
  have hble := hs.le
  obtain ⟨p, hp⟩ : ∃ p, p = b.length := ⟨_, rfl⟩
  rw [← hp] at hble ⊢
  have HP := Lib.hid hp
  have ST := Lib.hid hs
  have L1 := Lib.hid l1
  have L2 := Lib.hid l2
  have K1 := Lib.hid k1
  clear hs l1 l2 k1 hp x1
  go_wp2_with fail
  go_loopw [5, 6] (fun v j wr => ∃ (k : Nat) (G C : Nat → Nat), k ≤ c ∧ j = .int .i64 (k : Int) ∧ OwnM wr w1.heap.size v G C (nulls b g c k) ∧ Kp w1 wr) (fun _ j _ => c - (intOf j).toNat)
  case atStart => exact ⟨0, fun _ => 0, fun _ => 0, Nat.zero_le _, rfl, ownM_none _ _ _ _, Kp.rfl' _⟩
  case round =>
    obtain ⟨k, G, C, hk, rfl, ho, hkp⟩ := hrel
    have HO := Lib.hid ho
    have HK := Lib.hid hkp
    have x1 := (hkp.cell (p := ad) (cell_lt X1.out)).trans X1.out
    by_cases hlt : k < c
    · have CT := Lib.hid (refHas_any A2 (cols b) b.length d2 (k : Int) wr (L2.out.keep hkp) (by rw [len_cols]; exact Nat.le_refl _) (by rw [← HP.out]; omega))
      rw [← HP.out] at CT
      by_cases hkb : k ∈ b
      · have CY := Lib.hid ((CT.out).mono fun e w' h => (⟨tells_yes h.1 (by rw [HP.out]; exact occurs_cols.2 hkb), h.2⟩ : e = .returned (.bool true) ∧ wr = w'))
        have HO2 := Lib.hid (show OwnM wr w1.heap.size u5 G C (nulls b g c (k + 1)) by rw [nulls_yes hkb]; exact ho)
        clear ho hkp hkb
        go_wp2_with fail
        refine (CY.out).mono ?_; rintro e w' ⟨rfl, rfl⟩
        go_wp2_with fail
        go_roundw
        case rel => exact ⟨k + 1, G, C, by omega, by go_num, HO2.out, HK.out⟩
        case measure => simp [intOf]; omega
      · have CN := Lib.hid ((CT.out).mono fun e w' h => (⟨tells_no h.1 (by rw [HP.out]; exact fun h => hkb (occurs_cols.1 h)), h.2⟩ : e = .returned (.bool false) ∧ wr = w'))
        have HKB := Lib.hid hkb
        clear ho hkp hkb
        obtain ⟨wo, hwo⟩ : ∃ x, x = wr := ⟨_, rfl⟩
        subst hwo
        go_wp2_with fail
        refine (CN.out).mono ?_; rintro e w' ⟨rfl, rfl⟩
        go_wp2_with (at_make; refine wpList_make_full _ rfl _ _ 23 rfl wo.heap.size 3 i0 (.int .i64 0) 1 Tryd.underlying23 hi hz0 hz1 _ _ _ _ c rfl rfl rfl rfl (by rw [hz2]; omega) (by unfold maxLen; omega) (Nat.le_refl _) ?_; intro w2 hown hgrow; have hkp2 : Kp wo w2 := (Kp.rfl' wo).grown hgrow (by simp) (fun k hk => by cases hk); have hrow := row_made hown; have hcell := hrow.cell k (by rw [List.length_replicate]; exact hlt); have hfree := hrow.free k)
        have HRU := Lib.hid (show Row (w2.setCell ⟨wo.heap.size, k, none⟩ (.int .i64 1)) wo.heap.size (rowF c (Mx.nv b g k 0)) by
          have := hrow.put k 1
          rw [Mx.row_rep, Mx.row_set] at this
          rw [show rowF c (Mx.nv b g k 0) = Mx.row c fun j => if j = k then 1 else 0 from Mx.row_ext fun j _ => by
            show (((if j = k then (1 : Fp.F) else 0) : Fp.F).val : Int) = _
            by_cases e : j = k
            · simp only [if_pos e]; rfl
            · simp only [if_neg e]; rfl]
          exact this)
        have K3 := Lib.hid (hkp2.put (p := ⟨wo.heap.size, k, none⟩) (Nat.le_refl _) (.int .i64 1))
        clear hcell hfree hrow hown hgrow hkp2 x1
        obtain ⟨gu, hgu⟩ : ∃ gu, gu = wo.heap.size := ⟨_, rfl⟩
        obtain ⟨w3, hw3⟩ : ∃ w3, w3 = w2.setCell ⟨wo.heap.size, k, none⟩ (.int .i64 1) := ⟨_, rfl⟩
        rw [← hw3] at HRU K3 ⊢
        rw [← hgu] at HRU ⊢
        have HGU := Lib.hid (Nat.le_of_eq hgu.symm)
        clear hgu hw3
        go_wp2_with fail
        go_loopw [8] (fun j wr => ∃ t : Nat, t ≤ p ∧ j = .int .i64 (t : Int) ∧ Row wr gu (rowF c (Mx.nv b g k t)) ∧ Kp wo wr) (fun j _ => p - (intOf j).toNat)
        case atStart => exact ⟨0, Nat.zero_le _, rfl, HRU.out, K3.out⟩
        case round =>
          obtain ⟨t, ht, rfl, hrow, hkw⟩ := hrel
          by_cases hlt2 : t < p
          · have htr : t < r := by omega
            have hkk := HK.out.trans hkw
            obtain ⟨ad2, rfl, _, x2⟩ := (L2.out.keep hkk) t (by rw [len_cols, ← HP.out]; exact hlt2)
            rw [cols_el b (by rw [← HP.out]; exact hlt2)] at x2
            obtain ⟨ad3, A3, d3, rfl, _, x3, _, l3⟩ := (L1.out.keep hkk).row (show t < r by omega)
            obtain ⟨ad4, rfl, _, x4⟩ := l3.el hlt
            have hj := ST.out.steps.lt t (by rw [← HP.out]; exact hlt2)
            have y1 := hrow.cell (Mx.pv b t) (by rw [Mx.len_row]; exact hj)
            have y2 := hrow.free (Mx.pv b t)
            rw [Mx.row_at _ _ _ hj] at y1
            have hm := neg_emod (g t k)
            have hb := gval (g t k)
            obtain ⟨z, hz⟩ : ∃ z, z = ((-(g t k) : Fp.F).val : Int) := ⟨_, rfl⟩
            rw [← hz] at hm
            have HN := Lib.hid (show Row (wr.drew.setCell ⟨gu, Mx.pv b t, none⟩ (.int .i64 z)) gu (rowF c (Mx.nv b g k (t + 1))) from by
              have h := (hrow.drewN 1).put (Mx.pv b t) z
              rw [Mx.row_set] at h
              rw [show rowF c (Mx.nv b g k (t + 1)) = Mx.row c fun j => if j = Mx.pv b t then z else ((Mx.nv b g k t j).val : Int) from Mx.row_ext fun j _ => by
                show (((if j = Mx.pv b t then -(g t k) else Mx.nv b g k t j) : Fp.F).val : Int) = _
                by_cases e : j = Mx.pv b t
                · rw [if_pos e, if_pos e, hz]
                · rw [if_neg e, if_neg e]]
              exact h)
            have HKW := Lib.hid ((hkw.drewN 1).put (p := ⟨gu, Mx.pv b t, none⟩) HGU.out (.int .i64 z))
            generalize ((Mx.nv b g k t (Mx.pv b t)).val : Int) = old at *
            generalize ((g t k).val : Int) = gv at *
            generalize Mx.pv b t = q at *
            have hws : IntKind.i64.wrap (-gv) = -gv := IntWalk.i64_in _ (by omega)
            have MO := Lib.hid (fun w => rMod_any (-gv) w (by omega) (by omega))
            rw [hm] at MO
            clear hrow hkw hkk l3 hz hb hm
            go_wp2_with fail
            refine wp_region_still_tail 15 (by kernel_rfl) (by kernel_rfl) ?_
            simp only [List.take_succ_cons, List.take_zero, List.drop_succ_cons, List.drop_zero]
            repeat still_step
            still_call ((MO.out _).mono fun _ _ h => ⟨h.1, h.2.symm⟩)
            repeat still_step
            refine wpStill_nil ?_
            change wpList _ _ _ _ _ wr.drew
            go_wp2_with fail
            go_roundw
            case rel => exact ⟨t + 1, by omega, by go_num, HN.out, HKW.out⟩
            case measure => simp [intOf]; omega
          · obtain rfl : t = p := by omega
            have OM := Lib.hid (HO.out.kp hkw)
            have HU := Lib.hid (hrow.own (B := w1.heap.size) (Nat.le_trans HK.out.size HGU.out) (Mx.len_row _ _) (by omega))
            have HAP := Lib.hid (show ∀ i, i < (nulls b g c k).length → G i ≠ gu from fun i hi => by
              have := (HO.out.lt hi).2
              have := HGU.out
              omega)
            have HK3 := Lib.hid (HK.out.trans hkw)
            have HLN := Lib.hid (show (nulls b g c k).length + 1 ≤ 1000000 by rw [len_nulls]; have := Mx.fr_le b k; omega)
            have HNX := Lib.hid (show nulls b g c k ++ [rowF c (Mx.nv b g k t)] = nulls b g c (k + 1) by rw [HP.out, nulls_no HKB.out])
            clear hrow hkw
            go_wp2_with (at_builtin; refine wpList_pushM rfl _ _ rfl w1.heap.size _ G C (nulls b g c k) _ gu c c _ 1 (Mx.len_row _ _) rfl rfl (OM.out.new _) (cell_made _ _ _ _ 0 rfl) (HU.out.new _) HAP.out HLN.out (Nat.le_trans HK3.out.size ((Kp.rfl' _).new _).size) ?_; intro v' w4 G' C' ho4 hk4)
            rw [HNX.out] at ho4
            have HO4 := Lib.hid ho4
            have HK4 := Lib.hid (hk4 w1 (Nat.le_refl _) (HK3.out.new _))
            clear ho4 hk4
            go_wp2_with fail
            go_roundw
            case rel => exact ⟨k + 1, G', C', by omega, by go_num, HO4.out, HK4.out⟩
            case measure => simp [intOf]; omega
    · obtain rfl : k = c := by omega
      obtain ⟨A5, d5, rfl, hl5, _⟩ := ho.lies
      have HL := Lib.hid hl5
      rw [nulls_all] at HL
      have HKK := Lib.hid (K1.out.trans hkp)
      rw [len_nulls]
      clear ho hkp hl5
      go_wp2_with fail
      go_ret
      exact ⟨b, g, A5, d5, ST.out, rfl, HL.out, HKK.out⟩

set_option maxRecDepth 100000 in
set_option maxHeartbeats 6400000 in
theorem rSolve_any (A : Option Addr) (f : Nat → Nat → Fp.F) (r c d : Nat) (Y : Option Addr) (ys : Nat → Fp.F) (dy : Nat) (w : World) (ha : LiesM w A (Mx.matl r c f)) (hy : Lies w Y (rowF r ys)) (hr0 : 0 < r) (hr : r ≤ 1000) (hc0 : 0 < c) (hc : c ≤ 999) :
    Calls Tryd.prog 11 #[.slice A r d, .slice Y r dy] w fun e w' => MadeSol r c f ys w e w' := by
  obtain ⟨i0, hi, hz0, hz1, hz2⟩ := info_parts int_info
  obtain ⟨ad, A0, d0, rfl, hlad, x1, _, l0⟩ := ha.row hr0
  rw [add_zero'] at x1
  have X1 := Lib.hid x1
  have HA := Lib.hid ha
  have HY := Lib.hid hy
  clear ha l0 hlad hy x1
  go_enter Tryd.func11, Tryd.ntmps11
  go_wp2_with fail
  go_loopw [6, 7] (fun v i wr => ∃ (k : Nat) (G C : Nat → Nat), k ≤ r ∧ i = .int .i64 (k : Int) ∧ OwnM wr w.heap.size v G C (Mx.matl k (c + 1) (Mx.aug c f ys)) ∧ Kp w wr) (fun _ i _ => r - (intOf i).toNat)
  case atStart => exact ⟨0, fun _ => 0, fun _ => 0, Nat.zero_le _, rfl, ownM_none _ _ _ _, Kp.rfl' _⟩
  case round =>
    obtain ⟨k, G, C, hk, rfl, ho, hkp⟩ := hrel
    have HO := Lib.hid ho
    have HK := Lib.hid hkp
    by_cases hlt : k < r
    · obtain ⟨ad1, A1, d1, e1, _, x2, _, l1⟩ := (HA.out.keep hkp).row hlt
      obtain rfl := Option.some.inj e1
      obtain ⟨yd, rfl, _, y2⟩ := (HY.out.keep hkp).el hlt
      have HSR := Lib.hid (show Mx.row c (fun j => ((f k j).val : Int)) ++ [((ys k).val : Int)] = rowF (c + 1) (Mx.aug c f ys k) from by
        rw [show rowF (c + 1) (Mx.aug c f ys k) = rowF c (Mx.aug c f ys k) ++ [((Mx.aug c f ys k c).val : Int)] from Mx.row_snoc _ _, show Mx.aug c f ys k c = ys k from if_pos rfl]
        congr 1
        exact Mx.row_ext fun j hj => by rw [show Mx.aug c f ys k j = f k j from if_neg (by omega)])
      have HS := Lib.hid (show Mx.matl (k + 1) (c + 1) (Mx.aug c f ys) = Mx.matl k (c + 1) (Mx.aug c f ys) ++ [rowF (c + 1) (Mx.aug c f ys k)] by rw [Mx.matl, Mx.tab_snoc]; rfl)
      have L1 := Lib.hid l1
      have Y2 := Lib.hid y2
      have hylt := cell_lt y2
      clear ho hkp l1 y2
      obtain ⟨yv, hyv⟩ : ∃ yv, yv = ((ys k).val : Int) := ⟨_, rfl⟩
      rw [← hyv] at HSR Y2
      clear hyv
      go_wp2_with (first
        | (at_builtin; refine wpList_cat rfl _ _ rfl wr.heap.size _ [] (Mx.row c fun j => ((f k j).val : Int)) A1 c d1 rfl rfl (Mx.len_row _ _).symm (Own.none _ _) L1.out (by rw [Mx.len_row]; simp; omega) (Nat.le_refl _) ?_; intro v1 w2 h1 h2 _; have kp2 : Kp wr w2 := own_below (Own.none wr wr.heap.size) (Kp.rfl' _) (Nat.le_refl _) h2; rw [List.nil_append] at h1; have HU := Lib.hid h1; have HQ := Lib.hid kp2; have y3 := (kp2.cell (p := yd.add k) hylt).trans Y2.out; clear h1 h2 kp2)
        | (at_builtin; refine wpList_push rfl _ _ rfl wr.heap.size _ (Mx.row c fun j => ((f k j).val : Int)) yv _ 1 rfl rfl (HU.out.new _) (cell_made _ _ _ _ 0 rfl) (by rw [Mx.len_row]; omega) (Nat.le_trans HQ.out.size ((Kp.rfl' _).new _).size) ?_; intro v2 w3 h1 h2 _; have kp3 : Kp wr w3 := own_below (HU.out.new _) (HQ.out.new _) (Nat.le_trans HQ.out.size ((Kp.rfl' _).new _).size) h2; rw [HSR.out] at h1; obtain ⟨g3, gc3, rfl, hg3, hgc3⟩ := own_some h1 (by rw [Mx.len_row]; omega); rw [Mx.len_row] at h1 hgc3 ⊢; have HU3 := Lib.hid h1; have HQ3 := Lib.hid kp3; have OM := Lib.hid (HO.out.kp kp3); have HAP := Lib.hid (show ∀ i, i < (Mx.matl k (c + 1) (Mx.aug c f ys)).length → G i ≠ g3 from fun i hi => by have := (HO.out.lt hi).2; omega); clear h1 h2 kp3)
        | (at_builtin; refine wpList_pushM rfl _ _ rfl w.heap.size _ G C (Mx.matl k (c + 1) (Mx.aug c f ys)) _ g3 (c + 1) gc3 _ 1 (Mx.len_row _ _) rfl rfl (OM.out.new _) (cell_made _ _ _ _ 0 rfl) ((HU3.out.from HK.out.size).new _) HAP.out (by rw [Mx.len_matl]; omega) (Nat.le_trans HK.out.size (Nat.le_trans HQ3.out.size ((Kp.rfl' _).new _).size)) ?_; intro v' w' G' C' ho' hk'))
      rw [← HS.out] at ho'
      have HO' := Lib.hid ho'
      have HK' := Lib.hid (hk' w (Nat.le_refl _) ((HK.out.trans HQ3.out).new _))
      clear ho' hk'
      go_wp2_with fail
      go_roundw
      case rel => exact ⟨k + 1, G', C', by omega, by go_num, HO'.out, HK'.out⟩
      case measure => simp [intOf]; omega
    · obtain rfl : k = r := by omega
      obtain ⟨A5, d5, rfl, hl5, _⟩ := ho.lies
      rw [Mx.len_matl]
      have x1 := (hkp.cell (p := ad) (cell_lt X1.out)).trans X1.out
      have STP := Lib.hid (rStairs_any A5 (Mx.aug c f ys) k (c + 1) c d5 wr hl5 hr0 (by omega) hr (by omega) (by omega))
      clear ho hkp hl5
      obtain ⟨w1, hw1⟩ : ∃ x, x = wr := ⟨_, rfl⟩
      subst hw1
      go_wp2_with fail
      refine (STP.out).mono ?_; rintro e w2 ⟨b, g, B1, e1, B2, e2, hs, rfl, l1, l2, k2⟩
      have hble := hs.le
      obtain ⟨p, hp⟩ : ∃ p, p = b.length := ⟨_, rfl⟩
      rw [← hp] at hble ⊢
      obtain ⟨c1, hc1⟩ : ∃ c1, c1 = c + 1 := ⟨_, rfl⟩
      rw [← hc1] at l1
      have hcc : c < c1 := by omega
      have HP := Lib.hid hp
      have ST := Lib.hid hs
      have L1 := Lib.hid l1
      have L2 := Lib.hid l2
      have K2 := Lib.hid (HK.out.trans k2)
      clear hc1
      have SF := Lib.hid (show Stair k c c f b g from ⟨hs.steps, (Mx.Req.of k c (Mx.aug_less k c f ys)).trans (hs.req.less (by omega))⟩)
      clear hs l1 l2 k2 hp x1
      go_wp2_with (at_make; refine wpList_make_full _ rfl _ _ 23 rfl w2.heap.size 3 i0 (.int .i64 0) 1 Tryd.underlying23 hi hz0 hz1 _ _ _ _ c rfl rfl rfl rfl (by rw [hz2]; omega) (by unfold maxLen; omega) (Nat.le_refl _) ?_; intro w3 hown hgrow; have hkp2 : Kp w2 w3 := (Kp.rfl' w2).grown hgrow (by simp) (fun k hk => by cases hk); have hrow := row_made hown)
      have HR3 := Lib.hid (show Row w3 w2.heap.size (rowF c (Mx.ov b g c 0)) by
        rw [Mx.row_rep] at hrow
        exact hrow)
      have K3 := Lib.hid hkp2
      clear hrow hown hgrow hkp2
      obtain ⟨gu, hgu⟩ : ∃ gu, gu = w2.heap.size := ⟨_, rfl⟩
      rw [← hgu] at HR3 ⊢
      have HGU := Lib.hid (Nat.le_of_eq hgu.symm)
      clear hgu
      go_wp2_with fail
      go_loopw [13] (fun i wr => ∃ t : Nat, t ≤ k ∧ i = .int .i64 (t : Int) ∧ (∀ s, p ≤ s → s < t → g s c = 0) ∧ Row wr gu (rowF c (Mx.ov b g c (min t p))) ∧ Kp w2 wr) (fun i _ => k - (intOf i).toNat)
      case atStart => exact ⟨0, Nat.zero_le _, rfl, fun s h1 h2 => absurd h2 (by omega), by rw [Nat.zero_min]; exact HR3.out, K3.out⟩
      case round =>
        obtain ⟨t, ht, rfl, hz, hrow, hkw⟩ := hrel
        have HZ := Lib.hid hz
        clear hz
        by_cases hlt2 : t < k
        · obtain ⟨ad3, A3, d3, rfl, _, x3, _, l3⟩ := (L1.out.keep hkw).row hlt2
          obtain ⟨ad4, rfl, _, x4⟩ := l3.el hcc
          have hb := gval (g t c)
          by_cases hlt3 : t < p
          · obtain ⟨ad2, rfl, _, x2⟩ := (L2.out.keep hkw) t (by rw [len_cols, ← HP.out]; exact hlt3)
            rw [cols_el b (by rw [← HP.out]; exact hlt3)] at x2
            have hj := ST.out.steps.lt t (by rw [← HP.out]; exact hlt3)
            have y1 := hrow.cell (Mx.pv b t) (by rw [Mx.len_row]; exact hj)
            have y2 := hrow.free (Mx.pv b t)
            rw [Mx.row_at _ _ _ hj] at y1
            have HN := Lib.hid (show Row (wr.drew.setCell ⟨gu, Mx.pv b t, none⟩ (.int .i64 ((g t c).val : Int))) gu (rowF c (Mx.ov b g c (min (t + 1) p))) from by
              have h := (hrow.drewN 1).put (Mx.pv b t) ((g t c).val : Int)
              rw [Mx.row_set, Nat.min_eq_left (by omega)] at h
              rw [Nat.min_eq_left (by omega)]
              rw [show rowF c (Mx.ov b g c (t + 1)) = Mx.row c fun j => if j = Mx.pv b t then ((g t c).val : Int) else ((Mx.ov b g c t j).val : Int) from Mx.row_ext fun j _ => by
                show (((if j = Mx.pv b t then g t c else Mx.ov b g c t j) : Fp.F).val : Int) = _
                by_cases e : j = Mx.pv b t
                · rw [if_pos e, if_pos e]
                · rw [if_neg e, if_neg e]]
              exact h)
            have HKW := Lib.hid ((hkw.drewN 1).put (p := ⟨gu, Mx.pv b t, none⟩) HGU.out (.int .i64 ((g t c).val : Int)))
            have HZ2 := Lib.hid (show ∀ s, p ≤ s → s < t + 1 → g s c = 0 from fun s h1 h2 => absurd h2 (by omega))
            generalize ((Mx.ov b g c (min t p) (Mx.pv b t)).val : Int) = old at *
            generalize ((g t c).val : Int) = gv at *
            generalize Mx.pv b t = q at *
            clear hrow hkw l3
            go_wp2_with fail
            refine wp_region_still_tail 13 (by kernel_rfl) (by kernel_rfl) ?_
            simp only [List.take_succ_cons, List.take_zero, List.drop_succ_cons, List.drop_zero]
            repeat still_step
            refine wpStill_nil ?_
            change wpList _ _ _ _ _ wr.drew
            go_wp2_with fail
            go_roundw
            case rel => exact ⟨t + 1, by omega, by go_num, HZ2.out, HN.out, HKW.out⟩
            case measure => simp [intOf]; omega
          · by_cases h0 : g t c = 0
            · have HZ2 := Lib.hid (show ∀ s, p ≤ s → s < t + 1 → g s c = 0 from fun s h1 h2 => by
                by_cases e : s = t
                · rw [e]; exact h0
                · exact HZ.out s h1 (by omega))
              have HN := Lib.hid (show Row wr gu (rowF c (Mx.ov b g c (min (t + 1) p))) by
                rw [Nat.min_eq_right (by omega)] at hrow ⊢; exact hrow)
              have HKW := Lib.hid hkw
              rw [h0] at x4
              have e0 : (((0 : Fp.F).val : Int) != 0) = false := rfl
              clear hrow hkw l3 h0 hb
              go_wp2_with fail
              go_roundw
              case rel => exact ⟨t + 1, by omega, by go_num, HZ2.out, HN.out, HKW.out⟩
              case measure => simp [intOf]; omega
            · have NO := Lib.hid (Mx.aug_not ST.out.steps ST.out.req (by rw [← HP.out]; omega) hlt2 h0)
              have hne : ((g t c).val : Int) ≠ 0 := fun e => h0 (Fin.ext (show (g t c).val = 0 by omega))
              have HKW := Lib.hid (K2.out.trans hkw)
              generalize ((g t c).val : Int) = gv at *
              have e0 : (gv != 0) = true := by simpa using hne
              clear hrow hkw l3 h0 hb hne
              go_wp2_with fail
              go_ret2
              exact ⟨b, g, SF.out, .inr ⟨NO.out, rfl, HKW.out⟩⟩
        · obtain rfl : t = k := by omega
          have AN := Lib.hid (Mx.aug_ans ST.out.steps ST.out.req (fun i h1 h2 => HZ.out i (by rw [HP.out]; exact h1) h2))
          have HL := Lib.hid hrow.lies
          rw [Nat.min_eq_right hble, HP.out] at HL
          have HKW := Lib.hid (K2.out.trans hkw)
          clear hrow hkw
          go_wp2_with fail
          go_ret2
          exact ⟨b, g, SF.out, .inl ⟨_, _, c, AN.out, rfl, HL.out, HKW.out⟩⟩
end Go.Proofs.YtcgpommgldecfaaDoor
