/- Contracts of package lu, second part: eliminate. -/
import Derived.Test.YtdkdpklohfdpmaaDoorLuC1
namespace Go.Proofs.YtdkdpklohfdpmaaDoor
open Go.ChangeShapes Go.WideShapes Go.ChangeAt Go.RowKit
set_option linter.unusedVariables false

/-- What eliminate leaves of lines. -/
def Elim (B g n c : Nat) (t : Mx.Tri) (w : World) (e : Ending) (w' : World) : Prop :=
  e = .returned .nilIface ∧ (∃ (t' : Mx.Tri) (L C U D : Nat → Nat), LinT w' B g n L C U D t' ∧ ((First n t.u c c n ∧ t' = t) ∨ ∃ k, k < n ∧ First n t.u c c k ∧ t' = t.step n c k)) ∧ ∀ a : World, a.heap.size ≤ B → Kp a w → Kp a w'

set_option maxRecDepth 100000 in
set_option maxHeartbeats 6400000 in
theorem elim_more {B g n c r : Nat} {L C U D : Nat → Nat} {t : Mx.Tri} (w : World) (h : LinT w B g n L C U D t) (hn : n = c + r) (hb : n ≤ 1000) (hr : 0 < r) (hr2 : ¬ r = 1) :
    Calls Tryd.prog 16 #[.slice (some ⟨g, c * 3, none⟩) r r, .int .i64 (c : Int)] w fun e w' => Elim B g n c t w e w' := by
  have k0 : Kp w (w.alloc (.cells #[.int .i64 (c : Int)] 3)) := (Kp.rfl' w).new _
  have IX := Lib.hid (idx_any (P := w.heap.size) _ (h.keep k0) hn hb hr (cell_made _ _ _ _ 0 rfl))
  have H := Lib.hid h
  have HN := Lib.hid hn
  have hr1 : r ≤ 1000 := by omega
  have K0 := Lib.hid k0
  clear h hn k0
  go_enter Tryd.func16, Tryd.ntmps16
  go_wp2_with fail
  refine (IX.out).mono ?_; rintro e w1 ⟨hc, k1⟩
  have K1 := Lib.hid (K0.out.trans k1)
  have c0 : w1.cell? ⟨w.heap.size, 0, none⟩ = some (.int .i64 (c : Int)) := (k1.cell (p := ⟨w.heap.size, 0, none⟩) (by simp)).trans (cell_made _ _ _ _ 0 rfl)
  clear k1
  rcases hc with ⟨k, hk, hk1, hk2, rfl⟩ | ⟨hz, rfl⟩
  · have hx := H.out.keep K1.out
    have hcn : c < n := by have := HN.out; omega
    have hkn : c + k < n := by have := HN.out; omega
    have x0 := hx.top.cell0 hcn
    have x1 := hx.top.cell1 hcn
    have x2 := hx.top.cell2 hcn
    have y0 := hx.top.cell0 hkn
    have y1 := hx.top.cell1 hkn
    have y2 := hx.top.cell2 hkn
    unfold lnv at x0 x1 x2 y0 y1 y2
    rw [show (c + k) * 3 = c * 3 + k * 3 by omega] at y0 y1 y2
    have f0 := hx.top.free (c * 3)
    have f1 := hx.top.free (c * 3 + 1)
    have f2 := hx.top.free (c * 3 + 2)
    have tp := hx.top.put hcn (.int .i64 (t.s (c + k) : Int)) (.slice (some ⟨L (c + k), 0, none⟩) n (C (c + k))) (.slice (some ⟨U (c + k), 0, none⟩) n (D (c + k)))
    obtain ⟨v0, z0⟩ := tp.has (q := c * 3 + k * 3) (by omega)
    obtain ⟨v1, z1⟩ := tp.has (q := c * 3 + k * 3 + 1) (by omega)
    obtain ⟨v2, z2⟩ := tp.has (q := c * 3 + k * 3 + 2) (by omega)
    have g0 := tp.free (c * 3 + k * 3)
    have g1 := tp.free (c * 3 + k * 3 + 1)
    have g2 := tp.free (c * 3 + k * 3 + 2)
    unfold st3 at z0 z1 z2 g0 g1 g2
    have hkn0 : ¬ ((k : Int) < 0) := by omega
    have hBg := hx.hB
    have hPg : w.heap.size ≠ g := fun e => by have := H.out.top.lt; omega
    have hpL : ∀ i, i < n → L (Mx.sw c (c + k) i) ≠ w.heap.size := fun i hi e => by have := (H.out.lb (Mx.sw_lt hcn hkn hi)).2; omega
    have hpU : ∀ i, i < n → U (Mx.sw c (c + k) i) ≠ w.heap.size := fun i hi e => by have := (H.out.ub (Mx.sw_lt hcn hkn hi)).2; omega
    obtain ⟨w2, hw2⟩ : ∃ x, x = (swW w1 g n (c * 3) (c * 3 + k * 3) c (c + k) t.s L C U D).drew := ⟨_, rfl⟩
    have h2 : LinT w2 B g n (fun i => L (Mx.sw c (c + k) i)) (fun i => C (Mx.sw c (c + k) i)) (fun i => U (Mx.sw c (c + k) i)) (fun i => D (Mx.sw c (c + k) i)) (t.swp c (c + k)) := by
      rw [hw2]; exact (hx.swap hcn hkn rfl (by omega)).keep ((Kp.rfl' _).drewN 1)
    have cS : (swW w1 g n (c * 3) (c * 3 + k * 3) c (c + k) t.s L C U D).cell? ⟨w.heap.size, 0, none⟩ = some (.int .i64 (c : Int)) :=
      (World.cell?_of_block (w := w1) (w' := swW w1 g n (c * 3) (c * 3 + k * 3) c (c + k) t.s L C U D) (a := ⟨w.heap.size, 0, none⟩) (swW_other w1 g n (c * 3) (c * 3 + k * 3) c (c + k) t.s L C U D hPg)).trans c0
    have cP : w2.cell? ⟨w.heap.size, 0, none⟩ = some (.int .i64 (c : Int)) := by
      rw [hw2]; exact (((Kp.rfl' (swW w1 g n (c * 3) (c * 3 + k * 3) c (c + k) t.s L C U D)).drewN 1).cell (p := ⟨w.heap.size, 0, none⟩) (cell_lt cS)).trans cS
    have KF := Lib.hid (show ∀ a : World, a.heap.size ≤ B → Kp a w → Kp a w2 from fun a ha hk => by
      rw [hw2]; exact (swW_kp (hk.trans K1.out) (Nat.le_trans ha hBg) _ _ _ _).drewN 1)
    have hpv : (t.swp c (c + k)).u c c ≠ 0 := by show t.u (Mx.sw c (c + k) c) c ≠ 0; rw [Mx.sw_left]; exact hk1
    have FST := Lib.hid (show First n t.u c c (c + k) from ⟨by omega, by omega, fun i h1 h2 => by have := hk2 (i - c) (by omega); rwa [show c + (i - c) = i by omega] at this, fun _ => hk1⟩)
    obtain ⟨t1, ht1⟩ : ∃ x, x = t.swp c (c + k) := ⟨_, rfl⟩
    have HT1 := Lib.hid (show t1.clr c n = t.step n c (c + k) by rw [ht1]; rfl)
    rw [← ht1] at h2 hpv
    obtain ⟨L1, hL1⟩ : ∃ x : Nat → Nat, x = fun i => L (Mx.sw c (c + k) i) := ⟨_, rfl⟩
    obtain ⟨U1, hU1⟩ : ∃ x : Nat → Nat, x = fun i => U (Mx.sw c (c + k) i) := ⟨_, rfl⟩
    obtain ⟨C1, hC1⟩ : ∃ x : Nat → Nat, x = fun i => C (Mx.sw c (c + k) i) := ⟨_, rfl⟩
    obtain ⟨D1, hD1⟩ : ∃ x : Nat → Nat, x = fun i => D (Mx.sw c (c + k) i) := ⟨_, rfl⟩
    rw [← hL1, ← hU1, ← hC1, ← hD1] at h2
    have PL := Lib.hid (show ∀ i, i < n → L1 i ≠ w.heap.size by rw [hL1]; exact hpL)
    have PU := Lib.hid (show ∀ i, i < n → U1 i ≠ w.heap.size by rw [hU1]; exact hpU)
    have u2 := h2.top.cell2 hcn
    unfold lnv at u2
    have H2 := Lib.hid h2
    have CP := Lib.hid cP
    have HPV := Lib.hid hpv
    dsimp only [swW, st3, lnv] at hw2
    have HW2 := Lib.hid hw2
    clear cS hx tp hk1 hk2 hL1 hU1 hC1 hD1 ht1 h2 cP hpv hw2 hpL hpU hPg
    go_wp2_with fail
    go_region_law (fail)
    all_goals
      rw [← HW2.out]
      clear HW2 f0 f1 f2 g0 g1 g2 z0 z1 z2 x0 x1 x2 y0 y1 y2 c0
      go_wp2_with fail
      obtain ⟨q, hq⟩ : ∃ q, q = r - 1 := ⟨_, rfl⟩
      rw [← hq]
      have HQ := Lib.hid hq
      have hq1 : q ≤ 1000 := by omega
      clear hq u2
      go_loopw [35] (fun i wr => ∃ j : Nat, j ≤ q ∧ i = .int .i64 (j : Int) ∧ LinT wr B g n L1 C1 U1 D1 (t1.clr c (c + 1 + j)) ∧ wr.cell? ⟨w.heap.size, 0, none⟩ = some (.int .i64 (c : Int)) ∧ ∀ a : World, a.heap.size ≤ B → Kp a w → Kp a wr) (fun i _ => q - (intOf i).toNat)
      case atStart => exact ⟨0, Nat.zero_le _, rfl, H2.out.ext fun a b _ _ => ⟨by rw [(t1.clr_start c a b).1], by rw [(t1.clr_start c a b).2]⟩, CP.out, KF.out⟩
      case round =>
        obtain ⟨j, hj, rfl, hl, hp, hkf⟩ := hrel
        have HL := Lib.hid hl
        have HP := Lib.hid hp
        have HKF := Lib.hid hkf
        obtain ⟨wo, hwo⟩ : ∃ x, x = wr := ⟨_, rfl⟩
        subst hwo
        by_cases hlt : j < q
        · obtain ⟨i, hi⟩ : ∃ i, i = c + 1 + j := ⟨_, rfl⟩
          have hin : i < n := by have := HN.out; have := HQ.out; omega
          rw [← hi] at HL
          have hl := HL.out
          have HI := Lib.hid (show c < i ∧ c + 1 + (j + 1) = i + 1 by omega)
          have x0 := hl.top.cell0 hin
          have x1 := hl.top.cell1 hin
          have x2 := hl.top.cell2 hin
          unfold lnv at x0 x1 x2
          rw [show i * 3 = c * 3 + 3 + j * 3 by omega] at x0 x1 x2
          have y1 := hl.uc hin hcn
          have y2 := hl.uc hcn hcn
          rw [(t1.clr_at c i c).1] at y1
          rw [(t1.clr_at c i c).2] at y2
          have y3 := hl.lc hin hcn
          have y4 := hl.lf hin c
          obtain ⟨s0, hs0⟩ : ∃ x, x = (t1.clr c i).s i := ⟨_, rfl⟩
          rw [← hs0] at x0
          obtain ⟨wb, hwb⟩ : ∃ x, x = wo.alloc (.cells #[.int .i64 (s0 : Int), .slice (some ⟨L1 i, 0, none⟩) n (C1 i), .slice (some ⟨U1 i, 0, none⟩) n (D1 i)] 43) := ⟨_, rfl⟩
          have kb : Kp wo wb := by rw [hwb]; exact (Kp.rfl' wo).new _
          have b1 : wb.cell? ⟨wo.heap.size, 1, none⟩ = some (.slice (some ⟨L1 i, 0, none⟩) n (C1 i)) := by rw [hwb]; exact cell_made _ _ _ _ 1 rfl
          have b2 : wb.cell? ⟨wo.heap.size, 2, none⟩ = some (.slice (some ⟨U1 i, 0, none⟩) n (D1 i)) := by rw [hwb]; exact cell_made _ _ _ _ 2 rfl
          have z1 := (kb.cell (p := ⟨U1 i, c, none⟩) (cell_lt y1)).trans y1
          have z2 := (kb.cell (p := ⟨U1 c, c, none⟩) (cell_lt y2)).trans y2
          have z3 := (kb.cell (p := ⟨L1 i, c, none⟩) (cell_lt y3)).trans y3
          have z4 := (kb.frozen (p := ⟨L1 i, c, none⟩) (cell_lt y3)).trans y4
          have z5 := (kb.cell (p := ⟨w.heap.size, 0, none⟩) (cell_lt hp)).trans hp
          have DV := Lib.hid (fun w => div_el (t1.u i c) (t1.u c c) w HPV.out)
          unfold el at DV
          obtain ⟨fv, hfv⟩ : ∃ x, x = ((t1.u i c * Fp.inv (t1.u c c)).val : Int) := ⟨_, rfl⟩
          rw [← hfv] at DV
          have HFV := Lib.hid hfv
          have HLB := Lib.hid (HL.out.keep kb)
          have hbL : L1 i ≠ wo.heap.size := by have := (hl.lb hin).2; omega
          have HBL := Lib.hid hbL
          have HWB := Lib.hid hwb
          have HKB := Lib.hid kb
          generalize ((t1.u i c).val : Int) = a1 at *
          generalize ((t1.u c c).val : Int) = a2 at *
          clear hl hp hkf hi hs0 hwb kb hfv y1 y2 y3 y4 hbL
          go_wp2_with fail
          rw [← HWB.out]
          clear x0 x1 x2 HWB
          go_quiet ((first
            | (with_reducible exact quiet_drew (DV.out _))
            | (with_reducible exact quiet_drew_more (DV.out _))))
          obtain ⟨wd, hwd⟩ : ∃ x, x = wb.drewN nq := ⟨_, rfl⟩
          rw [← hwd]
          have kd : Kp wb wd := by rw [hwd]; exact (Kp.rfl' wb).drewN nq
          have d1 := (kd.cell (p := ⟨wo.heap.size, 1, none⟩) (cell_lt b1)).trans b1
          have d2 := (kd.cell (p := ⟨wo.heap.size, 2, none⟩) (cell_lt b2)).trans b2
          have d3 := (kd.cell (p := ⟨L1 i, c, none⟩) (cell_lt z3)).trans z3
          have d4 := (kd.frozen (p := ⟨L1 i, c, none⟩) (cell_lt z3)).trans z4
          have d5 := (kd.cell (p := ⟨w.heap.size, 0, none⟩) (cell_lt z5)).trans z5
          have d6 : (wd.setCell ⟨L1 i, c, none⟩ (.int .i64 fv)).cell? ⟨wo.heap.size, 2, none⟩ = some (.slice (some ⟨U1 i, 0, none⟩) n (D1 i)) :=
            (World.cell?_setCell_other (w := wd) (v := .int .i64 fv) (h := fun e => HBL.out (congrArg Addr.block e))).trans d2
          have d7 : (wd.setCell ⟨L1 i, c, none⟩ (.int .i64 fv)).cell? ⟨w.heap.size, 0, none⟩ = some (.int .i64 (c : Int)) :=
            (World.cell?_setCell_other (w := wd) (v := .int .i64 fv) (h := fun e => PL.out i hin (congrArg Addr.block e))).trans d5
          have HLX := Lib.hid ((HLB.out.keep kd).put hin c fv)
          have SUB := Lib.hid (sub_any (B := B) (z := U1 i) (cz := D1 i) (y := U1 c) (cy := D1 c) (n := n) (f := fun q => t1.u i q) (h := fun q => t1.u c q) (H2.out.ua i c hin hcn (by have := HI.out.1; omega)) (t1.u i c * Fp.inv (t1.u c c)) (wd.setCell ⟨L1 i, c, none⟩ (.int .i64 fv)) hb
            (by
              have := HLX.out.up i hin
              rw [show (Mx.row n fun j => ((t1.u i j).val : Int)) = Mx.row n fun j => (((t1.clr c i).u i j).val : Int) from Mx.row_ext fun j _ => by rw [(t1.clr_at c i j).1]]
              exact this)
            (fun x hx => by
              have := HLX.out.uc hcn hx
              rwa [(t1.clr_at c i x).2] at this))
          rw [← HFV.out] at SUB
          have KX := Lib.hid (show ∀ a : World, a.heap.size ≤ B → Kp a w → Kp a (wd.setCell ⟨L1 i, c, none⟩ (.int .i64 fv)) from fun a ha hk =>
            (((HKF.out a ha hk).trans HKB.out).trans kd).put (p := ⟨L1 i, c, none⟩) (Nat.le_trans ha (H2.out.lb hin).1) _)
          have D7 := Lib.hid d7
          clear hwd kd d7 b1 b2 z1 z2 z3 z4 z5
          go_wp2_with fail
          refine (SUB.out).mono ?_; rintro e w3 ⟨rfl, ho3, hon3⟩
          have H3 := HLX.out.turn hin hon3 ho3
          have P3 := Lib.hid ((World.cell?_of_block (w := wd.setCell ⟨L1 i, c, none⟩ (.int .i64 fv)) (w' := w3) (a := ⟨w.heap.size, 0, none⟩) (hon3.block _ (cell_lt D7.out) fun _ _ e => PU.out i hin e.symm)).trans D7.out)
          have K3 := Lib.hid (show ∀ a : World, a.heap.size ≤ B → Kp a w → Kp a w3 from fun a ha hk => hon3.below (KX.out a ha hk) (KX.out a ha hk).size fun _ _ => Nat.le_trans ha (H2.out.ub hin).1)
          have H4 := Lib.hid (show LinT w3 B g n L1 C1 U1 D1 (t1.clr c (c + 1 + (j + 1))) by
            rw [HI.out.2]
            refine Lin.ext H3 fun a b _ _ => ⟨?_, ?_⟩
            · rw [← t1.clr_l HI.out.1 a b]
              by_cases e : a = i ∧ b = c
              · rw [if_pos e, if_pos e, HFV.out]
              · rw [if_neg e, if_neg e]
            · rw [← t1.clr_u HI.out.1 a b]
              by_cases e : a = i
              · rw [if_pos e, if_pos e]
              · rw [if_neg e, if_neg e])
          clear H3 ho3 hon3 d1 d2 d3 d4 d5 d6
          go_wp2_with fail
          go_roundw
          case rel => exact ⟨j + 1, by omega, by go_num, H4.out, P3.out, K3.out⟩
          case measure => simp [intOf]; omega
        · obtain rfl : j = q := by omega
          have H4 := Lib.hid (show LinT wo B g n L1 C1 U1 D1 (t.step n c (c + k)) by
            have := HL.out
            rw [show c + 1 + j = n by have := HN.out; have := HQ.out; omega, HT1.out] at this
            exact this)
          clear hl hp hkf
          go_wp2_with fail
          go_ret
          exact ⟨rfl, ⟨_, L1, C1, U1, D1, H4.out, .inr ⟨c + k, hkn, FST.out, rfl⟩⟩, HKF.out⟩
  · have FST := Lib.hid (show First n t.u c c n from ⟨by have := HN.out; omega, Nat.le_refl n, fun i h1 h2 => by have := hz (i - c) (by have := HN.out; omega); rwa [show c + (i - c) = i by omega] at this, fun h => absurd h (by omega)⟩)
    clear hz
    go_wp2_with fail
    go_ret
    exact ⟨rfl, ⟨t, L, C, U, D, H.out.keep K1.out, .inl ⟨FST.out, rfl⟩⟩, fun a _ hk => hk.trans K1.out⟩
set_option maxRecDepth 100000 in
set_option maxHeartbeats 6400000 in
/-- The last line has none below it. -/
theorem elim_last {B g n c : Nat} {L C U D : Nat → Nat} {t : Mx.Tri} (w : World) (h : LinT w B g n L C U D t) (hn : n = c + 1) (hb : n ≤ 1000) :
    Calls Tryd.prog 16 #[.slice (some ⟨g, c * 3, none⟩) 1 1, .int .i64 (c : Int)] w fun e w' => Elim B g n c t w e w' := by
  have k0 : Kp w (w.alloc (.cells #[.int .i64 (c : Int)] 3)) := (Kp.rfl' w).new _
  have IX := Lib.hid (idx_any (P := w.heap.size) _ (h.keep k0) hn hb (by omega) (cell_made _ _ _ _ 0 rfl))
  have H := Lib.hid h
  have HN := Lib.hid hn
  have K0 := Lib.hid k0
  clear h hn k0
  go_enter Tryd.func16, Tryd.ntmps16
  go_wp2_with fail
  refine (IX.out).mono ?_; rintro e w1 ⟨hc, k1⟩
  have K1 := Lib.hid (K0.out.trans k1)
  clear k1
  rcases hc with ⟨k, hk, hk1, hk2, rfl⟩ | ⟨hz, rfl⟩
  · obtain rfl : k = 0 := by omega
    rw [show c + 0 = c from rfl] at hk1
    have hx := H.out.keep K1.out
    have hcn : c < n := by have := HN.out; omega
    have x0 := hx.top.cell0 hcn
    have x1 := hx.top.cell1 hcn
    have x2 := hx.top.cell2 hcn
    unfold lnv at x0 x1 x2
    have f0 := hx.top.free (c * 3)
    have f1 := hx.top.free (c * 3 + 1)
    have f2 := hx.top.free (c * 3 + 2)
    have tp := hx.top.put hcn (.int .i64 (t.s c : Int)) (.slice (some ⟨L c, 0, none⟩) n (C c)) (.slice (some ⟨U c, 0, none⟩) n (D c))
    obtain ⟨v0, z0⟩ := tp.has (q := c * 3) (by omega)
    obtain ⟨v1, z1⟩ := tp.has (q := c * 3 + 1) (by omega)
    obtain ⟨v2, z2⟩ := tp.has (q := c * 3 + 2) (by omega)
    have g0 := tp.free (c * 3)
    have g1 := tp.free (c * 3 + 1)
    have g2 := tp.free (c * 3 + 2)
    unfold st3 at z0 z1 z2 g0 g1 g2
    have hBg := hx.hB
    obtain ⟨w2, hw2⟩ : ∃ x, x = (swW w1 g n (c * 3) (c * 3) c c t.s L C U D).drew := ⟨_, rfl⟩
    have h2 : LinT w2 B g n (fun i => L (Mx.sw c c i)) (fun i => C (Mx.sw c c i)) (fun i => U (Mx.sw c c i)) (fun i => D (Mx.sw c c i)) (t.swp c c) := by
      rw [hw2]; exact (hx.swap hcn hcn rfl rfl).keep ((Kp.rfl' _).drewN 1)
    have KF := Lib.hid (show ∀ a : World, a.heap.size ≤ B → Kp a w → Kp a w2 from fun a ha hk => by
      rw [hw2]; exact (swW_kp (hk.trans K1.out) (Nat.le_trans ha hBg) _ _ _ _).drewN 1)
    have FST := Lib.hid (show First n t.u c c c from ⟨by omega, by omega, fun i h1 h2 => absurd h1 (by omega), fun _ => hk1⟩)
    have u2 := h2.top.cell2 hcn
    unfold lnv at u2
    simp only [Mx.sw_same] at u2
    have H2 := Lib.hid (show LinT w2 B g n (fun i => L (Mx.sw c c i)) (fun i => C (Mx.sw c c i)) (fun i => U (Mx.sw c c i)) (fun i => D (Mx.sw c c i)) (t.step n c c) from h2.ext fun a b ha _ => by
      have e := (t.swp c c).clr_start c a b
      rw [show c + 1 = n from HN.out.symm] at e
      exact ⟨by rw [e.1]; rfl, by rw [e.2]; rfl⟩)
    dsimp only [swW, st3, lnv] at hw2
    have HW2 := Lib.hid hw2
    clear hx tp hk1 hk2 h2 hw2
    go_wp2_with fail
    go_region_law (fail)
    all_goals
      rw [← HW2.out]
      clear HW2 f0 f1 f2 g0 g1 g2 z0 z1 z2 x0 x1 x2
      go_wp2_with fail
      go_loopw [35] (fun i wr => i = .int .i64 0 ∧ wr = w2) (fun _ _ => 0)
      case atStart => exact ⟨rfl, rfl⟩
      case round =>
        obtain ⟨rfl, rfl⟩ := hrel
        go_wp2_with fail
        go_ret
        exact ⟨rfl, ⟨_, _, _, _, _, H2.out, .inr ⟨c, hcn, FST.out, rfl⟩⟩, KF.out⟩
  · have FST := Lib.hid (show First n t.u c c n from ⟨by have := HN.out; omega, Nat.le_refl n, fun i h1 h2 => by have := hz (i - c) (by have := HN.out; omega); rwa [show c + (i - c) = i by omega] at this, fun h => absurd h (by omega)⟩)
    clear hz
    go_wp2_with fail
    go_ret
    exact ⟨rfl, ⟨t, L, C, U, D, H.out.keep K1.out, .inl ⟨FST.out, rfl⟩⟩, fun a _ hk => hk.trans K1.out⟩

theorem elim_any {B g n c r : Nat} {L C U D : Nat → Nat} {t : Mx.Tri} (w : World) (h : LinT w B g n L C U D t) (hn : n = c + r) (hb : n ≤ 1000) (hr : 0 < r) :
    Calls Tryd.prog 16 #[.slice (some ⟨g, c * 3, none⟩) r r, .int .i64 (c : Int)] w fun e w' => Elim B g n c t w e w' := by
  by_cases h1 : r = 1
  · subst h1; exact elim_last w h hn hb
  · exact elim_more w h hn hb hr h1

end Go.Proofs.YtdkdpklohfdpmaaDoor
