/- Several texts, one behind the other: LuC2, LuC3, HdsV, LuM2, LuC4, LuFact, Rnd, Oth, OthM, KeN, MiC, MiC2, MiFact, SgnRef, MxRef, MxRef2, ZRef, TpDets. -/
import Derived.Test.YtologiinkilooaaTopDetsProofG3
import Derived.Deep.OwnRows
import Derived.Test.YtologiinkilooaaTopDetsProofG1
import Derived.Test.YtologiinkilooaaTopDetsProofG2
import Derived.WalkSpells
import Derived.Deep.CutRange
import Derived.RangeFuncNested
import Derived.RangeFuncBound
import Derived.RangeFuncCalls
import Derived.RangeFuncLeaves
import Derived.Shelf.Abstract
import Derived.WalkKit
import Derived.OwnWalkIn
import Derived.TacticsInMore
import Derived.LoopNIn
import Derived.LoopIn
import Derived.OrdersIn
import Derived.StillTailTactics
import Derived.RangeFuncWrites
import Derived.Maps.AppendAt
import Derived.Deep.RegionHeld3
import Derived.Deep.QuietTactic
import Derived.BigQuiet

/- Contracts of package lu, second part: eliminate. -/
namespace Go.Proofs.Ytologiinkilooaa
open Go.ChangeShapes Go.WideShapes Go.ChangeAt Go.RowKit
set_option linter.unusedVariables false

/-- What eliminate leaves of lines. -/
def Elim (B g n c : Nat) (t : Mx.Tri) (w : World) (e : Ending) (w' : World) : Prop :=
  e = .returned .nilIface ∧ (∃ (t' : Mx.Tri) (L C U D : Nat → Nat), LinT w' B g n L C U D t' ∧ ((First n t.u c c n ∧ t' = t) ∨ ∃ k, k < n ∧ First n t.u c c k ∧ t' = t.step n c k)) ∧ ∀ a : World, a.heap.size ≤ B → Kp a w → Kp a w'

set_option maxRecDepth 100000 in
set_option maxHeartbeats 6400000 in
theorem elim_more {B g n c r : Nat} {L C U D : Nat → Nat} {t : Mx.Tri} (w : World) (h : LinT w B g n L C U D t) (hn : n = c + r) (hb : n ≤ 1000) (hr : 0 < r) (hr2 : ¬ r = 1) :
    Calls Try.prog 44 #[.slice (some ⟨g, c * 3, none⟩) r r, .int .i64 (c : Int)] w fun e w' => Elim B g n c t w e w' := by
  have k0 : Kp w (w.alloc (.cells #[.int .i64 (c : Int)] 3)) := (Kp.rfl' w).new _
  have IX := Lib.hid (lidx_any (P := w.heap.size) _ (h.keep k0) hn hb hr (cell_made _ _ _ _ 0 rfl))
  have H := Lib.hid h
  have HN := Lib.hid hn
  have hr1 : r ≤ 1000 := by omega
  have K0 := Lib.hid k0
  clear h hn k0
  go_enter Try.func44, Try.ntmps44
  go_wp2_with fail
  refine (IX.out).mono ?_; rintro e w1 ⟨hc, k1⟩
  have K1 := Lib.hid (K0.out.trans k1)
  have c0 : w1.cell? ⟨w.heap.size, 0, none⟩ = some (.int .i64 (c : Int)) := (k1.cell (p := ⟨w.heap.size, 0, none⟩) (by simp)).trans (cell_made _ _ _ _ 0 rfl)
  clear k1
  rcases hc with ⟨k, hk, hk1, hk2, rfl⟩ | ⟨hz, rfl⟩
  · have hx := H.out.keep K1.out
    have hcn : c < n := by have := HN.out; omega
    have hkn : c + k < n := by have := HN.out; omega
    have x0 := hx.top.cell0 hcn
    have x1 := hx.top.cell1 hcn
    have x2 := hx.top.cell2 hcn
    have y0 := hx.top.cell0 hkn
    have y1 := hx.top.cell1 hkn
    have y2 := hx.top.cell2 hkn
    unfold lnv at x0 x1 x2 y0 y1 y2
    rw [show (c + k) * 3 = c * 3 + k * 3 by omega] at y0 y1 y2
    have f0 := hx.top.free (c * 3)
    have f1 := hx.top.free (c * 3 + 1)
    have f2 := hx.top.free (c * 3 + 2)
    have tp := hx.top.put hcn (.int .i64 (t.s (c + k) : Int)) (.slice (some ⟨L (c + k), 0, none⟩) n (C (c + k))) (.slice (some ⟨U (c + k), 0, none⟩) n (D (c + k)))
    obtain ⟨v0, z0⟩ := tp.has (q := c * 3 + k * 3) (by omega)
    obtain ⟨v1, z1⟩ := tp.has (q := c * 3 + k * 3 + 1) (by omega)
    obtain ⟨v2, z2⟩ := tp.has (q := c * 3 + k * 3 + 2) (by omega)
    have g0 := tp.free (c * 3 + k * 3)
    have g1 := tp.free (c * 3 + k * 3 + 1)
    have g2 := tp.free (c * 3 + k * 3 + 2)
    unfold st3 at z0 z1 z2 g0 g1 g2
    have hkn0 : ¬ ((k : Int) < 0) := by omega
    have hBg := hx.hB
    have hPg : w.heap.size ≠ g := fun e => by have := H.out.top.lt; omega
    have hpL : ∀ i, i < n → L (Mx.sw c (c + k) i) ≠ w.heap.size := fun i hi e => by have := (H.out.lb (Mx.sw_lt hcn hkn hi)).2; omega
    have hpU : ∀ i, i < n → U (Mx.sw c (c + k) i) ≠ w.heap.size := fun i hi e => by have := (H.out.ub (Mx.sw_lt hcn hkn hi)).2; omega
    obtain ⟨w2, hw2⟩ : ∃ x, x = (swW w1 g n (c * 3) (c * 3 + k * 3) c (c + k) t.s L C U D).drew := ⟨_, rfl⟩
    have h2 : LinT w2 B g n (fun i => L (Mx.sw c (c + k) i)) (fun i => C (Mx.sw c (c + k) i)) (fun i => U (Mx.sw c (c + k) i)) (fun i => D (Mx.sw c (c + k) i)) (t.swp c (c + k)) := by
      rw [hw2]; exact (hx.swap hcn hkn rfl (by omega)).keep ((Kp.rfl' _).drewN 1)
    have cS : (swW w1 g n (c * 3) (c * 3 + k * 3) c (c + k) t.s L C U D).cell? ⟨w.heap.size, 0, none⟩ = some (.int .i64 (c : Int)) :=
      (World.cell?_of_block (w := w1) (w' := swW w1 g n (c * 3) (c * 3 + k * 3) c (c + k) t.s L C U D) (a := ⟨w.heap.size, 0, none⟩) (swW_other w1 g n (c * 3) (c * 3 + k * 3) c (c + k) t.s L C U D hPg)).trans c0
    have cP : w2.cell? ⟨w.heap.size, 0, none⟩ = some (.int .i64 (c : Int)) := by
      rw [hw2]; exact (((Kp.rfl' (swW w1 g n (c * 3) (c * 3 + k * 3) c (c + k) t.s L C U D)).drewN 1).cell (p := ⟨w.heap.size, 0, none⟩) (cell_lt cS)).trans cS
    have KF := Lib.hid (show ∀ a : World, a.heap.size ≤ B → Kp a w → Kp a w2 from fun a ha hk => by
      rw [hw2]; exact (swW_kp (hk.trans K1.out) (Nat.le_trans ha hBg) _ _ _ _).drewN 1)
    have hpv : (t.swp c (c + k)).u c c ≠ 0 := by show t.u (Mx.sw c (c + k) c) c ≠ 0; rw [Mx.sw_left]; exact hk1
    have FST := Lib.hid (show First n t.u c c (c + k) from ⟨by omega, by omega, fun i h1 h2 => by have := hk2 (i - c) (by omega); rwa [show c + (i - c) = i by omega] at this, fun _ => hk1⟩)
    obtain ⟨t1, ht1⟩ : ∃ x, x = t.swp c (c + k) := ⟨_, rfl⟩
    have HT1 := Lib.hid (show t1.clr c n = t.step n c (c + k) by rw [ht1]; rfl)
    rw [← ht1] at h2 hpv
    obtain ⟨L1, hL1⟩ : ∃ x : Nat → Nat, x = fun i => L (Mx.sw c (c + k) i) := ⟨_, rfl⟩
    obtain ⟨U1, hU1⟩ : ∃ x : Nat → Nat, x = fun i => U (Mx.sw c (c + k) i) := ⟨_, rfl⟩
    obtain ⟨C1, hC1⟩ : ∃ x : Nat → Nat, x = fun i => C (Mx.sw c (c + k) i) := ⟨_, rfl⟩
    obtain ⟨D1, hD1⟩ : ∃ x : Nat → Nat, x = fun i => D (Mx.sw c (c + k) i) := ⟨_, rfl⟩
    rw [← hL1, ← hU1, ← hC1, ← hD1] at h2
    have PL := Lib.hid (show ∀ i, i < n → L1 i ≠ w.heap.size by rw [hL1]; exact hpL)
    have PU := Lib.hid (show ∀ i, i < n → U1 i ≠ w.heap.size by rw [hU1]; exact hpU)
    have u2 := h2.top.cell2 hcn
    unfold lnv at u2
    have H2 := Lib.hid h2
    have CP := Lib.hid cP
    have HPV := Lib.hid hpv
    dsimp only [swW, st3, lnv] at hw2
    have HW2 := Lib.hid hw2
    clear cS hx tp hk1 hk2 hL1 hU1 hC1 hD1 ht1 h2 cP hpv hw2 hpL hpU hPg
    go_wp2_with fail
    go_region_law (fail)
    all_goals
      rw [← HW2.out]
      clear HW2 f0 f1 f2 g0 g1 g2 z0 z1 z2 x0 x1 x2 y0 y1 y2 c0
      go_wp2_with fail
      obtain ⟨q, hq⟩ : ∃ q, q = r - 1 := ⟨_, rfl⟩
      rw [← hq]
      have HQ := Lib.hid hq
      have hq1 : q ≤ 1000 := by omega
      clear hq u2
      go_loopw [35] (fun i wr => ∃ j : Nat, j ≤ q ∧ i = .int .i64 (j : Int) ∧ LinT wr B g n L1 C1 U1 D1 (t1.clr c (c + 1 + j)) ∧ wr.cell? ⟨w.heap.size, 0, none⟩ = some (.int .i64 (c : Int)) ∧ ∀ a : World, a.heap.size ≤ B → Kp a w → Kp a wr) (fun i _ => q - (intOf i).toNat)
      case atStart => exact ⟨0, Nat.zero_le _, rfl, H2.out.ext fun a b _ _ => ⟨by rw [(t1.clr_start c a b).1], by rw [(t1.clr_start c a b).2]⟩, CP.out, KF.out⟩
      case round =>
        obtain ⟨j, hj, rfl, hl, hp, hkf⟩ := hrel
        have HL := Lib.hid hl
        have HP := Lib.hid hp
        have HKF := Lib.hid hkf
        obtain ⟨wo, hwo⟩ : ∃ x, x = wr := ⟨_, rfl⟩
        subst hwo
        by_cases hlt : j < q
        · obtain ⟨i, hi⟩ : ∃ i, i = c + 1 + j := ⟨_, rfl⟩
          have hin : i < n := by have := HN.out; have := HQ.out; omega
          rw [← hi] at HL
          have hl := HL.out
          have HI := Lib.hid (show c < i ∧ c + 1 + (j + 1) = i + 1 by omega)
          have x0 := hl.top.cell0 hin
          have x1 := hl.top.cell1 hin
          have x2 := hl.top.cell2 hin
          unfold lnv at x0 x1 x2
          rw [show i * 3 = c * 3 + 3 + j * 3 by omega] at x0 x1 x2
          have y1 := hl.uc hin hcn
          have y2 := hl.uc hcn hcn
          rw [(t1.clr_at c i c).1] at y1
          rw [(t1.clr_at c i c).2] at y2
          have y3 := hl.lc hin hcn
          have y4 := hl.lf hin c
          obtain ⟨s0, hs0⟩ : ∃ x, x = (t1.clr c i).s i := ⟨_, rfl⟩
          rw [← hs0] at x0
          obtain ⟨wb, hwb⟩ : ∃ x, x = wo.alloc (.cells #[.int .i64 (s0 : Int), .slice (some ⟨L1 i, 0, none⟩) n (C1 i), .slice (some ⟨U1 i, 0, none⟩) n (D1 i)] 63) := ⟨_, rfl⟩
          have kb : Kp wo wb := by rw [hwb]; exact (Kp.rfl' wo).new _
          have b1 : wb.cell? ⟨wo.heap.size, 1, none⟩ = some (.slice (some ⟨L1 i, 0, none⟩) n (C1 i)) := by rw [hwb]; exact cell_made _ _ _ _ 1 rfl
          have b2 : wb.cell? ⟨wo.heap.size, 2, none⟩ = some (.slice (some ⟨U1 i, 0, none⟩) n (D1 i)) := by rw [hwb]; exact cell_made _ _ _ _ 2 rfl
          have z1 := (kb.cell (p := ⟨U1 i, c, none⟩) (cell_lt y1)).trans y1
          have z2 := (kb.cell (p := ⟨U1 c, c, none⟩) (cell_lt y2)).trans y2
          have z3 := (kb.cell (p := ⟨L1 i, c, none⟩) (cell_lt y3)).trans y3
          have z4 := (kb.frozen (p := ⟨L1 i, c, none⟩) (cell_lt y3)).trans y4
          have z5 := (kb.cell (p := ⟨w.heap.size, 0, none⟩) (cell_lt hp)).trans hp
          have DV := Lib.hid (fun w => div_el (t1.u i c) (t1.u c c) w HPV.out)
          unfold el at DV
          obtain ⟨fv, hfv⟩ : ∃ x, x = ((t1.u i c * Fp.inv (t1.u c c)).val : Int) := ⟨_, rfl⟩
          rw [← hfv] at DV
          have HFV := Lib.hid hfv
          have HLB := Lib.hid (HL.out.keep kb)
          have hbL : L1 i ≠ wo.heap.size := by have := (hl.lb hin).2; omega
          have HBL := Lib.hid hbL
          have HWB := Lib.hid hwb
          have HKB := Lib.hid kb
          generalize ((t1.u i c).val : Int) = a1 at *
          generalize ((t1.u c c).val : Int) = a2 at *
          clear hl hp hkf hi hs0 hwb kb hfv y1 y2 y3 y4 hbL
          go_wp2_with fail
          rw [← HWB.out]
          clear x0 x1 x2 HWB
          go_quiet ((first
            | (with_reducible exact quiet_drew (DV.out _))
            | (with_reducible exact quiet_drew_more (DV.out _))))
          obtain ⟨wd, hwd⟩ : ∃ x, x = wb.drewN nq := ⟨_, rfl⟩
          rw [← hwd]
          have kd : Kp wb wd := by rw [hwd]; exact (Kp.rfl' wb).drewN nq
          have d1 := (kd.cell (p := ⟨wo.heap.size, 1, none⟩) (cell_lt b1)).trans b1
          have d2 := (kd.cell (p := ⟨wo.heap.size, 2, none⟩) (cell_lt b2)).trans b2
          have d3 := (kd.cell (p := ⟨L1 i, c, none⟩) (cell_lt z3)).trans z3
          have d4 := (kd.frozen (p := ⟨L1 i, c, none⟩) (cell_lt z3)).trans z4
          have d5 := (kd.cell (p := ⟨w.heap.size, 0, none⟩) (cell_lt z5)).trans z5
          have d6 : (wd.setCell ⟨L1 i, c, none⟩ (.int .i64 fv)).cell? ⟨wo.heap.size, 2, none⟩ = some (.slice (some ⟨U1 i, 0, none⟩) n (D1 i)) :=
            (World.cell?_setCell_other (w := wd) (v := .int .i64 fv) (h := fun e => HBL.out (congrArg Addr.block e))).trans d2
          have d7 : (wd.setCell ⟨L1 i, c, none⟩ (.int .i64 fv)).cell? ⟨w.heap.size, 0, none⟩ = some (.int .i64 (c : Int)) :=
            (World.cell?_setCell_other (w := wd) (v := .int .i64 fv) (h := fun e => PL.out i hin (congrArg Addr.block e))).trans d5
          have HLX := Lib.hid ((HLB.out.keep kd).put hin c fv)
          have SUB := Lib.hid (sub_any (B := B) (z := U1 i) (cz := D1 i) (y := U1 c) (cy := D1 c) (n := n) (f := fun q => t1.u i q) (h := fun q => t1.u c q) (H2.out.ua i c hin hcn (by have := HI.out.1; omega)) (t1.u i c * Fp.inv (t1.u c c)) (wd.setCell ⟨L1 i, c, none⟩ (.int .i64 fv)) hb
            (by
              have := HLX.out.up i hin
              rw [show (Mx.row n fun j => ((t1.u i j).val : Int)) = Mx.row n fun j => (((t1.clr c i).u i j).val : Int) from Mx.row_ext fun j _ => by rw [(t1.clr_at c i j).1]]
              exact this)
            (fun x hx => by
              have := HLX.out.uc hcn hx
              rwa [(t1.clr_at c i x).2] at this))
          rw [← HFV.out] at SUB
          have KX := Lib.hid (show ∀ a : World, a.heap.size ≤ B → Kp a w → Kp a (wd.setCell ⟨L1 i, c, none⟩ (.int .i64 fv)) from fun a ha hk =>
            (((HKF.out a ha hk).trans HKB.out).trans kd).put (p := ⟨L1 i, c, none⟩) (Nat.le_trans ha (H2.out.lb hin).1) _)
          have D7 := Lib.hid d7
          clear hwd kd d7 b1 b2 z1 z2 z3 z4 z5
          go_wp2_with fail
          refine (SUB.out).mono ?_; rintro e w3 ⟨rfl, ho3, hon3⟩
          have H3 := HLX.out.turn hin hon3 ho3
          have P3 := Lib.hid ((World.cell?_of_block (w := wd.setCell ⟨L1 i, c, none⟩ (.int .i64 fv)) (w' := w3) (a := ⟨w.heap.size, 0, none⟩) (hon3.block _ (cell_lt D7.out) fun _ _ e => PU.out i hin e.symm)).trans D7.out)
          have K3 := Lib.hid (show ∀ a : World, a.heap.size ≤ B → Kp a w → Kp a w3 from fun a ha hk => hon3.below (KX.out a ha hk) (KX.out a ha hk).size fun _ _ => Nat.le_trans ha (H2.out.ub hin).1)
          have H4 := Lib.hid (show LinT w3 B g n L1 C1 U1 D1 (t1.clr c (c + 1 + (j + 1))) by
            rw [HI.out.2]
            refine Lin.ext H3 fun a b _ _ => ⟨?_, ?_⟩
            · rw [← t1.clr_l HI.out.1 a b]
              by_cases e : a = i ∧ b = c
              · rw [if_pos e, if_pos e, HFV.out]
              · rw [if_neg e, if_neg e]
            · rw [← t1.clr_u HI.out.1 a b]
              by_cases e : a = i
              · rw [if_pos e, if_pos e]
              · rw [if_neg e, if_neg e])
          clear H3 ho3 hon3 d1 d2 d3 d4 d5 d6
          go_wp2_with fail
          go_roundw
          case rel => exact ⟨j + 1, by omega, by go_num, H4.out, P3.out, K3.out⟩
          case measure => simp [intOf]; omega
        · obtain rfl : j = q := by omega
          have H4 := Lib.hid (show LinT wo B g n L1 C1 U1 D1 (t.step n c (c + k)) by
            have := HL.out
            rw [show c + 1 + j = n by have := HN.out; have := HQ.out; omega, HT1.out] at this
            exact this)
          clear hl hp hkf
          go_wp2_with fail
          go_ret
          exact ⟨rfl, ⟨_, L1, C1, U1, D1, H4.out, .inr ⟨c + k, hkn, FST.out, rfl⟩⟩, HKF.out⟩
  · have FST := Lib.hid (show First n t.u c c n from ⟨by have := HN.out; omega, Nat.le_refl n, fun i h1 h2 => by have := hz (i - c) (by have := HN.out; omega); rwa [show c + (i - c) = i by omega] at this, fun h => absurd h (by omega)⟩)
    clear hz
    go_wp2_with fail
    go_ret
    exact ⟨rfl, ⟨t, L, C, U, D, H.out.keep K1.out, .inl ⟨FST.out, rfl⟩⟩, fun a _ hk => hk.trans K1.out⟩
set_option maxRecDepth 100000 in
set_option maxHeartbeats 6400000 in
/-- The last line has none below it. -/
theorem elim_last {B g n c : Nat} {L C U D : Nat → Nat} {t : Mx.Tri} (w : World) (h : LinT w B g n L C U D t) (hn : n = c + 1) (hb : n ≤ 1000) :
    Calls Try.prog 44 #[.slice (some ⟨g, c * 3, none⟩) 1 1, .int .i64 (c : Int)] w fun e w' => Elim B g n c t w e w' := by
  have k0 : Kp w (w.alloc (.cells #[.int .i64 (c : Int)] 3)) := (Kp.rfl' w).new _
  have IX := Lib.hid (lidx_any (P := w.heap.size) _ (h.keep k0) hn hb (by omega) (cell_made _ _ _ _ 0 rfl))
  have H := Lib.hid h
  have HN := Lib.hid hn
  have K0 := Lib.hid k0
  clear h hn k0
  go_enter Try.func44, Try.ntmps44
  go_wp2_with fail
  refine (IX.out).mono ?_; rintro e w1 ⟨hc, k1⟩
  have K1 := Lib.hid (K0.out.trans k1)
  clear k1
  rcases hc with ⟨k, hk, hk1, hk2, rfl⟩ | ⟨hz, rfl⟩
  · obtain rfl : k = 0 := by omega
    rw [show c + 0 = c from rfl] at hk1
    have hx := H.out.keep K1.out
    have hcn : c < n := by have := HN.out; omega
    have x0 := hx.top.cell0 hcn
    have x1 := hx.top.cell1 hcn
    have x2 := hx.top.cell2 hcn
    unfold lnv at x0 x1 x2
    have f0 := hx.top.free (c * 3)
    have f1 := hx.top.free (c * 3 + 1)
    have f2 := hx.top.free (c * 3 + 2)
    have tp := hx.top.put hcn (.int .i64 (t.s c : Int)) (.slice (some ⟨L c, 0, none⟩) n (C c)) (.slice (some ⟨U c, 0, none⟩) n (D c))
    obtain ⟨v0, z0⟩ := tp.has (q := c * 3) (by omega)
    obtain ⟨v1, z1⟩ := tp.has (q := c * 3 + 1) (by omega)
    obtain ⟨v2, z2⟩ := tp.has (q := c * 3 + 2) (by omega)
    have g0 := tp.free (c * 3)
    have g1 := tp.free (c * 3 + 1)
    have g2 := tp.free (c * 3 + 2)
    unfold st3 at z0 z1 z2 g0 g1 g2
    have hBg := hx.hB
    obtain ⟨w2, hw2⟩ : ∃ x, x = (swW w1 g n (c * 3) (c * 3) c c t.s L C U D).drew := ⟨_, rfl⟩
    have h2 : LinT w2 B g n (fun i => L (Mx.sw c c i)) (fun i => C (Mx.sw c c i)) (fun i => U (Mx.sw c c i)) (fun i => D (Mx.sw c c i)) (t.swp c c) := by
      rw [hw2]; exact (hx.swap hcn hcn rfl rfl).keep ((Kp.rfl' _).drewN 1)
    have KF := Lib.hid (show ∀ a : World, a.heap.size ≤ B → Kp a w → Kp a w2 from fun a ha hk => by
      rw [hw2]; exact (swW_kp (hk.trans K1.out) (Nat.le_trans ha hBg) _ _ _ _).drewN 1)
    have FST := Lib.hid (show First n t.u c c c from ⟨by omega, by omega, fun i h1 h2 => absurd h1 (by omega), fun _ => hk1⟩)
    have u2 := h2.top.cell2 hcn
    unfold lnv at u2
    simp only [Mx.sw_same] at u2
    have H2 := Lib.hid (show LinT w2 B g n (fun i => L (Mx.sw c c i)) (fun i => C (Mx.sw c c i)) (fun i => U (Mx.sw c c i)) (fun i => D (Mx.sw c c i)) (t.step n c c) from h2.ext fun a b ha _ => by
      have e := (t.swp c c).clr_start c a b
      rw [show c + 1 = n from HN.out.symm] at e
      exact ⟨by rw [e.1]; rfl, by rw [e.2]; rfl⟩)
    dsimp only [swW, st3, lnv] at hw2
    have HW2 := Lib.hid hw2
    clear hx tp hk1 hk2 h2 hw2
    go_wp2_with fail
    go_region_law (fail)
    all_goals
      rw [← HW2.out]
      clear HW2 f0 f1 f2 g0 g1 g2 z0 z1 z2 x0 x1 x2
      go_wp2_with fail
      go_loopw [35] (fun i wr => i = .int .i64 0 ∧ wr = w2) (fun _ _ => 0)
      case atStart => exact ⟨rfl, rfl⟩
      case round =>
        obtain ⟨rfl, rfl⟩ := hrel
        go_wp2_with fail
        go_ret
        exact ⟨rfl, ⟨_, _, _, _, _, H2.out, .inr ⟨c, hcn, FST.out, rfl⟩⟩, KF.out⟩
  · have FST := Lib.hid (show First n t.u c c n from ⟨by have := HN.out; omega, Nat.le_refl n, fun i h1 h2 => by have := hz (i - c) (by have := HN.out; omega); rwa [show c + (i - c) = i by omega] at this, fun h => absurd h (by omega)⟩)
    clear hz
    go_wp2_with fail
    go_ret
    exact ⟨rfl, ⟨t, L, C, U, D, H.out.keep K1.out, .inl ⟨FST.out, rfl⟩⟩, fun a _ hk => hk.trans K1.out⟩

theorem lelim_any {B g n c r : Nat} {L C U D : Nat → Nat} {t : Mx.Tri} (w : World) (h : LinT w B g n L C U D t) (hn : n = c + r) (hb : n ≤ 1000) (hr : 0 < r) :
    Calls Try.prog 44 #[.slice (some ⟨g, c * 3, none⟩) r r, .int .i64 (c : Int)] w fun e w' => Elim B g n c t w e w' := by
  by_cases h1 : r = 1
  · subst h1; exact elim_last w h hn hb
  · exact elim_more w h hn hb hr h1

end Go.Proofs.Ytologiinkilooaa

/- Contracts of package lu, third part: linesOf. -/
namespace Go.Proofs.Ytologiinkilooaa
open Go.ChangeShapes Go.WideShapes Go.ChangeAt Go.RowKit
set_option linter.unusedVariables false

theorem line_info : (Try.prog.info? 63).map (fun i => (i.zero, i.size, i.bytes)) = some (some (.agg #[.int .i64 0, .slice none 0 0, .slice none 0 0]), 3, 56) := by kernel_rfl

theorem row_new (w : World) (n : Nat) : Row (w.alloc (.cells (madeCells #[.int .i64 0] n) 3)) w.heap.size (List.replicate n 0) := by
  unfold Row
  rw [heap_alloc_new]
  have e : madeCells #[Value.int .i64 0] n = (ints (List.replicate n 0)).toArray := by
    apply Array.toList_inj.1
    rw [toList_madeCells_one]; simp [ints]
  rw [e]
/-- The first k of n lines are made. -/
structure LinP (w : World) (B g n k : Nat) (L U D : Nat → Nat) (u : Nat → Nat → Int) : Prop where
  hB : B ≤ g
  top : Lns w g n fun i => if i < k then lnv n i (L i) n (U i) (D i) else (.int .i64 0, .slice none 0 0, .slice none 0 0)
  low : ∀ i, i < k → Own w B (.slice (some ⟨L i, 0, none⟩) n n) (Mx.row n fun _ => 0)
  up : ∀ i, i < k → Own w B (.slice (some ⟨U i, 0, none⟩) n (D i)) (Mx.row n (u i))
  la : ∀ i j, i < k → j < k → i ≠ j → L i ≠ L j
  ua : ∀ i j, i < k → j < k → i ≠ j → U i ≠ U j
  lu : ∀ i j, i < k → j < k → L i ≠ U j
theorem LinP.keep {w w' : World} {B g n k : Nat} {L U D : Nat → Nat} {u : Nat → Nat → Int} (h : LinP w B g n k L U D u) (hk : Kp w w') : LinP w' B g n k L U D u :=
  ⟨h.hB, h.top.keep hk, fun i hi => (h.low i hi).kp hk, fun i hi => (h.up i hi).kp hk, h.la, h.ua, h.lu⟩
theorem own_st3 {w : World} {B z d c g o : Nat} {l : List Int} (hx : Own w B (.slice (some ⟨z, 0, none⟩) d c) l) (hz : z ≠ g) (x y v : Value) : Own (st3 w g o x y v) B (.slice (some ⟨z, 0, none⟩) d c) l := by
  obtain ⟨h1, h2⟩ := hx
  refine ⟨h1, ?_⟩
  rcases h2 with h2 | ⟨g', cap, cur, hv, hg, hh, r⟩
  · exact .inl h2
  · refine .inr ⟨g', cap, cur, hv, hg, ?_, r⟩
    cases hv
    rw [st3_other _ _ _ _ _ _ hz]; exact hh
theorem LinP.lt {w : World} {B g n k : Nat} {L U D : Nat → Nat} {u : Nat → Nat → Int} (h : LinP w B g n k L U D u) {i : Nat} (hi : i < k) : L i < w.heap.size ∧ U i < w.heap.size :=
  ⟨(World.ownsRow.lt (h.low i hi) (L i) rfl).2, (World.ownsRow.lt (h.up i hi) (U i) rfl).2⟩
theorem LinP.step {w w' : World} {B g n k a b d o : Nat} {L U D : Nat → Nat} {u : Nat → Nat → Int} (h : LinP w B g n k L U D u) (hk : k < n) (ho : o = k * 3) (hw : Kp w w') (h1 : Own w' B (.slice (some ⟨a, 0, none⟩) n n) (Mx.row n fun _ => 0))
    (h2 : Own w' B (.slice (some ⟨b, 0, none⟩) n d) (Mx.row n (u k))) (ha : w.heap.size ≤ a) (hb : w.heap.size ≤ b) (hab : a ≠ b) :
    LinP (st3 w' g o (.int .i64 (k : Int)) (.slice (some ⟨a, 0, none⟩) n n) (.slice (some ⟨b, 0, none⟩) n d)) B g n (k + 1) (fun i => if i = k then a else L i) (fun i => if i = k then b else U i) (fun i => if i = k then d else D i) u := by
  subst ho
  have hh := h.keep hw
  have hg := h.top.lt
  refine ⟨h.hB, (hh.top.put hk _ _ _).ext fun i hi => ?_, fun i hi => ?_, fun i hi => ?_, fun i j hi hj hne => ?_, fun i j hi hj hne => ?_, fun i j hi hj => ?_⟩
  · by_cases e : i = k
    · subst e
      rw [if_pos rfl, if_pos (by omega)]
      unfold lnv; simp
    · rw [if_neg e]
      by_cases e2 : i < k
      · rw [if_pos e2, if_pos (by omega)]; unfold lnv; simp [e]
      · rw [if_neg e2, if_neg (by omega)]
  · by_cases e : i = k
    · simp only [if_pos e]; exact own_st3 h1 (by omega) _ _ _
    · simp only [if_neg e]
      have := h.lt (i := i) (by omega)
      exact own_st3 (hh.low i (by omega)) (lns_ne hh.top (hh.low i (by omega))) _ _ _
  · by_cases e : i = k
    · subst e; simp only [if_true]; exact own_st3 h2 (by omega) _ _ _
    · simp only [if_neg e]
      exact own_st3 (hh.up i (by omega)) (lns_ne hh.top (hh.up i (by omega))) _ _ _
  · by_cases e : i = k
    · have := (h.lt (i := j) (by omega)).1
      rw [if_pos e, if_neg (by omega)]; omega
    · have := (h.lt (i := i) (by omega)).1
      rw [if_neg e]
      by_cases e2 : j = k
      · rw [if_pos e2]; omega
      · rw [if_neg e2]; exact h.la i j (by omega) (by omega) hne
  · by_cases e : i = k
    · have := (h.lt (i := j) (by omega)).2
      rw [if_pos e, if_neg (by omega)]; omega
    · have := (h.lt (i := i) (by omega)).2
      rw [if_neg e]
      by_cases e2 : j = k
      · rw [if_pos e2]; omega
      · rw [if_neg e2]; exact h.ua i j (by omega) (by omega) hne
  · by_cases e : i = k
    · rw [if_pos e]
      by_cases e2 : j = k
      · rw [if_pos e2]; exact hab
      · have := (h.lt (i := j) (by omega)).2
        rw [if_neg e2]; omega
    · have := (h.lt (i := i) (by omega)).1
      rw [if_neg e]
      by_cases e2 : j = k
      · rw [if_pos e2]; omega
      · rw [if_neg e2]; exact h.lu i j (by omega) (by omega)
theorem LinP.done {w : World} {B g n : Nat} {L U D : Nat → Nat} {m : Nat → Nat → Fp.F} (h : LinP w B g n n L U D (fun i j => ((m i j).val : Int))) : LinT w B g n L (fun _ => n) U D (Mx.tri0 m) :=
  ⟨h.hB, h.top.ext fun i hi => by rw [if_pos hi]; rfl, h.low, h.up, h.la, h.ua, h.lu⟩

set_option maxRecDepth 100000 in
set_option maxHeartbeats 6400000 in
theorem lines_any (A : Option Addr) (f : Nat → Nat → Fp.F) (n d : Nat) (w : World) (ha : LiesM w A (Mx.matl n n f)) (hn : n ≤ 1000) (h0 : 0 < n) :
    Calls Try.prog 43 #[.slice A n d] w fun e w' =>
      ∃ (g : Nat) (L U D : Nat → Nat), e = .returned (.slice (some ⟨g, 0, none⟩) n n) ∧ LinT w' w.heap.size g n L (fun _ => n) U D (Mx.tri0 f) ∧ Kp w w' := by
  have HA := Lib.hid ha
  clear ha
  obtain ⟨j0, hj, hy0, hy1, hy2⟩ := info_parts line_info
  go_enter Try.func43, Try.ntmps43
  go_wp2_with (at_make; refine wpList_make_full _ rfl _ _ 59 rfl w.heap.size 63 j0 (.agg #[.int .i64 0, .slice none 0 0, .slice none 0 0]) 3 Try.underlying59 hj hy0 hy1 _ _ _ _ n rfl rfl rfl rfl (by rw [hy2]; omega) (by unfold maxLen; omega) (Nat.le_refl _) ?_; intro w1 hown hgrow)
  have hp1 : LinP w1 w.heap.size w.heap.size n 0 (fun _ => 0) (fun _ => 0) (fun _ => 0) (fun i j => ((f i j).val : Int)) :=
    ⟨Nat.le_refl _, (lns_made hown).ext fun i hi => by rw [if_neg (by omega)], fun i hi => absurd hi (by omega), fun i hi => absurd hi (by omega), fun i j hi => absurd hi (by omega), fun i j hi => absurd hi (by omega), fun i j hi => absurd hi (by omega)⟩
  have hk1 : Kp w w1 := (Kp.rfl' w).grown hgrow (by simp) (fun k hk => by cases hk)
  clear hown hgrow hj hy0 hy1 hy2
  obtain ⟨g, hg⟩ : ∃ g, g = w.heap.size := ⟨_, rfl⟩
  have hBg : w.heap.size ≤ g := by omega
  rw [← hg] at hp1 ⊢
  have HG := Lib.hid hg
  have HP1 := Lib.hid hp1
  have HK1 := Lib.hid hk1
  clear hg hp1 hk1 hBg
  go_loopw [11] (fun i wr => ∃ (k : Nat) (L U D : Nat → Nat), k ≤ n ∧ i = .int .i64 (k : Int) ∧ LinP wr g g n k L U D (fun i j => ((f i j).val : Int)) ∧ Kp w wr) (fun i _ => n - (intOf i).toNat)
  case atStart => exact ⟨0, _, _, _, Nat.zero_le _, rfl, HP1.out, HK1.out⟩
  case round =>
    obtain ⟨k, L, U, D, hk, rfl, hp, hkp⟩ := hrel
    obtain ⟨wo, hwo⟩ : ∃ x, x = wr := ⟨_, rfl⟩
    subst hwo
    have HP := Lib.hid hp
    have HK := Lib.hid hkp
    by_cases hlt : k < n
    · obtain ⟨ad, A1, d1, rfl, _, x1, _, l1⟩ := (HA.out.keep hkp).row hlt
      have L1 := Lib.hid l1
      clear l1 hp hkp HP1 HK1
      have kd : Kp wo wo.drew := (Kp.rfl' wo).drewN 1
      have kdm : Kp wo (wo.alloc (.cells (madeCells #[.int .i64 0] n) 3)).drew := ((Kp.rfl' wo).new _).drewN 1
      have FACT := Lib.hid (show ∀ w' : World, Kp wo w' → (∃ v, w'.cell? ⟨g, k * 3, none⟩ = some v) ∧ (∃ v, w'.cell? ⟨g, k * 3 + 1, none⟩ = some v) ∧ (∃ v, w'.cell? ⟨g, k * 3 + 2, none⟩ = some v) ∧ w'.frozen? ⟨g, k * 3, none⟩ = false ∧ w'.frozen? ⟨g, k * 3 + 1, none⟩ = false ∧ w'.frozen? ⟨g, k * 3 + 2, none⟩ = false from fun w' hk' => by
        have h := (HP.out.keep hk').top
        exact ⟨h.has (by omega), h.has (by omega), h.has (by omega), h.free _, h.free _, h.free _⟩)
      have CL := Lib.hid (fun (w' : World) (hk' : Kp wo w') => show Calls Try.prog 59 #[.slice A1 n d1] w' fun e w'' => ∃ z cz, e = .returned (.slice (some ⟨z, 0, none⟩) n cz) ∧ w'.heap.size ≤ z ∧ z < w''.heap.size ∧ Own w'' w'.heap.size (.slice (some ⟨z, 0, none⟩) n cz) (Mx.row n fun j => ((f k j).val : Int)) ∧ Kp w' w'' by
        have h := sclone_any A1 _ d1 w' (L1.out.keep hk') (by rw [Mx.len_row]; omega)
        rw [Mx.len_row] at h
        refine h.mono ?_
        rintro e w'' ⟨v, rfl, hv, hk2⟩
        obtain ⟨z, cz, rfl, hz, _⟩ := own_some hv (by rw [Mx.len_row]; exact h0)
        rw [Mx.len_row] at hv ⊢
        exact ⟨z, cz, rfl, hz, (World.ownsRow.lt hv z rfl).2, hv, hk2⟩)
      have hmk := run_make_row' (P := Try.prog) 24 3 (.int .i64 0) 8 Try.underlying24 int_info rfl .i64 .i64 n (by omega) (by omega)
      have hgl := HP.out.top.lt
      have hBg : w.heap.size ≤ g := by have := HG.out; omega
      have SA := Lib.hid (fun (wc : World) (z cz : Nat) (hz : (wo.alloc (.cells (madeCells #[.int .i64 0] n) 3)).drew.heap.size ≤ z) (hv : Own wc (wo.alloc (.cells (madeCells #[.int .i64 0] n) 3)).drew.heap.size (.slice (some ⟨z, 0, none⟩) n cz) (Mx.row n fun j => ((f k j).val : Int))) (hkc : Kp (wo.alloc (.cells (madeCells #[.int .i64 0] n) 3)).drew wc) =>
        show LinP (((wc.setCell ⟨g, k * 3, none⟩ (.int .i64 (k : Int))).setCell ⟨g, k * 3 + 1, none⟩ (.slice (some ⟨wo.heap.size, 0, none⟩) n n)).setCell ⟨g, k * 3 + 2, none⟩ (.slice (some ⟨z, 0, none⟩) n cz)) g g n (k + 1) (fun i => if i = k then wo.heap.size else L i) (fun i => if i = k then z else U i) (fun i => if i = k then cz else D i) (fun i j => ((f i j).val : Int)) ∧
          Kp w (((wc.setCell ⟨g, k * 3, none⟩ (.int .i64 (k : Int))).setCell ⟨g, k * 3 + 1, none⟩ (.slice (some ⟨wo.heap.size, 0, none⟩) n n)).setCell ⟨g, k * 3 + 2, none⟩ (.slice (some ⟨z, 0, none⟩) n cz)) by
          have hr : Row wc wo.heap.size (List.replicate n 0) := ((row_new wo n).keep ((Kp.rfl' _).drewN 1)).keep hkc
          have h1 := hr.own (B := g) (n := n) (by omega) (by simp) (by omega)
          rw [Mx.row_rep] at h1
          have hlt1 : wo.heap.size < z := Nat.lt_of_lt_of_le ((row_new wo n).keep ((Kp.rfl' _).drewN 1)).lt hz
          have S := HP.out.step hlt rfl (kdm.trans hkc) h1 (hv.from (B' := g) (Nat.le_trans (Nat.le_of_lt hgl) kdm.size)) (Nat.le_refl _) (Nat.le_of_lt hlt1) (by omega)
          have S2 := st3_kp (HK.out.trans (kdm.trans hkc)) hBg (k * 3) (.int .i64 (k : Int)) (.slice (some ⟨wo.heap.size, 0, none⟩) n n) (.slice (some ⟨z, 0, none⟩) n cz)
          unfold st3 at S S2
          exact ⟨S, S2⟩)
      have SB := Lib.hid (fun (wc : World) (z cz : Nat) (hz : wo.drew.heap.size ≤ z) (hzl : z < wc.heap.size) (hv : Own wc wo.drew.heap.size (.slice (some ⟨z, 0, none⟩) n cz) (Mx.row n fun j => ((f k j).val : Int))) (hkc : Kp wo.drew wc) =>
        show LinP ((((wc.alloc (.cells (madeCells #[.int .i64 0] n) 3)).setCell ⟨g, k * 3, none⟩ (.int .i64 (k : Int))).setCell ⟨g, k * 3 + 1, none⟩ (.slice (some ⟨wc.heap.size, 0, none⟩) n n)).setCell ⟨g, k * 3 + 2, none⟩ (.slice (some ⟨z, 0, none⟩) n cz)) g g n (k + 1) (fun i => if i = k then wc.heap.size else L i) (fun i => if i = k then z else U i) (fun i => if i = k then cz else D i) (fun i j => ((f i j).val : Int)) ∧
          Kp w ((((wc.alloc (.cells (madeCells #[.int .i64 0] n) 3)).setCell ⟨g, k * 3, none⟩ (.int .i64 (k : Int))).setCell ⟨g, k * 3 + 1, none⟩ (.slice (some ⟨wc.heap.size, 0, none⟩) n n)).setCell ⟨g, k * 3 + 2, none⟩ (.slice (some ⟨z, 0, none⟩) n cz)) by
          have hkn := (kd.trans hkc).new (.cells (madeCells #[.int .i64 0] n) 3)
          have hg2 : wo.heap.size ≤ wc.heap.size := (kd.trans hkc).size
          have hz2 : wo.heap.size ≤ z := hz
          have h1 := (row_new wc n).own (B := g) (n := n) (by omega) (by simp) (by omega)
          rw [Mx.row_rep] at h1
          have h2 := (hv.from (B' := g) (Nat.le_trans (Nat.le_of_lt hgl) kd.size)).new (.cells (madeCells #[.int .i64 0] n) 3)
          have S := HP.out.step hlt rfl hkn h1 h2 hg2 hz2 (by omega)
          have S2 := st3_kp (HK.out.trans hkn) hBg (k * 3) (.int .i64 (k : Int)) (.slice (some ⟨wc.heap.size, 0, none⟩) n n) (.slice (some ⟨z, 0, none⟩) n cz)
          unfold st3 at S S2
          exact ⟨S, S2⟩)
      clear hgl hBg
      go_wp2_with fail
      go_region_law (first
        | (go_simp; go_at_call 59; (with_reducible refine (CL.out _ kd).mono ?_); rintro e wc ⟨z, cz, rfl, hz, hzl, hv, hkc⟩
           obtain ⟨⟨v0, q0⟩, ⟨v1, q1⟩, ⟨v2, q2⟩, q3, q4, q5⟩ := FACT.out _ ((kd.trans hkc).new (.cells (madeCells #[.int .i64 0] n) 3))
           have SS := Lib.hid (SB.out wc z cz hz hzl hv hkc))
        | (go_simp; go_at_call 59; (with_reducible refine (CL.out _ kdm).mono ?_); rintro e wc ⟨z, cz, rfl, hz, hzl, hv, hkc⟩
           obtain ⟨⟨v0, q0⟩, ⟨v1, q1⟩, ⟨v2, q2⟩, q3, q4, q5⟩ := FACT.out _ (kdm.trans hkc)
           have SS := Lib.hid (SA.out wc z cz hz hv hkc)))
      all_goals
        clear hz hzl hv hkc
        go_wp2_with fail
        go_roundw
        case rel => exact ⟨k + 1, _, _, _, by omega, by go_num, SS.out.1, SS.out.2⟩
        case measure => simp [intOf]; omega
    · obtain rfl : k = n := by omega
      clear hp hkp HP1 HK1
      go_wp2_with fail
      go_ret
      have hg := HG.out
      exact ⟨g, L, U, D, rfl, by rw [← hg]; exact HP.out.done, HK.out⟩

end Go.Proofs.Ytologiinkilooaa

/- A row of heads of the call's own, whatever they point to: append of one, and the matrix that lies. For all packages. -/
namespace Go.Proofs.Ytologiinkilooaa
open Go.ChangeShapes Go.WideShapes Go.ChangeAt Go.RowKit
set_option linter.unusedVariables false

/-- The slice value v is the call's own and holds k heads. -/
def HdsV (w : World) (B : Nat) (v : Value) (k : Nat) (H : Nat → Value) : Prop := w.ownsRow B 24 1 v k ((List.range k).map H)
theorem hdsV_none (w : World) (B : Nat) (H : Nat → Value) : HdsV w B (.slice none 0 0) 0 H := World.ownsRow_nil _ _ _ _
theorem HdsV.kp {w w' : World} {B k : Nat} {v : Value} {H : Nat → Value} (h : HdsV w B v k H) (hk : Kp w w') : HdsV w' B v k H := ownsRow_kp h hk
theorem HdsV.new {w : World} {B k : Nat} {v : Value} {H : Nat → Value} (h : HdsV w B v k H) (o : Obj) : HdsV (w.alloc o) B v k H := h.kp ((Kp.rfl' w).new o)
/-- Where they lie, and what lies beneath. -/
theorem HdsV.form {w : World} {B k : Nat} {v : Value} {H : Nat → Value} (h : HdsV w B v k H) : ∃ A c, v = .slice A k c ∧ k ≤ c ∧ ∀ i, i < k → ∃ ad, A = some ad ∧ ad.block < w.heap.size ∧ w.cell? (ad.add i) = some (H i) := by
  rcases h.2 with ⟨rfl, h0⟩ | ⟨g, cap, cur, hv, hg, hh, hc, hm, hs, ht⟩
  · obtain rfl : k = 0 := h0
    exact ⟨Option.none, 0, rfl, Nat.le_refl _, fun i hi => absurd hi (by omega)⟩
  · refine ⟨_, cap, hv, hc, fun i hi => ⟨_, rfl, ?_, ?_⟩⟩
    · rcases Nat.lt_or_ge g w.heap.size with h' | h'
      · exact h'
      · rw [Array.getElem?_eq_none h'] at hh; cases hh
    · have ht' : cur.toList.take k = (List.range k).map H := by simpa using ht
      rw [add_at, cell_of_row _ _ i _ _ (0, 0) hh, ← Array.getElem?_toList, ← List.getElem?_take_of_lt hi, ht']
      simp [hi]
theorem HdsV.lies {w : World} {B k : Nat} {v : Value} {H : Nat → Value} {m : List (List Int)} (h : HdsV w B v k H) (hm : m.length = k) (hr : ∀ i, i < k → ∃ A' c, H i = .slice A' (m.getD i []).length c ∧ (m.getD i []).length ≤ c ∧ Lies w A' (m.getD i [])) : ∃ A c, v = .slice A k c ∧ k ≤ c ∧ LiesM w A m := by
  obtain ⟨A, c, hv, hc, hx⟩ := h.form
  refine ⟨A, c, hv, hc, fun i hi => ?_⟩
  obtain ⟨ad, e, hl, hcell⟩ := hx i (by omega)
  obtain ⟨A', c', e2, h2, h3⟩ := hr i (by omega)
  exact ⟨ad, A', c', e, hl, by rw [hcell, e2], h2, h3⟩

section
variable {ops : Array Oper} {rest : List Oper} {o : Oper} {a : Act} {w : World} {K : Act → World → Prop} {Q : Exit → Act → World → Prop}
/-- out = append(out, head). -/
theorem wpList_pushV (hgd : o.guard = Option.none) (s x : Operand) (ho : o.op = .call { callee := .builtin .append, args := #[s, x], argTypes := #[22, 22] })
    (B : Nat) (v : Value) (k : Nat) (H : Nat → Value) (u : Value) (gb cb : Nat) (hs : a.eval s = v) (hx : a.eval x = .slice (some ⟨gb, 0, none⟩) 1 cb) (hown : HdsV w B v k H)
    (hcell : w.cell? ⟨gb, 0, none⟩ = some u) (hu : u.oneCell' = true) (hlen : k + 1 ≤ 1000000) (hB : B ≤ w.heap.size)
    (h : ∀ v' w', HdsV w' B v' (k + 1) (fun i => if i = k then u else H i) → (∀ w0 : World, w0.heap.size ≤ B → Kp w0 w → Kp w0 w') → wpList Try.prog ops Q rest (a.put o.dst v') w') : wpList Try.prog ops Q (o :: rest) a w := by
  obtain ⟨i0, hi, hz0, hz1, hz2⟩ := info_parts ints_info
  obtain ⟨v', w', hrun, h1, h2, _, h3⟩ := run_append_own_at (P := Try.prog) w B 22 o.type 24 i0 (.slice Option.none 0 0) 1 24 Try.underlying22 hi hz0 hz1 hz2 rfl (by decide) v k ((List.range k).map H) hown ⟨gb, 0, Option.none⟩ 1 cb [u] rfl
    (fun j u' hj => by
      match j, hj with
      | 0, hj => simp at hj; subst hj; rw [add_at]; exact hcell) (fun u' hu' => by simp at hu'; subst hu'; exact hu) (by unfold maxLen; omega) (by omega) hB
  refine wpList_plain hgd fun _ hK => ?_
  unfold Oper.wp execOp
  simp only [ho, resolve, invoke, builtin, Sem.run_bind, Sem.run_pure, Result.andThen_ok, List.map_toArray, List.map_cons, List.map_nil, hs, hx, hrun]
  refine hK _ _ (h v' w' ?_ fun w0 hw0 hk0 => Below.grown hk0 h2 hk0.size fun k hk => Nat.le_trans hw0 (World.ownsRow.lt hown k hk).1)
  have e1 : (List.range k).map (fun i => if i = k then u else H i) = (List.range k).map H := List.map_congr_left fun i hi => by
    have := List.mem_range.1 hi
    rw [if_neg (by omega)]
  have e2 : (List.range (k + 1)).map (fun i => if i = k then u else H i) = (List.range k).map H ++ [u] := by
    rw [List.range_succ, List.map_append, e1, List.map_singleton, if_pos rfl]
  unfold HdsV
  rw [e2]
  exact h1
end

end Go.Proofs.Ytologiinkilooaa

/- What stands in memory while package lu hands its lines out: the lines, an order, and two rows of heads, each of the call's own. -/
namespace Go.Proofs.Ytologiinkilooaa
open Go.ChangeShapes Go.WideShapes Go.ChangeAt Go.RowKit
set_option linter.unusedVariables false

theorem own_under {w w' : World} {B B2 z d c : Nat} {l : List Int} (h : Own w B (.slice (some ⟨z, 0, none⟩) d c) l) (hz : z < B2) (hb : Below B2 w w') : Own w' B (.slice (some ⟨z, 0, none⟩) d c) l := by
  obtain ⟨h1, h2⟩ := h
  refine ⟨h1, ?_⟩
  rcases h2 with h2 | ⟨g', cap, cur, hv, hg, hh, r⟩
  · exact .inl h2
  · refine .inr ⟨g', cap, cur, hv, hg, ?_, r⟩
    cases hv
    rw [hb.block z hz]; exact hh
theorem Lin.under {w w' : World} {B B2 g n : Nat} {s : Nat → Nat} {L C U D : Nat → Nat} {l u : Nat → Nat → Int} (h : Lin w B g n s L C U D l u) (hb : Below B2 w w') (hg : g < B2) (hl : ∀ i, i < n → L i < B2 ∧ U i < B2) : Lin w' B g n s L C U D l u :=
  ⟨h.hB, h.top.block (hb.block g hg), fun i hi => own_under (h.low i hi) (hl i hi).1 hb, fun i hi => own_under (h.up i hi) (hl i hi).2 hb, h.la, h.ua, h.lu⟩
/-- The block of heads is no row's of numbers. -/
theorem hds_ne {w : World} {B B' k : Nat} {u v : Value} {H : Nat → Value} {l : List Int} (h : HdsV w B u k H) (hr : Own w B' v l) {g : Nat} (hg : u.ownBlock = some g) : v.ownBlock ≠ some g := fun e => by
  rcases h.2 with ⟨rfl, _⟩ | ⟨g1, cap1, cur1, rfl, _, hh1, _⟩
  · cases hg
  · rcases hr.2 with ⟨rfl, _⟩ | ⟨g2, cap2, cur2, rfl, _, hh2, _⟩
    · cases e
    · have e1 : g1 = g := Option.some.inj hg
      have e2 : g2 = g := Option.some.inj e
      subst e1; subst e2
      rw [hh1] at hh2
      cases hh2
theorem hds_far {w : World} {B k : Nat} {u : Value} {H : Nat → Value} (h : HdsV w B u k H) {b : Nat} (hb : u.ownBlock = some b) : B ≤ b ∧ b < w.heap.size := World.ownsRow.lt h b hb
theorem hds_ext {w : World} {B k : Nat} {u : Value} {H H' : Nat → Value} (h : HdsV w B u k H) (e : ∀ i, i < k → H i = H' i) : HdsV w B u k H' := by
  unfold HdsV at h ⊢
  rw [← List.map_congr_left (f := H) (g := H') fun i hi => e i (List.mem_range.1 hi)]
  exact h
theorem set_grown (w : World) (a : Addr) (x : Value) : w.grownBy (w.setCell a x) (some a.block) :=
  ⟨rfl, rfl, rfl, by simp [World.setCell], fun k _ hn => Below.heap_setCell _ _ _ _ (fun e => hn (by rw [e]))⟩

section
variable {ops : Array Oper} {rest : List Oper} {o : Oper} {a : Act} {w : World} {K : Act → World → Prop} {Q : Exit → Act → World → Prop}
/-- out = append(out, head), with what else is kept. -/
theorem wpList_pushH (hgd : o.guard = Option.none) (s x : Operand) (ho : o.op = .call { callee := .builtin .append, args := #[s, x], argTypes := #[22, 22] })
    (B : Nat) (v : Value) (k : Nat) (H : Nat → Value) (u : Value) (gb cb : Nat) (hs : a.eval s = v) (hx : a.eval x = .slice (some ⟨gb, 0, none⟩) 1 cb) (hown : HdsV w B v k H)
    (hcell : w.cell? ⟨gb, 0, none⟩ = some u) (hu : u.oneCell' = true) (hH : H k = u) (hlen : k + 1 ≤ 1000000) (hB : B ≤ w.heap.size)
    (h : ∀ v' w', HdsV w' B v' (k + 1) H → w.grownBy w' v.ownBlock → At w v v' → wpList Try.prog ops Q rest (a.put o.dst v') w') : wpList Try.prog ops Q (o :: rest) a w := by
  obtain ⟨i0, hi, hz0, hz1, hz2⟩ := info_parts ints_info
  obtain ⟨v', w', hrun, h1, h2, _, h3⟩ := run_append_own_at (P := Try.prog) w B 22 o.type 24 i0 (.slice Option.none 0 0) 1 24 Try.underlying22 hi hz0 hz1 hz2 rfl (by decide) v k ((List.range k).map H) hown ⟨gb, 0, Option.none⟩ 1 cb [u] rfl
    (fun j u' hj => by
      match j, hj with
      | 0, hj => simp at hj; subst hj; rw [add_at]; exact hcell) (fun u' hu' => by simp at hu'; subst hu'; exact hu) (by unfold maxLen; omega) (by omega) hB
  refine wpList_plain hgd fun _ hK => ?_
  unfold Oper.wp execOp
  simp only [ho, resolve, invoke, builtin, Sem.run_bind, Sem.run_pure, Result.andThen_ok, List.map_toArray, List.map_cons, List.map_nil, hs, hx, hrun]
  refine hK _ _ (h v' w' ?_ h2 h3)
  unfold HdsV
  rw [List.range_succ, List.map_append, List.map_singleton, hH]
  exact h1
end

/-- The lines; the order so far; the heads of the factors' rows and of those of what is left. -/
structure Out3 (a w : World) (B B2 g n : Nat) (s : Nat → Nat) (L C U D : Nat → Nat) (l u : Nat → Nat → Int) (vo : Value) (lo : List Int) (vl : Value) (kl : Nat) (vu : Value) (ku : Nat) : Prop where
  kp : Kp a w
  hB : a.heap.size ≤ B
  hB2 : a.heap.size ≤ B2 ∧ B2 ≤ w.heap.size
  lin : Lin w B g n s L C U D l u
  lt : g < B2 ∧ ∀ i, i < n → L i < B2 ∧ U i < B2
  o : Own w B2 vo lo
  hl : HdsV w B2 vl kl (fun i => .slice (some ⟨L i, 0, none⟩) n (C i))
  hu : HdsV w B2 vu ku (fun i => .slice (some ⟨U i, 0, none⟩) n (D i))
  ne : vl.ownBlock = none ∨ vl.ownBlock ≠ vu.ownBlock
section
variable {a w w' : World} {B B2 g n : Nat} {s : Nat → Nat} {L C U D : Nat → Nat} {l u : Nat → Nat → Int} {vo vl vu : Value} {lo : List Int} {kl ku : Nat}
theorem Out3.keep (h : Out3 a w B B2 g n s L C U D l u vo lo vl kl vu ku) (hk : Kp w w') : Out3 a w' B B2 g n s L C U D l u vo lo vl kl vu ku :=
  ⟨h.kp.trans hk, h.hB, ⟨h.hB2.1, Nat.le_trans h.hB2.2 hk.size⟩, h.lin.keep hk, h.lt, h.o.kp hk, h.hl.kp hk, h.hu.kp hk, h.ne⟩
theorem Out3.ext {l' : Nat → Nat → Int} (h : Out3 a w B B2 g n s L C U D l u vo lo vl kl vu ku) (e : ∀ i j, i < n → j < n → l i j = l' i j) : Out3 a w B B2 g n s L C U D l' u vo lo vl kl vu ku :=
  ⟨h.kp, h.hB, h.hB2, h.lin.ext fun i j hi hj => ⟨e i j hi hj, rfl⟩, h.lt, h.o, h.hl, h.hu, h.ne⟩
theorem Out3.put (h : Out3 a w B B2 g n s L C U D l u vo lo vl kl vu ku) {i : Nat} (hi : i < n) (j : Nat) (x : Int) :
    Out3 a (w.setCell ⟨L i, j, none⟩ (.int .i64 x)) B B2 g n s L C U D (fun p q => if p = i ∧ q = j then x else l p q) u vo lo vl kl vu ku := by
  have hL := (h.lt.2 i hi).1
  have hg := set_grown w ⟨L i, j, none⟩ (.int .i64 x)
  have hk : ∀ (v : Value), (∀ b, v.ownBlock = some b → B2 ≤ b) → v.ownBlock = none ∨ v.ownBlock ≠ some (L i) := fun v hv => by
    cases e : v.ownBlock with
    | none => exact .inl rfl
    | some b => exact .inr fun e2 => by have e3 : b = L i := Option.some.inj e2; have := hv b e; omega
  refine ⟨h.kp.put (p := ⟨L i, j, none⟩) (Nat.le_trans h.hB (h.lin.lb hi).1) _, h.hB, ⟨h.hB2.1, by rw [← size_set]; exact h.hB2.2⟩, h.lin.put hi j x, h.lt, ?_, ?_, ?_, h.ne⟩
  · exact Own.far h.o (a := ⟨L i, j, none⟩) (fun e => by have h2 : B2 ≤ L i := (World.ownsRow.lt h.o (L i) e).1; omega) _
  · exact World.ownsRow.kept h.hl hg (hk vl fun b hb => (hds_far h.hl hb).1)
  · exact World.ownsRow.kept h.hu hg (hk vu fun b hb => (hds_far h.hu hb).1)
theorem Out3.pushO {vo' : Value} {lo' : List Int} (h : Out3 a w B B2 g n s L C U D l u vo lo vl kl vu ku) (h1 : Own w' B2 vo' lo') (hg : w.grownBy w' vo.ownBlock) :
    Out3 a w' B B2 g n s L C U D l u vo' lo' vl kl vu ku := by
  have hb : Below B2 w w' := (Below.refl B2 w).grown hg h.hB2.2 fun b hb => (World.ownsRow.lt h.o b hb).1
  have hk : ∀ (v : Value) (k : Nat) (H : Nat → Value), HdsV w B2 v k H → v.ownBlock = none ∨ v.ownBlock ≠ vo.ownBlock := fun v k H hv => by
    cases e : v.ownBlock with
    | none => exact .inl rfl
    | some b => exact .inr fun e2 => hds_ne hv h.o e e2.symm
  exact ⟨h.kp.grown hg h.kp.size fun b hb => Nat.le_trans h.hB2.1 (World.ownsRow.lt h.o b hb).1, h.hB, ⟨h.hB2.1, Nat.le_trans h.hB2.2 hg.size⟩, h.lin.under hb h.lt.1 h.lt.2, h.lt, h1,
    World.ownsRow.kept h.hl hg (hk _ _ _ h.hl), World.ownsRow.kept h.hu hg (hk _ _ _ h.hu), h.ne⟩
theorem own_hds {w : World} {B B' k : Nat} {u v : Value} {H : Nat → Value} {l : List Int} (h : HdsV w B u k H) (hr : Own w B' v l) : v.ownBlock = none ∨ v.ownBlock ≠ u.ownBlock := by
  cases e : v.ownBlock with
  | none => exact .inl rfl
  | some b => exact .inr fun e2 => hds_ne h hr e2.symm e
theorem Out3.pushL {vl' : Value} {kl' : Nat} (h : Out3 a w B B2 g n s L C U D l u vo lo vl kl vu ku) (h1 : HdsV w' B2 vl' kl' (fun i => .slice (some ⟨L i, 0, none⟩) n (C i))) (hg : w.grownBy w' vl.ownBlock) (ha : At w vl vl') :
    Out3 a w' B B2 g n s L C U D l u vo lo vl' kl' vu ku := by
  have hb : Below B2 w w' := (Below.refl B2 w).grown hg h.hB2.2 fun b hb => (hds_far h.hl hb).1
  refine ⟨h.kp.grown hg h.kp.size fun b hb => Nat.le_trans h.hB2.1 (hds_far h.hl hb).1, h.hB, ⟨h.hB2.1, Nat.le_trans h.hB2.2 hg.size⟩, h.lin.under hb h.lt.1 h.lt.2, h.lt, h.o.grown hg (own_hds h.hl h.o), h1,
    World.ownsRow.kept h.hu hg ?_, ?_⟩
  · cases e : vu.ownBlock with
    | none => exact .inl rfl
    | some b =>
      rcases h.ne with e2 | e2
      · rw [e2]; exact .inr (by simp)
      · exact .inr fun e3 => e2 (e3.symm.trans e.symm)
  · rcases ha with e | e
    · rw [e]; exact h.ne
    · rw [e]
      exact .inr fun e2 => by have := (hds_far h.hu e2.symm).2; omega
theorem Out3.pushU {vu' : Value} {ku' : Nat} (h : Out3 a w B B2 g n s L C U D l u vo lo vl kl vu ku) (h1 : HdsV w' B2 vu' ku' (fun i => .slice (some ⟨U i, 0, none⟩) n (D i))) (hg : w.grownBy w' vu.ownBlock) (ha : At w vu vu') :
    Out3 a w' B B2 g n s L C U D l u vo lo vl kl vu' ku' := by
  have hb : Below B2 w w' := (Below.refl B2 w).grown hg h.hB2.2 fun b hb => (hds_far h.hu hb).1
  refine ⟨h.kp.grown hg h.kp.size fun b hb => Nat.le_trans h.hB2.1 (hds_far h.hu hb).1, h.hB, ⟨h.hB2.1, Nat.le_trans h.hB2.2 hg.size⟩, h.lin.under hb h.lt.1 h.lt.2, h.lt, h.o.grown hg (own_hds h.hu h.o),
    World.ownsRow.kept h.hl hg h.ne, h1, ?_⟩
  cases e : vl.ownBlock with
  | none => exact .inl rfl
  | some b =>
    rcases ha with e2 | e2
    · rw [e2, ← e]
      rcases h.ne with e3 | e3
      · rw [e3] at e; cases e
      · exact .inr e3
    · rw [e2]
      exact .inr fun e3 => by have e4 : b = w.heap.size := Option.some.inj e3; have := (hds_far h.hl e).2; omega
end
/-- A line in a block of its own. -/
structure Bx (w : World) (q : Nat) (x y z : Value) : Prop where
  c0 : w.cell? ⟨q, 0, none⟩ = some x
  c1 : w.cell? ⟨q, 1, none⟩ = some y
  c2 : w.cell? ⟨q, 2, none⟩ = some z
theorem Bx.keep {w w' : World} {q : Nat} {x y z : Value} (h : Bx w q x y z) (hk : Kp w w') : Bx w' q x y z :=
  ⟨(hk.cell (p := ⟨q, 0, none⟩) (cell_lt h.c0)).trans h.c0, (hk.cell (p := ⟨q, 1, none⟩) (cell_lt h.c1)).trans h.c1, (hk.cell (p := ⟨q, 2, none⟩) (cell_lt h.c2)).trans h.c2⟩
theorem Bx.grown {w w' : World} {q : Nat} {x y z : Value} {r : Option Nat} (h : Bx w q x y z) (hg : w.grownBy w' r) (hn : some q ≠ r) : Bx w' q x y z := ⟨hg.cell h.c0 hn, hg.cell h.c1 hn, hg.cell h.c2 hn⟩

end Go.Proofs.Ytologiinkilooaa

/- Contracts of package lu, fourth part: Split. -/
namespace Go.Proofs.Ytologiinkilooaa
open Go.ChangeShapes Go.WideShapes Go.ChangeAt Go.RowKit
set_option linter.unusedVariables false

/-- An order, what is low, and what is up. -/
def GotSplit (n : Nat) (m : Nat → Nat → Fp.F) (w : World) (e : Ending) (w' : World) : Prop :=
  ∃ (t : Mx.Tri) (Ao : Option Addr) (d1 : Nat) (Al : Option Addr) (d2 : Nat) (Au : Option Addr) (d3 : Nat), Mx.LuTo n m n t ∧ e = .returned (.tuple #[.slice Ao n d1, .slice Al n d2, .slice Au n d3, .nilIface]) ∧
    Lies w' Ao (Mx.row n fun i => (t.s i : Int)) ∧ LiesM w' Al (Mx.matl n n t.low) ∧ LiesM w' Au (Mx.matl n n t.u) ∧ Kp w w'

set_option maxRecDepth 100000 in
set_option maxHeartbeats 1600000 in
theorem Split_bad (A : Option Addr) (m : List (List Int)) (n d : Nat) (w : World) (ha : LiesM w A m) (hn : m.length = n) (h : qcode 5 0 9972 m ≠ 0) :
    Calls Try.prog 19 #[.slice A n d] w fun e w' => e = .returned (.tuple #[.slice none 0 0, .slice none 0 0, .slice none 0 0, errOf (qcode 5 0 9972 m)]) ∧ Kp w w' := by
  have CK := Lib.hid (DChk_any A m n d w ha hn)
  rw [errOf_ne _ h] at CK ⊢
  generalize qcode 5 0 9972 m = z at *
  clear ha hn h
  go_enter Try.func19, Try.ntmps19
  go_wp2_with fail
  refine (CK.out).mono ?_; rintro e w' ⟨rfl, rfl⟩
  go_wp2_with fail
  exact bodyPost_ret (v := .tuple #[.slice none 0 0, .slice none 0 0, .slice none 0 0, .iface 50 (.int .i64 (z : Int))]) (by simp [results, Try.results19, go_sem]) rfl ⟨rfl, Kp.rfl' w⟩

set_option maxRecDepth 100000 in
set_option maxHeartbeats 6400000 in
theorem Split_ok (A : Option Addr) (f : Nat → Nat → Fp.F) (n d : Nat) (w : World) (ha : LiesM w A (Mx.matl n n f)) (h0 : 0 < n) (h5 : n ≤ 5) :
    Calls Try.prog 19 #[.slice A n d] w fun e w' => GotSplit n f w e w' := by
  have CK := Lib.hid (DChk_any A (Mx.matl n n f) n d w ha (Mx.len_matl _ _ _))
  rw [qcode_matl f h0 h5, errOf_zero] at CK
  have LN := Lib.hid (lines_any A f n d w ha (by omega) h0)
  have N5 := Lib.hid h5
  have hn1 : n ≤ 1000 := by omega
  clear ha h5
  go_enter Try.func19, Try.ntmps19
  go_wp2_with fail
  refine (CK.out).mono ?_; rintro e w' ⟨rfl, rfl⟩
  go_wp2_with fail
  refine (LN.out).mono ?_; rintro e w1 ⟨g, L0, U0, D0, rfl, hl0, hk0⟩
  have HL0 := Lib.hid hl0
  have HK0 := Lib.hid hk0
  clear hl0 hk0
  go_wp2_with fail
  go_loopw [2, 3, 4, 21] (fun vo vl vu i wr => ∃ (c : Nat) (t : Mx.Tri) (L C U D : Nat → Nat), c ≤ n ∧ vo = .slice none 0 0 ∧ vl = .slice none 0 0 ∧ vu = .slice none 0 0 ∧ i = .int .i64 (c : Int) ∧ Mx.LuTo n f c t ∧ LinT wr w.heap.size g n L C U D t ∧ Kp w wr) (fun _ _ _ i _ => n - (intOf i).toNat)
  case atStart => exact ⟨0, _, _, _, _, _, Nat.zero_le _, rfl, rfl, rfl, rfl, rfl, HL0.out, HK0.out⟩
  case round =>
    obtain ⟨c, t, L, C, U, D, hc, rfl, rfl, rfl, rfl, hto, hl, hkp⟩ := hrel
    obtain ⟨wo, hwo⟩ : ∃ x, x = wr := ⟨_, rfl⟩
    subst hwo
    have HT := Lib.hid hto
    have HL := Lib.hid hl
    have HK := Lib.hid hkp
    clear hto hl hkp HL0 HK0
    by_cases hlt : c < n
    · have hne : ¬ n = c := by omega
      have EL := Lib.hid (lelim_any (c := c) (r := n - c) wo HL.out (by omega) hn1 (by omega))
      go_wp2_with fail
      refine (EL.out).mono ?_; rintro e w2 ⟨rfl, ⟨t', L', C', U', D', hl', hst⟩, hk'⟩
      have HL' := Lib.hid hl'
      have HK' := Lib.hid (hk' w (Nat.le_refl _) HK.out)
      have HT' := Lib.hid (show Mx.LuTo n f (c + 1) t' from ⟨t, HT.out, hst⟩)
      clear hl' hk' hst
      go_wp2_with fail
      go_roundw
      case rel => exact ⟨c + 1, t', L', C', U', D', by omega, rfl, rfl, rfl, by go_num, HT'.out, HL'.out, HK'.out⟩
      case measure => simp [intOf]; omega
    · obtain rfl : c = n := by omega
      have ST := Lib.hid (show Out3 w wo w.heap.size wo.heap.size g c t.s L C U D (fun p q => if p < 0 ∧ q = p then 1 else ((t.l p q).val : Int)) (fun p q => ((t.u p q).val : Int)) (.slice none 0 0) (Mx.row 0 fun i => (t.s i : Int)) (.slice none 0 0) 0 (.slice none 0 0) 0 from
        ⟨HK.out, Nat.le_refl _, ⟨HK.out.size, Nat.le_refl _⟩, HL.out.ext fun i j _ _ => ⟨by rw [if_neg (by omega)], rfl⟩, ⟨HL.out.top.lt, fun i hi => ⟨(HL.out.lb hi).2, (HL.out.ub hi).2⟩⟩, Own.none _ _, hdsV_none _ _ _, hdsV_none _ _ _, .inl rfl⟩)
      obtain ⟨B2, hB2⟩ : ∃ x, x = wo.heap.size := ⟨_, rfl⟩
      rw [← hB2] at ST
      clear hB2
      go_wp2_with fail
      go_loopw [2, 3, 4, 35] (fun vo vl vu i wr => ∃ k : Nat, k ≤ c ∧ i = .int .i64 (k : Int) ∧ Out3 w wr w.heap.size B2 g c t.s L C U D (fun p q => if p < k ∧ q = p then 1 else ((t.l p q).val : Int)) (fun p q => ((t.u p q).val : Int)) vo (Mx.row k fun i => (t.s i : Int)) vl k vu k) (fun _ _ _ i _ => c - (intOf i).toNat)
      case atStart => exact ⟨0, Nat.zero_le _, rfl, ST.out⟩
      case round =>
        obtain ⟨k, hk, rfl, ho⟩ := hrel
        obtain ⟨wp, hwp⟩ : ∃ x, x = wr := ⟨_, rfl⟩
        subst hwp
        have HO := Lib.hid ho
        clear ST
        by_cases hlt2 : k < c
        · have x0 := ho.lin.top.cell0 hlt2
          have x1 := ho.lin.top.cell1 hlt2
          have x2 := ho.lin.top.cell2 hlt2
          unfold lnv at x0 x1 x2
          obtain ⟨wb, hwb⟩ : ∃ x, x = wp.alloc (.cells #[.int .i64 (t.s k : Int), .slice (some ⟨L k, 0, none⟩) c (C k), .slice (some ⟨U k, 0, none⟩) c (D k)] 63) := ⟨_, rfl⟩
          have kb : Kp wp wb := by rw [hwb]; exact (Kp.rfl' wp).new _
          have bb : Bx wb wp.heap.size (.int .i64 (t.s k : Int)) (.slice (some ⟨L k, 0, none⟩) c (C k)) (.slice (some ⟨U k, 0, none⟩) c (D k)) := by
            rw [hwb]; exact ⟨cell_made _ _ _ _ 0 rfl, cell_made _ _ _ _ 1 rfl, cell_made _ _ _ _ 2 rfl⟩
          have hqL : some wp.heap.size ≠ some (L k) := fun e => by have e2 := Option.some.inj e; have := (ho.lin.lb hlt2).2; omega
          obtain ⟨wc, hwc⟩ : ∃ x, x = wb.setCell ⟨L k, k, none⟩ (.int .i64 1) := ⟨_, rfl⟩
          have O1 := Lib.hid (show Out3 w wc _ _ _ _ _ _ _ _ _ _ _ _ _ _ _ _ _ by rw [hwc]; exact (ho.keep kb).put hlt2 k 1)
          have B1 := Lib.hid (show Bx wc wp.heap.size _ _ _ by rw [hwc]; exact bb.grown (set_grown wb ⟨L k, k, none⟩ (.int .i64 1)) hqL)
          have y3 := (ho.keep kb).lin.lc hlt2 hlt2
          have y4 := (ho.keep kb).lin.lf hlt2 k
          rw [hwb] at y3 y4 hwc
          have y5 := ((Kp.rfl' wp).new (.cells #[.int .i64 (t.s k : Int), .slice (some ⟨L k, 0, none⟩) c (C k), .slice (some ⟨U k, 0, none⟩) c (D k)] 63)).cell (p := ⟨L k, k, none⟩) (ho.lin.lb hlt2).2
          have HWC := Lib.hid hwc
          have HQO := Lib.hid (show some wp.heap.size ≠ u2.ownBlock from fun e => by have := (World.ownsRow.lt ho.o _ e.symm).2; omega)
          have HQL := Lib.hid (show some wp.heap.size ≠ u3.ownBlock from fun e => by have := (hds_far ho.hl e.symm).2; omega)
          clear hwb kb bb hqL hwc ho
          go_upto_region 16 with (fail)
          rw [← HWC.out]
          have q0 := B1.out.c0
          have ES := Lib.hid (Mx.row_snoc k fun i => (t.s i : Int))
          clear HWC x0 x1 x2 y3 y4 y5
          go_wp2_with (at_builtin; first
            | (refine wpList_push rfl _ _ rfl B2 _ (Mx.row k fun i => (t.s i : Int)) (t.s k : Int) wc.heap.size 1 rfl rfl (O1.out.keep ((Kp.rfl' wc).new _)).o (cell_made _ _ _ _ 0 rfl) (by rw [Mx.len_row]; omega) (O1.out.keep ((Kp.rfl' wc).new _)).hB2.2 ?_
               intro vo' wq h1 h2 _
               rw [← ES.out] at h1
               have O2 := Lib.hid ((O1.out.keep ((Kp.rfl' wc).new _)).pushO h1 h2)
               have BX := Lib.hid ((B1.out.keep ((Kp.rfl' wc).new _)).grown h2 HQO.out)
               have q1 := BX.out.c1
               clear h1 h2 q0)
            | (refine wpList_pushH rfl _ _ rfl B2 u3 k _ _ wq.heap.size 1 rfl rfl (O2.out.keep ((Kp.rfl' wq).new _)).hl (cell_made _ _ _ _ 0 rfl) rfl rfl (by omega) (O2.out.keep ((Kp.rfl' wq).new _)).hB2.2 ?_
               intro vl' ws h1 h2 h3
               have O3 := Lib.hid ((O2.out.keep ((Kp.rfl' wq).new _)).pushL h1 h2 h3)
               have BY := Lib.hid ((BX.out.keep ((Kp.rfl' wq).new _)).grown h2 HQL.out)
               have q2 := BY.out.c2
               clear h1 h2 h3 q1)
            | (refine wpList_pushH rfl _ _ rfl B2 u4 k _ _ ws.heap.size 1 rfl rfl (O3.out.keep ((Kp.rfl' ws).new _)).hu (cell_made _ _ _ _ 0 rfl) rfl rfl (by omega) (O3.out.keep ((Kp.rfl' ws).new _)).hB2.2 ?_
               intro vu' wt h1 h2 h3
               have O4 := Lib.hid ((O3.out.keep ((Kp.rfl' ws).new _)).pushU h1 h2 h3)
               clear h1 h2 h3 q2))
          go_roundw
          case rel =>
            exact ⟨k + 1, by omega, by go_num, O4.out.ext fun p q _ _ => by
              by_cases e : p = k ∧ q = k
              · rw [if_pos e, if_pos (by omega)]
              · rw [if_neg e]
                by_cases e2 : p < k ∧ q = p
                · rw [if_pos e2, if_pos (by omega)]
                · rw [if_neg e2, if_neg (by omega)]⟩
          case measure => simp [intOf]; omega
        · obtain rfl : k = c := by omega
          obtain ⟨Ao, d1, e1, l1, _⟩ := ho.o.cap
          rw [Mx.len_row] at e1
          obtain ⟨Al, d2, e2, _, l2⟩ := ho.hl.lies (m := Mx.matl k k t.low) (Mx.len_matl _ _ _) (fun i hi => by
            rw [Mx.matl, Mx.tab_at _ _ _ _ hi, Mx.len_row]
            have h := ho.lin.low i hi
            obtain ⟨A', c', e', l', hc'⟩ := h.cap
            rw [Mx.len_row] at e' hc'
            cases e'
            refine ⟨_, _, rfl, hc', ?_⟩
            rw [show (Mx.row k fun j => ((t.low i j).val : Int)) = Mx.row k fun q => if i < k ∧ q = i then 1 else ((t.l i q).val : Int) from Mx.row_ext fun j _ => by
              unfold Mx.Tri.low
              by_cases e : j = i
              · rw [if_pos e, if_pos ⟨hi, e⟩]; rfl
              · rw [if_neg e, if_neg (fun h => e h.2)]]
            exact l')
          obtain ⟨Au, d3, e3, _, l3⟩ := ho.hu.lies (m := Mx.matl k k t.u) (Mx.len_matl _ _ _) (fun i hi => by
            rw [Mx.matl, Mx.tab_at _ _ _ _ hi, Mx.len_row]
            have h := ho.lin.up i hi
            obtain ⟨A', c', e', l', hc'⟩ := h.cap
            rw [Mx.len_row] at e' hc'
            cases e'
            exact ⟨_, _, rfl, hc', l'⟩)
          have L1 := Lib.hid l1
          have L2 := Lib.hid l2
          have L3 := Lib.hid l3
          have K4 := Lib.hid ho.kp
          subst e1 e2 e3
          clear l1 l2 l3 ho HO
          go_wp2_with fail
          exact bodyPost_ret (v := .tuple #[.slice Ao k d1, .slice Al k d2, .slice Au k d3, .nilIface]) (by simp [results, Try.results19, go_sem]) rfl ⟨t, Ao, d1, Al, d2, Au, d3, HT.out, rfl, L1.out, L2.out, L3.out, K4.out⟩

end Go.Proofs.Ytologiinkilooaa

/- What lu says of whatever comes in; its closed fact. -/
namespace Go.Proofs.Ytologiinkilooaa
open Go.ChangeShapes Go.WideShapes Go.ChangeAt Go.RowKit
set_option linter.unusedVariables false

theorem Split_or (A : Option Addr) (m : List (List Int)) (n d : Nat) (hn : m.length = n) :
    (∃ f, Sh n n f m) ∨ ∀ (w : World), LiesM w A m → Calls Try.prog 19 #[.slice A n d] w fun e w' => ∃ z : Nat, e = .returned (.tuple #[.slice none 0 0, .slice none 0 0, .slice none 0 0, .iface 50 (.int .i64 (z : Int))]) ∧ Kp w w' := by
  rcases sq_or m hn with h | h
  · exact .inl h
  · exact .inr fun w ha => ((Split_bad A m n d w ha hn h).mono fun e w' h' => ⟨qcode 5 0 9972 m, by rw [h'.1, errOf_ne _ h], h'.2⟩)
theorem Split_sh {A : Option Addr} {m : List (List Int)} {n : Nat} {f : Nat → Nat → Fp.F} (s : Sh n n f m) (d : Nat) (w : World) (ha : LiesM w A m) :
    Calls Try.prog 19 #[.slice A n d] w fun e w' => GotSplit n f w e w' := by
  rw [s.eq] at ha
  exact Split_ok A f n d w ha s.r0 s.r5

def flu : Nat → Nat → Fp.F := f22 0 1 2 4
theorem flu_mat : Mx.tab 2 2 (n22 0 1 2 4) = Mx.matl 2 2 flu := by decide +kernel
/-- As clr, with what undoes the pivot given. -/
def clrx (t : Mx.Tri) (c d : Nat) (x : Fp.F) : Mx.Tri :=
  ⟨t.s, fun i j => if c < i ∧ i < d ∧ j = c then t.u i c * x else t.l i j, fun i j => if c < i ∧ i < d then t.u i j - t.u i c * x * t.u c j else t.u i j⟩
def tlu1 : Mx.Tri := clrx ((Mx.tri0 flu).swp 0 1) 0 2 4987
def tlu : Mx.Tri := clrx (tlu1.swp 1 1) 1 2 1
theorem tlu1_is : tlu1 = (Mx.tri0 flu).step 2 0 1 := by
  have e : Fp.inv (((Mx.tri0 flu).swp 0 1).u 0 0) = 4987 := (inv_unique (by decide +kernel) (by decide +kernel)).symm
  show clrx ((Mx.tri0 flu).swp 0 1) 0 2 4987 = clrx ((Mx.tri0 flu).swp 0 1) 0 2 (Fp.inv (((Mx.tri0 flu).swp 0 1).u 0 0))
  rw [e]
theorem tlu_is : tlu = tlu1.step 2 1 1 := by
  have e : Fp.inv ((tlu1.swp 1 1).u 1 1) = 1 := (inv_unique (by decide +kernel) (by decide +kernel)).symm
  show clrx (tlu1.swp 1 1) 1 2 1 = clrx (tlu1.swp 1 1) 1 2 (Fp.inv ((tlu1.swp 1 1).u 1 1))
  rw [e]
theorem tlu_to : Mx.LuTo 2 flu 2 tlu := by
  refine ⟨tlu1, ⟨Mx.tri0 flu, rfl, .inr ⟨1, by decide, ⟨by decide, by decide, fun t h1 h2 => ?_, fun _ => by decide +kernel⟩, tlu1_is⟩⟩, .inr ⟨1, by decide, ⟨by decide, by decide, fun t h1 h2 => absurd (Nat.lt_of_le_of_lt h1 h2) (Nat.lt_irrefl _), fun _ => by decide +kernel⟩, tlu_is⟩⟩
  have : t = 0 := by omega
  subst this; decide +kernel
theorem tlu_low : Mx.matl 2 2 tlu.low = Mx.tab 2 2 (n22 1 0 0 1) := by decide +kernel
theorem tlu_up : Mx.matl 2 2 tlu.u = Mx.tab 2 2 (n22 2 4 0 1) := by decide +kernel
theorem tlu_s : Mx.row 2 (fun i => (tlu.s i : Int)) = [1, 0] := by decide +kernel


end Go.Proofs.Ytologiinkilooaa

/- The body of a range over a function: a region that draws its order and ends in one store; and the iterator 'places' of package mat. -/
namespace Go.Proofs.Ytologiinkilooaa
open Go.ChangeShapes Go.WideShapes Go.ChangeAt Go.RowKit Go.Shelf
set_option linter.unusedVariables false

/-- An operation that goes on, and nothing else. -/
def OnlyOn (Q : Exit → Act → World → Prop) : Exit → Act → World → Prop := fun e a w => e = .normal ∧ Q .normal a w

theorem oper_in {l n : Nat} {P : Program} {o : Oper} {a : Act} {w : World} {K K' : Act → World → Prop} {Q Q' : Exit → Act → World → Prop} (hd : ∀ c, o.op ≠ .defer c)
    (hK : ∀ a w, K a w → K' a w) (h : o.wp P a w K (OnlyOn Q)) : o.wpIn (Fence.wide.inRound l) n P a w K' Q' := by
  unfold Oper.wp at h
  unfold Oper.wpIn
  refine ⟨fun _ _ => trivial, ?_⟩
  rw [Oper.semAt_eq _ _ _ hd]
  generalize (execOp a.eval o).run P w = r at *
  cases r with
  | ok x w' =>
    cases x <;> simp only [Oper.upon, Oper.uponIn] at h ⊢
    case value => exact hK _ _ h
    case skip => exact hK _ _ h
    case defer => exact hK _ _ h
    case enter f args =>
      refine ⟨fun e => (by cases e), CallsIn.inRound l ((callsIn_wide (n := n - 1)).2 (h.mono fun e w2 he => ?_))⟩
      cases e with
      | returned v => exact hK _ _ he
      | panicked c => exact absurd he.1 (by simp)
      | outgrown => obtain ⟨_, _, h', _⟩ := he; cases h'
    case row s args =>
      refine ⟨fun e => (by cases e), fun c cs _ => ?_⟩
      obtain ⟨v, w2, h1, h2⟩ := h c cs
      exact ⟨v, w2, hK _ _ h1, stepsIn_wide.2 h2⟩
  | halt x w' =>
    cases x <;> simp only [Oper.upon, Oper.uponIn] at h ⊢
    exact absurd h.1 (by simp)

def noDefer (ops : List Oper) : Bool := ops.all fun o => match o.op with | .defer _ => false | _ => true
theorem noDefer_at {ops : List Oper} (h : noDefer ops = true) {i : Nat} {o : Oper} (hi : ops.toArray[i]? = some o) : ∀ c, o.op ≠ .defer c := fun c e => by
  have hm : o ∈ ops := by
    have : ops[i]? = some o := by simpa using hi
    exact List.mem_of_getElem? this
  have := List.all_eq_true.1 h o hm
  rw [e] at this
  cases this

theorem any_in {l n : Nat} {P : Program} {md : Region.Mode} {ops : List Oper} {Q : Exit → Act → World → Prop} (hd : noDefer ops = true) :
    ∀ (f : Nat) (listed : Array Bool) (a : Act) (w : World), wpAny P md ops.toArray (OnlyOn Q) f listed a w → wpAnyIn (Fence.wide.inRound l) n P md ops.toArray Q f listed a w
  | 0, _, _, _, h => ⟨h.1, h.2.2⟩
  | f + 1, listed, a, w, h => by
    refine ⟨fun h0 => (h.1 h0).2, fun i hi => ?_⟩
    have h2 := h.2 i hi
    unfold wpOp at h2
    unfold wpOpIn
    split
    · rename_i ho; simp only [ho] at h2; exact any_in hd f _ _ _ h2
    · rename_i o ho
      simp only [ho] at h2
      split
      · rename_i hw
        simp only [hw, if_true] at h2
        rcases h2 with h2 | ⟨_, _, _, h3, _⟩
        · exact oper_in (noDefer_at hd ho) (fun a w => any_in hd f _ a w) h2
        · cases h3
      · rename_i hw
        simp only [hw] at h2
        exact ⟨fun _ _ => trivial, any_in hd f _ _ _ h2⟩

/-- In a round: a region that draws its order and whose first k operations only read, the rest one behind the other. -/
theorem region_tail {l n : Nat} {P : Program} {id : Nat} {Q : Exit → Act → World → Prop} {a : Act} {w : World} {ops : List Oper} (k : Nat) (hm : P.follows .mixedOrders = true) (hd : noDefer ops = true)
    (hB : Region.lexTailB .any ops.toArray k = true) (h : wpStill P ops.toArray w.drew (fun a' => wpList P ops.toArray (OnlyOn Q) (ops.drop k) a' w.drew) (ops.take k) a) :
    (Code.region id ops.toArray true).wpIn (Fence.wide.inRound l) n P Q a w := by
  refine wpIn_region_any hm (any_in hd _ _ _ _ ?_)
  simp only [Region.lexTailB, Bool.and_eq_true, decide_eq_true_eq] at hB
  obtain ⟨⟨⟨⟨b1, b2⟩, b3⟩, b4⟩, b5⟩ := hB
  have hk : k < ops.length := by simpa using b2
  have ht : (ops.take k).length = k := by rw [List.length_take]; omega
  have he : (ops.drop k).length = ops.toArray.size - k := by simp
  have start : HeadInv .any ops.toArray k (Array.replicate ops.toArray.size false) :=
    { size := by simp
      closed := fun j oj _ hl => by rw [getD_replicate_false] at hl; cases hl
      tail := fun t _ hlt => getD_in (by simpa using hlt) (getD_replicate_false _ _) }
  have first := wpAnyL_lex (md := .any) (g := ops.toArray.size - k) b1 b3 b4 b2 (ops.take k) 0 _ a
    (fun j hj => by
      rw [ht] at hj
      simp [hj]) (by rw [ht, Nat.zero_add]) start (by rw [ht]; exact b5) h
  have all := wpAny_of_head (Q' := OnlyOn Q) (g := ops.toArray.size - k)
    (fun listed a' hL => by
      have s := wpAny_of_seq (md := .any) (Q' := OnlyOn Q) (ops.drop k) k listed a' w.drew (fun j => by simp [List.getElem?_drop]) (by rw [he]; exact hL.1) hL.2
      rw [he] at s
      exact s) _ _ _ first
  rw [ht, Nat.add_sub_cancel' (Nat.le_of_lt b2)] at all
  exact all

attribute [local go_sem] Oper.semAt_some

/-- Row and column of place k. -/
def rowOf (r c : Nat) (k : Nat) : Nat := k / c % r
def colOf (c : Nat) (k : Nat) : Nat := k % c
theorem rowOf_lt {r c : Nat} (k : Nat) (h : 0 < r) : rowOf r c k < r := Nat.mod_lt _ h
theorem colOf_lt {c : Nat} (k : Nat) (h : 0 < c) : colOf c k < c := Nat.mod_lt _ h
def placeOf (r c : Nat) (k : Nat) : Array Value := #[.int .i64 ((rowOf r c k : Nat) : Int), .int .i64 ((colOf c k : Nat) : Int)]
theorem placeOf_at {r c i j : Nat} (hi : i < r) (hj : j < c) : placeOf r c (i * c + j) = #[.int .i64 (i : Int), .int .i64 (j : Int)] := by
  have hc : 0 < c := by omega
  have e1 : rowOf r c (i * c + j) = i := by unfold rowOf; rw [Nat.mul_comm, Nat.mul_add_div hc, Nat.div_eq_of_lt hj, Nat.add_zero, Nat.mod_eq_of_lt hi]
  have e2 : colOf c (i * c + j) = j := by unfold colOf; rw [Nat.mul_comm, Nat.mul_add_mod, Nat.mod_eq_of_lt hj]
  unfold placeOf
  rw [e1, e2]

set_option maxHeartbeats 800000 in
theorem places_any (A : Option Addr) (n d : Nat) (w : World) :
    Calls Try.prog 41 #[.slice A n d] w fun e w' => e = .returned (.func (.func 60) #[] #[.pointer (some ⟨w.heap.size, 0, none⟩)]) ∧ w' = w.alloc (.cells #[.slice A n d] 22) := by
  go_enter Try.func41, Try.ntmps41
  go_wp2
  go_ret
  exact ⟨rfl, rfl⟩

set_option maxRecDepth 100000 in
set_option maxHeartbeats 2000000 in
theorem places_in (n : Nat) (hn : 1 ≤ n) (l Bs n₀ g r c : Nat) (G : Nat → Nat) (hr : r ≤ 1000) (hc : c ≤ 1000) (hg : g < n₀) (J Jx : List Nat → World → Prop)
    (hY : ∀ pre x W, J pre W → pre.length < r * c → YieldAt Fence.wide (n - 1) Try.prog l (placeOf r c x) W fun e W' =>
      (e = .returned (.bool true) ∧ J (pre ++ [x]) W' ∧ Below n₀ W W') ∨ (e = .returned (.bool false) ∧ Jx (pre ++ [x]) W'))
    (W : World) (hBs : W.cell? ⟨Bs, 0, none⟩ = some (.slice (some ⟨g, 0, none⟩) r r)) (hcs : ∀ i, i < r → W.cell? ⟨g, i, none⟩ = some (.slice (some ⟨G i, 0, none⟩) c c)) (h0 : J [] W) :
    CallsIn Fence.wide n Try.prog 60 #[.func (.yield l) #[] #[], .pointer (some ⟨Bs, 0, none⟩)] W fun e W' => (∃ v, e = .returned v) ∧
      ((∃ ys, ys = List.range (r * c) ∧ J ys W') ∨ (∃ pre, True ∧ Jx pre W')) := by
  refine callsIn_of_wp Try.func60 rfl trivial ?_ rfl
  simp only [Try.ntmps60, List.size_toArray, List.length_cons, List.length_nil, Nat.reduceAdd, Nat.reduceSub, Array.replicate_succ, Array.replicate_zero, List.push_toArray, List.append_toArray, List.nil_append, List.cons_append]
  gi_wp2
  gi_loopw [8] (fun i wr => ∃ k : Nat, k ≤ r ∧ i = .int .i64 (k : Int) ∧ J (List.range (k * c)) wr ∧ Below n₀ W wr) (fun i _ => r - (intOf i).toNat)
  case atStart => exact ⟨0, Nat.zero_le _, rfl, by rw [Nat.zero_mul]; exact h0, Below.refl _ _⟩
  case round =>
    obtain ⟨k, hk, rfl, hJs, hnx⟩ := hrel
    by_cases hlt : k < r
    · have hcx : wr.cell? ⟨g, k, none⟩ = some (.slice (some ⟨G k, 0, none⟩) c c) := (hnx.cell (p := ⟨g, k, none⟩) hg).trans (hcs k hlt)
      have JS := Lib.hid hJs
      have NX := Lib.hid hnx
      clear hJs hnx
      gi_wp2
      gi_loopw [15] (fun j wq => ∃ m : Nat, m ≤ c ∧ j = .int .i64 (m : Int) ∧ J (List.range (k * c + m)) wq ∧ Below n₀ W wq) (fun j _ => c - (intOf j).toNat)
      case atStart => exact ⟨0, Nat.zero_le _, rfl, JS.out, NX.out⟩
      case round =>
        obtain ⟨m, hm, rfl, hJq, hnq⟩ := hrel
        by_cases hmt : m < c
        · obtain ⟨fn, tmps, assign, body, hy, hR⟩ := hY _ (k * c + m) _ hJq (by rw [List.length_range]; exact Mx.place_lt hlt hmt)
          rw [placeOf_at hlt hmt] at hy
          have NQ := Lib.hid hnq
          have RR := Lib.hid hR
          clear hnq hJq hR
          gi_wp2
          refine (RR.out).mono ?_
          rintro e W3 (⟨rfl, hJ3, hk3⟩ | ⟨rfl, hJx3⟩)
          · gi_wp2
            go_roundw
            case rel => exact ⟨m + 1, by omega, by go_num, by rw [← Nat.add_assoc, List.range_succ]; exact hJ3, NQ.out.trans hk3⟩
            case measure => simp [intOf]; omega
          · gi_wp2
            refine bodyPost_ret (results_none rfl _ _ _) rfl ?_
            exact ⟨⟨_, rfl⟩, .inr ⟨_, trivial, hJx3⟩⟩
        · obtain rfl : m = c := by omega
          have NQ := Lib.hid hnq
          have JQ := Lib.hid hJq
          clear hnq hJq
          gi_wp2
          go_roundw
          case rel => exact ⟨k + 1, by omega, by go_num, by rw [Nat.add_mul, Nat.one_mul]; exact JQ.out, NQ.out⟩
          case measure => simp [intOf]; omega
    · obtain rfl : k = r := by omega
      gi_wp2
      go_end0
      exact ⟨⟨_, rfl⟩, .inl ⟨_, rfl, hJs⟩⟩

theorem places_stops (n : Nat) (hn : 1 ≤ n) (Bs n₀ g r c : Nat) (G : Nat → Nat) (hr : r ≤ 1000) (hc : c ≤ 1000) (hg : g < n₀) (w : World) (hn0 : n₀ ≤ w.heap.size) (hB : Bs < w.heap.size)
    (hBs : w.cell? ⟨Bs, 0, none⟩ = some (.slice (some ⟨g, 0, none⟩) r r)) (hcs : ∀ i, i < r → w.cell? ⟨g, i, none⟩ = some (.slice (some ⟨G i, 0, none⟩) c c)) :
    SeqStopsK Fence.wide n Try.prog 60 #[.pointer (some ⟨Bs, 0, none⟩)] (placeOf r c) (Below n₀) (fun ys => ys = List.range (r * c)) (fun _ => True) (r * c) w := fun l J Jx W hW _ _ hY h0 =>
  places_in n hn l Bs n₀ g r c G hr hc hg J Jx hY W ((hW.cell (p := ⟨Bs, 0, none⟩) hB).trans hBs) (fun i hi => (hW.cell (p := ⟨g, i, none⟩) (by show g < _; omega)).trans (hcs i hi)) h0


end Go.Proofs.Ytologiinkilooaa

/- The iterator over a list of numbers without one place; slices.Collect of what it yields. -/
namespace Go.Proofs.Ytologiinkilooaa
open Go.ChangeShapes Go.WideShapes Go.ChangeAt Go.RowKit Go.Shelf
set_option linter.unusedVariables false
attribute [local go_sem] Oper.semAt_some

set_option maxHeartbeats 800000 in
theorem others_any (A : Option Addr) (n d : Nat) (k : Int) (w : World) :
    Calls Try.prog 70 #[.slice A n d, .int .i64 k] w fun e w' =>
      e = .returned (.func (.func 90) #[] #[.pointer (some ⟨w.heap.size, 0, none⟩), .pointer (some ⟨w.heap.size + 1, 0, none⟩)]) ∧
        w' = (w.alloc (.cells #[.slice A n d] 24)).alloc (.cells #[.int .i64 k] 3) := by
  go_enter Try.func70, Try.ntmps70
  go_wp2
  go_ret
  exact ⟨rfl, rfl⟩

def numAt (g : Nat → Int) (x : Nat) : Array Value := #[.int .i64 (g x)]

set_option maxRecDepth 100000 in
set_option maxHeartbeats 2000000 in
theorem others_in (n : Nat) (hn : 1 ≤ n) (l B0 B1 n₀ c k d : Nat) (A : Option Addr) (g : Nat → Int) (hc : c ≤ 1000) (hk : k ≤ 1000) (h1 : B1 < n₀) (J Jx : List Nat → World → Prop)
    (hY : ∀ pre x W, J pre W → pre.length < c → YieldAt Fence.wide (n - 1) Try.prog l (numAt g x) W fun e W' =>
      (e = .returned (.bool true) ∧ J (pre ++ [x]) W' ∧ Below n₀ W W') ∨ (e = .returned (.bool false) ∧ Jx (pre ++ [x]) W'))
    (W : World) (hB0 : W.cell? ⟨B0, 0, none⟩ = some (.slice A c d)) (hB1 : W.cell? ⟨B1, 0, none⟩ = some (.int .i64 (k : Int))) (hl : LiesIn W n₀ A (Mx.row c g)) (h0 : J [] W) :
    CallsIn Fence.wide n Try.prog 90 #[.func (.yield l) #[] #[], .pointer (some ⟨B0, 0, none⟩), .pointer (some ⟨B1, 0, none⟩)] W fun e W' => (∃ v, e = .returned v) ∧
      ((∃ ys, ys = kept k c ∧ J ys W') ∨ (∃ pre, True ∧ Jx pre W')) := by
  have HL := Lib.hid hl
  clear hl
  refine callsIn_of_wp Try.func90 rfl trivial ?_ rfl
  simp only [Try.ntmps90, List.size_toArray, List.length_cons, List.length_nil, Nat.reduceAdd, Nat.reduceSub, Array.replicate_succ, Array.replicate_zero, List.push_toArray, List.append_toArray, List.nil_append, List.cons_append]
  gi_wp2
  gi_loopw [4, 5, 8] (fun _ _ i wr => ∃ m : Nat, m ≤ c ∧ i = .int .i64 (m : Int) ∧ J (kept k m) wr ∧ Below n₀ W wr) (fun _ _ i _ => c - (intOf i).toNat)
  case atStart => exact ⟨0, Nat.zero_le _, rfl, by rw [kept_zero]; exact h0, Below.refl _ _⟩
  case round =>
    obtain ⟨m, hm, rfl, hJs, hnx⟩ := hrel
    by_cases hlt : m < c
    · have hx1 : wr.cell? ⟨B1, 0, none⟩ = some (.int .i64 (k : Int)) := (hnx.cell (p := ⟨B1, 0, none⟩) h1).trans hB1
      obtain ⟨ad, rfl, hbl, hcl⟩ := (HL.out.below hnx) m (by rw [Mx.len_row]; exact hlt)
      rw [Mx.row_at _ _ _ hlt] at hcl
      by_cases hmk : m = k
      · subst hmk
        have e1 : ((m : Int) != (m : Int)) = false := by simp
        have JS := Lib.hid hJs
        have NX := Lib.hid hnx
        clear hJs hnx
        gi_wp2
        refine ⟨fun _ h => (by cases h), ?_⟩
        gi_wp2
        go_roundw
        case rel => exact ⟨m + 1, by omega, by go_num, by rw [kept_skip]; exact JS.out, NX.out⟩
        case measure => simp [intOf]; omega
      · have e1 : ((m : Int) != (k : Int)) = true := by rw [bne_iff_ne]; omega
        obtain ⟨fn, tmps, assign, body, hy, hR⟩ := hY _ m _ hJs (by rw [kept_len]; exact ct_lt hlt hmk)
        unfold numAt at hy
        have KN := Lib.hid (kept_next hmk)
        have NX := Lib.hid hnx
        have RR := Lib.hid hR
        clear hJs hnx hR hmk
        gi_wp2
        refine (RR.out).mono ?_
        rintro e W3 (⟨rfl, hJ3, hk3⟩ | ⟨rfl, hJx3⟩)
        · gi_wp2
          go_roundw
          case rel => exact ⟨m + 1, by omega, by go_num, by rw [KN.out]; exact hJ3, NX.out.trans hk3⟩
          case measure => simp [intOf]; omega
        · gi_wp2
          refine bodyPost_ret (results_none rfl _ _ _) rfl ?_
          exact ⟨⟨_, rfl⟩, .inr ⟨_, trivial, hJx3⟩⟩
    · obtain rfl : m = c := by omega
      gi_wp2
      go_end0
      exact ⟨⟨_, rfl⟩, .inl ⟨_, rfl, hJs⟩⟩

theorem others_stops (n : Nat) (hn : 1 ≤ n) (B0 B1 n₀ c k d : Nat) (A : Option Addr) (g : Nat → Int) (hc : c ≤ 1000) (hk : k ≤ 1000) (h0 : B0 < n₀) (h1 : B1 < n₀) (w : World) (hn0 : n₀ ≤ w.heap.size)
    (hB0 : w.cell? ⟨B0, 0, none⟩ = some (.slice A c d)) (hB1 : w.cell? ⟨B1, 0, none⟩ = some (.int .i64 (k : Int))) (hl : LiesIn w n₀ A (Mx.row c g)) :
    SeqStopsK Fence.wide n Try.prog 90 #[.pointer (some ⟨B0, 0, none⟩), .pointer (some ⟨B1, 0, none⟩)] (numAt g) (Below n₀) (fun ys => ys = kept k c) (fun _ => True) c w := fun l J Jx W hW _ _ hY hj =>
  others_in n hn l B0 B1 n₀ c k d A g hc hk h1 J Jx hY W ((hW.cell (p := ⟨B0, 0, none⟩) (by show B0 < _; omega)).trans hB0) ((hW.cell (p := ⟨B1, 0, none⟩) (by show B1 < _; omega)).trans hB1) (hl.below (hW.mono hn0)) hj


theorem row_kept (g : Nat → Int) (k c : Nat) : (kept k c).map g = Mx.row (ct k c) fun j => g (Mx.sk k j) := by
  unfold kept Mx.row
  rw [List.map_map]
  rfl

set_option maxRecDepth 100000 in
set_option maxHeartbeats 2000000 in
/-- slices.AppendSeq(nil, others(row, k)). -/
theorem appendSeq_any (B0 B1 c k d : Nat) (A : Option Addr) (g : Nat → Int) (hc : c ≤ 1000) (hk : k ≤ 1000) (w : World) (hB0 : w.cell? ⟨B0, 0, none⟩ = some (.slice A c d)) (hB1 : w.cell? ⟨B1, 0, none⟩ = some (.int .i64 (k : Int))) (hl : Lies w A (Mx.row c g)) :
    Calls Try.prog 89 #[.slice none 0 0, .func (.func 90) #[] #[.pointer (some ⟨B0, 0, none⟩), .pointer (some ⟨B1, 0, none⟩)]] w fun e w' =>
      ∃ v, e = .returned v ∧ Own w' w.heap.size v (Mx.row (ct k c) fun j => g (Mx.sk k j)) ∧ Kp w w' := by
  obtain ⟨i0, hi, hz0, hz1, hz2⟩ := info_parts int_info
  have b0 := cell_lt hB0
  have b1 := cell_lt hB1
  have HL := Lib.hid hl.in
  clear hl
  refine callsIn_wide.1 (callsIn_of_wp_marks (F := Fence.wide) (n := 9) Try.func89 rfl trivial ?_ rfl)
  simp only [Try.ntmps89, List.size_toArray, List.length_cons, List.length_nil, Nat.reduceAdd, Nat.reduceSub, Array.replicate_succ, Array.replicate_zero, List.push_toArray, List.append_toArray, List.nil_append, List.cons_append]
  gi_wp2
  have bO := Boxed.new w 24 (.slice none 0 0)
  obtain ⟨w1, hw1⟩ : ∃ x, x = w.alloc (.cells #[.slice none 0 0] 24) := ⟨_, rfl⟩
  rw [← hw1] at bO ⊢
  have s1 : w1.heap.size = w.heap.size + 1 := by rw [hw1]; simp
  have k1 : Kp w w1 := by rw [hw1]; exact (Kp.rfl' w).new _
  clear hw1
  refine wpIn_rangeFunc_ownG rfl (Nat.le_add_left 1 8) (gf := 90) (lb := #[.pointer (some ⟨B0, 0, none⟩), .pointer (some ⟨B1, 0, none⟩)]) rfl trivial (enters_of Try.func90 (by kernel_rfl) rfl)
    (others_stops 8 (Nat.le_add_left 1 7) B0 B1 w.heap.size c k d A g hc hk b0 b1 w1 (by omega) ((k1.cell (p := ⟨B0, 0, none⟩) b0).trans hB0) ((k1.cell (p := ⟨B1, 0, none⟩) b1).trans hB1) (HL.out.below k1))
    belowK_t (belowK_b (by omega)) (Below.refl _ _) (fun _ => rfl)
    (fun pre W => (∃ v, Boxed W w.heap.size 24 v ∧ W.ownsRow w.heap.size 3 1 v pre.length (ints (pre.map g)) ∧ True) ∧ Below w.heap.size w W)
    (fun _ _ _ => False)
    (OwnFrom.and (Go.Own.from (holdsRow_own w.heap.size w.heap.size 24 3 1 (fun (pre : List Nat) => pre.length) (fun pre => ints (pre.map g)) (fun _ _ => True)) _) (ownFrom_below (Nat.le_refl _) (by omega)))
    (fun _ _ _ _ _ hs _ _ => hs)
    ⟨⟨_, bO, World.ownsRow_nil _ _ _ _, trivial⟩, k1⟩
    (fun x => { tmps := #[.slice none 0 0, .func (.func 90) #[] #[.pointer (some ⟨B0, 0, none⟩), .pointer (some ⟨B1, 0, none⟩)], .pointer (some ⟨w.heap.size, 0, none⟩), undef, .slice none 0 0, .int .i64 (g x), .func (.func 90) #[] #[.pointer (some ⟨B0, 0, none⟩), .pointer (some ⟨B1, 0, none⟩)], .int .i64 (g x), undef, undef, undef, undef, undef], defers := [] }) ?assign ?body ?done ?stop
  case assign =>
    intro l x W K hK
    unfold numAt
    gi_wp2
    exact hK
  case body =>
    rintro l pre x W ⟨⟨v, hv, hrow, _⟩, hB⟩ hlt
    have hcb := hv.cell
    have hlen : pre.length ≤ 1000 := by omega
    have hsn : (pre ++ [x]).map g = pre.map g ++ [g x] := by rw [List.map_append, List.map_singleton]
    gi_wp2_with (gi_at_builtin; refine wpListIn_append_own _ rfl _ _ 24 rfl w.heap.size 3 i0 (.int .i64 0) 1 8 Try.underlying24 hi hz0 hz1 hz2 rfl (by decide) _ _ _ rfl (hrow.alloc _) ⟨W.heap.size, 0, none⟩ 1 1 [.int .i64 (g x)] rfl rfl (cell_one_new _ _ _) (by simp [Value.oneCell']) (by unfold maxLen; omega) (by omega) (by have := hB.size; simp; omega) ?_; intro v' w2 hown' hgrow _; obtain ⟨g', cap', rfl⟩ := ownsRow_succ hown'; obtain ⟨hv1, hv2, hr2, hk2, hb2⟩ := hv.appended (by decide) hrow hB.size (Nat.le_refl _) hown' hgrow; have hc1 := hv1.cell; have hf1 := hv1.frozen)
    refine ⟨hk2.from _, hb2, ⟨_, hv2, ?_, trivial⟩, hB.trans hb2⟩
    rw [List.length_append, List.length_singleton, hsn, ints, List.map_append, List.map_singleton]
    exact hr2
  case done =>
    rintro D ys W hD rfl ⟨⟨v, hv, hrow, _⟩, hB⟩ hK
    have hcb := hv.cell
    gi_wp2
    refine ⟨by simp, .inl ⟨_, _, rfl, run_takeDeferred hK, ?_⟩⟩
    refine ⟨_, results_tmp rfl _ _ _, v, rfl, ?_, hB.trans (belowK_b (w := w) (Nat.le_refl _) W D _ _ (by omega) hK rfl rfl)⟩
    have hrow2 := ownsRow_putObj hrow (.deferred none) hK rfl
    rw [← row_kept]
    unfold Own
    rw [List.length_map]
    exact hrow2
  case stop =>
    rintro D c pre W _ _ h _
    exact h.elim

set_option maxHeartbeats 800000 in
theorem collect_any (B0 B1 c k d : Nat) (A : Option Addr) (g : Nat → Int) (hc : c ≤ 1000) (hk : k ≤ 1000) (w : World) (hB0 : w.cell? ⟨B0, 0, none⟩ = some (.slice A c d)) (hB1 : w.cell? ⟨B1, 0, none⟩ = some (.int .i64 (k : Int))) (hl : Lies w A (Mx.row c g)) :
    Calls Try.prog 69 #[.func (.func 90) #[] #[.pointer (some ⟨B0, 0, none⟩), .pointer (some ⟨B1, 0, none⟩)]] w fun e w' =>
      ∃ v, e = .returned v ∧ Own w' w.heap.size v (Mx.row (ct k c) fun j => g (Mx.sk k j)) ∧ Kp w w' := by
  have AP := Lib.hid (appendSeq_any B0 B1 c k d A g hc hk w hB0 hB1 hl)
  clear hl hB0 hB1
  go_enter Try.func69, Try.ntmps69
  go_wp2_with fail
  refine (AP.out).mono ?_; rintro e w1 ⟨v, rfl, ho, hk1⟩
  have HO := Lib.hid ho
  have HK := Lib.hid hk1
  clear ho hk1
  go_wp2_with fail
  go_ret
  exact ⟨v, rfl, HO.out, HK.out⟩

end Go.Proofs.Ytologiinkilooaa

/- The iterator over the rows of a matrix without one of them. -/
namespace Go.Proofs.Ytologiinkilooaa
open Go.ChangeShapes Go.WideShapes Go.ChangeAt Go.RowKit Go.Shelf
set_option linter.unusedVariables false
attribute [local go_sem] Oper.semAt_some

set_option maxHeartbeats 800000 in
theorem othersM_any (A : Option Addr) (n d : Nat) (k : Int) (w : World) :
    Calls Try.prog 68 #[.slice A n d, .int .i64 k] w fun e w' =>
      e = .returned (.func (.func 88) #[] #[.pointer (some ⟨w.heap.size, 0, none⟩), .pointer (some ⟨w.heap.size + 1, 0, none⟩)]) ∧
        w' = (w.alloc (.cells #[.slice A n d] 22)).alloc (.cells #[.int .i64 k] 3) := by
  go_enter Try.func68, Try.ntmps68
  go_wp2
  go_ret
  exact ⟨rfl, rfl⟩

/-- The head of row x. -/
def headAt (n c : Nat) (R : Nat → Option Addr) (D : Nat → Nat) (x : Nat) : Array Value := #[.slice (R (x % n)) c (D (x % n))]
/-- What a round keeps: what lay before, and the place that is left out. -/
def KeepB (n₀ B1 : Nat) (k : Int) (W W' : World) : Prop := Below n₀ W W' ∧ (W.cell? ⟨B1, 0, none⟩ = some (.int .i64 k) → W'.cell? ⟨B1, 0, none⟩ = some (.int .i64 k))
theorem keepB_t {n₀ B1 : Nat} {k : Int} {a b c : World} (h : KeepB n₀ B1 k a b) (h' : KeepB n₀ B1 k b c) : KeepB n₀ B1 k a c := ⟨h.1.trans h'.1, fun x => h'.2 (h.2 x)⟩
theorem keepB_b {w : World} {n₀ B1 : Nat} {k : Int} (hn : n₀ ≤ w.heap.size) (W : World) (l : Nat) (o o' : Obj) (hl : w.heap.size ≤ l) (ho : W.heap[l]? = some o) (h1 : o.isCells = false) (h2 : o.isWalk = false) : KeepB n₀ B1 k W (W.putObj l o') :=
  ⟨belowK_b hn W l o o' hl ho h1 h2, fun x => cell_kept x (grownBy_putObj' W l o') (fun r e => by cases e; exact ⟨_, ho, h1⟩)⟩

set_option maxRecDepth 100000 in
set_option maxHeartbeats 2000000 in
theorem othersM_in (n : Nat) (hn : 1 ≤ n) (l B0 B1 n₀ c k d : Nat) (A : Option Addr) (r : Nat) (R : Nat → Option Addr) (D : Nat → Nat) (hc : r ≤ 1000) (hk : k ≤ 1000) (J Jx : List Nat → World → Prop)
    (hY : ∀ pre x W, J pre W → pre.length < r → YieldAt Fence.wide (n - 1) Try.prog l (headAt r c R D x) W fun e W' =>
      (e = .returned (.bool true) ∧ J (pre ++ [x]) W' ∧ KeepB n₀ B1 k W W') ∨ (e = .returned (.bool false) ∧ Jx (pre ++ [x]) W'))
    (W : World) (hB0 : W.cell? ⟨B0, 0, none⟩ = some (.slice A r d)) (hB1 : W.cell? ⟨B1, 0, none⟩ = some (.int .i64 (k : Int))) (hl : ∀ i, i < r → ∃ ad, A = some ad ∧ ad.block < n₀ ∧ W.cell? (ad.add i) = some (.slice (R i) c (D i))) (h0 : J [] W) :
    CallsIn Fence.wide n Try.prog 88 #[.func (.yield l) #[] #[], .pointer (some ⟨B0, 0, none⟩), .pointer (some ⟨B1, 0, none⟩)] W fun e W' => (∃ v, e = .returned v) ∧
      ((∃ ys, ys = kept k r ∧ J ys W') ∨ (∃ pre, True ∧ Jx pre W')) := by
  have HL := Lib.hid hl
  clear hl
  refine callsIn_of_wp Try.func88 rfl trivial ?_ rfl
  simp only [Try.ntmps88, List.size_toArray, List.length_cons, List.length_nil, Nat.reduceAdd, Nat.reduceSub, Array.replicate_succ, Array.replicate_zero, List.push_toArray, List.append_toArray, List.nil_append, List.cons_append]
  gi_wp2
  gi_loopw [4, 5, 8] (fun _ _ i wr => ∃ m : Nat, m ≤ r ∧ i = .int .i64 (m : Int) ∧ J (kept k m) wr ∧ KeepB n₀ B1 k W wr) (fun _ _ i _ => r - (intOf i).toNat)
  case atStart => exact ⟨0, Nat.zero_le _, rfl, by rw [kept_zero]; exact h0, Below.refl _ _, id⟩
  case round =>
    obtain ⟨m, hm, rfl, hJs, hnx⟩ := hrel
    by_cases hlt : m < r
    · have hx1 : wr.cell? ⟨B1, 0, none⟩ = some (.int .i64 (k : Int)) := hnx.2 hB1
      obtain ⟨ad, rfl, hbl, hcl0⟩ := HL.out m hlt
      have hcl := (hnx.1.cell (p := ad.add m) (by rw [block_add]; exact hbl)).trans hcl0
      clear hcl0
      by_cases hmk : m = k
      · subst hmk
        have e1 : ((m : Int) != (m : Int)) = false := by simp
        have JS := Lib.hid hJs
        have NX := Lib.hid hnx
        clear hJs hnx
        gi_wp2
        refine ⟨fun _ h => (by cases h), ?_⟩
        gi_wp2
        go_roundw
        case rel => exact ⟨m + 1, by omega, by go_num, by rw [kept_skip]; exact JS.out, NX.out⟩
        case measure => simp [intOf]; omega
      · have e1 : ((m : Int) != (k : Int)) = true := by rw [bne_iff_ne]; omega
        obtain ⟨fn, tmps, assign, body, hy, hR⟩ := hY _ m _ hJs (by rw [kept_len]; exact ct_lt hlt hmk)
        unfold headAt at hy
        rw [Nat.mod_eq_of_lt hlt] at hy
        have KN := Lib.hid (kept_next hmk)
        have NX := Lib.hid hnx
        have RR := Lib.hid hR
        clear hJs hnx hR hmk
        gi_wp2
        refine (RR.out).mono ?_
        rintro e W3 (⟨rfl, hJ3, hk3⟩ | ⟨rfl, hJx3⟩)
        · gi_wp2
          go_roundw
          case rel => exact ⟨m + 1, by omega, by go_num, by rw [KN.out]; exact hJ3, keepB_t NX.out hk3⟩
          case measure => simp [intOf]; omega
        · gi_wp2
          refine bodyPost_ret (results_none rfl _ _ _) rfl ?_
          exact ⟨⟨_, rfl⟩, .inr ⟨_, trivial, hJx3⟩⟩
    · obtain rfl : m = r := by omega
      gi_wp2
      go_end0
      exact ⟨⟨_, rfl⟩, .inl ⟨_, rfl, hJs⟩⟩

theorem othersM_stops (n : Nat) (hn : 1 ≤ n) (B0 B1 n₀ c k d : Nat) (A : Option Addr) (r : Nat) (R : Nat → Option Addr) (D : Nat → Nat) (hc : r ≤ 1000) (hk : k ≤ 1000) (w : World) (hb0 : B0 < w.heap.size) (hb1 : B1 < w.heap.size) (hn0 : n₀ ≤ w.heap.size)
    (hB0 : w.cell? ⟨B0, 0, none⟩ = some (.slice A r d)) (hB1 : w.cell? ⟨B1, 0, none⟩ = some (.int .i64 (k : Int))) (hl : ∀ i, i < r → ∃ ad, A = some ad ∧ ad.block < n₀ ∧ w.cell? (ad.add i) = some (.slice (R i) c (D i))) :
    SeqStopsK Fence.wide n Try.prog 88 #[.pointer (some ⟨B0, 0, none⟩), .pointer (some ⟨B1, 0, none⟩)] (headAt r c R D) (KeepB n₀ B1 k) (fun ys => ys = kept k r) (fun _ => True) r w := fun l J Jx W hW _ _ hY hj =>
  othersM_in n hn l B0 B1 n₀ c k d A r R D hc hk J Jx hY W ((hW.cell (p := ⟨B0, 0, none⟩) hb0).trans hB0) ((hW.cell (p := ⟨B1, 0, none⟩) hb1).trans hB1) (fun i hi => by
    obtain ⟨ad, e, h1, h2⟩ := hl i hi
    exact ⟨ad, e, h1, (hW.cell (p := ad.add i) (by rw [block_add]; omega)).trans h2⟩) hj


end Go.Proofs.Ytologiinkilooaa

/- What the rounds over places keep: how many rows there are (for all packages). -/
namespace Go.Proofs.Ytologiinkilooaa
open Go.ChangeShapes Go.WideShapes Go.ChangeAt Go.RowKit Go.Shelf
set_option linter.unusedVariables false
attribute [local go_sem] Oper.semAt_some

/-- What a round keeps: how many rows there are. -/
def KeepN (Bs n : Nat) (W W' : World) : Prop := W.cell? ⟨Bs, 0, none⟩ = some (.int .i64 (n : Int)) → W'.cell? ⟨Bs, 0, none⟩ = some (.int .i64 (n : Int))
theorem keepN_t {Bs n : Nat} {a b c : World} (h : KeepN Bs n a b) (h' : KeepN Bs n b c) : KeepN Bs n a c := fun x => h' (h x)
theorem keepN_b {Bs n : Nat} (W : World) (l : Nat) (o o' : Obj) (ho : W.heap[l]? = some o) (h1 : o.isCells = false) : KeepN Bs n W (W.putObj l o') :=
  fun x => cell_kept x (grownBy_putObj' W l o') (fun r e => by cases e; exact ⟨_, ho, h1⟩)
theorem keepN_set {Bs n : Nat} (W : World) (p : Addr) (v : Value) (h : p.block ≠ Bs) : KeepN Bs n W (W.setCell p v) := fun x =>
  (World.cell?_setCell_far W p ⟨Bs, 0, none⟩ v h).trans x

theorem boxed_keptN {W W' : World} {row : Option Nat} {B : Nat} {t : TypeId} {v : Value} (h : Boxed W B t v) (hg : W.grownBy W' row)
    (hr : ∀ r, row = some r → ∃ o : Obj, W.heap[r]? = some o ∧ o.isCells = false) : Boxed W' B t v :=
  h.kept hg fun e => by
    obtain ⟨o, ho, hc⟩ := hr B e.symm
    rw [show W.heap[B]? = _ from h] at ho; cases ho; cases hc
theorem boxed_kp {W W' : World} {B : Nat} {t : TypeId} {v : Value} (h : Boxed W B t v) (hk : Kp W W') : Boxed W' B t v :=
  (hk.block B h.lt).trans h
theorem keeps_kp {W W' : World} (h : Kp W W') : KeepsOthers W W' := ⟨h.size, fun k o hk _ => (h.block k (Array.getElem?_eq_some_iff.1 hk).1).trans hk⟩
theorem boxed_far {W : World} {B : Nat} {t : TypeId} {v : Value} (h : Boxed W B t v) {p : Addr} (hp : B ≠ p.block) (u : Value) : Boxed (W.setCell p u) B t v := by
  unfold Boxed
  rw [heap_setCell_other W p B u hp]; exact h
theorem boxed_same {W : World} {B : Nat} {t : TypeId} {v : Value} (h : Boxed W B t v) : W.setCell ⟨B, 0, none⟩ v = W := by
  have hl := h.lt
  have e : (W.setCell ⟨B, 0, none⟩ v).heap = W.heap := by
    refine Array.ext (by simp [World.setCell]) fun i h1 h2 => ?_
    by_cases e : i = B
    · subst e
      have h3 := Boxed.set v h
      have h4 : W.heap[i]? = some (.cells #[v] t (0, 0)) := h
      have h5 : (W.setCell ⟨i, 0, none⟩ v).heap[i]? = some (.cells #[v] t (0, 0)) := h3
      rw [Array.getElem?_eq_getElem h1] at h5
      rw [Array.getElem?_eq_getElem h2] at h4
      exact Option.some.inj (h5.trans h4.symm)
    · have h3 := heap_setCell_other W ⟨B, 0, none⟩ i v e
      rw [Array.getElem?_eq_getElem h1, Array.getElem?_eq_getElem h2] at h3
      exact Option.some.inj h3
  show { W with heap := (W.setCell ⟨B, 0, none⟩ v).heap } = W
  rw [e]
theorem boxed_drewN {W : World} {B : Nat} {t : TypeId} {v : Value} (h : Boxed W B t v) (n : Nat) : Boxed (W.drewN n) B t v := h

end Go.Proofs.Ytologiinkilooaa

/- Contracts of package minors. -/
namespace Go.Proofs.Ytologiinkilooaa
open Go.ChangeShapes Go.WideShapes Go.ChangeAt Go.RowKit Go.Shelf
set_option linter.unusedVariables false
attribute [local go_sem] Oper.semAt_some

section
variable {ops : Array Oper} {o : Oper} {a : Act} {w : World} {K : Act → World → Prop} {Q : Exit → Act → World → Prop}
theorem step_wanted {E : Prop} (hgd : o.guard = Option.none) (h : Oper.wp Try.prog o a w K Q) :
    if Region.wanted o (yielded ops a.tmps) = true then Oper.wp Try.prog o a w K Q else E := by
  have hw : Region.wanted o (yielded ops a.tmps) = true := by simp [Region.wanted, hgd]
  rw [if_pos hw]; exact h
end

/-- What is the call's own abides the turn of what is no cells. -/
theorem ownsRow_keptN {W W' : World} {row : Option Nat} {B n : Nat} {e : TypeId} {v : Value} {xs : List Value} (h : W.ownsRow B e 1 v n xs) (hg : W.grownBy W' row)
    (hr : ∀ r, row = some r → ∃ o : Obj, W.heap[r]? = some o ∧ o.isCells = false) : W'.ownsRow B e 1 v n xs := by
  refine h.kept hg ?_
  rcases h.2 with ⟨rfl, _⟩ | ⟨g, cap, cur, rfl, _, hgb, _⟩
  · exact .inl rfl
  · refine .inr fun e' => ?_
    obtain ⟨o, ho, hc⟩ := hr g (by simpa [Value.ownBlock] using e'.symm)
    rw [hgb] at ho; cases ho; cases hc
theorem ownM_keptN {W W' : World} {row : Option Nat} {B : Nat} {v : Value} {G C : Nat → Nat} {m : List (List Int)} (h : OwnM W B v G C m) (hg : W.grownBy W' row)
    (hr : ∀ r, row = some r → ∃ o : Obj, W.heap[r]? = some o ∧ o.isCells = false) : OwnM W' B v G C m :=
  ⟨ownsRow_keptN h.top hg hr, fun i hi => ownsRow_keptN (h.row i hi) hg hr, h.apart⟩
/-- A store into a variable's box leaves the rows and their heads. -/
theorem ownM_box {W : World} {B Bx : Nat} {v u u' : Value} {G C : Nat → Nat} {m : List (List Int)} (h : OwnM W B v G C m) (hb : Boxed W Bx 22 u) : OwnM (W.setCell ⟨Bx, 0, none⟩ u') B v G C m := by
  refine ⟨World.ownsRow.kept h.top (grownBy_setCell' W Bx u') (.inr (hb.not_row (by decide) h.top).symm), fun i hi => own_store (h.row i hi) (a := ⟨Bx, 0, none⟩) (fun e => ?_) u', h.apart⟩
  obtain ⟨cur, hh, _⟩ := own_row (h.row i hi)
  have h2 : W.heap[Bx]? = some (.cells #[u] 22 (0, 0)) := hb
  rw [show G i = Bx from e, h2] at hh
  cases hh

/-- The rows x of a list without place j. -/
def mrows (n p j : Nat) (f : Nat → Nat → Fp.F) (pre : List Nat) : List (List Int) := pre.map fun x => Mx.row p fun b => ((f (x % n) (Mx.sk j b)).val : Int)
theorem mrows_len (n p j : Nat) (f : Nat → Nat → Fp.F) (pre : List Nat) : (mrows n p j f pre).length = pre.length := by simp [mrows]
theorem mrows_snoc (n p j : Nat) (f : Nat → Nat → Fp.F) (pre : List Nat) (x : Nat) : mrows n p j f (pre ++ [x]) = mrows n p j f pre ++ [Mx.row p fun b => ((f (x % n) (Mx.sk j b)).val : Int)] := by simp [mrows]
theorem mrows_all {n p i j : Nat} (f : Nat → Nat → Fp.F) (hn : n = p + 1) (hi : i ≤ p) : mrows n p j f (kept i n) = Mx.matl p p (wo f i j) := by
  unfold mrows kept
  rw [hn, ct_end hi, List.map_map]
  unfold Mx.matl Mx.tab
  refine List.map_congr_left fun a ha => ?_
  have ha' := List.mem_range.1 ha
  show Mx.row p _ = Mx.row p _
  refine Mx.row_ext fun b _ => ?_
  show ((f (Mx.sk i a % (p + 1)) (Mx.sk j b)).val : Int) = ((f (Mx.sk i a) (Mx.sk j b)).val : Int)
  rw [Nat.mod_eq_of_lt (Mx.sk_lt ha')]

/-- Between two rounds: in its variable lie the rows so far; the row and the column that are left out are as they were. -/
structure MinAt (w : World) (n p i j : Nat) (f : Nat → Nat → Fp.F) (pre : List Nat) (W : World) : Prop where
  rest : ∃ v G C, Boxed W (w.heap.size + 1) 22 v ∧ OwnM W w.heap.size v G C (mrows n p j f pre)
  col : Boxed W w.heap.size 3 (.int .i64 (j : Int))
  row : Boxed W (w.heap.size + 3) 3 (.int .i64 (i : Int))
theorem minAt_own (w : World) (n p i j : Nat) (f : Nat → Nat → Fp.F) : Go.Own (MinAt w n p i j f) := fun s W W' row hs hg hr => by
  obtain ⟨v, G, C, h1, h2⟩ := hs.rest
  exact ⟨⟨v, G, C, boxed_keptN h1 hg hr, ownM_keptN h2 hg hr⟩, boxed_keptN hs.col hg hr, boxed_keptN hs.row hg hr⟩

theorem min_fin {w W wd w4 w6 : World} {n p i j B x vg vc : Nat} {f : Nat → Nat → Fp.F} {pre : List Nat} {v : Value} {G C G' C' : Nat → Nat} {tmp : Obj} (hw : Below w.heap.size w W) (hkd : Kp W wd) (k4 : Kp wd w4)
    (hv : Boxed W (w.heap.size + 1) 22 v) (ho : OwnM W w.heap.size v G C (mrows n p j f pre)) (hc : Boxed W w.heap.size 3 (.int .i64 (j : Int))) (hr : Boxed W (w.heap.size + 3) 3 (.int .i64 (i : Int)))
    (hg : (w4.alloc tmp).grownBy w6 v.ownBlock) (h6 : OwnM w6 w.heap.size (.slice (some ⟨vg, 0, none⟩) (pre.length + 1) vc) G' C' (mrows n p j f pre ++ [Mx.row p fun b => ((f (x % n) (Mx.sk j b)).val : Int)])) :
    KeepsFrom B W (w6.setCell ⟨w.heap.size + 1, 0, none⟩ (.slice (some ⟨vg, 0, none⟩) (pre.length + 1) vc)) ∧ KeepB w.heap.size (w.heap.size + 3) (i : Int) W (w6.setCell ⟨w.heap.size + 1, 0, none⟩ (.slice (some ⟨vg, 0, none⟩) (pre.length + 1) vc)) ∧
      MinAt w n p i j f (pre ++ [x]) (w6.setCell ⟨w.heap.size + 1, 0, none⟩ (.slice (some ⟨vg, 0, none⟩) (pre.length + 1) vc)) ∧ Below w.heap.size w (w6.setCell ⟨w.heap.size + 1, 0, none⟩ (.slice (some ⟨vg, 0, none⟩) (pre.length + 1) vc)) := by
  have hk4 := hkd.trans k4
  have hs := hw.size
  have hv4 := boxed_kp hv hk4
  have hrow4 := (ho.kp hk4).top
  have hl := hv4.lt
  obtain ⟨b6, b7, _, ko, be⟩ := hv4.appended (by decide) hrow4 (by omega) (Nat.le_succ _) h6.top hg
  have hb : Below w.heap.size W (w6.setCell ⟨w.heap.size + 1, 0, none⟩ (.slice (some ⟨vg, 0, none⟩) (pre.length + 1) vc)) := (hk4.mono hs).trans be
  have far : ∀ (q : Nat) (z : Int), q ≠ w.heap.size + 1 → Boxed W q 3 (.int .i64 z) → Boxed (w6.setCell ⟨w.heap.size + 1, 0, none⟩ (.slice (some ⟨vg, 0, none⟩) (pre.length + 1) vc)) q 3 (.int .i64 z) := fun q z ne hq => by
    have h4 := (boxed_kp hq hk4).alloc tmp
    have h6' := h4.kept hg (h4.not_row (by decide) (hrow4.alloc tmp))
    exact (Below.heap_setCell w6 ⟨w.heap.size + 1, 0, none⟩ _ q ne).trans h6'
  refine ⟨((keeps_kp hk4).trans ko).from B, ⟨hb, fun _ => (far _ _ (by omega) hr).cell⟩, ⟨⟨_, G', C', b7, ?_⟩, far _ _ (by omega) hc, far _ _ (by omega) hr⟩, hw.trans hb⟩
  rw [mrows_snoc]
  exact ownM_box h6 b6


set_option maxRecDepth 100000 in
theorem minor_one (A : Option Addr) (d : Nat) (i j : Int) (w : World) :
    Calls Try.prog 45 #[.slice A 1 d, .int .i64 i, .int .i64 j] w fun e w' => e = .returned (.tuple #[.int .i64 1, .nilIface]) ∧ Kp w w' := by
  go_enter Try.func45, Try.ntmps45
  go_wp2_with fail
  go_ret2
  exact ⟨rfl, (Kp.rfl' w).new _⟩

/-- The heads of the rows, by their numbers. -/
theorem LiesM.heads {w : World} {A : Option Addr} {r c : Nat} {f : Nat → Nat → Fp.F} (h : LiesM w A (Mx.matl r c f)) :
    ∃ (R : Nat → Option Addr) (D : Nat → Nat), ∀ i, i < r → ∃ ad, A = some ad ∧ ad.block < w.heap.size ∧ w.cell? (ad.add i) = some (.slice (R i) c (D i)) ∧ Lies w (R i) (Mx.row c fun b => ((f i b).val : Int)) := by
  have h1 : ∀ i, ∃ q : Option Addr × Nat, i < r → ∃ ad, A = some ad ∧ ad.block < w.heap.size ∧ w.cell? (ad.add i) = some (.slice q.1 c q.2) ∧ Lies w q.1 (Mx.row c fun b => ((f i b).val : Int)) := fun i => by
    by_cases hi : i < r
    · obtain ⟨ad, A', cap, e, hl, hc, _, hr⟩ := h.row hi
      exact ⟨(A', cap), fun _ => ⟨ad, e, hl, hc, hr⟩⟩
    · exact ⟨(Option.none, 0), fun h' => absurd h' hi⟩
  obtain ⟨q, hq⟩ := Classical.axiomOfChoice h1
  exact ⟨fun i => (q i).1, fun i => (q i).2, hq⟩

set_option maxRecDepth 100000 in
set_option maxHeartbeats 4000000 in
theorem minor_more (A : Option Addr) (f : Nat → Nat → Fp.F) (n p i j d : Nat) (w : World) (ha : LiesM w A (Mx.matl n n f)) (hn : n = p + 1) (hi : i ≤ p) (hj : j ≤ p) (hp0 : 0 < p) (hp : p ≤ 5) :
    Calls Try.prog 45 #[.slice A n d, .int .i64 (i : Int), .int .i64 (j : Int)] w fun e w' => e = .returned (.tuple #[.int .i64 ((Mx.dt p (wo f i j)).val : Int), .nilIface]) ∧ Kp w w' := by
  obtain ⟨R, D, HR⟩ := ha.heads
  have HR := Lib.hid HR
  have OF := Lib.hid (fun A' d' w' h => Of_ok A' (wo f i j) p d' w' h hp0 hp)
  have ALL := Lib.hid (mrows_all (j := j) f hn hi)
  have e1 : ((n : Int) == 1) = false := by rw [beq_eq_false_iff_ne]; omega
  have HN := Lib.hid hn
  have hn6 : n ≤ 6 := by omega
  have hn0 : 0 < n := by omega
  have hi6 : i ≤ 1000 := by omega
  have hj6 : j ≤ 1000 := by omega
  have HJ := Lib.hid hj
  have HP0 := Lib.hid hp0
  generalize Mx.dt p (wo f i j) = dd at *
  clear ha hn hi hj hp0 hp
  refine callsIn_wide.1 (callsIn_of_wp_marks (F := Fence.wide) (n := 9) Try.func45 rfl trivial ?_ rfl)
  simp only [Try.ntmps45, List.size_toArray, List.length_cons, List.length_nil, Nat.reduceAdd, Nat.reduceSub, Array.replicate_succ, Array.replicate_zero, List.push_toArray, List.append_toArray, List.nil_append, List.cons_append]
  refine wpIn_wide.2 ?_
  go_wp2_with fail
  refine (othersM_any A n d (i : Int) _).mono ?_; rintro e w' ⟨rfl, hw'⟩
  have b0 : Boxed (w.alloc (.cells #[.int .i64 (j : Int)] 3)) w.heap.size 3 (.int .i64 (j : Int)) := Boxed.new w _ _
  have b1 : Boxed ((w.alloc (.cells #[.int .i64 (j : Int)] 3)).alloc (.cells #[.slice none 0 0] 22)) (w.heap.size + 1) 22 (.slice none 0 0) := by
    have := Boxed.new (w.alloc (.cells #[.int .i64 (j : Int)] 3)) 22 (.slice none 0 0)
    rwa [World.size_alloc] at this
  obtain ⟨w2, hw2⟩ : ∃ x, x = (w.alloc (.cells #[.int .i64 (j : Int)] 3)).alloc (.cells #[.slice none 0 0] 22) := ⟨_, rfl⟩
  have s2 : w2.heap.size = w.heap.size + 2 := by rw [hw2]; simp
  have k2 : Kp w w2 := by rw [hw2]; exact ((Kp.rfl' w).new _).new _
  have c0 : Boxed w2 w.heap.size 3 (.int .i64 (j : Int)) := by rw [hw2]; exact b0.alloc _
  rw [← hw2] at b1 hw' ⊢
  clear hw2 b0
  have d0 : Boxed (w2.alloc (.cells #[.slice A n d] 22)) (w.heap.size + 2) 22 (.slice A n d) := by rw [← s2]; exact Boxed.new w2 _ _
  have d1 : Boxed w' (w.heap.size + 3) 3 (.int .i64 (i : Int)) := by
    rw [hw']
    have := Boxed.new (w2.alloc (.cells #[.slice A n d] 22)) 3 (.int .i64 (i : Int))
    rwa [World.size_alloc, s2] at this
  have k3 : Kp w2 w' := by rw [hw']; exact ((Kp.rfl' w2).new _).new _
  have s3 : w'.heap.size = w.heap.size + 4 := by rw [hw']; simp [s2]
  have d2 : Boxed w' (w.heap.size + 2) 22 (.slice A n d) := by rw [hw']; exact d0.alloc _
  have kw := k2.trans k3
  have M0 : MinAt w n p i j f [] w' := ⟨⟨_, fun _ => 0, fun _ => 0, boxed_kp b1 k3, ownM_none _ _ _ _⟩, boxed_kp c0 k3, d1⟩
  rw [s2]
  clear hw' d0 b1 c0 k2 k3
  go_wp2_with fail
  refine (wpIn_wide (n := 9)).1 (wpIn_rangeFunc_ownG (F := Fence.wide) rfl (Nat.le_add_left 1 8) (gf := 88) (lb := #[.pointer (some ⟨w.heap.size + 2, 0, none⟩), .pointer (some ⟨w.heap.size + 3, 0, none⟩)]) rfl trivial (enters_of Try.func88 (by kernel_rfl) rfl)
    (othersM_stops 8 (Nat.le_add_left 1 7) (w.heap.size + 2) (w.heap.size + 3) w.heap.size n i d A n R D (by omega) hi6 w' (by omega) (by omega) (by omega) d2.cell d1.cell (fun x hx => by
      obtain ⟨ad, e, h1, h2, _⟩ := HR.out x hx
      exact ⟨ad, e, h1, (kw.cell (p := ad.add x) (by rw [block_add]; exact h1)).trans h2⟩))
    keepB_t (keepB_b (by omega)) (Below.refl _ _) (fun _ => rfl)
    (fun pre W => MinAt w n p i j f pre W ∧ Below w.heap.size w W)
    (fun _ _ _ => False)
    (OwnFrom.and (Go.Own.from (minAt_own w n p i j f) _) (ownFrom_below (Nat.le_refl _) (by omega)))
    (fun _ _ _ _ _ hs _ _ => hs)
    ⟨M0, kw⟩
    (fun x => { tmps := #[.slice A n d, .int .i64 (i : Int), .int .i64 (j : Int), undef, undef, .pointer (some ⟨w.heap.size, 0, none⟩), .int .i64 0, .nilIface, .pointer (some ⟨w.heap.size + 1, 0, none⟩), .slice (R (x % n)) n (D (x % n)), .slice A n d, .int .i64 (n : Int), .bool false, .slice A n d, .int .i64 (i : Int), .func (.func 88) #[] #[.pointer (some ⟨w.heap.size + 2, 0, none⟩), .pointer (some ⟨w.heap.size + 3, 0, none⟩)], .slice (R (x % n)) n (D (x % n)), undef, undef, undef, undef, undef, undef, undef, undef, undef, undef, undef], defers := [] }) ?assign ?body ?done ?stop)
  case assign =>
    intro l x W K hK
    unfold headAt
    gi_wp2
    exact hK
  case body =>
    rintro l pre x W ⟨⟨⟨v, G, C, hv, ho⟩, hcj, hri⟩, hB⟩ hlt
    have hy : x % n < n := Nat.mod_lt _ hn0
    obtain ⟨ad, _, hadl, _, lr⟩ := HR.out (x % n) hy
    obtain ⟨wd, hwd⟩ : ∃ x, x = W.drew := ⟨_, rfl⟩
    have kd : Kp W wd := by rw [hwd]; exact (Kp.rfl' W).drewN 1
    have FIN := Lib.hid (fun (w4 w6 : World) (tmp : Obj) (vg vc : Nat) (G' C' : Nat → Nat) (k4 : Kp wd w4) (hg : (w4.alloc tmp).grownBy w6 v.ownBlock) (h6 : OwnM w6 w.heap.size (.slice (some ⟨vg, 0, none⟩) (pre.length + 1) vc) G' C' (mrows n p j f pre ++ [Mx.row p fun b => ((f (x % n) (Mx.sk j b)).val : Int)])) =>
      min_fin (B := w'.heap.size) hB kd k4 hv ho hcj hri hg h6)
    have hkw := hB.trans (kd.mono hB.size)
    have SK := Lib.hid (fun (w4 : World) (k : Kp wd w4) => (show w4.cell? ⟨w.heap.size + 1, 0, none⟩ = some v ∧ w4.cell? ⟨w.heap.size, 0, none⟩ = some (.int .i64 (j : Int)) from
      ⟨(boxed_kp hv (kd.trans k)).cell, (boxed_kp hcj (kd.trans k)).cell⟩))
    have OT := Lib.hid (fun w4 => others_any (R (x % n)) n (D (x % n)) (j : Int) w4)
    have L3 := Lib.hid (fun (w3 : World) (h : w3 = (wd.alloc (.cells #[.slice (R (x % n)) n (D (x % n))] 24)).alloc (.cells #[.int .i64 (j : Int)] 3)) =>
      (show Kp wd w3 ∧ w3.cell? ⟨wd.heap.size, 0, none⟩ = some (.slice (R (x % n)) n (D (x % n))) ∧ w3.cell? ⟨wd.heap.size + 1, 0, none⟩ = some (.int .i64 (j : Int)) by
        subst h
        refine ⟨((Kp.rfl' wd).new _).new _, ((Boxed.new wd 24 (.slice (R (x % n)) n (D (x % n)))).alloc _).cell, ?_⟩
        have := (Boxed.new (wd.alloc (.cells #[.slice (R (x % n)) n (D (x % n))] 24)) 3 (.int .i64 (j : Int))).cell
        rwa [World.size_alloc] at this))
    have COL := Lib.hid (fun (w3 : World) (k : Kp wd w3) (h1 : w3.cell? ⟨wd.heap.size, 0, none⟩ = some (.slice (R (x % n)) n (D (x % n)))) (h2 : w3.cell? ⟨wd.heap.size + 1, 0, none⟩ = some (.int .i64 (j : Int))) =>
      (show Calls Try.prog 69 #[.func (.func 90) #[] #[.pointer (some ⟨wd.heap.size, 0, none⟩), .pointer (some ⟨wd.heap.size + 1, 0, none⟩)]] w3 fun e w4 =>
          ∃ g gc, e = .returned (.slice (some ⟨g, 0, none⟩) p gc) ∧ Own w4 w.heap.size (.slice (some ⟨g, 0, none⟩) p gc) (Mx.row p fun b => ((f (x % n) (Mx.sk j b)).val : Int)) ∧ Kp wd w4 ∧ ∀ a, a < (mrows n p j f pre).length → G a ≠ g from
        (collect_any wd.heap.size (wd.heap.size + 1) n j (D (x % n)) (R (x % n)) _ (by omega) hj6 w3 h1 h2 (lr.keep (Below.trans hkw (k.mono hkw.size)))).mono fun e w4 ⟨u, he, hu, hk⟩ => by
          rw [show ct j n = p by rw [HN.out]; exact ct_end HJ.out] at hu
          obtain ⟨g, gc, rfl, hg, _⟩ := own_some hu (by rw [Mx.len_row]; exact HP0.out)
          rw [Mx.len_row] at he hu
          have hsz := k.size
          have hsz2 := hkw.size
          exact ⟨g, gc, he, hu.from (by omega), k.trans hk, fun a hal => by have := (ho.lt hal).2; have := kd.size; omega⟩))
    have PM := Lib.hid (fun (w4 : World) (k : Kp wd w4) (o : Obj) => ((ho.kp kd).kp k).new o)
    have HLE := Lib.hid (show (mrows n p j f pre).length + 1 ≤ 1000000 by rw [mrows_len]; omega)
    have HSZ := Lib.hid (fun (w4 : World) (k : Kp wd w4) (o : Obj) => (show w.heap.size ≤ (w4.alloc o).heap.size from Nat.le_trans hkw.size (Nat.le_trans k.size ((Kp.rfl' w4).new o).size)))
    have OS := Lib.hid (fun (v' : Value) (w6 : World) (G' C' : Nat → Nat) (h : OwnM w6 w.heap.size v' G' C' (mrows n p j f pre ++ [Mx.row p fun b => ((f (x % n) (Mx.sk j b)).val : Int)])) =>
      (show ∃ vg vc, v' = .slice (some ⟨vg, 0, none⟩) (pre.length + 1) vc from by
        have ht := h.top
        rw [List.length_append, List.length_singleton, mrows_len] at ht
        exact ownsRow_succ ht))
    have BX := Lib.hid (fun (w4 w6 : World) (tmp : Obj) (k : Kp wd w4) (hg : (w4.alloc tmp).grownBy w6 v.ownBlock) => (show w6.cell? ⟨w.heap.size + 1, 0, none⟩ = some v ∧ w6.frozen? ⟨w.heap.size + 1, 0, none⟩ = false from by
      have b4 := (boxed_kp hv (kd.trans k)).alloc tmp
      have b6 := b4.kept hg (b4.not_row (by decide) (((ho.kp kd).kp k).new tmp).top)
      exact ⟨b6.cell, b6.frozen⟩))
    generalize x % n = y at *
    clear hv ho hcj hri hB kd hkw lr hadl
    refine wpIn_block ?_
    refine wpIn_region_any (by kernel_rfl) (any_in (by kernel_rfl) _ _ _ _ ?_)
    change wpAny _ _ _ _ _ _ _ (World.drew W)
    rw [← hwd]
    clear hwd
    refine wpAny_take (i := 1) (v := .slice (R y) n (D y)) rfl (by kernel_rfl) (by kernel_rfl) (by kernel_rfl) (fun _ _ _ h => by cases h.1) (Or.inl ⟨by rfl, ?_⟩) ?_
    · intro w; go_simp
    try dsimp only [Act.put, List.setIfInBounds_toArray, List.set_cons_zero, List.set_cons_succ]
    refine wpAny_ready (rs := [0, 2]) (by kernel_rfl) (by simp) ?_
    refine AllReady.cons rfl (fun K hK => ?_) (AllReady.cons rfl (fun K hK => ?_) AllReady.nil)
    · have HK := Lib.hid hK
      clear hK
      have hcl := (SK.out _ (Kp.rfl' _)).1
      go_simp
      clear hcl
      refine HK.out _ _ ?_
      (try clear HK K); try dsimp only [Act.put, List.setIfInBounds_toArray, List.set_cons_zero, List.set_cons_succ]
      refine wpAny_ready (rs := [2]) (by kernel_rfl) (by simp) ?_
      refine AllReady.cons rfl (fun K hK => ?_) AllReady.nil
      · have HK := Lib.hid hK
        clear hK
        have hcl := (SK.out _ (Kp.rfl' _)).2
        go_simp
        clear hcl
        refine HK.out _ _ ?_
        (try clear HK K); try dsimp only [Act.put, List.setIfInBounds_toArray, List.set_cons_zero, List.set_cons_succ]
        refine wpAny_ready (rs := [3]) (by kernel_rfl) (by simp) ?_
        refine AllReady.cons rfl (fun K hK => ?_) AllReady.nil
        · have HK := Lib.hid hK
          clear hK
          go_simp
          go_at_call 70; (with_reducible refine (OT.out _).mono ?_); rintro e w3 ⟨rfl, hw3⟩
          obtain ⟨k3, c30, c31⟩ := L3.out w3 hw3
          clear hw3
          go_wp2_with fail
          refine HK.out _ _ ?_
          (try clear HK K); try dsimp only [Act.put, List.setIfInBounds_toArray, List.set_cons_zero, List.set_cons_succ]
          refine wpAny_ready (rs := [4]) (by kernel_rfl) (by simp) ?_
          refine AllReady.cons rfl (fun K hK => ?_) AllReady.nil
          · have HK := Lib.hid hK
            clear hK
            go_simp
            go_at_call 69; (with_reducible refine (COL.out w3 k3 c30 c31).mono ?_); rintro e w4 ⟨g, gc, rfl, o4, k4, hap⟩
            go_wp2_with fail
            refine HK.out _ _ ?_
            (try clear HK K); try dsimp only [Act.put, List.setIfInBounds_toArray, List.set_cons_zero, List.set_cons_succ]
            refine wpAny_ready (rs := [5]) (by kernel_rfl) (by simp) ?_
            refine AllReady.cons rfl (fun K hK => ?_) AllReady.nil
            · have HK := Lib.hid hK
              clear hK
              go_simp
              refine HK.out _ _ ?_
              (try clear HK K); try dsimp only [Act.put, List.setIfInBounds_toArray, List.set_cons_zero, List.set_cons_succ]
              refine wpAny_ready (rs := [6]) (by kernel_rfl) (by simp) ?_
              refine AllReady.cons rfl (fun K hK => ?_) AllReady.nil
              · have HK := Lib.hid hK
                clear hK
                refine step_wanted rfl (wp_pushM _ _ rfl w.heap.size v G C _ _ g p gc w4.heap.size 1 (Mx.len_row _ _) rfl rfl (PM.out w4 k4 _) (cell_made _ _ _ _ 0 rfl) (o4.new _) hap HLE.out (HSZ.out w4 k4 _) fun v' w6 G' C' hom hgr => ?_)
                obtain ⟨vg, vc, rfl⟩ := OS.out v' w6 G' C' hom
                obtain ⟨hc6, hf6⟩ := BX.out w4 w6 _ k4 hgr
                refine HK.out _ _ ?_
                (try clear HK K); try dsimp only [Act.put, List.setIfInBounds_toArray, List.set_cons_zero, List.set_cons_succ]
                refine wpAny_ready (rs := [7]) (by kernel_rfl) (by simp) ?_
                refine AllReady.cons rfl (fun K hK => ?_) AllReady.nil
                · have HK := Lib.hid hK
                  clear hK
                  go_simp
                  refine HK.out _ _ ?_
                  (try clear HK K); try dsimp only [Act.put, List.setIfInBounds_toArray, List.set_cons_zero, List.set_cons_succ]
                  refine wpAny_done (by kernel_rfl) ?_ _
                  exact ⟨rfl, FIN.out w4 w6 _ _ _ _ _ k4 hgr hom⟩
    · have HK := Lib.hid hK
      clear hK
      have hcl := (SK.out _ (Kp.rfl' _)).2
      go_simp
      clear hcl
      refine HK.out _ _ ?_
      (try clear HK K); try dsimp only [Act.put, List.setIfInBounds_toArray, List.set_cons_zero, List.set_cons_succ]
      refine wpAny_ready (rs := [0, 3]) (by kernel_rfl) (by simp) ?_
      refine AllReady.cons rfl (fun K hK => ?_) (AllReady.cons rfl (fun K hK => ?_) AllReady.nil)
      · have HK := Lib.hid hK
        clear hK
        have hcl := (SK.out _ (Kp.rfl' _)).1
        go_simp
        clear hcl
        refine HK.out _ _ ?_
        (try clear HK K); try dsimp only [Act.put, List.setIfInBounds_toArray, List.set_cons_zero, List.set_cons_succ]
        refine wpAny_ready (rs := [3]) (by kernel_rfl) (by simp) ?_
        refine AllReady.cons rfl (fun K hK => ?_) AllReady.nil
        · have HK := Lib.hid hK
          clear hK
          go_simp
          go_at_call 70; (with_reducible refine (OT.out _).mono ?_); rintro e w3 ⟨rfl, hw3⟩
          obtain ⟨k3, c30, c31⟩ := L3.out w3 hw3
          clear hw3
          go_wp2_with fail
          refine HK.out _ _ ?_
          (try clear HK K); try dsimp only [Act.put, List.setIfInBounds_toArray, List.set_cons_zero, List.set_cons_succ]
          refine wpAny_ready (rs := [4]) (by kernel_rfl) (by simp) ?_
          refine AllReady.cons rfl (fun K hK => ?_) AllReady.nil
          · have HK := Lib.hid hK
            clear hK
            go_simp
            go_at_call 69; (with_reducible refine (COL.out w3 k3 c30 c31).mono ?_); rintro e w4 ⟨g, gc, rfl, o4, k4, hap⟩
            go_wp2_with fail
            refine HK.out _ _ ?_
            (try clear HK K); try dsimp only [Act.put, List.setIfInBounds_toArray, List.set_cons_zero, List.set_cons_succ]
            refine wpAny_ready (rs := [5]) (by kernel_rfl) (by simp) ?_
            refine AllReady.cons rfl (fun K hK => ?_) AllReady.nil
            · have HK := Lib.hid hK
              clear hK
              go_simp
              refine HK.out _ _ ?_
              (try clear HK K); try dsimp only [Act.put, List.setIfInBounds_toArray, List.set_cons_zero, List.set_cons_succ]
              refine wpAny_ready (rs := [6]) (by kernel_rfl) (by simp) ?_
              refine AllReady.cons rfl (fun K hK => ?_) AllReady.nil
              · have HK := Lib.hid hK
                clear hK
                refine step_wanted rfl (wp_pushM _ _ rfl w.heap.size v G C _ _ g p gc w4.heap.size 1 (Mx.len_row _ _) rfl rfl (PM.out w4 k4 _) (cell_made _ _ _ _ 0 rfl) (o4.new _) hap HLE.out (HSZ.out w4 k4 _) fun v' w6 G' C' hom hgr => ?_)
                obtain ⟨vg, vc, rfl⟩ := OS.out v' w6 G' C' hom
                obtain ⟨hc6, hf6⟩ := BX.out w4 w6 _ k4 hgr
                refine HK.out _ _ ?_
                (try clear HK K); try dsimp only [Act.put, List.setIfInBounds_toArray, List.set_cons_zero, List.set_cons_succ]
                refine wpAny_ready (rs := [7]) (by kernel_rfl) (by simp) ?_
                refine AllReady.cons rfl (fun K hK => ?_) AllReady.nil
                · have HK := Lib.hid hK
                  clear hK
                  go_simp
                  refine HK.out _ _ ?_
                  (try clear HK K); try dsimp only [Act.put, List.setIfInBounds_toArray, List.set_cons_zero, List.set_cons_succ]
                  refine wpAny_done (by kernel_rfl) ?_ _
                  exact ⟨rfl, FIN.out w4 w6 _ _ _ _ _ k4 hgr hom⟩
      · have HK := Lib.hid hK
        clear hK
        go_simp
        go_at_call 70; (with_reducible refine (OT.out _).mono ?_); rintro e w3 ⟨rfl, hw3⟩
        obtain ⟨k3, c30, c31⟩ := L3.out w3 hw3
        clear hw3
        go_wp2_with fail
        refine HK.out _ _ ?_
        (try clear HK K); try dsimp only [Act.put, List.setIfInBounds_toArray, List.set_cons_zero, List.set_cons_succ]
        refine wpAny_ready (rs := [0, 4]) (by kernel_rfl) (by simp) ?_
        refine AllReady.cons rfl (fun K hK => ?_) (AllReady.cons rfl (fun K hK => ?_) AllReady.nil)
        · have HK := Lib.hid hK
          clear hK
          have hcl := (SK.out _ k3).1
          go_simp
          clear hcl
          refine HK.out _ _ ?_
          (try clear HK K); try dsimp only [Act.put, List.setIfInBounds_toArray, List.set_cons_zero, List.set_cons_succ]
          refine wpAny_ready (rs := [4]) (by kernel_rfl) (by simp) ?_
          refine AllReady.cons rfl (fun K hK => ?_) AllReady.nil
          · have HK := Lib.hid hK
            clear hK
            go_simp
            go_at_call 69; (with_reducible refine (COL.out w3 k3 c30 c31).mono ?_); rintro e w4 ⟨g, gc, rfl, o4, k4, hap⟩
            go_wp2_with fail
            refine HK.out _ _ ?_
            (try clear HK K); try dsimp only [Act.put, List.setIfInBounds_toArray, List.set_cons_zero, List.set_cons_succ]
            refine wpAny_ready (rs := [5]) (by kernel_rfl) (by simp) ?_
            refine AllReady.cons rfl (fun K hK => ?_) AllReady.nil
            · have HK := Lib.hid hK
              clear hK
              go_simp
              refine HK.out _ _ ?_
              (try clear HK K); try dsimp only [Act.put, List.setIfInBounds_toArray, List.set_cons_zero, List.set_cons_succ]
              refine wpAny_ready (rs := [6]) (by kernel_rfl) (by simp) ?_
              refine AllReady.cons rfl (fun K hK => ?_) AllReady.nil
              · have HK := Lib.hid hK
                clear hK
                refine step_wanted rfl (wp_pushM _ _ rfl w.heap.size v G C _ _ g p gc w4.heap.size 1 (Mx.len_row _ _) rfl rfl (PM.out w4 k4 _) (cell_made _ _ _ _ 0 rfl) (o4.new _) hap HLE.out (HSZ.out w4 k4 _) fun v' w6 G' C' hom hgr => ?_)
                obtain ⟨vg, vc, rfl⟩ := OS.out v' w6 G' C' hom
                obtain ⟨hc6, hf6⟩ := BX.out w4 w6 _ k4 hgr
                refine HK.out _ _ ?_
                (try clear HK K); try dsimp only [Act.put, List.setIfInBounds_toArray, List.set_cons_zero, List.set_cons_succ]
                refine wpAny_ready (rs := [7]) (by kernel_rfl) (by simp) ?_
                refine AllReady.cons rfl (fun K hK => ?_) AllReady.nil
                · have HK := Lib.hid hK
                  clear hK
                  go_simp
                  refine HK.out _ _ ?_
                  (try clear HK K); try dsimp only [Act.put, List.setIfInBounds_toArray, List.set_cons_zero, List.set_cons_succ]
                  refine wpAny_done (by kernel_rfl) ?_ _
                  exact ⟨rfl, FIN.out w4 w6 _ _ _ _ _ k4 hgr hom⟩
        · have HK := Lib.hid hK
          clear hK
          go_simp
          go_at_call 69; (with_reducible refine (COL.out w3 k3 c30 c31).mono ?_); rintro e w4 ⟨g, gc, rfl, o4, k4, hap⟩
          go_wp2_with fail
          refine HK.out _ _ ?_
          (try clear HK K); try dsimp only [Act.put, List.setIfInBounds_toArray, List.set_cons_zero, List.set_cons_succ]
          refine wpAny_ready (rs := [0, 5]) (by kernel_rfl) (by simp) ?_
          refine AllReady.cons rfl (fun K hK => ?_) (AllReady.cons rfl (fun K hK => ?_) AllReady.nil)
          · have HK := Lib.hid hK
            clear hK
            have hcl := (SK.out _ k4).1
            go_simp
            clear hcl
            refine HK.out _ _ ?_
            (try clear HK K); try dsimp only [Act.put, List.setIfInBounds_toArray, List.set_cons_zero, List.set_cons_succ]
            refine wpAny_ready (rs := [5]) (by kernel_rfl) (by simp) ?_
            refine AllReady.cons rfl (fun K hK => ?_) AllReady.nil
            · have HK := Lib.hid hK
              clear hK
              go_simp
              refine HK.out _ _ ?_
              (try clear HK K); try dsimp only [Act.put, List.setIfInBounds_toArray, List.set_cons_zero, List.set_cons_succ]
              refine wpAny_ready (rs := [6]) (by kernel_rfl) (by simp) ?_
              refine AllReady.cons rfl (fun K hK => ?_) AllReady.nil
              · have HK := Lib.hid hK
                clear hK
                refine step_wanted rfl (wp_pushM _ _ rfl w.heap.size v G C _ _ g p gc w4.heap.size 1 (Mx.len_row _ _) rfl rfl (PM.out w4 k4 _) (cell_made _ _ _ _ 0 rfl) (o4.new _) hap HLE.out (HSZ.out w4 k4 _) fun v' w6 G' C' hom hgr => ?_)
                obtain ⟨vg, vc, rfl⟩ := OS.out v' w6 G' C' hom
                obtain ⟨hc6, hf6⟩ := BX.out w4 w6 _ k4 hgr
                refine HK.out _ _ ?_
                (try clear HK K); try dsimp only [Act.put, List.setIfInBounds_toArray, List.set_cons_zero, List.set_cons_succ]
                refine wpAny_ready (rs := [7]) (by kernel_rfl) (by simp) ?_
                refine AllReady.cons rfl (fun K hK => ?_) AllReady.nil
                · have HK := Lib.hid hK
                  clear hK
                  go_simp
                  refine HK.out _ _ ?_
                  (try clear HK K); try dsimp only [Act.put, List.setIfInBounds_toArray, List.set_cons_zero, List.set_cons_succ]
                  refine wpAny_done (by kernel_rfl) ?_ _
                  exact ⟨rfl, FIN.out w4 w6 _ _ _ _ _ k4 hgr hom⟩
          · have HK := Lib.hid hK
            clear hK
            go_simp
            refine HK.out _ _ ?_
            (try clear HK K); try dsimp only [Act.put, List.setIfInBounds_toArray, List.set_cons_zero, List.set_cons_succ]
            refine wpAny_ready (rs := [0]) (by kernel_rfl) (by simp) ?_
            refine AllReady.cons rfl (fun K hK => ?_) AllReady.nil
            · have HK := Lib.hid hK
              clear hK
              have hcl := (SK.out _ (k4.new (.cells #[.slice (some ⟨g, 0, none⟩) p gc] 24))).1
              go_simp
              clear hcl
              refine HK.out _ _ ?_
              (try clear HK K); try dsimp only [Act.put, List.setIfInBounds_toArray, List.set_cons_zero, List.set_cons_succ]
              refine wpAny_ready (rs := [6]) (by kernel_rfl) (by simp) ?_
              refine AllReady.cons rfl (fun K hK => ?_) AllReady.nil
              · have HK := Lib.hid hK
                clear hK
                refine step_wanted rfl (wp_pushM _ _ rfl w.heap.size v G C _ _ g p gc w4.heap.size 1 (Mx.len_row _ _) rfl rfl (PM.out w4 k4 _) (cell_made _ _ _ _ 0 rfl) (o4.new _) hap HLE.out (HSZ.out w4 k4 _) fun v' w6 G' C' hom hgr => ?_)
                obtain ⟨vg, vc, rfl⟩ := OS.out v' w6 G' C' hom
                obtain ⟨hc6, hf6⟩ := BX.out w4 w6 _ k4 hgr
                refine HK.out _ _ ?_
                (try clear HK K); try dsimp only [Act.put, List.setIfInBounds_toArray, List.set_cons_zero, List.set_cons_succ]
                refine wpAny_ready (rs := [7]) (by kernel_rfl) (by simp) ?_
                refine AllReady.cons rfl (fun K hK => ?_) AllReady.nil
                · have HK := Lib.hid hK
                  clear hK
                  go_simp
                  refine HK.out _ _ ?_
                  (try clear HK K); try dsimp only [Act.put, List.setIfInBounds_toArray, List.set_cons_zero, List.set_cons_succ]
                  refine wpAny_done (by kernel_rfl) ?_ _
                  exact ⟨rfl, FIN.out w4 w6 _ _ _ _ _ k4 hgr hom⟩
  case done =>
    rintro D' ys W hD rfl ⟨⟨⟨v, G, C, hv, ho⟩, _, _⟩, hB⟩ hK
    rw [ALL.out] at ho
    obtain ⟨A', c', rfl, hl, _⟩ := ho.lies
    rw [Mx.len_matl] at hv
    have hcv := hv.cell
    have HB := Lib.hid hB
    have hDl := (Array.getElem?_eq_some_iff.1 hK).1
    have O1 := Lib.hid (OF.out A' c' W hl)
    have HD := Lib.hid (show w.heap.size ≤ D' by omega)
    clear hv ho hl hB hD
    go_wp2_with fail
    refine (O1.out).mono ?_; rintro e w5 ⟨rfl, k5⟩
    have hK5 := (k5.block D' hDl).trans hK
    have HB5 := Lib.hid (HB.out.trans (k5.mono HB.out.size))
    clear k5 hK
    go_wp2_with fail
    refine ⟨by simp, .inl ⟨_, _, rfl, run_takeDeferred hK5, ?_⟩⟩
    refine ⟨.tuple #[.int .i64 (dd.val : Int), .nilIface], by simp [results, Try.results45, go_sem], rfl, HB5.out.trans (belowK_b (w := w) (Nat.le_refl _) w5 D' _ _ HD.out hK5 rfl rfl)⟩
  case stop =>
    rintro D c pre W _ _ h _
    exact h.elim

end Go.Proofs.Ytologiinkilooaa

/- Contracts of package minors, second part: Of, Adj. -/
namespace Go.Proofs.Ytologiinkilooaa
open Go.ChangeShapes Go.WideShapes Go.ChangeAt Go.RowKit
set_option linter.unusedVariables false

theorem minus_val (d : Fp.F) : (-(d.val : Int)) % 9973 = ((-d).val : Int) := by
  rw [← Fp.ofInt_val]
  congr 2
  have h2 := Fp.ofInt_add (-(d.val : Int)) (d.val : Int)
  rw [Fp.ofInt_self, show -(d.val : Int) + (d.val : Int) = 0 by omega, show Fp.ofInt 0 = 0 from by decide] at h2
  grind

theorem minor_any (A : Option Addr) (f : Nat → Nat → Fp.F) (n p i j d : Nat) (w : World) (ha : LiesM w A (Mx.matl n n f)) (hn : n = p + 1) (hi : i ≤ p) (hj : j ≤ p) (hp : p ≤ 4) :
    Calls Try.prog 45 #[.slice A n d, .int .i64 (i : Int), .int .i64 (j : Int)] w fun e w' => e = .returned (.tuple #[.int .i64 ((Mx.dt p (wo f i j)).val : Int), .nilIface]) ∧ Kp w w' := by
  rcases Nat.eq_zero_or_pos p with h0 | h0
  · subst h0 hn
    exact minor_one A d _ _ w
  · exact minor_more A f n p i j d w ha hn hi hj h0 (by omega)


set_option maxRecDepth 100000 in
set_option maxHeartbeats 1600000 in
theorem MAdj_bad (A : Option Addr) (m : List (List Int)) (n d : Nat) (w : World) (ha : LiesM w A m) (hn : m.length = n) (h : qcode 5 0 9972 m ≠ 0) :
    Calls Try.prog 20 #[.slice A n d] w fun e w' => e = .returned (.tuple #[.slice none 0 0, errOf (qcode 5 0 9972 m)]) ∧ Kp w w' := by
  have CK := Lib.hid (DChk_any A m n d w ha hn)
  rw [errOf_ne _ h] at CK ⊢
  generalize qcode 5 0 9972 m = z at *
  clear ha hn h
  go_enter Try.func20, Try.ntmps20
  go_wp2_with fail
  refine (CK.out).mono ?_; rintro e w' ⟨rfl, rfl⟩
  go_wp2_with fail
  go_ret2
  exact ⟨rfl, Kp.rfl' _⟩

theorem sgn_odd {k : Nat} (h : k % 2 = 1) (d : Fp.F) : -d = Mx.sgn k * d := by unfold Mx.sgn; rw [if_neg (by omega)]; grind
theorem sgn_even {k : Nat} (h : k % 2 = 0) (d : Fp.F) : d = Mx.sgn k * d := by unfold Mx.sgn; rw [if_pos h]; grind
theorem par_odd {i j : Nat} (h : (i + j) % 2 = 1) : (((i : Int) + (j : Int)) % 2 == 1) = true := by
  rw [beq_iff_eq]; omega
theorem par_even {i j : Nat} (h : (i + j) % 2 = 0) : (((i : Int) + (j : Int)) % 2 == 1) = false := by
  rw [beq_eq_false_iff_ne]; omega

/-- Row i done as far as place j, the rows below it done, all else nought. -/
def adjTo (p : Nat) (f : Nat → Nat → Fp.F) (i j : Nat) : Nat → Nat → Int := fun a b => if a = i then (if b < j then ((Mx.adj p f a b).val : Int) else 0) else ((Mx.adj p f a b).val : Int)

set_option maxRecDepth 100000 in
set_option maxHeartbeats 3200000 in
theorem MAdj_grid (A : Option Addr) (f : Nat → Nat → Fp.F) (n p d : Nat) (w : World) (ha : LiesM w A (Mx.matl n n f)) (hn : n = p + 1) (hp : p ≤ 4) :
    Calls Try.prog 20 #[.slice A n d] w fun e w' => ∃ g G, e = .returned (.tuple #[.slice (some ⟨g, 0, none⟩) n n, .nilIface]) ∧ Grid w' g G n n (fun i j => ((Mx.adj p f i j).val : Int)) ∧ w.heap.size ≤ g ∧ Kp w w' := by
  have CK := Lib.hid (DChk_any A (Mx.matl n n f) n d w ha (Mx.len_matl _ _ _))
  rw [qcode_matl f (by omega) (by omega), errOf_zero] at CK
  have HA := Lib.hid ha
  have MI := Lib.hid (fun (i j : Nat) (w' : World) (h : LiesM w' A (Mx.matl n n f)) (hi : i < n) (hj : j < n) => minor_any A f n p i j d w' h hn (by omega) (by omega) hp)
  have hn5 : n ≤ 5 := by omega
  clear ha hn hp
  obtain ⟨i0, hi, hz0, hz1, hz2⟩ := info_parts int_info
  obtain ⟨j0, hj, hy0, hy1, hy2⟩ := info_parts ints_info
  go_enter Try.func20, Try.ntmps20
  go_wp2_with fail
  refine (CK.out).mono ?_; rintro e w' ⟨rfl, rfl⟩
  go_wp2_with (at_make; refine wpList_make_full _ rfl _ _ 22 rfl w.heap.size 24 j0 (.slice none 0 0) 1 Try.underlying22 hj hy0 hy1 _ _ _ _ n rfl rfl rfl rfl (by rw [hy2]; omega) (by unfold maxLen; omega) (Nat.le_refl _) ?_; intro w1 hown hgrow)
  have hpart : PartF w1 w.heap.size (fun _ => 0) n n 0 (fun i j => ((Mx.adj p f i j).val : Int)) := PartF.start _ hown
  have hkp : Kp w w1 := (Kp.rfl' w).grown hgrow (by simp) (fun k hk => by cases hk)
  clear hown hgrow hj hy0 hy1 hy2
  obtain ⟨g, hg⟩ : ∃ g, g = w.heap.size := ⟨_, rfl⟩
  rw [← hg] at hpart ⊢
  have HG := Lib.hid hg
  clear hg
  go_loopw [6, 7, 8, 9, 20] (fun _ _ _ _ i wr => ∃ (k : Nat) (G : Nat → Nat), k ≤ n ∧ i = .int .i64 (k : Int) ∧ PartF wr g G n n k (fun i j => ((Mx.adj p f i j).val : Int)) ∧ Kp w wr) (fun _ _ _ _ i _ => n - (intOf i).toNat)
  case atStart => exact ⟨0, _, Nat.zero_le _, rfl, hpart, hkp⟩
  case round =>
    clear hpart hkp
    obtain ⟨k, G, hk, rfl, hp, hkp⟩ := hrel
    by_cases hlt : k < n
    · have HP := Lib.hid hp
      have HK := Lib.hid hkp
      clear hp hkp
      obtain ⟨wo', hwo⟩ : ∃ x, x = wr := ⟨_, rfl⟩
      subst hwo
      go_wp2_with (at_make; refine wpList_make_full _ rfl _ _ 24 rfl wo'.heap.size 3 i0 (.int .i64 0) 1 Try.underlying24 hi hz0 hz1 _ _ _ _ n rfl rfl rfl rfl (by rw [hz2]; omega) (by unfold maxLen; omega) (Nat.le_refl _) ?_; intro w2 hown hgrow; have hkp2 : Kp wo' w2 := (Kp.rfl' wo').grown hgrow (by simp) (fun k hk => by cases hk); have hcell := (HP.out.keep hkp2).cell (Nat.le_refl k) hlt; have hfree := (HP.out.keep hkp2).free k)
      have HPL := HP.out.lt
      have hpe : PartF wo' g G n n k (adjTo p f k 0) := HP.out.ext (fun i j hi _ => by unfold adjTo; rw [if_neg (by omega)])
      have hrow : Row (w2.setCell ⟨g, k, none⟩ (.slice (some ⟨wo'.heap.size, 0, none⟩) n n)) wo'.heap.size (Mx.row n (adjTo p f k 0 k)) := by
        have h1 : Row (w2.setCell ⟨g, k, none⟩ (.slice (some ⟨wo'.heap.size, 0, none⟩) n n)) wo'.heap.size (List.replicate n 0) := (row_made hown).far (by show wo'.heap.size ≠ g; omega) _
        rw [Mx.row_rep] at h1
        rw [Mx.row_ext (g := adjTo p f k 0 k) (h := fun _ => 0) (fun j hj => by unfold adjTo; rw [if_pos rfl, if_neg (by omega)])]
        exact h1
      have HS := Lib.hid (hpe.step hlt hkp2 hrow (fun b _ => rfl))
      have HK2 := Lib.hid ((HK.out.trans hkp2).put (p := ⟨g, k, none⟩) (by show w.heap.size ≤ g; rw [HG.out]; exact Nat.le_refl _) (.slice (some ⟨wo'.heap.size, 0, none⟩) n n))
      clear hcell hfree hrow hpe hown hgrow hkp2
      generalize hGG : (fun i => if i = k then wo'.heap.size else G i) = GG at *
      clear hGG
      go_loopw [7, 8, 9, 31] (fun _ _ _ i wq => ∃ m : Nat, m ≤ n ∧ i = .int .i64 (m : Int) ∧ PartF wq g GG n n (k + 1) (adjTo p f k m) ∧ Kp w wq) (fun _ _ _ i _ => n - (intOf i).toNat)
      case atStart => exact ⟨0, Nat.zero_le _, rfl, HS.out, HK2.out⟩
      case round =>
        clear HS HK2
        obtain ⟨m, hm, rfl, hq, hkq⟩ := hrel
        by_cases hmt : m < n
        · have HQ := Lib.hid hq
          have HKQ := Lib.hid hkq
          clear hq hkq
          have M1 := Lib.hid (MI.out m k wr (HA.out.keep HKQ.out) hmt hlt)
          have hdl := (Mx.dt p (wo f m k)).isLt
          have HMV := Lib.hid (minus_val (Mx.dt p (wo f m k)))
          have HX : ∃ x : Int, x = ((Mx.adj p f k m).val : Int) := ⟨_, rfl⟩
          have hwr : IntKind.i64.wrap ((k : Int) + (m : Int)) = (k : Int) + (m : Int) := IntWalk.i64_in _ (by omega)
          have HF := Lib.hid (fun (W : World) (x : Int) (hx : x = ((Mx.adj p f k m).val : Int)) (h : PartF W g GG n n (k + 1) (adjTo p f k m)) => (show PartF (W.setCell ⟨GG k, m, none⟩ (.int .i64 x)) g GG n n (k + 1) (adjTo p f k (m + 1)) from
            (h.put (Nat.lt_succ_self k) m x).ext fun a b ha hb => by
              unfold adjTo
              by_cases h1 : a = k
              · by_cases h2 : b = m
                · rw [if_pos ⟨h1, h2⟩, if_pos h1, if_pos (by omega), hx, h1, h2]
                · rw [if_neg (fun h => h2 h.2), if_pos h1, if_pos h1]
                  by_cases h3 : b < m
                  · rw [if_pos h3, if_pos (by omega)]
                  · rw [if_neg h3, if_neg (by omega)]
              · rw [if_neg (fun h => h1 h.1), if_neg h1, if_neg h1]))
          have HAD := Lib.hid (show Mx.adj p f k m = Mx.sgn (k + m) * Mx.dt p (wo f m k) from rfl)
          have HGG := Lib.hid (show w.heap.size ≤ GG k by have := HQ.out.after k (Nat.lt_succ_self k); have := HG.out; omega)
          generalize Mx.dt p (wo f m k) = dd at *
          by_cases hpar : (k + m) % 2 = 1
          · have e1 := par_odd hpar
            have HXX := Lib.hid (show ((-dd).val : Int) = ((Mx.adj p f k m).val : Int) by rw [HAD.out, sgn_odd hpar dd])
            have hws : IntKind.i64.wrap (9973 - (dd.val : Int)) = 9973 - (dd.val : Int) := IntWalk.i64_in _ (by omega)
            clear hpar
            go_wp2_with fail
            refine (M1.out).mono ?_; rintro e w3 ⟨rfl, hk3⟩
            have HQ3 := Lib.hid (HQ.out.keep hk3)
            have HK3 := Lib.hid (HKQ.out.trans hk3)
            have x1 := HQ3.out.cellOf (Nat.lt_succ_self k) hlt
            have x2 := HQ3.out.el (Nat.lt_succ_self k) hmt
            have x3 := HQ3.out.freeOf (Nat.lt_succ_self k) m
            clear hk3
            go_wp2_with fail
            go_roundw
            case rel => exact ⟨m + 1, by omega, by go_num, HF.out _ _ (by rw [HMV.out, HXX.out]) HQ3.out, HK3.out.put (p := ⟨GG k, m, none⟩) HGG.out _⟩
            case measure => simp [intOf]; omega
          · have hpar' : (k + m) % 2 = 0 := by omega
            have e1 := par_even hpar'
            have HXX := Lib.hid (show (dd.val : Int) = ((Mx.adj p f k m).val : Int) by rw [HAD.out, ← sgn_even hpar' dd])
            clear hpar hpar'
            go_wp2_with fail
            refine (M1.out).mono ?_; rintro e w3 ⟨rfl, hk3⟩
            have HQ3 := Lib.hid (HQ.out.keep hk3)
            have HK3 := Lib.hid (HKQ.out.trans hk3)
            have x1 := HQ3.out.cellOf (Nat.lt_succ_self k) hlt
            have x2 := HQ3.out.el (Nat.lt_succ_self k) hmt
            have x3 := HQ3.out.freeOf (Nat.lt_succ_self k) m
            clear hk3
            go_wp2_with fail
            go_roundw
            case rel => exact ⟨m + 1, by omega, by go_num, HF.out _ _ HXX.out HQ3.out, HK3.out.put (p := ⟨GG k, m, none⟩) HGG.out _⟩
            case measure => simp [intOf]; omega
        · obtain rfl : m = n := by omega
          have HQ := Lib.hid hq
          have HKQ := Lib.hid hkq
          clear hq hkq
          go_wp2_with fail
          go_roundw
          case rel => exact ⟨k + 1, GG, by omega, by go_num, HQ.out.ext (fun a b ha hb => by unfold adjTo; by_cases h1 : a = k; (rw [if_pos h1, if_pos hb]); (rw [if_neg h1])), HKQ.out⟩
          case measure => simp [intOf]; omega
    · obtain rfl : k = n := by omega
      have HP := Lib.hid hp
      have HK := Lib.hid hkp
      clear hp hkp
      go_wp2_with fail
      go_ret2
      exact ⟨g, G, rfl, HP.out.done, by rw [HG.out]; exact Nat.le_refl _, HK.out⟩
theorem MAdj_ok (A : Option Addr) (f : Nat → Nat → Fp.F) (n p d : Nat) (w : World) (ha : LiesM w A (Mx.matl n n f)) (hn : n = p + 1) (hp : p ≤ 4) :
    Calls Try.prog 20 #[.slice A n d] w fun e w' => ∃ g, e = .returned (.tuple #[.slice (some ⟨g, 0, none⟩) n n, .nilIface]) ∧ LiesM w' (some ⟨g, 0, none⟩) (Mx.matl n n (Mx.adj p f)) ∧ Kp w w' :=
  (MAdj_grid A f n p d w ha hn hp).mono fun e w' ⟨g, G, he, hg, _, hk⟩ => ⟨g, he, hg.lies, hk⟩

end Go.Proofs.Ytologiinkilooaa

/- What minors says of good matrices; its closed fact, outright. -/
namespace Go.Proofs.Ytologiinkilooaa
open Go.ChangeShapes Go.WideShapes Go.ChangeAt Go.RowKit
set_option linter.unusedVariables false

theorem MAdj_sh {A : Option Addr} {m : List (List Int)} {n p : Nat} {f : Nat → Nat → Fp.F} (s : Sh n n f m) (hn : n = p + 1) (d : Nat) (w : World) (ha : LiesM w A m) :
    Calls Try.prog 20 #[.slice A n d] w fun e w' => ∃ g, e = .returned (.tuple #[.slice (some ⟨g, 0, none⟩) n n, .nilIface]) ∧ LiesM w' (some ⟨g, 0, none⟩) (Mx.matl n n (Mx.adj p f)) ∧ Kp w w' := by
  have h5 := s.r5
  rw [s.eq] at ha
  exact MAdj_ok A f n p d w ha hn (by omega)

theorem fadj_mat : Mx.matl 2 2 (Mx.adj 1 fdet) = Mx.tab 2 2 (n22 4 9971 9970 1) := by decide +kernel
/-- A matrix of one number, just laid down. -/
def lit11 (w : World) (g : Nat) (a : Int) : World := (w.alloc (.cells #[.int .i64 a] 3)).alloc (.cells #[.slice (some ⟨g, 0, none⟩) 1 1] 24)
theorem lit11_kp (w : World) (g : Nat) (a : Int) : Kp w (lit11 w g a) := ((Kp.rfl' w).new _).new _
theorem lit11_lies (w : World) (g : Nat) (a : Fp.F) (h : g = w.heap.size) : LiesM (lit11 w g (a.val : Int)) (some ⟨g + 1, 0, none⟩) (Mx.matl 1 1 fun _ _ => a) := by
  subst h
  have e1 : (w.alloc (.cells #[.int .i64 (a.val : Int)] 3)).heap.size = w.heap.size + 1 := by simp
  intro k hk
  rw [Mx.len_matl] at hk
  obtain rfl : k = 0 := by omega
  refine ⟨⟨w.heap.size + 1, 0, none⟩, some ⟨w.heap.size, 0, none⟩, 1, rfl, ?_, ?_, ?_, ?_⟩
  · show w.heap.size + 1 < (World.alloc _ _).heap.size
    rw [World.size_alloc, e1]; omega
  · rw [add_zero']
    exact (cell_made _ _ _ _ 0 e1.symm).trans rfl
  · exact Nat.le_refl _
  · exact (lies_new w 3 [(a.val : Int)]).keep ((Kp.rfl' _).new _)


end Go.Proofs.Ytologiinkilooaa

/- Contract of the document's Sign: for all packages. -/
namespace Go.Proofs.Ytologiinkilooaa
open Go.ChangeShapes Go.WideShapes Go.ChangeAt Go.RowKit
set_option linter.unusedVariables false

set_option maxRecDepth 100000 in
set_option maxHeartbeats 3200000 in
theorem rSign_any (A : Option Addr) (l : List Int) (n c : Nat) (w : World) (hl : Lies w A l) (hn : l.length = n) (h1 : n ≤ 1000) :
    Calls Try.prog 21 #[.slice A n c] w fun e w' => ∃ x, e = .returned (.int .i64 x) ∧ Mx.SgnIs (Mx.sp n fun i => l.getD i 0) x ∧ Kp w w' := by
  obtain ⟨s, hs⟩ : ∃ s : Nat → Int, s = fun i => l.getD i 0 := ⟨_, rfl⟩
  rw [← hs]
  have HL := Lib.hid hl
  have HN := Lib.hid hn
  have HS := Lib.hid hs
  have HAS := Lib.hid (fun (w : World) (k : Nat) (h : Lies w A l) => refHas_any A l n c (k : Int) w h (by omega) (by omega))
  clear hl hn hs
  go_enter Try.func21, Try.ntmps21
  go_wp2_with fail
  go_loopw [3, 4] (fun o i wr => ∃ (k : Nat) (x : Int), k ≤ n ∧ i = .int .i64 (k : Int) ∧ o = .int .i64 x ∧ (x = 1 ∨ x = -1) ∧ Fp.ofInt x = Mx.inv k s ∧ (∀ t : Nat, t < k → ∃ j, j < n ∧ s j = (t : Int)) ∧ Kp w wr) (fun _ i _ => n - (intOf i).toNat)
  case atStart => exact ⟨0, 1, Nat.zero_le _, rfl, rfl, .inl rfl, rfl, fun t ht => absurd ht (by omega), Kp.rfl' _⟩
  case round =>
    obtain ⟨k, x, hk, rfl, rfl, hx, he, ht, hkp⟩ := hrel
    have HX := Lib.hid hx
    have HE := Lib.hid he
    have HT := Lib.hid ht
    have HK := Lib.hid hkp
    clear hx he ht hkp
    by_cases hlt : k < n
    · by_cases hoc : Occurs l n (k : Int)
      · have HA1 := Lib.hid (fun (w : World) (h : Lies w A l) => (HAS.out w k h).mono fun e w' h' => show e = .returned (.bool true) ∧ w = w' from ⟨tells_yes h'.1 hoc, h'.2⟩)
        have HT2 := Lib.hid (show ∀ t : Nat, t < k + 1 → ∃ j, j < n ∧ s j = (t : Int) from fun t ht => by
          by_cases e : t = k
          · obtain ⟨j, h1, h2⟩ := hoc
            exact ⟨j, h1, by rw [HS.out, e]; exact h2⟩
          · exact HT.out t (by omega))
        clear hoc
        go_wp2_with fail
        refine (HA1.out _ (HL.out.keep HK.out)).mono ?_; rintro e w1 ⟨rfl, rfl⟩
        obtain ⟨wo, hwo⟩ : ∃ y, y = wr := ⟨_, rfl⟩
        rw [← hwo] at HK ⊢
        clear hwo
        go_wp2_with fail
        go_loopw [3, 5] (fun o i wr => ∃ (t : Nat) (x : Int), t ≤ k ∧ i = .int .i64 (t : Int) ∧ o = .int .i64 x ∧ (x = 1 ∨ x = -1) ∧ Fp.ofInt x = Mx.inv k s * Mx.pr t (fun y => Mx.e2 (s y) (s k)) ∧ Kp w wr) (fun _ i _ => k - (intOf i).toNat)
        case atStart => exact ⟨0, x, Nat.zero_le _, rfl, rfl, HX.out, by rw [HE.out]; show _ = _ * 1; grind, HK.out⟩
        case round =>
          clear HX HE HK
          obtain ⟨t, x, ht, rfl, rfl, hx, he, hkp⟩ := hrel
          have HX := Lib.hid hx
          have HE := Lib.hid he
          have HK := Lib.hid hkp
          have hxb : -1 ≤ x ∧ x ≤ 1 := by rcases hx with a | a <;> omega
          clear hx he
          by_cases hlt2 : t < k
          · obtain ⟨ad, rfl, _, y1⟩ := (HL.out.keep hkp) t (by rw [HN.out]; omega)
            obtain ⟨_, e, _, y2⟩ := (HL.out.keep hkp) k (by rw [HN.out]; omega)
            cases e
            obtain ⟨u, hu⟩ : ∃ u, u = l.getD t 0 := ⟨_, rfl⟩
            obtain ⟨v, hv⟩ : ∃ v, v = l.getD k 0 := ⟨_, rfl⟩
            rw [← hu] at y1
            rw [← hv] at y2
            have HU := Lib.hid (show s t = u ∧ s k = v by rw [HS.out]; exact ⟨hu.symm, hv.symm⟩)
            have hwn : IntKind.i64.wrap (-x) = -x := IntWalk.i64_in _ (by omega)
            clear hu hv hkp
            by_cases h2 : v < u
            · have HE2 := Lib.hid (show Fp.ofInt (-x) = Mx.inv k s * Mx.pr (t + 1) (fun y => Mx.e2 (s y) (s k)) by
                rw [Mx.ofInt_neg, HE.out]
                show _ = Mx.inv k s * (Mx.pr t _ * Mx.e2 (s t) (s k))
                rw [HU.out.1, HU.out.2]
                unfold Mx.e2
                rw [if_pos h2]; grind)
              have HX2 := Lib.hid (show -x = 1 ∨ -x = -1 by rcases HX.out with a | a <;> omega)
              go_wp2_with fail
              go_quiet (fail)
              go_wp2_with fail
              go_roundw
              case rel => exact ⟨t + 1, -x, by omega, by go_num, rfl, HX2.out, HE2.out, HK.out.drewN _⟩
              case measure => simp [intOf]; omega
            · have HE2 := Lib.hid (show Fp.ofInt x = Mx.inv k s * Mx.pr (t + 1) (fun y => Mx.e2 (s y) (s k)) by
                rw [HE.out]
                show _ = Mx.inv k s * (Mx.pr t _ * Mx.e2 (s t) (s k))
                rw [HU.out.1, HU.out.2]
                unfold Mx.e2
                rw [if_neg h2]; grind)
              go_wp2_with fail
              go_quiet (fail)
              go_wp2_with fail
              go_roundw
              case rel => exact ⟨t + 1, x, by omega, by go_num, rfl, HX.out, HE2.out, HK.out.drewN _⟩
              case measure => simp [intOf]; omega
          · obtain rfl : t = k := by omega
            clear hkp
            go_wp2_with fail
            go_roundw
            case rel => exact ⟨t + 1, x, by omega, by go_num, rfl, HX.out, HE.out, HT2.out, HK.out⟩
            case measure => simp [intOf]; omega
      · have HA1 := Lib.hid (fun (w : World) (h : Lies w A l) => (HAS.out w k h).mono fun e w' h' => show e = .returned (.bool false) ∧ w = w' from ⟨tells_no h'.1 hoc, h'.2⟩)
        have Z := Lib.hid (show Mx.SgnIs (Mx.sp n s) 0 from ⟨.inr (.inr rfl), by
          rw [Mx.sp_miss hlt fun i hi e => hoc ⟨i, hi, by rw [HS.out] at e; exact e⟩]; rfl⟩)
        clear hoc
        go_wp2_with fail
        refine (HA1.out _ (HL.out.keep HK.out)).mono ?_; rintro e w1 ⟨rfl, rfl⟩
        go_wp2_with fail
        go_ret
        exact ⟨0, rfl, Z.out, HK.out⟩
    · obtain rfl : k = n := by omega
      have Z := Lib.hid (show Mx.SgnIs (Mx.sp k s) x from ⟨by rcases HX.out with a | a <;> simp [a], by rw [HE.out]; exact Mx.inv_sp HT.out⟩)
      go_wp2_with fail
      go_ret
      exact ⟨x, rfl, Z.out, HK.out⟩

end Go.Proofs.Ytologiinkilooaa

/- Contracts of the document's answer on matrices (package rankmereref1: Mod, Unit, Flip, Copy, MatMul, MatAdd, Matrix, Field). For all packages. -/
namespace Go.Proofs.Ytologiinkilooaa
open Go.ChangeShapes Go.WideShapes Go.ChangeAt Go.RowKit
set_option linter.unusedVariables false

theorem own_made {w : World} {base g n : Nat} (h : w.ownsRow base 3 1 (.slice (some ⟨g, 0, none⟩) n n) n (madeCells #[.int .i64 0] (n * 1)).toList) : Own w base (.slice (some ⟨g, 0, none⟩) n n) (Mx.row n fun _ => 0) := by
  unfold Own
  rw [Mx.len_row, ← Mx.row_rep]
  rw [toList_madeCells_one, Nat.mul_one] at h
  simpa [ints] using h
theorem rval (a : Fp.F) : 0 ≤ (a.val : Int) ∧ (a.val : Int) ≤ 9972 := by have := a.isLt; omega
theorem rprod (a b : Fp.F) : 0 ≤ (a.val : Int) * (b.val : Int) ∧ (a.val : Int) * (b.val : Int) ≤ 99440784 := by
  have h1 := rval a
  have h2 := rval b
  exact ⟨Int.mul_nonneg h1.1 h2.1, Int.mul_le_mul h1.2 h2.2 h2.1 (by decide)⟩
theorem rzero : ((0 : Fp.F).val : Int) = 0 := rfl

theorem rMod_any (n : Int) (w : World) (h1 : -1000000000000000 ≤ n) (h2 : n ≤ 1000000000000000) :
    Calls Try.prog 11 #[.int .i64 n] w fun e w' => e = .returned (.int .i64 (n % 9973)) ∧ w = w' := by
  obtain ⟨f1, f2⟩ := Num.tmod_fix n 9973 (by omega)
  obtain ⟨b2, b1⟩ := Num.tmod_bound n 9973 (by omega)
  have F1 := Lib.hid f1
  have F2 := Lib.hid f2
  clear f1 f2
  by_cases h : n.tmod 9973 < 0
  · go_enter Try.func11, Try.ntmps11
    go_wp2
    go_ret
    exact ⟨ret_int (F1.out h), rfl⟩
  · have h' : 0 ≤ n.tmod 9973 := by omega
    clear h
    go_enter Try.func11, Try.ntmps11
    go_wp2
    go_ret
    exact ⟨ret_int (F2.out h'), rfl⟩

/-- A matrix that the call made. -/
def Made (r c : Nat) (f : Nat → Nat → Fp.F) (w : World) (e : Ending) (w' : World) : Prop := ∃ A d, e = .returned (.slice A r d) ∧ LiesM w' A (Mx.matl r c f) ∧ Kp w w'
/-- The same, to be written to. -/
def MadeOwn (r c : Nat) (f : Nat → Nat → Fp.F) (w : World) (e : Ending) (w' : World) : Prop := ∃ v G C, e = .returned v ∧ OwnM w' w.heap.size v G C (Mx.matl r c f) ∧ Kp w w'

set_option maxRecDepth 100000 in
set_option maxHeartbeats 3200000 in
theorem rUnit_own (n : Nat) (w : World) (hn : n ≤ 1000) :
    Calls Try.prog 26 #[.int .i64 (n : Int)] w fun e w' => MadeOwn n n Mx.one w e w' := by
  obtain ⟨i0, hi, hz0, hz1, hz2⟩ := info_parts int_info
  go_enter Try.func26, Try.ntmps26
  go_wp2_with fail
  go_loopw [3, 4] (fun v i wr => ∃ (k : Nat) (G C : Nat → Nat), k ≤ n ∧ i = .int .i64 (k : Int) ∧ OwnM wr w.heap.size v G C (Mx.matl k n Mx.one) ∧ Kp w wr) (fun _ i _ => n - (intOf i).toNat)
  case atStart => exact ⟨0, fun _ => 0, fun _ => 0, Nat.zero_le _, rfl, ownM_none _ _ _ _, Kp.rfl' _⟩
  case round =>
    obtain ⟨k, G, C, hk, rfl, ho, hkp⟩ := hrel
    have HO := Lib.hid ho
    have HK := Lib.hid hkp
    clear ho hkp
    by_cases hlt : k < n
    · have HS := Lib.hid (show Mx.matl (k + 1) n Mx.one = Mx.matl k n Mx.one ++ [(Mx.row n fun _ => 0).set k 1] by
        rw [Mx.matl, Mx.tab_snoc, Mx.row_set]
        congr 2
        refine Mx.row_ext fun j _ => ?_
        show (((if k = j then (1 : Fp.F) else 0)).val : Int) = _
        by_cases e : j = k
        · rw [if_pos e, if_pos e.symm]; rfl
        · rw [if_neg e, if_neg (fun e' => e e'.symm)]; rfl)
      have HAP := Lib.hid (show ∀ i, i < (Mx.matl k n Mx.one).length → G i ≠ wr.heap.size from fun i hi => by have := (HO.out.lt hi).2; omega)
      go_wp2_with (first
        | (at_make; refine wpList_make_full _ rfl _ _ 24 rfl wr.heap.size 3 i0 (.int .i64 0) 1 Try.underlying24 hi hz0 hz1 _ _ _ _ n rfl rfl rfl rfl (by rw [hz2]; omega) (by unfold maxLen; omega) (Nat.le_refl _) ?_; intro w2 hown hgrow; have kp2 : Kp wr w2 := (Kp.rfl' wr).grown hgrow (by simp) (fun k hk => by cases hk); have ow := own_made hown; have hcell := own_cell ow k (by rw [Mx.len_row]; exact hlt); have hfree := own_free ow k; have kp3 := Lib.hid (kp2.put (p := ⟨wr.heap.size, k, none⟩) (Nat.le_refl _) (.int .i64 1)); have ow3 := Lib.hid (own_put ow k 1); have om3 := Lib.hid (HO.out.kp kp3.out))
        | (at_builtin; refine wpList_pushM rfl _ _ rfl w.heap.size _ G C (Mx.matl k n Mx.one) _ wr.heap.size n n _ 1 (by rw [List.length_set, Mx.len_row]) rfl rfl (om3.out.new _) (cell_made _ _ _ _ 0 (size_set _ _ _)) ((ow3.out.from HK.out.size).new _) HAP.out (by rw [Mx.len_matl]; omega) (Nat.le_trans HK.out.size (Nat.le_trans kp3.out.size ((Kp.rfl' _).new _).size)) ?_; intro v' w' G' C' ho' hk'))
      have HO' := Lib.hid ho'
      have HK' := Lib.hid (hk' w (Nat.le_refl _) ((HK.out.trans kp3.out).new _))
      clear ho' hk'
      go_wp2_with fail
      go_roundw
      case rel => exact ⟨k + 1, G', C', by omega, by go_num, by rw [HS.out]; exact HO'.out, HK'.out⟩
      case measure => simp [intOf]; omega
    · obtain rfl : k = n := by omega
      go_wp2_with fail
      go_ret
      exact ⟨_, G, C, rfl, HO.out, HK.out⟩
theorem rUnit_any (n : Nat) (w : World) (hn : n ≤ 1000) :
    Calls Try.prog 26 #[.int .i64 (n : Int)] w fun e w' => Made n n Mx.one w e w' :=
  (rUnit_own n w hn).mono fun e w' ⟨v, G, C, he, ho, hk⟩ => by
    obtain ⟨A', d', hv, hl, _⟩ := ho.lies
    rw [Mx.len_matl] at hv
    exact ⟨A', d', by rw [he, hv], hl, hk⟩

set_option maxRecDepth 100000 in
set_option maxHeartbeats 3200000 in
theorem rFlip_own (A : Option Addr) (f : Nat → Nat → Fp.F) (r c d : Nat) (w : World) (ha : LiesM w A (Mx.matl r c f)) (hr0 : 0 < r) (hr : r ≤ 1000) (hc : c ≤ 1000) :
    Calls Try.prog 27 #[.slice A r d] w fun e w' => MadeOwn c r (Mx.flip f) w e w' := by
  obtain ⟨ad, A0, d0, rfl, hlt0, hc00, _, _⟩ := ha.row hr0
  rw [add_zero'] at hc00
  have HA := Lib.hid ha
  have C0 := Lib.hid hc00
  clear ha hc00
  go_enter Try.func27, Try.ntmps27
  go_wp2_with fail
  go_loopw [3, 4] (fun v i wr => ∃ (k : Nat) (G C : Nat → Nat), k ≤ c ∧ i = .int .i64 (k : Int) ∧ OwnM wr w.heap.size v G C (Mx.matl k r (Mx.flip f)) ∧ Kp w wr) (fun _ i _ => c - (intOf i).toNat)
  case atStart => exact ⟨0, fun _ => 0, fun _ => 0, Nat.zero_le _, rfl, ownM_none _ _ _ _, Kp.rfl' _⟩
  case round =>
    obtain ⟨k, G, C, hk, rfl, ho, hkp⟩ := hrel
    obtain ⟨wo, hwo⟩ : ∃ x, x = wr := ⟨_, rfl⟩
    subst hwo
    have hc0 := (hkp.cell (p := ad) hlt0).trans C0.out
    have HO := Lib.hid ho
    have HK := Lib.hid hkp
    clear ho hkp
    by_cases hlt : k < c
    · have HS := Lib.hid (show Mx.matl (k + 1) r (Mx.flip f) = Mx.matl k r (Mx.flip f) ++ [Mx.row r fun j => ((f j k).val : Int)] by rw [Mx.matl, Mx.tab_snoc]; rfl)
      go_wp2_with fail
      go_loopw [5, 6] (fun u i wq => ∃ t : Nat, t ≤ r ∧ i = .int .i64 (t : Int) ∧ Own wq wo.heap.size u (Mx.row t fun j => ((f j k).val : Int)) ∧ Kp wo wq) (fun _ i _ => r - (intOf i).toNat)
      case atStart => exact ⟨0, Nat.zero_le _, rfl, Own.none _ _, Kp.rfl' _⟩
      case round =>
        obtain ⟨t, ht, rfl, hu, hkq⟩ := hrel
        have HU := Lib.hid hu
        have HQ := Lib.hid hkq
        by_cases hlt2 : t < r
        · obtain ⟨ad', A1, d1, ea, _, x1, _, l1⟩ := (HA.out.keep (HK.out.trans hkq)).row hlt2
          obtain rfl := Option.some.inj ea
          obtain ⟨ad1, rfl, _, x2⟩ := l1.el hlt
          clear hu hkq l1
          have hlen : (Mx.row t fun j => ((f j k).val : Int)).length + 1 ≤ 17000000000000 := by rw [Mx.len_row]; omega
          have hsz := HQ.out.size
          have HSN := Lib.hid (Mx.row_snoc t fun j => ((f j k).val : Int))
          generalize ((f t k).val : Int) = z at *
          go_wp2_with (at_builtin; refine wpList_push rfl _ _ rfl wo.heap.size _ (Mx.row t fun j => ((f j k).val : Int)) z wr.heap.size 1 rfl rfl (HU.out.new _) (by simp; done) hlen (Nat.le_trans hsz ((Kp.rfl' _).new _).size) ?_; intro v' w' h1 h2 _)
          have HU' := Lib.hid h1
          have HQ' := Lib.hid (own_below (HU.out.new _) (HQ.out.new _) (by have := HQ.out.size; simp; omega) h2)
          clear h1 h2
          go_wp2_with fail
          go_roundw
          case rel => exact ⟨t + 1, by omega, by go_num, by rw [HSN.out]; exact HU'.out, HQ'.out⟩
          case measure => simp [intOf]; omega
        · obtain rfl : t = r := by omega
          obtain ⟨g, gc, rfl, hg, hgc⟩ := own_some hu (by rw [Mx.len_row]; exact hr0)
          rw [Mx.len_row] at HU hgc ⊢
          clear hu hkq
          have OM := Lib.hid (HO.out.kp HQ.out)
          have HAP := Lib.hid (show ∀ i, i < (Mx.matl k t (Mx.flip f)).length → G i ≠ g from fun i hi => by have := (HO.out.lt hi).2; omega)
          go_wp2_with (at_builtin; refine wpList_pushM rfl _ _ rfl w.heap.size _ G C (Mx.matl k t (Mx.flip f)) _ g t gc _ 1 (Mx.len_row _ _) rfl rfl (OM.out.new _) (by simp; done) ((HU.out.from HK.out.size).new _) HAP.out (by rw [Mx.len_matl]; omega) (Nat.le_trans HK.out.size (Nat.le_trans HQ.out.size ((Kp.rfl' _).new _).size)) ?_; intro v' w' G' C' ho' hk')
          have HO' := Lib.hid ho'
          have HK' := Lib.hid (hk' w (Nat.le_refl _) ((HK.out.trans HQ.out).new _))
          clear ho' hk'
          go_wp2_with fail
          go_roundw
          case rel => exact ⟨k + 1, G', C', by omega, by go_num, by rw [HS.out]; exact HO'.out, HK'.out⟩
          case measure => simp [intOf]; omega
    · obtain rfl : k = c := by omega
      go_wp2_with fail
      go_ret
      exact ⟨_, G, C, rfl, HO.out, HK.out⟩
theorem rFlip_any (A : Option Addr) (f : Nat → Nat → Fp.F) (r c d : Nat) (w : World) (ha : LiesM w A (Mx.matl r c f)) (hr0 : 0 < r) (hr : r ≤ 1000) (hc : c ≤ 1000) :
    Calls Try.prog 27 #[.slice A r d] w fun e w' => Made c r (Mx.flip f) w e w' :=
  (rFlip_own A f r c d w ha hr0 hr hc).mono fun e w' ⟨v, G, C, he, ho, hk⟩ => by
    obtain ⟨A', d', hv, hl, _⟩ := ho.lies
    rw [Mx.len_matl] at hv
    exact ⟨A', d', by rw [he, hv], hl, hk⟩

end Go.Proofs.Ytologiinkilooaa

/- Contracts of the document's answer on matrices, second part: Copy, MatMul, MatAdd, Matrix, Field. For all packages. -/
namespace Go.Proofs.Ytologiinkilooaa
open Go.ChangeShapes Go.WideShapes Go.ChangeAt Go.RowKit
set_option linter.unusedVariables false

/-- Where the heads lie. -/
theorem OwnM.some {w : World} {B : Nat} {v : Value} {G C : Nat → Nat} {m : List (List Int)} (h : OwnM w B v G C m) (h0 : 0 < m.length) : ∃ g c, v = .slice (.some ⟨g, 0, .none⟩) m.length c ∧ B ≤ g := by
  rcases h.top.2 with ⟨_, h1⟩ | ⟨g, cap, cur, e, hg, _⟩
  · omega
  · exact ⟨g, cap, e, hg⟩

set_option maxRecDepth 100000 in
set_option maxHeartbeats 3200000 in
theorem rCopy_any (A : Option Addr) (f : Nat → Nat → Fp.F) (r c d : Nat) (w : World) (ha : LiesM w A (Mx.matl r c f)) (hc0 : 0 < c) (hr : r ≤ 1000) (hc : c ≤ 1000) :
    Calls Try.prog 18 #[.slice A r d] w fun e w' => MadeOwn r c f w e w' := by
  have HA := Lib.hid ha
  clear ha
  go_enter Try.func18, Try.ntmps18
  go_wp2_with fail
  go_loopw [3, 4] (fun v i wr => ∃ (k : Nat) (G C : Nat → Nat), k ≤ r ∧ i = .int .i64 (k : Int) ∧ OwnM wr w.heap.size v G C (Mx.matl k c f) ∧ Kp w wr) (fun _ i _ => r - (intOf i).toNat)
  case atStart => exact ⟨0, fun _ => 0, fun _ => 0, Nat.zero_le _, rfl, ownM_none _ _ _ _, Kp.rfl' _⟩
  case round =>
    obtain ⟨k, G, C, hk, rfl, ho, hkp⟩ := hrel
    have HO := Lib.hid ho
    have HK := Lib.hid hkp
    by_cases hlt : k < r
    · obtain ⟨ad, A1, d1, rfl, _, x1, _, l1⟩ := (HA.out.keep hkp).row hlt
      clear ho hkp
      have L1 := Lib.hid l1
      clear l1
      have HS := Lib.hid (show Mx.matl (k + 1) c f = Mx.matl k c f ++ [Mx.row c fun j => ((f k j).val : Int)] by rw [Mx.matl, Mx.tab_snoc]; rfl)
      go_wp2_with (first
        | (at_builtin; refine wpList_cat rfl _ _ rfl wr.heap.size _ [] (Mx.row c fun j => ((f k j).val : Int)) A1 c d1 rfl rfl (Mx.len_row _ _).symm (Own.none _ _) L1.out (by rw [Mx.len_row]; simp; omega) (Nat.le_refl _) ?_; intro v1 w2 h1 h2 _; have kp2 : Kp wr w2 := own_below (Own.none wr wr.heap.size) (Kp.rfl' _) (Nat.le_refl _) h2; rw [List.nil_append] at h1; obtain ⟨g, gc, rfl, hg, hgc⟩ := own_some h1 (by rw [Mx.len_row]; exact hc0); rw [Mx.len_row] at h1 hgc ⊢; have HU := Lib.hid h1; have HQ := Lib.hid kp2; have OM := Lib.hid (HO.out.kp kp2); have HAP := Lib.hid (show ∀ i, i < (Mx.matl k c f).length → G i ≠ g from fun i hi => by have := (HO.out.lt hi).2; omega); clear h1 h2 kp2)
        | (at_builtin; refine wpList_pushM rfl _ _ rfl w.heap.size _ G C (Mx.matl k c f) _ g c gc _ 1 (Mx.len_row _ _) rfl rfl (OM.out.new _) (cell_made _ _ _ _ 0 rfl) ((HU.out.from HK.out.size).new _) HAP.out (by rw [Mx.len_matl]; omega) (Nat.le_trans HK.out.size (Nat.le_trans HQ.out.size ((Kp.rfl' _).new _).size)) ?_; intro v' w' G' C' ho' hk'))
      have HO' := Lib.hid ho'
      have HK' := Lib.hid (hk' w (Nat.le_refl _) ((HK.out.trans HQ.out).new _))
      clear ho' hk'
      go_wp2_with fail
      go_roundw
      case rel => exact ⟨k + 1, G', C', by omega, by go_num, by rw [HS.out]; exact HO'.out, HK'.out⟩
      case measure => simp [intOf]; omega
    · obtain rfl : k = r := by omega
      clear ho hkp
      go_wp2_with fail
      go_ret
      exact ⟨_, G, C, rfl, HO.out, HK.out⟩



end Go.Proofs.Ytologiinkilooaa

/- Contracts of the document's answer on matrices of whole numbers: Copy, Without. For all packages. -/
namespace Go.Proofs.Ytologiinkilooaa
open Go.ChangeShapes Go.WideShapes Go.ChangeAt Go.RowKit
set_option linter.unusedVariables false

set_option maxRecDepth 100000 in
set_option maxHeartbeats 3200000 in
theorem rCopyZ_any (A : Option Addr) (f : Nat → Nat → Int) (r c d : Nat) (w : World) (ha : LiesM w A (Mx.tab r c f)) (hc0 : 0 < c) (hr : r ≤ 1000) (hc : c ≤ 1000) :
    Calls Try.prog 18 #[.slice A r d] w fun e w' => ∃ v G C, e = .returned v ∧ OwnM w' w.heap.size v G C (Mx.tab r c f) ∧ Kp w w' := by
  have HA := Lib.hid ha
  clear ha
  go_enter Try.func18, Try.ntmps18
  go_wp2_with fail
  go_loopw [3, 4] (fun v i wr => ∃ (k : Nat) (G C : Nat → Nat), k ≤ r ∧ i = .int .i64 (k : Int) ∧ OwnM wr w.heap.size v G C (Mx.tab k c f) ∧ Kp w wr) (fun _ i _ => r - (intOf i).toNat)
  case atStart => exact ⟨0, fun _ => 0, fun _ => 0, Nat.zero_le _, rfl, ownM_none _ _ _ _, Kp.rfl' _⟩
  case round =>
    obtain ⟨k, G, C, hk, rfl, ho, hkp⟩ := hrel
    have HO := Lib.hid ho
    have HK := Lib.hid hkp
    by_cases hlt : k < r
    · obtain ⟨ad, A1, d1, rfl, _, x1, _, l1⟩ := (HA.out.keep hkp).row hlt
      clear ho hkp
      have L1 := Lib.hid l1
      clear l1
      have HS := Lib.hid (show Mx.tab (k + 1) c f = Mx.tab k c f ++ [Mx.row c fun j => f k j] by exact Mx.tab_snoc k c f)
      go_wp2_with (first
        | (at_builtin; refine wpList_cat rfl _ _ rfl wr.heap.size _ [] (Mx.row c fun j => f k j) A1 c d1 rfl rfl (Mx.len_row _ _).symm (Own.none _ _) L1.out (by rw [Mx.len_row]; simp; omega) (Nat.le_refl _) ?_; intro v1 w2 h1 h2 _; have kp2 : Kp wr w2 := own_below (Own.none wr wr.heap.size) (Kp.rfl' _) (Nat.le_refl _) h2; rw [List.nil_append] at h1; obtain ⟨g, gc, rfl, hg, hgc⟩ := own_some h1 (by rw [Mx.len_row]; exact hc0); rw [Mx.len_row] at h1 hgc ⊢; have HU := Lib.hid h1; have HQ := Lib.hid kp2; have OM := Lib.hid (HO.out.kp kp2); have HAP := Lib.hid (show ∀ i, i < (Mx.tab k c f).length → G i ≠ g from fun i hi => by have := (HO.out.lt hi).2; omega); clear h1 h2 kp2)
        | (at_builtin; refine wpList_pushM rfl _ _ rfl w.heap.size _ G C (Mx.tab k c f) _ g c gc _ 1 (Mx.len_row _ _) rfl rfl (OM.out.new _) (cell_made _ _ _ _ 0 rfl) ((HU.out.from HK.out.size).new _) HAP.out (by rw [Mx.len_tab]; omega) (Nat.le_trans HK.out.size (Nat.le_trans HQ.out.size ((Kp.rfl' _).new _).size)) ?_; intro v' w' G' C' ho' hk'))
      have HO' := Lib.hid ho'
      have HK' := Lib.hid (hk' w (Nat.le_refl _) ((HK.out.trans HQ.out).new _))
      clear ho' hk'
      go_wp2_with fail
      go_roundw
      case rel => exact ⟨k + 1, G', C', by omega, by go_num, by rw [HS.out]; exact HO'.out, HK'.out⟩
      case measure => simp [intOf]; omega
    · obtain rfl : k = r := by omega
      clear ho hkp
      go_wp2_with fail
      go_ret
      exact ⟨_, G, C, rfl, HO.out, HK.out⟩


end Go.Proofs.Ytologiinkilooaa

/- The law TopDets. -/
namespace Go.Proofs.Ytologiinkilooaa
open Go.ChangeShapes Go.WideShapes Go.ChangeAt Go.RowKit
set_option linter.unusedVariables false

set_option maxRecDepth 100000 in
set_option maxHeartbeats 12800000 in
theorem walk_TopDets (A : Option Addr) (m : List (List Int)) (c : Nat) (w : World) (ha : LiesM w A m) :
    Calls Try.prog 5 #[.slice A m.length c] w fun e w' => e = .returned (.bool true) ∧ Kp w w' := by
  obtain ⟨n, hn⟩ : ∃ n, n = m.length := ⟨_, rfl⟩
  rw [← hn]
  have HA := Lib.hid ha
  clear ha
  rcases BOf_or A m n c hn.symm with ⟨x, s⟩ | bad
  · have OA := Lib.hid (fun w h => BOf_ok A x m n c w h s)
    have n0 := s.n0
    have n5 := s.n5
    obtain ⟨p, hp⟩ : ∃ p, n = p + 1 := ⟨n - 1, by omega⟩
    have IN := Lib.hid (fun w => topIn_any (Zx.dt n x) (-10000000) 10000000 w true (in_million s))
    have hdb := Zx.dt_bound s.n5 s.nine (Nat.le_refl n)
    have AB := Lib.hid s.ab
    have HX := Lib.hid (show LiesM w A (Mx.tab n n x) by rw [← s.eq]; exact HA.out)
    have MD := Lib.hid (fun w => rMod_any (Zx.dt n x) w (by omega) (by omega))
    have CO := Lib.hid (fun w1 (k : Kp w w1) => rCopyZ_any A x n n c w1 (HX.out.keep k) n0 (by omega) (by omega))
    obtain ⟨f, hf⟩ : ∃ f : Nat → Nat → Fp.F, f = fun i j => Fp.ofInt (x i j) := ⟨_, rfl⟩
    have HF := Lib.hid (fun i j => show ((f i j).val : Int) = x i j % 9973 by rw [hf, Fp.ofInt_val])
    have SF : Sh n n f (Mx.matl n n f) := ⟨rfl, n0, n5, n0, n5⟩
    have hdt : Zx.dt n x % 9973 = ((Mx.dt n f).val : Int) := by rw [hf, ← Zx.dt_ofInt, Fp.ofInt_val]
    have DO := Lib.hid (fun A d w h => Of_sh (A := A) SF d w h)
    have LO := Lib.hid (fun A d w h => Split_sh (A := A) SF d w h)
    have CH := Lib.hid (fun A d w h => COf_sh (A := A) SF d w h)
    have AD := Lib.hid (fun A d w h => MAdj_sh (A := A) SF hp d w h)
    have C0 := Lib.hid (Mx.ch_low n f)
    have SX := Lib.hid (show (Mx.sg n fun i => f 0 i * Mx.adj p f i 0) = Mx.dt n f by
      have := Mx.adj_right p f 0 0 (by omega) (by omega)
      rw [← hp] at this
      exact this)
    obtain ⟨D, hD⟩ : ∃ D, D = Zx.dt n x := ⟨_, rfl⟩
    rw [← hD] at OA IN MD hdt hdb
    obtain ⟨dd, hdd⟩ : ∃ dd, dd = Mx.dt n f := ⟨_, rfl⟩
    rw [← hdd] at hdt DO C0 SX
    rw [hdt] at MD
    have HDD := Lib.hid hdd
    clear hn s hD SF hdd hdt hf hp
    go_enter Try.func5, Try.ntmps5
    go_wp2_with fail
    refine (OA.out w HA.out).mono ?_; rintro e w2 ⟨rfl, k2⟩
    have K2 := Lib.hid k2; clear k2
    go_wp2_with fail
    refine (CO.out _ K2.out).mono ?_; rintro e w3 ⟨v3, G, C, rfl, ho, k3⟩
    obtain ⟨g, gc, rfl, hg⟩ := ho.some (by rw [Mx.len_tab]; exact n0)
    rw [Mx.len_tab] at ho ⊢
    have HO := Lib.hid ho
    have HK3 := Lib.hid k3
    clear ho k3
    go_wp2_with fail
    go_loopw [6, 7] (fun i _ wr => ∃ k : Nat, k ≤ n ∧ i = .int .i64 (k : Int) ∧ OwnM wr w2.heap.size (.slice (some ⟨g, 0, none⟩) n gc) G C (Mx.tab n n fun a b => if a < k then x a b % 9973 else x a b) ∧ Kp w2 wr) (fun i _ _ => n - (intOf i).toNat)
    case atStart => exact ⟨0, Nat.zero_le _, rfl, HO.out.ext (fun a b _ _ => by rw [if_neg (by omega)]), HK3.out⟩
    case round =>
      obtain ⟨k, hk, rfl, ho, hkp⟩ := hrel
      obtain ⟨wo, hwo⟩ : ∃ x, x = wr := ⟨_, rfl⟩
      subst hwo
      have HO1 := Lib.hid ho
      have HK1 := Lib.hid hkp
      clear ho hkp
      by_cases hlt : k < n
      · go_wp2_with fail
        go_loopw [7] (fun i wq => ∃ q : Nat, q ≤ n ∧ i = .int .i64 (q : Int) ∧ OwnM wq w2.heap.size (.slice (some ⟨g, 0, none⟩) n gc) G C (Mx.tab n n fun a b => if a < k ∨ (a = k ∧ b < q) then x a b % 9973 else x a b) ∧ Kp w2 wq) (fun i _ => n - (intOf i).toNat)
        case atStart => exact ⟨0, Nat.zero_le _, rfl, HO1.out.ext (fun a b _ _ => by
          by_cases e : a < k
          · rw [if_pos e, if_pos (.inl e)]
          · rw [if_neg e, if_neg (by omega)]), HK1.out⟩
        case round =>
          obtain ⟨q, hq, rfl, ho, hkq⟩ := hrel
          by_cases hlt2 : q < n
          · have y1 := ho.weak.head hlt
            have y2 := ho.weak.el hlt hlt2
            have y3 := ho.weak.free hlt q
            have y4 := (ho.weak.lt hlt).1
            obtain ⟨ad, A1, d1, rfl, _, z1, _, l1⟩ := (HX.out.keep (K2.out.trans hkq)).row hlt
            obtain ⟨ad1, rfl, _, z2⟩ := l1.el hlt2
            have HO2 := Lib.hid ho
            have HK2 := Lib.hid hkq
            have v1 := AB.out k q hlt hlt2
            have M1 := Lib.hid (fun w => (rMod_any (x k q) w (by omega) (by omega)))
            obtain ⟨y, hy⟩ : ∃ y, y = x k q % 9973 := ⟨_, rfl⟩
            rw [← hy] at M1
            have HYY := Lib.hid hy
            obtain ⟨n1, hn1⟩ : ∃ n1, n1 = x k q := ⟨_, rfl⟩
            rw [← hn1] at M1 z2
            have Y4 := Lib.hid y4
            clear ho hkq v1 hy hn1 l1 y4
            go_wp2_with fail
            refine wp_region_still_tail 14 (by kernel_rfl) (by kernel_rfl) ?_
            simp only [List.take_succ_cons, List.take_zero, List.drop_succ_cons, List.drop_zero]
            repeat still_step
            still_call ((M1.out _).mono fun _ _ h => ⟨h.1, h.2.symm⟩)
            repeat still_step
            refine wpStill_nil ?_
            change wpList _ _ _ _ _ wr.drew
            go_wp2_with fail
            go_roundw
            case rel =>
              refine ⟨q + 1, by omega, by go_num, ((HO2.out.drewN 1).put hlt q y).ext (fun a b ha hb => ?_), (HK2.out.drewN 1).put (p := ⟨G k, q, none⟩) Y4.out _⟩
              by_cases e : a = k ∧ b = q
              · rw [if_pos e, if_pos (by omega), e.1, e.2]; exact HYY.out
              · rw [if_neg e]
                by_cases e2 : a < k ∨ (a = k ∧ b < q)
                · rw [if_pos e2, if_pos (by omega)]
                · rw [if_neg e2, if_neg (by omega)]
            case measure => simp [intOf]; omega
          · obtain rfl : q = n := by omega
            have HO2 := Lib.hid ho
            have HK2 := Lib.hid hkq
            clear ho hkq
            go_wp2_with fail
            go_roundw
            case rel =>
              refine ⟨k + 1, by omega, by go_num, HO2.out.ext (fun a b ha hb => ?_), HK2.out⟩
              by_cases e : a < k ∨ (a = k ∧ b < q)
              · rw [if_pos e, if_pos (by omega)]
              · rw [if_neg e, if_neg (by omega)]
            case measure => simp [intOf]; omega
      · obtain rfl : k = n := by omega
        have L9 := Lib.hid (show LiesM wo (some ⟨g, 0, none⟩) (Mx.matl k k f) from (HO1.out.ext (f' := fun a b => ((f a b).val : Int)) (fun a b ha _ => by rw [if_pos ha, HF.out])).liesM)
        have K := Lib.hid (K2.out.trans HK1.out)
        clear HO1 HO K2 HK1 HK3
        go_wp2_with fail
        refine (DO.out (some ⟨g, 0, none⟩) gc wo L9.out).mono ?_; rintro e w4 ⟨rfl, k4⟩
        replace K := Lib.hid (K.out.trans k4); replace L9 := Lib.hid (L9.out.keep k4); clear k4
        go_wp2_with fail
        refine (LO.out (some ⟨g, 0, none⟩) gc w4 L9.out).mono ?_; rintro e w5 ⟨t, Ao, d1, Al, d2, Au, d3, ht, rfl, l1, _, l3, k5⟩
        replace K := Lib.hid (K.out.trans k5); replace L9 := Lib.hid (L9.out.keep k5)
        have LOr := Lib.hid l1; have LU := Lib.hid l3; have HT := Lib.hid (ht.is (Nat.le_refl k))
        clear k5 l1 l3 ht
        go_wp2_with fail
        refine (CH.out (some ⟨g, 0, none⟩) gc w5 L9.out).mono ?_; rintro e w6 ⟨Z, cz, rfl, hz, _, k6⟩
        replace K := Lib.hid (K.out.trans k6); replace L9 := Lib.hid (L9.out.keep k6); replace LOr := Lib.hid (LOr.out.keep k6); replace LU := Lib.hid (LU.out.keep k6); have LZ := Lib.hid hz
        clear k6 hz
        go_wp2_with fail
        refine (AD.out (some ⟨g, 0, none⟩) gc w6 L9.out).mono ?_; rintro e w7 ⟨ga, he, hga, k7⟩
        generalize (some ⟨ga, 0, none⟩ : Option Addr) = Aa at he hga
        subst he
        replace K := Lib.hid (K.out.trans k7); replace L9 := Lib.hid (L9.out.keep k7); replace LOr := Lib.hid (LOr.out.keep k7); replace LU := Lib.hid (LU.out.keep k7); replace LZ := Lib.hid (LZ.out.keep k7); have LA := Lib.hid hga
        clear k7 hga
        have hnw : IntKind.i64.wrap ((k : Int) + 1) = (k : Int) + 1 := IntWalk.i64_in _ (by omega)
        go_wp2_with fail
        refine (rSign_any Ao (Mx.row k fun i => (t.s i : Int)) k d1 w7 LOr.out (Mx.len_row _ _) (by omega)).mono ?_; rintro e w8 ⟨y, rfl, hx, k8⟩
        rw [Mx.sp_congr fun i hi => Mx.row_at _ _ _ hi] at hx
        have hxb := hx.bound
        replace K := Lib.hid (K.out.trans k8); replace L9 := Lib.hid (L9.out.keep k8); replace LU := Lib.hid (LU.out.keep k8); replace LZ := Lib.hid (LZ.out.keep k8); replace LA := Lib.hid (LA.out.keep k8)
        have MO := Lib.hid (rMod_any y w8 (by omega) (by omega))
        rw [← Fp.ofInt_val, hx.2] at MO
        obtain ⟨S, hS⟩ : ∃ S, S = Mx.sp k fun i => (t.s i : Int) := ⟨_, rfl⟩
        rw [← hS] at MO
        have HS := Lib.hid (show S * Mx.pr k (fun i => t.u i i) = dd by rw [hS, HDD.out]; exact HT.out.middle)
        clear k8 hx hxb hS LOr
        go_wp2_with fail
        refine (MO.out).mono ?_; rintro e w9 ⟨rfl, rfl⟩
        go_wp2_with fail
        go_loopw [2, 18, 19, 20] (fun _ P Q I wr => ∃ q : Nat, q ≤ k ∧ P = .int .i64 ((S * Mx.pr q (fun i => t.u i i)).val : Int) ∧ Q = .int .i64 ((Mx.sg q fun i => f 0 i * Mx.adj p f i 0).val : Int) ∧ I = .int .i64 (q : Int) ∧ Kp w8 wr) (fun _ _ _ I _ => k - (intOf I).toNat)
        case atStart =>
          refine ⟨0, Nat.zero_le _, ?_, rfl, rfl, Kp.rfl' _⟩
          rw [show S * Mx.pr 0 (fun i => t.u i i) = S from by show S * 1 = S; grind]
        case round =>
          obtain ⟨q, hq, rfl, rfl, rfl, hkp⟩ := hrel
          have HKP := Lib.hid hkp
          by_cases hlt : q < k
          · obtain ⟨ud, U1, e1, rfl, _, x1, _, lu⟩ := (LU.out.keep hkp).row hlt
            obtain ⟨ud1, rfl, _, x2⟩ := lu.el hlt
            obtain ⟨vd, V1, e2, rfl, _, y1, _, lv⟩ := (LA.out.keep hkp).row hlt
            obtain ⟨vd1, rfl, _, y2⟩ := lv.el n0
            rw [add_zero'] at y2
            obtain ⟨gd, W1, e3, eg, _, z1, _, lw⟩ := (L9.out.keep hkp).row n0
            obtain rfl := Option.some.inj eg
            rw [add_zero'] at z1
            obtain ⟨wd1, rfl, _, z2⟩ := lw.el hlt
            have b1 := cval (t.u q q)
            have b2 := cval (Mx.adj p f q 0)
            have b3 := cval (S * Mx.pr q (fun i => t.u i i))
            have b4 := cval (Mx.sg q fun i => f 0 i * Mx.adj p f i 0)
            have b5 := times_bound (S * Mx.pr q (fun i => t.u i i)) (t.u q q)
            have b6 := times_bound (f 0 q) (Mx.adj p f q 0)
            have I1 := Lib.hid (fun w => topIn_any ((t.u q q).val : Int) 0 9972 w true (by simp [b1]))
            have I2 := Lib.hid (fun w => topIn_any ((Mx.adj p f q 0).val : Int) 0 9972 w true (by simp [b2]))
            have M2 := Lib.hid (fun w => rMod_any (((S * Mx.pr q (fun i => t.u i i)).val : Int) * ((t.u q q).val : Int)) w (by omega) (by omega))
            have M3 := Lib.hid (fun w => rMod_any (((Mx.sg q fun i => f 0 i * Mx.adj p f i 0).val : Int) + ((f 0 q).val : Int) * ((Mx.adj p f q 0).val : Int)) w (by omega) (by omega))
            rw [← Fp.mul_val] at M2
            rw [Mx.val_more] at M3
            have hw2 : IntKind.i64.wrap (((S * Mx.pr q (fun i => t.u i i)).val : Int) * ((t.u q q).val : Int)) = ((S * Mx.pr q (fun i => t.u i i)).val : Int) * ((t.u q q).val : Int) := IntWalk.i64_in _ (by omega)
            have hw3 : IntKind.i64.wrap (((f 0 q).val : Int) * ((Mx.adj p f q 0).val : Int)) = ((f 0 q).val : Int) * ((Mx.adj p f q 0).val : Int) := IntWalk.i64_in _ (by omega)
            have hw4 : IntKind.i64.wrap (((Mx.sg q fun i => f 0 i * Mx.adj p f i 0).val : Int) + ((f 0 q).val : Int) * ((Mx.adj p f q 0).val : Int)) = ((Mx.sg q fun i => f 0 i * Mx.adj p f i 0).val : Int) + ((f 0 q).val : Int) * ((Mx.adj p f q 0).val : Int) := IntWalk.i64_in _ (by omega)
            have N2 := Lib.hid (show S * Mx.pr (q + 1) (fun i => t.u i i) = S * Mx.pr q (fun i => t.u i i) * t.u q q by show S * (Mx.pr q (fun i => t.u i i) * t.u q q) = _; grind)
            have N3 := Lib.hid (Mx.sg_succ q fun i => f 0 i * Mx.adj p f i 0)
            rw [← N2.out] at M2
            rw [← N3.out] at M3
            obtain ⟨pz, hpz⟩ : ∃ z, z = ((S * Mx.pr (q + 1) (fun i => t.u i i)).val : Int) := ⟨_, rfl⟩
            obtain ⟨sz, hsz⟩ : ∃ z, z = ((Mx.sg (q + 1) fun i => f 0 i * Mx.adj p f i 0).val : Int) := ⟨_, rfl⟩
            rw [← hpz] at M2
            rw [← hsz] at M3
            have HPZ := Lib.hid hpz
            have HSZ := Lib.hid hsz
            generalize ((S * Mx.pr q (fun i => t.u i i)).val : Int) = p0 at *
            generalize ((Mx.sg q fun i => f 0 i * Mx.adj p f i 0).val : Int) = s0 at *
            generalize ((t.u q q).val : Int) = u0 at *
            generalize ((Mx.adj p f q 0).val : Int) = a0 at *
            generalize ((f 0 q).val : Int) = f0 at *
            clear hkp lu lv lw b1 b2 b3 b4 b5 b6 hpz hsz
            go_wp2_with fail
            refine (I1.out _).mono ?_; rintro e w' ⟨rfl, rfl⟩
            go_wp2_with fail
            refine (I2.out _).mono ?_; rintro e w' ⟨rfl, rfl⟩
            go_wp2_with fail
            refine (M2.out _).mono ?_; rintro e w' ⟨rfl, rfl⟩
            go_wp2_with fail
            go_quiet ((first
              | (with_reducible exact quiet_here (M3.out _))
              | (with_reducible exact quiet_more (M3.out _))))
            go_wp2_with fail
            go_roundw
            case rel => exact ⟨q + 1, by omega, by rw [HPZ.out], by rw [HSZ.out], by go_num, HKP.out.drewN _⟩
            case measure => simp [intOf]; omega
          · obtain rfl : q = k := by omega
            rw [HS.out, SX.out]
            obtain ⟨zd, rfl, _, z0⟩ := chl_el (LZ.out.keep hkp) (Nat.zero_le q)
            rw [add_zero', C0.out] at z0
            have hpos : 0 < q + 1 := Nat.succ_pos q
            have b1 := cval dd
            have b2 := cval (Mx.sgn q * dd)
            have I1 := Lib.hid (fun w => topIn_any ((Mx.sgn q * dd).val : Int) 0 9972 w true (by simp [b2]))
            have hwn : IntKind.i64.wrap (-((Mx.sgn q * dd).val : Int)) = -((Mx.sgn q * dd).val : Int) := IntWalk.i64_in _ (by omega)
            by_cases hpar : q % 2 = 1
            · have e1 : ((q : Int) % 2 == 1) = true := by rw [beq_iff_eq]; omega
              have M1 := Lib.hid (fun w => rMod_any (-((Mx.sgn q * dd).val : Int)) w (by omega) (by omega))
              rw [minus_mod, show -(Mx.sgn q * dd) = dd by unfold Mx.sgn; rw [if_neg (by omega)]; grind] at M1
              generalize ((Mx.sgn q * dd).val : Int) = l0 at *
              generalize (dd.val : Int) = dv at *
              clear hkp b1 b2 hpar
              go_wp2_with fail
              refine (I1.out _).mono ?_; rintro e w' ⟨rfl, rfl⟩
              go_wp2_with fail
              refine (IN.out _).mono ?_; rintro e w' ⟨rfl, rfl⟩
              go_wp2_with fail
              refine (MD.out _).mono ?_; rintro e w' ⟨rfl, rfl⟩
              go_wp2_with fail
              refine (M1.out _).mono ?_; rintro e w' ⟨rfl, rfl⟩
              go_wp2_with fail
              go_ret
              exact ⟨ret_bool (by simp), K.out.trans HKP.out⟩
            · have e1 : ((q : Int) % 2 == 1) = false := by rw [beq_eq_false_iff_ne]; omega
              have M1 := Lib.hid (fun w => rMod_any ((Mx.sgn q * dd).val : Int) w (by omega) (by omega))
              rw [val_mod] at M1
              have hev : ((Mx.sgn q * dd).val : Int) = (dd.val : Int) := by unfold Mx.sgn; rw [if_pos (by omega), show (1 : Fp.F) * dd = dd by grind]
              rw [hev] at M1 z0 I1
              clear hkp b1 b2 hpar hwn hev
              generalize (dd.val : Int) = dv at *
              go_wp2_with fail
              refine (I1.out _).mono ?_; rintro e w' ⟨rfl, rfl⟩
              go_wp2_with fail
              refine (IN.out _).mono ?_; rintro e w' ⟨rfl, rfl⟩
              go_wp2_with fail
              refine (MD.out _).mono ?_; rintro e w' ⟨rfl, rfl⟩
              go_wp2_with fail
              refine (M1.out _).mono ?_; rintro e w' ⟨rfl, rfl⟩
              go_wp2_with fail
              go_ret
              exact ⟨ret_bool (by simp), K.out.trans HKP.out⟩
  · have BAD := Lib.hid bad
    clear hn bad
    go_enter Try.func5, Try.ntmps5
    go_wp2_with fail
    refine (BAD.out w HA.out).mono ?_; rintro e w2 ⟨z, rfl, k2⟩
    have K2 := Lib.hid k2; clear k2
    go_wp2_with fail
    go_ret
    exact ⟨ret_bool (by simp), K2.out⟩

end Go.Proofs.Ytologiinkilooaa
