/- Contracts of package lu, fourth part: Split. -/
import Derived.Test.YtdkdpklohfdpmaaDoorLuM2
import Derived.Test.YtdkdpklohfdpmaaDoorDeC3
import Derived.WalkSpells
import Derived.Deep.CutRange
namespace Go.Proofs.YtdkdpklohfdpmaaDoor
open Go.ChangeShapes Go.WideShapes Go.ChangeAt Go.RowKit
set_option linter.unusedVariables false

/-- An order, what is low, and what is up. -/
def GotSplit (n : Nat) (m : Nat → Nat → Fp.F) (w : World) (e : Ending) (w' : World) : Prop :=
  ∃ (t : Mx.Tri) (Ao : Option Addr) (d1 : Nat) (Al : Option Addr) (d2 : Nat) (Au : Option Addr) (d3 : Nat), Mx.LuTo n m n t ∧ e = .returned (.tuple #[.slice Ao n d1, .slice Al n d2, .slice Au n d3, .nilIface]) ∧
    Lies w' Ao (Mx.row n fun i => (t.s i : Int)) ∧ LiesM w' Al (Mx.matl n n t.low) ∧ LiesM w' Au (Mx.matl n n t.u) ∧ Kp w w'

set_option maxRecDepth 100000 in
set_option maxHeartbeats 1600000 in
theorem Split_bad (A : Option Addr) (m : List (List Int)) (n d : Nat) (w : World) (ha : LiesM w A m) (hn : m.length = n) (h : qcode 5 0 9972 m ≠ 0) :
    Calls Tryd.prog 6 #[.slice A n d] w fun e w' => e = .returned (.tuple #[.slice none 0 0, .slice none 0 0, .slice none 0 0, errOf (qcode 5 0 9972 m)]) ∧ Kp w w' := by
  have CK := Lib.hid (DChk_any A m n d w ha hn)
  rw [errOf_ne _ h] at CK ⊢
  generalize qcode 5 0 9972 m = z at *
  clear ha hn h
  go_enter Tryd.func6, Tryd.ntmps6
  go_wp2_with fail
  refine (CK.out).mono ?_; rintro e w' ⟨rfl, rfl⟩
  go_wp2_with fail
  exact bodyPost_ret (v := .tuple #[.slice none 0 0, .slice none 0 0, .slice none 0 0, .iface 44 (.int .i64 (z : Int))]) (by simp [results, Tryd.results6, go_sem]) rfl ⟨rfl, Kp.rfl' w⟩

set_option maxRecDepth 100000 in
set_option maxHeartbeats 6400000 in
theorem Split_ok (A : Option Addr) (f : Nat → Nat → Fp.F) (n d : Nat) (w : World) (ha : LiesM w A (Mx.matl n n f)) (h0 : 0 < n) (h5 : n ≤ 5) :
    Calls Tryd.prog 6 #[.slice A n d] w fun e w' => GotSplit n f w e w' := by
  have CK := Lib.hid (DChk_any A (Mx.matl n n f) n d w ha (Mx.len_matl _ _ _))
  rw [qcode_matl f h0 h5, errOf_zero] at CK
  have LN := Lib.hid (lines_any A f n d w ha (by omega) h0)
  have N5 := Lib.hid h5
  have hn1 : n ≤ 1000 := by omega
  clear ha h5
  go_enter Tryd.func6, Tryd.ntmps6
  go_wp2_with fail
  refine (CK.out).mono ?_; rintro e w' ⟨rfl, rfl⟩
  go_wp2_with fail
  refine (LN.out).mono ?_; rintro e w1 ⟨g, L0, U0, D0, rfl, hl0, hk0⟩
  have HL0 := Lib.hid hl0
  have HK0 := Lib.hid hk0
  clear hl0 hk0
  go_wp2_with fail
  go_loopw [2, 3, 4, 21] (fun vo vl vu i wr => ∃ (c : Nat) (t : Mx.Tri) (L C U D : Nat → Nat), c ≤ n ∧ vo = .slice none 0 0 ∧ vl = .slice none 0 0 ∧ vu = .slice none 0 0 ∧ i = .int .i64 (c : Int) ∧ Mx.LuTo n f c t ∧ LinT wr w.heap.size g n L C U D t ∧ Kp w wr) (fun _ _ _ i _ => n - (intOf i).toNat)
  case atStart => exact ⟨0, _, _, _, _, _, Nat.zero_le _, rfl, rfl, rfl, rfl, rfl, HL0.out, HK0.out⟩
  case round =>
    obtain ⟨c, t, L, C, U, D, hc, rfl, rfl, rfl, rfl, hto, hl, hkp⟩ := hrel
    obtain ⟨wo, hwo⟩ : ∃ x, x = wr := ⟨_, rfl⟩
    subst hwo
    have HT := Lib.hid hto
    have HL := Lib.hid hl
    have HK := Lib.hid hkp
    clear hto hl hkp HL0 HK0
    by_cases hlt : c < n
    · have hne : ¬ n = c := by omega
      have EL := Lib.hid (elim_any (c := c) (r := n - c) wo HL.out (by omega) hn1 (by omega))
      go_wp2_with fail
      refine (EL.out).mono ?_; rintro e w2 ⟨rfl, ⟨t', L', C', U', D', hl', hst⟩, hk'⟩
      have HL' := Lib.hid hl'
      have HK' := Lib.hid (hk' w (Nat.le_refl _) HK.out)
      have HT' := Lib.hid (show Mx.LuTo n f (c + 1) t' from ⟨t, HT.out, hst⟩)
      clear hl' hk' hst
      go_wp2_with fail
      go_roundw
      case rel => exact ⟨c + 1, t', L', C', U', D', by omega, rfl, rfl, rfl, by go_num, HT'.out, HL'.out, HK'.out⟩
      case measure => simp [intOf]; omega
    · obtain rfl : c = n := by omega
      have ST := Lib.hid (show Out3 w wo w.heap.size wo.heap.size g c t.s L C U D (fun p q => if p < 0 ∧ q = p then 1 else ((t.l p q).val : Int)) (fun p q => ((t.u p q).val : Int)) (.slice none 0 0) (Mx.row 0 fun i => (t.s i : Int)) (.slice none 0 0) 0 (.slice none 0 0) 0 from
        ⟨HK.out, Nat.le_refl _, ⟨HK.out.size, Nat.le_refl _⟩, HL.out.ext fun i j _ _ => ⟨by rw [if_neg (by omega)], rfl⟩, ⟨HL.out.top.lt, fun i hi => ⟨(HL.out.lb hi).2, (HL.out.ub hi).2⟩⟩, Own.none _ _, hdsV_none _ _ _, hdsV_none _ _ _, .inl rfl⟩)
      obtain ⟨B2, hB2⟩ : ∃ x, x = wo.heap.size := ⟨_, rfl⟩
      rw [← hB2] at ST
      clear hB2
      go_wp2_with fail
      go_loopw [2, 3, 4, 35] (fun vo vl vu i wr => ∃ k : Nat, k ≤ c ∧ i = .int .i64 (k : Int) ∧ Out3 w wr w.heap.size B2 g c t.s L C U D (fun p q => if p < k ∧ q = p then 1 else ((t.l p q).val : Int)) (fun p q => ((t.u p q).val : Int)) vo (Mx.row k fun i => (t.s i : Int)) vl k vu k) (fun _ _ _ i _ => c - (intOf i).toNat)
      case atStart => exact ⟨0, Nat.zero_le _, rfl, ST.out⟩
      case round =>
        obtain ⟨k, hk, rfl, ho⟩ := hrel
        obtain ⟨wp, hwp⟩ : ∃ x, x = wr := ⟨_, rfl⟩
        subst hwp
        have HO := Lib.hid ho
        clear ST
        by_cases hlt2 : k < c
        · have x0 := ho.lin.top.cell0 hlt2
          have x1 := ho.lin.top.cell1 hlt2
          have x2 := ho.lin.top.cell2 hlt2
          unfold lnv at x0 x1 x2
          obtain ⟨wb, hwb⟩ : ∃ x, x = wp.alloc (.cells #[.int .i64 (t.s k : Int), .slice (some ⟨L k, 0, none⟩) c (C k), .slice (some ⟨U k, 0, none⟩) c (D k)] 43) := ⟨_, rfl⟩
          have kb : Kp wp wb := by rw [hwb]; exact (Kp.rfl' wp).new _
          have bb : Bx wb wp.heap.size (.int .i64 (t.s k : Int)) (.slice (some ⟨L k, 0, none⟩) c (C k)) (.slice (some ⟨U k, 0, none⟩) c (D k)) := by
            rw [hwb]; exact ⟨cell_made _ _ _ _ 0 rfl, cell_made _ _ _ _ 1 rfl, cell_made _ _ _ _ 2 rfl⟩
          have hqL : some wp.heap.size ≠ some (L k) := fun e => by have e2 := Option.some.inj e; have := (ho.lin.lb hlt2).2; omega
          obtain ⟨wc, hwc⟩ : ∃ x, x = wb.setCell ⟨L k, k, none⟩ (.int .i64 1) := ⟨_, rfl⟩
          have O1 := Lib.hid (show Out3 w wc _ _ _ _ _ _ _ _ _ _ _ _ _ _ _ _ _ by rw [hwc]; exact (ho.keep kb).put hlt2 k 1)
          have B1 := Lib.hid (show Bx wc wp.heap.size _ _ _ by rw [hwc]; exact bb.grown (set_grown wb ⟨L k, k, none⟩ (.int .i64 1)) hqL)
          have y3 := (ho.keep kb).lin.lc hlt2 hlt2
          have y4 := (ho.keep kb).lin.lf hlt2 k
          rw [hwb] at y3 y4 hwc
          have y5 := ((Kp.rfl' wp).new (.cells #[.int .i64 (t.s k : Int), .slice (some ⟨L k, 0, none⟩) c (C k), .slice (some ⟨U k, 0, none⟩) c (D k)] 43)).cell (p := ⟨L k, k, none⟩) (ho.lin.lb hlt2).2
          have HWC := Lib.hid hwc
          have HQO := Lib.hid (show some wp.heap.size ≠ u2.ownBlock from fun e => by have := (World.ownsRow.lt ho.o _ e.symm).2; omega)
          have HQL := Lib.hid (show some wp.heap.size ≠ u3.ownBlock from fun e => by have := (hds_far ho.hl e.symm).2; omega)
          clear hwb kb bb hqL hwc ho
          go_upto_region 16 with (fail)
          rw [← HWC.out]
          have q0 := B1.out.c0
          have ES := Lib.hid (Mx.row_snoc k fun i => (t.s i : Int))
          clear HWC x0 x1 x2 y3 y4 y5
          go_wp2_with (at_builtin; first
            | (refine wpList_push rfl _ _ rfl B2 _ (Mx.row k fun i => (t.s i : Int)) (t.s k : Int) wc.heap.size 1 rfl rfl (O1.out.keep ((Kp.rfl' wc).new _)).o (cell_made _ _ _ _ 0 rfl) (by rw [Mx.len_row]; omega) (O1.out.keep ((Kp.rfl' wc).new _)).hB2.2 ?_
               intro vo' wq h1 h2 _
               rw [← ES.out] at h1
               have O2 := Lib.hid ((O1.out.keep ((Kp.rfl' wc).new _)).pushO h1 h2)
               have BX := Lib.hid ((B1.out.keep ((Kp.rfl' wc).new _)).grown h2 HQO.out)
               have q1 := BX.out.c1
               clear h1 h2 q0)
            | (refine wpList_pushH rfl _ _ rfl B2 u3 k _ _ wq.heap.size 1 rfl rfl (O2.out.keep ((Kp.rfl' wq).new _)).hl (cell_made _ _ _ _ 0 rfl) rfl rfl (by omega) (O2.out.keep ((Kp.rfl' wq).new _)).hB2.2 ?_
               intro vl' ws h1 h2 h3
               have O3 := Lib.hid ((O2.out.keep ((Kp.rfl' wq).new _)).pushL h1 h2 h3)
               have BY := Lib.hid ((BX.out.keep ((Kp.rfl' wq).new _)).grown h2 HQL.out)
               have q2 := BY.out.c2
               clear h1 h2 h3 q1)
            | (refine wpList_pushH rfl _ _ rfl B2 u4 k _ _ ws.heap.size 1 rfl rfl (O3.out.keep ((Kp.rfl' ws).new _)).hu (cell_made _ _ _ _ 0 rfl) rfl rfl (by omega) (O3.out.keep ((Kp.rfl' ws).new _)).hB2.2 ?_
               intro vu' wt h1 h2 h3
               have O4 := Lib.hid ((O3.out.keep ((Kp.rfl' ws).new _)).pushU h1 h2 h3)
               clear h1 h2 h3 q2))
          go_roundw
          case rel =>
            exact ⟨k + 1, by omega, by go_num, O4.out.ext fun p q _ _ => by
              by_cases e : p = k ∧ q = k
              · rw [if_pos e, if_pos (by omega)]
              · rw [if_neg e]
                by_cases e2 : p < k ∧ q = p
                · rw [if_pos e2, if_pos (by omega)]
                · rw [if_neg e2, if_neg (by omega)]⟩
          case measure => simp [intOf]; omega
        · obtain rfl : k = c := by omega
          obtain ⟨Ao, d1, e1, l1, _⟩ := ho.o.cap
          rw [Mx.len_row] at e1
          obtain ⟨Al, d2, e2, _, l2⟩ := ho.hl.lies (m := Mx.matl k k t.low) (Mx.len_matl _ _ _) (fun i hi => by
            rw [Mx.matl, Mx.tab_at _ _ _ _ hi, Mx.len_row]
            have h := ho.lin.low i hi
            obtain ⟨A', c', e', l', hc'⟩ := h.cap
            rw [Mx.len_row] at e' hc'
            cases e'
            refine ⟨_, _, rfl, hc', ?_⟩
            rw [show (Mx.row k fun j => ((t.low i j).val : Int)) = Mx.row k fun q => if i < k ∧ q = i then 1 else ((t.l i q).val : Int) from Mx.row_ext fun j _ => by
              unfold Mx.Tri.low
              by_cases e : j = i
              · rw [if_pos e, if_pos ⟨hi, e⟩]; rfl
              · rw [if_neg e, if_neg (fun h => e h.2)]]
            exact l')
          obtain ⟨Au, d3, e3, _, l3⟩ := ho.hu.lies (m := Mx.matl k k t.u) (Mx.len_matl _ _ _) (fun i hi => by
            rw [Mx.matl, Mx.tab_at _ _ _ _ hi, Mx.len_row]
            have h := ho.lin.up i hi
            obtain ⟨A', c', e', l', hc'⟩ := h.cap
            rw [Mx.len_row] at e' hc'
            cases e'
            exact ⟨_, _, rfl, hc', l'⟩)
          have L1 := Lib.hid l1
          have L2 := Lib.hid l2
          have L3 := Lib.hid l3
          have K4 := Lib.hid ho.kp
          subst e1 e2 e3
          clear l1 l2 l3 ho HO
          go_wp2_with fail
          exact bodyPost_ret (v := .tuple #[.slice Ao k d1, .slice Al k d2, .slice Au k d3, .nilIface]) (by simp [results, Tryd.results6, go_sem]) rfl ⟨t, Ao, d1, Al, d2, Au, d3, HT.out, rfl, L1.out, L2.out, L3.out, K4.out⟩

end Go.Proofs.YtdkdpklohfdpmaaDoor
