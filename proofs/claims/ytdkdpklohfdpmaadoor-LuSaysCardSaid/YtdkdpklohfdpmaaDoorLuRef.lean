/- Contract of the document's answer of package lu: Split. -/
import Derived.Test.YtdkdpklohfdpmaaDoorLuRM
import Derived.Test.YtdkdpklohfdpmaaDoorMxRef5
import Derived.Test.YtdkdpklohfdpmaaDoorRnd
import Derived.StillTailTactics
import Derived.BigQuiet
import Derived.WalkSpells
import Derived.Deep.CutRange
namespace Go.Proofs.YtdkdpklohfdpmaaDoor
open Go.ChangeShapes Go.WideShapes Go.ChangeAt Go.RowKit
set_option linter.unusedVariables false

/-- An order, what is low, and what is up. -/
def MadeSplit (n : Nat) (m : Nat → Nat → Fp.F) (w : World) (e : Ending) (w' : World) : Prop :=
  ∃ (t : Mx.Tri) (Ao : Option Addr) (d1 : Nat) (Al : Option Addr) (d2 : Nat) (Au : Option Addr) (d3 : Nat), Mx.LuTo n m n t ∧ e = .returned (.tuple #[.slice Ao n d1, .slice Al n d2, .slice Au n d3]) ∧
    Lies w' Ao (Mx.row n fun i => (t.s i : Int)) ∧ LiesM w' Al (Mx.matl n n t.low) ∧ LiesM w' Au (Mx.matl n n t.u) ∧ Kp w w'

set_option maxRecDepth 100000 in
set_option maxHeartbeats 12800000 in
theorem rSplit_any (A : Option Addr) (f : Nat → Nat → Fp.F) (n d : Nat) (w : World) (ha : LiesM w A (Mx.matl n n f)) (h0 : 0 < n) (h5 : n ≤ 5) :
    Calls Tryd.prog 5 #[.slice A n d] w fun e w' => MadeSplit n f w e w' := by
  have CP := Lib.hid (rCopy_any A f n n d w ha h0 (by omega) (by omega))
  clear ha
  obtain ⟨i0, hi, hz0, hz1, hz2⟩ := info_parts int_info
  go_enter Tryd.func5, Tryd.ntmps5
  go_wp2_with fail
  refine (CP.out).mono ?_; rintro e w1 ⟨v, U0, D0, rfl, hu0, hk1⟩
  obtain ⟨gu, cu, rfl, hgu⟩ := hu0.some (by rw [Mx.len_matl]; exact h0)
  rw [Mx.len_matl] at hu0 ⊢
  have HU0 := Lib.hid hu0
  have HK1 := Lib.hid hk1
  have HGU := Lib.hid hgu
  clear hu0 hk1 hgu CP
  go_wp2_with fail
  go_loopw [7, 8, 9] (fun vl vo i wr => ∃ (k : Nat) (G : Nat → Nat), k ≤ n ∧ i = .int .i64 (k : Int) ∧ LowOrd w1 wr w1.heap.size n k G vl vo (Mx.row k fun i => (i : Int))) (fun _ _ i _ => n - (intOf i).toNat)
  case atStart => exact ⟨0, fun _ => 0, Nat.zero_le _, rfl, ⟨Kp.rfl' _, ⟨Nat.le_refl _, Nat.le_refl _⟩, hdsV_none _ _ _, fun i hi => absurd hi (by omega), fun i j hi => absurd hi (by omega), Own.none _ _, fun i hi => absurd hi (by omega)⟩⟩
  case round =>
    obtain ⟨k, G, hk, rfl, ho⟩ := hrel
    obtain ⟨wp, hwp⟩ : ∃ x, x = wr := ⟨_, rfl⟩
    subst hwp
    have HO := Lib.hid ho
    by_cases hlt : k < n
    · have HZ := Lib.hid (show (∀ i, i < k → G i ≠ wp.heap.size) ∧ some wp.heap.size ≠ u8.ownBlock from
        ⟨fun i hi e => by have := (World.ownsRow.lt (ho.rows i hi) (G i) rfl).2; omega, fun e => by have := (World.ownsRow.lt ho.o _ e.symm).2; omega⟩)
      have HBW := Lib.hid ho.hB.2
      have ES := Lib.hid (Mx.row_snoc k fun i => (i : Int))
      clear ho
      go_wp2_with (first
        | (at_make; refine wpList_make_full _ rfl _ _ 24 rfl wp.heap.size 3 i0 (.int .i64 0) 1 Tryd.underlying24 hi hz0 hz1 _ _ _ _ n rfl rfl rfl rfl (by rw [hz2]; omega) (by unfold maxLen; omega) (Nat.le_refl _) ?_
           intro w2 hown hgrow
           have K2 : Kp wp w2 := (Kp.rfl' wp).grown hgrow (by simp) (fun k hk => by cases hk)
           have O2 := Lib.hid (HO.out.keep K2)
           have R2 := Lib.hid (show Own w2 w1.heap.size (.slice (some ⟨wp.heap.size, 0, none⟩) n n) (Mx.row n fun _ => 0) by
             have := (row_made hown).own (B := w1.heap.size) (n := n) HBW.out (by simp) (by omega)
             rwa [Mx.row_rep] at this)
           clear K2 hown hgrow)
        | (at_builtin; first
          | (refine wpList_pushK rfl _ _ rfl w1.heap.size u7 k _ (fun i => .slice (some ⟨if i = k then wp.heap.size else G i, 0, none⟩) n n) _ w2.heap.size 1 rfl rfl (O2.out.keep ((Kp.rfl' w2).new _)).hl (cell_made _ _ _ _ 0 rfl) rfl (by simp) (fun i hi => by rw [if_neg (by omega)]) (by omega) (O2.out.keep ((Kp.rfl' w2).new _)).hB.2 ?_
             intro vl' w3 h1 h2 _
             have O3 := Lib.hid ((O2.out.keep ((Kp.rfl' w2).new _)).pushL (R2.out.new _) HZ.out.1 HZ.out.2 h1 h2)
             clear h1 h2)
          | (refine wpList_push rfl _ _ rfl w1.heap.size u8 (Mx.row k fun i => (i : Int)) (k : Int) w3.heap.size 1 rfl rfl (O3.out.keep ((Kp.rfl' w3).new _)).o (cell_made _ _ _ _ 0 rfl) (by rw [Mx.len_row]; omega) (O3.out.keep ((Kp.rfl' w3).new _)).hB.2 ?_
             intro vo' w4 h1 h2 h3
             rw [← ES.out] at h1
             have O4 := Lib.hid ((O3.out.keep ((Kp.rfl' w3).new _)).pushO h1 h2 h3)
             clear h1 h2 h3)))
      go_roundw
      case rel => exact ⟨k + 1, _, by omega, by go_num, O4.out⟩
      case measure => simp [intOf]; omega
    · obtain rfl : n = k := by omega
      obtain ⟨gl, cl, rfl, hgl⟩ := ho.mat.some (by rw [Mx.len_tab]; exact h0)
      obtain ⟨go, co, rfl, hgo, _⟩ := own_some ho.o (by rw [Mx.len_row]; exact h0)
      have hm := ho.mat
      have hoo := ho.o
      rw [Mx.len_tab] at hm ⊢
      rw [Mx.len_row] at hoo ⊢
      have hU : ∀ i, i < n → U0 i < w1.heap.size := fun i hi => (HU0.out.lt (by rw [Mx.len_matl]; exact hi)).2
      have hL : ∀ i, i < n → w1.heap.size ≤ G i := fun i hi => (World.ownsRow.lt (ho.rows i hi) (G i) rfl).1
      have hgu : gu < w1.heap.size := (World.ownsRow.lt HU0.out.top gu rfl).2
      have T0 := Lib.hid (show TabT wp w.heap.size gu cu gl cl go co n G (fun _ => n) U0 D0 (Mx.tri0 f) from
        ⟨HU0.out.kp ho.kp, ownM_from hm HK1.out.size, Own.from hoo HK1.out.size, by omega, fun i j hi hj => by have := hU j hj; have := hL i hi; omega, fun i hi e => ho.ne i hi (by rw [e]; rfl), fun i hi => by have := hU i hi; omega⟩)
      have K0 := Lib.hid (HK1.out.trans ho.kp)
      clear hm hoo hU hL hgu ho HO hgl hgo HU0 HGU
      go_wp2_with fail
      go_loopw [10] (fun i wr => ∃ (c : Nat) (t : Mx.Tri) (L C U D : Nat → Nat), c ≤ n ∧ i = .int .i64 (c : Int) ∧ Mx.LuTo n f c t ∧ TabT wr w.heap.size gu cu gl cl go co n L C U D t ∧ Kp w wr) (fun i _ => n - (intOf i).toNat)
      case atStart => exact ⟨0, _, _, _, _, _, Nat.zero_le _, rfl, rfl, T0.out, K0.out⟩
      case round =>
        obtain ⟨c, t, L, C, U, D, hc, rfl, hto, ht, hkp⟩ := hrel
        obtain ⟨wo, hwo⟩ : ∃ x, x = wr := ⟨_, rfl⟩
        subst hwo
        have HT := Lib.hid hto
        have TT := Lib.hid ht
        have HK := Lib.hid hkp
        clear hto ht hkp T0 K0
        by_cases hlt : c < n
        · go_wp2_with fail
          go_loop [11] (fun i => ∃ k : Nat, c ≤ k ∧ k ≤ n ∧ i = .int .i64 (k : Int) ∧ ∀ j, c ≤ j → j < k → t.u j c = 0) (fun i => n - (intOf i).toNat)
          case atStart => exact ⟨c, Nat.le_refl _, by omega, rfl, fun j h1 h2 => absurd h1 (by omega)⟩
          case round =>
            obtain ⟨k, hck, hkn, rfl, hz⟩ := hrel
            have HZ := Lib.hid hz
            clear hz
            by_cases hlt2 : k < n
            · have z1 := TT.out.up.weak.head hlt2
              have z2 := TT.out.up.weak.el hlt2 hlt
              by_cases hu0 : t.u k c = 0
              · rw [hu0, show (((0 : Fp.F).val : Nat) : Int) = 0 from rfl] at z2
                have HZ2 := Lib.hid (show ∀ j, c ≤ j → j < k + 1 → t.u j c = 0 from fun j h1 h2 => by
                  by_cases e : j = k
                  · rw [e]; exact hu0
                  · exact HZ.out j h1 (by omega))
                clear hu0
                go_wp2_with fail
                go_round
                case rel => exact ⟨k + 1, by omega, by omega, by go_num, HZ2.out⟩
                case measure => simp [intOf]; omega
              · have FST := Lib.hid (show First n t.u c c k from ⟨hck, hkn, HZ.out, fun _ => hu0⟩)
                have hpv : (t.swp c k).u c c ≠ 0 := by show t.u (Mx.sw c k c) c ≠ 0; rw [Mx.sw_left]; exact hu0
                have HPV := Lib.hid hpv
                have e1 : (((t.u k c).val : Int) == 0) = false := by
                  have := Fp.ne_val hu0
                  rw [beq_eq_false_iff_ne]; omega
                have e2 : ((k : Int) == (n : Int)) = false := by rw [beq_eq_false_iff_ne]; omega
                have hT := TT.out
                have y1 := hT.up.weak.head hlt
                have y2 := hT.up.weak.topFree c
                have hset := hT.up.weak.set hlt (hT.up.weak.row k hlt2)
                obtain ⟨v3, y3⟩ : ∃ v, (wo.setCell ⟨gu, c, none⟩ (.slice (some ⟨U k, 0, none⟩) n (D k))).cell? ⟨gu, k, none⟩ = some v := ⟨_, hset.head hlt2⟩
                have y4 := hset.topFree k
                obtain ⟨w2, hw2⟩ : ∃ x, x = set2 wo gu c k (.slice (some ⟨U k, 0, none⟩) n (D k)) (.slice (some ⟨U c, 0, none⟩) n (D c)) := ⟨_, rfl⟩
                have T2 := Lib.hid (show Tab3 w2 _ _ _ _ _ _ _ _ _ _ _ _ _ _ _ by rw [hw2]; exact hT.swU hlt hlt2)
                have K2 := Lib.hid (show Kp w w2 by rw [hw2]; exact set2_kp HK.out hT.bu.1 _ _ _ _)
                unfold set2 at hw2
                have HW2 := Lib.hid hw2
                generalize ((t.u k c).val : Int) = z0 at *
                clear hset hT hw2 hpv hu0
                go_upto_region 20 with (fail)
                rw [← HW2.out]
                clear HW2 y1 y2 y3 y4 z1 z2 e1
                have hT := T2.out
                have y0 := hT.low.weak.head hlt2
                have y1 := hT.low.weak.head hlt
                have y2 := hT.low.weak.topFree c
                have hset := hT.low.weak.set hlt (hT.low.weak.row k hlt2)
                obtain ⟨v4, y3⟩ : ∃ v, (w2.setCell ⟨gl, c, none⟩ (.slice (some ⟨L k, 0, none⟩) n (C k))).cell? ⟨gl, k, none⟩ = some v := ⟨_, hset.head hlt2⟩
                have y4 := hset.topFree k
                obtain ⟨w3, hw3⟩ : ∃ x, x = set2 w2 gl c k (.slice (some ⟨L k, 0, none⟩) n (C k)) (.slice (some ⟨L c, 0, none⟩) n (C c)) := ⟨_, rfl⟩
                have T3 := Lib.hid (show Tab3 w3 _ _ _ _ _ _ _ _ _ _ _ _ _ _ _ by rw [hw3]; exact hT.swL hlt hlt2)
                have K3 := Lib.hid (show Kp w w3 by rw [hw3]; exact set2_kp K2.out hT.bl.1 _ _ _ _)
                unfold set2 at hw3
                have HW3 := Lib.hid hw3
                clear hset hT hw3 T2 K2
                go_upto_region 23 with (fail)
                rw [← HW3.out]
                clear HW3 y0 y1 y2 y3 y4
                have hT := T3.out
                have y0 := own_cell hT.ord k (by rw [Mx.len_row]; exact hlt2)
                have y1 := own_cell hT.ord c (by rw [Mx.len_row]; exact hlt)
                rw [Mx.row_at _ _ _ hlt2] at y0
                rw [Mx.row_at _ _ _ hlt] at y1
                have y2 := own_free hT.ord c
                have y3 := own_cell (own_put hT.ord c (t.s k : Int)) k (by rw [List.length_set, Mx.len_row]; exact hlt2)
                have y4 := own_free (own_put hT.ord c (t.s k : Int)) k
                obtain ⟨w4, hw4⟩ : ∃ x, x = set2 w3 go c k (.int .i64 (t.s k : Int)) (.int .i64 (t.s c : Int)) := ⟨_, rfl⟩
                obtain ⟨t1, ht1⟩ : ∃ x, x = t.swp c k := ⟨_, rfl⟩
                obtain ⟨L1, hL1⟩ : ∃ x : Nat → Nat, x = fun i => L (Mx.sw c k i) := ⟨_, rfl⟩
                obtain ⟨U1, hU1⟩ : ∃ x : Nat → Nat, x = fun i => U (Mx.sw c k i) := ⟨_, rfl⟩
                obtain ⟨C1, hC1⟩ : ∃ x : Nat → Nat, x = fun i => C (Mx.sw c k i) := ⟨_, rfl⟩
                obtain ⟨D1, hD1⟩ : ∃ x : Nat → Nat, x = fun i => D (Mx.sw c k i) := ⟨_, rfl⟩
                have T4 := Lib.hid (show TabT w4 w.heap.size gu cu gl cl go co n L1 C1 U1 D1 t1 by rw [hw4, hL1, hU1, hC1, hD1, ht1]; exact hT.swO hlt hlt2)
                have K4 := Lib.hid (show Kp w w4 by rw [hw4]; exact set2_kp K3.out hT.bo.1 _ _ _ _)
                have HST := Lib.hid (show Mx.LuTo n f (c + 1) (t1.clr c n) by rw [ht1]; exact ⟨t, HT.out, .inr ⟨k, hlt2, FST.out, rfl⟩⟩)
                rw [← ht1] at HPV
                unfold set2 at hw4
                have HW4 := Lib.hid hw4
                clear hT hw4 T3 K3 ht1 hL1 hU1 hC1 hD1
                go_upto_region 26 with (fail)
                rw [← HW4.out]
                clear HW4 y0 y1 y2 y3 y4
                go_wp2_with fail
                go_loopw [14] (fun x wr => ∃ i : Nat, c + 1 ≤ i ∧ i ≤ n ∧ x = .int .i64 (i : Int) ∧ TabT wr w.heap.size gu cu gl cl go co n L1 C1 U1 D1 (t1.clr c i) ∧ Kp w wr) (fun x _ => n - (intOf x).toNat)
                case atStart => exact ⟨c + 1, Nat.le_refl _, by omega, by go_num, T4.out.ext fun a b _ _ => ⟨by rw [(t1.clr_start c a b).1], by rw [(t1.clr_start c a b).2]⟩, K4.out⟩
                case round =>
                  obtain ⟨i, hci, hin, rfl, ht, hkp⟩ := hrel
                  obtain ⟨wp, hwp⟩ : ∃ x, x = wr := ⟨_, rfl⟩
                  subst hwp
                  have TI := Lib.hid ht
                  have KI := Lib.hid hkp
                  clear T4 K4
                  by_cases hlt3 : i < n
                  · have HNE := Lib.hid (show i ≠ c ∧ c < i by omega)
                    have z1 := ht.up.weak.head hlt3
                    have z2 := ht.up.weak.el hlt3 hlt
                    have z3 := ht.up.weak.head hlt
                    have z4 := ht.up.weak.el hlt hlt
                    rw [(t1.clr_at c i c).1] at z2
                    rw [(t1.clr_at c i c).2] at z4
                    have PO := Lib.hid (fun w => refPow_any 9971 (t1.u c c) 9971 w (Nat.le_refl _) (by decide))
                    unfold el at PO
                    change Hid (∀ w, Calls Tryd.prog 13 #[.int .i64 ((t1.u c c).val : Int), .int .i64 9971] w fun e w' => e = .returned (.int .i64 ((Fp.inv (t1.u c c)).val : Int)) ∧ w = w') at PO
                    have hb := rprod (t1.u i c) (Fp.inv (t1.u c c))
                    have hm := mod_times (t1.u i c) (Fp.inv (t1.u c c))
                    obtain ⟨fac, hfac⟩ : ∃ x, x = t1.u i c * Fp.inv (t1.u c c) := ⟨_, rfl⟩
                    have HFAC := Lib.hid hfac
                    rw [← hfac] at hm
                    obtain ⟨fv, hfv⟩ : ∃ x, x = (fac.val : Int) := ⟨_, rfl⟩
                    have HFV := Lib.hid hfv
                    rw [← hfv] at hm
                    generalize ((t1.u i c).val : Int) = a1 at *
                    generalize ((t1.u c c).val : Int) = a2 at *
                    generalize ((Fp.inv (t1.u c c)).val : Int) = iv at *
                    have hwm : IntKind.i64.wrap (a1 * iv) = a1 * iv := IntWalk.i64_in _ (by omega)
                    have MO := Lib.hid (fun w => rMod_any (a1 * iv) w (by omega) (by omega))
                    rw [hm] at MO
                    clear hb hm hfac hfv ht hkp
                    go_wp2_with fail
                    go_quiet ((first
                      | (with_reducible exact quiet_here (PO.out _))
                      | (with_reducible exact quiet_more (PO.out _))
                      | (with_reducible exact quiet_here (MO.out _))
                      | (with_reducible exact quiet_more (MO.out _))))
                    obtain ⟨wd, hwd⟩ : ∃ x, x = wp.drewN nq := ⟨_, rfl⟩
                    rw [← hwd]
                    have TD := Lib.hid (show TabT wd w.heap.size gu cu gl cl go co n L1 C1 U1 D1 (t1.clr c i) by rw [hwd]; exact TI.out.keep ((Kp.rfl' wp).drewN nq))
                    have KD := Lib.hid (show Kp w wd by rw [hwd]; exact KI.out.drewN nq)
                    have x1 := TD.out.low.weak.head hlt3
                    have x2 := TD.out.low.weak.el hlt3 hlt
                    have x3 := TD.out.low.weak.free hlt3 c
                    obtain ⟨we, hwe⟩ : ∃ x, x = wd.setCell ⟨L1 i, c, none⟩ (.int .i64 fv) := ⟨_, rfl⟩
                    have TE := Lib.hid (show Tab3 we w.heap.size gu cu gl cl go co n t1.s L1 C1 U1 D1 (fun p q => (((t1.clr c (i + 1)).l p q).val : Int)) (fun p q => (((t1.clr c i).u p q).val : Int)) by
                      rw [hwe]
                      refine (TD.out.putL hlt3 c fv).ext fun p q _ _ => ⟨?_, rfl⟩
                      rw [← t1.clr_l HNE.out.2 p q]
                      by_cases e : p = i ∧ q = c
                      · rw [if_pos e, if_pos e, HFV.out, HFAC.out]
                      · rw [if_neg e, if_neg e])
                    have KE := Lib.hid (show Kp w we by rw [hwe]; exact KD.out.put (p := ⟨L1 i, c, none⟩) (TD.out.lb hlt3) _)
                    have HWE := Lib.hid hwe
                    clear hwd hwe z1 z2 z3 z4
                    go_wp2_with fail
                    rw [← HWE.out]
                    clear HWE x1 x2 x3 TD KD
                    go_loopw [16] (fun x wr => ∃ q : Nat, q ≤ n ∧ x = .int .i64 (q : Int) ∧ Tab3 wr w.heap.size gu cu gl cl go co n t1.s L1 C1 U1 D1 (fun a b => (((t1.clr c (i + 1)).l a b).val : Int)) (fun a b => if a = i ∧ b < q then (((t1.clr c (i + 1)).u a b).val : Int) else (((t1.clr c i).u a b).val : Int)) ∧ Kp w wr) (fun x _ => n - (intOf x).toNat)
                    case atStart => exact ⟨0, Nat.zero_le _, rfl, TE.out.ext fun a b _ _ => ⟨rfl, by rw [if_neg (by omega)]⟩, KE.out⟩
                    case round =>
                      obtain ⟨q, hq, rfl, htq, hkq⟩ := hrel
                      have TQ := Lib.hid htq
                      have KQ := Lib.hid hkq
                      clear TE KE
                      by_cases hlt4 : q < n
                      · have x1 := htq.up.weak.head hlt3
                        have x2 := htq.up.weak.el hlt3 hlt4
                        have x3 := htq.up.weak.head hlt
                        have x4 := htq.up.weak.el hlt hlt4
                        have x5 := htq.up.weak.free hlt3 q
                        rw [if_neg (by omega), (t1.clr_at c i q).1] at x2
                        rw [if_neg (by have := HNE.out; omega), (t1.clr_at c i q).2] at x4
                        have hb := rprod fac (t1.u c q)
                        have hm := mod_less (t1.u i q) fac (t1.u c q)
                        have hv := rval (t1.u i q)
                        rw [← HFV.out] at hb hm
                        obtain ⟨z, hz⟩ : ∃ z, z = ((t1.u i q - fac * t1.u c q).val : Int) := ⟨_, rfl⟩
                        rw [← hz] at hm
                        have HZV := Lib.hid hz
                        generalize ((t1.u i q).val : Int) = u0 at *
                        generalize ((t1.u c q).val : Int) = ov at *
                        have hwm : IntKind.i64.wrap (fv * ov) = fv * ov := IntWalk.i64_in _ (by omega)
                        have hws : IntKind.i64.wrap (u0 - fv * ov) = u0 - fv * ov := IntWalk.i64_in _ (by omega)
                        have MQ := Lib.hid (fun w => rMod_any (u0 - fv * ov) w (by omega) (by omega))
                        rw [hm] at MQ
                        clear hb hm hv hz htq hkq
                        go_wp2_with fail
                        refine wp_region_still_tail 24 (by kernel_rfl) (by kernel_rfl) ?_
                        simp only [List.take_succ_cons, List.take_zero, List.drop_succ_cons, List.drop_zero]
                        repeat still_step
                        still_call ((MQ.out _).mono fun _ _ h => ⟨h.1, h.2.symm⟩)
                        repeat still_step
                        refine wpStill_nil ?_
                        change wpList _ _ _ _ _ wr.drew
                        go_wp2_with fail
                        go_roundw
                        case rel =>
                          refine ⟨q + 1, by omega, by go_num, ((TQ.out.keep ((Kp.rfl' wr).drewN 1)).putU hlt3 q z).ext fun a b _ _ => ⟨rfl, ?_⟩, (KQ.out.drewN 1).put (p := ⟨U1 i, q, none⟩) (TQ.out.ub hlt3) _⟩
                          by_cases e : a = i ∧ b = q
                          · rw [if_pos e, if_pos (by omega), ← t1.clr_u HNE.out.2 a b, if_pos e.1, HZV.out, HFAC.out, e.2]
                          · rw [if_neg e]
                            by_cases e2 : a = i ∧ b < q
                            · rw [if_pos e2, if_pos (by omega)]
                            · rw [if_neg e2, if_neg (by omega)]
                        case measure => simp [intOf]; omega
                      · obtain rfl : n = q := by omega
                        have TN := Lib.hid (show TabT wr w.heap.size gu cu gl cl go co n L1 C1 U1 D1 (t1.clr c (i + 1)) from htq.ext fun a b _ hb => ⟨rfl, by
                          by_cases e : a = i
                          · rw [if_pos ⟨e, hb⟩]
                          · rw [if_neg (fun h => e h.1), ← t1.clr_u HNE.out.2 a b, if_neg e]⟩)
                        clear htq hkq
                        go_wp2_with fail
                        go_roundw
                        case rel => exact ⟨i + 1, by omega, by omega, by go_num, TN.out, KQ.out⟩
                        case measure => simp [intOf]; omega
                  · obtain rfl : n = i := by omega
                    clear ht hkp
                    go_wp2_with fail
                    go_roundw
                    case rel => exact ⟨c + 1, _, L1, C1, U1, D1, by omega, by go_num, HST.out, TI.out, KI.out⟩
                    case measure => simp [intOf]; omega
            · obtain rfl : n = k := by omega
              have FST := Lib.hid (show Mx.LuTo n f (c + 1) t from ⟨t, HT.out, .inl ⟨⟨by omega, Nat.le_refl n, HZ.out, fun h => absurd h (by omega)⟩, rfl⟩⟩)
              go_wp2_with fail
              go_roundw
              case rel => exact ⟨c + 1, t, L, C, U, D, by omega, by go_num, FST.out, TT.out, HK.out⟩
              case measure => simp [intOf]; omega
        · obtain rfl : n = c := by omega
          go_wp2_with fail
          go_loopw [17] (fun x wr => ∃ k : Nat, k ≤ n ∧ x = .int .i64 (k : Int) ∧ Tab3 wr w.heap.size gu cu gl cl go co n t.s L C U D (fun a b => if a < k ∧ b = a then 1 else ((t.l a b).val : Int)) (fun a b => ((t.u a b).val : Int)) ∧ Kp w wr) (fun x _ => n - (intOf x).toNat)
          case atStart => exact ⟨0, Nat.zero_le _, rfl, TT.out.ext fun a b _ _ => ⟨by rw [if_neg (by omega)], rfl⟩, HK.out⟩
          case round =>
            obtain ⟨k, hk2, rfl, htk, hkk⟩ := hrel
            have TK := Lib.hid htk
            have KK := Lib.hid hkk
            by_cases hlt2 : k < n
            · have x1 := htk.low.weak.head hlt2
              have x2 := htk.low.weak.el hlt2 hlt2
              have x3 := htk.low.weak.free hlt2 k
              clear htk hkk
              go_wp2_with fail
              go_roundw
              case rel =>
                refine ⟨k + 1, by omega, by go_num, (TK.out.putL hlt2 k 1).ext fun a b _ _ => ⟨?_, rfl⟩, KK.out.put (p := ⟨L k, k, none⟩) (TK.out.lb hlt2) _⟩
                by_cases e : a = k ∧ b = k
                · rw [if_pos e, if_pos (by omega)]
                · rw [if_neg e]
                  by_cases e2 : a < k ∧ b = a
                  · rw [if_pos e2, if_pos (by omega)]
                  · rw [if_neg e2, if_neg (by omega)]
              case measure => simp [intOf]; omega
            · obtain rfl : n = k := by omega
              have TL := Lib.hid (show OwnM wr w.heap.size (.slice (some ⟨gl, 0, none⟩) n cl) L C (Mx.matl n n t.low) from htk.low.ext fun a b ha _ => by
                unfold Mx.Tri.low
                by_cases e : b = a
                · rw [if_pos ⟨ha, e⟩, if_pos e]; rfl
                · rw [if_neg (fun h => e h.2), if_neg e])
              obtain ⟨Ao, d1, e1, l1, _⟩ := htk.ord.cap
              rw [Mx.len_row] at e1
              cases e1
              have L1 := Lib.hid l1
              clear htk hkk l1
              go_wp2_with fail
              go_ret3
              exact ⟨t, _, _, _, _, _, _, HT.out, rfl, L1.out, TL.out.liesM, TK.out.up.liesM, KK.out⟩

end Go.Proofs.YtdkdpklohfdpmaaDoor
