/- Contracts of package massey, second part: correct. -/
import Derived.Test.YtpffekaldpllkaaDoorMsC1
import Derived.WalkSpells
import Derived.Deep.Cut
import Derived.Deep.CutRange
import Derived.Deep.DeepCutAuto
namespace Go.Proofs.YtpffekaldpllkaaDoor
open Go.ChangeShapes Go.WideShapes Go.ChangeAt Go.RowKit
set_option linter.unusedVariables false

/-- A block of three cells: a row, and two numbers. -/
structure Fx (g : Nat) (B : Option Addr) (lb d : Nat) (m v : Int) (w : World) : Prop where
  c0 : w.cell? ⟨g, 0, none⟩ = some (.slice B lb d)
  c1 : w.cell? ⟨g, 1, none⟩ = some (.int .i64 m)
  c2 : w.cell? ⟨g, 2, none⟩ = some (.int .i64 v)
  z0 : w.frozen? ⟨g, 0, none⟩ = false
  z1 : w.frozen? ⟨g, 1, none⟩ = false
  z2 : w.frozen? ⟨g, 2, none⟩ = false
theorem Fx.lt {w : World} {g : Nat} {B : Option Addr} {lb d : Nat} {m v : Int} (h : Fx g B lb d m v w) : g < w.heap.size := cell_lt h.c0
theorem Fx.keep {w w' : World} {g : Nat} {B : Option Addr} {lb d : Nat} {m v : Int} (h : Fx g B lb d m v w) (hk : Kp w w') : Fx g B lb d m v w' :=
  ⟨(hk.cell (p := ⟨g, 0, none⟩) h.lt).trans h.c0, (hk.cell (p := ⟨g, 1, none⟩) h.lt).trans h.c1, (hk.cell (p := ⟨g, 2, none⟩) h.lt).trans h.c2, (hk.frozen (p := ⟨g, 0, none⟩) h.lt).trans h.z0, (hk.frozen (p := ⟨g, 1, none⟩) h.lt).trans h.z1, (hk.frozen (p := ⟨g, 2, none⟩) h.lt).trans h.z2⟩
theorem Fx.made (w : World) (B : Option Addr) (lb d : Nat) (m v : Int) (T : TypeId) (g : Nat) (hg : g = w.heap.size) : Fx g B lb d m v (w.alloc (.cells #[.slice B lb d, .int .i64 m, .int .i64 v] T)) := by
  subst hg
  exact ⟨by simp, by simp, by simp, by simp, by simp, by simp⟩
theorem Fx.put {w : World} {g : Nat} {B : Option Addr} {lb d : Nat} {m v : Int} (h : Fx g B lb d m v w) (B' : Option Addr) (lb' d' : Nat) (m' v' : Int) :
    Fx g B' lb' d' m' v' (((w.setCell ⟨g, 0, none⟩ (.slice B' lb' d')).setCell ⟨g, 1, none⟩ (.int .i64 m')).setCell ⟨g, 2, none⟩ (.int .i64 v')) := by
  refine ⟨?_, ?_, World.cell?_setCell_same _ _ _ (((World.cell?_setCell_other _ _ _ _ (by simp)).trans (World.cell?_setCell_other _ _ _ _ (by simp))).trans h.c2), by simp [h.z0], by simp [h.z1], by simp [h.z2]⟩
  · rw [World.cell?_setCell_other _ _ _ _ (by simp), World.cell?_setCell_other _ _ _ _ (by simp), World.cell?_setCell_same _ _ _ h.c0]
  · rw [World.cell?_setCell_other _ _ _ _ (by simp)]
    exact World.cell?_setCell_same _ _ _ ((World.cell?_setCell_other _ _ _ _ (by simp)).trans h.c1)

set_option maxRecDepth 100000 in
set_option maxHeartbeats 3200000 in
theorem scor_any (A B : Option Addr) (l lb c d i s L : Nat) (m v : Int) (f b : Nat → Fp.F) (a : Fp.F) (w : World) (ha : Lies w A (rowF l f)) (hb : Lies w B (rowF lb b)) (hs : (s : Int) = (i : Int) - m) (h0 : 0 < s) (hL : L = max l (s + lb)) (hi : i ≤ 15) (hl : l ≤ 16) (hlb : s + lb ≤ 16) :
    Calls Tryd.prog 26 #[.agg #[.slice B lb d, .int .i64 m, .int .i64 v], .slice A l c, .int .i64 (i : Int), .int .i64 (a.val : Int)] w fun e w' => ∃ g, e = .returned (.slice (some ⟨g, 0, none⟩) L L) ∧ Row w' g (rowF L (Mx.mend l lb f b a s)) ∧ w.heap.size < g ∧ Kp w w' := by
  have HA := Lib.hid ha
  have HB := Lib.hid hb
  obtain ⟨i0, hi', hz0, hz1, hz2⟩ := info_parts int_info
  obtain ⟨q, hq⟩ : ∃ q, q + 1 = s := ⟨s - 1, by omega⟩
  have eq' : (s : Int) - 1 = (q : Int) := by omega
  have hwq : IntKind.i64.wrap ((s : Int) - 1) = (q : Int) := by rw [eq']; exact IntWalk.i64_in _ (by omega)
  have hws : IntKind.i64.wrap ((i : Int) - m) = (s : Int) := by rw [← hs]; exact IntWalk.i64_in _ (by omega)
  have ba := mval a
  have HAV := Lib.hid (Fp.ofInt_self a)
  obtain ⟨t, ht⟩ : ∃ t, t = (a.val : Int) := ⟨_, rfl⟩
  rw [← ht] at ba HAV ⊢
  have HQ := Lib.hid hq
  have HL := Lib.hid hL
  have HLL := Lib.hid (show l ≤ L by omega)
  obtain ⟨p, hp⟩ : ∃ p, p = s + lb := ⟨_, rfl⟩
  have ep : (s : Int) + (lb : Int) = (p : Int) := by omega
  have hwp : IntKind.i64.wrap ((s : Int) + (lb : Int)) = (p : Int) := by rw [ep]; exact IntWalk.i64_in _ (by omega)
  have hp16 : p ≤ 16 := by omega
  have hlb16 : lb ≤ 16 := by omega
  have HP := Lib.hid hp
  have HSI := Lib.hid (show q < L ∧ s ≤ 16 by omega)
  rw [← hp] at hL
  clear ha hb ht hq hp hs eq' ep hlb
  go_enter Tryd.func26, Tryd.ntmps26
  go_upto_region 1 with (fail)
  have hfx := Fx.made w B lb d m v 51 _ rfl
  have hk0 : Kp w (w.alloc (.cells #[.slice B lb d, .int .i64 m, .int .i64 v] 51)) := (Kp.rfl' w).new _
  obtain ⟨w0, hw0⟩ : ∃ x, x = w.alloc (.cells #[.slice B lb d, .int .i64 m, .int .i64 v] 51) := ⟨_, rfl⟩
  rw [← hw0] at hfx hk0 ⊢
  have HSZ := Lib.hid (show w0.heap.size = w.heap.size + 1 by rw [hw0]; simp)
  clear hw0
  obtain ⟨g0, hg0⟩ : ∃ g0, g0 = w.heap.size := ⟨_, rfl⟩
  rw [← hg0] at hfx ⊢
  have HG0 := Lib.hid hg0
  have HFX := Lib.hid hfx
  have HK0 := Lib.hid hk0
  have x1 := hfx.c1
  have x0 := hfx.c0
  clear hg0 hfx hk0
  go_wp2_with (at_make; refine wpList_make_full _ rfl _ _ 22 rfl w0.heap.size 3 i0 (.int .i64 0) 1 Tryd.underlying22 hi' hz0 hz1 _ _ _ _ (max l p) rfl rfl (by omega) (by omega) (by rw [hz2]; omega) (by unfold maxLen; omega) (Nat.le_refl _) ?_; intro w1 hown hgrow; have hrow : Row w1 w0.heap.size (List.replicate (max l p) 0) := row_made hown; have hkp : Kp w0 w1 := (Kp.rfl' w0).grown hgrow (by simp) (fun k hk => by cases hk); clear hown hgrow)
  all_goals
    rw [← hL] at hrow ⊢
    obtain ⟨w2, hrun, hr2, hk2⟩ := copy_part w1 w0.heap.size L l c (min L l) A (rowF l f) 3 hrow (HA.out.keep (HK0.out.trans hkp)) (Mx.len_row _ _).symm rfl
    rw [hrun]
    rw [row_beg f HLL.out rfl] at hr2
    have hkp2 : Kp w0 w2 := hk2 _ _ hkp (Nat.le_refl _)
    clear hrun hi' hz0 hz1 hz2 hrow hkp hk2 x0 x1 hL
    obtain ⟨g, hg⟩ : ∃ g, g = w0.heap.size := ⟨_, rfl⟩
    rw [← hg] at hr2 ⊢
    have HG := Lib.hid hg
    have hqL := HSI.out.1
    have hs16 := HSI.out.2
    have y1 := hr2.cell q (by rw [Mx.len_row]; exact hqL)
    rw [Mx.row_at _ _ _ hqL] at y1
    have y2 := hr2.free q
    have HFX2 := Lib.hid (HFX.out.keep hkp2)
    have x0 := HFX2.out.c0
    have b0 := mval (if q < l then f q else 0)
    have HV0 := Lib.hid (Fp.add_val (if q < l then f q else 0) a)
    rw [show (a.val : Int) = t by rw [← HAV.out, Fp.ofInt_val]; omega] at HV0
    have HR2 := Lib.hid hr2
    have HK2 := Lib.hid hkp2
    generalize (((if q < l then f q else 0) : Fp.F).val : Int) = u at *
    have hwa : IntKind.i64.wrap (u + t) = u + t := IntWalk.i64_in _ (by omega)
    clear hr2 hkp2 hg
    go_upto_region 5 with (fail)
    have hr3 := HR2.out.put q ((u + t) % 9973)
    rw [mend_first (s := s) f b a HQ.out HV0.out.symm] at hr3
    have hk3 := HK2.out.put (p := ⟨g, q, none⟩) (by show w0.heap.size ≤ g; rw [HG.out]; exact Nat.le_refl _) (.int .i64 ((u + t) % 9973))
    have HNE := Lib.hid (show g0 < g by have := HG.out; have := HSZ.out; have := HG0.out; omega)
    have x3 := (HFX.out.keep hk3).c0
    obtain ⟨w3, hw3⟩ : ∃ x, x = w2.setCell ⟨g, q, none⟩ (.int .i64 ((u + t) % 9973)) := ⟨_, rfl⟩
    try rw [← hw3] at hr3 hk3 x3 ⊢
    have HK3 := Lib.hid hk3
    have HR3 := Lib.hid hr3
    clear hw3 y1 y2 x0 HV0 HR2 HK2 HFX2 b0 hwa hk3 hr3 hwq
    go_wp2_with fail
    go_loopw [11, 12, 44] (fun _ _ j wr => ∃ k : Nat, k ≤ lb ∧ j = .int .i64 (k : Int) ∧ Row wr g (rowF L (Mx.mend l k f b a s)) ∧ Kp w0 wr) (fun _ _ j _ => lb - (intOf j).toNat)
    case atStart => exact ⟨0, Nat.zero_le _, rfl, HR3.out, HK3.out⟩
    case round =>
      clear x3
      obtain ⟨k, hk, rfl, hr, hkp⟩ := hrel
      have HR := Lib.hid hr
      have HK := Lib.hid hkp
      by_cases hlt : k < lb
      · obtain ⟨bd, rfl, _, z1⟩ := (HB.out.keep (HK0.out.trans hkp)).el hlt
        obtain ⟨j, hj⟩ : ∃ j, j = s + k := ⟨_, rfl⟩
        have ej : (s : Int) + (k : Int) = (j : Int) := by omega
        have hjL : j < L := by have := HL.out; omega
        have hwj : IntKind.i64.wrap ((s : Int) + (k : Int)) = (j : Int) := by rw [ej]; exact IntWalk.i64_in _ (by have := HP.out; omega)
        have y1 := hr.cell j (by rw [Mx.len_row]; exact hjL)
        rw [Mx.row_at _ _ _ hjL] at y1
        have y2 := hr.free j
        have b1 := mval (Mx.mend l k f b a s j)
        have b2 := mval (b k)
        obtain ⟨y, hy⟩ : ∃ y, y = ((Mx.mend l k f b a s j).val : Int) := ⟨_, rfl⟩
        obtain ⟨z, hz⟩ : ∃ z, z = ((b k).val : Int) := ⟨_, rfl⟩
        rw [← hy] at y1 b1
        rw [← hz] at z1 b2
        have HV := Lib.hid (show (y + (9973 - t) * z) % 9973 = ((Mx.mend l k f b a s (s + k) - a * b k : Fp.F).val : Int) by
          rw [← Fp.ofInt_val]
          congr 2
          rw [show y + (9973 - t) * z = y + (9973 + (-1) * t) * z by grind, Fp.ofInt_add, Fp.ofInt_mul, Fp.ofInt_add, Fp.ofInt_mul, HAV.out, hy, hz, Fp.ofInt_self, Fp.ofInt_self, hj, show Fp.ofInt 9973 = 0 from by decide +kernel, show Fp.ofInt (-1) = -1 from by decide +kernel]; grind)
        have HS := Lib.hid (mend_set (L := L) (l := l) f b a (show s + k < L by omega) HV.out)
        have HJ := Lib.hid hj
        have q1 := Int.mul_nonneg (show 0 ≤ 9973 - t by omega) b2.1
        have q2 := Int.mul_le_mul (show 9973 - t ≤ 9973 by omega) b2.2 b2.1 (by omega)
        have hw1 : IntKind.i64.wrap (9973 - t) = 9973 - t := IntWalk.i64_in _ (by omega)
        have hw2 : IntKind.i64.wrap ((9973 - t) * z) = (9973 - t) * z := IntWalk.i64_in _ (by omega)
        have hw3 : IntKind.i64.wrap (y + (9973 - t) * z) = y + (9973 - t) * z := IntWalk.i64_in _ (by omega)
        have hjI : (j : Int) < (L : Int) := by omega
        clear hr hkp hy hz ej hj
        go_wp2_with fail
        go_roundw
        case rel => exact ⟨k + 1, by omega, by go_num, by rw [← HS.out, ← HJ.out]; exact HR.out.put j _, HK.out.put (p := ⟨g, j, none⟩) (by show w0.heap.size ≤ g; rw [HG.out]; exact Nat.le_refl _) _⟩
        case measure => simp [intOf]; omega
      · obtain rfl : k = lb := by omega
        clear hr hkp
        go_wp2_with fail
        go_ret
        exact ⟨g, rfl, HR.out, by have := HG.out; have := HSZ.out; omega, HK0.out.trans HK.out⟩

end Go.Proofs.YtpffekaldpllkaaDoor
