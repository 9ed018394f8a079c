/- Contracts of package ntt, fifth part: Fold. -/
import Derived.Test.YtlemhkceilkfhaaNtC4
namespace Go.Proofs.Ytlemhkceilkfhaa
open Go.ChangeShapes Go.WideShapes Go.ChangeAt Go.RowKit
set_option linter.unusedVariables false

open Classical in
/-- What is wrong with two rows to be folded. -/
noncomputable def fcode (l m : List Int) : Nat := if ncode l = 0 then ncode m else ncode l
theorem fcode_first {l m : List Int} (h : ncode l ≠ 0) : fcode l m = ncode l := if_neg h
theorem fcode_second {l m : List Int} (h : ncode l = 0) : fcode l m = ncode m := if_pos h
theorem fcode_some (l m : List Int) : fcode l m = 0 ∨ fcode l m = 1 ∨ fcode l m = 3 := by
  unfold fcode
  split
  · exact ncode_some m
  · exact ncode_some l

theorem fold_bad1 (A B : Option Addr) (l m : List Int) (c d : Nat) (w : World) (hl : Lies w A l) (h : ncode l ≠ 0) :
    Calls Try.prog 11 #[.slice A l.length c, .slice B m.length d] w fun e w' => NFails (ncode l) w e w' := by
  have C := Lib.hid (nCheck_any A l c w hl)
  have hs := ncode_some l
  clear hl
  generalize ncode l = x at *
  generalize l.length = n at *
  generalize m.length = q at *
  rcases hs with rfl | rfl | rfl
  · exact absurd rfl h
  · clear h
    go_enter Try.func11, Try.ntmps11
    go_wp2_with fail
    refine (C.out).mono ?_; rintro e w' ⟨rfl, rfl⟩
    rw [show errOf 1 = .iface 46 (.int .i64 1) from rfl]
    go_wp2_with fail
    go_ret2
    exact ⟨rfl, Kp.rfl' _⟩
  · clear h
    go_enter Try.func11, Try.ntmps11
    go_wp2_with fail
    refine (C.out).mono ?_; rintro e w' ⟨rfl, rfl⟩
    rw [show errOf 3 = .iface 46 (.int .i64 3) from rfl]
    go_wp2_with fail
    go_ret2
    exact ⟨rfl, Kp.rfl' _⟩

theorem fold_bad2 (A B : Option Addr) (l m : List Int) (c d : Nat) (w : World) (ha : Lies w A l) (hb : Lies w B m) (h0 : ncode l = 0) (h : ncode m ≠ 0) :
    Calls Try.prog 11 #[.slice A l.length c, .slice B m.length d] w fun e w' => NFails (ncode m) w e w' := by
  have C := Lib.hid (nCheck_any A l c w ha)
  rw [h0, errOf_zero] at C
  have D := Lib.hid (nCheck_any B m d w hb)
  have hs := ncode_some m
  clear ha hb h0
  generalize ncode m = x at *
  generalize l.length = n at *
  generalize m.length = q at *
  rcases hs with rfl | rfl | rfl
  · exact absurd rfl h
  · clear h
    go_enter Try.func11, Try.ntmps11
    go_wp2_with fail
    refine (C.out).mono ?_; rintro e w' ⟨rfl, rfl⟩
    go_wp2_with fail
    refine (D.out).mono ?_; rintro e w' ⟨rfl, rfl⟩
    rw [show errOf 1 = .iface 46 (.int .i64 1) from rfl]
    go_wp2_with fail
    go_ret2
    exact ⟨rfl, Kp.rfl' _⟩
  · clear h
    go_enter Try.func11, Try.ntmps11
    go_wp2_with fail
    refine (C.out).mono ?_; rintro e w' ⟨rfl, rfl⟩
    go_wp2_with fail
    refine (D.out).mono ?_; rintro e w' ⟨rfl, rfl⟩
    rw [show errOf 3 = .iface 46 (.int .i64 3) from rfl]
    go_wp2_with fail
    go_ret2
    exact ⟨rfl, Kp.rfl' _⟩

theorem fold_bad (A B : Option Addr) (l m : List Int) (c d : Nat) (w : World) (ha : Lies w A l) (hb : Lies w B m) (h : fcode l m ≠ 0) :
    Calls Try.prog 11 #[.slice A l.length c, .slice B m.length d] w fun e w' => NFails (fcode l m) w e w' := by
  by_cases h0 : ncode l = 0
  · rw [fcode_second h0] at h ⊢
    exact fold_bad2 A B l m c d w ha hb h0 h
  · rw [fcode_first h0] at h ⊢
    exact fold_bad1 A B l m c d w ha h

set_option maxRecDepth 100000 in
set_option maxHeartbeats 3200000 in
theorem fold_ok (A B : Option Addr) (f g : Nat → Nt.G) (c d : Nat) (w : World) (ha : Lies w A (Nt.nt f)) (hb : Lies w B (Nt.nt g)) :
    Calls Try.prog 11 #[.slice A 8 c, .slice B 8 d] w fun e w' => NGives (Nt.bk (fun k => Nt.tr 64 f k * Nt.tr 64 g k)) w e w' := by
  have C := Lib.hid (nCheck_ok A f c w ha)
  have D := Lib.hid (nCheck_ok B g d w hb)
  have TRF := Lib.hid (fun wx => transform_any 64 wx)
  rw [show (((64 : Nt.G).val : Nat) : Int) = 64 from rfl] at TRF
  have ROWA := Lib.hid (fun (wx : World) (k : Kp w wx) => rowOf_any A (Nt.nt f) c wx (ha.keep k) (Nt.len_nt f))
  have ROWB := Lib.hid (fun (wx : World) (k : Kp w wx) => rowOf_any B (Nt.nt g) d wx (hb.keep k) (Nt.len_nt g))
  have TRNA := Lib.hid (fun gp (wx : World) (hp : Arr wx gp (Nt.nt (Nt.pw 64))) => turn_any 64 f gp wx hp)
  have TRNB := Lib.hid (fun gp (wx : World) (hp : Arr wx gp (Nt.nt (Nt.pw 64))) => turn_any 64 g gp wx hp)
  have BCK := Lib.hid (fun (wx : World) => back_any (fun k => Nt.tr 64 f k * Nt.tr 64 g k) wx)
  clear ha hb
  generalize ints (Nt.nt f) = LA at *
  generalize ints (Nt.nt g) = LB at *
  generalize Nt.tr 64 f = F at *
  generalize Nt.tr 64 g = H at *
  obtain ⟨FH, hFH⟩ : ∃ x, x = fun k => F k * H k := ⟨_, rfl⟩
  rw [← hFH] at BCK ⊢
  have HFH := Lib.hid hFH
  clear hFH
  go_enter Try.func11, Try.ntmps11
  go_wp2_with fail
  refine (C.out).mono ?_; rintro e w' ⟨rfl, rfl⟩
  go_wp2_with fail
  refine (D.out).mono ?_; rintro e w' ⟨rfl, rfl⟩
  go_wp2_with fail
  refine (TRF.out _).mono ?_; rintro e w1 ⟨gp, rfl, ap, k1⟩
  have AP := Lib.hid ap
  have K1 := Lib.hid k1
  clear ap k1
  go_wp2_with fail
  refine (ROWA.out _ K1.out).mono ?_; rintro e w2 ⟨rfl, k2⟩
  have AP2 := Lib.hid (AP.out.keep k2)
  have K2 := Lib.hid (K1.out.trans k2)
  clear k2
  go_wp2_with fail
  refine (TRNA.out gp _ AP2.out).mono ?_; rintro e w3 ⟨rfl, k3⟩
  have AP3 := Lib.hid (AP2.out.keep k3)
  have K3 := Lib.hid (K2.out.trans k3)
  clear k3
  go_wp2_with fail
  refine (ROWB.out _ K3.out).mono ?_; rintro e w4 ⟨rfl, k4⟩
  have AP4 := Lib.hid (AP3.out.keep k4)
  have K4 := Lib.hid (K3.out.trans k4)
  clear k4
  go_wp2_with fail
  refine (TRNB.out gp _ AP4.out).mono ?_; rintro e w5 ⟨rfl, k5⟩
  have K5 := Lib.hid (K4.out.trans k5)
  clear k5
  obtain ⟨w6, hw6⟩ : ∃ w6, w6 = w5.alloc (.cells (ints zs8).toArray 41) := ⟨_, rfl⟩
  have S6 : w6.heap.size = w5.heap.size + 1 := by rw [hw6]; simp
  obtain ⟨w7, hw7⟩ : ∃ w7, w7 = w6.alloc (.cells (ints zs8).toArray 41) := ⟨_, rfl⟩
  have P7 : Arr w7 w5.heap.size zs8 := by rw [hw7, hw6]; exact (Arr.made w5 zs8).new _
  have O7 : Arr w7 (w5.heap.size + 1) zs8 := by rw [hw7, ← S6]; exact Arr.made w6 zs8
  have K7 : Kp w5 w7 := by rw [hw7, hw6]; exact ((Kp.rfl' w5).new _).new _
  have P8 : Arr (w7.setRow w5.heap.size (ints (Nt.nt F)).toArray) w5.heap.size (Nt.nt F) := P7.setRow
  have O8 : Arr (w7.setRow w5.heap.size (ints (Nt.nt F)).toArray) (w5.heap.size + 1) zs8 := O7.apart (by omega) _
  have K8 : Kp w5 (w7.setRow w5.heap.size (ints (Nt.nt F)).toArray) := kp_setRow K7 (Nat.le_refl _) _
  have P9 := P8.apart (show w5.heap.size ≠ w5.heap.size + 1 by omega) (ints (Nt.nt H)).toArray
  have O9 : Arr ((w7.setRow w5.heap.size (ints (Nt.nt F)).toArray).setRow (w5.heap.size + 1) (ints (Nt.nt H)).toArray) (w5.heap.size + 1) (Nt.nt H) := O8.setRow
  have K9 := kp_setRow (g := w5.heap.size + 1) K8 (by omega) (ints (Nt.nt H)).toArray
  go_wp2_with (first
    | refine wpList_store_arr rfl _ _ rfl _ rfl (Nt.nt F) rfl zs8 (show Arr ((w5.alloc (.cells (ints zs8).toArray 41)).alloc (.cells (ints zs8).toArray 41)) _ _ by rw [← hw6, ← hw7]; exact P7) rfl (Nt.len_nt _) ?_
    | refine wpList_store_arr rfl _ _ rfl _ rfl (Nt.nt H) rfl zs8 (show Arr (((w5.alloc (.cells (ints zs8).toArray 41)).alloc (.cells (ints zs8).toArray 41)).setRow _ _) _ _ by rw [← hw6, ← hw7]; exact O8) rfl (Nt.len_nt _) ?_)
  change Code.wp _ _ _ _ ((((w5.alloc (.cells (ints zs8).toArray 41)).alloc (.cells (ints zs8).toArray 41)).setRow w5.heap.size (ints (Nt.nt F)).toArray).setRow (w5.heap.size + 1) (ints (Nt.nt H)).toArray)
  rw [← hw6, ← hw7]
  generalize (w7.setRow w5.heap.size (ints (Nt.nt F)).toArray).setRow (w5.heap.size + 1) (ints (Nt.nt H)).toArray = w9 at *
  clear hw6 hw7 P7 O7 K7 P8 O8 K8 S6
  obtain ⟨gx, hgx⟩ : ∃ gx, gx = w5.heap.size := ⟨_, rfl⟩
  obtain ⟨gy, hgy⟩ : ∃ gy, gy = w5.heap.size + 1 := ⟨_, rfl⟩
  rw [← hgy] at O9 ⊢
  rw [← hgx] at P9 ⊢
  have NE := Lib.hid (show gy ≠ gx by omega)
  have HGX := Lib.hid hgx
  clear hgx hgy
  go_loopw [32] (fun i wr => ∃ k : Nat, k ≤ 8 ∧ i = .int .i64 (k : Int) ∧ Arr wr gx (Nt.nt (Nt.part F FH k)) ∧ Arr wr gy (Nt.nt H) ∧ Kp w5 wr) (fun i _ => 8 - (intOf i).toNat)
  case atStart => exact ⟨0, Nat.zero_le _, rfl, by rw [Nt.part_start]; exact P9, O9, K9⟩
  case round =>
    clear P9 O9 K9
    obtain ⟨k, hk, rfl, hr, ho, hkp⟩ := hrel
    have HR := Lib.hid hr
    have HO := Lib.hid ho
    have HKP := Lib.hid hkp
    clear hr ho hkp
    by_cases hlt : k < 8
    · have xcell := HR.out.cell k (by rw [Nt.len_nt]; exact hlt)
      rw [Nt.nt_at _ k hlt, Nt.part_at] at xcell
      have ycell := HO.out.cell k (by rw [Nt.len_nt]; exact hlt)
      rw [Nt.nt_at _ k hlt] at ycell
      have hfree := HR.out.free k
      have hv := Nt.val_mul (F k) (H k)
      have HS := Lib.hid (Nt.part_step F FH k)
      rw [show FH k = F k * H k by rw [HFH.out]] at HS
      obtain ⟨p1, p2⟩ := Nt.prod_bound (F k) (H k)
      have x1 := Nt.val_bound (F k)
      have y1 := Nt.val_bound (H k)
      rw [← Int.tmod_eq_emod_of_nonneg (by omega)] at hv
      generalize ((F k).val : Int) = x at *
      generalize ((H k).val : Int) = y at *
      generalize ((F k * H k).val : Int) = v at *
      have hw2 : IntKind.i64.wrap (x * y) = x * y := IntWalk.i64_in _ (by omega)
      go_wp2_with fail
      go_still_tail 10, (by kernel_rfl)
      change wpList _ _ _ _ _ wr.drew
      go_wp2_with fail
      go_roundw
      case rel =>
        refine ⟨k + 1, by omega, by go_num, ?_, ?_, (HKP.out.drewN 1).put (p := ⟨gx, k, none⟩) (by show w5.heap.size ≤ gx; rw [HGX.out]; exact Nat.le_refl _) _⟩
        · rw [← HS.out]
          exact (HR.out.drewN 1).put _ _
        · exact (HO.out.drewN 1).far (a := ⟨gx, k, none⟩) NE.out _
      case measure => simp [intOf]; omega
    · obtain rfl : k = 8 := by omega
      rw [Nt.part_end] at HR
      have hx := HR.out
      go_wp2_with (refine wpList_load_arr rfl _ rfl _ rfl (Nt.nt FH) hx (Nt.len_nt _) ?_)
      clear hx
      refine (BCK.out _).mono ?_; rintro e w10 ⟨rfl, k10⟩
      have K10 := Lib.hid ((K5.out.trans HKP.out).trans k10)
      clear k10
      go_wp2_with (refine wpList_store_arr rfl _ _ rfl _ rfl (Nt.nt (Nt.bk FH)) rfl zs8 (Arr.made _ zs8) rfl (Nt.len_nt _) ?_)
      have ha : Arr ((w10.alloc (.cells (ints zs8).toArray 41)).setRow w10.heap.size (ints (Nt.nt (Nt.bk FH))).toArray) w10.heap.size (Nt.nt (Nt.bk FH)) := (Arr.made w10 zs8).setRow
      have hk : Kp w ((w10.alloc (.cells (ints zs8).toArray 41)).setRow w10.heap.size (ints (Nt.nt (Nt.bk FH))).toArray) := kp_setRow (K10.out.new _) K10.out.size _
      go_ret2
      exact ⟨_, rfl, ha.lies, hk⟩

end Go.Proofs.Ytlemhkceilkfhaa
