/- Contracts of package ntt, second part: transform and the function that it makes. -/
import Derived.Test.YtlemhkceilkfhaaNtC1
import Derived.Test.YtlemhkceilkfhaaNtN
namespace Go.Proofs.Ytlemhkceilkfhaa
open Go.ChangeShapes Go.WideShapes Go.ChangeAt Go.RowKit
set_option linter.unusedVariables false

set_option maxRecDepth 100000 in
set_option maxHeartbeats 1600000 in
theorem transform_any (b : Nt.G) (w : World) :
    Calls Try.prog 19 #[.int .i64 (b.val : Int)] w fun e w' => ∃ g, e = .returned (.func (.func 27) #[] #[.pointer (some ⟨g, 0, none⟩)]) ∧ Arr w' g (Nt.nt (Nt.pw b)) ∧ Kp w w' := by
  have b1 := Nt.val_bound b
  have HB := Lib.hid (fun x => Nt.val_mul x b)
  obtain ⟨y, hy⟩ : ∃ y, y = (b.val : Int) := ⟨_, rfl⟩
  have PB := Lib.hid (fun x => Nt.prod_bound x b)
  rw [← hy] at b1 HB PB ⊢
  clear hy
  go_enter Try.func19, Try.ntmps19
  go_wp2_with fail
  have A1 := Arr.made w zs8
  have K1 : Kp w (w.alloc (.cells (ints zs8).toArray 41)) := (Kp.rfl' w).new _
  obtain ⟨g, hg⟩ : ∃ g, g = w.heap.size := ⟨_, rfl⟩
  rw [← hg] at A1 ⊢
  have HG := Lib.hid hg
  clear hg
  go_loopw [4, 6] (fun v i wr => ∃ k : Nat, k ≤ 8 ∧ i = .int .i64 (k : Int) ∧ v = .int .i64 ((Nt.pw b k).val : Int) ∧ Arr wr g (Nt.nt (Nt.pws b k)) ∧ Kp w wr) (fun _ i _ => 8 - (intOf i).toNat)
  case atStart => exact ⟨0, Nat.zero_le _, rfl, rfl, by rw [Nt.pws_zero]; exact A1, K1⟩
  case round =>
    clear A1 K1
    obtain ⟨k, hk, rfl, rfl, hr, hkp⟩ := hrel
    have HR := Lib.hid hr
    have HK := Lib.hid hkp
    clear hr hkp
    by_cases hlt : k < 8
    · have hcell := HR.out.cell k (by rw [Nt.len_nt]; exact hlt)
      have hfree := HR.out.free k
      have HV := Lib.hid (HB.out (Nt.pw b k))
      have HS := Lib.hid (Nt.pws_step b k)
      have x1 := Nt.val_bound (Nt.pw b k)
      have p1 := PB.out (Nt.pw b k)
      generalize (Nt.nt (Nt.pws b k)).getD k 0 = old at hcell
      generalize ((Nt.pw b k).val : Int) = x at *
      go_wp2_with fail
      go_roundw
      case rel =>
        refine ⟨k + 1, by omega, by go_num, ?_, ?_, HK.out.put (p := ⟨g, k, none⟩) (by show w.heap.size ≤ g; rw [HG.out]; exact Nat.le_refl _) _⟩
        · rw [HV.out]; rfl
        · rw [← HS.out]; exact HR.out.put _ _
      case measure => simp [intOf]; omega
    · obtain rfl : k = 8 := by omega
      rw [Nt.pws_end] at HR
      go_wp2_with fail
      go_ret
      exact ⟨g, rfl, HR.out, HK.out⟩

set_option maxRecDepth 100000 in
set_option maxHeartbeats 1600000 in
/-- The function that transform makes. -/
theorem turn_any (b : Nt.G) (f : Nat → Nt.G) (gp : Nat) (w : World) (hp : Arr w gp (Nt.nt (Nt.pw b))) :
    Calls Try.prog 27 #[.agg (ints (Nt.nt f)).toArray, .pointer (some ⟨gp, 0, none⟩)] w fun e w' => e = .returned (.agg (ints (Nt.nt (Nt.tr b f))).toArray) ∧ Kp w w' := by
  have HP := Lib.hid hp
  clear hp
  obtain ⟨L, hL⟩ : ∃ L, L = ints (Nt.nt f) := ⟨_, rfl⟩
  rw [← hL]
  have HLL := Lib.hid hL
  clear hL
  go_enter Try.func27, Try.ntmps27
  go_wp2_with fail
  obtain ⟨w1, hw1⟩ : ∃ w1, w1 = w.alloc (.cells L.toArray 41) := ⟨_, rfl⟩
  have B1 : Arr w1 w.heap.size (Nt.nt f) := by rw [hw1, HLL.out]; exact Arr.made w _
  have K1 : Kp w w1 := by rw [hw1]; exact (Kp.rfl' w).new _
  have S1 : w1.heap.size = w.heap.size + 1 := by rw [hw1]; simp
  obtain ⟨w2, hw2⟩ : ∃ w2, w2 = w1.alloc (.cells (ints zs8).toArray 41) := ⟨_, rfl⟩
  have C2 : Arr w2 (w.heap.size + 1) zs8 := by rw [hw2, ← S1]; exact Arr.made w1 _
  have K2 : Kp w1 w2 := by rw [hw2]; exact (Kp.rfl' w1).new _
  have S2 : w2.heap.size = w.heap.size + 2 := by rw [hw2]; simp; omega
  obtain ⟨w3, hw3⟩ : ∃ w3, w3 = w2.alloc (.cells (ints zs8).toArray 41) := ⟨_, rfl⟩
  have D3 : Arr w3 (w.heap.size + 2) zs8 := by rw [hw3, ← S2]; exact Arr.made w2 _
  have K3 : Kp w2 w3 := by rw [hw3]; exact (Kp.rfl' w2).new _
  change Code.wp _ _ _ _ (((w.alloc (.cells L.toArray 41)).alloc (.cells (ints zs8).toArray 41)).alloc (.cells (ints zs8).toArray 41))
  rw [← hw1, ← hw2, ← hw3]
  have HP2 := Lib.hid (HP.out.keep (K1.trans K2))
  have HB2 := Lib.hid (B1.keep K2)
  have HC2 := Lib.hid C2
  have KW := Lib.hid (K1.trans K2)
  rw [show w.heap.size + 1 + 1 = w.heap.size + 2 from rfl]
  obtain ⟨g2, hg2⟩ : ∃ g2, g2 = w.heap.size + 2 := ⟨_, rfl⟩
  obtain ⟨g1, hg1⟩ : ∃ g1, g1 = w.heap.size + 1 := ⟨_, rfl⟩
  obtain ⟨g0, hg0⟩ : ∃ g0, g0 = w.heap.size := ⟨_, rfl⟩
  have NE := Lib.hid (show g1 ≠ g2 by omega)
  have GE := Lib.hid (show w.heap.size ≤ g1 by omega)
  rw [← hg2] at D3 S2 ⊢
  rw [← hg1] at HC2 ⊢
  rw [← hg0] at HB2 ⊢
  have HS2 := Lib.hid S2
  rw [← S2] at D3
  have K23 := K3
  clear hw1 hw2 hw3 hg2 hg1 hg0 B1 C2 K1 K2 S1 S2 K3
  go_loopw [8] (fun i wr => ∃ k : Nat, k ≤ 8 ∧ i = .int .i64 (k : Int) ∧ Arr wr g2 (Nt.nt (Nt.mid b f k 0)) ∧ Kp w2 wr) (fun i _ => 8 - (intOf i).toNat)
  case atStart => exact ⟨0, Nat.zero_le _, rfl, by rw [Nt.mid_start, ← HS2.out]; exact D3, K23⟩
  case round =>
    clear D3 K23
    obtain ⟨k, hk, rfl, hr, hkp⟩ := hrel
    have HR := Lib.hid hr
    have HK := Lib.hid hkp
    clear hr hkp
    by_cases hlt : k < 8
    · have hb := HB2.out.keep HK.out
      go_wp2_with (refine wpList_load_arr rfl _ rfl _ rfl (Nt.nt f) (by assumption) (Nt.len_nt f) ?_)
      clear hb
      rw [← HLL.out]
      go_loopw [12] (fun i wx => ∃ t : Nat, t ≤ 8 ∧ i = .int .i64 (t : Int) ∧ Arr wx g2 (Nt.nt (Nt.mid b f k t)) ∧ Kp w2 wx) (fun i _ => 8 - (intOf i).toNat)
      case atStart => exact ⟨0, Nat.zero_le _, rfl, HR.out, HK.out⟩
      case round =>
        obtain ⟨t, ht, rfl, hx, hkx⟩ := hrel
        have HX := Lib.hid hx
        have HKX := Lib.hid hkx
        by_cases hlt2 : t < 8
        · obtain ⟨m, hm⟩ : ∃ m, m = k * t := ⟨_, rfl⟩
          obtain ⟨q, hq⟩ : ∃ q, q = k * t % 8 := ⟨_, rfl⟩
          have hm49 : m ≤ 49 := by rw [hm]; exact Nat.le_trans (Nat.mul_le_mul (show k ≤ 7 by omega) (show t ≤ 7 by omega)) (by decide)
          have hq8 : q < 8 := by rw [hq]; exact Nat.mod_lt _ (by decide)
          have hmi : (k : Int) * (t : Int) = (m : Int) := by rw [hm]; simp
          have hqi : (m : Int) % 8 = (q : Int) := by rw [hq, hm]; simp
          have HSET := Lib.hid (Nt.mid_step b f k t)
          rw [← hq] at HSET
          have pcell := (HP2.out.keep hkx).cell q (by rw [Nt.len_nt]; exact hq8)
          rw [Nt.nt_at _ q hq8] at pcell
          have scell := hx.cell k (by rw [Nt.len_nt]; exact hlt)
          rw [Nt.nt_at _ k hlt] at scell
          have hfree := hx.free k
          have HIDX := Lib.hid (show L[t]? = some (.int .i64 ((f t).val : Int)) by
            rw [HLL.out, ints, List.getElem?_map, ← Nt.nt_at f t hlt2, List.getD_eq_getElem?_getD, List.getElem?_eq_getElem (by rw [Nt.len_nt]; exact hlt2)]; simp)
          have hidx := Lib.hid (fun wx => index_arr L t _ wx hlt2 HIDX.out)
          have HV := Lib.hid (Nt.val_madd (Nt.mid b f k t k) (f t) (Nt.pw b q))
          obtain ⟨p1, p2⟩ := Nt.prod_bound (f t) (Nt.pw b q)
          have s1 := Nt.val_bound (Nt.mid b f k t k)
          have x1 := Nt.val_bound (f t)
          have y1 := Nt.val_bound (Nt.pw b q)
          clear hx hkx hm hq
          generalize ((f t).val : Int) = x at *
          generalize ((Nt.pw b q).val : Int) = y at *
          generalize ((Nt.mid b f k t k).val : Int) = s at *
          go_wp2_with fail
          rw [hidx.out]
          go_wp2_with fail
          have hw1 : IntKind.i64.wrap (m : Int) = (m : Int) := IntWalk.i64_in _ (by omega)
          have hw2 : IntKind.i64.wrap (x * y) = x * y := IntWalk.i64_in _ (by omega)
          have hw3 : IntKind.i64.wrap (s + x * y) = s + x * y := IntWalk.i64_in _ (by omega)
          have hq2 : (m : Int).tmod 8 = (q : Int) := by rw [Int.tmod_eq_emod_of_nonneg (by omega)]; exact hqi
          have hv := HV.out
          rw [← Int.tmod_eq_emod_of_nonneg (by omega)] at hv
          generalize ((Nt.mid b f k t k + f t * Nt.pw b q).val : Int) = v at *
          have hq3 : (q : Int) < 8 := by omega
          clear hidx HIDX HV hqi
          go_still_tail 15, (by kernel_rfl)
          change wpList _ _ _ _ _ wr.drew
          go_wp2_with fail
          go_roundw
          case rel =>
            refine ⟨t + 1, by omega, by go_num, ?_, (HKX.out.drewN 1).put (p := ⟨g2, k, none⟩) (by show w2.heap.size ≤ g2; rw [HS2.out]; exact Nat.le_refl _) _⟩
            rw [← HSET.out]
            exact (HX.out.drewN 1).put _ _
          case measure => simp [intOf]; omega
        · obtain rfl : t = 8 := by omega
          rw [Nt.mid_next] at HX
          go_wp2_with fail
          go_roundw
          case rel => exact ⟨k + 1, by omega, by go_num, HX.out, HKX.out⟩
          case measure => simp [intOf]; omega
    · obtain rfl : k = 8 := by omega
      rw [Nt.mid_end] at HR
      have hd := HR.out
      have hc := HC2.out.keep HK.out
      go_wp2_with (first
        | refine wpList_load_arr rfl _ rfl _ rfl (Nt.nt (Nt.tr b f)) (by assumption) (Nt.len_nt _) ?_
        | refine wpList_store_arr rfl _ _ rfl _ rfl (Nt.nt (Nt.tr b f)) rfl zs8 (by assumption) rfl (Nt.len_nt _) ?_)
      exact bodyPost_ret (v := .agg (ints (Nt.nt (Nt.tr b f))).toArray) (results_arr rfl _ rfl hc.setRow (Nt.len_nt _)) rfl ⟨rfl, kp_setRow (KW.out.trans HK.out) GE.out _⟩

end Go.Proofs.Ytlemhkceilkfhaa
