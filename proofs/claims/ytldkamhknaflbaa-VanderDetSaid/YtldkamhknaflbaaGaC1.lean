/- Contracts of package gauss, first part: subtract, below, clone. -/
import Derived.Test.YtldkamhknaflbaaPartF
import Derived.Test.YtldkamhknaflbaaOwnH
import Derived.Test.YtldkamhknaflbaaMatG
namespace Go.Proofs.Ytldkamhknaflbaa
open Go.ChangeShapes Go.WideShapes Go.ChangeAt Go.RowKit
set_option linter.unusedVariables false

theorem gval (a : Fp.F) : 0 ≤ (a.val : Int) ∧ (a.val : Int) ≤ 9972 := by have := a.isLt; omega
theorem val_less (a x b : Fp.F) : ((a.val : Int) + (9973 - (x.val : Int)) * (b.val : Int)) % 9973 = ((a - x * b).val : Int) := by
  rw [← Fp.ofInt_val, Fp.ofInt_add, Fp.ofInt_mul, Fp.ofInt_self, Fp.ofInt_self]
  have h : Fp.ofInt (9973 - (x.val : Int)) + x = 0 := by
    have h2 := Fp.ofInt_add (9973 - (x.val : Int)) (x.val : Int)
    rw [Fp.ofInt_self, show (9973 - (x.val : Int)) + (x.val : Int) = 9973 by omega] at h2
    rw [← h2]; decide
  generalize Fp.ofInt (9973 - (x.val : Int)) = y at *
  have : a + y * b = a - x * b := by
    have e : y = -x := by grind
    rw [e]; grind
  rw [this]
theorem less_bound (x b : Fp.F) : 0 ≤ (9973 - (x.val : Int)) * (b.val : Int) ∧ (9973 - (x.val : Int)) * (b.val : Int) ≤ 99450756 := by
  have h1 := gval x
  have h2 := gval b
  exact ⟨Int.mul_nonneg (by omega) h2.1, Int.mul_le_mul (show 9973 - (x.val : Int) ≤ 9973 by omega) h2.2 h2.1 (by decide)⟩
theorem less_mod (a x b : Fp.F) : ((a.val : Int) + (9973 - (x.val : Int)) * (b.val : Int)).tmod 9973 = ((a - x * b).val : Int) := by
  have h := less_bound x b
  rw [Int.tmod_eq_emod_of_nonneg (by have := gval a; omega), val_less]
theorem times_mod (a b : Fp.F) : ((a.val : Int) * (b.val : Int)).tmod 9973 = ((a * b).val : Int) := by
  have h1 := gval a
  have h2 := gval b
  rw [Int.tmod_eq_emod_of_nonneg (Int.mul_nonneg h1.1 h2.1), Fp.mul_val]
theorem times_bound (a b : Fp.F) : 0 ≤ (a.val : Int) * (b.val : Int) ∧ (a.val : Int) * (b.val : Int) ≤ 99440784 := by
  have h1 := gval a
  have h2 := gval b
  exact ⟨Int.mul_nonneg h1.1 h2.1, Int.mul_le_mul h1.2 h2.2 h2.1 (by decide)⟩

set_option maxRecDepth 100000 in
set_option maxHeartbeats 1600000 in
theorem subtract_any {B g cap : Nat} {G C : Nat → Nat} {r c : Nat} {f : Nat → Nat → Fp.F} {a i : Nat} (ha : a < r) (hi : i < r) (hne : a ≠ i) (x : Fp.F) (w : World) (hc : c ≤ 1000)
    (h : OwnM w B (.slice (some ⟨g, 0, none⟩) r cap) G C (Mx.matl r c f)) :
    Calls Try.prog 61 #[.slice (some ⟨G a, 0, none⟩) c (C a), .slice (some ⟨G i, 0, none⟩) c (C i), .int .i64 (x.val : Int)] w fun e w' =>
      e = .returned (.tuple #[]) ∧ OwnM w' B (.slice (some ⟨g, 0, none⟩) r cap) G C (Mx.matl r c (less f a i x)) ∧ Only G r w w' := by
  have HO := Lib.hid h
  clear h
  obtain ⟨xv, hxv⟩ : ∃ xv, xv = (x.val : Int) := ⟨_, rfl⟩
  rw [← hxv]
  have HX := Lib.hid hxv
  have hxb : 0 ≤ xv ∧ xv ≤ 9972 := by rw [hxv]; exact gval x
  clear hxv
  go_enter Try.func61, Try.ntmps61
  go_wp2_with fail
  go_loopw [10] (fun u wr => ∃ k : Nat, k ≤ c ∧ u = .int .i64 (k : Int) ∧ OwnM wr B (.slice (some ⟨g, 0, none⟩) r cap) G C (Mx.tab r c fun p q => if p = a ∧ q < k then ((f a q - x * f i q).val : Int) else ((f p q).val : Int)) ∧ Only G r w wr) (fun u _ => c - (intOf u).toNat)
  case atStart => exact ⟨0, Nat.zero_le _, rfl, HO.out.ext (fun p q _ _ => by rw [if_neg (by omega)]), Only.refl _ _ _⟩
  case round =>
    obtain ⟨k, hk, rfl, ho, hon⟩ := hrel
    by_cases hlt : k < c
    · have y1 := ho.weak.el hi hlt
      have y2 := ho.weak.el ha hlt
      have y3 := ho.weak.free ha k
      rw [if_neg (by omega)] at y1
      rw [if_neg (by omega)] at y2
      have HP := Lib.hid ho
      have HN := Lib.hid hon
      have hm := less_mod (f a k) x (f i k)
      have hb := less_bound x (f i k)
      have hb2 := gval (f a k)
      rw [← HX.out] at hm hb
      obtain ⟨z, hz⟩ : ∃ z, z = ((f a k - x * f i k).val : Int) := ⟨_, rfl⟩
      rw [← hz] at hm
      have HZ := Lib.hid hz
      generalize ((f a k).val : Int) = u0 at *
      generalize ((f i k).val : Int) = v at *
      have hws : IntKind.i64.wrap (9973 - xv) = 9973 - xv := IntWalk.i64_in _ (by omega)
      have hwm : IntKind.i64.wrap ((9973 - xv) * v) = (9973 - xv) * v := IntWalk.i64_in _ (by omega)
      have hwa : IntKind.i64.wrap (u0 + (9973 - xv) * v) = u0 + (9973 - xv) * v := IntWalk.i64_in _ (by omega)
      clear ho hon hz hb hb2
      go_wp2_with fail
      go_roundw
      case rel =>
        refine ⟨k + 1, by omega, by go_num, (HP.out.put ha k z).ext (fun p q hp hq => ?_), HN.out.put ha k _⟩
        by_cases e : p = a ∧ q = k
        · rw [if_pos e, if_pos (by omega), HZ.out, e.2]
        · rw [if_neg e]
          by_cases e2 : p = a ∧ q < k
          · rw [if_pos e2, if_pos (by omega)]
          · rw [if_neg e2, if_neg (by omega)]
      case measure => simp [intOf]; omega
    · obtain rfl : k = c := by omega
      have HP := Lib.hid ho
      have HN := Lib.hid hon
      clear ho hon
      go_wp2_with fail
      go_end0
      refine ⟨rfl, HP.out.ext (fun p q hp hq => ?_), HN.out⟩
      unfold less
      by_cases e : p = a
      · rw [if_pos ⟨e, hq⟩, if_pos e]
      · rw [if_neg (fun h => e h.1), if_neg e]

set_option maxRecDepth 100000 in
set_option maxHeartbeats 1600000 in
theorem below_any (A : Option Addr) {r c d : Nat} {f : Nat → Nat → Fp.F} {i j : Nat} (hi : i ≤ r) (hj : j < c) (w : World) (hr : r ≤ 1000) (hc : c ≤ 1000)
    (h : LiesM w A (Mx.matl r c f)) :
    Calls Try.prog 48 #[.slice A r d, .int .i64 (i : Int), .int .i64 (j : Int)] w fun e w' =>
      ∃ k : Nat, First r f i j k ∧ e = .returned (.int .i64 (k : Int)) ∧ w = w' := by
  have HO := Lib.hid h
  clear h
  go_enter Try.func48, Try.ntmps48
  go_wp2_with fail
  go_loop [1] (fun u => ∃ k : Nat, i ≤ k ∧ k ≤ r ∧ u = .int .i64 (k : Int) ∧ ∀ t, i ≤ t → t < k → f t j = 0) (fun u => r - (intOf u).toNat)
  case atStart => exact ⟨i, Nat.le_refl _, hi, rfl, fun t h1 h2 => absurd h1 (by omega)⟩
  case round =>
    obtain ⟨k, hik, hk, rfl, hz⟩ := hrel
    have HZ := Lib.hid hz
    clear hz
    by_cases hlt : k < r
    · obtain ⟨ad, A1, d1, rfl, _, x1, _, l1⟩ := HO.out.row hlt
      obtain ⟨ad1, rfl, _, x2⟩ := l1.el hj
      clear l1
      by_cases h0 : f k j = 0
      · have HZ2 := Lib.hid (show ∀ t, i ≤ t → t < k + 1 → f t j = 0 from fun t h1 h2 => by
          by_cases e : t = k
          · rw [e]; exact h0
          · exact HZ.out t h1 (by omega))
        rw [h0, show (((0 : Fp.F).val : Nat) : Int) = 0 from rfl] at x2
        clear h0
        go_wp2_with fail
        go_round
        case rel => exact ⟨k + 1, by omega, by omega, by go_num, HZ2.out⟩
        case measure => simp [intOf]; omega
      · have HN := Lib.hid (show k < r → f k j ≠ 0 from fun _ => h0)
        have hv := Fp.ne_val h0
        have hv2 : (((f k j).val : Int) == 0) = false := by rw [beq_eq_false_iff_ne]; omega
        generalize ((f k j).val : Int) = z at *
        clear h0 hv
        go_wp2_with fail
        go_ret
        exact ⟨k, ⟨hik, hk, HZ.out, HN.out⟩, rfl, rfl⟩
    · obtain rfl : k = r := by omega
      go_wp2_with fail
      go_ret
      exact ⟨k, ⟨hik, hk, HZ.out, fun h => absurd h (by omega)⟩, rfl, rfl⟩

set_option maxRecDepth 100000 in
/-- copy(row, l): a row of noughts just made, and a slice of as many numbers. -/
theorem copy_row (w1 : World) (g n c : Nat) (A : Option Addr) (l : List Int) (ty : TypeId) (hr : Row w1 g (List.replicate n 0)) (hl : Lies w1 A l) (hn : n = l.length) :
    ∃ w2, (Builtin.copy_ #[22, 22] ty #[.slice (some ⟨g, 0, none⟩) n n, .slice A n c]).run Try.prog w1 = .ok (goInt n) w2 ∧
      Row w2 g l ∧ (∀ B w0, Below B w0 w1 → B ≤ g → Below B w0 w2) ∧ ∀ k, k ≠ g → w2.heap[k]? = w1.heap[k]? := by
  obtain ⟨i0, hi, hz0, hz1, hz2⟩ := info_parts int_info
  have hsz : (Try.prog.info? 3).map (·.size) = some 1 := by rw [hi]; simp [hz1]
  subst hn
  by_cases h0 : l.length = 0
  · obtain rfl : l = [] := List.eq_nil_of_length_eq_zero h0
    exact ⟨w1, run_copy_none w1 _ _ ty 3 _ A 0 0 0 c Try.underlying22 hsz (by simp), hr, fun _ _ h _ => h, fun _ _ => rfl⟩
  · obtain ⟨ad, rfl, _, _⟩ := hl 0 (by omega)
    have hlen : (ints l).length = l.length := by rw [ints, List.length_map]
    have hrun := run_copy_row (P := Try.prog) w1 22 22 ty 3 g 0 l.length l.length ad l.length c _ 3 (ints l) Try.underlying22 hsz hr (by rw [hlen]; exact (Nat.min_self _).symm)
      (fun j v hj => by
        have hj' : j < l.length := by
          rcases Nat.lt_or_ge j l.length with hlt | hge
          · exact hlt
          · rw [List.getElem?_eq_none (by simpa using hge)] at hj; cases hj
        obtain ⟨ad', e, _, hc⟩ := hl j hj'
        obtain rfl := Option.some.inj e
        rw [hc, ← hj]
        simp [hj']) (by rw [hlen]; simp) (fun v hv => by simp at hv; obtain ⟨y, _, rfl⟩ := hv; rfl)
    rw [hlen] at hrun
    refine ⟨_, hrun, ?_, fun B w0 hb hB => below_setRow hb hB _, fun k hk => setRow_other w1 g k _ hk⟩
    unfold Row
    rw [setRow_heap w1 g _ _ 3 (0, 0) hr]
    congr 3
    simp [ints]

set_option maxRecDepth 100000 in
set_option maxHeartbeats 1600000 in
theorem clone_any (A : Option Addr) (r c d : Nat) (f : Nat → Nat → Fp.F) (w : World) (hr : r ≤ 1000) (hc : c ≤ 1000) (h : LiesM w A (Mx.matl r c f)) :
    Calls Try.prog 47 #[.slice A r d] w fun e w' =>
      ∃ G, e = .returned (.slice (some ⟨w.heap.size, 0, none⟩) r r) ∧ Grid w' w.heap.size G r c (fun i j => ((f i j).val : Int)) ∧ Kp w w' := by
  have HA := Lib.hid h
  clear h
  obtain ⟨i0, hi, hz0, hz1, hz2⟩ := info_parts int_info
  obtain ⟨j0, hj, hy0, hy1, hy2⟩ := info_parts ints_info
  go_enter Try.func47, Try.ntmps47
  go_wp2_with (at_make; refine wpList_make_full _ rfl _ _ 24 rfl w.heap.size 22 j0 (.slice none 0 0) 1 Try.underlying24 hj hy0 hy1 _ _ _ _ r rfl rfl rfl rfl (by rw [hy2]; omega) (by unfold maxLen; omega) (Nat.le_refl _) ?_; intro w1 hown hgrow)
  have hpart : PartF w1 w.heap.size (fun _ => 0) r c 0 (fun i j => ((f i j).val : Int)) := PartF.start _ hown
  have hkp : Kp w w1 := (Kp.rfl' w).grown hgrow (by simp) (fun k hk => by cases hk)
  clear hown hgrow hj hy0 hy1 hy2
  obtain ⟨g, hg⟩ : ∃ g, g = w.heap.size := ⟨_, rfl⟩
  rw [← hg] at hpart ⊢
  have HG := Lib.hid hg
  clear hg
  go_loopw [11] (fun i wr => ∃ (k : Nat) (G : Nat → Nat), k ≤ r ∧ i = .int .i64 (k : Int) ∧ PartF wr g G r c k (fun i j => ((f i j).val : Int)) ∧ Kp w wr) (fun i _ => r - (intOf i).toNat)
  case atStart => exact ⟨0, _, Nat.zero_le _, rfl, hpart, hkp⟩
  case round =>
    clear hpart hkp
    obtain ⟨k, G, hk, rfl, hp, hkp⟩ := hrel
    by_cases hlt : k < r
    · have HP := Lib.hid hp
      have HK := Lib.hid hkp
      obtain ⟨ad, A1, d1, rfl, _, x1, _, l1⟩ := (HA.out.keep hkp).row hlt
      have L1 := Lib.hid l1
      clear hp hkp l1
      go_wp2_with (at_make; refine wpList_make_full _ rfl _ _ 22 rfl wr.heap.size 3 i0 (.int .i64 0) 1 Try.underlying22 hi hz0 hz1 _ _ _ _ c rfl rfl rfl rfl (by rw [hz2]; omega) (by unfold maxLen; omega) (Nat.le_refl _) ?_; intro w2 hown hgrow; have hkp2 : Kp wr w2 := (Kp.rfl' wr).grown hgrow (by simp) (fun k hk => by cases hk); have hcell := (HP.out.keep hkp2).cell (Nat.le_refl k) hlt; have hfree := (HP.out.keep hkp2).free k; have hcell3 : (w2.setCell ⟨g, k, none⟩ (.slice (some ⟨wr.heap.size, 0, none⟩) c c)).cell? ⟨g, k, none⟩ = some (.slice (some ⟨wr.heap.size, 0, none⟩) c c) := World.cell?_setCell_same' _ _ _ (by rw [hcell]; rfl))
      have HPL := HP.out.lt
      have hrow : Row (w2.setCell ⟨g, k, none⟩ (.slice (some ⟨wr.heap.size, 0, none⟩) c c)) wr.heap.size (List.replicate c 0) := (row_made hown).far (by show wr.heap.size ≠ g; omega) _
      have hl3 : Lies (w2.setCell ⟨g, k, none⟩ (.slice (some ⟨wr.heap.size, 0, none⟩) c c)) A1 (Mx.row c fun j => ((f k j).val : Int)) := by
        obtain ⟨_, A1', d1', e1, _, x1', _, l1'⟩ := (HA.out.keep (((HK.out.trans hkp2)).put (p := ⟨g, k, none⟩) (by show w.heap.size ≤ g; rw [HG.out]; exact Nat.le_refl _) (.slice (some ⟨wr.heap.size, 0, none⟩) c c))).row hlt
        obtain rfl := Option.some.inj e1
        have hh := (((HK.out.trans hkp2)).put (p := ⟨g, k, none⟩) (by show w.heap.size ≤ g; rw [HG.out]; exact Nat.le_refl _) (.slice (some ⟨wr.heap.size, 0, none⟩) c c))
        obtain ⟨_, A0, d0, e0, hl0, x0, _, l0⟩ := HA.out.row hlt
        obtain rfl := Option.some.inj e0
        have c1 := (HK.out.cell (p := ad.add k) (by rw [block_add]; exact hl0)).symm.trans x1
        have c2 := (hh.cell (p := ad.add k) (by rw [block_add]; exact hl0)).symm.trans x1'
        rw [c1] at c2
        cases c2
        exact l1'
      obtain ⟨w3, hrun, hr3, hb3, hn3⟩ := copy_row _ wr.heap.size c d1 A1 _ 3 hrow hl3 (Mx.len_row _ _).symm
      rw [hrun]
      have HR3 := Lib.hid hr3
      have HN3 := Lib.hid hn3
      have HB3 := Lib.hid (hb3 _ _ (((HK.out.trans hkp2)).put (p := ⟨g, k, none⟩) (by show w.heap.size ≤ g; rw [HG.out]; exact Nat.le_refl _) (.slice (some ⟨wr.heap.size, 0, none⟩) c c)) HK.out.size)
      have HK2 := Lib.hid hkp2
      clear hrun hr3 hb3 hn3 hl3 hrow hkp2 hown hgrow hcell hfree hcell3
      go_wp2_with fail
      go_roundw
      case rel => exact ⟨k + 1, _, by omega, by go_num, HP.out.step hlt HK2.out HR3.out (fun b hb => HN3.out b hb), HB3.out⟩
      case measure => simp [intOf]; omega
    · obtain rfl : k = r := by omega
      have HP := Lib.hid hp
      have HK := Lib.hid hkp
      clear hp hkp
      obtain rfl := HG.out
      go_wp2_with fail
      go_ret
      exact ⟨rfl, ⟨_, HP.out.done⟩, HK.out⟩
end Go.Proofs.Ytldkamhknaflbaa
