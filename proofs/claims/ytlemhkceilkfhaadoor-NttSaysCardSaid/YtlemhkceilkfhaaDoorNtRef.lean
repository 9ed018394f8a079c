/- The document's answer on package ntt: Eight, Turned, Folded. -/
import Derived.Test.YtlemhkceilkfhaaDoorNtC5
import Derived.StillTailTactics
namespace Go.Proofs.YtlemhkceilkfhaaDoor
open Go.ChangeShapes Go.WideShapes Go.ChangeAt Go.RowKit
set_option linter.unusedVariables false

theorem refEight_any (A : Option Addr) (l : List Int) (c : Nat) (w : World) (hl : Lies w A l) :
    Calls Tryd.prog 4 #[.slice A l.length c] w fun e w' => e = .returned (.int .i64 (ncode l : Nat)) ∧ w = w' := by
  by_cases h : l.length = 8
  · have AL := Lib.hid (all_any A l c 0 256 w hl (by omega))
    rw [h] at AL ⊢
    by_cases h2 : AllIn l 0 256
    · rw [ncode_ok h h2]
      clear hl h
      go_enter Tryd.func4, Tryd.ntmps4
      go_wp2_with fail
      refine (AL.out).mono ?_; rintro e w' ⟨ht, rfl⟩
      obtain rfl := tells_yes ht h2
      clear ht h2
      go_wp2_with fail
      go_ret
      exact ⟨rfl, rfl⟩
    · rw [ncode_range h h2]
      clear hl h
      go_enter Tryd.func4, Tryd.ntmps4
      go_wp2_with fail
      refine (AL.out).mono ?_; rintro e w' ⟨ht, rfl⟩
      obtain rfl := tells_no ht h2
      clear ht h2
      go_wp2_with fail
      go_ret
      exact ⟨rfl, rfl⟩
  · rw [ncode_shape h]
    generalize l.length = n at *
    have h' : ((n : Int) != 8) = true := by rw [bne_iff_ne]; omega
    clear h hl
    go_enter Tryd.func4, Tryd.ntmps4
    go_wp2_with fail
    go_ret
    exact ⟨rfl, rfl⟩

namespace Nt
/-- The document's row: by a root, and so many times. -/
def trd (r tm : G) (f : Nat → G) (i : Nat) : G := sg 8 (fun k => f k * pw (pw r i) k) * tm
theorem trd_there (f : Nat → G) : nt (trd 64 1 f) = nt (tr 64 f) := nt_congr fun i hi => by
  unfold trd tr
  have e : sg 8 (fun k => f k * pw (pw 64 i) k) = sg 8 (fun k => f k * pw 64 (i * k % 8)) := sg_congr fun k hk => by
    rw [(by decide : ∀ i, i < 8 → ∀ k, k < 8 → pw (pw 64 i) k = pw 64 (i * k % 8)) i hi k hk]
  rw [e]; grind
theorem trd_back (f : Nat → G) : nt (trd 253 225 f) = nt (bk f) := nt_congr fun i hi => by
  unfold trd bk tr
  have e : sg 8 (fun k => f k * pw (pw 253 i) k) = sg 8 (fun k => f k * pw 253 (i * k % 8)) := sg_congr fun k hk => by
    rw [(by decide : ∀ i, i < 8 → ∀ k, k < 8 → pw (pw 253 i) k = pw 253 (i * k % 8)) i hi k hk]
  rw [e]

theorem nt_set8 (f g : Nat → G) (q : Nat) (x : G) (hq : q < 8) (h1 : g q = x) (h2 : ∀ j, j < 8 → j ≠ q → g j = f j) : (nt f).set q ((x.val : Nat) : Int) = nt g := by
  rw [nt_set f (fun j => if j = q then x else f j) q x (if_pos rfl) (fun j hj => if_neg hj)]
  refine nt_congr fun j hj => ?_
  by_cases e : j = q
  · subst e; rw [if_pos rfl, h1]
  · rw [if_neg e, h2 j hj e]
/-- Folded, so far: i rows, and k terms of the next one. -/
def fp (f g : Nat → G) (i k p : Nat) : G := sg i (fun x => f x * g ((p + 8 - x) % 8)) + (if (p + 8 - i) % 8 < k then f i * g ((p + 8 - i) % 8) else 0)
theorem fp_start (f g : Nat → G) : nt (fp f g 0 0) = [0, 0, 0, 0, 0, 0, 0, 0] := by
  rw [← nt_zero]
  exact nt_congr fun p _ => by unfold fp; rw [if_neg (Nat.not_lt_zero _)]; rfl
theorem fp_step (f g : Nat → G) (i k q : Nat) (hi : i < 8) (hk : k < 8) (hq : q = (i + k) % 8) : (nt (fp f g i k)).set q (((fp f g i k q + f i * g k).val : Nat) : Int) = nt (fp f g i (k + 1)) := by
  have e : (q + 8 - i) % 8 = k := by omega
  refine nt_set8 _ _ _ _ (by omega) ?_ fun j hj hne => ?_
  · unfold fp
    rw [e, if_pos (by omega), if_neg (by omega)]; grind
  · unfold fp
    have hne2 : (j + 8 - i) % 8 ≠ k := by omega
    by_cases h : (j + 8 - i) % 8 < k
    · rw [if_pos h, if_pos (by omega)]
    · rw [if_neg h, if_neg (by omega)]
theorem fp_next (f g : Nat → G) (i : Nat) : nt (fp f g i 8) = nt (fp f g (i + 1) 0) := nt_congr fun p _ => by
  unfold fp
  rw [if_pos (Nat.mod_lt _ (by decide)), if_neg (Nat.not_lt_zero _), sg]; grind
theorem fp_end (f g : Nat → G) : nt (fp f g 8 0) = nt (fo f g) := nt_congr fun p _ => by
  unfold fp fo
  rw [if_neg (Nat.not_lt_zero _)]; grind
end Nt

set_option maxRecDepth 100000 in
set_option maxHeartbeats 1600000 in
theorem refTurned_any (A : Option Addr) (f : Nat → Nt.G) (c : Nat) (r tm : Nt.G) (w : World) (hl : Lies w A (Nt.nt f)) :
    Calls Tryd.prog 7 #[.slice A 8 c, .int .i64 (r.val : Int), .int .i64 (tm.val : Int)] w fun e w' => ∃ A' c', e = .returned (.slice A' 8 c') ∧ Lies w' A' (Nt.nt (Nt.trd r tm f)) ∧ Kp w w' := by
  have HA := Lib.hid hl
  have r1 := Nt.val_bound r
  have t1 := Nt.val_bound tm
  have MR := Lib.hid (fun x => Nt.val_mul x r)
  have PR := Lib.hid (fun x => Nt.prod_bound x r)
  have MT := Lib.hid (fun x => Nt.val_mul x tm)
  have PT := Lib.hid (fun x => Nt.prod_bound x tm)
  obtain ⟨rv, hrv⟩ : ∃ x, x = (r.val : Int) := ⟨_, rfl⟩
  obtain ⟨tv, htv⟩ : ∃ x, x = (tm.val : Int) := ⟨_, rfl⟩
  rw [← hrv] at r1 MR PR ⊢
  rw [← htv] at t1 MT PT ⊢
  clear hl hrv htv
  go_enter Tryd.func7, Tryd.ntmps7
  go_wp2_with fail
  go_loopw [7, 8] (fun v i wr => ∃ k : Nat, k ≤ 8 ∧ i = .int .i64 (k : Int) ∧ Own wr w.heap.size v (Ka.row k (fun j => ((Nt.trd r tm f j).val : Int))) ∧ Kp w wr) (fun _ i _ => 8 - (intOf i).toNat)
  case atStart => exact ⟨0, Nat.zero_le _, rfl, Own.none _ _, Kp.rfl' _⟩
  case round =>
    obtain ⟨k, hk, rfl, hown, hkp⟩ := hrel
    have HO := Lib.hid hown
    have HK := Lib.hid hkp
    clear hown hkp
    by_cases hlt : k < 8
    · go_wp2_with fail
      go_loop [10, 11] (fun v i => ∃ j : Nat, j ≤ k ∧ i = .int .i64 (j : Int) ∧ v = .int .i64 ((Nt.pw r j).val : Int)) (fun _ i => k - (intOf i).toNat)
      case atStart => exact ⟨0, Nat.zero_le _, rfl, rfl⟩
      case round =>
        obtain ⟨j, hj, rfl, rfl⟩ := hrel
        by_cases hlt2 : j < k
        · have HV := Lib.hid (MR.out (Nt.pw r j))
          have HN := Lib.hid (show ((Nt.pw r (j + 1)).val : Int) = ((Nt.pw r j * r).val : Int) from rfl)
          have p1 := PR.out (Nt.pw r j)
          have x1 := Nt.val_bound (Nt.pw r j)
          generalize ((Nt.pw r j).val : Int) = x at *
          go_wp2_with fail
          go_round
          case rel => exact ⟨j + 1, by omega, by go_num, by rw [HN.out, HV.out]⟩
          case measure => simp [intOf]; omega
        · obtain rfl : j = k := by omega
          have EW := Lib.hid (show Nt.trd r tm f j = Nt.sg 8 (fun k => f k * Nt.pw (Nt.pw r j) k) * tm from rfl)
          obtain ⟨W, hW⟩ : ∃ W, W = Nt.pw r j := ⟨_, rfl⟩
          rw [← hW] at EW ⊢
          clear hW
          have MW := Lib.hid (fun x => Nt.val_mul x W)
          have PW := Lib.hid (fun x => Nt.prod_bound x W)
          have w1 := Nt.val_bound W
          obtain ⟨wv, hwv⟩ : ∃ x, x = (W.val : Int) := ⟨_, rfl⟩
          rw [← hwv] at MW PW w1 ⊢
          clear hwv
          go_wp2_with fail
          go_loop [9, 12, 13] (fun s p i => ∃ t : Nat, t ≤ 8 ∧ i = .int .i64 (t : Int) ∧ s = .int .i64 ((Nt.sg t (fun k => f k * Nt.pw W k)).val : Int) ∧ p = .int .i64 ((Nt.pw W t).val : Int)) (fun _ _ i => 8 - (intOf i).toNat)
          case atStart => exact ⟨0, Nat.zero_le _, rfl, rfl, rfl⟩
          case round =>
            obtain ⟨t, ht, rfl, rfl, rfl⟩ := hrel
            by_cases hlt3 : t < 8
            · obtain ⟨ad, rfl, _, xc⟩ := (HA.out.keep HK.out) t (by rw [Nt.len_nt]; exact hlt3)
              rw [Nt.nt_at _ t hlt3] at xc
              have HS := Lib.hid (show ((Nt.sg (t + 1) (fun k => f k * Nt.pw W k)).val : Int) = ((Nt.sg t (fun k => f k * Nt.pw W k) + f t * Nt.pw W t).val : Int) from rfl)
              have HV := Lib.hid (Nt.val_madd (Nt.sg t (fun k => f k * Nt.pw W k)) (f t) (Nt.pw W t))
              have HN := Lib.hid (show ((Nt.pw W (t + 1)).val : Int) = ((Nt.pw W t * W).val : Int) from rfl)
              have HM := Lib.hid (MW.out (Nt.pw W t))
              obtain ⟨p1, p2⟩ := Nt.prod_bound (f t) (Nt.pw W t)
              have p3 := PW.out (Nt.pw W t)
              have s1 := Nt.val_bound (Nt.sg t (fun k => f k * Nt.pw W k))
              have x1 := Nt.val_bound (f t)
              have y1 := Nt.val_bound (Nt.pw W t)
              generalize ((Nt.sg t (fun k => f k * Nt.pw W k)).val : Int) = s at *
              generalize ((f t).val : Int) = x at *
              generalize ((Nt.pw W t).val : Int) = y at *
              have hw2 : IntKind.i64.wrap (x * y) = x * y := IntWalk.i64_in _ (by omega)
              have hw3 : IntKind.i64.wrap (s + x * y) = s + x * y := IntWalk.i64_in _ (by omega)
              go_wp2_with fail
              go_round
              case rel => exact ⟨t + 1, by omega, by go_num, by rw [HS.out, ← HV.out], by rw [HN.out, ← HM.out]⟩
              case measure => simp [intOf]; omega
            · obtain rfl : t = 8 := by omega
              have HV := Lib.hid (MT.out (Nt.sg 8 (fun k => f k * Nt.pw W k)))
              have HSN := Lib.hid (show Ka.row (j + 1) (fun j => ((Nt.trd r tm f j).val : Int)) = Ka.row j (fun j => ((Nt.trd r tm f j).val : Int)) ++ [((Nt.trd r tm f j).val : Int)] from Ka.row_snoc _ _)
              rw [EW.out, ← HV.out] at HSN
              have hlen : (Ka.row j (fun j => ((Nt.trd r tm f j).val : Int))).length + 1 ≤ 17000000000000 := by rw [Ka.len_row]; omega
              have p1 := PT.out (Nt.sg 8 (fun k => f k * Nt.pw W k))
              have s1 := Nt.val_bound (Nt.sg 8 (fun k => f k * Nt.pw W k))
              have hsz := HK.out.size
              generalize ((Nt.sg 8 (fun k => f k * Nt.pw W k)).val : Int) = s at *
              go_wp2_with (at_builtin; refine wpList_push rfl _ _ rfl w.heap.size _ (Ka.row j (fun j => ((Nt.trd r tm f j).val : Int))) (s * tv % 257) _ 1 rfl rfl (HO.out.new _) (by simp) hlen (by simp; omega) ?_; intro v' w' h1 h2 _)
              have HO' := Lib.hid (show Own w' w.heap.size v' (Ka.row (j + 1) (fun j => ((Nt.trd r tm f j).val : Int))) by rw [HSN.out]; exact h1)
              have HK' := Lib.hid (own_below (HO.out.new _) (HK.out.new _) (by simp; omega) h2)
              clear h1 h2
              go_wp2_with fail
              go_roundw
              case rel => exact ⟨j + 1, by omega, by go_num, HO'.out, HK'.out⟩
              case measure => simp [intOf]; omega
    · obtain rfl : k = 8 := by omega
      obtain ⟨As, cs, rfl, hls, hcs⟩ := HO.out.cap
      rw [Ka.len_row]
      have LS := Lib.hid hls
      clear hls hcs
      go_wp2_with fail
      go_ret
      exact ⟨As, cs, rfl, LS.out, HK.out⟩

set_option maxRecDepth 100000 in
set_option maxHeartbeats 1600000 in
theorem refFolded_any (A B : Option Addr) (f h : Nat → Nt.G) (c d : Nat) (w : World) (ha : Lies w A (Nt.nt f)) (hb : Lies w B (Nt.nt h)) :
    Calls Tryd.prog 11 #[.slice A 8 c, .slice B 8 d] w fun e w' => ∃ A' c', e = .returned (.slice A' 8 c') ∧ Lies w' A' (Nt.nt (Nt.fo f h)) ∧ Kp w w' := by
  have HA := Lib.hid ha
  have HB := Lib.hid hb
  clear ha hb
  obtain ⟨i0, hi, hz0, hz1, hz2⟩ := info_parts int_info
  go_enter Tryd.func11, Tryd.ntmps11
  go_wp2_with (at_make; refine wpList_make_full _ rfl _ _ 22 rfl w.heap.size 3 i0 (.int .i64 0) 1 Tryd.underlying22 hi hz0 hz1 _ _ _ _ 8 rfl rfl (by simp) (by simp) (by rw [hz2]; omega) (by unfold maxLen; omega) (Nat.le_refl _) ?_; intro w1 hown hgrow)
  have hrow : Row w1 w.heap.size (Nt.nt (Nt.fp f h 0 0)) := by rw [Nt.fp_start]; exact row_made hown
  have hkp : Kp w w1 := (Kp.rfl' w).grown hgrow (by simp) (fun k hk => by cases hk)
  clear hown hgrow hi hz0 hz1 hz2
  obtain ⟨g, hg⟩ : ∃ g, g = w.heap.size := ⟨_, rfl⟩
  rw [← hg] at hrow ⊢
  have HG := Lib.hid hg
  clear hg
  go_loopw [6] (fun i wr => ∃ k : Nat, k ≤ 8 ∧ i = .int .i64 (k : Int) ∧ Row wr g (Nt.nt (Nt.fp f h k 0)) ∧ Kp w wr) (fun i _ => 8 - (intOf i).toNat)
  case atStart => exact ⟨0, Nat.zero_le _, rfl, hrow, hkp⟩
  case round =>
    clear hrow hkp
    obtain ⟨k, hk, rfl, hr, hkp⟩ := hrel
    have HR := Lib.hid hr
    have HK := Lib.hid hkp
    clear hr hkp
    by_cases hlt : k < 8
    · have hd1 : decide ((k : Int) < 8) = true := decide_eq_true (by omega)
      go_wp2_with fail
      go_loopw [7] (fun i wx => ∃ t : Nat, t ≤ 8 ∧ i = .int .i64 (t : Int) ∧ Row wx g (Nt.nt (Nt.fp f h k t)) ∧ Kp w wx) (fun i _ => 8 - (intOf i).toNat)
      case atStart => exact ⟨0, Nat.zero_le _, rfl, HR.out, HK.out⟩
      case round =>
        obtain ⟨t, ht, rfl, hx, hkx⟩ := hrel
        have HX := Lib.hid hx
        have HKX := Lib.hid hkx
        by_cases hlt2 : t < 8
        · obtain ⟨m, hm⟩ : ∃ m, m = k + t := ⟨_, rfl⟩
          obtain ⟨q, hq⟩ : ∃ q, q = (k + t) % 8 := ⟨_, rfl⟩
          have hq8 : q < 8 := by omega
          have HSET := Lib.hid (Nt.fp_step f h k t q hlt hlt2 hq)
          have hmi : (k : Int) + (t : Int) = (m : Int) := by omega
          have hq2 : (m : Int).tmod 8 = (q : Int) := by rw [Int.tmod_eq_emod_of_nonneg (by omega)]; omega
          obtain ⟨ad, rfl, _, xc⟩ := (HA.out.keep hkx) k (by rw [Nt.len_nt]; exact hlt)
          rw [Nt.nt_at _ k hlt] at xc
          obtain ⟨bd, rfl, _, yc⟩ := (HB.out.keep hkx) t (by rw [Nt.len_nt]; exact hlt2)
          rw [Nt.nt_at _ t hlt2] at yc
          have scell := hx.cell q (by rw [Nt.len_nt]; exact hq8)
          rw [Nt.nt_at _ q hq8] at scell
          have hfree := hx.free q
          have hv := Nt.val_madd (Nt.fp f h k t q) (f k) (h t)
          obtain ⟨p1, p2⟩ := Nt.prod_bound (f k) (h t)
          have s1 := Nt.val_bound (Nt.fp f h k t q)
          have x1 := Nt.val_bound (f k)
          have y1 := Nt.val_bound (h t)
          rw [← Int.tmod_eq_emod_of_nonneg (by omega)] at hv
          have hm14 : m ≤ 14 := by omega
          clear hx hkx hm hq
          generalize ((Nt.fp f h k t q + f k * h t).val : Int) = v at *
          generalize ((f k).val : Int) = x at *
          generalize ((h t).val : Int) = y at *
          generalize ((Nt.fp f h k t q).val : Int) = s at *
          have hw1 : IntKind.i64.wrap (m : Int) = (m : Int) := IntWalk.i64_in _ (by omega)
          have hw2 : IntKind.i64.wrap (x * y) = x * y := IntWalk.i64_in _ (by omega)
          have hw3 : IntKind.i64.wrap (s + x * y) = s + x * y := IntWalk.i64_in _ (by omega)
          have hq3 : (q : Int) < 8 := by omega
          have hk8 : (k : Int) < 8 := by omega
          have ht8 : (t : Int) < 8 := by omega
          go_wp2_with fail
          go_still_tail 24, (by kernel_rfl)
          change wpList _ _ _ _ _ (World.drew _)
          go_wp2_with fail
          go_roundw
          case rel =>
            refine ⟨t + 1, by omega, by go_num, ?_, (HKX.out.drewN 1).put (p := ⟨g, q, none⟩) (by show w.heap.size ≤ g; rw [HG.out]; exact Nat.le_refl _) _⟩
            rw [← HSET.out]
            exact (HX.out.drewN 1).put _ _
          case measure => simp [intOf]; omega
        · obtain rfl : t = 8 := by omega
          rw [Nt.fp_next] at HX
          go_wp2_with fail
          go_roundw
          case rel => exact ⟨k + 1, by omega, by go_num, HX.out, HKX.out⟩
          case measure => simp [intOf]; omega
    · obtain rfl : k = 8 := by omega
      rw [Nt.fp_end] at HR
      go_wp2_with fail
      go_ret
      exact ⟨_, _, rfl, HR.out.lies, HK.out⟩

end Go.Proofs.YtlemhkceilkfhaaDoor
