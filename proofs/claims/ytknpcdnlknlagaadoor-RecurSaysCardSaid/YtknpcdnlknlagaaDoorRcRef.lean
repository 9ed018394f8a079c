/- The document's answer on recurrences: Recur, Row. -/
import Derived.Test.YtknpcdnlknlagaaDoorRcFact
import Derived.Test.YtknpcdnlknlagaaDoorMxRef
import Derived.BigQuiet
namespace Go.Proofs.YtknpcdnlknlagaaDoor
open Go.ChangeShapes Go.WideShapes Go.ChangeAt Go.RowKit
set_option linter.unusedVariables false

theorem rRecur_none (A B : Option Addr) (L S : List Int) (c d : Nat) (w : World) (h : L.length = 0) :
    Calls Tryd.prog 4 #[.slice A L.length c, .slice B S.length d] w fun e w' => e = .returned (.int .i64 (rcd L S : Int)) ∧ w = w' := by
  rw [rcd_none h, h]
  generalize S.length = q at *
  clear h
  go_enter Tryd.func4, Tryd.ntmps4
  go_wp2
  go_ret
  exact ⟨rfl, rfl⟩
theorem rRecur_full (A B : Option Addr) (L S : List Int) (c d : Nat) (w : World) (h : 5 < L.length) :
    Calls Tryd.prog 4 #[.slice A L.length c, .slice B S.length d] w fun e w' => e = .returned (.int .i64 (rcd L S : Int)) ∧ w = w' := by
  rw [rcd_full h]
  generalize L.length = n at *
  generalize S.length = q at *
  have h' : (5 : Int) < n := by omega
  have h0 : ((n : Int) == 0) = false := by rw [beq_eq_false_iff_ne]; omega
  clear h
  go_enter Tryd.func4, Tryd.ntmps4
  go_wp2
  go_ret
  exact ⟨rfl, rfl⟩
theorem rRecur_shape (A B : Option Addr) (L S : List Int) (c d : Nat) (w : World) (h0 : L.length ≠ 0) (h : ¬ 5 < L.length) (h1 : S.length ≠ L.length) :
    Calls Tryd.prog 4 #[.slice A L.length c, .slice B S.length d] w fun e w' => e = .returned (.int .i64 (rcd L S : Int)) ∧ w = w' := by
  rw [rcd_shape h0 h h1]
  generalize L.length = n at *
  generalize S.length = q at *
  have h' : ¬ (5 : Int) < n := by omega
  have e0 : ((n : Int) == 0) = false := by rw [beq_eq_false_iff_ne]; omega
  have e1 : ((n : Int) != (q : Int)) = true := by rw [bne_iff_ne]; omega
  clear h h0 h1
  go_enter Tryd.func4, Tryd.ntmps4
  go_wp2
  go_ret
  exact ⟨rfl, rfl⟩
set_option maxHeartbeats 1600000 in
theorem rRecur_main (A B : Option Addr) (L S : List Int) (n c d : Nat) (w : World) (ha : Lies w A L) (hb : Lies w B S) (hl : L.length = n) (hm : S.length = n) (h0 : n ≠ 0) (hn : n ≤ 5) :
    Calls Tryd.prog 4 #[.slice A n c, .slice B n d] w fun e w' => e = .returned (.int .i64 (rcd L S : Int)) ∧ w = w' := by
  have E1 := Lib.hid (all_any A L c 0 9972 w ha (by omega))
  have E2 := Lib.hid (all_any B S d 0 9972 w hb (by omega))
  rw [hl] at E1
  rw [hm] at E2
  have RNG : ¬ (AllIn L 0 9972 ∧ AllIn S 0 9972) → rcd L S = 1 := rcd_range (by omega) (by omega) (by omega)
  have GOOD := rcd_ok (L := L) (S := S) (by omega) (by omega) (by omega)
  obtain ⟨v, hv⟩ : ∃ v, v = rcd L S := ⟨_, rfl⟩
  rw [← hv] at RNG GOOD ⊢
  clear hv ha hb hl hm
  have h5 : ¬ (5 : Int) < (n : Int) := by omega
  have e0 : ((n : Int) == 0) = false := by rw [beq_eq_false_iff_ne]; omega
  have e1 : ((n : Int) != (n : Int)) = false := by simp
  clear h0
  by_cases h1 : AllIn L 0 9972
  · have H1 := Lib.hid h1
    by_cases h2 : AllIn S 0 9972
    · have H2 := Lib.hid h2
      have R := Lib.hid (GOOD h1 h2)
      clear h1 h2 RNG GOOD
      go_enter Tryd.func4, Tryd.ntmps4
      go_wp2_with fail
      refine (E1.out).mono ?_; rintro e w' ⟨ht, rfl⟩
      obtain rfl := tells_yes ht H1.out
      go_wp2_with fail
      refine (E2.out).mono ?_; rintro e w' ⟨ht, rfl⟩
      obtain rfl := tells_yes ht H2.out
      go_wp2_with fail
      go_ret
      exact ⟨by rw [R.out]; rfl, rfl⟩
    · have H2 := Lib.hid h2
      have R := Lib.hid (RNG fun h => h2 h.2)
      clear h1 h2 RNG GOOD
      go_enter Tryd.func4, Tryd.ntmps4
      go_wp2_with fail
      refine (E1.out).mono ?_; rintro e w' ⟨ht, rfl⟩
      obtain rfl := tells_yes ht H1.out
      go_wp2_with fail
      refine (E2.out).mono ?_; rintro e w' ⟨ht, rfl⟩
      obtain rfl := tells_no ht H2.out
      go_wp2_with fail
      go_ret
      exact ⟨by rw [R.out]; rfl, rfl⟩
  · have H1 := Lib.hid h1
    have R := Lib.hid (RNG fun h => h1 h.1)
    clear h1 RNG GOOD E2
    go_enter Tryd.func4, Tryd.ntmps4
    go_wp2_with fail
    refine (E1.out).mono ?_; rintro e w' ⟨ht, rfl⟩
    obtain rfl := tells_no ht H1.out
    go_wp2_with fail
    go_ret
    exact ⟨by rw [R.out]; rfl, rfl⟩
theorem rRecur_any (A B : Option Addr) (L S : List Int) (c d : Nat) (w : World) (ha : Lies w A L) (hb : Lies w B S) :
    Calls Tryd.prog 4 #[.slice A L.length c, .slice B S.length d] w fun e w' => e = .returned (.int .i64 (rcd L S : Int)) ∧ w = w' := by
  by_cases h0 : L.length = 0
  · exact rRecur_none A B L S c d w h0
  · by_cases h1 : 5 < L.length
    · exact rRecur_full A B L S c d w h1
    · by_cases h2 : S.length = L.length
      · have := rRecur_main A B L S L.length c d w ha hb rfl h2 h0 (by omega)
        rw [h2]
        exact this
      · exact rRecur_shape A B L S c d w h0 h1 h2

theorem rowF_more (k : Nat) (u : Nat → Fp.F) : rowF (k + 1) u = rowF k u ++ [((u k).val : Int)] := Mx.row_snoc _ _

set_option maxRecDepth 100000 in
set_option maxHeartbeats 6400000 in
theorem rRow_any (A B : Option Addr) (n c d N : Nat) (f s : Nat → Fp.F) (w : World) (ha : Lies w A (rowF n f)) (hb : Lies w B (rowF n s)) (h0 : 0 < n) (h5 : n ≤ 5) (hN : N ≤ 1001) :
    Calls Tryd.prog 8 #[.slice A n c, .slice B n d, .int .i64 (N : Int)] w fun e w' => ∃ v, e = .returned v ∧ Own w' w.heap.size v (rowF N (Mx.sq n f s)) ∧ Kp w w' := by
  have HA := Lib.hid ha
  have HB := Lib.hid hb
  have GO := Lib.hid (Mx.sq_goes n f s h0)
  have ST := Lib.hid (fun j (h : j < n) => Mx.sq_start n f s h)
  obtain ⟨x, hx⟩ : ∃ x, x = Mx.sq n f s := ⟨_, rfl⟩
  rw [← hx] at GO ST ⊢
  clear ha hb hx
  go_enter Tryd.func8, Tryd.ntmps8
  go_wp2_with fail
  go_loopw [7, 8, 9, 10] (fun v i _ _ wr => ∃ k : Nat, k ≤ N ∧ i = .int .i64 (k : Int) ∧ Own wr w.heap.size v (rowF k x) ∧ Kp w wr) (fun _ i _ _ _ => N - (intOf i).toNat)
  case atStart => exact ⟨0, Nat.zero_le _, rfl, Own.none _ _, Kp.rfl' _⟩
  case round =>
    obtain ⟨k, hk, rfl, ho, hkp⟩ := hrel
    have HO := Lib.hid ho
    have HK := Lib.hid hkp
    have hsz := hkp.size
    clear ho hkp
    obtain ⟨wo, hwo⟩ : ∃ y, y = wr := ⟨_, rfl⟩
    subst hwo
    by_cases hlt : k < N
    · have HS := Lib.hid (rowF_more k x)
      have hlen : (rowF k x).length + 1 ≤ 17000000000000 := by rw [Mx.len_row]; omega
      by_cases hkn : k < n
      · obtain ⟨ad, rfl, _, x1⟩ := (HB.out.keep HK.out).el hkn
        rw [← ST.out k hkn] at x1
        generalize ((x k).val : Int) = y at *
        go_wp2_with (at_builtin; refine wpList_push rfl _ _ rfl w.heap.size _ (rowF k x) y wo.heap.size 1 rfl rfl (HO.out.new _) (by simp) hlen (by simp; omega) ?_; intro v' w' h1 h2 _; have HO' := Lib.hid (show Own w' w.heap.size v' (rowF (k + 1) x) by rw [HS.out]; exact h1); have HK' := Lib.hid (own_below (HO.out.new _) (HK.out.new _) (Nat.le_trans hsz (by simp)) h2); clear h1 h2)
        go_roundw
        case rel => exact ⟨k + 1, by omega, by go_num, HO'.out, HK'.out⟩
        case measure => simp [intOf]; omega
      · have hnk : n ≤ k := by omega
        obtain ⟨g, cg, rfl, _, _⟩ := own_some HO.out (by rw [Mx.len_row]; omega)
        rw [Mx.len_row] at HO ⊢
        obtain ⟨k1, hk1⟩ : ∃ k1, k1 = k - 1 := ⟨_, rfl⟩
        have e1 : (k : Int) - 1 = (k1 : Int) := by omega
        have hwe : IntKind.i64.wrap ((k : Int) - 1) = (k1 : Int) := by rw [e1]; exact IntWalk.i64_in _ (by omega)
        have HK1 := Lib.hid hk1
        have HGO := Lib.hid (GO.out k hnk)
        clear hk1
        go_wp2_with fail
        go_loopw [9, 10] (fun u i wq => ∃ (j : Nat) (z : Int), j ≤ n ∧ i = .int .i64 (j : Int) ∧ u = .int .i64 z ∧ 0 ≤ z ∧ z ≤ 100000000 * j ∧ Fp.ofInt z = (Mx.sg j fun b => f b * x (k - 1 - b)) ∧ Kp wo wq) (fun _ i _ => n - (intOf i).toNat)
        case atStart => exact ⟨0, 0, Nat.zero_le _, rfl, rfl, by omega, by omega, rfl, Kp.rfl' _⟩
        case round =>
          obtain ⟨j, z, hj, rfl, rfl, z0, z1, hz, hkq⟩ := hrel
          have HZ := Lib.hid hz
          have HKQ := Lib.hid hkq
          clear hz
          by_cases hjn : j < n
          · obtain ⟨b, hb⟩ : ∃ b, b = k - 1 - j := ⟨_, rfl⟩
            have hbk : b < k := by omega
            have e2 : (k1 : Int) - (j : Int) = (b : Int) := by have := HK1.out; omega
            have hwf : IntKind.i64.wrap ((k1 : Int) - (j : Int)) = (b : Int) := by rw [e2]; exact IntWalk.i64_in _ (by omega)
            obtain ⟨ad, rfl, _, y1⟩ := (HA.out.keep (HK.out.trans hkq)).el hjn
            have y2 := own_cell (HO.out.kp hkq) b (by rw [Mx.len_row]; exact hbk)
            rw [Mx.row_at _ _ _ hbk] at y2
            have b1 := rcprod (f j) (x b)
            have HF := Lib.hid (show Fp.ofInt (z + ((f j).val : Int) * ((x b).val : Int)) = Mx.sg (j + 1) fun b => f b * x (k - 1 - b) by rw [Fp.ofInt_add, Fp.ofInt_mul, HZ.out, Fp.ofInt_self, Fp.ofInt_self, Mx.sg_succ, hb])
            clear hkq hb
            generalize ((f j).val : Int) = v1 at *
            generalize ((x b).val : Int) = v2 at *
            have hwm : IntKind.i64.wrap (v1 * v2) = v1 * v2 := IntWalk.i64_in _ (by omega)
            have hws : IntKind.i64.wrap (z + v1 * v2) = z + v1 * v2 := IntWalk.i64_in _ (by omega)
            go_wp2_with fail
            go_quiet (fail)
            go_wp2_with fail
            go_roundw
            case rel => exact ⟨j + 1, z + v1 * v2, by omega, by go_num, rfl, by omega, by omega, HF.out, HKQ.out.drewN _⟩
            case measure => simp [intOf]; omega
          · obtain rfl : j = n := by omega
            have MD := Lib.hid (fun w => rMod_any z w (by omega) (by omega))
            have HM := Lib.hid (show z % 9973 = ((x k).val : Int) by rw [HGO.out, ← HZ.out, Fp.ofInt_val])
            rw [HM.out] at MD
            have HO2 := Lib.hid (HO.out.kp hkq)
            have HK2 := Lib.hid (HK.out.trans hkq)
            have hsz2 := HK2.out.size
            clear hkq hsz HM
            generalize ((x k).val : Int) = y at *
            obtain ⟨w7, hw7⟩ : ∃ x, x = wr := ⟨_, rfl⟩
            subst hw7
            go_wp2_with fail
            refine (MD.out _).mono ?_; rintro e w' ⟨rfl, rfl⟩
            go_wp2_with (at_builtin; refine wpList_push rfl _ _ rfl w.heap.size _ (rowF k x) y w7.heap.size 1 rfl rfl (HO2.out.new _) (by simp) hlen (by simp; omega) ?_; intro v' w' h1 h2 _; have HO' := Lib.hid (show Own w' w.heap.size v' (rowF (k + 1) x) by rw [HS.out]; exact h1); have HK' := Lib.hid (own_below (HO2.out.new _) (HK2.out.new _) (Nat.le_trans hsz2 (by simp)) h2); clear h1 h2)
            go_roundw
            case rel => exact ⟨k + 1, by omega, by go_num, HO'.out, HK'.out⟩
            case measure => simp [intOf]; omega
    · obtain rfl : k = N := by omega
      go_wp2_with fail
      go_ret
      exact ⟨_, rfl, HO.out, HK.out⟩

end Go.Proofs.YtknpcdnlknlagaaDoor
