/- Contracts of package mat's Mul, One, Pow; and the errors of all of its functions. -/
import Derived.Test.YtpffekaldpllkaaMtMul
namespace Go.Proofs.Ytpffekaldpllkaa
open Go.ChangeShapes Go.WideShapes Go.ChangeAt Go.RowKit
set_option linter.unusedVariables false





set_option maxHeartbeats 800000 in
theorem Pow_bad (A : Option Addr) (m : List (List Int)) (n d : Nat) (k : Int) (w : World) (ha : LiesM w A m) (hn : m.length = n) (hz : Mx.mcode 5 0 9972 m ≠ 0) :
    Calls Try.prog 16 #[.slice A n d, .int .i64 k] w fun e w' => FailsM (Mx.mcode 5 0 9972 m) w e w' := by
  have CH := Lib.hid (Check_any A m n d w ha hn)
  have E := Lib.hid (errOf_ne _ hz)
  rw [errOf_ne _ hz] at CH
  unfold FailsM
  rw [E.out]
  generalize Mx.mcode 5 0 9972 m = z at *
  clear ha hn hz E
  go_enter Try.func16, Try.ntmps16
  go_wp2_with fail
  refine (CH.out).mono ?_; rintro e w' ⟨rfl, rfl⟩
  go_wp2_with fail
  refine bodyPost_ret (v := .tuple #[.slice none 0 0, .iface 46 (.int .i64 (z : Int))]) (by simp [results, Try.results16, go_sem]) rfl ⟨rfl, Kp.rfl' _⟩
set_option maxHeartbeats 800000 in
theorem Pow_shape (A : Option Addr) (f : Nat → Nat → Fp.F) (r c d : Nat) (k : Int) (w : World) (ha : LiesM w A (Mx.matl r c f)) (hr0 : 0 < r) (hr : r ≤ 5) (hc0 : 0 < c) (hc : c ≤ 5) (hne : r ≠ c) :
    Calls Try.prog 16 #[.slice A r d, .int .i64 k] w fun e w' => FailsM 3 w e w' := by
  have CH := Lib.hid (Check_any A (Mx.matl r c f) r d w ha (Mx.len_matl _ _ _))
  rw [Mx.mcode_matl f hr0 hr hc0 hc] at CH
  obtain ⟨ad, A0, d0, rfl, hlt0, hc00, _, _⟩ := ha.row hr0
  rw [add_zero'] at hc00
  have e1 : ((r : Int) != (c : Int)) = true := by rw [bne_iff_ne]; omega
  clear ha
  go_enter Try.func16, Try.ntmps16
  go_wp2_with fail
  refine (CH.out).mono ?_; rintro e w' ⟨rfl, rfl⟩
  rw [errOf_zero]
  go_wp2_with fail
  refine bodyPost_ret (v := .tuple #[.slice none 0 0, errOf 3]) (by simp [results, Try.results16, go_sem, errOf]) rfl ⟨rfl, Kp.rfl' _⟩
set_option maxHeartbeats 800000 in
theorem Pow_range (A : Option Addr) (f : Nat → Nat → Fp.F) (r d : Nat) (k : Int) (w : World) (ha : LiesM w A (Mx.matl r r f)) (hr0 : 0 < r) (hr : r ≤ 5) (hk : ¬ (0 ≤ k ∧ k ≤ 1000)) :
    Calls Try.prog 16 #[.slice A r d, .int .i64 k] w fun e w' => FailsM 1 w e w' := by
  have CH := Lib.hid (Check_any A (Mx.matl r r f) r d w ha (Mx.len_matl _ _ _))
  rw [Mx.mcode_matl f hr0 hr hr0 hr] at CH
  obtain ⟨ad, A0, d0, rfl, hlt0, hc00, _, _⟩ := ha.row hr0
  rw [add_zero'] at hc00
  have e1 : ((r : Int) != (r : Int)) = false := by simp
  clear ha
  by_cases h1 : k < 0
  · clear hk
    go_enter Try.func16, Try.ntmps16
    go_wp2_with fail
    refine (CH.out).mono ?_; rintro e w' ⟨rfl, rfl⟩
    rw [errOf_zero]
    go_wp2_with fail
    refine bodyPost_ret (v := .tuple #[.slice none 0 0, errOf 1]) (by simp [results, Try.results16, go_sem, errOf]) rfl ⟨rfl, Kp.rfl' _⟩
  · have h2 : 1000 < k := by omega
    clear hk
    go_enter Try.func16, Try.ntmps16
    go_wp2_with fail
    refine (CH.out).mono ?_; rintro e w' ⟨rfl, rfl⟩
    rw [errOf_zero]
    go_wp2_with fail
    refine bodyPost_ret (v := .tuple #[.slice none 0 0, errOf 1]) (by simp [results, Try.results16, go_sem, errOf]) rfl ⟨rfl, Kp.rfl' _⟩

set_option maxRecDepth 100000 in
set_option maxHeartbeats 1600000 in
theorem Pow_grid (A : Option Addr) (f : Nat → Nat → Fp.F) (n d k : Nat) (w : World) (ha : LiesM w A (Mx.matl n n f)) (h0 : 0 < n) (h5 : n ≤ 5) (hk : k ≤ 1000) :
    Calls Try.prog 16 #[.slice A n d, .int .i64 (k : Int)] w fun e w' => ∃ g G, e = .returned (.tuple #[.slice (some ⟨g, 0, none⟩) n n, .nilIface]) ∧ Grid w' g G n n (fun a b => ((Mx.pwm n f k a b).val : Int)) ∧ w.heap.size ≤ g ∧ Kp w w' := by
  have CH := Lib.hid (Check_any A (Mx.matl n n f) n d w ha (Mx.len_matl _ _ _))
  rw [Mx.mcode_matl f h0 h5 h0 h5] at CH
  have ID := Lib.hid (identity_grid n w (by omega))
  have HA := Lib.hid ha
  obtain ⟨ad, A0, d0, rfl, hlt0, hc00, _, _⟩ := ha.row h0
  rw [add_zero'] at hc00
  have e1 : ((n : Int) != (n : Int)) = false := by simp
  have e2 : ¬ (k : Int) < 0 := by omega
  have e3 : ¬ (1000 : Int) < k := by omega
  clear ha
  go_enter Try.func16, Try.ntmps16
  go_wp2_with fail
  refine (CH.out).mono ?_; rintro e w' ⟨rfl, rfl⟩
  rw [errOf_zero]
  go_wp2_with fail
  refine (ID.out).mono ?_; rintro e w1 ⟨gI, GI, rfl, hl, hgI, hk1⟩
  have HL := Lib.hid hl
  have HK1 := Lib.hid hk1
  clear hl hk1 hc00
  go_wp2_with fail
  go_loopw [0, 1, 7] (fun u v p wr => ∃ (m : Nat) (A1 : Option Addr) (d1 g2 : Nat) (G2 : Nat → Nat) (x y : Nat → Nat → Fp.F), m ≤ k ∧ v = .int .i64 (m : Int) ∧ u = .slice A1 n d1 ∧ p = .slice (some ⟨g2, 0, none⟩) n n ∧ w.heap.size ≤ g2 ∧ LiesM wr A1 (Mx.matl n n x) ∧ Grid wr g2 G2 n n (fun a b => ((y a b).val : Int)) ∧ Mx.Eqm n n (Mx.mul n y (Mx.pwm n x m)) (Mx.pwm n f k) ∧ Kp w wr) (fun _ v _ _ => (intOf v).toNat)
  case atStart => exact ⟨k, some ad, d, gI, GI, f, Mx.one, Nat.le_refl _, rfl, rfl, rfl, hgI, HA.out.keep HK1.out, HL.out, Mx.one_mul n n _, HK1.out⟩
  case round =>
    obtain ⟨m, A1, d1, g2, G2, x, y, hm, rfl, rfl, rfl, hd2, l1, l2, heq, hkw⟩ := hrel
    have L1 := Lib.hid l1
    have L2 := Lib.hid l2
    have EQ := Lib.hid heq
    have HK := Lib.hid hkw
    clear l1 l2 heq hkw
    by_cases hm0 : m = 0
    · subst hm0
      go_wp2_with fail
      refine bodyPost_ret (v := .tuple #[.slice (some ⟨g2, 0, none⟩) n n, .nilIface]) (by simp [results, Try.results16, go_sem]) rfl ⟨g2, G2, rfl, L2.out.ext fun a b ha hb => ?_, hd2, HK.out⟩
      rw [← EQ.out a b ha hb, show Mx.pwm n x 0 = Mx.one from rfl, Mx.mul_one n n y a b ha hb]
    · have hpos : (0 : Int) < (m : Int) := by omega
      have hdiv : (m : Int).tdiv 2 = ((m / 2 : Nat) : Int) := by rw [Int.tdiv_eq_ediv_of_nonneg (by omega)]; omega
      have hdiv' : (m : Int) / 2 = ((m / 2 : Nat) : Int) := by omega
      have M1 := Lib.hid (fun (w' : World) (h : Kp wr w') => multiply_any A1 A1 x x n n n d1 d1 w' (L1.out.keep h) (L1.out.keep h) h0 h5 h0 h5 h0 h5)
      have M2 := Lib.hid (multiply_grid (some ⟨g2, 0, none⟩) A1 y x n n n n d1 wr L2.out.lies L1.out h0 h5 h0 h5 h0 h5)
      have HF := Lib.hid (Mx.pwm_half n x y m)
      have hlt : m / 2 < m := by omega
      have hle : m / 2 ≤ k := by omega
      by_cases hodd : m % 2 = 1
      · have hmod : (m : Int).tmod 2 = 1 := by rw [Int.tmod_eq_emod_of_nonneg (by omega)]; omega
        have hmod' : (m : Int) % 2 = 1 := by omega
        rw [if_pos hodd] at HF
        clear hodd hm0
        generalize m / 2 = h at *
        go_wp2_with fail
        refine (M2.out).mono ?_; rintro e w2 ⟨g3', G3', rfl, l3, hg3, k3⟩
        have L3 := Lib.hid l3
        have K3 := Lib.hid k3
        have hg4 : w.heap.size ≤ g3' := by have := HK.out.size; omega
        clear l3 k3 hg3
        go_wp2_with fail
        refine (M1.out w2 K3.out).mono ?_; rintro e w3 ⟨g3, rfl, l4, k4⟩
        have L4 := Lib.hid l4
        have K4 := Lib.hid k4
        clear l4 k4
        go_wp2_with fail
        go_roundw
        case rel => exact ⟨h, _, _, _, _, _, _, hle, rfl, rfl, rfl, hg4, L4.out, L3.out.keep K4.out, HF.out.trans EQ.out, (HK.out.trans K3.out).trans K4.out⟩
        case measure => simp [intOf]; omega
      · have hmod : (m : Int).tmod 2 = 0 := by rw [Int.tmod_eq_emod_of_nonneg (by omega)]; omega
        have hmod' : (m : Int) % 2 = 0 := by omega
        rw [if_neg hodd] at HF
        clear hodd hm0
        generalize m / 2 = h at *
        go_wp2_with fail
        refine (M1.out wr (Kp.rfl' _)).mono ?_; rintro e w3 ⟨g3, rfl, l4, k4⟩
        have L4 := Lib.hid l4
        have K4 := Lib.hid k4
        clear l4 k4
        go_wp2_with fail
        go_roundw
        case rel => exact ⟨h, _, _, _, _, _, _, hle, rfl, rfl, rfl, hd2, L4.out, L2.out.keep K4.out, HF.out.trans EQ.out, HK.out.trans K4.out⟩
        case measure => simp [intOf]; omega
theorem Pow_ok (A : Option Addr) (f : Nat → Nat → Fp.F) (n d k : Nat) (w : World) (ha : LiesM w A (Mx.matl n n f)) (h0 : 0 < n) (h5 : n ≤ 5) (hk : k ≤ 1000) :
    Calls Try.prog 16 #[.slice A n d, .int .i64 (k : Int)] w fun e w' => GivesM (Mx.matl n n (Mx.pwm n f k)) w e w' :=
  (Pow_grid A f n d k w ha h0 h5 hk).mono fun _ _ ⟨_, _, he, hg, _, hk⟩ => ⟨_, _, by rw [Mx.len_matl]; exact he, by rw [Mx.len_matl]; exact Nat.le_refl _, hg.lies, hk⟩

end Go.Proofs.Ytpffekaldpllkaa
