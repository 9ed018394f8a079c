/- Contracts of package mat's Mul, One, Pow; and the errors of all of its functions. -/
import Derived.Test.YtbgmbjicidfhlaaDoorMtMul
namespace Go.Proofs.YtbgmbjicidfhlaaDoor
open Go.ChangeShapes Go.WideShapes Go.ChangeAt Go.RowKit
set_option linter.unusedVariables false

set_option maxHeartbeats 800000 in
theorem Turn_bad (A : Option Addr) (m : List (List Int)) (n d : Nat) (w : World) (ha : LiesM w A m) (hn : m.length = n) (hz : Mx.mcode 5 0 9972 m ≠ 0) :
    Calls Tryd.prog 8 #[.slice A n d] w fun e w' => FailsM (Mx.mcode 5 0 9972 m) w e w' := by
  have CH := Lib.hid (fun w' (h : Kp w w') => Check_any A m n d w' (ha.keep h) hn)
  have E := Lib.hid (errOf_ne _ hz)
  rw [errOf_ne _ hz] at CH
  have KK := Lib.hid (fun (o : Obj) => (Kp.rfl' w).new o)
  unfold FailsM
  rw [E.out]
  generalize Mx.mcode 5 0 9972 m = z at *
  clear ha hn hz E
  go_enter Tryd.func8, Tryd.ntmps8
  go_wp2_with fail
  refine (CH.out _ (KK.out _)).mono ?_; rintro e w' ⟨rfl, rfl⟩
  go_wp2_with fail
  refine bodyPost_ret (v := .tuple #[.slice none 0 0, .iface 41 (.int .i64 (z : Int))]) (by simp [results, Tryd.results8, go_sem]) rfl ⟨rfl, KK.out _⟩

set_option maxHeartbeats 800000 in
theorem Add_bad (A B : Option Addr) (a b : List (List Int)) (n m c d : Nat) (w : World) (ha : LiesM w A a) (hb : LiesM w B b) (hn : a.length = n) (hm : b.length = m) (hz : mcode2 a b ≠ 0) :
    Calls Tryd.prog 11 #[.slice A n c, .slice B m d] w fun e w' => FailsM (mcode2 a b) w e w' := by
  have CH := Lib.hid (fun w' (h : Kp w w') => checkBoth_any A B a b n m c d w' (ha.keep h) (hb.keep h) hn hm)
  have E := Lib.hid (errOf_ne _ hz)
  rw [errOf_ne _ hz] at CH
  have KK := Lib.hid (fun (o o' : Obj) => ((Kp.rfl' w).new o).new o')
  unfold FailsM
  rw [E.out]
  generalize mcode2 a b = z at *
  clear ha hb hn hm hz E
  go_enter Tryd.func11, Tryd.ntmps11
  go_wp2_with fail
  refine (CH.out _ (KK.out _ _)).mono ?_; rintro e w' ⟨rfl, rfl⟩
  go_wp2_with fail
  refine bodyPost_ret (v := .tuple #[.slice none 0 0, .iface 41 (.int .i64 (z : Int))]) (by simp [results, Tryd.results11, go_sem]) rfl ⟨rfl, KK.out _ _⟩

set_option maxRecDepth 100000 in
set_option maxHeartbeats 800000 in
theorem Add_shape (A A' : Option Addr) (f f' : Nat → Nat → Fp.F) (r c r' c' d d' : Nat) (w : World) (ha : LiesM w A (Mx.matl r c f)) (ha' : LiesM w A' (Mx.matl r' c' f')) (hr0 : 0 < r) (hr : r ≤ 5) (hc0 : 0 < c) (hc : c ≤ 5)
    (hr0' : 0 < r') (hr' : r' ≤ 5) (hc0' : 0 < c') (hc' : c' ≤ 5) (hne : ¬ (r = r' ∧ c = c')) :
    Calls Tryd.prog 11 #[.slice A r d, .slice A' r' d'] w fun e w' => FailsM 3 w e w' := by
  have CH := Lib.hid (fun w' (h : Kp w w') => checkBoth_any A A' (Mx.matl r c f) (Mx.matl r' c' f') r r' d d' w' (ha.keep h) (ha'.keep h) (Mx.len_matl _ _ _) (Mx.len_matl _ _ _))
  unfold mcode2 at CH
  rw [if_pos (Mx.mcode_matl f hr0 hr hc0 hc), Mx.mcode_matl f' hr0' hr' hc0' hc'] at CH
  obtain ⟨ad, A0, d0, rfl, hlt0, hc00, _, _⟩ := ha.row hr0
  obtain ⟨bd, B0, e0, rfl, hlt1, hc01, _, _⟩ := ha'.row hr0'
  rw [add_zero'] at hc00 hc01
  have k1 : ∀ o o', Kp w ((w.alloc o).alloc o') := fun o o' => ((Kp.rfl' w).new _).new _
  have c1 : ∀ o o', ((w.alloc o).alloc o').cell? ad = some (.slice A0 c d0) := fun o o' => ((k1 o o').cell (p := ad) hlt0).trans hc00
  have c2 : ∀ o o', ((w.alloc o).alloc o').cell? bd = some (.slice B0 c' e0) := fun o o' => ((k1 o o').cell (p := bd) hlt1).trans hc01
  clear ha ha'
  go_enter Tryd.func11, Tryd.ntmps11
  go_wp2_with fail
  obtain ⟨w1, hw1⟩ : ∃ x, x = (w.alloc (.cells #[.slice (some ad) r d] 22)).alloc (.cells #[.slice (some bd) r' d'] 22) := ⟨_, rfl⟩
  have K1 : Kp w w1 := by rw [hw1]; exact k1 _ _
  have b1 : w1.cell? ⟨w.heap.size, 0, none⟩ = some (.slice (some ad) r d) := by rw [hw1]; simp
  have b2 : w1.cell? ⟨w.heap.size + 1, 0, none⟩ = some (.slice (some bd) r' d') := by rw [hw1]; simp
  have C1 : w1.cell? ad = some (.slice A0 c d0) := by rw [hw1]; exact c1 _ _
  have C2 : w1.cell? bd = some (.slice B0 c' e0) := by rw [hw1]; exact c2 _ _
  rw [← hw1]
  have KK := Lib.hid K1
  have CC := Lib.hid (CH.out w1 K1)
  clear hw1 k1 c1 c2 K1 CH hc00 hc01
  refine (CC.out).mono ?_; rintro e w' ⟨rfl, rfl⟩
  rw [errOf_zero]
  by_cases h : r = r'
  · subst h
    have e1 : ((r : Int) != (r : Int)) = false := by simp
    have e2 : ((c : Int) != (c' : Int)) = true := by rw [bne_iff_ne]; intro e; exact hne ⟨rfl, by omega⟩
    clear hne
    go_wp2_with fail
    go_quiet (fail)
    go_wp2_with fail
    refine bodyPost_ret (v := .tuple #[.slice none 0 0, errOf 3]) (by simp [results, Tryd.results11, go_sem, errOf]) rfl ⟨rfl, KK.out.drewN _⟩
  · have e1 : ((r : Int) != (r' : Int)) = true := by rw [bne_iff_ne]; omega
    clear hne h
    go_wp2_with fail
    go_quiet (fail)
    go_wp2_with fail
    refine bodyPost_ret (v := .tuple #[.slice none 0 0, errOf 3]) (by simp [results, Tryd.results11, go_sem, errOf]) rfl ⟨rfl, KK.out.drewN _⟩

set_option maxHeartbeats 800000 in
theorem Mul_bad (A B : Option Addr) (a b : List (List Int)) (n m c d : Nat) (w : World) (ha : LiesM w A a) (hb : LiesM w B b) (hn : a.length = n) (hm : b.length = m) (hz : mcode2 a b ≠ 0) :
    Calls Tryd.prog 13 #[.slice A n c, .slice B m d] w fun e w' => FailsM (mcode2 a b) w e w' := by
  have CH := Lib.hid (checkBoth_any A B a b n m c d w ha hb hn hm)
  have E := Lib.hid (errOf_ne _ hz)
  rw [errOf_ne _ hz] at CH
  unfold FailsM
  rw [E.out]
  generalize mcode2 a b = z at *
  clear ha hb hn hm hz E
  go_enter Tryd.func13, Tryd.ntmps13
  go_wp2_with fail
  refine (CH.out).mono ?_; rintro e w' ⟨rfl, rfl⟩
  go_wp2_with fail
  refine bodyPost_ret (v := .tuple #[.slice none 0 0, .iface 41 (.int .i64 (z : Int))]) (by simp [results, Tryd.results13, go_sem]) rfl ⟨rfl, Kp.rfl' _⟩

set_option maxHeartbeats 800000 in
theorem Mul_shape (A A' : Option Addr) (f f' : Nat → Nat → Fp.F) (r q q' c d d' : Nat) (w : World) (ha : LiesM w A (Mx.matl r q f)) (ha' : LiesM w A' (Mx.matl q' c f')) (hr0 : 0 < r) (hr : r ≤ 5) (hc0 : 0 < c) (hc : c ≤ 5)
    (hq0 : 0 < q) (hq : q ≤ 5) (hq0' : 0 < q') (hq' : q' ≤ 5) (hne : q ≠ q') :
    Calls Tryd.prog 13 #[.slice A r d, .slice A' q' d'] w fun e w' => FailsM 3 w e w' := by
  have CH := Lib.hid (checkBoth_any A A' (Mx.matl r q f) (Mx.matl q' c f') r q' d d' w ha ha' (Mx.len_matl _ _ _) (Mx.len_matl _ _ _))
  unfold mcode2 at CH
  rw [if_pos (Mx.mcode_matl f hr0 hr hq0 hq), Mx.mcode_matl f' hq0' hq' hc0 hc] at CH
  obtain ⟨ad, A0, d0, rfl, hlt0, hc00, _, _⟩ := ha.row hr0
  rw [add_zero'] at hc00
  have e1 : ((q : Int) != (q' : Int)) = true := by rw [bne_iff_ne]; omega
  clear ha ha'
  go_enter Tryd.func13, Tryd.ntmps13
  go_wp2_with fail
  refine (CH.out).mono ?_; rintro e w' ⟨rfl, rfl⟩
  rw [errOf_zero]
  go_wp2_with fail
  refine bodyPost_ret (v := .tuple #[.slice none 0 0, errOf 3]) (by simp [results, Tryd.results13, go_sem, errOf]) rfl ⟨rfl, Kp.rfl' _⟩

set_option maxHeartbeats 800000 in
theorem Mul_ok (A A' : Option Addr) (f f' : Nat → Nat → Fp.F) (r q c d d' : Nat) (w : World) (ha : LiesM w A (Mx.matl r q f)) (ha' : LiesM w A' (Mx.matl q c f')) (hr0 : 0 < r) (hr : r ≤ 5) (hq0 : 0 < q) (hq : q ≤ 5) (hc0 : 0 < c) (hc : c ≤ 5) :
    Calls Tryd.prog 13 #[.slice A r d, .slice A' q d'] w fun e w' => GivesM (Mx.matl r c (Mx.mul q f f')) w e w' := by
  have CH := Lib.hid (checkBoth_any A A' (Mx.matl r q f) (Mx.matl q c f') r q d d' w ha ha' (Mx.len_matl _ _ _) (Mx.len_matl _ _ _))
  unfold mcode2 at CH
  rw [if_pos (Mx.mcode_matl f hr0 hr hq0 hq), Mx.mcode_matl f' hq0 hq hc0 hc] at CH
  have MU := Lib.hid (multiply_any A A' f f' r q c d d' w ha ha' hr0 hr hq0 hq hc0 hc)
  obtain ⟨ad, A0, d0, rfl, hlt0, hc00, _, _⟩ := ha.row hr0
  rw [add_zero'] at hc00
  have e1 : ((q : Int) != (q : Int)) = false := by simp
  clear ha ha'
  go_enter Tryd.func13, Tryd.ntmps13
  go_wp2_with fail
  refine (CH.out).mono ?_; rintro e w' ⟨rfl, rfl⟩
  rw [errOf_zero]
  go_wp2_with fail
  refine (MU.out).mono ?_; rintro e w' ⟨g, rfl, hl, hk⟩
  have HL := Lib.hid hl
  have HK := Lib.hid hk
  clear hl hk
  go_wp2_with fail
  refine bodyPost_ret (v := .tuple #[.slice (some ⟨g, 0, none⟩) r r, .nilIface]) (by simp [results, Tryd.results13, go_sem]) rfl ⟨some ⟨g, 0, none⟩, r, by rw [Mx.len_matl], by rw [Mx.len_matl]; exact Nat.le_refl _, HL.out, HK.out⟩

set_option maxHeartbeats 800000 in
theorem One_ok (n : Nat) (w : World) (h0 : 0 < n) (h5 : n ≤ 5) :
    Calls Tryd.prog 17 #[.int .i64 (n : Int)] w fun e w' => GivesM (Mx.matl n n Mx.one) w e w' := by
  have ID := Lib.hid (identity_any n w (by omega))
  have e1 : ¬ (n : Int) < 1 := by omega
  have e2 : ¬ (5 : Int) < n := by omega
  go_enter Tryd.func17, Tryd.ntmps17
  go_wp2_with fail
  refine (ID.out).mono ?_; rintro e w' ⟨A, rfl, hl, hk⟩
  have HL := Lib.hid hl
  have HK := Lib.hid hk
  clear hl hk
  go_wp2_with fail
  refine bodyPost_ret (v := .tuple #[.slice A n n, .nilIface]) (by simp [results, Tryd.results17, go_sem]) rfl ⟨A, n, by rw [Mx.len_matl], by rw [Mx.len_matl]; exact Nat.le_refl _, HL.out, HK.out⟩
set_option maxHeartbeats 800000 in
theorem One_bad (n : Int) (w : World) (h : ¬ (1 ≤ n ∧ n ≤ 5)) :
    Calls Tryd.prog 17 #[.int .i64 n] w fun e w' => FailsM 1 w e w' := by
  by_cases e1 : n < 1
  · clear h
    go_enter Tryd.func17, Tryd.ntmps17
    go_wp2_with fail
    refine bodyPost_ret (v := .tuple #[.slice none 0 0, errOf 1]) (by simp [results, Tryd.results17, go_sem, errOf]) rfl ⟨rfl, Kp.rfl' _⟩
  · have e2 : 5 < n := by omega
    clear h
    go_enter Tryd.func17, Tryd.ntmps17
    go_wp2_with fail
    refine bodyPost_ret (v := .tuple #[.slice none 0 0, errOf 1]) (by simp [results, Tryd.results17, go_sem, errOf]) rfl ⟨rfl, Kp.rfl' _⟩

set_option maxHeartbeats 800000 in
theorem Pow_bad (A : Option Addr) (m : List (List Int)) (n d : Nat) (k : Int) (w : World) (ha : LiesM w A m) (hn : m.length = n) (hz : Mx.mcode 5 0 9972 m ≠ 0) :
    Calls Tryd.prog 16 #[.slice A n d, .int .i64 k] w fun e w' => FailsM (Mx.mcode 5 0 9972 m) w e w' := by
  have CH := Lib.hid (Check_any A m n d w ha hn)
  have E := Lib.hid (errOf_ne _ hz)
  rw [errOf_ne _ hz] at CH
  unfold FailsM
  rw [E.out]
  generalize Mx.mcode 5 0 9972 m = z at *
  clear ha hn hz E
  go_enter Tryd.func16, Tryd.ntmps16
  go_wp2_with fail
  refine (CH.out).mono ?_; rintro e w' ⟨rfl, rfl⟩
  go_wp2_with fail
  refine bodyPost_ret (v := .tuple #[.slice none 0 0, .iface 41 (.int .i64 (z : Int))]) (by simp [results, Tryd.results16, go_sem]) rfl ⟨rfl, Kp.rfl' _⟩
set_option maxHeartbeats 800000 in
theorem Pow_shape (A : Option Addr) (f : Nat → Nat → Fp.F) (r c d : Nat) (k : Int) (w : World) (ha : LiesM w A (Mx.matl r c f)) (hr0 : 0 < r) (hr : r ≤ 5) (hc0 : 0 < c) (hc : c ≤ 5) (hne : r ≠ c) :
    Calls Tryd.prog 16 #[.slice A r d, .int .i64 k] w fun e w' => FailsM 3 w e w' := by
  have CH := Lib.hid (Check_any A (Mx.matl r c f) r d w ha (Mx.len_matl _ _ _))
  rw [Mx.mcode_matl f hr0 hr hc0 hc] at CH
  obtain ⟨ad, A0, d0, rfl, hlt0, hc00, _, _⟩ := ha.row hr0
  rw [add_zero'] at hc00
  have e1 : ((r : Int) != (c : Int)) = true := by rw [bne_iff_ne]; omega
  clear ha
  go_enter Tryd.func16, Tryd.ntmps16
  go_wp2_with fail
  refine (CH.out).mono ?_; rintro e w' ⟨rfl, rfl⟩
  rw [errOf_zero]
  go_wp2_with fail
  refine bodyPost_ret (v := .tuple #[.slice none 0 0, errOf 3]) (by simp [results, Tryd.results16, go_sem, errOf]) rfl ⟨rfl, Kp.rfl' _⟩
set_option maxHeartbeats 800000 in
theorem Pow_range (A : Option Addr) (f : Nat → Nat → Fp.F) (r d : Nat) (k : Int) (w : World) (ha : LiesM w A (Mx.matl r r f)) (hr0 : 0 < r) (hr : r ≤ 5) (hk : ¬ (0 ≤ k ∧ k ≤ 1000)) :
    Calls Tryd.prog 16 #[.slice A r d, .int .i64 k] w fun e w' => FailsM 1 w e w' := by
  have CH := Lib.hid (Check_any A (Mx.matl r r f) r d w ha (Mx.len_matl _ _ _))
  rw [Mx.mcode_matl f hr0 hr hr0 hr] at CH
  obtain ⟨ad, A0, d0, rfl, hlt0, hc00, _, _⟩ := ha.row hr0
  rw [add_zero'] at hc00
  have e1 : ((r : Int) != (r : Int)) = false := by simp
  clear ha
  by_cases h1 : k < 0
  · clear hk
    go_enter Tryd.func16, Tryd.ntmps16
    go_wp2_with fail
    refine (CH.out).mono ?_; rintro e w' ⟨rfl, rfl⟩
    rw [errOf_zero]
    go_wp2_with fail
    refine bodyPost_ret (v := .tuple #[.slice none 0 0, errOf 1]) (by simp [results, Tryd.results16, go_sem, errOf]) rfl ⟨rfl, Kp.rfl' _⟩
  · have h2 : 1000 < k := by omega
    clear hk
    go_enter Tryd.func16, Tryd.ntmps16
    go_wp2_with fail
    refine (CH.out).mono ?_; rintro e w' ⟨rfl, rfl⟩
    rw [errOf_zero]
    go_wp2_with fail
    refine bodyPost_ret (v := .tuple #[.slice none 0 0, errOf 1]) (by simp [results, Tryd.results16, go_sem, errOf]) rfl ⟨rfl, Kp.rfl' _⟩

set_option maxRecDepth 100000 in
set_option maxHeartbeats 1600000 in
theorem Pow_ok (A : Option Addr) (f : Nat → Nat → Fp.F) (n d k : Nat) (w : World) (ha : LiesM w A (Mx.matl n n f)) (h0 : 0 < n) (h5 : n ≤ 5) (hk : k ≤ 1000) :
    Calls Tryd.prog 16 #[.slice A n d, .int .i64 (k : Int)] w fun e w' => GivesM (Mx.matl n n (Mx.pwm n f k)) w e w' := by
  have CH := Lib.hid (Check_any A (Mx.matl n n f) n d w ha (Mx.len_matl _ _ _))
  rw [Mx.mcode_matl f h0 h5 h0 h5] at CH
  have ID := Lib.hid (identity_any n w (by omega))
  have HA := Lib.hid ha
  obtain ⟨ad, A0, d0, rfl, hlt0, hc00, _, _⟩ := ha.row h0
  rw [add_zero'] at hc00
  have e1 : ((n : Int) != (n : Int)) = false := by simp
  have e2 : ¬ (k : Int) < 0 := by omega
  have e3 : ¬ (1000 : Int) < k := by omega
  clear ha
  go_enter Tryd.func16, Tryd.ntmps16
  go_wp2_with fail
  refine (CH.out).mono ?_; rintro e w' ⟨rfl, rfl⟩
  rw [errOf_zero]
  go_wp2_with fail
  refine (ID.out).mono ?_; rintro e w1 ⟨I, rfl, hl, hk1⟩
  have HL := Lib.hid hl
  have HK1 := Lib.hid hk1
  clear hl hk1 hc00
  go_wp2_with fail
  go_loopw [0, 1, 7] (fun u v p wr => ∃ (m : Nat) (A1 A2 : Option Addr) (d1 d2 : Nat) (x y : Nat → Nat → Fp.F), m ≤ k ∧ v = .int .i64 (m : Int) ∧ u = .slice A1 n d1 ∧ p = .slice A2 n d2 ∧ n ≤ d2 ∧ LiesM wr A1 (Mx.matl n n x) ∧ LiesM wr A2 (Mx.matl n n y) ∧ Mx.Eqm n n (Mx.mul n y (Mx.pwm n x m)) (Mx.pwm n f k) ∧ Kp w wr) (fun _ v _ _ => (intOf v).toNat)
  case atStart => exact ⟨k, some ad, I, d, n, f, Mx.one, Nat.le_refl _, rfl, rfl, rfl, Nat.le_refl _, HA.out.keep HK1.out, HL.out, Mx.one_mul n n _, HK1.out⟩
  case round =>
    obtain ⟨m, A1, A2, d1, d2, x, y, hm, rfl, rfl, rfl, hd2, l1, l2, heq, hkw⟩ := hrel
    have L1 := Lib.hid l1
    have L2 := Lib.hid l2
    have EQ := Lib.hid heq
    have HK := Lib.hid hkw
    clear l1 l2 heq hkw
    by_cases hm0 : m = 0
    · subst hm0
      go_wp2_with fail
      refine bodyPost_ret (v := .tuple #[.slice A2 n d2, .nilIface]) (by simp [results, Tryd.results16, go_sem]) rfl ⟨A2, d2, by rw [Mx.len_matl], by rw [Mx.len_matl]; exact hd2, ?_, HK.out⟩
      rw [← EQ.out.mat, show Mx.pwm n x 0 = Mx.one from rfl, (Mx.mul_one n n y).mat]
      exact L2.out
    · have hpos : (0 : Int) < (m : Int) := by omega
      have hdiv : (m : Int).tdiv 2 = ((m / 2 : Nat) : Int) := by rw [Int.tdiv_eq_ediv_of_nonneg (by omega)]; omega
      have hdiv' : (m : Int) / 2 = ((m / 2 : Nat) : Int) := by omega
      have M1 := Lib.hid (fun (w' : World) (h : Kp wr w') => multiply_any A1 A1 x x n n n d1 d1 w' (L1.out.keep h) (L1.out.keep h) h0 h5 h0 h5 h0 h5)
      have M2 := Lib.hid (multiply_any A2 A1 y x n n n d2 d1 wr L2.out L1.out h0 h5 h0 h5 h0 h5)
      have HF := Lib.hid (Mx.pwm_half n x y m)
      have hlt : m / 2 < m := by omega
      have hle : m / 2 ≤ k := by omega
      by_cases hodd : m % 2 = 1
      · have hmod : (m : Int).tmod 2 = 1 := by rw [Int.tmod_eq_emod_of_nonneg (by omega)]; omega
        have hmod' : (m : Int) % 2 = 1 := by omega
        rw [if_pos hodd] at HF
        clear hodd hm0
        generalize m / 2 = h at *
        go_wp2_with fail
        refine (M2.out).mono ?_; rintro e w2 ⟨g2, rfl, l3, k3⟩
        have L3 := Lib.hid l3
        have K3 := Lib.hid k3
        clear l3 k3
        go_wp2_with fail
        refine (M1.out w2 K3.out).mono ?_; rintro e w3 ⟨g3, rfl, l4, k4⟩
        have L4 := Lib.hid l4
        have K4 := Lib.hid k4
        clear l4 k4
        go_wp2_with fail
        go_roundw
        case rel => exact ⟨h, _, _, _, _, _, _, hle, rfl, rfl, rfl, Nat.le_refl _, L4.out, L3.out.keep K4.out, HF.out.trans EQ.out, (HK.out.trans K3.out).trans K4.out⟩
        case measure => simp [intOf]; omega
      · have hmod : (m : Int).tmod 2 = 0 := by rw [Int.tmod_eq_emod_of_nonneg (by omega)]; omega
        have hmod' : (m : Int) % 2 = 0 := by omega
        rw [if_neg hodd] at HF
        clear hodd hm0
        generalize m / 2 = h at *
        go_wp2_with fail
        refine (M1.out wr (Kp.rfl' _)).mono ?_; rintro e w3 ⟨g3, rfl, l4, k4⟩
        have L4 := Lib.hid l4
        have K4 := Lib.hid k4
        clear l4 k4
        go_wp2_with fail
        go_roundw
        case rel => exact ⟨h, _, _, _, _, _, _, hle, rfl, rfl, rfl, hd2, L4.out, L2.out.keep K4.out, HF.out.trans EQ.out, HK.out.trans K4.out⟩
        case measure => simp [intOf]; omega

end Go.Proofs.YtbgmbjicidfhlaaDoor
