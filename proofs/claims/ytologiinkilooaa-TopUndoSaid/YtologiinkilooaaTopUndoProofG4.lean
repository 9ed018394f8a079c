/- Several texts, one behind the other: MtPow, MxRef, MxRef2, GaC2, GaC3, SoC1, SoC2, SoC3, SoC4, SoC5, MtSh, SoFact, FldRef, TpUndo. -/
import Derived.Test.YtologiinkilooaaTopUndoProofG3
import Derived.Test.YtologiinkilooaaTopUndoProofG1
import Derived.StillTailTactics
import Derived.BigQuiet
import Derived.Test.YtologiinkilooaaTopUndoProofG2
import Derived.Deep.RegionLaw
import Derived.Lib.SliceRun
import Derived.Deep.Cut
import Derived.Deep.CutRange
import Derived.Deep.DeepCutAuto

/- Contracts of package mat's Mul, One, Pow; and the errors of all of its functions. -/
namespace Go.Proofs.Ytologiinkilooaa
open Go.ChangeShapes Go.WideShapes Go.ChangeAt Go.RowKit
set_option linter.unusedVariables false

set_option maxHeartbeats 800000 in
theorem Turn_bad (A : Option Addr) (m : List (List Int)) (n d : Nat) (w : World) (ha : LiesM w A m) (hn : m.length = n) (hz : Mx.mcode 5 0 9972 m ≠ 0) :
    Calls Try.prog 15 #[.slice A n d] w fun e w' => FailsM (Mx.mcode 5 0 9972 m) w e w' := by
  have CH := Lib.hid (fun w' (h : Kp w w') => Check_any A m n d w' (ha.keep h) hn)
  have E := Lib.hid (errOf_ne _ hz)
  rw [errOf_ne _ hz] at CH
  have KK := Lib.hid (fun (o : Obj) => (Kp.rfl' w).new o)
  unfold FailsM
  rw [E.out]
  generalize Mx.mcode 5 0 9972 m = z at *
  clear ha hn hz E
  go_enter Try.func15, Try.ntmps15
  go_wp2_with fail
  refine (CH.out _ (KK.out _)).mono ?_; rintro e w' ⟨rfl, rfl⟩
  go_wp2_with fail
  refine bodyPost_ret (v := .tuple #[.slice none 0 0, .iface 50 (.int .i64 (z : Int))]) (by simp [results, Try.results15, go_sem]) rfl ⟨rfl, KK.out _⟩




set_option maxHeartbeats 800000 in
theorem Pow_bad (A : Option Addr) (m : List (List Int)) (n d : Nat) (k : Int) (w : World) (ha : LiesM w A m) (hn : m.length = n) (hz : Mx.mcode 5 0 9972 m ≠ 0) :
    Calls Try.prog 10 #[.slice A n d, .int .i64 k] w fun e w' => FailsM (Mx.mcode 5 0 9972 m) w e w' := by
  have CH := Lib.hid (Check_any A m n d w ha hn)
  have E := Lib.hid (errOf_ne _ hz)
  rw [errOf_ne _ hz] at CH
  unfold FailsM
  rw [E.out]
  generalize Mx.mcode 5 0 9972 m = z at *
  clear ha hn hz E
  go_enter Try.func10, Try.ntmps10
  go_wp2_with fail
  refine (CH.out).mono ?_; rintro e w' ⟨rfl, rfl⟩
  go_wp2_with fail
  refine bodyPost_ret (v := .tuple #[.slice none 0 0, .iface 50 (.int .i64 (z : Int))]) (by simp [results, Try.results10, go_sem]) rfl ⟨rfl, Kp.rfl' _⟩
set_option maxHeartbeats 800000 in
theorem Pow_shape (A : Option Addr) (f : Nat → Nat → Fp.F) (r c d : Nat) (k : Int) (w : World) (ha : LiesM w A (Mx.matl r c f)) (hr0 : 0 < r) (hr : r ≤ 5) (hc0 : 0 < c) (hc : c ≤ 5) (hne : r ≠ c) :
    Calls Try.prog 10 #[.slice A r d, .int .i64 k] w fun e w' => FailsM 3 w e w' := by
  have CH := Lib.hid (Check_any A (Mx.matl r c f) r d w ha (Mx.len_matl _ _ _))
  rw [Mx.mcode_matl f hr0 hr hc0 hc] at CH
  obtain ⟨ad, A0, d0, rfl, hlt0, hc00, _, _⟩ := ha.row hr0
  rw [add_zero'] at hc00
  have e1 : ((r : Int) != (c : Int)) = true := by rw [bne_iff_ne]; omega
  clear ha
  go_enter Try.func10, Try.ntmps10
  go_wp2_with fail
  refine (CH.out).mono ?_; rintro e w' ⟨rfl, rfl⟩
  rw [errOf_zero]
  go_wp2_with fail
  refine bodyPost_ret (v := .tuple #[.slice none 0 0, errOf 3]) (by simp [results, Try.results10, go_sem, errOf]) rfl ⟨rfl, Kp.rfl' _⟩
set_option maxHeartbeats 800000 in
theorem Pow_range (A : Option Addr) (f : Nat → Nat → Fp.F) (r d : Nat) (k : Int) (w : World) (ha : LiesM w A (Mx.matl r r f)) (hr0 : 0 < r) (hr : r ≤ 5) (hk : ¬ (0 ≤ k ∧ k ≤ 1000)) :
    Calls Try.prog 10 #[.slice A r d, .int .i64 k] w fun e w' => FailsM 1 w e w' := by
  have CH := Lib.hid (Check_any A (Mx.matl r r f) r d w ha (Mx.len_matl _ _ _))
  rw [Mx.mcode_matl f hr0 hr hr0 hr] at CH
  obtain ⟨ad, A0, d0, rfl, hlt0, hc00, _, _⟩ := ha.row hr0
  rw [add_zero'] at hc00
  have e1 : ((r : Int) != (r : Int)) = false := by simp
  clear ha
  by_cases h1 : k < 0
  · clear hk
    go_enter Try.func10, Try.ntmps10
    go_wp2_with fail
    refine (CH.out).mono ?_; rintro e w' ⟨rfl, rfl⟩
    rw [errOf_zero]
    go_wp2_with fail
    refine bodyPost_ret (v := .tuple #[.slice none 0 0, errOf 1]) (by simp [results, Try.results10, go_sem, errOf]) rfl ⟨rfl, Kp.rfl' _⟩
  · have h2 : 1000 < k := by omega
    clear hk
    go_enter Try.func10, Try.ntmps10
    go_wp2_with fail
    refine (CH.out).mono ?_; rintro e w' ⟨rfl, rfl⟩
    rw [errOf_zero]
    go_wp2_with fail
    refine bodyPost_ret (v := .tuple #[.slice none 0 0, errOf 1]) (by simp [results, Try.results10, go_sem, errOf]) rfl ⟨rfl, Kp.rfl' _⟩

set_option maxRecDepth 100000 in
set_option maxHeartbeats 1600000 in
theorem Pow_grid (A : Option Addr) (f : Nat → Nat → Fp.F) (n d k : Nat) (w : World) (ha : LiesM w A (Mx.matl n n f)) (h0 : 0 < n) (h5 : n ≤ 5) (hk : k ≤ 1000) :
    Calls Try.prog 10 #[.slice A n d, .int .i64 (k : Int)] w fun e w' => ∃ g G, e = .returned (.tuple #[.slice (some ⟨g, 0, none⟩) n n, .nilIface]) ∧ Grid w' g G n n (fun a b => ((Mx.pwm n f k a b).val : Int)) ∧ w.heap.size ≤ g ∧ Kp w w' := by
  have CH := Lib.hid (Check_any A (Mx.matl n n f) n d w ha (Mx.len_matl _ _ _))
  rw [Mx.mcode_matl f h0 h5 h0 h5] at CH
  have ID := Lib.hid (identity_grid n w (by omega))
  have HA := Lib.hid ha
  obtain ⟨ad, A0, d0, rfl, hlt0, hc00, _, _⟩ := ha.row h0
  rw [add_zero'] at hc00
  have e1 : ((n : Int) != (n : Int)) = false := by simp
  have e2 : ¬ (k : Int) < 0 := by omega
  have e3 : ¬ (1000 : Int) < k := by omega
  clear ha
  go_enter Try.func10, Try.ntmps10
  go_wp2_with fail
  refine (CH.out).mono ?_; rintro e w' ⟨rfl, rfl⟩
  rw [errOf_zero]
  go_wp2_with fail
  refine (ID.out).mono ?_; rintro e w1 ⟨gI, GI, rfl, hl, hgI, hk1⟩
  have HL := Lib.hid hl
  have HK1 := Lib.hid hk1
  clear hl hk1 hc00
  go_wp2_with fail
  go_loopw [0, 1, 7] (fun u v p wr => ∃ (m : Nat) (A1 : Option Addr) (d1 g2 : Nat) (G2 : Nat → Nat) (x y : Nat → Nat → Fp.F), m ≤ k ∧ v = .int .i64 (m : Int) ∧ u = .slice A1 n d1 ∧ p = .slice (some ⟨g2, 0, none⟩) n n ∧ w.heap.size ≤ g2 ∧ LiesM wr A1 (Mx.matl n n x) ∧ Grid wr g2 G2 n n (fun a b => ((y a b).val : Int)) ∧ Mx.Eqm n n (Mx.mul n y (Mx.pwm n x m)) (Mx.pwm n f k) ∧ Kp w wr) (fun _ v _ _ => (intOf v).toNat)
  case atStart => exact ⟨k, some ad, d, gI, GI, f, Mx.one, Nat.le_refl _, rfl, rfl, rfl, hgI, HA.out.keep HK1.out, HL.out, Mx.one_mul n n _, HK1.out⟩
  case round =>
    obtain ⟨m, A1, d1, g2, G2, x, y, hm, rfl, rfl, rfl, hd2, l1, l2, heq, hkw⟩ := hrel
    have L1 := Lib.hid l1
    have L2 := Lib.hid l2
    have EQ := Lib.hid heq
    have HK := Lib.hid hkw
    clear l1 l2 heq hkw
    by_cases hm0 : m = 0
    · subst hm0
      go_wp2_with fail
      refine bodyPost_ret (v := .tuple #[.slice (some ⟨g2, 0, none⟩) n n, .nilIface]) (by simp [results, Try.results10, go_sem]) rfl ⟨g2, G2, rfl, L2.out.ext fun a b ha hb => ?_, hd2, HK.out⟩
      rw [← EQ.out a b ha hb, show Mx.pwm n x 0 = Mx.one from rfl, Mx.mul_one n n y a b ha hb]
    · have hpos : (0 : Int) < (m : Int) := by omega
      have hdiv : (m : Int).tdiv 2 = ((m / 2 : Nat) : Int) := by rw [Int.tdiv_eq_ediv_of_nonneg (by omega)]; omega
      have hdiv' : (m : Int) / 2 = ((m / 2 : Nat) : Int) := by omega
      have M1 := Lib.hid (fun (w' : World) (h : Kp wr w') => multiply_any A1 A1 x x n n n d1 d1 w' (L1.out.keep h) (L1.out.keep h) h0 h5 h0 h5 h0 h5)
      have M2 := Lib.hid (multiply_grid (some ⟨g2, 0, none⟩) A1 y x n n n n d1 wr L2.out.lies L1.out h0 h5 h0 h5 h0 h5)
      have HF := Lib.hid (Mx.pwm_half n x y m)
      have hlt : m / 2 < m := by omega
      have hle : m / 2 ≤ k := by omega
      by_cases hodd : m % 2 = 1
      · have hmod : (m : Int).tmod 2 = 1 := by rw [Int.tmod_eq_emod_of_nonneg (by omega)]; omega
        have hmod' : (m : Int) % 2 = 1 := by omega
        rw [if_pos hodd] at HF
        clear hodd hm0
        generalize m / 2 = h at *
        go_wp2_with fail
        refine (M2.out).mono ?_; rintro e w2 ⟨g3', G3', rfl, l3, hg3, k3⟩
        have L3 := Lib.hid l3
        have K3 := Lib.hid k3
        have hg4 : w.heap.size ≤ g3' := by have := HK.out.size; omega
        clear l3 k3 hg3
        go_wp2_with fail
        refine (M1.out w2 K3.out).mono ?_; rintro e w3 ⟨g3, rfl, l4, k4⟩
        have L4 := Lib.hid l4
        have K4 := Lib.hid k4
        clear l4 k4
        go_wp2_with fail
        go_roundw
        case rel => exact ⟨h, _, _, _, _, _, _, hle, rfl, rfl, rfl, hg4, L4.out, L3.out.keep K4.out, HF.out.trans EQ.out, (HK.out.trans K3.out).trans K4.out⟩
        case measure => simp [intOf]; omega
      · have hmod : (m : Int).tmod 2 = 0 := by rw [Int.tmod_eq_emod_of_nonneg (by omega)]; omega
        have hmod' : (m : Int) % 2 = 0 := by omega
        rw [if_neg hodd] at HF
        clear hodd hm0
        generalize m / 2 = h at *
        go_wp2_with fail
        refine (M1.out wr (Kp.rfl' _)).mono ?_; rintro e w3 ⟨g3, rfl, l4, k4⟩
        have L4 := Lib.hid l4
        have K4 := Lib.hid k4
        clear l4 k4
        go_wp2_with fail
        go_roundw
        case rel => exact ⟨h, _, _, _, _, _, _, hle, rfl, rfl, rfl, hd2, L4.out, L2.out.keep K4.out, HF.out.trans EQ.out, HK.out.trans K4.out⟩
        case measure => simp [intOf]; omega
theorem Pow_ok (A : Option Addr) (f : Nat → Nat → Fp.F) (n d k : Nat) (w : World) (ha : LiesM w A (Mx.matl n n f)) (h0 : 0 < n) (h5 : n ≤ 5) (hk : k ≤ 1000) :
    Calls Try.prog 10 #[.slice A n d, .int .i64 (k : Int)] w fun e w' => GivesM (Mx.matl n n (Mx.pwm n f k)) w e w' :=
  (Pow_grid A f n d k w ha h0 h5 hk).mono fun _ _ ⟨_, _, he, hg, _, hk⟩ => ⟨_, _, by rw [Mx.len_matl]; exact he, by rw [Mx.len_matl]; exact Nat.le_refl _, hg.lies, hk⟩

end Go.Proofs.Ytologiinkilooaa

/- Contracts of the document's answer on matrices (package rankmereref1: Mod, Unit, Flip, Copy, MatMul, MatAdd, Matrix, Field). For all packages. -/
namespace Go.Proofs.Ytologiinkilooaa
open Go.ChangeShapes Go.WideShapes Go.ChangeAt Go.RowKit
set_option linter.unusedVariables false

theorem own_made {w : World} {base g n : Nat} (h : w.ownsRow base 3 1 (.slice (some ⟨g, 0, none⟩) n n) n (madeCells #[.int .i64 0] (n * 1)).toList) : Own w base (.slice (some ⟨g, 0, none⟩) n n) (Mx.row n fun _ => 0) := by
  unfold Own
  rw [Mx.len_row, ← Mx.row_rep]
  rw [toList_madeCells_one, Nat.mul_one] at h
  simpa [ints] using h
theorem rval (a : Fp.F) : 0 ≤ (a.val : Int) ∧ (a.val : Int) ≤ 9972 := by have := a.isLt; omega
theorem rprod (a b : Fp.F) : 0 ≤ (a.val : Int) * (b.val : Int) ∧ (a.val : Int) * (b.val : Int) ≤ 99440784 := by
  have h1 := rval a
  have h2 := rval b
  exact ⟨Int.mul_nonneg h1.1 h2.1, Int.mul_le_mul h1.2 h2.2 h2.1 (by decide)⟩
theorem rzero : ((0 : Fp.F).val : Int) = 0 := rfl

theorem rMod_any (n : Int) (w : World) (h1 : -1000000000000000 ≤ n) (h2 : n ≤ 1000000000000000) :
    Calls Try.prog 11 #[.int .i64 n] w fun e w' => e = .returned (.int .i64 (n % 9973)) ∧ w = w' := by
  obtain ⟨f1, f2⟩ := Num.tmod_fix n 9973 (by omega)
  obtain ⟨b2, b1⟩ := Num.tmod_bound n 9973 (by omega)
  have F1 := Lib.hid f1
  have F2 := Lib.hid f2
  clear f1 f2
  by_cases h : n.tmod 9973 < 0
  · go_enter Try.func11, Try.ntmps11
    go_wp2
    go_ret
    exact ⟨ret_int (F1.out h), rfl⟩
  · have h' : 0 ≤ n.tmod 9973 := by omega
    clear h
    go_enter Try.func11, Try.ntmps11
    go_wp2
    go_ret
    exact ⟨ret_int (F2.out h'), rfl⟩

/-- A matrix that the call made. -/
def Made (r c : Nat) (f : Nat → Nat → Fp.F) (w : World) (e : Ending) (w' : World) : Prop := ∃ A d, e = .returned (.slice A r d) ∧ LiesM w' A (Mx.matl r c f) ∧ Kp w w'
/-- The same, to be written to. -/
def MadeOwn (r c : Nat) (f : Nat → Nat → Fp.F) (w : World) (e : Ending) (w' : World) : Prop := ∃ v G C, e = .returned v ∧ OwnM w' w.heap.size v G C (Mx.matl r c f) ∧ Kp w w'

set_option maxRecDepth 100000 in
set_option maxHeartbeats 3200000 in
theorem rUnit_own (n : Nat) (w : World) (hn : n ≤ 1000) :
    Calls Try.prog 26 #[.int .i64 (n : Int)] w fun e w' => MadeOwn n n Mx.one w e w' := by
  obtain ⟨i0, hi, hz0, hz1, hz2⟩ := info_parts int_info
  go_enter Try.func26, Try.ntmps26
  go_wp2_with fail
  go_loopw [3, 4] (fun v i wr => ∃ (k : Nat) (G C : Nat → Nat), k ≤ n ∧ i = .int .i64 (k : Int) ∧ OwnM wr w.heap.size v G C (Mx.matl k n Mx.one) ∧ Kp w wr) (fun _ i _ => n - (intOf i).toNat)
  case atStart => exact ⟨0, fun _ => 0, fun _ => 0, Nat.zero_le _, rfl, ownM_none _ _ _ _, Kp.rfl' _⟩
  case round =>
    obtain ⟨k, G, C, hk, rfl, ho, hkp⟩ := hrel
    have HO := Lib.hid ho
    have HK := Lib.hid hkp
    clear ho hkp
    by_cases hlt : k < n
    · have HS := Lib.hid (show Mx.matl (k + 1) n Mx.one = Mx.matl k n Mx.one ++ [(Mx.row n fun _ => 0).set k 1] by
        rw [Mx.matl, Mx.tab_snoc, Mx.row_set]
        congr 2
        refine Mx.row_ext fun j _ => ?_
        show (((if k = j then (1 : Fp.F) else 0)).val : Int) = _
        by_cases e : j = k
        · rw [if_pos e, if_pos e.symm]; rfl
        · rw [if_neg e, if_neg (fun e' => e e'.symm)]; rfl)
      have HAP := Lib.hid (show ∀ i, i < (Mx.matl k n Mx.one).length → G i ≠ wr.heap.size from fun i hi => by have := (HO.out.lt hi).2; omega)
      go_wp2_with (first
        | (at_make; refine wpList_make_full _ rfl _ _ 24 rfl wr.heap.size 3 i0 (.int .i64 0) 1 Try.underlying24 hi hz0 hz1 _ _ _ _ n rfl rfl rfl rfl (by rw [hz2]; omega) (by unfold maxLen; omega) (Nat.le_refl _) ?_; intro w2 hown hgrow; have kp2 : Kp wr w2 := (Kp.rfl' wr).grown hgrow (by simp) (fun k hk => by cases hk); have ow := own_made hown; have hcell := own_cell ow k (by rw [Mx.len_row]; exact hlt); have hfree := own_free ow k; have kp3 := Lib.hid (kp2.put (p := ⟨wr.heap.size, k, none⟩) (Nat.le_refl _) (.int .i64 1)); have ow3 := Lib.hid (own_put ow k 1); have om3 := Lib.hid (HO.out.kp kp3.out))
        | (at_builtin; refine wpList_pushM rfl _ _ rfl w.heap.size _ G C (Mx.matl k n Mx.one) _ wr.heap.size n n _ 1 (by rw [List.length_set, Mx.len_row]) rfl rfl (om3.out.new _) (cell_made _ _ _ _ 0 (size_set _ _ _)) ((ow3.out.from HK.out.size).new _) HAP.out (by rw [Mx.len_matl]; omega) (Nat.le_trans HK.out.size (Nat.le_trans kp3.out.size ((Kp.rfl' _).new _).size)) ?_; intro v' w' G' C' ho' hk'))
      have HO' := Lib.hid ho'
      have HK' := Lib.hid (hk' w (Nat.le_refl _) ((HK.out.trans kp3.out).new _))
      clear ho' hk'
      go_wp2_with fail
      go_roundw
      case rel => exact ⟨k + 1, G', C', by omega, by go_num, by rw [HS.out]; exact HO'.out, HK'.out⟩
      case measure => simp [intOf]; omega
    · obtain rfl : k = n := by omega
      go_wp2_with fail
      go_ret
      exact ⟨_, G, C, rfl, HO.out, HK.out⟩
theorem rUnit_any (n : Nat) (w : World) (hn : n ≤ 1000) :
    Calls Try.prog 26 #[.int .i64 (n : Int)] w fun e w' => Made n n Mx.one w e w' :=
  (rUnit_own n w hn).mono fun e w' ⟨v, G, C, he, ho, hk⟩ => by
    obtain ⟨A', d', hv, hl, _⟩ := ho.lies
    rw [Mx.len_matl] at hv
    exact ⟨A', d', by rw [he, hv], hl, hk⟩

set_option maxRecDepth 100000 in
set_option maxHeartbeats 3200000 in
theorem rFlip_own (A : Option Addr) (f : Nat → Nat → Fp.F) (r c d : Nat) (w : World) (ha : LiesM w A (Mx.matl r c f)) (hr0 : 0 < r) (hr : r ≤ 1000) (hc : c ≤ 1000) :
    Calls Try.prog 27 #[.slice A r d] w fun e w' => MadeOwn c r (Mx.flip f) w e w' := by
  obtain ⟨ad, A0, d0, rfl, hlt0, hc00, _, _⟩ := ha.row hr0
  rw [add_zero'] at hc00
  have HA := Lib.hid ha
  have C0 := Lib.hid hc00
  clear ha hc00
  go_enter Try.func27, Try.ntmps27
  go_wp2_with fail
  go_loopw [3, 4] (fun v i wr => ∃ (k : Nat) (G C : Nat → Nat), k ≤ c ∧ i = .int .i64 (k : Int) ∧ OwnM wr w.heap.size v G C (Mx.matl k r (Mx.flip f)) ∧ Kp w wr) (fun _ i _ => c - (intOf i).toNat)
  case atStart => exact ⟨0, fun _ => 0, fun _ => 0, Nat.zero_le _, rfl, ownM_none _ _ _ _, Kp.rfl' _⟩
  case round =>
    obtain ⟨k, G, C, hk, rfl, ho, hkp⟩ := hrel
    obtain ⟨wo, hwo⟩ : ∃ x, x = wr := ⟨_, rfl⟩
    subst hwo
    have hc0 := (hkp.cell (p := ad) hlt0).trans C0.out
    have HO := Lib.hid ho
    have HK := Lib.hid hkp
    clear ho hkp
    by_cases hlt : k < c
    · have HS := Lib.hid (show Mx.matl (k + 1) r (Mx.flip f) = Mx.matl k r (Mx.flip f) ++ [Mx.row r fun j => ((f j k).val : Int)] by rw [Mx.matl, Mx.tab_snoc]; rfl)
      go_wp2_with fail
      go_loopw [5, 6] (fun u i wq => ∃ t : Nat, t ≤ r ∧ i = .int .i64 (t : Int) ∧ Own wq wo.heap.size u (Mx.row t fun j => ((f j k).val : Int)) ∧ Kp wo wq) (fun _ i _ => r - (intOf i).toNat)
      case atStart => exact ⟨0, Nat.zero_le _, rfl, Own.none _ _, Kp.rfl' _⟩
      case round =>
        obtain ⟨t, ht, rfl, hu, hkq⟩ := hrel
        have HU := Lib.hid hu
        have HQ := Lib.hid hkq
        by_cases hlt2 : t < r
        · obtain ⟨ad', A1, d1, ea, _, x1, _, l1⟩ := (HA.out.keep (HK.out.trans hkq)).row hlt2
          obtain rfl := Option.some.inj ea
          obtain ⟨ad1, rfl, _, x2⟩ := l1.el hlt
          clear hu hkq l1
          have hlen : (Mx.row t fun j => ((f j k).val : Int)).length + 1 ≤ 17000000000000 := by rw [Mx.len_row]; omega
          have hsz := HQ.out.size
          have HSN := Lib.hid (Mx.row_snoc t fun j => ((f j k).val : Int))
          generalize ((f t k).val : Int) = z at *
          go_wp2_with (at_builtin; refine wpList_push rfl _ _ rfl wo.heap.size _ (Mx.row t fun j => ((f j k).val : Int)) z wr.heap.size 1 rfl rfl (HU.out.new _) (by simp; done) hlen (Nat.le_trans hsz ((Kp.rfl' _).new _).size) ?_; intro v' w' h1 h2 _)
          have HU' := Lib.hid h1
          have HQ' := Lib.hid (own_below (HU.out.new _) (HQ.out.new _) (by have := HQ.out.size; simp; omega) h2)
          clear h1 h2
          go_wp2_with fail
          go_roundw
          case rel => exact ⟨t + 1, by omega, by go_num, by rw [HSN.out]; exact HU'.out, HQ'.out⟩
          case measure => simp [intOf]; omega
        · obtain rfl : t = r := by omega
          obtain ⟨g, gc, rfl, hg, hgc⟩ := own_some hu (by rw [Mx.len_row]; exact hr0)
          rw [Mx.len_row] at HU hgc ⊢
          clear hu hkq
          have OM := Lib.hid (HO.out.kp HQ.out)
          have HAP := Lib.hid (show ∀ i, i < (Mx.matl k t (Mx.flip f)).length → G i ≠ g from fun i hi => by have := (HO.out.lt hi).2; omega)
          go_wp2_with (at_builtin; refine wpList_pushM rfl _ _ rfl w.heap.size _ G C (Mx.matl k t (Mx.flip f)) _ g t gc _ 1 (Mx.len_row _ _) rfl rfl (OM.out.new _) (by simp; done) ((HU.out.from HK.out.size).new _) HAP.out (by rw [Mx.len_matl]; omega) (Nat.le_trans HK.out.size (Nat.le_trans HQ.out.size ((Kp.rfl' _).new _).size)) ?_; intro v' w' G' C' ho' hk')
          have HO' := Lib.hid ho'
          have HK' := Lib.hid (hk' w (Nat.le_refl _) ((HK.out.trans HQ.out).new _))
          clear ho' hk'
          go_wp2_with fail
          go_roundw
          case rel => exact ⟨k + 1, G', C', by omega, by go_num, by rw [HS.out]; exact HO'.out, HK'.out⟩
          case measure => simp [intOf]; omega
    · obtain rfl : k = c := by omega
      go_wp2_with fail
      go_ret
      exact ⟨_, G, C, rfl, HO.out, HK.out⟩
theorem rFlip_any (A : Option Addr) (f : Nat → Nat → Fp.F) (r c d : Nat) (w : World) (ha : LiesM w A (Mx.matl r c f)) (hr0 : 0 < r) (hr : r ≤ 1000) (hc : c ≤ 1000) :
    Calls Try.prog 27 #[.slice A r d] w fun e w' => Made c r (Mx.flip f) w e w' :=
  (rFlip_own A f r c d w ha hr0 hr hc).mono fun e w' ⟨v, G, C, he, ho, hk⟩ => by
    obtain ⟨A', d', hv, hl, _⟩ := ho.lies
    rw [Mx.len_matl] at hv
    exact ⟨A', d', by rw [he, hv], hl, hk⟩

end Go.Proofs.Ytologiinkilooaa

/- Contracts of the document's answer on matrices, second part: Copy, MatMul, MatAdd, Matrix, Field. For all packages. -/
namespace Go.Proofs.Ytologiinkilooaa
open Go.ChangeShapes Go.WideShapes Go.ChangeAt Go.RowKit
set_option linter.unusedVariables false

/-- Where the heads lie. -/
theorem OwnM.some {w : World} {B : Nat} {v : Value} {G C : Nat → Nat} {m : List (List Int)} (h : OwnM w B v G C m) (h0 : 0 < m.length) : ∃ g c, v = .slice (.some ⟨g, 0, .none⟩) m.length c ∧ B ≤ g := by
  rcases h.top.2 with ⟨_, h1⟩ | ⟨g, cap, cur, e, hg, _⟩
  · omega
  · exact ⟨g, cap, e, hg⟩

set_option maxRecDepth 100000 in
set_option maxHeartbeats 3200000 in
theorem rCopy_any (A : Option Addr) (f : Nat → Nat → Fp.F) (r c d : Nat) (w : World) (ha : LiesM w A (Mx.matl r c f)) (hc0 : 0 < c) (hr : r ≤ 1000) (hc : c ≤ 1000) :
    Calls Try.prog 18 #[.slice A r d] w fun e w' => MadeOwn r c f w e w' := by
  have HA := Lib.hid ha
  clear ha
  go_enter Try.func18, Try.ntmps18
  go_wp2_with fail
  go_loopw [3, 4] (fun v i wr => ∃ (k : Nat) (G C : Nat → Nat), k ≤ r ∧ i = .int .i64 (k : Int) ∧ OwnM wr w.heap.size v G C (Mx.matl k c f) ∧ Kp w wr) (fun _ i _ => r - (intOf i).toNat)
  case atStart => exact ⟨0, fun _ => 0, fun _ => 0, Nat.zero_le _, rfl, ownM_none _ _ _ _, Kp.rfl' _⟩
  case round =>
    obtain ⟨k, G, C, hk, rfl, ho, hkp⟩ := hrel
    have HO := Lib.hid ho
    have HK := Lib.hid hkp
    by_cases hlt : k < r
    · obtain ⟨ad, A1, d1, rfl, _, x1, _, l1⟩ := (HA.out.keep hkp).row hlt
      clear ho hkp
      have L1 := Lib.hid l1
      clear l1
      have HS := Lib.hid (show Mx.matl (k + 1) c f = Mx.matl k c f ++ [Mx.row c fun j => ((f k j).val : Int)] by rw [Mx.matl, Mx.tab_snoc]; rfl)
      go_wp2_with (first
        | (at_builtin; refine wpList_cat rfl _ _ rfl wr.heap.size _ [] (Mx.row c fun j => ((f k j).val : Int)) A1 c d1 rfl rfl (Mx.len_row _ _).symm (Own.none _ _) L1.out (by rw [Mx.len_row]; simp; omega) (Nat.le_refl _) ?_; intro v1 w2 h1 h2 _; have kp2 : Kp wr w2 := own_below (Own.none wr wr.heap.size) (Kp.rfl' _) (Nat.le_refl _) h2; rw [List.nil_append] at h1; obtain ⟨g, gc, rfl, hg, hgc⟩ := own_some h1 (by rw [Mx.len_row]; exact hc0); rw [Mx.len_row] at h1 hgc ⊢; have HU := Lib.hid h1; have HQ := Lib.hid kp2; have OM := Lib.hid (HO.out.kp kp2); have HAP := Lib.hid (show ∀ i, i < (Mx.matl k c f).length → G i ≠ g from fun i hi => by have := (HO.out.lt hi).2; omega); clear h1 h2 kp2)
        | (at_builtin; refine wpList_pushM rfl _ _ rfl w.heap.size _ G C (Mx.matl k c f) _ g c gc _ 1 (Mx.len_row _ _) rfl rfl (OM.out.new _) (cell_made _ _ _ _ 0 rfl) ((HU.out.from HK.out.size).new _) HAP.out (by rw [Mx.len_matl]; omega) (Nat.le_trans HK.out.size (Nat.le_trans HQ.out.size ((Kp.rfl' _).new _).size)) ?_; intro v' w' G' C' ho' hk'))
      have HO' := Lib.hid ho'
      have HK' := Lib.hid (hk' w (Nat.le_refl _) ((HK.out.trans HQ.out).new _))
      clear ho' hk'
      go_wp2_with fail
      go_roundw
      case rel => exact ⟨k + 1, G', C', by omega, by go_num, by rw [HS.out]; exact HO'.out, HK'.out⟩
      case measure => simp [intOf]; omega
    · obtain rfl : k = r := by omega
      clear ho hkp
      go_wp2_with fail
      go_ret
      exact ⟨_, G, C, rfl, HO.out, HK.out⟩



end Go.Proofs.Ytologiinkilooaa

/- Contracts of package gauss, second part: clean. -/
namespace Go.Proofs.Ytologiinkilooaa
open Go.ChangeShapes Go.WideShapes Go.ChangeAt Go.RowKit
set_option linter.unusedVariables false

set_option maxRecDepth 100000 in
set_option maxHeartbeats 3200000 in
theorem clean_any {B g cap : Nat} {G C : Nat → Nat} {r c : Nat} {f : Nat → Nat → Fp.F} {i j : Nat} (hi : i < r) (hj : j < c) (h0 : f i j ≠ 0) (w : World) (hr : r ≤ 1000) (hc : c ≤ 1000)
    (h : OwnM w B (.slice (some ⟨g, 0, none⟩) r cap) G C (Mx.matl r c f)) :
    Calls Try.prog 77 #[.slice (some ⟨g, 0, none⟩) r cap, .int .i64 (i : Int), .int .i64 (j : Int)] w fun e w' =>
      e = .returned .nilIface ∧ OwnM w' B (.slice (some ⟨g, 0, none⟩) r cap) G C (Mx.matl r c (cln f i j)) ∧ Only G r w w' := by
  have y1 := h.weak.head hi
  have y2 := h.weak.el hi hj
  have DV := Lib.hid (div_el 1 (f i j) w h0)
  have HO := Lib.hid h
  unfold el at DV
  rw [show (1 : Fp.F) * Fp.inv (f i j) = Fp.inv (f i j) by grind, show (((1 : Fp.F).val : Nat) : Int) = 1 from rfl] at DV
  obtain ⟨iv, hiv⟩ : ∃ iv, iv = ((Fp.inv (f i j)).val : Int) := ⟨_, rfl⟩
  rw [← hiv] at DV
  have HIV := Lib.hid hiv
  generalize ((f i j).val : Int) = pv at *
  clear h hiv
  go_enter Try.func77, Try.ntmps77
  go_wp2_with fail
  refine (DV.out).mono ?_; rintro e w1 ⟨rfl, hd⟩
  have HO1 := Lib.hid (HO.out.kp hd.kp)
  have HN1 := Lib.hid (Only.of (G := G) (r := r) hd.kp)
  have y3 := HO1.out.weak.head hi
  clear hd y1 y2
  go_wp2_with fail
  go_loopw [31] (fun u wr => ∃ k : Nat, k ≤ c ∧ u = .int .i64 (k : Int) ∧ OwnM wr B (.slice (some ⟨g, 0, none⟩) r cap) G C (Mx.tab r c fun p q => if p = i ∧ q < k then ((f i q * Fp.inv (f i j)).val : Int) else ((f p q).val : Int)) ∧ Only G r w wr) (fun u _ => c - (intOf u).toNat)
  case atStart => exact ⟨0, Nat.zero_le _, rfl, HO1.out.ext (fun p q _ _ => by rw [if_neg (by omega)]), HN1.out⟩
  case round =>
    obtain ⟨k, hk, rfl, ho, hon⟩ := hrel
    by_cases hlt : k < c
    · have z1 := ho.weak.head hi
      have z2 := ho.weak.el hi hlt
      have z3 := ho.weak.free hi k
      rw [if_neg (by omega)] at z2
      have HP := Lib.hid ho
      have HN := Lib.hid hon
      have hm := times_mod (f i k) (Fp.inv (f i j))
      have hb := times_bound (f i k) (Fp.inv (f i j))
      rw [← HIV.out] at hm hb
      obtain ⟨z, hz⟩ : ∃ z, z = ((f i k * Fp.inv (f i j)).val : Int) := ⟨_, rfl⟩
      rw [← hz] at hm
      have HZ := Lib.hid hz
      generalize ((f i k).val : Int) = v at *
      have hwm : IntKind.i64.wrap (v * iv) = v * iv := IntWalk.i64_in _ (by omega)
      clear ho hon hz hb y3
      go_wp2_with fail
      go_still_tail 16, (by kernel_rfl)
      change wpList _ _ _ _ _ wr.drew
      go_wp2_with fail
      go_roundw
      case rel =>
        refine ⟨k + 1, by omega, by go_num, ((HP.out.drewN 1).put hi k z).ext (fun p q hp hq => ?_), (HN.out.drewN 1).put hi k _⟩
        by_cases e : p = i ∧ q = k
        · rw [if_pos e, if_pos (by omega), HZ.out, e.2]
        · rw [if_neg e]
          by_cases e2 : p = i ∧ q < k
          · rw [if_pos e2, if_pos (by omega)]
          · rw [if_neg e2, if_neg (by omega)]
      case measure => simp [intOf]; omega
    · obtain rfl : k = c := by omega
      have HP := Lib.hid (ho.ext (f' := fun p q => ((clnTo f i j 0 p q).val : Int)) (fun p q hp hq => by
        unfold clnTo
        by_cases e : p = i
        · rw [if_pos ⟨e, hq⟩, if_pos e]
        · rw [if_neg (fun h => e h.1), if_neg e, if_neg (by omega)]))
      have HN := Lib.hid hon
      clear ho hon y3
      go_wp2_with fail
      go_loopw [53] (fun u wr => ∃ k' : Nat, k' ≤ r ∧ u = .int .i64 (k' : Int) ∧ OwnM wr B (.slice (some ⟨g, 0, none⟩) r cap) G C (Mx.matl r k (clnTo f i j k')) ∧ Only G r w wr) (fun u _ => r - (intOf u).toNat)
      case atStart => exact ⟨0, Nat.zero_le _, rfl, HP.out, HN.out⟩
      case round =>
        obtain ⟨t, ht, rfl, ho, hon⟩ := hrel
        obtain ⟨wo, hwo⟩ : ∃ x, x = wr := ⟨_, rfl⟩
        subst hwo
        by_cases hlt2 : t < r
        · have z1 := ho.weak.head hlt2
          have z2 := ho.weak.head hi
          by_cases hti : t = i
          · subst hti
            have e1 : ((t : Int) != (t : Int)) = false := by simp
            have HP := Lib.hid ho
            have HN := Lib.hid hon
            clear ho hon
            go_wp2_with fail
            go_roundw
            case rel => exact ⟨t + 1, by omega, by go_num, HP.out.ext (fun p q _ _ => by rw [clnTo_same]), HN.out⟩
            case measure => simp [intOf]; omega
          · have e1 : ((t : Int) != (i : Int)) = true := by rw [bne_iff_ne]; omega
            have z3 := ho.weak.el hlt2 hj
            rw [show clnTo f i j t t j = f t j by unfold clnTo; rw [if_neg hti, if_neg (by omega)]] at z3
            have SU := Lib.hid (fun w => subtract_any (B := B) (g := g) (cap := cap) (G := G) (C := C) hlt2 hi hti (f t j) w hc (f := clnTo f i j t))
            generalize ((f t j).val : Int) = v at *
            have HP := Lib.hid ho
            have HN := Lib.hid hon
            have HTI := Lib.hid hti
            clear ho hon hti
            go_wp2_with fail
            go_still_tail 9, (by kernel_rfl)
            change wpList _ _ _ _ _ wo.drew
            go_wp2_with fail
            refine (SU.out _ (HP.out.drewN 1)).mono ?_; rintro e w2 ⟨rfl, ho2, hon2⟩
            have HP2 := Lib.hid ho2
            have HN2 := Lib.hid ((HN.out.drewN 1).trans hon2)
            clear ho2 hon2
            go_wp2_with fail
            go_roundw
            case rel => exact ⟨t + 1, by omega, by go_num, HP2.out.ext (fun p q _ _ => by rw [clnTo_next f HTI.out]), HN2.out⟩
            case measure => simp [intOf]; omega
        · obtain rfl : t = r := by omega
          have HP := Lib.hid ho
          have HN := Lib.hid hon
          clear ho hon
          go_wp2_with fail
          go_ret
          refine ⟨rfl, HP.out.ext (fun p q hp hq => ?_), HN.out⟩
          unfold clnTo cln
          by_cases e : p = i
          · rw [if_pos e, if_pos e]
          · rw [if_neg e, if_neg e, if_pos hp]
end Go.Proofs.Ytologiinkilooaa

/- Contracts of package gauss, third part: Steps, Rank. -/
namespace Go.Proofs.Ytologiinkilooaa
open Go.ChangeShapes Go.WideShapes Go.ChangeAt Go.RowKit
set_option linter.unusedVariables false

/-- The matrix in steps, and the columns of its pivots. -/
def GotSteps (r c : Nat) (f : Nat → Nat → Fp.F) (w : World) (e : Ending) (w' : World) : Prop :=
  ∃ b g A d A' d', Stair r c c f b g ∧ e = .returned (.tuple #[.slice A r d, .slice A' b.length d', .nilIface]) ∧ LiesM w' A (Mx.matl r c g) ∧ Lies w' A' (cols b) ∧ Kp w w'
/-- No matrix, no columns, an error. -/
def FailsSteps (c : Nat) (w : World) (e : Ending) (w' : World) : Prop := e = .returned (.tuple #[.slice none 0 0, .slice none 0 0, errOf c]) ∧ Kp w w'

set_option maxRecDepth 100000 in
set_option maxHeartbeats 1600000 in
theorem Steps_bad (A : Option Addr) (m : List (List Int)) (n d : Nat) (w : World) (ha : LiesM w A m) (hn : m.length = n) (h : Mx.mcode 5 0 9972 m ≠ 0) :
    Calls Try.prog 49 #[.slice A n d] w fun e w' => FailsSteps (Mx.mcode 5 0 9972 m) w e w' := by
  have C := Lib.hid (Check_any A m n d w ha hn)
  unfold FailsSteps
  rw [errOf_ne _ h] at C ⊢
  generalize Mx.mcode 5 0 9972 m = z at *
  clear ha hn h
  go_enter Try.func49, Try.ntmps49
  go_wp2_with fail
  refine (C.out).mono ?_; rintro e w' ⟨rfl, rfl⟩
  go_wp2_with fail
  go_ret3
  exact ⟨rfl, Kp.rfl' _⟩

set_option maxRecDepth 100000 in
set_option maxHeartbeats 6400000 in
theorem Steps_ok (A : Option Addr) (f : Nat → Nat → Fp.F) (r c d : Nat) (w : World) (ha : LiesM w A (Mx.matl r c f)) (hr0 : 0 < r) (hr : r ≤ 5) (hc0 : 0 < c) (hc : c ≤ 5) :
    Calls Try.prog 49 #[.slice A r d] w fun e w' => GotSteps r c f w e w' := by
  have CK := Lib.hid (Check_any A (Mx.matl r c f) r d w ha (Mx.len_matl _ _ _))
  rw [Mx.mcode_matl f hr0 hr hc0 hc, errOf_zero] at CK
  have CL := Lib.hid (clone_any A r c d f w (by omega) (by omega) ha)
  clear ha
  obtain ⟨i0, hi, hz0, hz1, hz2⟩ := info_parts int_info
  go_enter Try.func49, Try.ntmps49
  go_wp2_with fail
  refine (CK.out).mono ?_; rintro e w' ⟨rfl, rfl⟩
  go_wp2_with fail
  refine (CL.out).mono ?_; rintro e w1 ⟨G0, rfl, hg, hk⟩
  obtain ⟨g, hg'⟩ : ∃ g, g = w.heap.size := ⟨_, rfl⟩
  have hB : w.heap.size ≤ g := by omega
  rw [← hg'] at hg ⊢
  clear hg'
  have ho := hg.own (B := w.heap.size) hB (by omega) (by omega)
  have hcell := ho.weak.head hr0
  have HO := Lib.hid ho
  have HK := Lib.hid hk
  clear ho hk hg hB
  go_wp2_with fail
  go_loopw [7, 23] (fun u i wr => ∃ (k : Nat) (b : List Nat) (h : Nat → Nat → Fp.F) (G C : Nat → Nat), k ≤ c ∧ i = .int .i64 (k : Int) ∧ Stair r c k f b h ∧ MatRow wr w.heap.size g r G C r c (fun i j => ((h i j).val : Int)) u (cols b) ∧ Kp w wr) (fun _ i _ => c - (intOf i).toNat)
  case atStart => exact ⟨0, [], f, G0, _, Nat.zero_le _, rfl, Stair.start r c f, MatRow.start HO.out, HK.out⟩
  case round =>
    clear hcell
    obtain ⟨k, b, h, G, C, hk, rfl, hst, hmr, hkp⟩ := hrel
    obtain ⟨Au, du, rfl, hlu, _⟩ := hmr.row.cap
    obtain ⟨p, hp⟩ : ∃ p, p = b.length := ⟨_, rfl⟩
    have hpr : p ≤ r := by rw [hp]; exact hst.steps.le
    rw [len_cols, ← hp] at hmr ⊢
    have HM := Lib.hid hmr
    have HS := Lib.hid hst
    have HK := Lib.hid hkp
    have HL := Lib.hid hlu
    have HP := Lib.hid hp
    clear hmr hst hkp hlu hp
    by_cases hlt : k < c
    · have BE := Lib.hid (below_any (some ⟨g, 0, none⟩) (d := r) hpr hlt wr (by omega) (by omega) HM.out.mat.liesM)
      go_wp2_with fail
      refine (BE.out).mono ?_; rintro e w' ⟨a, hf, rfl, rfl⟩
      have HF := Lib.hid hf
      have ha1 : p ≤ a := hf.1
      have ha2 : a ≤ r := hf.2.1
      clear hf
      by_cases har : a = r
      · have e1 : ((a : Int) == (r : Int)) = true := by rw [har]; simp
        have HS2 := Lib.hid (HS.out.skip fun i h1 h2 => HF.out.2.2.1 i (by rw [HP.out]; exact h1) (by omega))
        clear har ha1 ha2
        go_wp2_with fail
        go_roundw
        case rel => exact ⟨k + 1, b, h, G, C, by omega, by go_num, HS2.out, HM.out, HK.out⟩
        case measure => simp [intOf]; omega
      · have e1 : ((a : Int) == (r : Int)) = false := by rw [beq_eq_false_iff_ne]; omega
        have har' : a < r := by omega
        have hpr' : p < r := by omega
        have h0 := HF.out.2.2.2 har'
        have y1 := HM.out.mat.weak.head har'
        have y2 := HM.out.mat.weak.head hpr'
        have y3 := HM.out.mat.weak.topFree a
        have y4 := HM.out.mat.weak.topFree p
        have y5 : (wr.setCell ⟨g, p, none⟩ (.slice (some ⟨G a, 0, none⟩) c (C a))).cell? ⟨g, a, none⟩ = some (.slice (some ⟨G a, 0, none⟩) c (C a)) := by
          by_cases e : a = p
          · subst e; exact World.cell?_setCell_same' _ _ _ (by rw [y1]; rfl)
          · have hne : (⟨g, p, none⟩ : Addr) ≠ ⟨g, a, none⟩ := fun e' => e (by cases e'; rfl)
            rw [World.cell?_setCell_other (w := wr) (v := .slice (some ⟨G a, 0, none⟩) c (C a)) (h := hne)]; exact y1
        have y6 : (wr.setCell ⟨g, p, none⟩ (.slice (some ⟨G a, 0, none⟩) c (C a))).frozen? ⟨g, a, none⟩ = false := (HM.out.mat.weak.set hpr' (HM.out.mat.weak.row a har')).topFree a
        have hBg := HM.out.mat.weak.topLe.1
        obtain ⟨H, hH⟩ : ∃ H : Nat → Nat → Fp.F, H = fun i => if i = a then h p else if i = p then h a else h i := ⟨_, rfl⟩
        obtain ⟨G', hG'⟩ : ∃ G' : Nat → Nat, G' = fun i => if i = a then G p else if i = p then G a else G i := ⟨_, rfl⟩
        obtain ⟨C', hC'⟩ : ∃ C' : Nat → Nat, C' = fun i => if i = a then C p else if i = p then C a else C i := ⟨_, rfl⟩
        have SW := HM.out.swap hpr' har'
        rw [← hG', ← hC'] at SW
        have SW := Lib.hid (SW.ext (f' := fun i j => ((H i j).val : Int)) fun i j _ _ => by
          rw [hH]
          by_cases e1 : i = a
          · simp only [if_pos e1]
          · by_cases e2 : i = p
            · simp only [if_neg e1, if_pos e2]
            · simp only [if_neg e1, if_neg e2])
        have hHp : H p k = h a k := by
          rw [hH]
          show (if p = a then h p else if p = p then h a else h p) k = h a k
          by_cases e : p = a
          · rw [if_pos e, e]
          · rw [if_neg e, if_pos rfl]
        have CLN := Lib.hid (fun w' hh => clean_any (B := w.heap.size) (g := g) (cap := r) (G := G') (C := C') (f := H) hpr' hlt (by rw [hHp]; exact h0) w' (by omega) (by omega) hh)
        have HS2 := HS.out.next (a := a) (by rw [← HP.out]; exact ha1) har' h0
        rw [← HP.out, ← cln_nxt, ← hH] at HS2
        have HS2 := Lib.hid HS2
        have HK1 := Lib.hid (((HK.out.put (p := ⟨g, p, none⟩) hBg (.slice (some ⟨G a, 0, none⟩) c (C a))).put (p := ⟨g, a, none⟩) hBg (.slice (some ⟨G p, 0, none⟩) c (C p))).drewN 1)
        have HGL := Lib.hid (show ∀ i, i < r → w.heap.size ≤ G' i from fun i hi => (SW.out.mat.weak.lt hi).1)
        have HSN := Lib.hid (cols_snoc b k)
        have hlen : (cols b).length + 1 ≤ 17000000000000 := by rw [len_cols, ← HP.out]; omega
        clear har ha2 ha1 hH hG' hC' hHp h0 hBg HF
        go_wp2_with fail
        go_region_law (fail)
        all_goals
          go_wp2_with fail
          refine (CLN.out _ (SW.out.drewN 1).mat).mono ?_; rintro e w2 ⟨rfl, ho2, hon2⟩
          have HM2 := Lib.hid ((SW.out.drewN 1).only hon2 ho2)
          have HK2 := Lib.hid (show Kp w w2 from hon2.below HK1.out HK1.out.size HGL.out)
          clear ho2 hon2 y1 y2 y3 y4 y5 y6
          have hsz := HK2.out.size
          go_wp2_with (at_builtin; refine wpList_push rfl _ _ rfl w.heap.size _ (cols b) (k : Int) w2.heap.size 1 rfl rfl (HM2.out.row.new _) (by simp; done) hlen (Nat.le_trans hsz ((Kp.rfl' _).new _).size) ?_; intro v' w3 h1 h2 h3)
          have HM3 := Lib.hid ((HM2.out.kp ((Kp.rfl' _).new _)).push h1 h2 h3)
          have HK3 := Lib.hid (own_below (HM2.out.row.new _) (HK2.out.new _) (Nat.le_trans hsz ((Kp.rfl' _).new _).size) h2)
          clear h1 h2 h3
          go_wp2_with fail
          go_roundw
          case rel => exact ⟨k + 1, b ++ [k], cln H p k, G', C', by omega, by go_num, HS2.out, by rw [HSN.out]; exact HM3.out, HK3.out⟩
          case measure => simp [intOf]; omega
    · obtain rfl : k = c := by omega
      have HL2 := Lib.hid (HM.out.mat.liesM)
      go_wp2_with fail
      go_ret3
      exact ⟨b, h, some ⟨g, 0, none⟩, r, Au, du, HS.out, by rw [← HP.out]; rfl, HL2.out, HL.out, HK.out⟩

end Go.Proofs.Ytologiinkilooaa

/- Contracts of package solve, first part: what keeps what, unit, checkSide, the function that valueOf makes. -/
namespace Go.Proofs.Ytologiinkilooaa
open Go.ChangeShapes Go.WideShapes Go.ChangeAt Go.RowKit
set_option linter.unusedVariables false

/-- Nothing but what stands in some blocks has turned. -/
structure Save (S : Nat → Prop) (w w' : World) : Prop where
  os : w'.os = w.os
  tape : w'.tape = w.tape
  output : w'.output = w.output
  size : w.heap.size ≤ w'.heap.size
  block : ∀ b, b < w.heap.size → ¬ S b → w'.heap[b]? = w.heap[b]?
theorem Save.of {S : Nat → Prop} {w w' : World} (h : Kp w w') : Save S w w' := ⟨h.os, h.tape, h.output, h.size, fun b hb _ => h.block b hb⟩
theorem Save.refl (S : Nat → Prop) (w : World) : Save S w w := Save.of (Kp.rfl' w)
theorem Save.trans {S : Nat → Prop} {a b c : World} (h : Save S a b) (k : Save S b c) : Save S a c :=
  ⟨k.os.trans h.os, k.tape.trans h.tape, k.output.trans h.output, Nat.le_trans h.size k.size, fun i hi hn => (k.block i (Nat.lt_of_lt_of_le hi h.size) hn).trans (h.block i hi hn)⟩
theorem Save.drewN {S : Nat → Prop} {a b : World} (h : Save S a b) (n : Nat) : Save S a (b.drewN n) := h.trans (Save.of ((Kp.rfl' b).drewN n))
theorem Save.put {S : Nat → Prop} {a b : World} (h : Save S a b) {p : Addr} (hp : S p.block) (u : Value) : Save S a (b.setCell p u) :=
  h.trans ⟨rfl, rfl, rfl, by simp [World.setCell], fun k _ hn => Below.heap_setCell _ _ _ _ (fun e => hn (by rw [e]; exact hp))⟩
theorem Save.below {S : Nat → Prop} {B : Nat} {w0 w w' : World} (h : Save S w w') (hb : Below B w0 w) (hB : B ≤ w.heap.size) (hS : ∀ b, S b → B ≤ b) : Below B w0 w' :=
  hb.trans ⟨h.os, h.tape, h.output, h.size, fun k hk => h.block k (by omega) fun e => by have := hS k e; omega⟩
theorem Save.cell {S : Nat → Prop} {w w' : World} (h : Save S w w') {a : Addr} {v : Value} (hc : w.cell? a = some v) (hn : ¬ S a.block) : w'.cell? a = some v :=
  (World.cell?_of_block (w := w) (h.block a.block (cell_lt hc) hn)).trans hc
theorem ownsRow_save {S : Nat → Prop} {w w' : World} {B n : Nat} {e : TypeId} {v : Value} {xs : List Value} (h : w.ownsRow B e 1 v n xs) (hk : Save S w w') (hn : ∀ b, v.ownBlock = some b → ¬ S b) : w'.ownsRow B e 1 v n xs := by
  obtain ⟨h1, h2⟩ := h
  refine ⟨h1, ?_⟩
  rcases h2 with h2 | ⟨g, cap, cur, rfl, hg, hh, r⟩
  · exact .inl h2
  · refine .inr ⟨g, cap, cur, rfl, hg, ?_, r⟩
    rw [hk.block g ?_ (hn g rfl)]; exact hh
    rcases Nat.lt_or_ge g w.heap.size with hlt | hge
    · exact hlt
    · rw [Array.getElem?_eq_none hge] at hh; cases hh
theorem Own.save {S : Nat → Prop} {w w' : World} {B : Nat} {v : Value} {l : List Int} (h : Own w B v l) (hk : Save S w w') (hn : ∀ b, v.ownBlock = some b → ¬ S b) : Own w' B v l := ownsRow_save h hk hn
theorem OwnM.save {S : Nat → Prop} {w w' : World} {B : Nat} {v : Value} {G C : Nat → Nat} {m : List (List Int)} (h : OwnM w B v G C m) (hk : Save S w w') (hn : ∀ b, v.ownBlock = Option.some b → ¬ S b) (hr : ∀ i, i < m.length → ¬ S (G i)) : OwnM w' B v G C m :=
  ⟨ownsRow_save h.top hk hn, fun i hi => (h.row i hi).save hk fun b hb => by
    have : G i = b := Option.some.inj hb
    rw [← this]; exact hr i hi, h.apart⟩

/-- A row of numbers of the field. -/
abbrev rowF (c : Nat) (u : Nat → Fp.F) : List Int := Mx.row c fun j => ((u j).val : Int)
theorem matl_row {n c : Nat} (W : Nat → Nat → Fp.F) {k : Nat} (hk : k < n) : (Mx.matl n c W).getD k [] = rowF c (W k) := Mx.tab_at _ _ _ _ hk

theorem more_mod (s a b : Fp.F) : ((s.val : Int) + (a.val : Int) * (b.val : Int)).tmod 9973 = ((s + a * b).val : Int) := by
  have h := times_bound a b
  rw [Int.tmod_eq_emod_of_nonneg (by have := gval s; omega), Mx.val_more]
theorem sub_mod (a b : Fp.F) : ((a.val : Int) - (b.val : Int) + 9973).tmod 9973 = ((a - b).val : Int) := by
  have h1 := gval a
  have h2 := gval b
  rw [Int.tmod_eq_emod_of_nonneg (by omega), ← Fp.ofInt_val]
  have h : Fp.ofInt ((a.val : Int) - (b.val : Int) + 9973) + b = a := by
    have := Fp.ofInt_add ((a.val : Int) - (b.val : Int) + 9973) (b.val : Int)
    rw [Fp.ofInt_self, show (a.val : Int) - (b.val : Int) + 9973 + (b.val : Int) = (a.val : Int) + 9973 by omega, Fp.ofInt_add, Fp.ofInt_self, show Fp.ofInt 9973 = 0 from rfl] at this
    rw [← this]; grind
  have : Fp.ofInt ((a.val : Int) - (b.val : Int) + 9973) = a - b := by rw [← h]; grind
  rw [this]

/-- The function that valueOf made stands over row i of f: its box names the row, which lies in what was there. -/
structure Val (w : World) (gp B0 c : Nat) (f : Nat → Nat → Fp.F) (i : Nat) : Prop where
  ex : ∃ A1 d1, w.cell? ⟨gp, 0, none⟩ = some (.slice A1 c d1) ∧ LiesIn w B0 A1 (rowF c (f i))
theorem Val.save {S : Nat → Prop} {w w' : World} {gp B0 c : Nat} {f : Nat → Nat → Fp.F} {i : Nat} (h : Val w gp B0 c f i) (hk : Save S w w') (hg : ¬ S gp) (hS : ∀ b, S b → B0 ≤ b) (hB : B0 ≤ w.heap.size) : Val w' gp B0 c f i := by
  obtain ⟨A1, d1, h1, h2⟩ := h.ex
  exact ⟨A1, d1, hk.cell h1 hg, h2.below (hk.below (Below.refl B0 w) hB hS)⟩
theorem Val.keep {w w' : World} {gp B0 c : Nat} {f : Nat → Nat → Fp.F} {i : Nat} (h : Val w gp B0 c f i) (hk : Kp w w') (hB : B0 ≤ w.heap.size) : Val w' gp B0 c f i :=
  h.save (Save.of (S := fun _ => False) hk) (fun h => h) (fun _ h => h.elim) hB

set_option maxRecDepth 100000 in
theorem valueOf_any (A1 : Option Addr) (c d1 : Nat) (w : World) :
    Calls Try.prog 53 #[.slice A1 c d1] w fun e w' =>
      e = .returned (.func (.func 82) #[] #[.pointer (some ⟨w.heap.size, 0, none⟩)]) ∧ w'.cell? ⟨w.heap.size, 0, none⟩ = some (.slice A1 c d1) ∧ Kp w w' := by
  go_enter Try.func53, Try.ntmps53
  go_wp2_with fail
  go_ret
  exact ⟨rfl, cell_made w _ _ _ 0 rfl, (Kp.rfl' w).new _⟩

set_option maxRecDepth 100000 in
set_option maxHeartbeats 1600000 in
theorem value_any (A : Option Addr) (gp B0 c d i : Nat) (f : Nat → Nat → Fp.F) (u : Nat → Fp.F) (w : World) (hc : c ≤ 1000) (h : Val w gp B0 c f i) (hB : B0 ≤ w.heap.size) (hu : Lies w A (rowF c u)) :
    Calls Try.prog 82 #[.slice A c d, .pointer (some ⟨gp, 0, none⟩)] w fun e w' => e = .returned (.int .i64 ((Mx.tov c f u i).val : Int)) ∧ w = w' := by
  obtain ⟨A1, d1, y1, hl⟩ := h.ex
  have HR := Lib.hid (hl.lies hB)
  have HU := Lib.hid hu
  have HT := Lib.hid (show Mx.tov c f u i = Mx.sg c fun j => f i j * u j from rfl)
  clear h hl hu hB
  generalize Mx.tov c f u i = tt at *
  go_enter Try.func82, Try.ntmps82
  go_wp2_with fail
  go_loop [4, 9] (fun s j => ∃ k : Nat, k ≤ c ∧ j = .int .i64 (k : Int) ∧ s = .int .i64 ((Mx.sg k fun j => f i j * u j).val : Int)) (fun _ j => c - (intOf j).toNat)
  case atStart => exact ⟨0, Nat.zero_le _, rfl, rfl⟩
  case round =>
    obtain ⟨k, hk, rfl, rfl⟩ := hrel
    by_cases hlt : k < c
    · obtain ⟨ad1, rfl, _, x1⟩ := HR.out.el hlt
      obtain ⟨ad2, rfl, _, x2⟩ := HU.out.el hlt
      have hm := more_mod (Mx.sg k fun j => f i j * u j) (f i k) (u k)
      have hb := times_bound (f i k) (u k)
      have hs := gval (Mx.sg k fun j => f i j * u j)
      obtain ⟨z, hz⟩ : ∃ z, z = (((Mx.sg k fun j => f i j * u j) + f i k * u k : Fp.F).val : Int) := ⟨_, rfl⟩
      rw [← hz] at hm
      have HZ := Lib.hid (show z = ((Mx.sg (k + 1) fun j => f i j * u j).val : Int) from hz)
      clear hz
      generalize ((Mx.sg k fun j => f i j * u j).val : Int) = s at *
      generalize ((f i k).val : Int) = a at *
      generalize ((u k).val : Int) = b at *
      have hwm : IntKind.i64.wrap (a * b) = a * b := IntWalk.i64_in _ (by omega)
      have hwa : IntKind.i64.wrap (s + a * b) = s + a * b := IntWalk.i64_in _ (by omega)
      go_wp2_with fail
      go_round
      case rel => exact ⟨k + 1, by omega, by go_num, by rw [HZ.out]⟩
      case measure => simp [intOf]; omega
    · obtain rfl : k = c := by omega
      rw [← HT.out]
      go_wp2_with fail
      go_ret
      exact ⟨rfl, rfl⟩

set_option maxRecDepth 100000 in
theorem moves_any (A : Option Addr) (gb gp B0 c d i : Nat) (f : Nat → Nat → Fp.F) (u : Nat → Fp.F) (w : World) (hc : c ≤ 1000) (hb : w.cell? ⟨gb, 0, none⟩ = some (.func (.func 82) #[] #[.pointer (some ⟨gp, 0, none⟩)]))
    (h : Val w gp B0 c f i) (hB : B0 ≤ w.heap.size) (hu : Lies w A (rowF c u)) :
    Calls Try.prog 79 #[.slice A c d, .pointer (some ⟨gb, 0, none⟩)] w fun e w' => e = .returned (.bool (((Mx.tov c f u i).val : Int) != 0)) ∧ w = w' := by
  have V := Lib.hid (value_any A gp B0 c d i f u w hc h hB hu)
  clear h hu hB
  generalize ((Mx.tov c f u i).val : Int) = z at *
  go_enter Try.func79, Try.ntmps79
  go_wp2_with fail
  refine (V.out).mono ?_; rintro e w' ⟨rfl, rfl⟩
  go_wp2_with fail
  go_ret
  exact ⟨rfl, rfl⟩

set_option maxRecDepth 100000 in
set_option maxHeartbeats 1600000 in
/-- The first way that moves. -/
theorem ways_any (A : Option Addr) (gb gp B0 n c d i : Nat) (f W : Nat → Nat → Fp.F) (w : World) (hc : c ≤ 1000) (hn : n ≤ 1000) (hb : w.cell? ⟨gb, 0, none⟩ = some (.func (.func 82) #[] #[.pointer (some ⟨gp, 0, none⟩)]))
    (h : Val w gp B0 c f i) (hB : B0 ≤ w.heap.size) (hw : LiesM w A (Mx.matl n c W)) :
    Calls Try.prog 78 #[.slice A n d, .func (.func 79) #[] #[.pointer (some ⟨gb, 0, none⟩)]] w fun e w' =>
      ((∃ k : Nat, k < n ∧ Mx.tov c f (W k) i ≠ 0 ∧ e = .returned (.int .i64 (k : Int))) ∨ ((∀ k, k < n → Mx.tov c f (W k) i = 0) ∧ e = .returned (.int .i64 (-1)))) ∧ w = w' := by
  have MV := Lib.hid (fun (A : Option Addr) (d : Nat) (u : Nat → Fp.F) (hu : Lies w A (rowF c u)) => moves_any A gb gp B0 c d i f u w hc hb h hB hu)
  have HW := Lib.hid hw
  clear hb h hB hw
  go_enter Try.func78, Try.ntmps78
  go_wp2_with fail
  go_loop [8] (fun j => ∃ k : Nat, k ≤ n ∧ j = .int .i64 (k : Int) ∧ ∀ t, t < k → Mx.tov c f (W t) i = 0) (fun j => n - (intOf j).toNat)
  case atStart => exact ⟨0, Nat.zero_le _, rfl, fun t ht => absurd ht (by omega)⟩
  case round =>
    obtain ⟨k, hk, rfl, hz⟩ := hrel
    have HZ := Lib.hid hz
    clear hz
    by_cases hlt : k < n
    · obtain ⟨ad, A1, d1, rfl, _, x1, _, l1⟩ := HW.out.row hlt
      have M := Lib.hid (MV.out A1 d1 (W k) l1)
      clear l1
      by_cases h0 : Mx.tov c f (W k) i = 0
      · rw [h0, show ((((0 : Fp.F).val : Nat) : Int) != 0) = false from rfl] at M
        have HZ2 := Lib.hid (show ∀ t, t < k + 1 → Mx.tov c f (W t) i = 0 from fun t ht => by
          by_cases e : t = k
          · rw [e]; exact h0
          · exact HZ.out t (by omega))
        clear h0
        go_wp2_with fail
        refine (M.out).mono ?_; rintro e w' ⟨rfl, rfl⟩
        go_wp2_with fail
        go_round
        case rel => exact ⟨k + 1, by omega, by go_num, HZ2.out⟩
        case measure => simp [intOf]; omega
      · have HN := Lib.hid h0
        have hv := Fp.ne_val h0
        rw [show (((Mx.tov c f (W k) i).val : Int) != 0) = true by rw [bne_iff_ne]; omega] at M
        clear h0 hv
        go_wp2_with fail
        refine (M.out).mono ?_; rintro e w' ⟨rfl, rfl⟩
        go_wp2_with fail
        go_ret
        exact ⟨.inl ⟨k, hlt, HN.out, rfl⟩, rfl⟩
    · obtain rfl : k = n := by omega
      go_wp2_with fail
      go_ret
      exact ⟨.inr ⟨HZ.out, rfl⟩, rfl⟩

set_option maxRecDepth 100000 in
set_option maxHeartbeats 1600000 in
theorem unit_any (c j : Nat) (w : World) (hc : c ≤ 1000) (hj : j < c) :
    Calls Try.prog 51 #[.int .i64 (c : Int), .int .i64 (j : Int)] w fun e w' =>
      ∃ g, e = .returned (.slice (some ⟨g, 0, none⟩) c c) ∧ w.heap.size ≤ g ∧ Row w' g (rowF c fun k => if k = j then 1 else 0) ∧ Kp w w' := by
  obtain ⟨i0, hi, hz0, hz1, hz2⟩ := info_parts int_info
  go_enter Try.func51, Try.ntmps51
  go_wp2_with (at_make; refine wpList_make_full _ rfl _ _ 24 rfl w.heap.size 3 i0 (.int .i64 0) 1 Try.underlying24 hi hz0 hz1 _ _ _ _ c rfl rfl rfl rfl (by rw [hz2]; omega) (by unfold maxLen; omega) (Nat.le_refl _) ?_; intro w2 hown hgrow; have hkp2 : Kp w w2 := (Kp.rfl' w).grown hgrow (by simp) (fun k hk => by cases hk); have hrow := row_made hown; have hcell := hrow.cell j (by rw [List.length_replicate]; exact hj); have hfree := hrow.free j)
  go_ret
  refine ⟨w.heap.size, rfl, Nat.le_refl _, ?_, hkp2.put (p := ⟨w.heap.size, j, none⟩) (Nat.le_refl _) _⟩
  have := hrow.put j 1
  rw [Mx.row_rep, Mx.row_set] at this
  rw [show rowF c (fun k => if k = j then 1 else 0) = Mx.row c fun k => if k = j then 1 else 0 from Mx.row_ext fun k _ => by
    by_cases e : k = j
    · simp only [if_pos e]; rfl
    · simp only [if_neg e]; rfl]
  exact this

set_option maxRecDepth 100000 in
set_option maxHeartbeats 800000 in
theorem checkSide_any (A : Option Addr) (l : List Int) (n d c : Nat) (w : World) (ha : Lies w A l) (hn : l.length = n) (hb : c ≤ 1000) :
    Calls Try.prog 50 #[.slice A n d, .int .i64 (c : Int)] w fun e w' => e = .returned (errOf (Mx.rcode 0 9972 c l)) ∧ w = w' := by
  have HA := Lib.hid ha
  have HN := Lib.hid hn
  obtain ⟨v, hv⟩ : ∃ v, v = Mx.rcode 0 9972 c l := ⟨_, rfl⟩
  by_cases hc : n = c
  · subst hc
    have RNG := Lib.hid (fun (k : Nat) (hk : k < n) h2 => hv.trans (Mx.rcode_bad hn (k := k) (by omega) h2))
    have OKS := Lib.hid (fun h2 => hv.trans (Mx.rcode_ok (lo := 0) (hi := 9972) hn h2))
    rw [← hv]
    have e1 : ((n : Int) != (n : Int)) = false := by simp
    clear ha hn hv
    go_enter Try.func50, Try.ntmps50
    go_wp2_with fail
    go_loop [14] (fun i => ∃ k : Nat, k ≤ n ∧ i = .int .i64 (k : Int) ∧ ∀ j, j < k → 0 ≤ l.getD j 0 ∧ l.getD j 0 ≤ 9972) (fun i => n - (intOf i).toNat)
    case atStart => exact ⟨0, Nat.zero_le _, rfl, fun j hj => absurd hj (by omega)⟩
    case round =>
      obtain ⟨k, hk, rfl, hg⟩ := hrel
      have HG := Lib.hid hg
      clear hg
      by_cases hlt : k < n
      · obtain ⟨ad, rfl, _, hcx⟩ := HA.out k (by have := HN.out; omega)
        obtain ⟨x, hx⟩ : ∃ x, x = l.getD k 0 := ⟨_, rfl⟩
        rw [← hx] at hcx
        by_cases x0 : x < 0
        · have E := Lib.hid (RNG.out k hlt (by rw [← hx]; omega))
          clear hx
          go_wp2_with fail
          go_ret
          exact ⟨by rw [E.out]; rfl, rfl⟩
        · by_cases x1 : 9973 ≤ x
          · have E := Lib.hid (RNG.out k hlt (by rw [← hx]; omega))
            clear hx
            go_wp2_with fail
            go_ret
            exact ⟨by rw [E.out]; rfl, rfl⟩
          · have GG := Lib.hid (show ∀ j, j < k + 1 → 0 ≤ l.getD j 0 ∧ l.getD j 0 ≤ 9972 from fun j hj => by
              by_cases e : j = k
              · subst e; rw [← hx]; omega
              · exact HG.out j (by omega))
            clear hx
            go_wp2_with fail
            go_round
            case rel => exact ⟨k + 1, by omega, by go_num, GG.out⟩
            case measure => simp [intOf]; omega
      · have E := Lib.hid (OKS.out (fun j hj => HG.out j (by have := HN.out; omega)))
        go_wp2_with fail
        go_ret
        exact ⟨by rw [E.out]; rfl, rfl⟩
  · have E := Lib.hid (hv.trans (Mx.rcode_len (lo := 0) (hi := 9972) (by omega : l.length ≠ c)))
    rw [← hv]
    have e1 : ((n : Int) != (c : Int)) = true := by rw [bne_iff_ne]; omega
    clear ha hn hv hc
    go_enter Try.func50, Try.ntmps50
    go_wp2_with fail
    go_ret
    exact ⟨by rw [E.out]; rfl, rfl⟩
end Go.Proofs.Ytologiinkilooaa

/- Contracts of package solve, second part: a way less (slices.Delete), move, satisfy. -/
namespace Go.Proofs.Ytologiinkilooaa
open Go.ChangeShapes Go.WideShapes Go.ChangeAt Go.RowKit
set_option linter.unusedVariables false

theorem own_at {w : World} {B n d : Nat} {A : Option Addr} {l : List Int} (h : Own w B (.slice A n d) l) : Lies w A l := by
  obtain ⟨A', c', e, hl⟩ := h.lies
  cases e; exact hl
theorem ownM_some {w : World} {B : Nat} {v : Value} {G C : Nat → Nat} {m : List (List Int)} (h : OwnM w B v G C m) (h0 : 0 < m.length) : ∃ g cap, v = .slice (some ⟨g, 0, none⟩) m.length cap ∧ m.length ≤ cap ∧ cap ≤ maxLen ∧ B ≤ g := by
  rcases h.top.2 with ⟨_, h1⟩ | ⟨g, cap, cur, e, hg, _, hc, hm, _⟩
  · omega
  · exact ⟨g, cap, e, hc, hm, hg⟩
/-- A row of such a matrix has turned, and nothing else. -/
theorem OwnM.turned {w w' : World} {B n c g cap : Nat} {G C : Nat → Nat} {F : Nat → Nat → Int} {t : Nat} {h1 : Nat → Int} (h : OwnM w B (.slice (Option.some ⟨g, 0, Option.none⟩) n cap) G C (Mx.tab n c F)) (ht : t < n)
    (ho : Own w' B (.slice (Option.some ⟨G t, 0, Option.none⟩) c (C t)) (Mx.row c h1)) (hs : Save (fun b => b = G t) w w') : OwnM w' B (.slice (Option.some ⟨g, 0, Option.none⟩) n cap) G C (Mx.tab n c fun s => if s = t then h1 else F s) := by
  have hw := h.weak
  have ap : ∀ i j, i < n → j < n → i ≠ j → G i ≠ G j := fun i j hi hj => h.apart i j (by rw [Mx.len_tab]; exact hi) (by rw [Mx.len_tab]; exact hj)
  refine OwnH.strong ⟨ownsRow_save hw.top hs fun b hb e => ?_, fun i hi => ?_⟩ ap
  · have : g = b := Option.some.inj hb
    exact hw.apartTop ht (by rw [← e, this])
  · by_cases e : i = t
    · subst e; rw [if_pos rfl]; exact ho
    · rw [if_neg e]
      exact (hw.row i hi).save hs fun b hb e2 => ap i t hi ht e (by rw [← e2]; exact Option.some.inj hb)

theorem save_setCells (g : Nat) : ∀ (vs : List Value) (o : Nat) (w : World), Save (fun b => b = g) w (w.setCells g o vs)
  | [], _, w => Save.refl _ w
  | v :: r, o, w => by
    rw [World.setCells]
    exact Save.trans (S := fun b => b = g) ((Save.refl (fun b => b = g) w).put (p := ⟨g, o, none⟩) rfl v) (save_setCells g r (o + 1) _)
theorem heap_setCells (g : Nat) (e : TypeId) : ∀ (vs : List Value) (o : Nat) (w : World) (cur : Array Value), w.heap[g]? = some (.cells cur e (0, 0)) →
    ∃ cur', (w.setCells g o vs).heap[g]? = some (.cells cur' e (0, 0)) ∧ cur'.size = cur.size ∧ ∀ j, j < cur.size → cur'[j]? = if o ≤ j ∧ j < o + vs.length then vs[j - o]? else cur[j]?
  | [], o, w, cur, h => ⟨cur, h, rfl, fun j _ => by simp; omega⟩
  | v :: r, o, w, cur, h => by
    rw [World.setCells]
    obtain ⟨cur', h1, h2, h3⟩ := heap_setCells g e r (o + 1) (w.setCell ⟨g, o, none⟩ v) _ (heap_setCell_same w g o _ _ v h)
    refine ⟨cur', h1, by rw [h2]; simp, fun j hj => ?_⟩
    rw [h3 j (by simpa using hj)]
    by_cases e1 : j = o
    · subst e1
      rw [if_neg (by omega), if_pos ⟨Nat.le_refl _, by simp⟩]
      simp [hj]
    · by_cases e2 : o + 1 ≤ j ∧ j < o + 1 + r.length
      · rw [if_pos e2, if_pos ⟨by omega, by simp; omega⟩]
        obtain ⟨t, rfl⟩ : ∃ t, j = o + 1 + t := ⟨j - (o + 1), by omega⟩
        rw [show o + 1 + t - (o + 1) = t by omega, show o + 1 + t - o = t + 1 by omega, List.getElem?_cons_succ]
      · rw [if_neg e2, if_neg (by simp; omega), Array.getElem?_setIfInBounds_ne (by omega)]

set_option maxRecDepth 100000 in
set_option maxHeartbeats 4000000 in
/-- One row less. -/
theorem delete_any {B g cap N c k j : Nat} {G C : Nat → Nat} {F : Nat → Nat → Int} (w : World) (hk : k < N) (hj : j = k + 1) (h : OwnM w B (.slice (some ⟨g, 0, none⟩) N cap) G C (Mx.tab N c F)) :
    Calls Try.prog 80 #[.slice (some ⟨g, 0, none⟩) N cap, .int .i64 (k : Int), .int .i64 (j : Int)] w fun e w' =>
      e = .returned (.slice (some ⟨g, 0, none⟩) (N - 1) cap) ∧ OwnM w' B (.slice (some ⟨g, 0, none⟩) (N - 1) cap) (fun i => G (Mx.sk k i)) (fun i => C (Mx.sk k i)) (Mx.tab (N - 1) c fun i => F (Mx.sk k i)) ∧ Save (fun b => b = g) w w' := by
  obtain ⟨i0, hi, hz0, hz1, hz2⟩ := info_parts ints_info
  have hw := h.weak
  have ap : ∀ i j, i < N → j < N → i ≠ j → G i ≠ G j := fun i j hi hj => h.apart i j (by rw [Mx.len_tab]; exact hi) (by rw [Mx.len_tab]; exact hj)
  rcases hw.top.2 with ⟨e, _⟩ | ⟨g', cap', cur, hv, hg, hh, hcap, hmx, hsz, htk⟩
  · cases e
  cases hv
  rw [Nat.mul_one] at hsz htk
  have hlt : k < j := by omega
  have hjN : j ≤ N := by omega
  have hcur : ∀ t, t < N → cur[t]? = some (.slice (some ⟨G t, 0, none⟩) c (C t)) := fun t ht => by
    rw [← Array.getElem?_toList, ← List.getElem?_take_of_lt ht, htk]
    simp [hds, ht]
  obtain ⟨news, hnews⟩ : ∃ news, news = (List.range (N - j)).map fun t => Value.slice (some ⟨G (j + t), 0, none⟩) c (C (j + t)) := ⟨_, rfl⟩
  have hlen : news.length = N - j := by rw [hnews]; simp
  have hget : ∀ t, t < N - j → news[t]? = some (Value.slice (some ⟨G (j + t), 0, none⟩) c (C (j + t))) := fun t ht => by rw [hnews]; simp [ht]
  obtain ⟨A, hA, hsrc⟩ : ∃ A : Addr, (if cap = j then some (⟨g, 0, none⟩ : Addr) else some ⟨g, j, none⟩) = some A ∧ Hid (∀ t u, news[t]? = some u → w.drew.cell? (A.add t) = some u) := by
    by_cases hc : cap = j
    · refine ⟨⟨g, 0, none⟩, by simp [hc], fun t u hu => ?_⟩
      have h0 : news.length = 0 := by rw [hlen]; omega
      rw [List.length_eq_zero_iff.1 h0] at hu
      simp at hu
    · refine ⟨⟨g, j, none⟩, by simp [hc], fun t u hu => ?_⟩
      have ht : t < N - j := by
        have := (List.getElem?_eq_some_iff.1 hu).1
        rwa [hlen] at this
      rw [hget t ht] at hu
      have e : (⟨g, j, none⟩ : Addr).add t = ⟨g, j + t, none⟩ := by
        unfold Addr.add
        by_cases h0 : t = 0 <;> simp [h0]
      rw [e]
      show w.cell? ⟨g, j + t, none⟩ = some u
      rw [hw.head (show j + t < N by omega), ← hu]
  have s1 : Hid (news.length = (N - j) * 1) := by rw [Nat.mul_one]; exact hlen
  have s2 : Hid (∀ u ∈ news, u.oneCell' = true) := by
    intro u hu
    rw [hnews] at hu
    obtain ⟨x, _, rfl⟩ := List.mem_map.1 hu
    rfl
  have s3 : Hid (∀ t, t < news.length → (w.drew.cell? ⟨g, 0 + k * 1 + t, none⟩).isSome = true ∧ w.drew.frozen? ⟨g, 0 + k * 1 + t, none⟩ = false) := by
    intro t ht
    rw [hlen] at ht
    rw [Nat.mul_one, Nat.zero_add]
    exact ⟨by show (w.cell? _).isSome = true; rw [hw.head (show k + t < N by omega)]; rfl, hw.topFree _⟩
  obtain ⟨W1, hW1⟩ : ∃ W1, W1 = w.drew.setCells g (0 + k * 1) news := ⟨_, rfl⟩
  obtain ⟨cur1, hc1, hs1, hg1⟩ := heap_setCells g 24 news (0 + k * 1) w.drew cur hh
  rw [← hW1] at hc1
  have hcell1 : ∀ t, t < cap → W1.cell? ⟨g, t, none⟩ = cur1[t]? := fun t ht => cell_of_row _ _ t _ _ (0, 0) hc1
  have hsome1 : ∀ t, t < cap → (W1.cell? ⟨g, t, none⟩).isSome = true := fun t ht => by rw [hcell1 t ht, Array.getElem?_eq_getElem (by omega)]; rfl
  have hfree1 : ∀ t, W1.frozen? ⟨g, t, none⟩ = false := fun t => frozen_of_row W1 g t _ _ hc1
  have hcl : ∀ ty, (Builtin.clear_ #[22] ty #[.slice (some ⟨g, k + (N - j), none⟩) (N - (k + (N - j))) (cap - (k + (N - j)))]).run Try.prog W1 = .ok (.tuple #[]) (W1.setCells g (k + (N - j)) (List.replicate (N - (k + (N - j))) (.slice none 0 0))) :=
    fun ty => Lib.run_clear_slice W1 _ 24 ty (.slice none 0 0) Try.underlying22 (fun w => by simp [zeroValue, typeInfo, hi, hz0]) rfl rfl g (k + (N - j)) _ _ (by omega) (fun t ht => hsome1 _ (by omega)) (fun t ht => hfree1 _)
  obtain ⟨W2, hW2⟩ : ∃ W2, W2 = W1.setCells g (k + (N - j)) (List.replicate (N - (k + (N - j))) (Value.slice none 0 0)) := ⟨_, rfl⟩
  have ANS : Hid (OwnM W2 B (.slice (some ⟨g, 0, none⟩) (N - 1) cap) (fun i => G (Mx.sk k i)) (fun i => C (Mx.sk k i)) (Mx.tab (N - 1) c fun i => F (Mx.sk k i)) ∧ Save (fun b => b = g) w W2) := by
    have hsv : Save (fun b => b = g) w W2 := by
      rw [hW2, hW1]
      exact (((Save.refl _ w).drewN 1).trans (save_setCells g _ _ _)).trans (save_setCells g _ _ _)
    obtain ⟨cur2, hc2, hs2, hg2⟩ := heap_setCells g 24 (List.replicate (N - (k + (N - j))) (Value.slice none 0 0)) (k + (N - j)) W1 cur1 hc1
    rw [← hW2] at hc2
    have hsk : ∀ i, i < N - 1 → Mx.sk k i < N := fun i hi => by unfold Mx.sk; split <;> omega
    refine ⟨OwnH.strong ⟨⟨by rw [len_hds, Nat.mul_one], .inr ⟨g, cap, cur2, rfl, hg, hc2, by omega, hmx, by rw [Nat.mul_one]; omega, ?_⟩⟩, fun i hi => ?_⟩ fun a b ha hb hne => ap _ _ (hsk a ha) (hsk b hb) fun e => hne (Mx.sk_inj e), hsv⟩
    · rw [Nat.mul_one]
      refine List.ext_getElem? fun t => ?_
      by_cases ht : t < N - 1
      · rw [List.getElem?_take_of_lt ht, Array.getElem?_toList, hg2 t (by omega), if_neg (by omega), hg1 t (by omega)]
        have er : (hds (N - 1) c (fun i => G (Mx.sk k i)) fun i => C (Mx.sk k i))[t]? = some (Value.slice (some ⟨G (Mx.sk k t), 0, none⟩) c (C (Mx.sk k t))) := by simp [hds, ht]
        rw [er]
        by_cases hkt : t < k
        · rw [if_neg (by omega), hcur t (by omega)]
          have : Mx.sk k t = t := by unfold Mx.sk; rw [if_pos hkt]
          rw [this]
        · rw [if_pos ⟨by omega, by rw [hlen]; omega⟩, hget _ (by omega)]
          have : Mx.sk k t = j + (t - (0 + k * 1)) := by unfold Mx.sk; rw [if_neg hkt]; omega
          rw [this]
      · rw [List.getElem?_eq_none (by simp; omega), List.getElem?_eq_none (by rw [len_hds]; omega)]
    · exact (hw.row _ (hsk i hi)).save hsv fun b hb e => hw.apartTop (hsk i hi) (by rw [← e]; exact Option.some.inj hb)
  rw [← hW2] at hcl
  have hW : Hid (W1 = w.drew.setCells g (0 + k * 1) news) := hW1
  have e1 : ((k : Int) == (j : Int)) = false := by rw [beq_eq_false_iff_ne]; omega
  have e2 : k + (N - j) = N - 1 := by omega
  have E2 := Lib.hid e2
  have hkc : k ≤ cap := by omega
  have hjc : j ≤ cap := by omega
  have hmx2 : cap ≤ 9223372036854775807 := by unfold maxLen at hmx; omega
  clear h hw ap hh htk hsz hmx hcur hget hlen hnews hc1 hs1 hg1 hcell1 hsome1 hfree1 hW1 hW2 e2 hz0 hz2 hg
  clear hj
  go_enter Try.func80, Try.ntmps80
  go_wp2_with fail
  go_region_law (refine step_append_room rfl (.tmp 22) (.tmp 25) 22 rfl 24 i0 1 Try.underlying22 hi hz1 g 0 k cap (by simp [Act.eval, Act.put]) A (N - j) (cap - j) news (by simp [Act.eval, Act.put]) s1.out hsrc.out s2.out (by omega) s3.out ?_; rw [← hW.out])
  go_wp2_with fail
  go_ret
  exact ⟨by rw [E2.out]; rfl, ANS.out⟩

set_option maxRecDepth 100000 in
set_option maxHeartbeats 1600000 in
theorem move_any {B B' gt ct gw cw gp B0 c i : Nat} {f : Nat → Nat → Fp.F} {u wv : Nat → Fp.F} (want : Fp.F) (w : World) (hc : c ≤ 1000) (hv : Val w gp B0 c f i) (ht : Own w B (.slice (some ⟨gt, 0, none⟩) c ct) (rowF c u))
    (hw : Own w B' (.slice (some ⟨gw, 0, none⟩) c cw) (rowF c wv)) (hne : gw ≠ gt) (hgp : gp ≠ gt) (hB : B0 ≤ gt) (h0 : Mx.tov c f wv i ≠ 0) :
    Calls Try.prog 81 #[.func (.func 82) #[] #[.pointer (some ⟨gp, 0, none⟩)], .int .i64 (want.val : Int), .slice (some ⟨gt, 0, none⟩) c ct, .slice (some ⟨gw, 0, none⟩) c cw] w fun e w' =>
      e = .returned .nilIface ∧ Own w' B (.slice (some ⟨gt, 0, none⟩) c ct) (rowF c (Mx.mv c f i want wv u)) ∧ Save (fun b => b = gt) w w' := by
  have hlt : gt < w.heap.size := (World.ownsRow.lt ht gt rfl).2
  have V1 := Lib.hid (value_any (some ⟨gt, 0, none⟩) gp B0 c ct i f u w hc hv (by omega) (own_at ht))
  have V2 := Lib.hid (value_any (some ⟨gw, 0, none⟩) gp B0 c cw i f wv w hc hv (by omega) (own_at hw))
  have DV := Lib.hid (fun w => div_el (want - Mx.tov c f u i) (Mx.tov c f wv i) w h0)
  have HM := Lib.hid (show ∀ j, Mx.mv c f i want wv u j = u j + ((want - Mx.tov c f u i) * Fp.inv (Mx.tov c f wv i)) * wv j from fun j => rfl)
  generalize Mx.mv c f i want wv u = res at *
  have HQ := Lib.hid (sub_mod want (Mx.tov c f u i))
  have q1 := gval want
  have q2 := gval (Mx.tov c f u i)
  unfold el at DV
  obtain ⟨q, hq⟩ : ∃ q, q = (want - Mx.tov c f u i) * Fp.inv (Mx.tov c f wv i) := ⟨_, rfl⟩
  rw [← hq] at DV HM
  have q3 := gval q
  have HT := Lib.hid ht
  have HW := Lib.hid hw
  have HNE := Lib.hid hne
  clear hv ht hw hne hgp h0 hB hq
  generalize ((want - Mx.tov c f u i : Fp.F).val : Int) = mis at *
  generalize ((Mx.tov c f wv i).val : Int) = den at *
  generalize ((Mx.tov c f u i).val : Int) = cur at *
  generalize (want.val : Int) = wnt at *
  have hm := HQ.out
  have hw1 : IntKind.i64.wrap (wnt - cur) = wnt - cur := IntWalk.i64_in _ (by omega)
  have hw2 : IntKind.i64.wrap (wnt - cur + 9973) = wnt - cur + 9973 := IntWalk.i64_in _ (by omega)
  clear q1 q2
  go_enter Try.func81, Try.ntmps81
  go_wp2_with fail
  refine (V1.out).mono ?_; rintro e w' ⟨rfl, rfl⟩
  go_wp2_with fail
  refine (V2.out).mono ?_; rintro e w' ⟨rfl, rfl⟩
  go_wp2_with fail
  refine (DV.out _).mono ?_; rintro e w1 ⟨rfl, hd⟩
  have HT1 := Lib.hid (HT.out.kp hd.kp)
  have HW1 := Lib.hid (HW.out.kp hd.kp)
  have HS1 := Lib.hid (Save.of (S := fun b => b = gt) hd.kp)
  clear hd hm hw1 hw2
  go_wp2_with fail
  go_loopw [34] (fun j wr => ∃ k : Nat, k ≤ c ∧ j = .int .i64 (k : Int) ∧ Own wr B (.slice (some ⟨gt, 0, none⟩) c ct) (Mx.row c fun j => if j < k then ((u j + q * wv j : Fp.F).val : Int) else ((u j).val : Int)) ∧ Save (fun b => b = gt) w wr ∧ Save (fun b => b = gt) w1 wr) (fun j _ => c - (intOf j).toNat)
  case atStart => exact ⟨0, Nat.zero_le _, rfl, by rw [Mx.row_ext (h := fun j => ((u j).val : Int)) (fun j _ => by rw [if_neg (by omega)])]; exact HT1.out, HS1.out, Save.refl _ _⟩
  case round =>
    obtain ⟨k, hk, rfl, ho, hs, hs1⟩ := hrel
    by_cases hlt2 : k < c
    · have hw' := HW1.out.save hs1 (fun b hb e => HNE.out (by rw [← e]; exact Option.some.inj hb))
      have y1 := own_cell hw' k (by rw [Mx.len_row]; exact hlt2)
      have y2 := own_cell ho k (by rw [Mx.len_row]; exact hlt2)
      have y3 := own_free ho k
      rw [Mx.row_at _ _ _ hlt2] at y1 y2
      rw [if_neg (by omega)] at y2
      have HP := Lib.hid ho
      have HS := Lib.hid hs
      have HS1' := Lib.hid hs1
      have hm := more_mod (u k) q (wv k)
      have hb := times_bound q (wv k)
      have hb2 := gval (u k)
      obtain ⟨z, hz⟩ : ∃ z, z = ((u k + q * wv k : Fp.F).val : Int) := ⟨_, rfl⟩
      rw [← hz] at hm
      have HZ := Lib.hid hz
      generalize ((u k).val : Int) = a0 at *
      generalize ((wv k).val : Int) = b0 at *
      generalize (q.val : Int) = c0 at *
      have hwm : IntKind.i64.wrap (c0 * b0) = c0 * b0 := IntWalk.i64_in _ (by omega)
      have hwa : IntKind.i64.wrap (a0 + c0 * b0) = a0 + c0 * b0 := IntWalk.i64_in _ (by omega)
      clear ho hs hs1 hw' hz hb hb2
      go_wp2_with fail
      go_roundw
      case rel =>
        refine ⟨k + 1, by omega, by go_num, ?_, HS.out.put (p := ⟨gt, k, none⟩) rfl _, HS1'.out.put (p := ⟨gt, k, none⟩) rfl _⟩
        have := own_put HP.out k z
        rw [Mx.row_set] at this
        rw [Mx.row_ext (h := fun j => if j = k then z else if j < k then ((u j + q * wv j : Fp.F).val : Int) else ((u j).val : Int)) fun j hj => ?_]
        · exact this
        · by_cases e : j = k
          · rw [if_pos e, if_pos (by omega), HZ.out, e]
          · rw [if_neg e]
            by_cases e2 : j < k
            · rw [if_pos e2, if_pos (by omega)]
            · rw [if_neg e2, if_neg (by omega)]
      case measure => simp [intOf]; omega
    · obtain rfl : k = c := by omega
      have HP := Lib.hid ho
      have HS := Lib.hid hs
      clear ho hs hs1
      go_wp2_with fail
      go_ret
      refine ⟨rfl, ?_, HS.out⟩
      rw [show rowF k res = Mx.row k fun j => if j < k then ((u j + q * wv j : Fp.F).val : Int) else ((u j).val : Int) from Mx.row_ext fun j hj => by rw [if_pos hj, HM.out j]]
      exact HP.out
end Go.Proofs.Ytologiinkilooaa

/- Contracts of package solve, third part: satisfy. -/
namespace Go.Proofs.Ytologiinkilooaa
open Go.ChangeShapes Go.WideShapes Go.ChangeAt Go.RowKit
set_option linter.unusedVariables false

/-- One more row is met; or there is no answer at all. -/
def Stepped (B0 B gx cx r c i : Nat) (f : Nat → Nat → Fp.F) (tt0 : Nat → Fp.F) (b : List Nat) (w : World) (e : Ending) (w' : World) : Prop :=
  (∃ A n d G C x W, e = .returned (.tuple #[.slice A n d, .nilIface]) ∧ OwnM w' B (.slice A n d) G C (Mx.matl n c W) ∧ Own w' B0 (.slice (some ⟨gx, 0, none⟩) c cx) (rowF c x) ∧
    Mx.Srch c f tt0 b (i + 1) x (Mx.wl n W) ∧ n ≤ 1000 ∧ Below B0 w w') ∨
  (e = .returned (.tuple #[.slice none 0 0, .iface 50 (.int .i64 5)]) ∧ Mx.NoAns r c f tt0 ∧ Below B0 w w')

set_option maxRecDepth 100000 in
set_option maxHeartbeats 6400000 in
theorem satisfy_any {B0 B gx cx gp r c i n : Nat} {f gg W : Nat → Nat → Fp.F} {tt0 x : Nat → Fp.F} {b : List Nat} {v : Value} {G C : Nat → Nat} (w : World) (hc : c ≤ 1000) (hn : n ≤ 1000) (hi : i < r)
    (st : Mx.Steps r c b gg) (er : Mx.Req r c f gg) (sr : Mx.Srch c f tt0 b i x (Mx.wl n W)) (hv : Val w gp B0 c f i)
    (hx : Own w B0 (.slice (some ⟨gx, 0, none⟩) c cx) (rowF c x)) (hm : OwnM w B v G C (Mx.matl n c W)) (hgx : gx < B) (hB0 : B0 ≤ B) (hp1 : gp ≠ gx) (hp2 : v.ownBlock ≠ some gp) (hp3 : ∀ t, t < n → G t ≠ gp) :
    Calls Try.prog 52 #[.func (.func 82) #[] #[.pointer (some ⟨gp, 0, none⟩)], .int .i64 ((tt0 i).val : Int), .slice (some ⟨gx, 0, none⟩) c cx, v] w fun e w' => Stepped B0 B gx cx r c i f tt0 b w e w' := by
  have hxl := World.ownsRow.lt hx gx rfl
  have hgpl : gp < w.heap.size := by obtain ⟨A1, d1, h1, _⟩ := hv.ex; exact cell_lt h1
  obtain ⟨w1, hw1⟩ : ∃ w1, w1 = w.alloc (.cells #[.func (.func 82) #[] #[.pointer (some ⟨gp, 0, none⟩)]] 33) := ⟨_, rfl⟩
  have hk1 : Kp w w1 := by rw [hw1]; exact (Kp.rfl' w).new _
  have hbx : w1.cell? ⟨w.heap.size, 0, none⟩ = some (.func (.func 82) #[] #[.pointer (some ⟨gp, 0, none⟩)]) := by rw [hw1]; exact cell_made w _ _ _ 0 rfl
  obtain ⟨gb, hgb⟩ : ∃ gb, gb = w.heap.size := ⟨_, rfl⟩
  rw [← hgb] at hbx
  have hm1 := hm.kp hk1
  obtain ⟨A, d, rfl, hl1, _⟩ := hm1.lies
  rw [Mx.len_matl] at hm hp2 hm1 ⊢
  have hv1 := hv.keep hk1 (by omega)
  have hx1 := hx.kp hk1
  have WY := Lib.hid (ways_any A gb gp B0 n c d i f W w1 hc hn hbx hv1 (by have := hk1.size; omega) hl1)
  have VX := Lib.hid (value_any (some ⟨gx, 0, none⟩) gp B0 c cx i f x w1 hc hv1 (by have := hk1.size; omega) (own_at hx1))
  have K1 := Lib.hid hk1
  have HM := Lib.hid hm1
  have HX := Lib.hid hx1
  have HV := Lib.hid hv1
  have SR := Lib.hid sr
  have ST := Lib.hid st
  have ER := Lib.hid er
  have HW1 := Lib.hid hw1
  have GX := Lib.hid (show gx < B ∧ B0 ≤ gx ∧ gp ≠ gx ∧ B0 ≤ w.heap.size from ⟨hgx, hxl.1, hp1, by omega⟩)
  have GM := Lib.hid (show (Value.slice A n d).ownBlock ≠ some gp ∧ (∀ t, t < n → G t ≠ gp) ∧ (∀ t, t < n → B ≤ G t ∧ G t < gb) ∧ (∀ g, (Value.slice A n d).ownBlock = some g → B ≤ g ∧ g < gb) from
    ⟨hp2, hp3, fun t ht => by rw [hgb]; exact hm.lt (by rw [Mx.len_matl]; exact ht), fun g hg => by rw [hgb]; exact World.ownsRow.lt hm.top g hg⟩)
  have GB := Lib.hid (show gx < gb ∧ gp < gb by rw [hgb]; exact ⟨hxl.2, hgpl⟩)
  clear hxl hgpl hm hx hv hp1 hp2 hp3 hm1 hl1 hx1 hv1 st er sr hgx hB0 hk1
  clear hw1
  go_enter Try.func52, Try.ntmps52
  go_wp2_with fail
  rw [← HW1.out, ← hgb]
  clear hgb
  refine (WY.out).mono ?_; rintro e w' ⟨(⟨k, hk, h0, rfl⟩ | ⟨hz, rfl⟩), rfl⟩
  · -- a way moves
    have HN0 := Lib.hid h0
    clear h0
    obtain ⟨g, cap, hsl, _, hmx, _⟩ := ownM_some HM.out (by rw [Mx.len_matl]; omega)
    rw [Mx.len_matl] at hsl
    cases hsl
    have y1 := HM.out.weak.head hk
    have hhead := HM.out.weak.row k hk
    have htop := HM.out.weak.apartTop hk
    have DL := delete_any (k := k) (j := k + 1) w1 hk rfl HM.out
    obtain ⟨n1, hn1⟩ : ∃ n1, n1 = n - 1 := ⟨_, rfl⟩
    rw [show ((k + 1 : Nat) : Int) = (k : Int) + 1 by omega, ← hn1] at DL
    have DL := Lib.hid DL
    have HN1 := Lib.hid (show n = n1 + 1 by omega)
    have hn1000 : n1 ≤ 1000 := by omega
    have HSK := Lib.hid (show ∀ s, s < n1 → Mx.sk k s < n ∧ Mx.sk k s ≠ k from fun s hs => ⟨by unfold Mx.sk; split <;> omega, Mx.sk_ne k s⟩)
    have hg1 := GM.out.2.2.2 g rfl
    have hg2 : g ≠ gp := fun e => GM.out.1 (by rw [e]; rfl)
    have hgk := GM.out.2.2.1 k hk
    have hgk2 := GM.out.2.1 k hk
    have HGX := Lib.hid (show gx ≠ g ∧ G k ≠ gx ∧ gb ≠ g ∧ gb ≠ gx ∧ gb ≠ G k ∧ G k ≠ gp ∧ g ≠ gp ∧ B0 ≤ g by
      have := GX.out; have := GB.out
      exact ⟨by omega, by omega, by omega, by omega, by omega, hgk2, hg2, by omega⟩)
    have HTOP := Lib.hid htop
    have HHD := Lib.hid hhead
    clear hn1 hg1 hg2 hgk hgk2 htop hhead
    go_wp2_with fail
    refine (DL.out).mono ?_; rintro e w2 ⟨rfl, hm2, hs2⟩
    have hx2 := HX.out.save hs2 (fun b hb e => HGX.out.1 (by rw [← e]; exact Option.some.inj hb))
    have hway2 := HHD.out.save hs2 (fun b hb e => HTOP.out (by rw [← e]; exact Option.some.inj hb))
    have hv2 := HV.out.save hs2 (fun e => HGX.out.2.2.2.2.2.2.1 e.symm) (fun b hb => by rw [hb]; exact HGX.out.2.2.2.2.2.2.2) (by have := K1.out.size; have := GX.out; omega)
    have y2 := hs2.cell hbx HGX.out.2.2.1
    have B2 := Lib.hid (hs2.below (K1.out.mono GX.out.2.2.2) (by have := K1.out.size; have := GX.out; omega) (fun b hb => by rw [hb]; exact HGX.out.2.2.2.2.2.2.2))
    have MV := Lib.hid (move_any (tt0 i) w2 hc hv2 hx2 hway2 HGX.out.2.1 GX.out.2.2.1 GX.out.2.1 HN0.out)
    have HM2 := Lib.hid hm2
    have HV2 := Lib.hid hv2
    have HWAY2 := Lib.hid hway2
    have Y2 := Lib.hid y2
    clear hm2 hs2 hx2 hway2 hv2 hbx y1
    go_wp2_with fail
    refine (MV.out).mono ?_; rintro e w3 ⟨rfl, hx3, hs3⟩
    have hb2s : B0 ≤ w2.heap.size := by have := B2.out.size; have := GX.out; omega
    have hm3 := HM2.out.save hs3 (fun b hb e => HGX.out.1 (by rw [← e]; exact (Option.some.inj hb).symm)) (fun s hs e => by
      rw [Mx.len_tab] at hs
      have := GM.out.2.2.1 _ (HSK.out s hs).1
      have := GX.out
      omega)
    have hway3 := HWAY2.out.save hs3 (fun b hb e => HGX.out.2.1 (by rw [← e]; exact Option.some.inj hb))
    have hv3 := HV2.out.save hs3 GX.out.2.2.1 (fun b hb => by rw [hb]; exact GX.out.2.1) hb2s
    have y3 := hs3.cell Y2.out HGX.out.2.2.2.1
    have B3 := Lib.hid (hs3.below B2.out hb2s (fun b hb => by rw [hb]; exact GX.out.2.1))
    have HM3 := Lib.hid hm3
    have HX3 := Lib.hid hx3
    have HV3 := Lib.hid hv3
    have HWAY3 := Lib.hid hway3
    have Y3 := Lib.hid y3
    have B3S := Lib.hid (show B0 ≤ w3.heap.size from Nat.le_trans hb2s hs3.size)
    clear hm3 hs3 hx3 hway3 hv3 y2 hb2s
    go_wp2_with fail
    go_loopw [47] (fun j wr => ∃ t : Nat, t ≤ n1 ∧ j = .int .i64 (t : Int) ∧ OwnM wr B (.slice (some ⟨g, 0, none⟩) n1 d) (fun s => G (Mx.sk k s)) (fun s => C (Mx.sk k s)) (Mx.matl n1 c fun s => if s < t then Mx.mv c f i 0 (W k) (W (Mx.sk k s)) else W (Mx.sk k s)) ∧ Save (fun b => ∃ s, s < n1 ∧ b = G (Mx.sk k s)) w3 wr) (fun j _ => n1 - (intOf j).toNat)
    case atStart => exact ⟨0, Nat.zero_le _, rfl, HM3.out.ext (fun s q _ _ => by dsimp only; rw [if_neg (by omega)]), Save.refl _ _⟩
    case round =>
      clear y3
      obtain ⟨t, ht, rfl, ho, hs⟩ := hrel
      by_cases hlt : t < n1
      · have z1 := ho.weak.head hlt
        have z2 := hs.cell Y3.out (fun ⟨s, h1, h2⟩ => by have h3 : gb = G (Mx.sk k s) := h2; have := GM.out.2.2.1 _ (HSK.out s h1).1; omega)
        have hv4 := HV3.out.save hs (fun ⟨s, h1, h2⟩ => GM.out.2.1 _ (HSK.out s h1).1 h2.symm) (fun b ⟨s, h1, h2⟩ => by have := GM.out.2.2.1 _ (HSK.out s h1).1; have := GX.out; omega) B3S.out
        have hway4 := HWAY3.out.save hs (fun b hb ⟨s, h1, h2⟩ => (by
          have e : G k = b := Option.some.inj hb
          exact HM.out.apart k _ (by rw [Mx.len_matl]; exact hk) (by rw [Mx.len_matl]; exact (HSK.out s h1).1) (fun e2 => (HSK.out s h1).2 e2.symm) (e.trans h2)))
        have hrow4 := ho.weak.row t hlt
        have MV4 := move_any (gt := G (Mx.sk k t)) (ct := C (Mx.sk k t)) (u := W (Mx.sk k t)) 0 wr hc hv4 (by rw [show rowF c (W (Mx.sk k t)) = Mx.row c (fun q => (((if t < t then Mx.mv c f i 0 (W k) (W (Mx.sk k t)) else W (Mx.sk k t)) q).val : Int)) by rw [if_neg (Nat.lt_irrefl t)]]; exact hrow4) hway4
          (fun e => HM.out.apart k _ (by rw [Mx.len_matl]; exact hk) (by rw [Mx.len_matl]; exact (HSK.out t hlt).1) (fun e2 => (HSK.out t hlt).2 e2.symm) e) (fun e => GM.out.2.1 _ (HSK.out t hlt).1 e.symm) (by have := GM.out.2.2.1 _ (HSK.out t hlt).1; have := GX.out; omega) HN0.out
        rw [show (((0 : Fp.F).val : Nat) : Int) = 0 from rfl] at MV4
        have MV4 := Lib.hid MV4
        have HO := Lib.hid ho
        have HS := Lib.hid hs
        clear ho hs hv4 hway4 hrow4
        go_wp2_with fail
        refine (MV4.out).mono ?_; rintro e w4 ⟨rfl, hr4, hs4⟩
        have HO4 := Lib.hid ((HO.out.turned hlt hr4 hs4).ext (f' := fun s q => (((if s < t + 1 then Mx.mv c f i 0 (W k) (W (Mx.sk k s)) else W (Mx.sk k s)) q).val : Int)) fun s q _ _ => by
          dsimp only
          by_cases e : s = t
          · subst e; rw [if_pos rfl, if_pos (by omega)]
          · rw [if_neg e]
            by_cases e2 : s < t
            · rw [if_pos e2, if_pos (by omega)]
            · rw [if_neg e2, if_neg (by omega)])
        have HS4 := Lib.hid (HS.out.trans (⟨hs4.os, hs4.tape, hs4.output, hs4.size, fun b hb hn => hs4.block b hb fun e => hn ⟨t, hlt, e⟩⟩ : Save (fun b => ∃ s, s < n1 ∧ b = G (Mx.sk k s)) wr w4))
        clear hr4 hs4
        go_wp2_with fail
        go_roundw
        case rel => exact ⟨t + 1, by omega, by go_num, HO4.out, HS4.out⟩
        case measure => simp [intOf]; omega
      · obtain rfl : t = n1 := by omega
        have hx4 := HX3.out.save hs (fun b hb ⟨s, h1, h2⟩ => (by
          have e : gx = b := Option.some.inj hb
          have := GM.out.2.2.1 _ (HSK.out s h1).1
          have := GX.out
          omega))
        have HB := Lib.hid (hs.below B3.out B3S.out (fun b ⟨s, h1, h2⟩ => by have := GM.out.2.2.1 _ (HSK.out s h1).1; have := GX.out; omega))
        have HX4 := Lib.hid hx4
        have HO := Lib.hid (ho.ext (f' := fun s q => ((Mx.mv c f i 0 (W k) (W (Mx.sk k s)) q).val : Int)) fun s q hs' _ => by dsimp only; rw [if_pos hs'])
        have HSR := Lib.hid (show Mx.Srch c f tt0 b (i + 1) (Mx.mv c f i (tt0 i) (W k) x) (Mx.wl t fun s => Mx.mv c f i 0 (W k) (W (Mx.sk k s))) from by
          have hlen : k < (Mx.wl n W).length := by rw [Mx.len_wl]; exact hk
          have h := SR.out.move k hlen (by rw [Mx.wl_at]; exact HN0.out)
          rw [Mx.wl_at] at h
          rw [show (Mx.wl n W).eraseIdx k = Mx.wl t fun s => W (Mx.sk k s) by
            have e := HN1.out
            rw [e]; exact Mx.wl_erase t W k (by omega), Mx.wl_map] at h
          exact h)
        clear ho hs hx4
        go_wp2_with fail
        go_ret2
        exact .inl ⟨_, _, _, _, _, _, _, rfl, HO.out, HX4.out, HSR.out, hn1000, HB.out⟩
  · -- none does
    have HZ := Lib.hid hz
    clear hz
    have HB := Lib.hid (K1.out.mono GX.out.2.2.2)
    go_wp2_with fail
    refine (VX.out).mono ?_; rintro e w' ⟨rfl, rfl⟩
    by_cases he : Mx.tov c f x i = tt0 i
    · have HSR := Lib.hid (SR.out.keep (fun w hw => by obtain ⟨k, hk, rfl⟩ := Mx.wl_mem.1 hw; exact HZ.out k hk) he)
      have e1 : (((Mx.tov c f x i).val : Int) != ((tt0 i).val : Int)) = false := by rw [he]; simp
      generalize ((Mx.tov c f x i).val : Int) = p1 at *
      generalize ((tt0 i).val : Int) = p2 at *
      clear he
      go_wp2_with fail
      go_ret2
      exact .inl ⟨_, _, _, _, _, _, _, rfl, HM.out, HX.out, HSR.out, hn, HB.out⟩
    · have HNO := Lib.hid (SR.out.fail ST.out ER.out hi (fun w hw => by obtain ⟨k, hk, rfl⟩ := Mx.wl_mem.1 hw; exact HZ.out k hk) he)
      have e1 : (((Mx.tov c f x i).val : Int) != ((tt0 i).val : Int)) = true := by
        rw [bne_iff_ne]
        exact fun e => he (Fin.ext (by omega))
      generalize ((Mx.tov c f x i).val : Int) = p1 at *
      generalize ((tt0 i).val : Int) = p2 at *
      clear he
      go_wp2_with fail
      go_ret2
      exact .inr ⟨rfl, HNO.out, HB.out⟩
end Go.Proofs.Ytologiinkilooaa

/- Contracts of package solve, fourth part: One. -/
namespace Go.Proofs.Ytologiinkilooaa
open Go.ChangeShapes Go.WideShapes Go.ChangeAt Go.RowKit
set_option linter.unusedVariables false

theorem cols_at (b : List Nat) {k : Nat} (hk : k < b.length) : (cols b).getD k 0 = (Mx.pv b k : Int) := by simp [cols, Mx.pv, hk]
/-- What satisfy leaves, value by value. -/
def SRel (B0 B gx cx r c i : Nat) (f : Nat → Nat → Fp.F) (ys : Nat → Fp.F) (b : List Nat) (q p : Value) (w w' : World) : Prop :=
  (∃ n G C x W, p = .nilIface ∧ OwnM w' B q G C (Mx.matl n c W) ∧ Own w' B0 (.slice (some ⟨gx, 0, none⟩) c cx) (rowF c x) ∧ Mx.Srch c f ys b (i + 1) x (Mx.wl n W) ∧ n ≤ 1000 ∧ Below B0 w w') ∨
  (p = .iface 50 (.int .i64 5) ∧ Mx.NoAns r c f ys ∧ Below B0 w w')
theorem stepped_rel {B0 B gx cx r c i : Nat} {f : Nat → Nat → Fp.F} {ys : Nat → Fp.F} {b : List Nat} {w : World} {e : Ending} {w' : World} (h : Stepped B0 B gx cx r c i f ys b w e w') :
    ∃ q p, e = .returned (.tuple #[q, p]) ∧ SRel B0 B gx cx r c i f ys b q p w w' := by
  rcases h with ⟨A, n, d, G, C, x, W, he, h⟩ | ⟨he, h⟩
  · exact ⟨_, _, he, .inl ⟨n, G, C, x, W, rfl, h⟩⟩
  · exact ⟨_, _, he, .inr ⟨rfl, h⟩⟩

theorem SRel.from {B0 B gx cx r c i : Nat} {f : Nat → Nat → Fp.F} {ys : Nat → Fp.F} {b : List Nat} {q p : Value} {w0 w w' : World} (h : SRel B0 B gx cx r c i f ys b q p w w') (k : Below B0 w0 w) : SRel B0 B gx cx r c i f ys b q p w0 w' := by
  rcases h with ⟨n, G, C, x, W, h1, h2, h3, h4, h5, h6⟩ | ⟨h1, h2, h3⟩
  · exact .inl ⟨n, G, C, x, W, h1, h2, h3, h4, h5, k.trans h6⟩
  · exact .inr ⟨h1, h2, k.trans h3⟩

/-- The answer of a system, or that there is none. -/
def GotOne (r c : Nat) (f : Nat → Nat → Fp.F) (ys : Nat → Fp.F) (w : World) (e : Ending) (w' : World) : Prop :=
  ∃ b g, Stair r c c f b g ∧ ((∃ x A d, Mx.Ans r c f ys b x ∧ e = .returned (.tuple #[.slice A c d, .nilIface]) ∧ Lies w' A (rowF c x) ∧ Kp w w') ∨
    (Mx.NoAns r c f ys ∧ e = .returned (.tuple #[.slice none 0 0, .iface 50 (.int .i64 5)]) ∧ Kp w w'))
/-- No row, an error. -/
def FailsRow (c : Nat) (w : World) (e : Ending) (w' : World) : Prop := e = .returned (.tuple #[.slice none 0 0, errOf c]) ∧ Kp w w'

set_option maxRecDepth 100000 in
theorem SOne_bad (A : Option Addr) (m : List (List Int)) (n d : Nat) (T : Option Addr) (q e : Nat) (w : World) (ha : LiesM w A m) (hn : m.length = n) (h : Mx.mcode 5 0 9972 m ≠ 0) :
    Calls Try.prog 25 #[.slice A n d, .slice T q e] w fun e w' => FailsRow (Mx.mcode 5 0 9972 m) w e w' := by
  have C := Lib.hid (Steps_bad A m n d w ha hn h)
  unfold FailsSteps at C
  unfold FailsRow
  rw [errOf_ne _ h] at C ⊢
  generalize Mx.mcode 5 0 9972 m = z at *
  clear ha hn h
  go_enter Try.func25, Try.ntmps25
  go_wp2_with fail
  refine (C.out).mono ?_; rintro e w' ⟨rfl, hk⟩
  have HK := Lib.hid hk
  clear hk
  go_wp2_with fail
  go_ret2
  exact ⟨rfl, HK.out⟩

set_option maxRecDepth 100000 in
theorem One_side (A : Option Addr) (f : Nat → Nat → Fp.F) (r c d : Nat) (T : Option Addr) (l : List Int) (q e : Nat) (w : World) (ha : LiesM w A (Mx.matl r c f)) (ht : Lies w T l) (hl : l.length = q) (hr0 : 0 < r) (hr : r ≤ 5) (hc0 : 0 < c) (hc : c ≤ 5) (h : Mx.rcode 0 9972 r l ≠ 0) :
    Calls Try.prog 25 #[.slice A r d, .slice T q e] w fun e w' => FailsRow (Mx.rcode 0 9972 r l) w e w' := by
  have ST := Lib.hid (Steps_ok A f r c d w ha hr0 hr hc0 hc)
  have CS := Lib.hid (fun (w1 : World) (k : Kp w w1) => checkSide_any T l q e r w1 (ht.keep k) hl (by omega))
  unfold FailsRow
  rw [errOf_ne _ h] at CS ⊢
  generalize Mx.rcode 0 9972 r l = z at *
  clear ha ht h
  go_enter Try.func25, Try.ntmps25
  go_wp2_with fail
  refine (ST.out).mono ?_; rintro e w1 ⟨b, g, A1, d1, A2, d2, hs, rfl, l1, l2, k1⟩
  have K1 := Lib.hid k1
  clear hs l1 l2 k1
  go_wp2_with fail
  refine (CS.out _ K1.out).mono ?_; rintro e w' ⟨rfl, rfl⟩
  go_wp2_with fail
  go_ret2
  exact ⟨rfl, K1.out⟩

set_option maxRecDepth 100000 in
set_option maxHeartbeats 6400000 in
theorem SOne_ok (A : Option Addr) (f : Nat → Nat → Fp.F) (r c d : Nat) (T : Option Addr) (t : Nat → Fp.F) (e : Nat) (w : World) (ha : LiesM w A (Mx.matl r c f)) (ht : Lies w T (rowF r t)) (hr0 : 0 < r) (hr : r ≤ 5) (hc0 : 0 < c) (hc : c ≤ 5) :
    Calls Try.prog 25 #[.slice A r d, .slice T r e] w fun e w' => GotOne r c f t w e w' := by
  have STP := Lib.hid (Steps_ok A f r c d w ha hr0 hr hc0 hc)
  have CS := Lib.hid (fun (w1 : World) (k : Kp w w1) => checkSide_any T (rowF r t) r e r w1 (ht.keep k) (Mx.len_row _ _) (by omega))
  rw [Mx.rcode_ok (Mx.len_row _ _) (fun k hk => by
    rw [Mx.len_row] at hk
    rw [Mx.row_at _ _ _ hk]; exact gval _), errOf_zero] at CS
  have HA := Lib.hid ha
  have HT := Lib.hid ht
  obtain ⟨i0, hi, hz0, hz1, hz2⟩ := info_parts int_info
  clear ha ht
  go_enter Try.func25, Try.ntmps25
  go_wp2_with fail
  refine (STP.out).mono ?_; rintro e w1 ⟨b, g, A1, d1, A2, d2, hs, rfl, l1, l2, k1⟩
  obtain ⟨p, hp⟩ : ∃ p, p = b.length := ⟨_, rfl⟩
  rw [← hp]
  have HP := Lib.hid hp
  have ST := Lib.hid hs
  have L2 := Lib.hid l2
  have K1 := Lib.hid k1
  have hpr : p ≤ r := by rw [hp]; exact hs.le
  obtain ⟨ad, A0, d0, rfl, _, x1, _, _⟩ := (HA.out.keep k1).row hr0
  rw [add_zero'] at x1
  clear hs l1 l2 k1 hp
  go_wp2_with fail
  refine (CS.out _ K1.out).mono ?_; rintro e w' ⟨rfl, rfl⟩
  go_wp2_with (at_make; refine wpList_make_full _ rfl _ _ 24 rfl w1.heap.size 3 i0 (.int .i64 0) 1 Try.underlying24 hi hz0 hz1 _ _ _ _ c rfl rfl rfl rfl (by rw [hz2]; omega) (by unfold maxLen; omega) (Nat.le_refl _) ?_; intro w2 hown hgrow)
  have hkp2 : Kp w1 w2 := (Kp.rfl' w1).grown hgrow (by simp) (fun k hk => by cases hk)
  have hrow := row_made hown
  obtain ⟨gx, hgx⟩ : ∃ gx, gx = w1.heap.size := ⟨_, rfl⟩
  rw [← hgx] at hrow ⊢
  have hx0 : Own w2 w.heap.size (.slice (some ⟨gx, 0, none⟩) c c) (rowF c fun _ => 0) := by
    rw [Mx.row_rep] at hrow
    exact hrow.own (by rw [hgx]; exact K1.out.size) (Mx.len_row _ _) (by omega)
  have GX := Lib.hid (show gx < w2.heap.size ∧ w.heap.size ≤ w2.heap.size from ⟨hrow.lt, Nat.le_trans K1.out.size hkp2.size⟩)
  have HX0 := Lib.hid hx0
  have K2 := Lib.hid (K1.out.trans hkp2)
  have K12 := Lib.hid hkp2
  clear hown hgrow hkp2 hrow hgx hx0 x1
  go_loopw [11, 39] (fun v j wr => ∃ (k : Nat) (G C : Nat → Nat), k ≤ p ∧ j = .int .i64 (k : Int) ∧ OwnM wr w2.heap.size v G C (Mx.matl k c fun s q => if q = Mx.pv b s then 1 else 0) ∧ Kp w2 wr) (fun _ j _ => p - (intOf j).toNat)
  case atStart => exact ⟨0, fun _ => 0, fun _ => 0, Nat.zero_le _, rfl, ownM_none _ _ _ _, Kp.rfl' _⟩
  case round =>
    obtain ⟨k, G, C, hk, rfl, ho, hkp⟩ := hrel
    have HO := Lib.hid ho
    have HK := Lib.hid hkp
    clear ho hkp
    by_cases hlt : k < p
    · obtain ⟨ad2, rfl, _, x2⟩ := ((L2.out.keep K12.out).keep HK.out) k (by rw [len_cols, ← HP.out]; exact hlt)
      rw [cols_at b (by rw [← HP.out]; exact hlt)] at x2
      have UN := Lib.hid (unit_any c (Mx.pv b k) wr (by omega) (ST.out.steps.lt k (by rw [← HP.out]; exact hlt)))
      generalize hj : Mx.pv b k = j at *
      have HJ := Lib.hid hj
      clear hj
      go_wp2_with fail
      refine (UN.out).mono ?_; rintro e w3 ⟨gu, rfl, hgu, hru, k3⟩
      have OM := Lib.hid (HO.out.kp k3)
      have HU := Lib.hid (hru.own (B := w2.heap.size) (Nat.le_trans HK.out.size hgu) (Mx.len_row _ _) (by omega))
      have HAP := Lib.hid (show ∀ i, i < (Mx.matl k c fun s q => if q = Mx.pv b s then 1 else 0).length → G i ≠ gu from fun i hi => by
        have := (HO.out.lt hi).2
        omega)
      have HK3 := Lib.hid (HK.out.trans k3)
      have HNX := Lib.hid (show (Mx.matl k c fun s q => if q = Mx.pv b s then 1 else 0) ++ [rowF c fun q => if q = j then 1 else 0] = Mx.matl (k + 1) c fun s q => if q = Mx.pv b s then 1 else 0 by
        rw [← HJ.out]; exact (Mx.tab_snoc _ _ _).symm)
      clear hgu hru k3 x2
      go_wp2_with (at_builtin; refine wpList_pushM rfl _ _ rfl w2.heap.size _ G C (Mx.matl k c fun s q => if q = Mx.pv b s then 1 else 0) _ gu c c _ 1 (Mx.len_row _ _) rfl rfl (OM.out.new _) (cell_made _ _ _ _ 0 rfl) (HU.out.new _) HAP.out (by rw [Mx.len_matl]; omega) (Nat.le_trans HK3.out.size ((Kp.rfl' _).new _).size) ?_; intro v' w4 G' C' ho4 hk4)
      rw [HNX.out] at ho4
      have HO4 := Lib.hid ho4
      have HK4 := Lib.hid (hk4 w2 (Nat.le_refl _) (HK3.out.new _))
      clear ho4 hk4
      go_wp2_with fail
      go_roundw
      case rel => exact ⟨k + 1, G', C', by omega, by go_num, HO4.out, HK4.out⟩
      case measure => simp [intOf]; omega
    · obtain rfl : k = p := by omega
      have SR0 := Lib.hid (show Mx.Srch c f t b 0 (fun _ => 0) (Mx.wl k fun s q => if q = Mx.pv b s then 1 else 0) from by
        have h := Mx.Srch.start c f t b
        rw [Mx.wl_units, ← HP.out] at h
        exact h)
      have HX1 := Lib.hid (HX0.out.kp HK.out)
      have K4 := Lib.hid (K2.out.trans HK.out)
      have hk1000 : k ≤ 1000 := by omega
      obtain ⟨w0', hw0'⟩ : ∃ x, x = wr := ⟨_, rfl⟩
      subst hw0'
      go_wp2_with fail
      go_loopw [11, 53] (fun v j wr => ∃ (i n : Nat) (G C : Nat → Nat) (x : Nat → Fp.F) (W : Nat → Nat → Fp.F), i ≤ r ∧ j = .int .i64 (i : Int) ∧ n ≤ 1000 ∧ OwnM wr w2.heap.size v G C (Mx.matl n c W) ∧ Own wr w.heap.size (.slice (some ⟨gx, 0, none⟩) c c) (rowF c x) ∧ Mx.Srch c f t b i x (Mx.wl n W) ∧ Kp w wr) (fun _ j _ => r - (intOf j).toNat)
      case atStart => exact ⟨0, k, G, C, _, _, Nat.zero_le _, rfl, hk1000, HO.out, HX1.out, SR0.out, K4.out⟩
      case round =>
        obtain ⟨i, n, G, C, x, W, hir, rfl, hn, ho, hx, hsr, hkp⟩ := hrel
        by_cases hlt : i < r
        · obtain ⟨_, A3, d3, e3, _, x3, _, l3⟩ := (HA.out.keep hkp).row hlt
          obtain rfl := Option.some.inj e3
          obtain ⟨ad4, rfl, _, x4⟩ := (HT.out.keep hkp).el hlt
          have ROW := Lib.hid (show LiesIn w w.heap.size A3 (rowF c (f i)) from by
            obtain ⟨_, A0', d0', e0, _, x0, _, l0⟩ := HA.out.row hlt
            obtain rfl := Option.some.inj e0
            have := (hkp.cell (p := ad.add i) (by rw [block_add]; assumption)).symm.trans x3
            rw [x0] at this
            cases this
            exact l0)
          have VO := Lib.hid ((valueOf_any A3 c d3 wr.drew).mono fun e w' h => (⟨wr.drew.heap.size, h.1, h.2.1, h.2.2, Nat.le_refl _⟩ :
            ∃ gp, e = .returned (.func (.func 82) #[] #[.pointer (some ⟨gp, 0, none⟩)]) ∧ w'.cell? ⟨gp, 0, none⟩ = some (.slice A3 c d3) ∧ Kp wr.drew w' ∧ wr.drew.heap.size ≤ gp))
          have KD := Lib.hid (show Kp w wr.drew from hkp.drewN 1)
          have SAT := Lib.hid (fun (w5 : World) (gp : Nat) (hb : w5.cell? ⟨gp, 0, none⟩ = some (.slice A3 c d3)) (k5 : Kp wr.drew w5) (hgp : wr.drew.heap.size ≤ gp) =>
            (satisfy_any (B0 := w.heap.size) (B := w2.heap.size) (gx := gx) (cx := c) (gp := gp) (r := r) (v := u11) w5 (by omega) hn hlt ST.out.steps ST.out.req hsr ⟨⟨A3, d3, hb, ROW.out.below (KD.out.trans k5)⟩⟩
              (hx.kp (((Kp.rfl' wr).drewN 1).trans k5)) (ho.kp (((Kp.rfl' wr).drewN 1).trans k5)) GX.out.1 GX.out.2 (fun e => by have h1 : wr.heap.size ≤ gp := hgp; have := (World.ownsRow.lt hx gx rfl).2; omega)
              (fun e => by have h1 : wr.heap.size ≤ gp := hgp; have := (World.ownsRow.lt ho.top gp e).2; omega) (fun s hs e => by have h1 : wr.heap.size ≤ gp := hgp; have := (ho.lt (by rw [Mx.len_matl]; exact hs)).2; omega)).mono
              fun e w' h => (show ∃ q p, e = .returned (.tuple #[q, p]) ∧ SRel w.heap.size w2.heap.size gx c r c i f t b q p w w' from by
                obtain ⟨q, p, he, hr⟩ := stepped_rel h
                exact ⟨q, p, he, hr.from (KD.out.trans k5)⟩))
          have XK := Lib.hid (fun (w5 : World) (k5 : Kp wr.drew w5) => (show w5.cell? (ad4.add i) = some (.int .i64 ((t i).val : Int)) from by
            have h4 := x4
            rw [← x4]
            exact ((((Kp.rfl' wr).drewN 1).trans k5).cell (p := ad4.add i) (cell_lt h4))))
          generalize ((t i).val : Int) = ti at *
          clear ho hx hsr hkp l3
          go_upto_region 17 with (fail)
          go_cut [8, 11, 53] from 53 to 73 (fun p q j wc => j = .int .i64 (i : Int) ∧ SRel w.heap.size w2.heap.size gx c r c i f t b q p w wc)
          case first =>
            go_region_law (first
              | (go_simp; go_at_call 53; (with_reducible refine (VO.out).mono ?_); rintro e w5 ⟨gp, rfl, hb5, hk5, hgp⟩
                 have c5 := XK.out w5 hk5)
              | (go_simp; go_at_call 52; (with_reducible refine (SAT.out w5 gp hb5 hk5 hgp).mono ?_); rintro e w6 ⟨q6, p6, rfl, hrel6⟩))
            all_goals
              go_wp2_with fail
              go_meet
              case rel => exact ⟨rfl, hrel6⟩
          case rest =>
            obtain ⟨rfl, hrel⟩ := hcut
            rcases hrel with ⟨n2, G2, C2, x2, W2, rfl, ho2, hx2, hsr2, hn2, hk2⟩ | ⟨rfl, hno, hk2⟩
            · have HO2 := Lib.hid ho2
              have HX2 := Lib.hid hx2
              have HSR2 := Lib.hid hsr2
              have HK2 := Lib.hid hk2
              clear ho2 hx2 hsr2 hk2
              go_wp2_with fail
              go_roundw
              case rel => exact ⟨i + 1, n2, G2, C2, x2, W2, by omega, by go_num, hn2, HO2.out, HX2.out, HSR2.out, HK2.out⟩
              case measure => simp [intOf]; omega
            · have HNO := Lib.hid hno
              have HK2 := Lib.hid hk2
              clear hno hk2
              go_wp2_with fail
              go_ret2
              exact ⟨b, g, ST.out, .inr ⟨HNO.out, rfl, HK2.out⟩⟩
        · obtain rfl : i = r := by omega
          have HX := Lib.hid (own_at hx)
          have HSR := Lib.hid hsr
          have HKP := Lib.hid hkp
          clear ho hx hsr hkp
          go_wp2_with fail
          go_ret2
          exact ⟨b, g, ST.out, .inl ⟨x, some ⟨gx, 0, none⟩, c, HSR.out.done, rfl, HX.out, HKP.out⟩⟩
end Go.Proofs.Ytologiinkilooaa

/- Contracts of package solve, fifth part: Null. -/
namespace Go.Proofs.Ytologiinkilooaa
open Go.ChangeShapes Go.WideShapes Go.ChangeAt Go.RowKit
set_option linter.unusedVariables false

theorem neg_mod (a : Fp.F) : ((9973 : Int) - (a.val : Int)).tmod 9973 = ((-a : Fp.F).val : Int) := by
  have h := sub_mod 0 a
  rw [show (((0 : Fp.F).val : Nat) : Int) = 0 from rfl, show (0 : Int) - (a.val : Int) + 9973 = 9973 - (a.val : Int) by omega] at h
  rw [h]
  have : (0 : Fp.F) - a = -a := by grind
  rw [this]
theorem cols_el (b : List Nat) {k : Nat} (hk : k < b.length) : (cols b).getD k 0 = (Mx.pv b k : Int) := by simp [cols, Mx.pv, hk]
theorem occurs_cols {b : List Nat} {k : Nat} : Occurs (cols b) b.length (k : Int) ↔ k ∈ b := by
  constructor
  · rintro ⟨j, hj, e⟩
    rw [cols_el b hj] at e
    have : Mx.pv b j = k := by omega
    rw [← this]; exact Mx.pv_mem hj
  · intro h
    obtain ⟨t, ht, rfl⟩ := List.mem_iff_getElem.1 h
    exact ⟨t, ht, by rw [cols_el b ht]; simp [Mx.pv, ht]⟩

/-- The rows that are taken to noughts, as far as the first k columns. -/
def nulls (b : List Nat) (g : Nat → Nat → Fp.F) (c k : Nat) : List (List Int) := (Mx.fr b k).map fun q => rowF c (Mx.nv b g q b.length)
theorem nulls_yes {b : List Nat} {g : Nat → Nat → Fp.F} {c k : Nat} (h : k ∈ b) : nulls b g c (k + 1) = nulls b g c k := by unfold nulls; rw [Mx.fr_yes h]
theorem nulls_no {b : List Nat} {g : Nat → Nat → Fp.F} {c k : Nat} (h : k ∉ b) : nulls b g c (k + 1) = nulls b g c k ++ [rowF c (Mx.nv b g k b.length)] := by unfold nulls; rw [Mx.fr_no h]; simp
theorem len_nulls (b : List Nat) (g : Nat → Nat → Fp.F) (c k : Nat) : (nulls b g c k).length = (Mx.fr b k).length := by simp [nulls]
theorem nulls_all (b : List Nat) (g : Nat → Nat → Fp.F) (c : Nat) : nulls b g c c = Mx.matl (Mx.fr b c).length c (Mx.nm b g c) := by
  refine List.ext_getElem (by rw [len_nulls, Mx.len_matl]) fun i h1 h2 => ?_
  have hi : i < (Mx.fr b c).length := by rwa [len_nulls] at h1
  simp [nulls, Mx.matl, Mx.tab, Mx.nm, Mx.pv, hi]

/-- The rows that are taken to noughts. -/
def GotNull (r c : Nat) (f : Nat → Nat → Fp.F) (w : World) (e : Ending) (w' : World) : Prop :=
  ∃ b g A d, Stair r c c f b g ∧ e = .returned (.tuple #[.slice A (Mx.fr b c).length d, .nilIface]) ∧ LiesM w' A (Mx.matl (Mx.fr b c).length c (Mx.nm b g c)) ∧ Kp w w'

end Go.Proofs.Ytologiinkilooaa

/- Good matrices, and what gauss says of whatever comes in: for seats without package mat's products. -/
namespace Go.Proofs.Ytologiinkilooaa
open Go.ChangeShapes Go.WideShapes Go.ChangeAt Go.RowKit
set_option linter.unusedVariables false

theorem Steps_or (A : Option Addr) (m : List (List Int)) (n d : Nat) (hn : m.length = n) :
    (∃ r c f, Sh r c f m) ∨ ∀ (w : World), LiesM w A m → Calls Try.prog 49 #[.slice A n d] w fun e w' => ∃ z : Nat, e = .returned (.tuple #[.slice none 0 0, .slice none 0 0, .iface 50 (.int .i64 (z : Int))]) ∧ Kp w w' := by
  rcases sh_or m with ⟨_, h⟩ | h
  · exact .inl h
  · exact .inr fun w ha => ((Steps_bad A m n d w ha hn h).mono fun e w' h' => ⟨Mx.mcode 5 0 9972 m, by rw [h'.1, errOf_ne _ h], h'.2⟩)
theorem Steps_sh {A : Option Addr} {m : List (List Int)} {r c : Nat} {f : Nat → Nat → Fp.F} (s : Sh r c f m) (d : Nat) (w : World) (ha : LiesM w A m) :
    Calls Try.prog 49 #[.slice A r d] w fun e w' => GotSteps r c f w e w' := by
  rw [s.eq] at ha
  exact Steps_ok A f r c d w ha s.r0 s.r5 s.c0 s.c5
end Go.Proofs.Ytologiinkilooaa

/- The closed fact of package solve, outright; what its functions say of whatever comes in. -/
namespace Go.Proofs.Ytologiinkilooaa
open Go.ChangeShapes Go.WideShapes Go.ChangeAt Go.RowKit
set_option linter.unusedVariables false

/-- One row of two, and its head, just laid down. -/
theorem lit12_lies (w : World) (g : Nat) (a b : Int) (h : g = w.heap.size) : LiesM ((w.alloc (.cells #[.int .i64 a, .int .i64 b] 3)).alloc (.cells #[.slice (some ⟨g, 0, none⟩) 2 2] 24)) (some ⟨g + 1, 0, none⟩) [[a, b]] := by
  subst h
  have h0 : Lies (w.alloc (.cells #[.int .i64 a, .int .i64 b] 3)) (some ⟨w.heap.size, 0, none⟩) [a, b] := lies_new' w _ [a, b] _ rfl
  have k1 := (Kp.rfl' (w.alloc (.cells #[.int .i64 a, .int .i64 b] 3))).new (.cells #[.slice (some ⟨w.heap.size, 0, none⟩) 2 2] 24)
  intro k hk
  have e : k = 0 := by simp at hk; omega
  subst e
  exact ⟨_, some ⟨w.heap.size, 0, none⟩, 2, rfl, by simp, by rw [add_at, cell_just _ _ _ _ _ (by simp)]; rfl, by simp, h0.keep k1⟩
theorem modest12 (a b : Int) : Modest [[a, b]] := ⟨by simp, fun k hk => by
  have e : k = 0 := by simpa using hk
  subst e
  simp⟩

def fo : Nat → Nat → Fp.F := f22 1 1 0 2
def t34 : Nat → Fp.F := fun j => if j = 0 then 3 else 4
theorem fo_mat : Mx.tab 2 2 (n22 1 1 0 2) = Mx.matl 2 2 fo := by decide +kernel
theorem t34_row : rowF 2 t34 = [3, 4] := by decide +kernel
theorem fo_ans {b : List Nat} {x : Nat → Fp.F} (h : Mx.Ans 2 2 fo t34 b x) : rowF 2 x = [1, 2] := by
  have h1 : (0 + 0 * x 0) + 2 * x 1 = 4 := h.sol 1 (by decide)
  have h0 : (0 + 1 * x 0) + 1 * x 1 = 3 := h.sol 0 (by decide)
  have e1 : x 1 = 2 := by
    have h2 : (x 1 - 2) * 2 = 0 := by grind
    rcases Fp.mul_zero_or h2 with e | e
    · grind
    · exact absurd e (by decide)
  have e0 : x 0 = 1 := by rw [e1] at h0; grind
  show [(((x 0).val : Nat) : Int), (((x 1).val : Nat) : Int)] = [1, 2]
  rw [e0, e1]; rfl
theorem fo_some (h : Mx.NoAns 2 2 fo t34) : False := h ⟨fun j => if j = 0 then 1 else 2, fun i hi => by
  have : i = 0 ∨ i = 1 := by omega
  rcases this with rfl | rfl <;> decide⟩
def fn : Nat → Nat → Fp.F := fun _ j => if j = 0 then 1 else 2
theorem fn_mat : [[1, 2]] = Mx.matl 1 2 fn := by decide +kernel
theorem fn_inv : Fp.inv (fn 0 0) = 1 := (inv_unique (by decide) (by decide)).symm
theorem fn_stair : Stair 1 2 2 fn [0] (Mx.nxt 0 0 0 fn) := by
  have h1 := (Stair.start 1 2 fn).next (a := 0) (by decide) (by decide) (by decide)
  exact h1.skip fun i h1 h2 => absurd h2 (by simp at h1; omega)
theorem fn_null {g : Nat → Nat → Fp.F} (h : Mx.Eqm 1 2 g (Mx.nxt 0 0 0 fn)) : Mx.matl 1 2 (Mx.nm [0] g 2) = [[9971, 1]] := by
  have e : g 0 1 = 2 := by
    rw [h 0 1 (by decide) (by decide)]
    unfold Mx.nxt
    rw [if_pos rfl, fn_inv]; decide
  have h2 : Mx.matl 1 2 (Mx.nm [0] g 2) = Mx.matl 1 2 (fun _ j => if j = 0 then -2 else 1) := Mx.matl_ext fun i j hi hj => by
    obtain rfl : i = 0 := by omega
    have : j = 0 ∨ j = 1 := by omega
    rcases this with rfl | rfl
    · show -(g 0 1) = if 0 = 0 then -2 else 1
      rw [e, if_pos rfl]
    · show (1 : Fp.F) = if 1 = 0 then -2 else 1
      rw [if_neg (by decide)]
  rw [h2]; decide +kernel


theorem One_sh {A T : Option Addr} {m : List (List Int)} {r c : Nat} {f : Nat → Nat → Fp.F} {t : Nat → Fp.F} (s : Sh r c f m) (d e : Nat) (w : World) (ha : LiesM w A m) (ht : Lies w T (rowF r t)) :
    Calls Try.prog 25 #[.slice A r d, .slice T r e] w fun e w' => GotOne r c f t w e w' := by
  rw [s.eq] at ha
  exact SOne_ok A f r c d T t e w ha ht s.r0 s.r5 s.c0 s.c5
/-- A list of numbers of the field is a row of them. -/
theorem row_of {l : List Int} (h : ∀ k, k < l.length → 0 ≤ l.getD k 0 ∧ l.getD k 0 ≤ 9972) : ∃ t : Nat → Fp.F, l = rowF l.length t := by
  refine ⟨fun j => Fp.ofInt (l.getD j 0), ?_⟩
  refine (Mx.is_row l).trans (Mx.row_ext fun k hk => ?_)
  show l.getD k 0 = ((Fp.ofInt (l.getD k 0)).val : Int)
  rw [Fp.ofInt_val]
  have := h k hk
  omega
theorem rowF_in (q : Nat) (t : Nat → Fp.F) : AllIn (rowF q t) 0 9972 := fun k hk => by
  rw [Mx.len_row] at hk
  rw [Mx.row_at _ _ _ hk]
  exact gval (t k)
end Go.Proofs.Ytologiinkilooaa

/- Contracts of the document's answer for package field (package rankmereref1: Mod, Pow, Div), within the document's bounds. -/
namespace Go.Proofs.Ytologiinkilooaa
open Go.ChangeShapes Go.WideShapes Go.ChangeAt Go.RowKit
set_option linter.unusedVariables false

theorem refMod_any (n : Int) (w : World) (h1 : -1000000000000000 ≤ n) (h2 : n ≤ 1000000000000000) :
    Calls Try.prog 11 #[.int .i64 n] w fun e w' => e = .returned (.int .i64 (n % 9973)) ∧ w = w' := by
  obtain ⟨f1, f2⟩ := Num.tmod_fix n 9973 (by omega)
  obtain ⟨b2, b1⟩ := Num.tmod_bound n 9973 (by omega)
  have F1 := Lib.hid f1
  have F2 := Lib.hid f2
  clear f1 f2
  by_cases h : n.tmod 9973 < 0
  · go_enter Try.func11, Try.ntmps11
    go_wp2
    go_ret
    exact ⟨ret_int (F1.out h), rfl⟩
  · have h' : 0 ≤ n.tmod 9973 := by omega
    clear h
    go_enter Try.func11, Try.ntmps11
    go_wp2
    go_ret
    exact ⟨ret_int (F2.out h'), rfl⟩

theorem refMod_el (n : Int) (w : World) (h1 : -1000000000000000 ≤ n) (h2 : n ≤ 1000000000000000) :
    Calls Try.prog 11 #[.int .i64 n] w fun e w' => e = .returned (el (Fp.ofInt n)) ∧ w = w' := by
  have h := refMod_any n w h1 h2
  unfold el
  rw [Fp.ofInt_val]
  exact h

set_option maxHeartbeats 800000 in
theorem refPow_any (k : Nat) : ∀ (a : Fp.F) (n : Nat) (w : World), n ≤ k → n ≤ 1000000 →
    Calls Try.prog 24 #[el a, .int .i64 (n : Int)] w fun e w' => e = .returned (el (Fp.pw a n)) ∧ w = w' := by
  have zero : ∀ (a : Fp.F) (w : World),
      Calls Try.prog 24 #[el a, .int .i64 ((0 : Nat) : Int)] w fun e w' => e = .returned (el (Fp.pw a 0)) ∧ w = w' := by
    intro a w
    unfold el
    generalize (a.val : Int) = x
    go_enter Try.func24, Try.ntmps24
    go_wp2_with fail
    go_ret
    exact ⟨rfl, rfl⟩
  induction k with
  | zero =>
    intro a n w hk hn
    obtain rfl : n = 0 := by omega
    exact zero a w
  | succ k ih =>
    intro a n w hk hn
    by_cases h : n = 0
    · subst h; exact zero a w
    · clear zero
      have IH := Lib.hid (ih (a * a) (n / 2))
      have EA := Lib.hid (Fp.mul_val a a)
      have ha := Fp.val_bound a
      have hp := prod_bound a a
      have hq : ((n : Int) == 0) = false := by rw [beq_eq_false_iff_ne]; omega
      have hn2 : ((n / 2 : Nat) : Int) = (n : Int) / 2 := by omega
      have hv := prod_bound (Fp.pw (a * a) (n / 2)) a
      have EP := Lib.hid (Fp.mul_val (Fp.pw (a * a) (n / 2)) a)
      have ST := Lib.hid (Fp.pw_half a n)
      have hz := Fp.val_bound (Fp.pw (a * a) (n / 2))
      unfold el at *
      rw [EA.out, hn2] at IH
      generalize hzz : ((Fp.pw (a * a) (n / 2)).val : Int) = z at *
      have E1 := Lib.hid (show n % 2 = 1 → z * (a.val : Int) % 9973 = ((Fp.pw a n).val : Int) from fun h => by
        have := ST.out; rw [if_pos h] at this; rw [this]; exact EP.out.symm)
      have E0 := Lib.hid (show ¬ n % 2 = 1 → z = ((Fp.pw a n).val : Int) from fun h => by
        have := ST.out; rw [if_neg h, Fin.mul_one] at this; rw [this, hzz])
      clear ST EP EA
      generalize (a.val : Int) = x at *
      by_cases h2 : n % 2 = 1
      · have E := Lib.hid (E1.out h2)
        have hr : ((n : Int) % 2 == 1) = true := by rw [beq_iff_eq]; omega
        clear E1 E0 ih h
        go_enter Try.func24, Try.ntmps24
        go_wp2_with fail
        refine (IH.out _ (by omega) (by omega)).mono ?_; rintro e w' ⟨rfl, rfl⟩
        go_wp2_with fail
        go_ret
        exact ⟨ret_int E.out, rfl⟩
      · have E := Lib.hid (E0.out h2)
        have hr : ((n : Int) % 2 == 1) = false := by rw [beq_eq_false_iff_ne]; omega
        clear E1 E0 ih h
        go_enter Try.func24, Try.ntmps24
        go_wp2_with fail
        refine (IH.out _ (by omega) (by omega)).mono ?_; rintro e w' ⟨rfl, rfl⟩
        go_wp2_with fail
        go_ret
        exact ⟨ret_int E.out, rfl⟩


end Go.Proofs.Ytologiinkilooaa

/- The law TopUndo. -/
namespace Go.Proofs.Ytologiinkilooaa
open Go.ChangeShapes Go.WideShapes Go.ChangeAt Go.RowKit
set_option linter.unusedVariables false

set_option maxRecDepth 100000 in
set_option maxHeartbeats 25600000 in
theorem undo_good (A : Option Addr) (a : List (List Int)) (f : Nat → Nat → Fp.F) (n c : Nat) (w : World) (ha : LiesM w A a) (sa : Sh n n f a) (hd : Mx.dt n f ≠ 0) :
    Calls Try.prog 6 #[.slice A n c] w fun e w' => e = .returned (.bool true) ∧ Kp w w' := by
  have HA := Lib.hid ha
  have n0 := sa.r0
  have n5 := sa.r5
  obtain ⟨p, hp⟩ : ∃ p, n = p + 1 := ⟨n - 1, by omega⟩
  have un : Mx.Unm n f (Mx.invm p f) := by rw [hp] at hd ⊢; exact Mx.unm_invm p f hd
  have O1 := Lib.hid (fun w h => IOf_sh (A := A) sa hp hd c w h)
  have I1 := Lib.hid (fun w => inv11 w)
  have C1 := Lib.hid (fun w h => COf_sh (A := A) sa c w h)
  have PW := Lib.hid (fun k w (h : LiesM w A a) (hk : k ≤ 1000) => Pow_grid A f n c k w (by rw [← sa.eq]; exact h) n0 n5 hk)
  have SO := Lib.hid (fun T t e w ha ht => One_sh (A := A) (T := T) (t := t) sa c e w ha ht)
  obtain ⟨t, ht⟩ : ∃ t, t = Mx.invm p f := ⟨_, rfl⟩
  rw [← ht] at un O1
  have UN := Lib.hid un
  have US := Lib.hid (Mx.us_all hp (by omega) un)
  have CN := Lib.hid (Mx.ch_ne hd)
  have CO := Lib.hid (fun B d w h => rCopy_any B t n n d w h n0 (by omega) (by omega))
  have UU := Lib.hid (fun w => rUnit_any n w (by omega))
  have FL := Lib.hid (fun B d w h => rFlip_any B t n n d w h n0 (by omega) (by omega))
  have ST : Sh n n t (Mx.matl n n t) := ⟨rfl, n0, n5, n0, n5⟩
  have RO := Lib.hid (fun B C c d w hb hc => rows_eq B C (Mx.matl n n t) (Mx.matl n n t) n n c d w hb hc (Mx.len_matl _ _ _) (Mx.len_matl _ _ _) ST.modest ST.modest rfl)
  have hnw : IntKind.i64.wrap ((n : Int) + 1) = (n : Int) + 1 := IntWalk.i64_in _ (by omega)
  clear ha sa hd un ht ST hp
  go_enter Try.func6, Try.ntmps6
  go_wp2_with fail
  refine (O1.out w HA.out).mono ?_; rintro e w1 ⟨g2, he, l2, k2⟩
  generalize (some ⟨g2, 0, none⟩ : Option Addr) = U at he l2
  subst he
  have K := Lib.hid k2; have LU := Lib.hid l2; clear k2 l2
  go_wp2_with fail
  refine (I1.out w1).mono ?_; rintro e w2 ⟨g3, rfl, l3, k3⟩
  replace K := Lib.hid (K.out.trans k3); replace LU := Lib.hid (LU.out.keep k3)
  obtain ⟨ad, B1, e1, ea, _, x1, _, lb⟩ := l3.row (Nat.lt_succ_self 0)
  obtain rfl := Option.some.inj ea
  rw [add_zero'] at x1
  have LB := Lib.hid lb
  clear k3 l3 lb
  go_wp2_with fail
  refine (same_eq B1 _ _ _ 1 1 e1 1 _ (LB.out.keep ((Kp.rfl' w2).new _)) (lies_new w2 3 [4987]) rfl rfl (by decide) (by rfl)).mono ?_; rintro e w3 ⟨rfl, k3⟩
  have k3 := ((Kp.rfl' w2).new _).trans k3
  replace K := Lib.hid (K.out.trans k3); replace LU := Lib.hid (LU.out.keep k3)
  clear k3 x1 LB
  go_wp2_with fail
  refine (C1.out w3 (HA.out.keep K.out)).mono ?_; rintro e w4 ⟨Z, cz, rfl, hz, _, k4⟩
  obtain ⟨zd, rfl, hzb, x1⟩ := chl_el hz (Nat.zero_le n)
  rw [add_zero'] at x1
  have x2 := Fp.ne_val CN.out
  have x3 : (((Mx.ch n f 0).val : Int) == 0) = false := by rw [beq_eq_false_iff_ne]; have := cval (Mx.ch n f 0); omega
  replace K := Lib.hid (K.out.trans k4); replace LU := Lib.hid (LU.out.keep k4); have LZ := Lib.hid hz
  have ALL := Lib.hid (show Calls Try.prog 9 #[.slice (some zd) (n + 1) cz, .int .i64 0, .int .i64 9972] w4 fun e w' => e = .returned (.bool true) ∧ w4 = w' by
    have h := all_any (some zd) (Pol.vals (Mx.chl n f)) cz 0 9972 w4 hz (by rw [Pol.len_vals, Mx.len_chl]; omega)
    rw [Pol.len_vals, Mx.len_chl] at h
    exact h.mono fun e w' hh => ⟨tells_yes hh.1 (vals_allIn _), hh.2⟩)
  obtain ⟨c0, hc0⟩ : ∃ c0, c0 = ((Mx.ch n f 0).val : Int) := ⟨_, rfl⟩
  rw [← hc0] at x1 x3
  have HC0 := Lib.hid hc0
  have hpos : 0 < n + 1 := Nat.succ_pos n
  clear k4 hz x2 hzb hc0
  go_wp2_with fail
  refine (ALL.out).mono ?_; rintro e w' ⟨rfl, rfl⟩
  clear ALL
  go_wp2_with fail
  refine (CO.out U n w4 LU.out).mono ?_; rintro e w5 ⟨v5, G, C, rfl, ho, k5⟩
  obtain ⟨g, gc, rfl, hgB⟩ := ho.some (by rw [Mx.len_matl]; exact n0)
  rw [Mx.len_matl] at ho ⊢
  have HO := Lib.hid ho
  have HK := Lib.hid k5
  clear ho k5 x1
  go_wp2_with fail
  go_loopw [2, 10, 11] (fun _ u _ wr => ∃ i : Nat, i ≤ n ∧ u = .int .i64 (i : Int) ∧ OwnM wr w4.heap.size (.slice (some ⟨g, 0, none⟩) n gc) G C (Mx.tab n n fun x y => ((Mx.plc t (Mx.us n f 0) i 0 x y).val : Int)) ∧ Kp w4 wr) (fun _ u _ _ => n - (intOf u).toNat)
  case atStart => exact ⟨0, Nat.zero_le _, rfl, HO.out.ext (fun x y _ _ => by rw [Mx.plc_zero]), HK.out⟩
  case round =>
    clear HO HK
    obtain ⟨i, hi, rfl, ho, hkp⟩ := hrel
    obtain ⟨wo, hwo⟩ : ∃ x, x = wr := ⟨_, rfl⟩
    subst hwo
    have HO := Lib.hid ho
    have HK := Lib.hid hkp
    by_cases hit : i < n
    · have y1 := ho.weak.head hit
      clear ho hkp
      go_wp2_with fail
      go_loopw [11] (fun u wr => ∃ j : Nat, j ≤ n ∧ u = .int .i64 (j : Int) ∧ OwnM wr w4.heap.size (.slice (some ⟨g, 0, none⟩) n gc) G C (Mx.tab n n fun x y => ((Mx.plc t (Mx.us n f 0) i j x y).val : Int)) ∧ Kp w4 wr) (fun u _ => n - (intOf u).toNat)
      case atStart => exact ⟨0, Nat.zero_le _, rfl, HO.out, HK.out⟩
      case round =>
        clear HO HK y1
        obtain ⟨j, hj, rfl, ho, hkp⟩ := hrel
        have HO := Lib.hid ho
        have HK := Lib.hid hkp
        by_cases hjt : j < n
        · have y1 := ho.weak.head hit
          have y2 := ho.weak.el hit hjt
          have y3 := ho.weak.free hit j
          have Y4 := Lib.hid (ho.weak.lt hit).1
          clear ho hkp
          go_wp2_with fail
          go_roundw
          case rel => exact ⟨j + 1, by omega, by go_num, (HO.out.put hit j 0).ext (fun x y hx hy => Mx.plc_val t (Mx.us n f 0) i j x y 0 rfl), HK.out.put (p := ⟨G i, j, none⟩) Y4.out _⟩
          case measure => simp [intOf]; omega
        · obtain rfl : j = n := by omega
          clear ho hkp
          go_wp2_with fail
          go_roundw
          case rel => exact ⟨i + 1, by omega, by go_num, HO.out.ext (fun x y _ hy => by rw [Mx.plc_row t (Mx.us j f 0) i hy]), HK.out⟩
          case measure => simp [intOf]; omega
    · obtain rfl : i = n := by omega
      have H0 := Lib.hid (ho.ext (f' := fun x y => ((Mx.us i f 0 x y).val : Int)) fun x y hx _ => by rw [Mx.plc_all t (Mx.us i f 0) y hx])
      obtain ⟨_, e', _, x1⟩ := chl_el (LZ.out.keep hkp) (Nat.zero_le i)
      obtain rfl := Option.some.inj e'
      rw [add_zero', ← HC0.out] at x1
      have PO := Lib.hid (refPow_any 9971 (Mx.ch i f 0) 9971 wo (Nat.le_refl _) (by decide))
      unfold el at PO
      rw [← HC0.out, show Fp.pw (Mx.ch i f 0) 9971 = Fp.inv (Mx.ch i f 0) from rfl] at PO
      have bi := cval (Fp.inv (Mx.ch i f 0))
      have MO := Lib.hid (fun w => rMod_any (-((Fp.inv (Mx.ch i f 0)).val : Int)) w (by omega) (by omega))
      rw [minus_mod, show -(Fp.inv (Mx.ch i f 0)) = Mx.kk i f from rfl] at MO
      have hwi : IntKind.i64.wrap (-((Fp.inv (Mx.ch i f 0)).val : Int)) = -((Fp.inv (Mx.ch i f 0)).val : Int) := IntWalk.i64_in _ (by omega)
      obtain ⟨k0, hk0⟩ : ∃ k0, k0 = ((Mx.kk i f).val : Int) := ⟨_, rfl⟩
      rw [← hk0] at MO
      have HK0 := Lib.hid hk0
      generalize ((Fp.inv (Mx.ch i f 0)).val : Int) = iv at *
      clear HO ho hkp bi hk0
      go_wp2_with fail
      refine (PO.out).mono ?_; rintro e w' ⟨rfl, rfl⟩
      go_wp2_with fail
      refine (MO.out _).mono ?_; rintro e w' ⟨rfl, rfl⟩
      clear x1 PO MO
      go_wp2_with fail
      go_loopw [2, 13, 14, 15, 16, 17] (fun _ u _ _ _ _ wr => ∃ q : Nat, q ≤ i ∧ u = .int .i64 ((q : Int) + 1) ∧ OwnM wr w4.heap.size (.slice (some ⟨g, 0, none⟩) i gc) G C (Mx.tab i i fun x y => ((Mx.us i f q x y).val : Int)) ∧ Kp w4 wr) (fun _ u _ _ _ _ _ => i + 1 - (intOf u).toNat)
      case atStart => exact ⟨0, Nat.zero_le _, rfl, H0.out, HK.out⟩
      case round =>
        clear H0 HK
        obtain ⟨q, hq, rfl, ho, hkp⟩ := hrel
        obtain ⟨wp, hwp⟩ : ∃ x, x = wr := ⟨_, rfl⟩
        subst hwp
        have HO := Lib.hid ho
        have HK := Lib.hid hkp
        by_cases hlt : q < i
        · have hle : (q : Int) + 1 ≤ (i : Int) := by omega
          have hqw : IntKind.i64.wrap ((q : Int) + 1 - 1) = (q : Int) := by rw [show (q : Int) + 1 - 1 = (q : Int) by omega]; exact IntWalk.i64_in _ (by omega)
          have PQ := Lib.hid (PW.out q wp (HA.out.keep (K.out.trans hkp)) (by omega))
          have GB := Lib.hid (fun x (hx : x < i) => ho.weak.lt hx)
          obtain ⟨m, hm⟩ : ∃ m, m = q + 1 := ⟨_, rfl⟩
          have HM := Lib.hid hm
          have hmi : (q : Int) + 1 = (m : Int) := by omega
          have hmw : IntKind.i64.wrap ((m : Int) - 1) = (q : Int) := by rw [← hmi]; exact hqw
          have hmle : (m : Int) ≤ (i : Int) := by omega
          rw [hmi]
          clear ho hkp hmi hm hqw hle
          go_wp2_with fail
          refine (PQ.out).mono ?_; rintro e w6 ⟨gp, Gp, rfl, hgr, hgp, k3⟩
          have HP3 := Lib.hid hgr
          have HO3 := Lib.hid (HO.out.kp k3)
          have HK3 := Lib.hid (HK.out.trans k3)
          have NE1 := Lib.hid (show ∀ x, x < i → gp ≠ G x from fun x hx => by have := (GB.out x hx).2; omega)
          have NE2 := Lib.hid (show ∀ x y, x < i → y < i → Gp y ≠ G x from fun x y hx hy => by have := (GB.out x hx).2; have := hgr.after y hy; omega)
          clear hgr hgp k3 HO HK PQ
          go_wp2_with fail
          go_loopw [2, 16, 17] (fun _ u _ wr => ∃ x : Nat, x ≤ i ∧ u = .int .i64 (x : Int) ∧ OwnM wr w4.heap.size (.slice (some ⟨g, 0, none⟩) i gc) G C (Mx.tab i i fun a b => ((Mx.plc (Mx.us i f q) (Mx.us i f m) x 0 a b).val : Int)) ∧ Grid wr gp Gp i i (fun x y => ((Mx.pwm i f q x y).val : Int)) ∧ Kp w4 wr) (fun _ u _ _ => i - (intOf u).toNat)
          case atStart => exact ⟨0, Nat.zero_le _, rfl, HO3.out.ext (fun x y _ _ => by rw [Mx.plc_zero]), HP3.out, HK3.out⟩
          case round =>
            clear HO3 HP3 HK3
            obtain ⟨x, hx, rfl, ho, hp, hkp⟩ := hrel
            have HO := Lib.hid ho
            have HP := Lib.hid hp
            have HK := Lib.hid hkp
            by_cases hit' : x < i
            · have y1 := hp.cell hit'
              clear ho hp hkp
              go_wp2_with fail
              go_loopw [17] (fun u wr => ∃ j : Nat, j ≤ i ∧ u = .int .i64 (j : Int) ∧ OwnM wr w4.heap.size (.slice (some ⟨g, 0, none⟩) i gc) G C (Mx.tab i i fun a b => ((Mx.plc (Mx.us i f q) (Mx.us i f m) x j a b).val : Int)) ∧ Grid wr gp Gp i i (fun x y => ((Mx.pwm i f q x y).val : Int)) ∧ Kp w4 wr) (fun u _ => i - (intOf u).toNat)
              case atStart => exact ⟨0, Nat.zero_le _, rfl, HO.out, HP.out, HK.out⟩
              case round =>
                clear HO HP HK y1
                obtain ⟨j, hj, rfl, ho, hp, hkp⟩ := hrel
                have HO := Lib.hid ho
                have HP := Lib.hid hp
                have HK := Lib.hid hkp
                by_cases hjt : j < i
                · have y1 := hp.cell hit'
                  have y2 := hp.el hit' hjt
                  have x1 := ho.weak.head hit'
                  have x2 := ho.weak.el hit' hjt
                  have x3' := ho.weak.free hit' j
                  rw [Mx.plc_here] at x2
                  obtain ⟨_, e', _, z1⟩ := chl_el (LZ.out.keep hkp) (show m ≤ i by have := HM.out; omega)
                  obtain rfl := Option.some.inj e'
                  have hml : m < i + 1 := by have := HM.out; omega
                  have hml2 : (m : Int) < (i : Int) + 1 := by omega
                  obtain ⟨z, hz⟩ : ∃ z, z = ((Mx.us i f q x j + Mx.ch i f m * Mx.kk i f * Mx.pwm i f q x j).val : Int) := ⟨_, rfl⟩
                  have hm2 := Mx.val_more (Mx.us i f q x j) (Mx.ch i f m * Mx.kk i f) (Mx.pwm i f q x j)
                  rw [← hz] at hm2
                  have HZ := Lib.hid (show z = ((Mx.us i f m x j).val : Int) by rw [hz, HM.out, Mx.us_succ])
                  have b1 := cval (Mx.us i f q x j)
                  have b2 := more_bound (Mx.us i f q x j) (Mx.ch i f m * Mx.kk i f) (Mx.pwm i f q x j)
                  have b3 := more_bound (Mx.us i f q x j) (Mx.ch i f m) (Mx.kk i f)
                  have HGi := Lib.hid (show w4.heap.size ≤ G x from (GB.out x hit').1)
                  have M1 := Lib.hid (fun w => rMod_any (((Mx.ch i f m).val : Int) * ((Mx.kk i f).val : Int)) w (by omega) (by omega))
                  rw [← Fp.mul_val] at M1
                  have M2 := Lib.hid (fun w => rMod_any (((Mx.us i f q x j).val : Int) + ((Mx.ch i f m * Mx.kk i f).val : Int) * ((Mx.pwm i f q x j).val : Int)) w (by omega) (by omega))
                  rw [hm2] at M2
                  have hwk : IntKind.i64.wrap (((Mx.ch i f m).val : Int) * ((Mx.kk i f).val : Int)) = ((Mx.ch i f m).val : Int) * ((Mx.kk i f).val : Int) := IntWalk.i64_in _ (by omega)
                  have hwm : IntKind.i64.wrap (((Mx.ch i f m * Mx.kk i f).val : Int) * ((Mx.pwm i f q x j).val : Int)) = ((Mx.ch i f m * Mx.kk i f).val : Int) * ((Mx.pwm i f q x j).val : Int) := IntWalk.i64_in _ (by omega)
                  have hwa : IntKind.i64.wrap (((Mx.us i f q x j).val : Int) + ((Mx.ch i f m * Mx.kk i f).val : Int) * ((Mx.pwm i f q x j).val : Int)) = ((Mx.us i f q x j).val : Int) + ((Mx.ch i f m * Mx.kk i f).val : Int) * ((Mx.pwm i f q x j).val : Int) := IntWalk.i64_in _ (by omega)
                  rw [← HK0.out] at M1 hwk
                  generalize ((Mx.us i f q x j).val : Int) = u0 at *
                  generalize ((Mx.ch i f m * Mx.kk i f).val : Int) = ck at *
                  generalize ((Mx.ch i f m).val : Int) = cv at *
                  generalize ((Mx.pwm i f q x j).val : Int) = pv at *
                  clear ho hp hkp hz hm2 b1 b2 b3
                  go_wp2_with fail
                  refine wp_region_still_tail 30 (by kernel_rfl) (by kernel_rfl) ?_
                  simp only [List.take_succ_cons, List.take_zero, List.drop_succ_cons, List.drop_zero]
                  repeat still_step
                  still_call ((M1.out _).mono fun _ _ h => ⟨h.1, h.2.symm⟩)
                  repeat still_step
                  still_call ((M2.out _).mono fun _ _ h => ⟨h.1, h.2.symm⟩)
                  repeat still_step
                  refine wpStill_nil ?_
                  change wpList _ _ _ _ _ wr.drew
                  go_wp2_with fail
                  go_roundw
                  case rel => exact ⟨j + 1, by omega, by go_num, ((HO.out.drewN 1).put hit' j z).ext (fun a b _ _ => Mx.plc_val _ _ x j a b z HZ.out), (HP.out.keep ((Kp.rfl' _).drewN 1)).far (a := ⟨G x, j, none⟩) (NE1.out x hit') (fun y hy => NE2.out x y hit' hy) _, (HK.out.drewN 1).put (p := ⟨G x, j, none⟩) HGi.out _⟩
                  case measure => simp [intOf]; omega
                · obtain rfl : j = i := by omega
                  clear ho hp hkp
                  go_wp2_with fail
                  go_roundw
                  case rel => exact ⟨x + 1, by omega, by go_num, HO.out.ext (fun a b _ hb => by rw [Mx.plc_row _ _ x hb]), HP.out, HK.out⟩
                  case measure => simp [intOf]; omega
            · obtain rfl : x = i := by omega
              have hmw2 : IntKind.i64.wrap ((m : Int) + 1) = (m : Int) + 1 := IntWalk.i64_in _ (by have := HM.out; omega)
              clear ho hp hkp
              go_wp2_with fail
              go_roundw
              case rel => exact ⟨m, by have := HM.out; omega, by go_num, HO.out.ext (fun a b ha _ => by rw [Mx.plc_all _ _ b ha]), HK.out⟩
              case measure => have := HM.out; simp [intOf]; omega
        · obtain rfl : q = i := by omega
          have hle : ¬ (q : Int) + 1 ≤ (q : Int) := by omega
          have LS := Lib.hid (show LiesM wp (some ⟨g, 0, none⟩) (Mx.matl q q t) from (ho.ext (f' := fun x y => ((t x y).val : Int)) fun x y hx hy => by rw [US.out x y hx hy]).liesM)
          have KE := Lib.hid (K.out.trans hkp)
          have LUE := Lib.hid (LU.out.keep hkp)
          clear ho hkp HO HK LU K
          go_wp2_with fail
          go_loopw [2, 18, 19, 20] (fun _ u _ _ wr => ∃ j : Nat, j ≤ q ∧ u = .int .i64 (j : Int) ∧ Kp wp wr) (fun _ u _ _ _ => q - (intOf u).toNat)
          case atStart => exact ⟨0, Nat.zero_le _, rfl, Kp.rfl' _⟩
          case round =>
            obtain ⟨j, hj, rfl, hkp⟩ := hrel
            obtain ⟨wq, hwq⟩ : ∃ x, x = wr := ⟨_, rfl⟩
            subst hwq
            have HKP := Lib.hid hkp
            by_cases hjt : j < q
            · clear hkp
              go_wp2_with fail
              refine (UU.out _).mono ?_; rintro e w7 ⟨A7, d7, rfl, l7, k7⟩
              obtain ⟨ad7, R7, c7, rfl, _, r1, _, lr⟩ := l7.row hjt
              have LR := Lib.hid lr
              have HKP7 := Lib.hid (HKP.out.trans k7)
              clear l7 lr k7 HKP
              go_wp2_with fail
              refine (SO.out R7 (Mx.one j) c7 w7 (HA.out.keep (KE.out.trans HKP7.out)) LR.out).mono ?_; rintro e w8 ⟨b, gg, _, hans⟩
              rcases hans with ⟨xx, A8, d8, hans, rfl, l8, k8⟩ | ⟨hno, _⟩
              · have XE := Lib.hid (show rowF q xx = Mx.row q (fun i => ((Mx.flip t j i).val : Int)) from Mx.row_ext fun i hi => by rw [Mx.ans_undo UN.out hjt hans i hi])
                have HKP8 := Lib.hid (HKP7.out.trans k8)
                have L8 := Lib.hid l8
                clear hans l8 k8 HKP7 r1
                go_wp2_with fail
                refine (FL.out _ gc w8 (LS.out.keep HKP8.out)).mono ?_; rintro e w9 ⟨A9, d9, rfl, l9, k9⟩
                obtain ⟨ad9, R9, c9, rfl, _, r1, _, lr⟩ := l9.row hjt
                have IC := Lib.hid (same_eq A8 R9 _ _ q q d8 c9 w9 (L8.out.keep k9) lr (Mx.len_row _ _).symm (Mx.len_row _ _).symm (by omega) XE.out)
                have HKP9 := Lib.hid (HKP8.out.trans k9)
                clear l9 lr k9 HKP8 L8
                go_wp2_with fail
                refine (IC.out).mono ?_; rintro e w10 ⟨rfl, k10⟩
                have HKP10 := Lib.hid (HKP9.out.trans k10)
                clear k10
                go_wp2_with fail
                go_roundw
                case rel => exact ⟨j + 1, by omega, by go_num, HKP10.out⟩
                case measure => simp [intOf]; omega
              · exact (Mx.ans_some UN.out hjt hno).elim
            · obtain rfl : j = q := by omega
              have RR := Lib.hid (RO.out U (some ⟨g, 0, none⟩) j gc wq (LUE.out.keep hkp) (LS.out.keep hkp))
              clear hkp
              go_wp2_with fail
              refine (RR.out).mono ?_; rintro e w11 ⟨rfl, k11⟩
              have K11 := Lib.hid ((KE.out.trans HKP.out).trans k11)
              clear k11
              go_wp2_with fail
              go_ret
              exact ⟨rfl, K11.out⟩

set_option maxRecDepth 100000 in
set_option maxHeartbeats 3200000 in
theorem walk_TopUndo (A : Option Addr) (a : List (List Int)) (c : Nat) (w : World) (ha : LiesM w A a) :
    Calls Try.prog 6 #[.slice A a.length c] w fun e w' => e = .returned (.bool true) ∧ Kp w w' := by
  obtain ⟨n, hn⟩ : ∃ n, n = a.length := ⟨_, rfl⟩
  rw [← hn]
  rcases IOf_or A a n c hn.symm with ⟨f, sa, hd⟩ | ⟨z, bad⟩
  · exact undo_good A a f n c w ha sa hd
  · have HA := Lib.hid ha
    have BAD := Lib.hid bad
    have I1 := Lib.hid (fun w => inv11 w)
    clear bad hn ha
    go_enter Try.func6, Try.ntmps6
    go_wp2_with fail
    refine (BAD.out w HA.out).mono ?_; rintro e w1 ⟨rfl, k1⟩
    have K := Lib.hid k1; clear k1
    go_wp2_with fail
    refine (I1.out w1).mono ?_; rintro e w2 ⟨g3, rfl, l3, k3⟩
    replace K := Lib.hid (K.out.trans k3)
    obtain ⟨ad, B1, e1, ea, _, x1, _, lb⟩ := l3.row (Nat.lt_succ_self 0)
    obtain rfl := Option.some.inj ea
    rw [add_zero'] at x1
    have LB := Lib.hid lb
    clear k3 l3 lb
    go_wp2_with fail
    refine (same_eq B1 _ _ _ 1 1 e1 1 _ (LB.out.keep ((Kp.rfl' w2).new _)) (lies_new w2 3 [4987]) rfl rfl (by decide) (by rfl)).mono ?_; rintro e w3 ⟨rfl, k3⟩
    have k3 := ((Kp.rfl' w2).new _).trans k3
    replace K := Lib.hid (K.out.trans k3)
    clear k3 x1 LB
    go_wp2_with fail
    go_ret
    exact ⟨by simp, K.out⟩
end Go.Proofs.Ytologiinkilooaa
