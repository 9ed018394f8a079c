/- Contracts of the document's answer on matrices (package rankmereref1: Mod, Unit, Flip, Copy, MatMul, MatAdd, Matrix, Field). For all packages. -/
import Derived.Test.YtofdhdnffkhojaaDoorOwnM
import Derived.StillTailTactics
import Derived.BigQuiet
namespace Go.Proofs.YtofdhdnffkhojaaDoor
open Go.ChangeShapes Go.WideShapes Go.ChangeAt Go.RowKit
set_option linter.unusedVariables false

theorem own_made {w : World} {base g n : Nat} (h : w.ownsRow base 3 1 (.slice (some ⟨g, 0, none⟩) n n) n (madeCells #[.int .i64 0] (n * 1)).toList) : Own w base (.slice (some ⟨g, 0, none⟩) n n) (Mx.row n fun _ => 0) := by
  unfold Own
  rw [Mx.len_row, ← Mx.row_rep]
  rw [toList_madeCells_one, Nat.mul_one] at h
  simpa [ints] using h
theorem rval (a : Fp.F) : 0 ≤ (a.val : Int) ∧ (a.val : Int) ≤ 9972 := by have := a.isLt; omega
theorem rprod (a b : Fp.F) : 0 ≤ (a.val : Int) * (b.val : Int) ∧ (a.val : Int) * (b.val : Int) ≤ 99440784 := by
  have h1 := rval a
  have h2 := rval b
  exact ⟨Int.mul_nonneg h1.1 h2.1, Int.mul_le_mul h1.2 h2.2 h2.1 (by decide)⟩
theorem rzero : ((0 : Fp.F).val : Int) = 0 := rfl

theorem rMod_any (n : Int) (w : World) (h1 : -1000000000000000 ≤ n) (h2 : n ≤ 1000000000000000) :
    Calls Tryd.prog 21 #[.int .i64 n] w fun e w' => e = .returned (.int .i64 (n % 9973)) ∧ w = w' := by
  obtain ⟨f1, f2⟩ := Num.tmod_fix n 9973 (by omega)
  obtain ⟨b2, b1⟩ := Num.tmod_bound n 9973 (by omega)
  have F1 := Lib.hid f1
  have F2 := Lib.hid f2
  clear f1 f2
  by_cases h : n.tmod 9973 < 0
  · go_enter Tryd.func21, Tryd.ntmps21
    go_wp2
    go_ret
    exact ⟨ret_int (F1.out h), rfl⟩
  · have h' : 0 ≤ n.tmod 9973 := by omega
    clear h
    go_enter Tryd.func21, Tryd.ntmps21
    go_wp2
    go_ret
    exact ⟨ret_int (F2.out h'), rfl⟩

/-- A matrix that the call made. -/
def Made (r c : Nat) (f : Nat → Nat → Fp.F) (w : World) (e : Ending) (w' : World) : Prop := ∃ A d, e = .returned (.slice A r d) ∧ LiesM w' A (Mx.matl r c f) ∧ Kp w w'
/-- The same, to be written to. -/
def MadeOwn (r c : Nat) (f : Nat → Nat → Fp.F) (w : World) (e : Ending) (w' : World) : Prop := ∃ v G C, e = .returned v ∧ OwnM w' w.heap.size v G C (Mx.matl r c f) ∧ Kp w w'

set_option maxRecDepth 100000 in
set_option maxHeartbeats 3200000 in
theorem rUnit_own (n : Nat) (w : World) (hn : n ≤ 1000) :
    Calls Tryd.prog 27 #[.int .i64 (n : Int)] w fun e w' => MadeOwn n n Mx.one w e w' := by
  obtain ⟨i0, hi, hz0, hz1, hz2⟩ := info_parts int_info
  go_enter Tryd.func27, Tryd.ntmps27
  go_wp2_with fail
  go_loopw [3, 4] (fun v i wr => ∃ (k : Nat) (G C : Nat → Nat), k ≤ n ∧ i = .int .i64 (k : Int) ∧ OwnM wr w.heap.size v G C (Mx.matl k n Mx.one) ∧ Kp w wr) (fun _ i _ => n - (intOf i).toNat)
  case atStart => exact ⟨0, fun _ => 0, fun _ => 0, Nat.zero_le _, rfl, ownM_none _ _ _ _, Kp.rfl' _⟩
  case round =>
    obtain ⟨k, G, C, hk, rfl, ho, hkp⟩ := hrel
    have HO := Lib.hid ho
    have HK := Lib.hid hkp
    clear ho hkp
    by_cases hlt : k < n
    · have HS := Lib.hid (show Mx.matl (k + 1) n Mx.one = Mx.matl k n Mx.one ++ [(Mx.row n fun _ => 0).set k 1] by
        rw [Mx.matl, Mx.tab_snoc, Mx.row_set]
        congr 2
        refine Mx.row_ext fun j _ => ?_
        show (((if k = j then (1 : Fp.F) else 0)).val : Int) = _
        by_cases e : j = k
        · rw [if_pos e, if_pos e.symm]; rfl
        · rw [if_neg e, if_neg (fun e' => e e'.symm)]; rfl)
      have HAP := Lib.hid (show ∀ i, i < (Mx.matl k n Mx.one).length → G i ≠ wr.heap.size from fun i hi => by have := (HO.out.lt hi).2; omega)
      go_wp2_with (first
        | (at_make; refine wpList_make_full _ rfl _ _ 23 rfl wr.heap.size 3 i0 (.int .i64 0) 1 Tryd.underlying23 hi hz0 hz1 _ _ _ _ n rfl rfl rfl rfl (by rw [hz2]; omega) (by unfold maxLen; omega) (Nat.le_refl _) ?_; intro w2 hown hgrow; have kp2 : Kp wr w2 := (Kp.rfl' wr).grown hgrow (by simp) (fun k hk => by cases hk); have ow := own_made hown; have hcell := own_cell ow k (by rw [Mx.len_row]; exact hlt); have hfree := own_free ow k; have kp3 := Lib.hid (kp2.put (p := ⟨wr.heap.size, k, none⟩) (Nat.le_refl _) (.int .i64 1)); have ow3 := Lib.hid (own_put ow k 1); have om3 := Lib.hid (HO.out.kp kp3.out))
        | (at_builtin; refine wpList_pushM rfl _ _ rfl w.heap.size _ G C (Mx.matl k n Mx.one) _ wr.heap.size n n _ 1 (by rw [List.length_set, Mx.len_row]) rfl rfl (om3.out.new _) (cell_made _ _ _ _ 0 (size_set _ _ _)) ((ow3.out.from HK.out.size).new _) HAP.out (by rw [Mx.len_matl]; omega) (Nat.le_trans HK.out.size (Nat.le_trans kp3.out.size ((Kp.rfl' _).new _).size)) ?_; intro v' w' G' C' ho' hk'))
      have HO' := Lib.hid ho'
      have HK' := Lib.hid (hk' w (Nat.le_refl _) ((HK.out.trans kp3.out).new _))
      clear ho' hk'
      go_wp2_with fail
      go_roundw
      case rel => exact ⟨k + 1, G', C', by omega, by go_num, by rw [HS.out]; exact HO'.out, HK'.out⟩
      case measure => simp [intOf]; omega
    · obtain rfl : k = n := by omega
      go_wp2_with fail
      go_ret
      exact ⟨_, G, C, rfl, HO.out, HK.out⟩
theorem rUnit_any (n : Nat) (w : World) (hn : n ≤ 1000) :
    Calls Tryd.prog 27 #[.int .i64 (n : Int)] w fun e w' => Made n n Mx.one w e w' :=
  (rUnit_own n w hn).mono fun e w' ⟨v, G, C, he, ho, hk⟩ => by
    obtain ⟨A', d', hv, hl, _⟩ := ho.lies
    rw [Mx.len_matl] at hv
    exact ⟨A', d', by rw [he, hv], hl, hk⟩

set_option maxRecDepth 100000 in
set_option maxHeartbeats 3200000 in
theorem rFlip_own (A : Option Addr) (f : Nat → Nat → Fp.F) (r c d : Nat) (w : World) (ha : LiesM w A (Mx.matl r c f)) (hr0 : 0 < r) (hr : r ≤ 1000) (hc : c ≤ 1000) :
    Calls Tryd.prog 36 #[.slice A r d] w fun e w' => MadeOwn c r (Mx.flip f) w e w' := by
  obtain ⟨ad, A0, d0, rfl, hlt0, hc00, _, _⟩ := ha.row hr0
  rw [add_zero'] at hc00
  have HA := Lib.hid ha
  have C0 := Lib.hid hc00
  clear ha hc00
  go_enter Tryd.func36, Tryd.ntmps36
  go_wp2_with fail
  go_loopw [3, 4] (fun v i wr => ∃ (k : Nat) (G C : Nat → Nat), k ≤ c ∧ i = .int .i64 (k : Int) ∧ OwnM wr w.heap.size v G C (Mx.matl k r (Mx.flip f)) ∧ Kp w wr) (fun _ i _ => c - (intOf i).toNat)
  case atStart => exact ⟨0, fun _ => 0, fun _ => 0, Nat.zero_le _, rfl, ownM_none _ _ _ _, Kp.rfl' _⟩
  case round =>
    obtain ⟨k, G, C, hk, rfl, ho, hkp⟩ := hrel
    obtain ⟨wo, hwo⟩ : ∃ x, x = wr := ⟨_, rfl⟩
    subst hwo
    have hc0 := (hkp.cell (p := ad) hlt0).trans C0.out
    have HO := Lib.hid ho
    have HK := Lib.hid hkp
    clear ho hkp
    by_cases hlt : k < c
    · have HS := Lib.hid (show Mx.matl (k + 1) r (Mx.flip f) = Mx.matl k r (Mx.flip f) ++ [Mx.row r fun j => ((f j k).val : Int)] by rw [Mx.matl, Mx.tab_snoc]; rfl)
      go_wp2_with fail
      go_loopw [5, 6] (fun u i wq => ∃ t : Nat, t ≤ r ∧ i = .int .i64 (t : Int) ∧ Own wq wo.heap.size u (Mx.row t fun j => ((f j k).val : Int)) ∧ Kp wo wq) (fun _ i _ => r - (intOf i).toNat)
      case atStart => exact ⟨0, Nat.zero_le _, rfl, Own.none _ _, Kp.rfl' _⟩
      case round =>
        obtain ⟨t, ht, rfl, hu, hkq⟩ := hrel
        have HU := Lib.hid hu
        have HQ := Lib.hid hkq
        by_cases hlt2 : t < r
        · obtain ⟨ad', A1, d1, ea, _, x1, _, l1⟩ := (HA.out.keep (HK.out.trans hkq)).row hlt2
          obtain rfl := Option.some.inj ea
          obtain ⟨ad1, rfl, _, x2⟩ := l1.el hlt
          clear hu hkq l1
          have hlen : (Mx.row t fun j => ((f j k).val : Int)).length + 1 ≤ 17000000000000 := by rw [Mx.len_row]; omega
          have hsz := HQ.out.size
          have HSN := Lib.hid (Mx.row_snoc t fun j => ((f j k).val : Int))
          generalize ((f t k).val : Int) = z at *
          go_wp2_with (at_builtin; refine wpList_push rfl _ _ rfl wo.heap.size _ (Mx.row t fun j => ((f j k).val : Int)) z wr.heap.size 1 rfl rfl (HU.out.new _) (by simp; done) hlen (Nat.le_trans hsz ((Kp.rfl' _).new _).size) ?_; intro v' w' h1 h2 _)
          have HU' := Lib.hid h1
          have HQ' := Lib.hid (own_below (HU.out.new _) (HQ.out.new _) (by have := HQ.out.size; simp; omega) h2)
          clear h1 h2
          go_wp2_with fail
          go_roundw
          case rel => exact ⟨t + 1, by omega, by go_num, by rw [HSN.out]; exact HU'.out, HQ'.out⟩
          case measure => simp [intOf]; omega
        · obtain rfl : t = r := by omega
          obtain ⟨g, gc, rfl, hg, hgc⟩ := own_some hu (by rw [Mx.len_row]; exact hr0)
          rw [Mx.len_row] at HU hgc ⊢
          clear hu hkq
          have OM := Lib.hid (HO.out.kp HQ.out)
          have HAP := Lib.hid (show ∀ i, i < (Mx.matl k t (Mx.flip f)).length → G i ≠ g from fun i hi => by have := (HO.out.lt hi).2; omega)
          go_wp2_with (at_builtin; refine wpList_pushM rfl _ _ rfl w.heap.size _ G C (Mx.matl k t (Mx.flip f)) _ g t gc _ 1 (Mx.len_row _ _) rfl rfl (OM.out.new _) (by simp; done) ((HU.out.from HK.out.size).new _) HAP.out (by rw [Mx.len_matl]; omega) (Nat.le_trans HK.out.size (Nat.le_trans HQ.out.size ((Kp.rfl' _).new _).size)) ?_; intro v' w' G' C' ho' hk')
          have HO' := Lib.hid ho'
          have HK' := Lib.hid (hk' w (Nat.le_refl _) ((HK.out.trans HQ.out).new _))
          clear ho' hk'
          go_wp2_with fail
          go_roundw
          case rel => exact ⟨k + 1, G', C', by omega, by go_num, by rw [HS.out]; exact HO'.out, HK'.out⟩
          case measure => simp [intOf]; omega
    · obtain rfl : k = c := by omega
      go_wp2_with fail
      go_ret
      exact ⟨_, G, C, rfl, HO.out, HK.out⟩
theorem rFlip_any (A : Option Addr) (f : Nat → Nat → Fp.F) (r c d : Nat) (w : World) (ha : LiesM w A (Mx.matl r c f)) (hr0 : 0 < r) (hr : r ≤ 1000) (hc : c ≤ 1000) :
    Calls Tryd.prog 36 #[.slice A r d] w fun e w' => Made c r (Mx.flip f) w e w' :=
  (rFlip_own A f r c d w ha hr0 hr hc).mono fun e w' ⟨v, G, C, he, ho, hk⟩ => by
    obtain ⟨A', d', hv, hl, _⟩ := ho.lies
    rw [Mx.len_matl] at hv
    exact ⟨A', d', by rw [he, hv], hl, hk⟩

end Go.Proofs.YtofdhdnffkhojaaDoor
