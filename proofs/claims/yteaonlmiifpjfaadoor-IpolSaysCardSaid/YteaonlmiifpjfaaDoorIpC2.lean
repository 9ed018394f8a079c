/- Contracts of package ipol, second part: Steps, Through. -/
import Derived.Test.YteaonlmiifpjfaaDoorIpC
namespace Go.Proofs.YteaonlmiifpjfaaDoor
open Go.ChangeShapes Go.WideShapes Go.ChangeAt Go.RowKit
set_option linter.unusedVariables false

/-- The row of the divided differences. -/
def stepRow (p q : List Fp.F) : List Fp.F := Pol.row p.length (fun k => Pol.dd (Pol.co p) (Pol.co q) k 0)
theorem len_stepRow (p q : List Fp.F) : (stepRow p q).length = p.length := Pol.len_row _ _
theorem co_stepRow (p q : List Fp.F) (k : Nat) (h : k < p.length) : Pol.co (stepRow p q) k = Pol.dd (Pol.co p) (Pol.co q) k 0 := Pol.co_row _ _ k h

theorem steps_bad (A B : Option Addr) (l m : List Int) (c d : Nat) (w : World) (ha : Lies w A l) (hb : Lies w B m) (hc : l.length ≤ c) (h : dcode l m ≠ 0) :
    Calls Tryd.prog 10 #[.slice A l.length c, .slice B m.length d] w fun e w' => Fails (dcode l m) w e w' := by
  have C := Lib.hid (ipCheck_any A B l m c d w ha hb hc)
  unfold Fails
  have e := errOf_ne _ h
  rw [e] at C ⊢
  clear e h ha hb hc
  generalize dcode l m = x at *
  generalize l.length = n at *
  generalize m.length = q at *
  go_enter Tryd.func10, Tryd.ntmps10
  go_wp2_with fail
  refine (C.out).mono ?_; rintro e w' ⟨rfl, rfl⟩
  go_wp2_with fail
  go_ret2
  exact ⟨rfl, Kp.rfl' _⟩

set_option maxRecDepth 100000 in
set_option maxHeartbeats 3200000 in
theorem steps_ok (A B : Option Addr) (p q : List Fp.F) (n c d : Nat) (w : World) (ha : Lies w A (Pol.vals p)) (hb : Lies w B (Pol.vals q)) (hn : n = p.length) (hq : n = q.length) (ln : n ≤ 6) (hc : n ≤ c) (hX : Pol.Apart (Pol.co p) n) :
    Calls Tryd.prog 10 #[.slice A n c, .slice B n d] w fun e w' => Gives (stepRow p q) w e w' := by
  have C := Lib.hid (by
    have h := ipCheck_any A B (Pol.vals p) (Pol.vals q) c d w ha hb (by rw [Pol.len_vals]; omega)
    rw [dcode_vals (by omega) (by omega) (by rw [← hn]; exact hX), Pol.len_vals, Pol.len_vals, ← hn, ← hq] at h
    exact h)
  rw [errOf_zero] at C
  have CL := Lib.hid (by
    have h := clone_any B (Pol.vals q) d w hb (by rw [Pol.len_vals]; omega)
    rw [Pol.len_vals, ← hq] at h
    exact h)
  have HA := Lib.hid ha
  have HN := Lib.hid hn
  have HQ := Lib.hid hq
  have HX := Lib.hid hX
  have HC := Lib.hid hc
  have ROW := Lib.hid (show stepRow p q = Pol.row n (fun k => Pol.dd (Pol.co p) (Pol.co q) k 0) by rw [hn]; rfl)
  clear ha hb hn hq hX hc
  go_enter Tryd.func10, Tryd.ntmps10
  go_wp2_with fail
  refine (C.out).mono ?_; rintro e w' ⟨rfl, rfl⟩
  go_wp2_with fail
  refine (CL.out).mono ?_; rintro e w1 ⟨v, rfl, hown, hkp⟩
  have HK1 := Lib.hid hkp
  obtain ⟨A1, c1, rfl, hl1, hc1⟩ := hown.cap
  rw [Pol.len_vals, ← HQ.out] at hc1
  have ev1 : (Pol.vals q).length = n := by rw [Pol.len_vals, ← HQ.out]
  rw [ev1] at hown ⊢
  have HO0 := Lib.hid (show Own w1 w.heap.size (.slice A1 n c1) (Pol.vals (Pol.row n (Pol.tab (Pol.co p) (Pol.co q) 0))) by
    have e : Pol.row n (Pol.tab (Pol.co p) (Pol.co q) 0) = q := by
      rw [Pol.row_ext n _ (Pol.co q) (fun k _ => Pol.tab_zero _ _ k), HQ.out, Pol.row_self]
    rw [e]; exact hown)
  have HC1 := Lib.hid hc1
  clear hown hkp hl1 C CL ev1 hc1
  go_wp2_with fail
  go_loopw [8] (fun i wr => ∃ o : Nat, o + 1 ≤ max n 1 ∧ i = .int .i64 ((o : Int) + 1) ∧ Own wr w.heap.size (.slice A1 n c1) (Pol.vals (Pol.row n (Pol.tab (Pol.co p) (Pol.co q) o))) ∧ Kp w wr) (fun i _ => n + 1 - (intOf i).toNat)
  case atStart => exact ⟨0, by omega, rfl, HO0.out, HK1.out⟩
  case round =>
    obtain ⟨o, ho, rfl, hown, hkp⟩ := hrel
    have HO := Lib.hid hown
    have HK := Lib.hid hkp
    clear hown hkp
    by_cases hlt : o + 1 < n
    · have hso := own_some HO.out (by rw [Pol.len_vals, Pol.len_row]; omega)
      obtain ⟨g, c', e, hg, hcx⟩ := hso
      injection e with e1 e2 e3
      subst e1
      have HG := Lib.hid hg
      clear hg hcx e2 e3
      obtain ⟨n', hn'⟩ : ∃ n', n = n' + 1 := ⟨n - 1, by omega⟩
      have HN' := Lib.hid hn'
      clear hn'
      go_wp2_with fail
      go_loopw [9] (fun j wr' => ∃ i : Nat, o ≤ i ∧ i + 1 ≤ n ∧ j = .int .i64 (i : Int) ∧ Own wr' w.heap.size (.slice (some ⟨g, 0, none⟩) n c1) (Pol.vals (Pol.row n (Pol.mid (Pol.co p) (Pol.co q) o i))) ∧ Kp w wr') (fun j _ => (intOf j).toNat)
      case atStart => exact ⟨n', by have := HN'.out; omega, by have := HN'.out; omega, by rw [show (n : Int) - 1 = (n' : Int) by have := HN'.out; omega], by
        have e := HO.out
        rw [← Pol.mid_start, show n - 1 = n' by have := HN'.out; omega] at e
        exact e, HK.out⟩
      case round =>
        obtain ⟨i, hi, hi2, rfl, hown2, hkp2⟩ := hrel
        by_cases hge : o + 1 ≤ i
        · obtain ⟨j, hj⟩ : ∃ j, i = j + o + 1 := ⟨i - (o + 1), by omega⟩
          obtain ⟨i0, hi0⟩ : ∃ i0, i0 = j + o := ⟨_, rfl⟩
          have hln : (Pol.vals (Pol.row n (Pol.mid (Pol.co p) (Pol.co q) o i))).length = n := by rw [Pol.len_vals, Pol.len_row]
          have s1 := own_cell hown2 i (by rw [hln]; omega)
          have s0 := own_cell hown2 i0 (by rw [hln]; omega)
          rw [Pol.vals_at, Pol.co_row _ _ _ (by omega), Pol.mid, if_neg (by omega)] at s1 s0
          have fr := own_free hown2 i
          obtain ⟨ad, rfl, _, x1⟩ := (HA.out.keep hkp2) i (by rw [Pol.len_vals, ← HN.out]; omega)
          obtain ⟨ad', ee, _, x0⟩ := (HA.out.keep hkp2) j (by rw [Pol.len_vals, ← HN.out]; omega)
          injection ee with ee
          subst ee
          rw [Pol.vals_at] at x1 x0
          have ne := Pol.sub_ne (HX.out.ne (i := i) (j := j) (by omega) (by omega) (by omega))
          have ST := Lib.hid (show Pol.vals (Pol.row n (Pol.mid (Pol.co p) (Pol.co q) o i0)) = (Pol.vals (Pol.row n (Pol.mid (Pol.co p) (Pol.co q) o i))).set i ((Pol.tab (Pol.co p) (Pol.co q) (o + 1) i).val : Int) by
            have h := Pol.row_mid (Pol.co p) (Pol.co q) n o i (by omega) (by omega)
            rw [show i - 1 = i0 by omega] at h
            rw [← h, Pol.vals_set])
          have TS := Lib.hid (Pol.tab_step (Pol.co p) (Pol.co q) o i (by omega))
          rw [show i - (o + 1) = j by omega, show i - 1 = i0 by omega] at TS
          have PUT := Lib.hid (fun (m : Nat) (x : Int) => own_put (hown2.drewN m) i x)
          have HK2 := Lib.hid hkp2
          have f1 : i < n := by omega
          have f2 : i0 < n := by omega
          have f3 : j < n := by omega
          have e1 : (i : Int) - 1 = (i0 : Int) := by omega
          have e2 : (i : Int) - ((o : Int) + 1) = (j : Int) := by omega
          have HI0 := Lib.hid hi0
          have HJ := Lib.hid hj
          clear hown2 hkp2 hln hi0 hj
          generalize Pol.co p i = a1 at *
          generalize Pol.co p j = a0 at *
          generalize Pol.tab (Pol.co p) (Pol.co q) o i = b1 at *
          generalize Pol.tab (Pol.co p) (Pol.co q) o i0 = b0 at *
          have MB := Lib.hid (fun w => minus_el b1 b0 w)
          have MA := Lib.hid (fun w => minus_el a1 a0 w)
          have DV := Lib.hid (fun w => div_el (b1 - b0) (a1 - a0) w ne)
          rw [← TS.out] at DV
          clear TS ne
          unfold el at *
          generalize ((Pol.tab (Pol.co p) (Pol.co q) (o + 1) i).val : Int) = z at *
          generalize ((b1 - b0).val : Int) = db at *
          generalize ((a1 - a0).val : Int) = da at *
          generalize (a1.val : Int) = va1 at *
          generalize (a0.val : Int) = va0 at *
          generalize (b1.val : Int) = vb1 at *
          generalize (b0.val : Int) = vb0 at *
          go_wp2_with fail
          go_quiet ((first
            | (with_reducible exact quiet_here (MB.out _))
            | (with_reducible exact quiet_more (MB.out _))
            | (with_reducible exact quiet_here (MA.out _))
            | (with_reducible exact quiet_more (MA.out _))
            | (with_reducible exact quiet_drew (DV.out _))
            | (with_reducible exact quiet_drew_more (DV.out _))))
          go_wp2_with fail
          go_roundw
          case rel =>
            have h1 := HJ.out
            have h0 := HI0.out
            exact ⟨i0, by omega, by omega, rfl, by rw [ST.out]; exact PUT.out _ _, (HK2.out.drewN _).put (p := ⟨g, i, none⟩) HG.out _⟩
          case measure => simp [intOf]; omega
        · have e : i = o := by omega
          subst e
          have HO2 := Lib.hid (show Own wr w.heap.size (.slice (some ⟨g, 0, none⟩) n c1) (Pol.vals (Pol.row n (Pol.tab (Pol.co p) (Pol.co q) (i + 1)))) by
            rw [← Pol.mid_end]; exact hown2)
          have HK2 := Lib.hid hkp2
          clear hown2 hkp2
          go_wp2_with fail
          go_roundw
          case rel => exact ⟨i + 1, by omega, by go_num, HO2.out, HK2.out⟩
          case measure => simp [intOf]; omega
    · have E := Lib.hid (Pol.tab_end (Pol.co p) (Pol.co q) n o (by omega))
      obtain ⟨A2, c2, e, hl, hc2⟩ := HO.out.cap
      injection e with e1 e2 e3
      subst e1 e3
      rw [E.out, ← ROW.out] at hl
      rw [E.out, ← ROW.out] at hc2
      rw [Pol.len_vals] at hc2
      have HL := Lib.hid hl
      have HC2 := Lib.hid hc2
      have EL := Lib.hid (show n = (stepRow p q).length by rw [len_stepRow, HN.out])
      clear hl hc2 e2
      have hge : (n : Int) ≤ (o : Int) + 1 := by omega
      go_wp2_with fail
      go_ret2
      exact ⟨A1, c1, by rw [← EL.out]; rfl, HL.out, HC2.out, HK.out⟩

end Go.Proofs.YteaonlmiifpjfaaDoor
