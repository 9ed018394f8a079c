/- Several texts, one behind the other: IpC2, IpC3, CpC2, RowsG, ShM, DeFact, CpFact, Rnd, MtTurn, MtAdd, MtMul, MtPow, MtFact, MxRef, CpEnds. -/
import Derived.Test.YtologiinkilooaaCharEndsProofG2
import Derived.Test.YtologiinkilooaaCharEndsProofG1
import Derived.RangeFuncNested
import Derived.RangeFuncBound
import Derived.RangeFuncCalls
import Derived.RangeFuncLeaves
import Derived.Shelf.Abstract
import Derived.WalkKit
import Derived.OwnWalkIn
import Derived.TacticsInMore
import Derived.LoopNIn
import Derived.LoopIn
import Derived.OrdersIn
import Derived.StillTailTactics
import Derived.Deep.RegionHeld3
import Derived.Deep.Cut
import Derived.Deep.CutRange
import Derived.Deep.DeepCutAuto
import Derived.BigQuiet

/- Contracts of package ipol, second part: Steps, Through. -/
namespace Go.Proofs.Ytologiinkilooaa
open Go.ChangeShapes Go.WideShapes Go.ChangeAt Go.RowKit
set_option linter.unusedVariables false

/-- The row of the divided differences. -/
def stepRow (p q : List Fp.F) : List Fp.F := Pol.row p.length (fun k => Pol.dd (Pol.co p) (Pol.co q) k 0)
theorem len_stepRow (p q : List Fp.F) : (stepRow p q).length = p.length := Pol.len_row _ _
theorem co_stepRow (p q : List Fp.F) (k : Nat) (h : k < p.length) : Pol.co (stepRow p q) k = Pol.dd (Pol.co p) (Pol.co q) k 0 := Pol.co_row _ _ k h

set_option maxRecDepth 100000 in
theorem steps_bad (A B : Option Addr) (l m : List Int) (c d : Nat) (w : World) (ha : Lies w A l) (hb : Lies w B m) (hc : l.length ≤ c) (h : dcode l m ≠ 0) :
    Calls Try.prog 54 #[.slice A l.length c, .slice B m.length d] w fun e w' => Fails (dcode l m) w e w' := by
  have C := Lib.hid (ipCheck_any A B l m c d w ha hb hc)
  unfold Fails
  have e := errOf_ne _ h
  rw [e] at C ⊢
  clear e h ha hb hc
  generalize dcode l m = x at *
  generalize l.length = n at *
  generalize m.length = q at *
  go_enter Try.func54, Try.ntmps54
  go_wp2_with fail
  refine (C.out).mono ?_; rintro e w' ⟨rfl, rfl⟩
  go_wp2_with fail
  go_ret2
  exact ⟨rfl, Kp.rfl' _⟩

set_option maxRecDepth 100000 in
set_option maxHeartbeats 3200000 in
theorem steps_ok (A B : Option Addr) (p q : List Fp.F) (n c d : Nat) (w : World) (ha : Lies w A (Pol.vals p)) (hb : Lies w B (Pol.vals q)) (hn : n = p.length) (hq : n = q.length) (ln : n ≤ 6) (hc : n ≤ c) (hX : Pol.Apart (Pol.co p) n) :
    Calls Try.prog 54 #[.slice A n c, .slice B n d] w fun e w' => Gives (stepRow p q) w e w' := by
  have C := Lib.hid (by
    have h := ipCheck_any A B (Pol.vals p) (Pol.vals q) c d w ha hb (by rw [Pol.len_vals]; omega)
    rw [dcode_vals (by omega) (by omega) (by rw [← hn]; exact hX), Pol.len_vals, Pol.len_vals, ← hn, ← hq] at h
    exact h)
  rw [errOf_zero] at C
  have CL := Lib.hid (by
    have h := iclone_any B (Pol.vals q) d w hb (by rw [Pol.len_vals]; omega)
    rw [Pol.len_vals, ← hq] at h
    exact h)
  have HA := Lib.hid ha
  have HN := Lib.hid hn
  have HQ := Lib.hid hq
  have HX := Lib.hid hX
  have HC := Lib.hid hc
  have ROW := Lib.hid (show stepRow p q = Pol.row n (fun k => Pol.dd (Pol.co p) (Pol.co q) k 0) by rw [hn]; rfl)
  clear ha hb hn hq hX hc
  go_enter Try.func54, Try.ntmps54
  go_wp2_with fail
  refine (C.out).mono ?_; rintro e w' ⟨rfl, rfl⟩
  go_wp2_with fail
  refine (CL.out).mono ?_; rintro e w1 ⟨v, rfl, hown, hkp⟩
  have HK1 := Lib.hid hkp
  obtain ⟨A1, c1, rfl, hl1, hc1⟩ := hown.cap
  rw [Pol.len_vals, ← HQ.out] at hc1
  have ev1 : (Pol.vals q).length = n := by rw [Pol.len_vals, ← HQ.out]
  rw [ev1] at hown ⊢
  have HO0 := Lib.hid (show Own w1 w.heap.size (.slice A1 n c1) (Pol.vals (Pol.row n (Pol.tab (Pol.co p) (Pol.co q) 0))) by
    have e : Pol.row n (Pol.tab (Pol.co p) (Pol.co q) 0) = q := by
      rw [Pol.row_ext n _ (Pol.co q) (fun k _ => Pol.tab_zero _ _ k), HQ.out, Pol.row_self]
    rw [e]; exact hown)
  have HC1 := Lib.hid hc1
  clear hown hkp hl1 C CL ev1 hc1
  go_wp2_with fail
  go_loopw [8] (fun i wr => ∃ o : Nat, o + 1 ≤ max n 1 ∧ i = .int .i64 ((o : Int) + 1) ∧ Own wr w.heap.size (.slice A1 n c1) (Pol.vals (Pol.row n (Pol.tab (Pol.co p) (Pol.co q) o))) ∧ Kp w wr) (fun i _ => n + 1 - (intOf i).toNat)
  case atStart => exact ⟨0, by omega, rfl, HO0.out, HK1.out⟩
  case round =>
    obtain ⟨o, ho, rfl, hown, hkp⟩ := hrel
    have HO := Lib.hid hown
    have HK := Lib.hid hkp
    clear hown hkp
    by_cases hlt : o + 1 < n
    · have hso := own_some HO.out (by rw [Pol.len_vals, Pol.len_row]; omega)
      obtain ⟨g, c', e, hg, hcx⟩ := hso
      injection e with e1 e2 e3
      subst e1
      have HG := Lib.hid hg
      clear hg hcx e2 e3
      obtain ⟨n', hn'⟩ : ∃ n', n = n' + 1 := ⟨n - 1, by omega⟩
      have HN' := Lib.hid hn'
      clear hn'
      go_wp2_with fail
      go_loopw [9] (fun j wr' => ∃ i : Nat, o ≤ i ∧ i + 1 ≤ n ∧ j = .int .i64 (i : Int) ∧ Own wr' w.heap.size (.slice (some ⟨g, 0, none⟩) n c1) (Pol.vals (Pol.row n (Pol.mid (Pol.co p) (Pol.co q) o i))) ∧ Kp w wr') (fun j _ => (intOf j).toNat)
      case atStart => exact ⟨n', by have := HN'.out; omega, by have := HN'.out; omega, by rw [show (n : Int) - 1 = (n' : Int) by have := HN'.out; omega], by
        have e := HO.out
        rw [← Pol.mid_start, show n - 1 = n' by have := HN'.out; omega] at e
        exact e, HK.out⟩
      case round =>
        obtain ⟨i, hi, hi2, rfl, hown2, hkp2⟩ := hrel
        by_cases hge : o + 1 ≤ i
        · obtain ⟨j, hj⟩ : ∃ j, i = j + o + 1 := ⟨i - (o + 1), by omega⟩
          obtain ⟨i0, hi0⟩ : ∃ i0, i0 = j + o := ⟨_, rfl⟩
          have hln : (Pol.vals (Pol.row n (Pol.mid (Pol.co p) (Pol.co q) o i))).length = n := by rw [Pol.len_vals, Pol.len_row]
          have s1 := own_cell hown2 i (by rw [hln]; omega)
          have s0 := own_cell hown2 i0 (by rw [hln]; omega)
          rw [Pol.vals_at, Pol.co_row _ _ _ (by omega), Pol.mid, if_neg (by omega)] at s1 s0
          have fr := own_free hown2 i
          obtain ⟨ad, rfl, _, x1⟩ := (HA.out.keep hkp2) i (by rw [Pol.len_vals, ← HN.out]; omega)
          obtain ⟨ad', ee, _, x0⟩ := (HA.out.keep hkp2) j (by rw [Pol.len_vals, ← HN.out]; omega)
          injection ee with ee
          subst ee
          rw [Pol.vals_at] at x1 x0
          have ne := Pol.sub_ne (HX.out.ne (i := i) (j := j) (by omega) (by omega) (by omega))
          have ST := Lib.hid (show Pol.vals (Pol.row n (Pol.mid (Pol.co p) (Pol.co q) o i0)) = (Pol.vals (Pol.row n (Pol.mid (Pol.co p) (Pol.co q) o i))).set i ((Pol.tab (Pol.co p) (Pol.co q) (o + 1) i).val : Int) by
            have h := Pol.row_mid (Pol.co p) (Pol.co q) n o i (by omega) (by omega)
            rw [show i - 1 = i0 by omega] at h
            rw [← h, Pol.vals_set])
          have TS := Lib.hid (Pol.tab_step (Pol.co p) (Pol.co q) o i (by omega))
          rw [show i - (o + 1) = j by omega, show i - 1 = i0 by omega] at TS
          have PUT := Lib.hid (fun (m : Nat) (x : Int) => own_put (hown2.drewN m) i x)
          have HK2 := Lib.hid hkp2
          have f1 : i < n := by omega
          have f2 : i0 < n := by omega
          have f3 : j < n := by omega
          have e1 : (i : Int) - 1 = (i0 : Int) := by omega
          have e2 : (i : Int) - ((o : Int) + 1) = (j : Int) := by omega
          have HI0 := Lib.hid hi0
          have HJ := Lib.hid hj
          clear hown2 hkp2 hln hi0 hj
          generalize Pol.co p i = a1 at *
          generalize Pol.co p j = a0 at *
          generalize Pol.tab (Pol.co p) (Pol.co q) o i = b1 at *
          generalize Pol.tab (Pol.co p) (Pol.co q) o i0 = b0 at *
          have MB := Lib.hid (fun w => minus_el b1 b0 w)
          have MA := Lib.hid (fun w => minus_el a1 a0 w)
          have DV := Lib.hid (fun w => div_el (b1 - b0) (a1 - a0) w ne)
          rw [← TS.out] at DV
          clear TS ne
          unfold el at *
          generalize ((Pol.tab (Pol.co p) (Pol.co q) (o + 1) i).val : Int) = z at *
          generalize ((b1 - b0).val : Int) = db at *
          generalize ((a1 - a0).val : Int) = da at *
          generalize (a1.val : Int) = va1 at *
          generalize (a0.val : Int) = va0 at *
          generalize (b1.val : Int) = vb1 at *
          generalize (b0.val : Int) = vb0 at *
          go_wp2_with fail
          go_quiet ((first
            | (with_reducible exact quiet_here (MB.out _))
            | (with_reducible exact quiet_more (MB.out _))
            | (with_reducible exact quiet_here (MA.out _))
            | (with_reducible exact quiet_more (MA.out _))
            | (with_reducible exact quiet_drew (DV.out _))
            | (with_reducible exact quiet_drew_more (DV.out _))))
          go_wp2_with fail
          go_roundw
          case rel =>
            have h1 := HJ.out
            have h0 := HI0.out
            exact ⟨i0, by omega, by omega, rfl, by rw [ST.out]; exact PUT.out _ _, (HK2.out.drewN _).put (p := ⟨g, i, none⟩) HG.out _⟩
          case measure => simp [intOf]; omega
        · have e : i = o := by omega
          subst e
          have HO2 := Lib.hid (show Own wr w.heap.size (.slice (some ⟨g, 0, none⟩) n c1) (Pol.vals (Pol.row n (Pol.tab (Pol.co p) (Pol.co q) (i + 1)))) by
            rw [← Pol.mid_end]; exact hown2)
          have HK2 := Lib.hid hkp2
          clear hown2 hkp2
          go_wp2_with fail
          go_roundw
          case rel => exact ⟨i + 1, by omega, by go_num, HO2.out, HK2.out⟩
          case measure => simp [intOf]; omega
    · have E := Lib.hid (Pol.tab_end (Pol.co p) (Pol.co q) n o (by omega))
      obtain ⟨A2, c2, e, hl, hc2⟩ := HO.out.cap
      injection e with e1 e2 e3
      subst e1 e3
      rw [E.out, ← ROW.out] at hl
      rw [E.out, ← ROW.out] at hc2
      rw [Pol.len_vals] at hc2
      have HL := Lib.hid hl
      have HC2 := Lib.hid hc2
      have EL := Lib.hid (show n = (stepRow p q).length by rw [len_stepRow, HN.out])
      clear hl hc2 e2
      have hge : (n : Int) ≤ (o : Int) + 1 := by omega
      go_wp2_with fail
      go_ret2
      exact ⟨A1, c1, by rw [← EL.out]; rfl, HL.out, HC2.out, HK.out⟩

end Go.Proofs.Ytologiinkilooaa

/- Contracts of package ipol, third part: Through. -/
namespace Go.Proofs.Ytologiinkilooaa
open Go.ChangeShapes Go.WideShapes Go.ChangeAt Go.RowKit
set_option linter.unusedVariables false

set_option maxRecDepth 100000 in
theorem through_bad (A B : Option Addr) (l m : List Int) (c d : Nat) (w : World) (ha : Lies w A l) (hb : Lies w B m) (hc : l.length ≤ c) (h : dcode l m ≠ 0) :
    Calls Try.prog 31 #[.slice A l.length c, .slice B m.length d] w fun e w' => Fails (dcode l m) w e w' := by
  have C := Lib.hid (steps_bad A B l m c d w ha hb hc h)
  unfold Fails at *
  have e := errOf_ne _ h
  rw [e] at C ⊢
  clear e h ha hb hc
  generalize dcode l m = x at *
  generalize l.length = n at *
  generalize m.length = q at *
  go_enter Try.func31, Try.ntmps31
  go_wp2_with fail
  refine (C.out).mono ?_; rintro e w' ⟨rfl, hk⟩
  have HK := Lib.hid hk
  clear hk
  go_wp2_with fail
  go_ret2
  exact ⟨rfl, HK.out⟩

theorem minus_zero (a : Fp.F) (w : World) :
    Calls Try.prog 56 #[.int .i64 0, el a] w fun e w' => e = .returned (el (-a)) ∧ w = w' := by
  have h := minus_el 0 a w
  rw [show (0 : Fp.F) - a = -a by grind] at h
  exact h

/-- The rule of the divided differences. -/
def stp (p q : List Fp.F) (k : Nat) : Fp.F := Pol.dd (Pol.co p) (Pol.co q) k 0

theorem vals_two (a : Fp.F) : Pol.vals [a, 1] = [(a.val : Int), 1] := rfl
theorem vals_one (a : Fp.F) : Pol.vals [a] = [(a.val : Int)] := rfl

set_option maxRecDepth 100000 in
set_option maxHeartbeats 3200000 in
theorem through_ok (A B : Option Addr) (p q : List Fp.F) (n c d : Nat) (w : World) (ha : Lies w A (Pol.vals p)) (hb : Lies w B (Pol.vals q)) (hn : n = p.length) (hq : n = q.length) (ln : n ≤ 6) (hc : n ≤ c) (hX : Pol.Apart (Pol.co p) n) :
    Calls Try.prog 31 #[.slice A n c, .slice B n d] w fun e w' => Gives (Pol.thr (Pol.co p) (Pol.co q) n) w e w' := by
  have ST := Lib.hid (steps_ok A B p q n c d w ha hb hn hq ln hc hX)
  have HA := Lib.hid ha
  have HN := Lib.hid hn
  have HQ := Lib.hid hq
  clear ha hb hn hq hX hc
  go_enter Try.func31, Try.ntmps31
  go_wp2_with fail
  refine (ST.out).mono ?_; rintro e w1 ⟨A1, c1, rfl, hl1, hc1, hkp⟩
  rw [len_stepRow, ← HN.out] at hc1 ⊢
  have HL1 := Lib.hid hl1
  have HK1 := Lib.hid hkp
  clear hl1 hkp ST
  go_wp2_with fail
  go_loopw [8, 7, 9] (fun f err i wr => ∃ (m len c' : Nat) (A' : Option Addr) (z : Int), m ≤ n ∧ f = .slice A' len c' ∧ len = (Pol.hor (Pol.co p) (stp p q) n m).length ∧ Lies wr A' (Pol.vals (Pol.hor (Pol.co p) (stp p q) n m)) ∧ len ≤ c' ∧
      err = .nilIface ∧ i = .int .i64 z ∧ z = (n : Int) - 1 - (m : Int) ∧ Kp w1 wr) (fun _ _ i _ => (intOf i + 1).toNat)
  case atStart => exact ⟨0, 0, 0, Option.none, _, Nat.zero_le _, rfl, rfl, Lies.empty _ _, Nat.le_refl _, rfl, rfl, by omega, Kp.rfl' _⟩
  case round =>
    obtain ⟨m, len, c', A', z, hm, rfl, hlen, hlies, hc', rfl, rfl, hz, hkp⟩ := hrel
    have HLEN := Lib.hid hlen
    have HLI := Lib.hid hlies
    have HK := Lib.hid hkp
    have LB := Lib.hid (Pol.len_hor (Pol.co p) (stp p q) n m (by omega))
    clear hlen hlies hkp
    by_cases hlt : m < n
    · obtain ⟨k, hk⟩ : ∃ k, k = n - (m + 1) := ⟨_, rfl⟩
      obtain rfl : z = (k : Int) := by omega
      have hkn : k < n := by omega
      have HKM := Lib.hid hk
      have HZ := Lib.hid hz
      clear hz hk
      obtain ⟨ad, rfl, _, xc⟩ := (HA.out.keep (HK1.out.trans HK.out)) k (by rw [Pol.len_vals, ← HN.out]; exact hkn)
      rw [Pol.vals_at] at xc
      have hll : len ≤ 6 := by have := HLEN.out; have := LB.out; omega
      obtain ⟨a, haa⟩ : ∃ a, a = Pol.co p k := ⟨_, rfl⟩
      rw [← haa] at xc
      have MZ := Lib.hid (fun w => minus_zero a w)
      have MU := Lib.hid (fun (w' : World) (B' : Option Addr) (d' : Nat) (hw : Kp wr w') (hB : Lies w' B' (Pol.vals [-a, 1])) => mul_ok' A' B' (Pol.hor (Pol.co p) (stp p q) n m) [-a, 1] len 2 c' d' w' (HLI.out.keep hw) hB HLEN.out rfl (by omega) (by omega))
      obtain ⟨bd, rfl, hbb, yc⟩ := (HL1.out.keep HK.out) k (by rw [Pol.len_vals, len_stepRow, ← HN.out]; exact hkn)
      rw [Pol.vals_at, co_stepRow _ _ _ (by rw [← HN.out]; exact hkn)] at yc
      have HY := Lib.hid (show Lies wr (some (bd.add k)) (Pol.vals [stp p q k]) from fun j hj => by
        obtain rfl : j = 0 := by rw [Pol.len_vals] at hj; simp at hj; exact hj
        exact ⟨_, rfl, by rw [block_add]; exact hbb, by rw [add_add, Nat.add_zero, yc]; rfl⟩)
      have AD := Lib.hid (fun (w' : World) (A2 : Option Addr) (c2 d2 : Nat) (hw : Kp wr w') (hA : Lies w' A2 (Pol.vals (Pol.mul (Pol.hor (Pol.co p) (stp p q) n m) [-a, 1]))) =>
        add_ok' A2 (some (bd.add k)) (Pol.mul (Pol.hor (Pol.co p) (stp p q) n m) [-a, 1]) [stp p q k] _ 1 c2 d2 w' hA (HY.out.keep hw) rfl rfl (by have h1 : (Pol.mul (Pol.hor (Pol.co p) (stp p q) n m) [-a, 1]).length ≤ (Pol.hor (Pol.co p) (stp p q) n m).length + 2 := Pol.len_mul _ _; have := HLEN.out; omega) (by omega))
      have EQ := Lib.hid (show Pol.add (Pol.mul (Pol.hor (Pol.co p) (stp p q) n m) [-a, 1]) [stp p q k] = Pol.hor (Pol.co p) (stp p q) n (m + 1) by rw [Pol.hor, haa, HKM.out])
      have hkc : (k : Int) < (c1 : Int) := by omega
      have hkc2 : (k : Int) + 1 ≤ (c1 : Int) := by omega
      clear haa yc hbb
      unfold el at *
      generalize hv : (a.val : Int) = va at *
      generalize hv' : ((-a).val : Int) = vna at *
      have HV' := Lib.hid hv'
      clear hv hv'
      go_wp2_with fail
      refine (MZ.out _).mono ?_; rintro e w' ⟨rfl, rfl⟩
      go_wp2_with fail
      refine (MU.out _ _ _ ((Kp.rfl' wr).new _) (by rw [vals_two, HV'.out]; exact lies_new wr _ [vna, 1])).mono ?_; rintro e w2 ⟨A2, c2, rfl, hl2, hc2, hk2⟩
      have HL2 := Lib.hid hl2
      have HK2 := Lib.hid (((Kp.rfl' wr).new _).trans hk2)
      clear hl2 hc2 hk2 MU MZ
      go_wp2_with fail
      refine (AD.out _ _ _ _ HK2.out HL2.out).mono ?_; rintro e w3 ⟨A3, c3, rfl, hl3, hc3, hk3⟩
      rw [EQ.out] at hl3 hc3 ⊢
      have HL3 := Lib.hid hl3
      have HC3 := Lib.hid hc3
      have HK3 := Lib.hid (HK.out.trans (HK2.out.trans hk3))
      clear hl3 hc3 hk3 AD EQ
      go_wp2_with fail
      go_roundw
      case rel => exact ⟨m + 1, _, c3, A3, _, by omega, rfl, rfl, HL3.out, HC3.out, rfl, rfl, by have := HZ.out; omega, HK3.out⟩
      case measure => simp [intOf]
    · obtain rfl : m = n := by omega
      obtain rfl : z = -1 := by omega
      have E := Lib.hid (show Pol.hor (Pol.co p) (stp p q) m m = Pol.thr (Pol.co p) (Pol.co q) m from rfl)
      have HT := Lib.hid (HK1.out.trans HK.out)
      go_wp2_with fail
      go_ret2
      exact ⟨A', c', by rw [← E.out, ← HLEN.out]; rfl, by rw [← E.out]; exact HLI.out, by rw [← E.out, ← HLEN.out]; exact hc', HT.out⟩

end Go.Proofs.Ytologiinkilooaa

/- Contracts of package charpoly, second part: Trace, Of. -/
namespace Go.Proofs.Ytologiinkilooaa
open Go.ChangeShapes Go.WideShapes Go.ChangeAt Go.RowKit
set_option linter.unusedVariables false

theorem Trace_bad (A : Option Addr) (m : List (List Int)) (n d : Nat) (w : World) (ha : LiesM w A m) (hn : m.length = n) (h : qcode 5 0 9972 m ≠ 0) :
    Calls Try.prog 14 #[.slice A n d] w fun e w' => e = .returned (.tuple #[.int .i64 0, errOf (qcode 5 0 9972 m)]) ∧ Kp w w' := by
  have CK := Lib.hid (fun w (ha : LiesM w A m) => DChk_any A m n d w ha hn)
  rw [errOf_ne _ h] at CK ⊢
  generalize qcode 5 0 9972 m = z at *
  have HA := Lib.hid ha
  clear ha h hn
  go_enter Try.func14, Try.ntmps14
  go_wp2_with fail
  refine (CK.out _ HA.out).mono ?_; rintro e w' ⟨rfl, rfl⟩
  go_wp2_with fail
  go_ret2
  exact ⟨rfl, Kp.rfl' _⟩

set_option maxRecDepth 100000 in
set_option maxHeartbeats 1600000 in
theorem Trace_ok (A : Option Addr) (f : Nat → Nat → Fp.F) (n d : Nat) (w : World) (ha : LiesM w A (Mx.matl n n f)) (h0 : 0 < n) (hn : n ≤ 5) :
    Calls Try.prog 14 #[.slice A n d] w fun e w' => e = .returned (.tuple #[.int .i64 ((Mx.sg n fun i => f i i).val : Int), .nilIface]) ∧ Kp w w' := by
  have CK := Lib.hid (fun w (ha : LiesM w A (Mx.matl n n f)) => DChk_any A (Mx.matl n n f) n d w ha (Mx.len_matl _ _ _))
  rw [qcode_matl f h0 hn, errOf_zero] at CK
  have HA := Lib.hid ha
  clear ha h0
  go_enter Try.func14, Try.ntmps14
  go_wp2_with fail
  refine (CK.out _ HA.out).mono ?_; rintro e w' ⟨rfl, rfl⟩
  go_wp2_with fail
  go_loop [5, 6, 7, 15] (fun s _ _ i => ∃ (k : Nat) (z : Int), k ≤ n ∧ i = .int .i64 (k : Int) ∧ s = .int .i64 z ∧ 0 ≤ z ∧ z ≤ 9972 * k ∧ Fp.ofInt z = Mx.sg k fun i => f i i) (fun _ _ _ i => n - (intOf i).toNat)
  case atStart => exact ⟨0, 0, Nat.zero_le _, rfl, rfl, by omega, by omega, rfl⟩
  case round =>
    obtain ⟨k, z, hk, rfl, rfl, z0, z1, hz⟩ := hrel
    have HZ := Lib.hid hz
    clear hz
    by_cases hlt : k < n
    · obtain ⟨ad, A1, d1, rfl, _, x1, _, l1⟩ := HA.out.row hlt
      obtain ⟨bd, rfl, _, x2⟩ := l1.el hlt
      have hb := cval (f k k)
      have HF := Lib.hid (show Fp.ofInt (z + ((f k k).val : Int)) = Mx.sg (k + 1) fun i => f i i by rw [Fp.ofInt_add, HZ.out, Fp.ofInt_self, Mx.sg_succ])
      generalize ((f k k).val : Int) = v at *
      have hw : IntKind.i64.wrap (z + v) = z + v := IntWalk.i64_in _ (by omega)
      clear l1
      go_wp2_with fail
      go_round
      case rel => exact ⟨k + 1, z + v, by omega, by go_num, rfl, by omega, by omega, HF.out⟩
      case measure => simp [intOf]; omega
    · obtain rfl : k = n := by omega
      have HM := Lib.hid (show z % 9973 = ((Mx.sg k fun i => f i i).val : Int) by rw [← HZ.out, Fp.ofInt_val])
      go_wp2_with fail
      go_ret2
      refine ⟨?_, Kp.rfl' _⟩
      show Ending.returned (.tuple #[.int .i64 (z % 9973), .nilIface]) = _
      rw [HM.out]

theorem COf_bad (A : Option Addr) (m : List (List Int)) (n d : Nat) (w : World) (ha : LiesM w A m) (hn : m.length = n) (h : qcode 5 0 9972 m ≠ 0) :
    Calls Try.prog 8 #[.slice A n d] w fun e w' => Fails (qcode 5 0 9972 m) w e w' := by
  have CK := Lib.hid (fun w (ha : LiesM w A m) => DChk_any A m n d w ha hn)
  unfold Fails
  rw [errOf_ne _ h] at CK ⊢
  generalize qcode 5 0 9972 m = z at *
  have HA := Lib.hid ha
  clear ha h hn
  go_enter Try.func8, Try.ntmps8
  go_wp2_with fail
  refine (CK.out _ HA.out).mono ?_; rintro e w' ⟨rfl, rfl⟩
  go_wp2_with fail
  go_ret2
  exact ⟨rfl, Kp.rfl' _⟩

theorem vals_snoc (p : List Fp.F) (a : Fp.F) : Pol.vals (p ++ [a]) = Pol.vals p ++ [(a.val : Int)] := by simp [Pol.vals]

set_option maxRecDepth 100000 in
set_option maxHeartbeats 3200000 in
theorem COf_ok (A : Option Addr) (f : Nat → Nat → Fp.F) (n d : Nat) (w : World) (ha : LiesM w A (Mx.matl n n f)) (h0 : 0 < n) (hn : n ≤ 5) :
    Calls Try.prog 8 #[.slice A n d] w fun e w' => Gives (Mx.chl n f) w e w' := by
  have CK := Lib.hid (fun w (ha : LiesM w A (Mx.matl n n f)) => DChk_any A (Mx.matl n n f) n d w ha (Mx.len_matl _ _ _))
  rw [qcode_matl f h0 hn, errOf_zero] at CK
  have HA := Lib.hid ha
  have DI := Lib.hid (fun (x : Nat) (hx : x ≤ 5) w1 (k : Kp w w1) => difference_any A f n d x w1 (ha.keep k) hn hx)
  have OF := Lib.hid (fun (x g : Nat) w1 h => Of_ok (some ⟨g, 0, none⟩) (Mx.chm f (Fp.ofInt (x : Int))) n n w1 h h0 hn)
  have TH := Lib.hid (fun (X Y : Option Addr) (c1 c2 : Nat) w1 h1 h2 (hc : n + 1 ≤ c1) => through_ok X Y (Mx.upto (n + 1)) (Mx.cdet n f (n + 1)) (n + 1) c1 c2 w1 h1 h2 (Mx.len_upto _).symm (Mx.len_cdet _ _ _).symm (by omega) hc (Mx.upto_apart (Nat.le_refl _) (by omega)))
  rw [Mx.thr_chl (by omega)] at TH
  clear ha h0
  go_enter Try.func8, Try.ntmps8
  go_wp2_with fail
  refine (CK.out _ HA.out).mono ?_; rintro e w' ⟨rfl, rfl⟩
  have hwn : IntKind.i64.wrap ((n : Int) + 1) = (n : Int) + 1 := IntWalk.i64_in _ (by omega)
  go_wp2_with fail
  go_loopw [2, 3, 5, 6, 7, 8, 9, 18] (fun _ _ V1 V2 _ _ _ i wr => ∃ k : Nat, k ≤ n + 1 ∧ i = .int .i64 (k : Int) ∧ Two w V1 V2 (Pol.vals (Mx.upto k)) (Pol.vals (Mx.cdet n f k)) wr) (fun _ _ _ _ _ _ _ i _ => n + 1 - (intOf i).toNat)
  case atStart => exact ⟨0, Nat.zero_le _, rfl, ⟨Own.none _ _, Own.none _ _, fun g e => (by cases e), Kp.rfl' _⟩⟩
  case round =>
    obtain ⟨k, hk, rfl, ht⟩ := hrel
    have HT := Lib.hid ht
    clear ht
    by_cases hlt : k < n + 1
    · have hlt' : (k : Int) < (n : Int) + 1 := by omega
      have DI1 := Lib.hid (DI.out k (by omega) wr HT.out.kp)
      have HR1 := Lib.hid (show Pol.vals (Mx.upto (k + 1)) = Pol.vals (Mx.upto k) ++ [(k : Int)] by rw [Mx.upto_succ, vals_snoc, Fp.ofInt_of _ (by omega) (by omega)])
      obtain ⟨y, hy⟩ : ∃ y, y = ((Mx.dt n (Mx.chm f (Fp.ofInt (k : Int)))).val : Int) := ⟨_, rfl⟩
      have HR2 := Lib.hid (show Pol.vals (Mx.cdet n f (k + 1)) = Pol.vals (Mx.cdet n f k) ++ [y] by rw [Mx.cdet_succ, vals_snoc, hy])
      have OF1 := Lib.hid (OF.out k)
      rw [← hy] at OF1
      have hl1 : (Pol.vals (Mx.upto k)).length + 1 ≤ 17000000000000 := by rw [Pol.len_vals, Mx.len_upto]; omega
      have hl2 : (Pol.vals (Mx.cdet n f k)).length + 1 ≤ 17000000000000 := by rw [Pol.len_vals, Mx.len_cdet]; omega
      have HL1 := Lib.hid hl1
      have HL2 := Lib.hid hl2
      obtain ⟨r1, hr1⟩ : ∃ r, r = Pol.vals (Mx.upto k) := ⟨_, rfl⟩
      obtain ⟨r2, hr2⟩ : ∃ r, r = Pol.vals (Mx.cdet n f k) := ⟨_, rfl⟩
      rw [← hr1] at HT HR1 HL1
      rw [← hr2] at HT HR2 HL2
      clear hl1 hl2 hr1 hr2 hy
      go_wp2_with fail
      refine (DI1.out).mono ?_; rintro e w1 ⟨g, rfl, hl, k1⟩
      have HLx := Lib.hid hl
      have HT1 := Lib.hid (show Two w _ _ r1 r2 w1 from ⟨HT.out.one.kp k1, HT.out.two.kp k1, HT.out.apart, HT.out.kp.trans k1⟩)
      clear hl k1 HT DI1
      go_wp2_with fail
      refine (OF1.out g w1 HLx.out).mono ?_; rintro e w2 ⟨rfl, k2⟩
      have HT2 := Lib.hid (show Two w _ _ r1 r2 w2 from ⟨HT1.out.one.kp k2, HT1.out.two.kp k2, HT1.out.apart, HT1.out.kp.trans k2⟩)
      have hs2 := HT2.out.kp.size
      clear k2 HT1 HLx OF1
      go_wp2_with (first
        | (at_builtin; refine wpList_push rfl _ _ rfl w.heap.size _ r1 (k : Int) w2.heap.size 1 rfl rfl (HT2.out.one.new _) (by simp) HL1.out (by simp; omega) ?_; intro v3 w3 h1 h2 h3; have TW := Lib.hid ((HT2.out.new _).grown h1 h2 h3); have hs3 := TW.out.kp.size; clear h1 h2 h3)
        | (at_builtin; refine wpList_push rfl _ _ rfl w.heap.size _ r2 y w3.heap.size 1 rfl rfl (TW.out.two.new _) (by simp) HL2.out (by simp; omega) ?_; intro v4 w4 h1 h2 h3; have TZ := Lib.hid (((TW.out.symm).new _).grown h1 h2 h3).symm; clear h1 h2 h3))
      go_roundw
      case rel => exact ⟨k + 1, by omega, by go_num, by rw [HR1.out, HR2.out]; exact TZ.out⟩
      case measure => simp [intOf]; omega
    · obtain rfl : k = n + 1 := by omega
      obtain ⟨g1, c1, e1, _, hc1⟩ := own_some HT.out.one (by rw [Pol.len_vals, Mx.len_upto]; omega)
      obtain ⟨X, _, e1', L1⟩ := HT.out.one.lies
      obtain ⟨Y, c2, e2, L2⟩ := HT.out.two.lies
      rw [Pol.len_vals, Mx.len_upto] at e1 hc1 e1'
      rw [Pol.len_vals, Mx.len_cdet] at e2
      rw [e1] at e1'
      cases e1'
      subst e1 e2
      have hlt' : ¬ (((n + 1 : Nat) : Int) < (n : Int) + 1) := by omega
      have K3 := Lib.hid HT.out.kp
      have T1 := Lib.hid (TH.out _ Y c1 c2 wr L1 L2 hc1)
      clear HT L1 L2
      go_wp2_with fail
      refine (T1.out).mono ?_; rintro e w2 ⟨Z, cz, rfl, hz, hcz, k2⟩
      have HZ := Lib.hid hz
      have HCZ := Lib.hid hcz
      have K4 := Lib.hid (K3.out.trans k2)
      clear hz hcz k2 K3
      go_wp2_with fail
      go_ret2
      exact ⟨Z, cz, rfl, HZ.out, HCZ.out, K4.out⟩
end Go.Proofs.Ytologiinkilooaa

/- Comparing rows and matrices, small matrices just laid down: for all packages. -/
namespace Go.Proofs.Ytologiinkilooaa
open Go.ChangeShapes Go.WideShapes Go.ChangeAt Go.RowKit
set_option linter.unusedVariables false

set_option maxHeartbeats 1600000 in
theorem ints_drew (A B : Option Addr) (l m : List Int) (c d : Nat) (w : World) (ha : Lies w A l) (hb : Lies w B m) (hn : l.length ≤ 1000000) (hm : m.length ≤ 1000000) :
    Calls Try.prog 16 #[.slice A l.length c, .slice B m.length d] w fun e w' => Tells (l = m) e ∧ Drew w w' := by
  have HA := Lib.hid ha
  have HB := Lib.hid hb
  obtain ⟨n, hn'⟩ : ∃ n, n = l.length := ⟨_, rfl⟩
  obtain ⟨q, hq'⟩ : ∃ q, q = m.length := ⟨_, rfl⟩
  rw [← hn'] at hn ⊢
  rw [← hq'] at hm ⊢
  have HN := Lib.hid hn'
  have HQ := Lib.hid hq'
  clear ha hb hn' hq'
  by_cases he : n = q
  · subst he
    have hne : ((n : Int) != (n : Int)) = false := by simp
    go_enter Try.func16, Try.ntmps16
    go_wp2_with fail
    go_loopw [5] (fun i wr => ∃ k : Nat, k ≤ n ∧ i = .int .i64 (k : Int) ∧ (∀ j, j < k → l.getD j 0 = m.getD j 0) ∧ Drew w wr) (fun i _ => n - (intOf i).toNat)
    case atStart => exact ⟨0, Nat.zero_le _, rfl, fun j hj => absurd hj (by omega), Drew.refl _⟩
    case round =>
      obtain ⟨k, hk, rfl, hg, hkp⟩ := hrel
      have HG := Lib.hid hg
      have HK := Lib.hid hkp
      clear hg hkp
      by_cases hlt : k < n
      · obtain ⟨ad, rfl, _, hc⟩ := (HA.out.keep HK.out.kp) k (by have := HN.out; omega)
        obtain ⟨bd, rfl, _, hd⟩ := (HB.out.keep HK.out.kp) k (by have := HQ.out; omega)
        obtain ⟨x, hx⟩ : ∃ x, x = l.getD k 0 := ⟨_, rfl⟩
        obtain ⟨y, hy⟩ : ∃ y, y = m.getD k 0 := ⟨_, rfl⟩
        rw [← hx] at hc
        rw [← hy] at hd
        by_cases hxy : x = y
        · have GG := Lib.hid (show ∀ j, j < k + 1 → l.getD j 0 = m.getD j 0 from fun j hj => by
            by_cases e : j = k
            · subst e; rw [← hx, ← hy]; exact hxy
            · exact HG.out j (by omega))
          have hb : (x != y) = false := by rw [hxy]; simp
          clear hx hy hxy
          go_wp2_with fail
          go_quiet (fail)
          go_wp2_with fail
          go_roundw
          case rel => exact ⟨k + 1, by omega, by go_num, GG.out, HK.out.more _⟩
          case measure => simp [intOf]; omega
        · have NF := Lib.hid (show ¬ l = m from fun e => hxy (by rw [hx, hy, e]))
          have hb : (x != y) = true := by rw [bne_iff_ne]; exact hxy
          clear hx hy hxy
          go_wp2_with fail
          go_quiet (fail)
          go_wp2_with fail
          go_ret
          exact ⟨.inr ⟨NF.out, rfl⟩, HK.out.more _⟩
      · have YES := Lib.hid (show l = m from list_same l m (by rw [← HN.out, ← HQ.out]) fun j hj => HG.out j (by have := HN.out; omega))
        go_wp2_with fail
        go_ret
        exact ⟨.inl ⟨YES.out, rfl⟩, HK.out⟩
  · have hne : ((n : Int) != (q : Int)) = true := by rw [bne_iff_ne]; omega
    have NF := Lib.hid (show ¬ l = m from fun e => he (by rw [HN.out, HQ.out, e]))
    clear he
    go_enter Try.func16, Try.ntmps16
    go_wp2_with fail
    go_ret
    exact ⟨.inr ⟨NF.out, rfl⟩, Drew.refl _⟩
theorem rows_same (a b : List (List Int)) (h : a.length = b.length) (h2 : ∀ k, k < a.length → a.getD k [] = b.getD k []) : a = b := by
  refine List.ext_getElem h fun k h3 h4 => ?_
  have := h2 k h3
  rwa [List.getD_eq_getElem?_getD, List.getD_eq_getElem?_getD, List.getElem?_eq_getElem h3, List.getElem?_eq_getElem h4] at this

/-- No row is longer than a slice may be. -/
def Modest (m : List (List Int)) : Prop := m.length ≤ 1000000 ∧ ∀ k, k < m.length → (m.getD k []).length ≤ 1000000
theorem modest_tab {r c : Nat} (g : Nat → Nat → Int) (hr : r ≤ 1000000) (hc : c ≤ 1000000) : Modest (Mx.tab r c g) :=
  ⟨by rw [Mx.len_tab]; exact hr, fun k hk => by rw [Mx.len_tab] at hk; rw [Mx.tab_len _ _ _ _ hk]; exact hc⟩
theorem modest_nil : Modest [] := ⟨by decide, fun k hk => absurd hk (by simp)⟩

set_option maxRecDepth 100000 in
set_option maxHeartbeats 1600000 in
theorem rows_any (A B : Option Addr) (a b : List (List Int)) (n m c d : Nat) (w : World) (ha : LiesM w A a) (hb : LiesM w B b) (hn : a.length = n) (hm : b.length = m) (ma : Modest a) (mb : Modest b) :
    Calls Try.prog 28 #[.slice A n c, .slice B m d] w fun e w' => Tells (a = b) e ∧ Drew w w' := by
  have HA := Lib.hid ha
  have HB := Lib.hid hb
  have MA := Lib.hid ma
  have MB := Lib.hid mb
  have HN := Lib.hid hn
  have HM := Lib.hid hm
  have hb : n ≤ 1000000 := by rw [← hn]; exact ma.1
  clear ha ma mb hn hm
  by_cases he : n = m
  · subst he
    have hne : ((n : Int) != (n : Int)) = false := by simp
    go_enter Try.func28, Try.ntmps28
    go_wp2_with fail
    go_loopw [5] (fun i wr => ∃ k : Nat, k ≤ n ∧ i = .int .i64 (k : Int) ∧ (∀ j, j < k → a.getD j [] = b.getD j []) ∧ Drew w wr) (fun i _ => n - (intOf i).toNat)
    case atStart => exact ⟨0, Nat.zero_le _, rfl, fun j hj => absurd hj (by omega), Drew.refl _⟩
    case round =>
      obtain ⟨k, hk, rfl, hg, hkp⟩ := hrel
      have HG := Lib.hid hg
      have HK := Lib.hid hkp
      clear hg hkp
      by_cases hlt : k < n
      · obtain ⟨ad, A1, c1, rfl, _, hc, _, l1⟩ := (HA.out.keep HK.out.kp) k (by have := HN.out; omega)
        obtain ⟨bd, B1, d1, rfl, _, hd, _, l2⟩ := (HB.out.keep HK.out.kp) k (by have := HM.out; omega)
        have IN := Lib.hid (fun i => ints_drew A1 B1 _ _ c1 d1 (wr.drewN i) (l1.keep ((Kp.rfl' wr).drewN i)) (l2.keep ((Kp.rfl' wr).drewN i)) (MA.out.2 k (by have := HN.out; omega)) (MB.out.2 k (by have := HM.out; omega)))
        obtain ⟨x, hx⟩ : ∃ x, x = a.getD k [] := ⟨_, rfl⟩
        obtain ⟨y, hy⟩ : ∃ y, y = b.getD k [] := ⟨_, rfl⟩
        rw [← hx, ← hy] at IN
        rw [← hx] at hc
        rw [← hy] at hd
        by_cases hxy : x = y
        · have GG := Lib.hid (show ∀ j, j < k + 1 → a.getD j [] = b.getD j [] from fun j hj => by
            by_cases e : j = k
            · subst e; rw [← hx, ← hy]; exact hxy
            · exact HG.out j (by omega))
          have IY := Lib.hid (fun i => (IN.out i).mono fun e w' ⟨ht, hd⟩ => (⟨tells_yes ht hxy, hd⟩ : e = Ending.returned (.bool true) ∧ Drew (wr.drewN i) w'))
          generalize x.length = p at *
          generalize y.length = q at *
          clear hx hy hxy l1 l2
          go_wp2_with fail
          go_quiet ((first
            | (with_reducible exact quiet_drew (IY.out _))
            | (with_reducible exact quiet_drew_more (IY.out _))))
          go_wp2_with fail
          go_roundw
          case rel => exact ⟨k + 1, by omega, by go_num, GG.out, HK.out.more _⟩
          case measure => simp [intOf]; omega
        · have NF := Lib.hid (show ¬ a = b from fun e => hxy (by rw [hx, hy, e]))
          have IY := Lib.hid (fun i => (IN.out i).mono fun e w' ⟨ht, hd⟩ => (⟨tells_no ht hxy, hd⟩ : e = Ending.returned (.bool false) ∧ Drew (wr.drewN i) w'))
          generalize x.length = p at *
          generalize y.length = q at *
          clear hx hy hxy l1 l2
          go_wp2_with fail
          go_quiet ((first
            | (with_reducible exact quiet_drew (IY.out _))
            | (with_reducible exact quiet_drew_more (IY.out _))))
          go_wp2_with fail
          go_ret
          exact ⟨.inr ⟨NF.out, rfl⟩, HK.out.more _⟩
      · have YES := Lib.hid (show a = b from rows_same a b (by rw [HN.out, HM.out]) fun j hj => HG.out j (by have := HN.out; omega))
        go_wp2_with fail
        go_ret
        exact ⟨.inl ⟨YES.out, rfl⟩, HK.out⟩
  · have hne : ((n : Int) != (m : Int)) = true := by rw [bne_iff_ne]; omega
    have NF := Lib.hid (show ¬ a = b from fun e => he (by rw [← HN.out, ← HM.out, e]))
    clear he
    go_enter Try.func28, Try.ntmps28
    go_wp2_with fail
    go_ret
    exact ⟨.inr ⟨NF.out, rfl⟩, Drew.refl _⟩
theorem rows_eq (A B : Option Addr) (a b : List (List Int)) (n m c d : Nat) (w : World) (ha : LiesM w A a) (hb : LiesM w B b) (hn : a.length = n) (hm : b.length = m) (ma : Modest a) (mb : Modest b) (h : a = b) :
    Calls Try.prog 28 #[.slice A n c, .slice B m d] w fun e w' => e = .returned (.bool true) ∧ Kp w w' :=
  (rows_any A B a b n m c d w ha hb hn hm ma mb).mono fun e w' ⟨ht, hd⟩ => ⟨tells_yes ht h, hd.kp⟩

theorem cell_just (w : World) (cs : Array Value) (e : TypeId) (g k : Nat) (h : g = w.heap.size) : (w.alloc (.cells cs e)).cell? ⟨g, k, none⟩ = cs[k]? := by
  subst h
  exact cell_of_row _ _ k _ e (0, 0) (heap_alloc_new w _)
/-- What came in: the rows up to the capacity, each with its numbers up to its own; its rows are the first of them. -/
theorem liesM_open {w : World} {a : Addr} {len cap : Nat} {A : Nat → Option Addr} {L C : Nat → Nat} {Z : Nat → List Int} (hl : len ≤ cap)
    (h : ∀ r, r < cap → w.cell? (a.add r) = some (.slice (A r) (L r) (C r)) ∧ L r ≤ C r ∧ C r ≤ maxLen ∧ (Z r).length = C r ∧ (∀ n ∈ Z r, (Lit.int .i64 n).wf = true) ∧ (A r = none → C r = 0) ∧
      ∀ a', A r = some a' → 0 ≤ a'.block ∧ ∀ c, c < C r → w.cell? (a'.add c) = some (.int .i64 ((Z r).getD c 0))) :
    ((List.range len).map fun r => (Z r).take (L r)).length = len ∧ LiesM w (some a) ((List.range len).map fun r => (Z r).take (L r)) := by
  refine ⟨by simp, fun k hk => ?_⟩
  have hk' : k < len := by simpa using hk
  obtain ⟨h1, h2, _, h4, _, h6, h7⟩ := h k (by omega)
  have e : ((List.range len).map fun r => (Z r).take (L r)).getD k [] = (Z k).take (L k) := by simp [hk']
  have el : ((Z k).take (L k)).length = L k := by rw [List.length_take]; omega
  rw [e, el]
  refine ⟨a, A k, C k, rfl, ?_, h1, h2, ?_⟩
  · have := cell_lt h1; rwa [block_add] at this
  · cases hA : A k with
    | none =>
      intro j hj
      have := h6 hA
      rw [el] at hj
      omega
    | some a' => exact (lies_take (w := w) (x := a') h2 h4 (fun i hi => (h7 a' hA).2 i (by omega))).2
/-- Two rows of two, and the heads of both, just laid down. -/
def laid22 (w : World) (x : Nat → Nat → Int) : World :=
  ((w.alloc (.cells #[.int .i64 (x 0 0), .int .i64 (x 0 1)] 3)).alloc (.cells #[.int .i64 (x 1 0), .int .i64 (x 1 1)] 3)).alloc (.cells #[.slice (some ⟨w.heap.size, 0, none⟩) 2 2, .slice (some ⟨w.heap.size + 1, 0, none⟩) 2 2] 24)
theorem laid22_kp (w : World) (x : Nat → Nat → Int) : Kp w (laid22 w x) := (((Kp.rfl' w).new _).new _).new _
theorem laid22_size (w : World) (x : Nat → Nat → Int) : (laid22 w x).heap.size = w.heap.size + 3 := by simp [laid22]
theorem laid22_lies (w : World) (x : Nat → Nat → Int) : LiesM (laid22 w x) (some ⟨w.heap.size + 2, 0, none⟩) (Mx.tab 2 2 x) := by
  have h0 : Lies (w.alloc (.cells #[.int .i64 (x 0 0), .int .i64 (x 0 1)] 3)) (some ⟨w.heap.size, 0, none⟩) (Mx.row 2 (x 0)) := lies_new' w _ [x 0 0, x 0 1] _ rfl
  have h1 : Lies ((w.alloc (.cells #[.int .i64 (x 0 0), .int .i64 (x 0 1)] 3)).alloc (.cells #[.int .i64 (x 1 0), .int .i64 (x 1 1)] 3)) (some ⟨w.heap.size + 1, 0, none⟩) (Mx.row 2 (x 1)) :=
    lies_new' (w.alloc _) _ [x 1 0, x 1 1] _ (by simp)
  have k2 := ((Kp.rfl' (w.alloc (.cells #[.int .i64 (x 0 0), .int .i64 (x 0 1)] 3))).new (.cells #[.int .i64 (x 1 0), .int .i64 (x 1 1)] 3)).new (.cells #[.slice (some ⟨w.heap.size, 0, none⟩) 2 2, .slice (some ⟨w.heap.size + 1, 0, none⟩) 2 2] 24)
  have k3 := (Kp.rfl' ((w.alloc (.cells #[.int .i64 (x 0 0), .int .i64 (x 0 1)] 3)).alloc (.cells #[.int .i64 (x 1 0), .int .i64 (x 1 1)] 3))).new (.cells #[.slice (some ⟨w.heap.size, 0, none⟩) 2 2, .slice (some ⟨w.heap.size + 1, 0, none⟩) 2 2] 24)
  have hs : w.heap.size + 2 < (laid22 w x).heap.size := by rw [laid22_size]; omega
  intro k hk
  rw [Mx.len_tab] at hk
  match k, hk with
  | 0, _ => exact ⟨_, some ⟨w.heap.size, 0, none⟩, 2, rfl, hs, by rw [add_at]; unfold laid22; rw [cell_just _ _ _ _ _ (by simp)]; simp [Mx.tab, Mx.row], by simp [Mx.tab, Mx.row], h0.keep k2⟩
  | 1, _ => exact ⟨_, some ⟨w.heap.size + 1, 0, none⟩, 2, rfl, hs, by rw [add_at]; unfold laid22; rw [cell_just _ _ _ _ _ (by simp)]; simp [Mx.tab, Mx.row], by simp [Mx.tab, Mx.row], h1.keep k3⟩

def n22 (a b c d : Int) : Nat → Nat → Int := fun i j => if i = 0 then (if j = 0 then a else b) else (if j = 0 then c else d)
/-- The same with the numbers and the block as they stand in a walk. -/
abbrev lit22 (w : World) (g : Nat) (a b c d : Int) : World :=
  ((w.alloc (.cells #[.int .i64 a, .int .i64 b] 3)).alloc (.cells #[.int .i64 c, .int .i64 d] 3)).alloc (.cells #[.slice (some ⟨g, 0, none⟩) 2 2, .slice (some ⟨g + 1, 0, none⟩) 2 2] 24)
theorem lit22_lies (w : World) (g : Nat) (a b c d : Int) (h : g = w.heap.size) : LiesM (lit22 w g a b c d) (some ⟨g + 1 + 1, 0, none⟩) (Mx.tab 2 2 (n22 a b c d)) := by
  subst h
  exact laid22_lies w (n22 a b c d)
theorem lit22_kp (w : World) (g : Nat) (a b c d : Int) : Kp w (lit22 w g a b c d) := (((Kp.rfl' w).new _).new _).new _
theorem lit22_size (w : World) (g : Nat) (a b c d : Int) : (lit22 w g a b c d).heap.size = w.heap.size + 1 + 1 + 1 := by simp [lit22]

end Go.Proofs.Ytologiinkilooaa

/- Good matrices, as package mat wants them. For all packages on matrices. -/
namespace Go.Proofs.Ytologiinkilooaa
set_option linter.unusedVariables false

def f22 (a b c d : Fp.F) : Nat → Nat → Fp.F := fun i j => if i = 0 then (if j = 0 then a else b) else (if j = 0 then c else d)
/-- A matrix of r rows and c columns, as package mat wants it. -/
structure Sh (r c : Nat) (f : Nat → Nat → Fp.F) (m : List (List Int)) : Prop where
  eq : m = Mx.matl r c f
  r0 : 0 < r
  r5 : r ≤ 5
  c0 : 0 < c
  c5 : c ≤ 5
theorem Sh.len {r c : Nat} {f : Nat → Nat → Fp.F} {m : List (List Int)} (h : Sh r c f m) : m.length = r := by rw [h.eq, Mx.len_matl]
theorem Sh.mat {r c : Nat} {f : Nat → Nat → Fp.F} {m : List (List Int)} (h : Sh r c f m) : Sh r c f (Mx.matl r c f) := ⟨rfl, h.r0, h.r5, h.c0, h.c5⟩
theorem sh_or (m : List (List Int)) : (Mx.mcode 5 0 9972 m = 0 ∧ ∃ r c f, Sh r c f m) ∨ Mx.mcode 5 0 9972 m ≠ 0 := by
  by_cases h : Mx.mcode 5 0 9972 m = 0
  · obtain ⟨r, c, f, e, h1, h2, h3, h4⟩ := Mx.mcode_zero h
    exact .inl ⟨h, r, c, f, ⟨e, h1, h2, h3, h4⟩⟩
  · exact .inr h
theorem Sh.code {r c : Nat} {f : Nat → Nat → Fp.F} {m : List (List Int)} (h : Sh r c f m) : Mx.mcode 5 0 9972 m = 0 := by
  rw [h.eq]; exact Mx.mcode_matl f h.r0 h.r5 h.c0 h.c5

theorem Sh.mul {r q k : Nat} {f f' : Nat → Nat → Fp.F} {a b : List (List Int)} (sa : Sh r q f a) (sb : Sh q k f' b) : Sh r k (Mx.mul q f f') (Mx.matl r k (Mx.mul q f f')) := ⟨rfl, sa.r0, sa.r5, sb.c0, sb.c5⟩
theorem Sh.flip {r q : Nat} {f : Nat → Nat → Fp.F} {a : List (List Int)} (sa : Sh r q f a) : Sh q r (Mx.flip f) (Mx.matl q r (Mx.flip f)) := ⟨rfl, sa.c0, sa.c5, sa.r0, sa.r5⟩
theorem Sh.plus {r q : Nat} {f f' : Nat → Nat → Fp.F} {a : List (List Int)} (sa : Sh r q f a) : Sh r q (Mx.plus f f') (Mx.matl r q (Mx.plus f f')) := ⟨rfl, sa.r0, sa.r5, sa.c0, sa.c5⟩
theorem Sh.pow {r : Nat} {f : Nat → Nat → Fp.F} {a : List (List Int)} (sa : Sh r r f a) (k : Nat) : Sh r r (Mx.pwm r f k) (Mx.matl r r (Mx.pwm r f k)) := ⟨rfl, sa.r0, sa.r5, sa.c0, sa.c5⟩
theorem Sh.one {r q : Nat} {f : Nat → Nat → Fp.F} {a : List (List Int)} (sa : Sh r q f a) : Sh r r Mx.one (Mx.matl r r Mx.one) := ⟨rfl, sa.r0, sa.r5, sa.r0, sa.r5⟩
theorem Sh.modest {r q : Nat} {f : Nat → Nat → Fp.F} {a : List (List Int)} (sa : Sh r q f a) : Modest a := by
  rw [sa.eq]; exact modest_tab _ (Nat.le_trans sa.r5 (by decide)) (Nat.le_trans sa.c5 (by decide))

end Go.Proofs.Ytologiinkilooaa

/- What det says of whatever comes in; its closed fact. -/
namespace Go.Proofs.Ytologiinkilooaa
open Go.ChangeShapes Go.WideShapes Go.ChangeAt Go.RowKit
set_option linter.unusedVariables false

theorem sq_or (m : List (List Int)) {n : Nat} (hn : m.length = n) : (∃ f, Sh n n f m) ∨ qcode 5 0 9972 m ≠ 0 := by
  by_cases h : qcode 5 0 9972 m = 0
  · obtain ⟨h1, h2⟩ := qcode_zero h
    obtain ⟨r, c, f, e, r0, r5, c0, c5⟩ := Mx.mcode_zero h1
    have hr : r = n := by rw [← hn, e, Mx.len_matl]
    have hc : c = n := by
      rw [e, Mx.len_matl] at h2
      rw [← hr, h2]
      exact (Mx.tab_len r c _ 0 r0).symm
    subst hr hc
    exact .inl ⟨f, e, r0, r5, c0, c5⟩
  · exact .inr h
theorem Sh.code2 {n : Nat} {f : Nat → Nat → Fp.F} {m : List (List Int)} (h : Sh n n f m) : qcode 5 0 9972 m = 0 := by
  rw [h.eq]; exact qcode_matl f h.r0 h.r5

theorem Of_or (A : Option Addr) (m : List (List Int)) (n d : Nat) (hn : m.length = n) :
    (∃ f, Sh n n f m) ∨ ∀ (w : World), LiesM w A m → Calls Try.prog 13 #[.slice A n d] w fun e w' => ∃ z : Nat, e = .returned (.tuple #[.int .i64 0, .iface 50 (.int .i64 (z : Int))]) ∧ Kp w w' := by
  rcases sq_or m hn with h | h
  · exact .inl h
  · exact .inr fun w ha => ((Of_bad A m n d w ha hn h).mono fun e w' h' => ⟨qcode 5 0 9972 m, by rw [h'.1, errOf_ne _ h], h'.2⟩)
theorem Of_sh {A : Option Addr} {m : List (List Int)} {n : Nat} {f : Nat → Nat → Fp.F} (s : Sh n n f m) (d : Nat) (w : World) (ha : LiesM w A m) :
    Calls Try.prog 13 #[.slice A n d] w fun e w' => e = .returned (.tuple #[.int .i64 ((Mx.dt n f).val : Int), .nilIface]) ∧ Kp w w' := by
  rw [s.eq] at ha
  exact Of_ok A f n d w ha s.r0 s.r5

def fdet : Nat → Nat → Fp.F := f22 1 2 3 4
theorem fdet_mat : Mx.tab 2 2 (n22 1 2 3 4) = Mx.matl 2 2 fdet := by decide +kernel
theorem fdet_val : ((Mx.dt 2 fdet).val : Int) = 9971 := by decide +kernel
theorem sp_10 : Mx.sp 2 (fun i => [(1 : Int), 0].getD i 0) = -1 := by decide +kernel
theorem sp_11 : Mx.sp 2 (fun i => [(1 : Int), 1].getD i 0) = 0 := by decide +kernel


end Go.Proofs.Ytologiinkilooaa

/- What the laws on package charpoly share: the closed fact, the cases, what a row of factors holds. -/
namespace Go.Proofs.Ytologiinkilooaa
open Go.ChangeShapes Go.WideShapes Go.ChangeAt Go.RowKit
set_option linter.unusedVariables false

theorem minus_mod (d : Fp.F) : (-(d.val : Int)) % 9973 = ((-d : Fp.F).val : Int) := by
  rw [← Fp.ofInt_val]
  congr 2
  have h2 := Fp.ofInt_add (-(d.val : Int)) (d.val : Int)
  rw [Fp.ofInt_self, show -(d.val : Int) + (d.val : Int) = 0 by omega, show Fp.ofInt 0 = 0 from by decide] at h2
  grind
theorem val_mod (d : Fp.F) : (d.val : Int) % 9973 = (d.val : Int) := by have := d.isLt; omega
theorem vals_el {w : World} {A : Option Addr} {p : List Fp.F} (h : Lies w A (Pol.vals p)) {k : Nat} (hk : k < p.length) : ∃ ad, A = some ad ∧ ad.block < w.heap.size ∧ w.cell? (ad.add k) = some (.int .i64 ((Pol.co p k).val : Int)) := by
  obtain ⟨ad, e, hl, hc⟩ := h k (by rw [Pol.len_vals]; exact hk)
  rw [Pol.vals_at] at hc
  exact ⟨ad, e, hl, hc⟩
theorem chl_el {w : World} {A : Option Addr} {n : Nat} {f : Nat → Nat → Fp.F} (h : Lies w A (Pol.vals (Mx.chl n f))) {k : Nat} (hk : k ≤ n) : ∃ ad, A = some ad ∧ ad.block < w.heap.size ∧ w.cell? (ad.add k) = some (.int .i64 ((Mx.ch n f k).val : Int)) := by
  obtain ⟨ad, e, hl, hc⟩ := vals_el h (k := k) (by rw [Mx.len_chl]; omega)
  rw [Mx.co_chl f hk] at hc
  exact ⟨ad, e, hl, hc⟩

/-- A row of factors is the answer. -/
def GivesCh (n : Nat) (f : Nat → Nat → Fp.F) (w : World) (e : Ending) (w' : World) : Prop :=
  ∃ A c, e = .returned (.tuple #[.slice A (n + 1) c, .nilIface]) ∧ Lies w' A (Pol.vals (Mx.chl n f)) ∧ n + 1 ≤ c ∧ Kp w w'

theorem COf_or (A : Option Addr) (m : List (List Int)) (n d : Nat) (hn : m.length = n) :
    (∃ f, Sh n n f m) ∨ ∀ (w : World), LiesM w A m → Calls Try.prog 8 #[.slice A n d] w fun e w' => ∃ z : Nat, e = .returned (.tuple #[.slice none 0 0, .iface 50 (.int .i64 (z : Int))]) ∧ Kp w w' := by
  rcases sq_or m hn with h | h
  · exact .inl h
  · exact .inr fun w ha => ((COf_bad A m n d w ha hn h).mono fun e w' h' => ⟨qcode 5 0 9972 m, by rw [h'.1, errOf_ne _ h], h'.2⟩)
theorem COf_sh {A : Option Addr} {m : List (List Int)} {n : Nat} {f : Nat → Nat → Fp.F} (s : Sh n n f m) (d : Nat) (w : World) (ha : LiesM w A m) :
    Calls Try.prog 8 #[.slice A n d] w fun e w' => GivesCh n f w e w' := by
  rw [s.eq] at ha
  refine (COf_ok A f n d w ha s.r0 s.r5).mono fun e w' h => ?_
  unfold Gives at h
  rw [Mx.len_chl] at h
  exact h
theorem Trace_sh {A : Option Addr} {m : List (List Int)} {n : Nat} {f : Nat → Nat → Fp.F} (s : Sh n n f m) (d : Nat) (w : World) (ha : LiesM w A m) :
    Calls Try.prog 14 #[.slice A n d] w fun e w' => e = .returned (.tuple #[.int .i64 ((Mx.sg n fun i => f i i).val : Int), .nilIface]) ∧ Kp w w' := by
  rw [s.eq] at ha
  exact Trace_ok A f n d w ha s.r0 s.r5
theorem Trace_or (A : Option Addr) (m : List (List Int)) (n d : Nat) (hn : m.length = n) :
    (∃ f, Sh n n f m) ∨ ∀ (w : World), LiesM w A m → Calls Try.prog 14 #[.slice A n d] w fun e w' => ∃ z : Nat, e = .returned (.tuple #[.int .i64 0, .iface 50 (.int .i64 (z : Int))]) ∧ Kp w w' := by
  rcases sq_or m hn with h | h
  · exact .inl h
  · exact .inr fun w ha => ((Trace_bad A m n d w ha hn h).mono fun e w' h' => ⟨qcode 5 0 9972 m, by rw [h'.1, errOf_ne _ h], h'.2⟩)

theorem fch_val : Pol.vals (Mx.chl 2 fdet) = [9971, 9968, 1] := by decide +kernel

set_option maxRecDepth 100000 in
set_option maxHeartbeats 1600000 in
theorem charFact_any (w : World) : Calls Try.prog 7 #[] w fun e w' => e = .returned (.bool true) ∧ Kp w w' := by
  have A1 : LiesM (lit22 w w.heap.size 1 2 3 4) (some ⟨w.heap.size + 1 + 1, 0, none⟩) (Mx.matl 2 2 fdet) := by
    rw [← fdet_mat]; exact lit22_lies w _ 1 2 3 4 rfl
  have O1 := Lib.hid (COf_ok _ fdet 2 2 _ A1 (by decide) (by decide))
  unfold Gives at O1
  rw [fch_val, Mx.len_chl] at O1
  clear A1
  go_enter Try.func7, Try.ntmps7
  go_wp2_with fail
  refine (O1.out).mono ?_; rintro e w1 ⟨Z, cz, rfl, hz, hcz, k1⟩
  have K1 := Lib.hid ((lit22_kp w w.heap.size 1 2 3 4).trans k1)
  have HZ := Lib.hid hz
  clear k1 O1 hz hcz
  go_wp2_with fail
  refine (same_eq Z _ _ _ 3 3 cz 3 _ (HZ.out.keep ((Kp.rfl' w1).new _)) (lies_new w1 3 [9971, 9968, 1]) rfl rfl (by decide) rfl).mono ?_; rintro e w2 ⟨rfl, k2⟩
  have K2 := Lib.hid ((K1.out.new _).trans k2)
  clear k2
  go_wp2_with fail
  go_ret
  exact ⟨rfl, K2.out⟩
end Go.Proofs.Ytologiinkilooaa

/- The body of a range over a function: a region that draws its order and ends in one store; and the iterator 'places' of package mat. -/
namespace Go.Proofs.Ytologiinkilooaa
open Go.ChangeShapes Go.WideShapes Go.ChangeAt Go.RowKit Go.Shelf
set_option linter.unusedVariables false

/-- An operation that goes on, and nothing else. -/
def OnlyOn (Q : Exit → Act → World → Prop) : Exit → Act → World → Prop := fun e a w => e = .normal ∧ Q .normal a w

theorem oper_in {l n : Nat} {P : Program} {o : Oper} {a : Act} {w : World} {K K' : Act → World → Prop} {Q Q' : Exit → Act → World → Prop} (hd : ∀ c, o.op ≠ .defer c)
    (hK : ∀ a w, K a w → K' a w) (h : o.wp P a w K (OnlyOn Q)) : o.wpIn (Fence.wide.inRound l) n P a w K' Q' := by
  unfold Oper.wp at h
  unfold Oper.wpIn
  refine ⟨fun _ _ => trivial, ?_⟩
  rw [Oper.semAt_eq _ _ _ hd]
  generalize (execOp a.eval o).run P w = r at *
  cases r with
  | ok x w' =>
    cases x <;> simp only [Oper.upon, Oper.uponIn] at h ⊢
    case value => exact hK _ _ h
    case skip => exact hK _ _ h
    case defer => exact hK _ _ h
    case enter f args =>
      refine ⟨fun e => (by cases e), CallsIn.inRound l ((callsIn_wide (n := n - 1)).2 (h.mono fun e w2 he => ?_))⟩
      cases e with
      | returned v => exact hK _ _ he
      | panicked c => exact absurd he.1 (by simp)
      | outgrown => obtain ⟨_, _, h', _⟩ := he; cases h'
    case row s args =>
      refine ⟨fun e => (by cases e), fun c cs _ => ?_⟩
      obtain ⟨v, w2, h1, h2⟩ := h c cs
      exact ⟨v, w2, hK _ _ h1, stepsIn_wide.2 h2⟩
  | halt x w' =>
    cases x <;> simp only [Oper.upon, Oper.uponIn] at h ⊢
    exact absurd h.1 (by simp)

def noDefer (ops : List Oper) : Bool := ops.all fun o => match o.op with | .defer _ => false | _ => true
theorem noDefer_at {ops : List Oper} (h : noDefer ops = true) {i : Nat} {o : Oper} (hi : ops.toArray[i]? = some o) : ∀ c, o.op ≠ .defer c := fun c e => by
  have hm : o ∈ ops := by
    have : ops[i]? = some o := by simpa using hi
    exact List.mem_of_getElem? this
  have := List.all_eq_true.1 h o hm
  rw [e] at this
  cases this

theorem any_in {l n : Nat} {P : Program} {md : Region.Mode} {ops : List Oper} {Q : Exit → Act → World → Prop} (hd : noDefer ops = true) :
    ∀ (f : Nat) (listed : Array Bool) (a : Act) (w : World), wpAny P md ops.toArray (OnlyOn Q) f listed a w → wpAnyIn (Fence.wide.inRound l) n P md ops.toArray Q f listed a w
  | 0, _, _, _, h => ⟨h.1, h.2.2⟩
  | f + 1, listed, a, w, h => by
    refine ⟨fun h0 => (h.1 h0).2, fun i hi => ?_⟩
    have h2 := h.2 i hi
    unfold wpOp at h2
    unfold wpOpIn
    split
    · rename_i ho; simp only [ho] at h2; exact any_in hd f _ _ _ h2
    · rename_i o ho
      simp only [ho] at h2
      split
      · rename_i hw
        simp only [hw, if_true] at h2
        rcases h2 with h2 | ⟨_, _, _, h3, _⟩
        · exact oper_in (noDefer_at hd ho) (fun a w => any_in hd f _ a w) h2
        · cases h3
      · rename_i hw
        simp only [hw] at h2
        exact ⟨fun _ _ => trivial, any_in hd f _ _ _ h2⟩

/-- In a round: a region that draws its order and whose first k operations only read, the rest one behind the other. -/
theorem region_tail {l n : Nat} {P : Program} {id : Nat} {Q : Exit → Act → World → Prop} {a : Act} {w : World} {ops : List Oper} (k : Nat) (hm : P.follows .mixedOrders = true) (hd : noDefer ops = true)
    (hB : Region.lexTailB .any ops.toArray k = true) (h : wpStill P ops.toArray w.drew (fun a' => wpList P ops.toArray (OnlyOn Q) (ops.drop k) a' w.drew) (ops.take k) a) :
    (Code.region id ops.toArray true).wpIn (Fence.wide.inRound l) n P Q a w := by
  refine wpIn_region_any hm (any_in hd _ _ _ _ ?_)
  simp only [Region.lexTailB, Bool.and_eq_true, decide_eq_true_eq] at hB
  obtain ⟨⟨⟨⟨b1, b2⟩, b3⟩, b4⟩, b5⟩ := hB
  have hk : k < ops.length := by simpa using b2
  have ht : (ops.take k).length = k := by rw [List.length_take]; omega
  have he : (ops.drop k).length = ops.toArray.size - k := by simp
  have start : HeadInv .any ops.toArray k (Array.replicate ops.toArray.size false) :=
    { size := by simp
      closed := fun j oj _ hl => by rw [getD_replicate_false] at hl; cases hl
      tail := fun t _ hlt => getD_in (by simpa using hlt) (getD_replicate_false _ _) }
  have first := wpAnyL_lex (md := .any) (g := ops.toArray.size - k) b1 b3 b4 b2 (ops.take k) 0 _ a
    (fun j hj => by
      rw [ht] at hj
      simp [hj]) (by rw [ht, Nat.zero_add]) start (by rw [ht]; exact b5) h
  have all := wpAny_of_head (Q' := OnlyOn Q) (g := ops.toArray.size - k)
    (fun listed a' hL => by
      have s := wpAny_of_seq (md := .any) (Q' := OnlyOn Q) (ops.drop k) k listed a' w.drew (fun j => by simp [List.getElem?_drop]) (by rw [he]; exact hL.1) hL.2
      rw [he] at s
      exact s) _ _ _ first
  rw [ht, Nat.add_sub_cancel' (Nat.le_of_lt b2)] at all
  exact all

attribute [local go_sem] Oper.semAt_some

/-- Row and column of place k. -/
def rowOf (r c : Nat) (k : Nat) : Nat := k / c % r
def colOf (c : Nat) (k : Nat) : Nat := k % c
theorem rowOf_lt {r c : Nat} (k : Nat) (h : 0 < r) : rowOf r c k < r := Nat.mod_lt _ h
theorem colOf_lt {c : Nat} (k : Nat) (h : 0 < c) : colOf c k < c := Nat.mod_lt _ h
def placeOf (r c : Nat) (k : Nat) : Array Value := #[.int .i64 ((rowOf r c k : Nat) : Int), .int .i64 ((colOf c k : Nat) : Int)]
theorem placeOf_at {r c i j : Nat} (hi : i < r) (hj : j < c) : placeOf r c (i * c + j) = #[.int .i64 (i : Int), .int .i64 (j : Int)] := by
  have hc : 0 < c := by omega
  have e1 : rowOf r c (i * c + j) = i := by unfold rowOf; rw [Nat.mul_comm, Nat.mul_add_div hc, Nat.div_eq_of_lt hj, Nat.add_zero, Nat.mod_eq_of_lt hi]
  have e2 : colOf c (i * c + j) = j := by unfold colOf; rw [Nat.mul_comm, Nat.mul_add_mod, Nat.mod_eq_of_lt hj]
  unfold placeOf
  rw [e1, e2]

set_option maxHeartbeats 800000 in
theorem places_any (A : Option Addr) (n d : Nat) (w : World) :
    Calls Try.prog 41 #[.slice A n d] w fun e w' => e = .returned (.func (.func 60) #[] #[.pointer (some ⟨w.heap.size, 0, none⟩)]) ∧ w' = w.alloc (.cells #[.slice A n d] 22) := by
  go_enter Try.func41, Try.ntmps41
  go_wp2
  go_ret
  exact ⟨rfl, rfl⟩

set_option maxRecDepth 100000 in
set_option maxHeartbeats 2000000 in
theorem places_in (n : Nat) (hn : 1 ≤ n) (l Bs n₀ g r c : Nat) (G : Nat → Nat) (hr : r ≤ 1000) (hc : c ≤ 1000) (hg : g < n₀) (J Jx : List Nat → World → Prop)
    (hY : ∀ pre x W, J pre W → pre.length < r * c → YieldAt Fence.wide (n - 1) Try.prog l (placeOf r c x) W fun e W' =>
      (e = .returned (.bool true) ∧ J (pre ++ [x]) W' ∧ Below n₀ W W') ∨ (e = .returned (.bool false) ∧ Jx (pre ++ [x]) W'))
    (W : World) (hBs : W.cell? ⟨Bs, 0, none⟩ = some (.slice (some ⟨g, 0, none⟩) r r)) (hcs : ∀ i, i < r → W.cell? ⟨g, i, none⟩ = some (.slice (some ⟨G i, 0, none⟩) c c)) (h0 : J [] W) :
    CallsIn Fence.wide n Try.prog 60 #[.func (.yield l) #[] #[], .pointer (some ⟨Bs, 0, none⟩)] W fun e W' => (∃ v, e = .returned v) ∧
      ((∃ ys, ys = List.range (r * c) ∧ J ys W') ∨ (∃ pre, True ∧ Jx pre W')) := by
  refine callsIn_of_wp Try.func60 rfl trivial ?_ rfl
  simp only [Try.ntmps60, List.size_toArray, List.length_cons, List.length_nil, Nat.reduceAdd, Nat.reduceSub, Array.replicate_succ, Array.replicate_zero, List.push_toArray, List.append_toArray, List.nil_append, List.cons_append]
  gi_wp2
  gi_loopw [8] (fun i wr => ∃ k : Nat, k ≤ r ∧ i = .int .i64 (k : Int) ∧ J (List.range (k * c)) wr ∧ Below n₀ W wr) (fun i _ => r - (intOf i).toNat)
  case atStart => exact ⟨0, Nat.zero_le _, rfl, by rw [Nat.zero_mul]; exact h0, Below.refl _ _⟩
  case round =>
    obtain ⟨k, hk, rfl, hJs, hnx⟩ := hrel
    by_cases hlt : k < r
    · have hcx : wr.cell? ⟨g, k, none⟩ = some (.slice (some ⟨G k, 0, none⟩) c c) := (hnx.cell (p := ⟨g, k, none⟩) hg).trans (hcs k hlt)
      have JS := Lib.hid hJs
      have NX := Lib.hid hnx
      clear hJs hnx
      gi_wp2
      gi_loopw [15] (fun j wq => ∃ m : Nat, m ≤ c ∧ j = .int .i64 (m : Int) ∧ J (List.range (k * c + m)) wq ∧ Below n₀ W wq) (fun j _ => c - (intOf j).toNat)
      case atStart => exact ⟨0, Nat.zero_le _, rfl, JS.out, NX.out⟩
      case round =>
        obtain ⟨m, hm, rfl, hJq, hnq⟩ := hrel
        by_cases hmt : m < c
        · obtain ⟨fn, tmps, assign, body, hy, hR⟩ := hY _ (k * c + m) _ hJq (by rw [List.length_range]; exact Mx.place_lt hlt hmt)
          rw [placeOf_at hlt hmt] at hy
          have NQ := Lib.hid hnq
          have RR := Lib.hid hR
          clear hnq hJq hR
          gi_wp2
          refine (RR.out).mono ?_
          rintro e W3 (⟨rfl, hJ3, hk3⟩ | ⟨rfl, hJx3⟩)
          · gi_wp2
            go_roundw
            case rel => exact ⟨m + 1, by omega, by go_num, by rw [← Nat.add_assoc, List.range_succ]; exact hJ3, NQ.out.trans hk3⟩
            case measure => simp [intOf]; omega
          · gi_wp2
            refine bodyPost_ret (results_none rfl _ _ _) rfl ?_
            exact ⟨⟨_, rfl⟩, .inr ⟨_, trivial, hJx3⟩⟩
        · obtain rfl : m = c := by omega
          have NQ := Lib.hid hnq
          have JQ := Lib.hid hJq
          clear hnq hJq
          gi_wp2
          go_roundw
          case rel => exact ⟨k + 1, by omega, by go_num, by rw [Nat.add_mul, Nat.one_mul]; exact JQ.out, NQ.out⟩
          case measure => simp [intOf]; omega
    · obtain rfl : k = r := by omega
      gi_wp2
      go_end0
      exact ⟨⟨_, rfl⟩, .inl ⟨_, rfl, hJs⟩⟩

theorem places_stops (n : Nat) (hn : 1 ≤ n) (Bs n₀ g r c : Nat) (G : Nat → Nat) (hr : r ≤ 1000) (hc : c ≤ 1000) (hg : g < n₀) (w : World) (hn0 : n₀ ≤ w.heap.size) (hB : Bs < w.heap.size)
    (hBs : w.cell? ⟨Bs, 0, none⟩ = some (.slice (some ⟨g, 0, none⟩) r r)) (hcs : ∀ i, i < r → w.cell? ⟨g, i, none⟩ = some (.slice (some ⟨G i, 0, none⟩) c c)) :
    SeqStopsK Fence.wide n Try.prog 60 #[.pointer (some ⟨Bs, 0, none⟩)] (placeOf r c) (Below n₀) (fun ys => ys = List.range (r * c)) (fun _ => True) (r * c) w := fun l J Jx W hW _ _ hY h0 =>
  places_in n hn l Bs n₀ g r c G hr hc hg J Jx hY W ((hW.cell (p := ⟨Bs, 0, none⟩) hB).trans hBs) (fun i hi => (hW.cell (p := ⟨g, i, none⟩) (by show g < _; omega)).trans (hcs i hi)) h0


end Go.Proofs.Ytologiinkilooaa

/- A matrix just made in a variable, what a loop over all places keeps, and the ends of functions that hold such a loop; the contract of package mat's Turn. -/
namespace Go.Proofs.Ytologiinkilooaa
open Go.ChangeShapes Go.WideShapes Go.ChangeAt Go.RowKit Go.Shelf
set_option linter.unusedVariables false
attribute [local go_sem] Oper.semAt_some

/-- A matrix just made, all of noughts, and the variable that holds it. -/
structure Fresh (w : World) (p : Value) (r c : Nat) (w' : World) : Prop where
  ex : ∃ B g G, p = .pointer (some ⟨B, 0, none⟩) ∧ w'.cell? ⟨B, 0, none⟩ = some (.slice (some ⟨g, 0, none⟩) r r) ∧ Grid w' g G r c (fun _ _ => 0) ∧ w.heap.size ≤ g ∧ w.heap.size ≤ B ∧ Kp w w'

/-- What the call says: an error, or a matrix. -/
def GivesM (m : List (List Int)) (w : World) (e : Ending) (w' : World) : Prop := ∃ A d, e = .returned (.tuple #[.slice A m.length d, .nilIface]) ∧ m.length ≤ d ∧ LiesM w' A m ∧ Kp w w'
def FailsM (c : Nat) (w : World) (e : Ending) (w' : World) : Prop := e = .returned (.tuple #[.slice none 0 0, errOf c]) ∧ Kp w w'

/-- A row of the call's own heads and rows abides what the loop's own book-keeping does. -/
theorem Grid.kept {W W' : World} {row : Option Nat} {g : Nat} {G : Nat → Nat} {r c : Nat} {f : Nat → Nat → Int} (h : Grid W g G r c f) (hg : W.grownBy W' row)
    (hr : ∀ k, row = some k → ∃ o : Obj, W.heap[k]? = some o ∧ o.isCells = false) : Grid W' g G r c f :=
  ⟨(grownBy_keeps_cells hg hr h.head rfl).trans h.head, fun i hi => (grownBy_keeps_cells hg hr (h.row i hi) rfl).trans (h.row i hi), h.after, h.apart⟩
theorem Grid.far {w : World} {g : Nat} {G : Nat → Nat} {r c : Nat} {f : Nat → Nat → Int} (h : Grid w g G r c f) {a : Addr} (h1 : g ≠ a.block) (h2 : ∀ i, i < r → G i ≠ a.block) (u : Value) : Grid (w.setCell a u) g G r c f :=
  ⟨by rw [heap_setCell_other w a g u h1]; exact h.head, fun i hi => (h.row i hi).far (h2 i hi) u, h.after, h.apart⟩
/-- A variable that holds a matrix is no row of one. -/
theorem Grid.ne {w : World} {g : Nat} {G : Nat → Nat} {r c : Nat} {f : Nat → Nat → Int} (h : Grid w g G r c f) (hc : 0 < c) {i : Nat} (hi : i < r) {B : Nat} {A : Option Addr} {n d : Nat}
    (hB : w.cell? ⟨B, 0, none⟩ = some (.slice A n d)) : B ≠ G i := fun e => by
  have := h.el hi hc
  rw [← e, hB] at this
  cases this

theorem fresh_a {w1 w2 : World} {g : Nat} {G : Nat → Nat} {r c : Nat} (hg : Grid w2 g G r c (fun _ _ => 0)) (hk : Kp w1 w2) (hle : w1.heap.size ≤ g) :
    Fresh w1 (.pointer (some ⟨w2.heap.size, 0, none⟩)) r c (w2.alloc (.cells #[.slice (some ⟨g, 0, none⟩) r r] 22)) :=
  ⟨w2.heap.size, g, G, rfl, by simp, hg.new _, hle, hk.size, hk.new _⟩
theorem fresh_b {w1 w2 : World} {G : Nat → Nat} {r c : Nat} (hg : Grid w2 (w1.heap.size + 1) G r c (fun _ _ => 0)) (hk : Kp w1 w2) (hb : w2.cell? ⟨w1.heap.size, 0, none⟩ = some (.slice none 0 0)) :
    Fresh w1 (.pointer (some ⟨w1.heap.size, 0, none⟩)) r c (w2.setCell ⟨w1.heap.size, 0, none⟩ (.slice (some ⟨w1.heap.size + 1, 0, none⟩) r r)) :=
  ⟨w1.heap.size, w1.heap.size + 1, G, rfl, World.cell?_setCell_same' _ _ _ (by rw [hb]; rfl), hg.far (by show w1.heap.size + 1 ≠ w1.heap.size; omega) (fun i hi => by show G i ≠ w1.heap.size; have := hg.after i hi; omega) _,
    by omega, Nat.le_refl _, hk.put (Nat.le_refl _) _⟩

theorem zero_box (r c : Nat) (w : World) (hr : r ≤ 1000) (hc : c ≤ 1000) :
    Calls Try.prog 40 #[.int .i64 (r : Int), .int .i64 (c : Int)] (w.alloc (.cells #[.slice none 0 0] 22)).drew fun e w' =>
      ∃ G, e = .returned (.slice (some ⟨w.heap.size + 1, 0, none⟩) r r) ∧ Grid w' (w.heap.size + 1) G r c (fun _ _ => 0) ∧ Kp (w.alloc (.cells #[.slice none 0 0] 22)).drew w' ∧
        w'.cell? ⟨w.heap.size, 0, none⟩ = some (.slice none 0 0) ∧ w'.frozen? ⟨w.heap.size, 0, none⟩ = false :=
  (zero_any r c _ hr hc).mono fun e w2 ⟨G, he, hg, hk⟩ => by
    have hsz : (w.alloc (.cells #[.slice none 0 0] 22)).drew.heap.size = w.heap.size + 1 := by simp [World.drew]
    have hlt : w.heap.size < (w.alloc (.cells #[.slice none 0 0] 22)).drew.heap.size := by rw [hsz]; exact Nat.lt_succ_self _
    rw [hsz] at he hg
    refine ⟨G, he, hg, hk, (hk.cell (p := ⟨w.heap.size, 0, none⟩) hlt).trans ?_, (hk.frozen (p := ⟨w.heap.size, 0, none⟩) hlt).trans ?_⟩
    · simp
    · simp

set_option maxRecDepth 100000 in
set_option maxHeartbeats 1600000 in
theorem Turn_ok (A : Option Addr) (f : Nat → Nat → Fp.F) (r c d : Nat) (w : World) (ha : LiesM w A (Mx.matl r c f)) (hr0 : 0 < r) (hr : r ≤ 5) (hc0 : 0 < c) (hc : c ≤ 5) :
    Calls Try.prog 15 #[.slice A r d] w fun e w' => GivesM (Mx.matl c r (Mx.flip f)) w e w' := by
  have CH := Lib.hid (fun w' (h : Kp w w') => Check_any A (Mx.matl r c f) r d w' (ha.keep h) (Mx.len_matl r c f))
  rw [Mx.mcode_matl f hr0 hr hc0 hc] at CH
  obtain ⟨ad, A0, d0, rfl, hlt0, hc00, _, hr00⟩ := ha.row hr0
  rw [add_zero'] at hc00
  have HA := Lib.hid ha
  clear ha hr00
  refine callsIn_wide.1 (callsIn_of_wp_marks (F := Fence.wide) (n := 9) Try.func15 rfl trivial ?_ rfl)
  simp only [Try.ntmps15, List.size_toArray, List.length_cons, List.length_nil, Nat.reduceAdd, Nat.reduceSub, Array.replicate_succ, Array.replicate_zero, List.push_toArray, List.append_toArray, List.nil_append, List.cons_append]
  refine wpIn_wide.2 ?_
  go_wp2_with fail
  obtain ⟨w1, hw1⟩ : ∃ x, x = w.alloc (.cells #[.slice (some ad) r d] 22) := ⟨_, rfl⟩
  have k1 : Kp w w1 := by rw [hw1]; exact (Kp.rfl' w).new _
  have b1 : w1.cell? ⟨w.heap.size, 0, none⟩ = some (.slice (some ad) r d) := by rw [hw1]; simp
  rw [← hw1]
  have s1 : w.heap.size < w1.heap.size := by rw [hw1]; simp
  clear hw1
  refine (CH.out w1 k1).mono ?_; rintro e w' ⟨rfl, rfl⟩
  rw [errOf_zero]
  have ZE := Lib.hid (fun w' => zero_any c r w' (by omega) (by omega))
  have SK := Lib.hid (fun (w' : World) (h : Kp w1 w') => (show w'.cell? ⟨w.heap.size, 0, none⟩ = some (.slice (some ad) r d) ∧ w'.cell? ad = some (.slice A0 c d0) ∧ Kp w1 w' from
    ⟨(h.cell (p := ⟨w.heap.size, 0, none⟩) s1).trans b1, (h.cell (p := ad) (by omega)).trans ((k1.cell (p := ad) hlt0).trans hc00), h⟩))
  have kd : Kp w1 w1.drew := (Kp.rfl' w1).drewN 1
  have ZA := Lib.hid (zero_any c r w1.drew (by omega) (by omega))
  have ZB := Lib.hid (zero_box c r w1 (by omega) (by omega))
  have kb := ((Kp.rfl' w1).new (.cells #[.slice none 0 0] 22)).drewN 1
  go_upto_region 4 with (fail)
  go_cut [5] from 5 to 19 (fun p wc => Fresh w1 p c r wc)
  case first =>
    go_region_held3 (fun w' => w'.cell? ⟨w.heap.size, 0, none⟩ = some (.slice (some ad) r d) ∧ w'.cell? ad = some (.slice A0 c d0) ∧ Kp w1 w')
      (first
      | exact SK.out _ (Kp.rfl' _)
      | exact SK.out _ kd
      | exact SK.out _ (kd.trans k2)
      | exact SK.out _ ((kd.trans k2).new _)
      | exact SK.out _ kb
      | exact SK.out _ (kb.trans k2)
      | exact SK.out _ ((kb.trans k2).put (Nat.le_refl _) _))
      ((first
      | (go_at_call 40; (with_reducible refine (ZA.out).mono ?_); rintro e w2 ⟨G, rfl, gr, k2⟩)
      | (go_at_call 40; (with_reducible refine (ZB.out).mono ?_); rintro e w2 ⟨G, rfl, gr, k2, y1, y2⟩)))
    all_goals
      go_wp2_with fail
      go_meet
      case rel => first | exact fresh_a gr (kd.trans k2) (Nat.le_refl _) | exact fresh_b gr (kb.trans k2) y1
  case rest =>
    obtain ⟨B, g, G, rfl, hb, hgr, hg, hB, hk⟩ := hcut.ex
    have hb1 := (SK.out wc hk).1
    have GR := Lib.hid hgr
    have HK := Lib.hid hk
    clear hcut hgr hk ZA ZB SK
    go_wp2_with fail
    refine (places_any (some ⟨g, 0, none⟩) c c wc).mono ?_; rintro e w3 ⟨rfl, rfl⟩
    go_wp2_with fail
    have sB : B < wc.heap.size := cell_lt hb
    have sg := GR.out.lt
    have sw := k1.size
    obtain ⟨w4, hw4⟩ : ∃ x, x = wc.alloc (.cells #[.slice (some ⟨g, 0, none⟩) c c] 22) := ⟨_, rfl⟩
    rw [← hw4]
    have kc : Kp wc w4 := by rw [hw4]; exact (Kp.rfl' wc).new _
    have s4 : w4.heap.size = wc.heap.size + 1 := by rw [hw4]; simp
    have c4 : w4.cell? ⟨wc.heap.size, 0, none⟩ = some (.slice (some ⟨g, 0, none⟩) c c) := by rw [hw4]; simp
    have kw := (k1.trans HK.out).trans kc
    have gr4 := GR.out.keep kc
    have hb4 := (kc.cell (p := ⟨B, 0, none⟩) sB).trans hb
    have hm4 := (kc.cell (p := ⟨w.heap.size, 0, none⟩) (by show w.heap.size < _; omega)).trans hb1
    clear hw4
    refine (wpIn_wide (n := 9)).1 (wpIn_rangeFunc_ownF (F := Fence.wide) rfl (Nat.le_add_left 1 8) (gf := 60) (lb := #[.pointer (some ⟨wc.heap.size, 0, none⟩)]) rfl trivial (enters_of Try.func60 (by kernel_rfl) rfl)
      (places_stops 8 (Nat.le_add_left 1 7) wc.heap.size (g + 1) g c r G (Nat.le_trans hc (by decide)) (Nat.le_trans hr (by decide)) (Nat.lt_succ_self g) w4 (by omega) (by omega) c4 (fun i hi => gr4.cell hi))
      belowK_t (belowK_b (by omega)) (Below.refl _ _) (fun _ => rfl)
      (fun pre W => (W.cell? ⟨B, 0, none⟩ = some (.slice (some ⟨g, 0, none⟩) c c) ∧ W.cell? ⟨w.heap.size, 0, none⟩ = some (.slice (some ad) r d) ∧ Grid W g G c r (fun a b => ((Mx.setl c r (Mx.flip f) pre a b).val : Int))) ∧ Below w.heap.size w W)
      (fun _ _ _ => False)
      (OwnFrom.and (Go.Own.from (fun s W1 W2 row hs hg hr => ⟨cell_kept hs.1 hg hr, cell_kept hs.2.1 hg hr, hs.2.2.kept hg hr⟩) _) (ownFrom_below (Nat.le_refl _) (by omega)))
      (fun _ _ _ _ _ hs _ _ => hs)
      ⟨⟨hb4, hm4, gr4.ext (fun a b _ _ => rfl)⟩, kw⟩
      ?a1 ?assign ?body ?done ?stop)
    case assign =>
      intro l x W K hK
      unfold placeOf
      gi_wp2
      exact hK
    case body =>
      rintro l pre x W ⟨⟨q1, q2, q3⟩, q4⟩ _
      have hst := fun a b => Mx.setl_snoc c r (Mx.flip f) pre x a b
      change ∀ a b, _ = if a = rowOf c r x ∧ b = colOf r x then _ else _ at hst
      have hi := rowOf_lt (c := r) x hc0
      have hj := colOf_lt x hr0
      generalize rowOf c r x = i at *
      generalize colOf r x = j at *
      have x1 := q3.cell hi
      have x2 := q3.el hi hj
      have x3 := q3.free hi j
      obtain ⟨ad', A1, d1, ea, _, x4, _, l1⟩ := (HA.out.keep q4).row hj
      obtain rfl := Option.some.inj ea
      obtain ⟨ad1, rfl, _, x5⟩ := l1.el hi
      have Q1 := Lib.hid q1
      have Q3 := Lib.hid q3
      have Q4 := Lib.hid q4
      have HST := Lib.hid hst
      clear q3 q4 hst l1
      refine wpIn_block ?_
      refine region_tail 13 (by kernel_rfl) (by kernel_rfl) (by kernel_rfl) ?_
      simp only [List.take_succ_cons, List.take_zero, List.drop_succ_cons, List.drop_zero]
      repeat still_step
      refine wpStill_nil ?_
      go_wp2_with fail
      refine ⟨rfl, ?_⟩
      have ha := Q3.out.after i hi
      have hn := Q3.out.ne hr0 hi Q1.out
      have hm := Q3.out.ne hr0 hi q2
      have hp : w.heap.size ≤ G i := by omega
      refine ⟨(KeepsOthers.setCell _ _ _).trans (KeepsOthers.drew _), ((Below.refl (g + 1) W).setCell (p := ⟨G i, j, none⟩) (by show g + 1 ≤ G i; omega) _).drew, ⟨?_, ?_, ?_⟩, ((Q4.out).setCell (p := ⟨G i, j, none⟩) hp _).drew⟩
      · exact (World.cell?_setCell_far W ⟨G i, j, none⟩ ⟨B, 0, none⟩ _ (fun e => hn e.symm)).trans Q1.out
      · exact (World.cell?_setCell_far W ⟨G i, j, none⟩ ⟨w.heap.size, 0, none⟩ _ (fun e => hm e.symm)).trans q2
      · refine ((Q3.out.put hi j _).keep ((Kp.rfl' _).drewN 1)).ext fun a b _ _ => ?_
        rw [HST.out a b]
        by_cases e : a = i ∧ b = j
        · rw [if_pos e, if_pos e, e.1, e.2]; rfl
        · rw [if_neg e, if_neg e]
    case done =>
      rintro D ys W hD rfl ⟨⟨q1, q2, q3⟩, q4⟩ hK
      have Q3 := Lib.hid q3
      have Q4 := Lib.hid q4
      clear q3 q4
      go_wp2_with fail
      refine ⟨by simp, .inl ⟨_, _, rfl, run_takeDeferred hK, ?_⟩⟩
      refine ⟨.tuple #[.slice (some ⟨g, 0, none⟩) c c, .nilIface], by simp [results, Try.results15, go_sem], ?_⟩
      have hg2 := Q3.out.kept (grownBy_putObj' W D (.deferred none)) (fun r e => by cases e; exact ⟨_, hK, rfl⟩)
      have hl2 := hg2.lies
      refine ⟨some ⟨g, 0, none⟩, c, ?_, ?_, ?_, Q4.out.trans (belowK_b (w := w) (Nat.le_refl _) W D _ _ (by have := kw.size; omega) hK rfl rfl)⟩
      · rw [Mx.len_matl]
      · rw [Mx.len_matl]; exact Nat.le_refl _
      · rw [← (Mx.setl_all c r (Mx.flip f)).mat]; exact hl2
    case stop =>
      rintro D c pre W _ _ h _
      exact h.elim

end Go.Proofs.Ytologiinkilooaa

/- Contract of package mat's Add. -/
namespace Go.Proofs.Ytologiinkilooaa
open Go.ChangeShapes Go.WideShapes Go.ChangeAt Go.RowKit Go.Shelf
set_option linter.unusedVariables false
attribute [local go_sem] Oper.semAt_some

theorem fval (a : Fp.F) : 0 ≤ (a.val : Int) ∧ (a.val : Int) ≤ 9972 := by have := a.isLt; omega
theorem sum_mod (a b : Fp.F) : ((a.val : Int) + (b.val : Int)).tmod 9973 = ((a + b).val : Int) := by
  rw [Int.tmod_eq_emod_of_nonneg (by have := fval a; have := fval b; omega), Mx.val_plus]


end Go.Proofs.Ytologiinkilooaa

/- Contract of package mat's multiply. -/
namespace Go.Proofs.Ytologiinkilooaa
open Go.ChangeShapes Go.WideShapes Go.ChangeAt Go.RowKit Go.Shelf
set_option linter.unusedVariables false
attribute [local go_sem] Oper.semAt_some

theorem mmore_mod (s a b : Fp.F) : ((s.val : Int) + (a.val : Int) * (b.val : Int)).tmod 9973 = ((s + a * b).val : Int) := by
  have h : 0 ≤ (a.val : Int) * (b.val : Int) := Int.mul_nonneg (fval a).1 (fval b).1
  rw [Int.tmod_eq_emod_of_nonneg (by have := fval s; omega), Mx.val_more]
theorem more_bound (s a b : Fp.F) : 0 ≤ (a.val : Int) * (b.val : Int) ∧ (a.val : Int) * (b.val : Int) ≤ 99440784 := by
  have h1 := fval a
  have h2 := fval b
  exact ⟨Int.mul_nonneg h1.1 h2.1, Int.mul_le_mul h1.2 h2.2 h2.1 (by decide)⟩
theorem zero_val : ((0 : Fp.F).val : Int) = 0 := rfl
theorem plus_zero (a : Fp.F) : a + 0 = a := by grind

set_option maxRecDepth 100000 in
set_option maxHeartbeats 3200000 in
theorem multiply_grid (A A' : Option Addr) (f f' : Nat → Nat → Fp.F) (r q c d d' : Nat) (w : World) (ha : LiesM w A (Mx.matl r q f)) (ha' : LiesM w A' (Mx.matl q c f')) (hr0 : 0 < r) (hr : r ≤ 5) (hq0 : 0 < q) (hq : q ≤ 5) (hc0 : 0 < c) (hc : c ≤ 5) :
    Calls Try.prog 35 #[.slice A r d, .slice A' q d'] w fun e w' => ∃ g G, e = .returned (.slice (some ⟨g, 0, none⟩) r r) ∧ Grid w' g G r c (fun a b => ((Mx.mul q f f' a b).val : Int)) ∧ w.heap.size ≤ g ∧ Kp w w' := by
  obtain ⟨ad, A0, d0, rfl, hlt0, hc00, _, hr00⟩ := ha.row hr0
  obtain ⟨bd, B0, e0, rfl, hlt1, hc01, _, hr01⟩ := ha'.row hq0
  rw [add_zero'] at hc00 hc01
  have HA := Lib.hid ha
  have HA' := Lib.hid ha'
  clear ha ha' hr00 hr01
  refine callsIn_wide.1 (callsIn_of_wp_marks (F := Fence.wide) (n := 9) Try.func35 rfl trivial ?_ rfl)
  simp only [Try.ntmps35, List.size_toArray, List.length_cons, List.length_nil, Nat.reduceAdd, Nat.reduceSub, Array.replicate_succ, Array.replicate_zero, List.push_toArray, List.append_toArray, List.nil_append, List.cons_append]
  refine wpIn_wide.2 ?_
  go_wp2_with fail
  obtain ⟨w2, hw1⟩ : ∃ x, x = (w.alloc (.cells #[.slice (some ad) r d] 22)).alloc (.cells #[.slice (some bd) q d'] 22) := ⟨_, rfl⟩
  have k1 : Kp w w2 := by rw [hw1]; exact ((Kp.rfl' w).new _).new _
  have b1 : w2.cell? ⟨w.heap.size, 0, none⟩ = some (.slice (some ad) r d) := by rw [hw1]; simp
  have b2 : w2.cell? ⟨w.heap.size + 1, 0, none⟩ = some (.slice (some bd) q d') := by rw [hw1]; simp
  rw [← hw1]
  have s1 : w.heap.size + 1 < w2.heap.size := by rw [hw1]; simp
  clear hw1
  have c2 := (k1.cell (p := bd) hlt1).trans hc01
  have kd : Kp w2 w2.drew := (Kp.rfl' w2).drewN 1
  have ZA := Lib.hid (zero_any r c w2.drew (by omega) (by omega))
  have ZB := Lib.hid (zero_box r c w2 (by omega) (by omega))
  have kb := ((Kp.rfl' w2).new (.cells #[.slice none 0 0] 22)).drewN 1
  have SK := Lib.hid (fun (w' : World) (h : Kp w2 w') => (show w'.cell? ⟨w.heap.size, 0, none⟩ = some (.slice (some ad) r d) ∧ w'.cell? ⟨w.heap.size + 1, 0, none⟩ = some (.slice (some bd) q d') ∧ w'.cell? bd = some (.slice B0 c e0) ∧ Kp w2 w' from
    ⟨(h.cell (p := ⟨w.heap.size, 0, none⟩) (by show w.heap.size < _; omega)).trans b1, (h.cell (p := ⟨w.heap.size + 1, 0, none⟩) s1).trans b2, (h.cell (p := bd) (by omega)).trans c2, h⟩))
  go_upto_region 1 with (fail)
  go_cut [5] from 5 to 16 (fun p wc => Fresh w2 p r c wc)
  case first =>
    go_region_held3 (fun w' => w'.cell? ⟨w.heap.size, 0, none⟩ = some (.slice (some ad) r d) ∧ w'.cell? ⟨w.heap.size + 1, 0, none⟩ = some (.slice (some bd) q d') ∧ w'.cell? bd = some (.slice B0 c e0) ∧ Kp w2 w')
      (first
      | exact SK.out _ (Kp.rfl' _)
      | exact SK.out _ kd
      | exact SK.out _ (kd.trans k2)
      | exact SK.out _ ((kd.trans k2).new _)
      | exact SK.out _ kb
      | exact SK.out _ (kb.trans k2)
      | exact SK.out _ ((kb.trans k2).put (Nat.le_refl _) _))
      ((first
      | (go_at_call 40; (with_reducible refine (ZA.out).mono ?_); rintro e w2 ⟨G, rfl, gr, k2⟩)
      | (go_at_call 40; (with_reducible refine (ZB.out).mono ?_); rintro e w2 ⟨G, rfl, gr, k2, y1, y2⟩)))
    all_goals
      go_wp2_with fail
      go_meet
      case rel => first | exact fresh_a gr (kd.trans k2) (Nat.le_refl _) | exact fresh_b gr (kb.trans k2) y1
  case rest =>
    obtain ⟨B, g, G, rfl, hb, hgr, hg, hB, hk⟩ := hcut.ex
    have hb1 := (SK.out wc hk).1
    have hb2 := (SK.out wc hk).2.1
    have GR := Lib.hid hgr
    have HK := Lib.hid hk
    clear hcut hgr hk ZA ZB SK c2 b1 b2
    go_wp2_with fail
    refine (places_any (some ⟨g, 0, none⟩) r r wc).mono ?_; rintro e w3 ⟨rfl, rfl⟩
    go_wp2_with fail
    have sB : B < wc.heap.size := cell_lt hb
    have sg := GR.out.lt
    have sw := k1.size
    have sc := HK.out.size
    obtain ⟨w4, hw4⟩ : ∃ x, x = wc.alloc (.cells #[.slice (some ⟨g, 0, none⟩) r r] 22) := ⟨_, rfl⟩
    rw [← hw4]
    have kc : Kp wc w4 := by rw [hw4]; exact (Kp.rfl' wc).new _
    have s4 : w4.heap.size = wc.heap.size + 1 := by rw [hw4]; simp
    have c4 : w4.cell? ⟨wc.heap.size, 0, none⟩ = some (.slice (some ⟨g, 0, none⟩) r r) := by rw [hw4]; simp
    have kw := (k1.trans HK.out).trans kc
    have gr4 := GR.out.keep kc
    have hb4 := (kc.cell (p := ⟨B, 0, none⟩) sB).trans hb
    have hm4 := (kc.cell (p := ⟨w.heap.size, 0, none⟩) (by show w.heap.size < _; omega)).trans hb1
    have hm5 := (kc.cell (p := ⟨w.heap.size + 1, 0, none⟩) (by show w.heap.size + 1 < _; omega)).trans hb2
    clear hw4
    refine (wpIn_wide (n := 9)).1 (wpIn_rangeFunc_ownF (F := Fence.wide) rfl (Nat.le_add_left 1 8) (gf := 60) (lb := #[.pointer (some ⟨wc.heap.size, 0, none⟩)]) rfl trivial (enters_of Try.func60 (by kernel_rfl) rfl)
      (places_stops 8 (Nat.le_add_left 1 7) wc.heap.size (g + 1) g r c G (Nat.le_trans hr (by decide)) (Nat.le_trans hc (by decide)) (Nat.lt_succ_self g) w4 (by omega) (by omega) c4 (fun i hi => gr4.cell hi))
      belowK_t (belowK_b (by omega)) (Below.refl _ _) (fun _ => rfl)
      (fun pre W => (W.cell? ⟨B, 0, none⟩ = some (.slice (some ⟨g, 0, none⟩) r r) ∧ W.cell? ⟨w.heap.size, 0, none⟩ = some (.slice (some ad) r d) ∧ W.cell? ⟨w.heap.size + 1, 0, none⟩ = some (.slice (some bd) q d') ∧ Grid W g G r c (fun a b => ((Mx.acc r c (Mx.mul q f f') pre a b).val : Int))) ∧ Below w.heap.size w W)
      (fun _ _ _ => False)
      (OwnFrom.and (Go.Own.from (fun s W1 W2 row hs hg hr => ⟨cell_kept hs.1 hg hr, cell_kept hs.2.1 hg hr, cell_kept hs.2.2.1 hg hr, hs.2.2.2.kept hg hr⟩) _) (ownFrom_below (Nat.le_refl _) (by omega)))
      (fun _ _ _ _ _ hs _ _ => hs)
      ⟨⟨hb4, hm4, hm5, gr4.ext (fun a b _ _ => rfl)⟩, kw⟩
      ?a1 ?assign ?body ?done ?stop)
    case assign =>
      intro l x W K hK
      unfold placeOf
      gi_wp2
      exact hK
    case body =>
      rintro l pre x W ⟨⟨q1, q2, q5, q3⟩, q4⟩ _
      have hst := fun a b => Mx.acc_snoc r c (Mx.mul q f f') pre x a b
      change ∀ a b, _ = _ + if a = rowOf r c x ∧ b = colOf c x then _ else _ at hst
      have hi := rowOf_lt (c := c) x hr0
      have hj := colOf_lt x hc0
      generalize rowOf r c x = i at *
      generalize colOf c x = j at *
      have hbg : ∀ a, a < r → g < G a := q3.after
      have hn : B ≠ G i := q3.ne hc0 hi q1
      have hm : w.heap.size ≠ G i := q3.ne hc0 hi q2
      have hm' : w.heap.size + 1 ≠ G i := q3.ne hc0 hi q5
      have hp : w.heap.size ≤ G i := by have := hbg i hi; omega
      obtain ⟨ad', A1, d1, ea, had, x4w, _, l1⟩ := HA.out.row hi
      obtain rfl := Option.some.inj ea
      have x4 := (q4.cell (p := ad.add i) (by rw [block_add]; exact had)).trans x4w
      obtain ⟨ad1, rfl, had1, _⟩ := l1.el hq0
      have L1 := Lib.hid l1
      have Q3 := Lib.hid q3
      have Q4 := Lib.hid q4
      have HST := Lib.hid hst
      have HBG := Lib.hid hbg
      clear q3 q4 hst l1 hbg
      refine wpIn_block ?_
      gi_wp2
      gi_loopw [26] (fun u wr => ∃ k : Nat, k ≤ q ∧ u = .int .i64 (k : Int) ∧ wr.cell? ⟨B, 0, none⟩ = some (.slice (some ⟨g, 0, none⟩) r r) ∧ wr.cell? ⟨w.heap.size, 0, none⟩ = some (.slice (some ad) r d) ∧ wr.cell? ⟨w.heap.size + 1, 0, none⟩ = some (.slice (some bd) q d') ∧
        Grid wr g G r c (fun a b => ((Mx.acc r c (Mx.mul q f f') pre a b + if a = i ∧ b = j then Mx.sg k (fun x => f i x * f' x j) else 0).val : Int)) ∧ KeepsOthers W wr ∧ Below (g + 1) W wr ∧ Below w.heap.size w wr) (fun u _ => q - (intOf u).toNat)
      case atStart =>
        refine ⟨0, Nat.zero_le _, rfl, q1, q2, q5, Q3.out.ext (fun a b _ _ => ?_), KeepsOthers.refl _, Below.refl _ _, Q4.out⟩
        rw [Mx.sg_zero, ite_self, plus_zero]
      case round =>
        obtain ⟨k, hk, rfl, y1, y2, y5, y3, y6, y7, y8⟩ := hrel
        by_cases hlt : k < q
        · obtain ⟨ad1', e1, _, x5⟩ := (L1.out.keep y8).el hlt
          obtain rfl := Option.some.inj e1
          obtain ⟨bd', B1, d2, eb, _, x6, _, l2⟩ := (HA'.out.keep y8).row hlt
          obtain rfl := Option.some.inj eb
          obtain ⟨bd1, rfl, _, x7⟩ := l2.el hj
          have z1 := y3.cell hi
          have z2 := y3.el hi hj
          have z3 := y3.free hi j
          rw [if_pos ⟨rfl, rfl⟩] at z2
          obtain ⟨s, hs⟩ : ∃ s, s = Mx.acc r c (Mx.mul q f f') pre i j + Mx.sg k (fun x => f i x * f' x j) := ⟨_, rfl⟩
          rw [← hs] at z2
          have hmod := mmore_mod s (f i k) (f' k j)
          have v0 := fval s
          have v3 := more_bound s (f i k) (f' k j)
          obtain ⟨z, hz⟩ : ∃ z, z = ((s + f i k * f' k j).val : Int) := ⟨_, rfl⟩
          rw [← hz] at hmod
          have HZ := Lib.hid hz
          have HS := Lib.hid hs
          generalize (s.val : Int) = u0 at *
          generalize ((f i k).val : Int) = u at *
          generalize ((f' k j).val : Int) = v at *
          have hwm : IntKind.i64.wrap (u * v) = u * v := IntWalk.i64_in _ (by omega)
          have hwa : IntKind.i64.wrap (u0 + u * v) = u0 + u * v := IntWalk.i64_in _ (by omega)
          have Y1 := Lib.hid y1
          have Y3 := Lib.hid y3
          have Y6 := Lib.hid y6
          have Y7 := Lib.hid y7
          have Y8 := Lib.hid y8
          clear y3 y6 y7 y8 hz hs l2 v0 v3
          gi_wp2
          refine region_tail 24 (by kernel_rfl) (by kernel_rfl) (by kernel_rfl) ?_
          simp only [List.take_succ_cons, List.take_zero, List.drop_succ_cons, List.drop_zero]
          repeat still_step
          refine wpStill_nil ?_
          go_wp2_with fail
          refine ⟨rfl, ?_⟩
          gi_wp2
          go_roundw
          case rel =>
            refine ⟨k + 1, by omega, by go_num, ?_, ?_, ?_, ?_, Y6.out.trans ((KeepsOthers.setCell _ _ _).trans (KeepsOthers.drew _)), (Y7.out.setCell (p := ⟨G i, j, none⟩) (by show g + 1 ≤ G i; have := HBG.out i hi; omega) _).drew, ((Y8.out).setCell (p := ⟨G i, j, none⟩) hp _).drew⟩
            · exact (World.cell?_setCell_far wr ⟨G i, j, none⟩ ⟨B, 0, none⟩ _ (fun e => hn e.symm)).trans Y1.out
            · exact (World.cell?_setCell_far wr ⟨G i, j, none⟩ ⟨w.heap.size, 0, none⟩ _ (fun e => hm e.symm)).trans y2
            · exact (World.cell?_setCell_far wr ⟨G i, j, none⟩ ⟨w.heap.size + 1, 0, none⟩ _ (fun e => hm' e.symm)).trans y5
            · refine ((Y3.out.put hi j _).keep ((Kp.rfl' _).drewN 1)).ext fun a b _ _ => ?_
              by_cases e : a = i ∧ b = j
              · rw [if_pos e, if_pos e, HZ.out, e.1, e.2, HS.out, Mx.sg_succ]; congr 2; grind
              · rw [if_neg e, if_neg e, if_neg e]
          case measure => simp [intOf]; omega
        · obtain rfl : k = q := by omega
          have Y1 := Lib.hid y1
          have Y3 := Lib.hid y3
          have Y6 := Lib.hid y6
          have Y7 := Lib.hid y7
          have Y8 := Lib.hid y8
          clear y1 y3 y6 y7 y8
          gi_wp2
          refine ⟨Y6.out, Y7.out, ⟨Y1.out, y2, y5, Y3.out.ext (fun a b _ _ => ?_)⟩, Y8.out⟩
          rw [HST.out a b]
          by_cases e : a = i ∧ b = j
          · rw [if_pos e, if_pos e, e.1, e.2]; rfl
          · rw [if_neg e, if_neg e]
    case done =>
      rintro D ys W hD rfl ⟨⟨q1, q2, q5, q3⟩, q4⟩ hK
      have Q3 := Lib.hid q3
      have Q4 := Lib.hid q4
      clear q3 q4
      go_wp2_with fail
      refine ⟨by simp, .inl ⟨_, _, rfl, run_takeDeferred hK, ?_⟩⟩
      refine ⟨.slice (some ⟨g, 0, none⟩) r r, by simp [results, Try.results35, go_sem], ?_⟩
      have hg2 := Q3.out.kept (grownBy_putObj' W D (.deferred none)) (fun r e => by cases e; exact ⟨_, hK, rfl⟩)
      refine ⟨g, G, rfl, ?_, by have := k1.size; omega, Q4.out.trans (belowK_b (w := w) (Nat.le_refl _) W D _ _ (by have := kw.size; omega) hK rfl rfl)⟩
      exact hg2.ext fun a b ha hb => by rw [Mx.acc_all r c (Mx.mul q f f') a b ha hb]
    case stop =>
      rintro D c pre W _ _ h _
      exact h.elim
theorem multiply_any (A A' : Option Addr) (f f' : Nat → Nat → Fp.F) (r q c d d' : Nat) (w : World) (ha : LiesM w A (Mx.matl r q f)) (ha' : LiesM w A' (Mx.matl q c f')) (hr0 : 0 < r) (hr : r ≤ 5) (hq0 : 0 < q) (hq : q ≤ 5) (hc0 : 0 < c) (hc : c ≤ 5) :
    Calls Try.prog 35 #[.slice A r d, .slice A' q d'] w fun e w' => ∃ g, e = .returned (.slice (some ⟨g, 0, none⟩) r r) ∧ LiesM w' (some ⟨g, 0, none⟩) (Mx.matl r c (Mx.mul q f f')) ∧ Kp w w' :=
  (multiply_grid A A' f f' r q c d d' w ha ha' hr0 hr hq0 hq hc0 hc).mono fun _ _ ⟨_, _, he, hg, _, hk⟩ => ⟨_, he, hg.lies, hk⟩

end Go.Proofs.Ytologiinkilooaa

/- Contracts of package mat's Mul, One, Pow; and the errors of all of its functions. -/
namespace Go.Proofs.Ytologiinkilooaa
open Go.ChangeShapes Go.WideShapes Go.ChangeAt Go.RowKit
set_option linter.unusedVariables false

set_option maxHeartbeats 800000 in
theorem Turn_bad (A : Option Addr) (m : List (List Int)) (n d : Nat) (w : World) (ha : LiesM w A m) (hn : m.length = n) (hz : Mx.mcode 5 0 9972 m ≠ 0) :
    Calls Try.prog 15 #[.slice A n d] w fun e w' => FailsM (Mx.mcode 5 0 9972 m) w e w' := by
  have CH := Lib.hid (fun w' (h : Kp w w') => Check_any A m n d w' (ha.keep h) hn)
  have E := Lib.hid (errOf_ne _ hz)
  rw [errOf_ne _ hz] at CH
  have KK := Lib.hid (fun (o : Obj) => (Kp.rfl' w).new o)
  unfold FailsM
  rw [E.out]
  generalize Mx.mcode 5 0 9972 m = z at *
  clear ha hn hz E
  go_enter Try.func15, Try.ntmps15
  go_wp2_with fail
  refine (CH.out _ (KK.out _)).mono ?_; rintro e w' ⟨rfl, rfl⟩
  go_wp2_with fail
  refine bodyPost_ret (v := .tuple #[.slice none 0 0, .iface 50 (.int .i64 (z : Int))]) (by simp [results, Try.results15, go_sem]) rfl ⟨rfl, KK.out _⟩




set_option maxHeartbeats 800000 in
theorem Pow_bad (A : Option Addr) (m : List (List Int)) (n d : Nat) (k : Int) (w : World) (ha : LiesM w A m) (hn : m.length = n) (hz : Mx.mcode 5 0 9972 m ≠ 0) :
    Calls Try.prog 10 #[.slice A n d, .int .i64 k] w fun e w' => FailsM (Mx.mcode 5 0 9972 m) w e w' := by
  have CH := Lib.hid (Check_any A m n d w ha hn)
  have E := Lib.hid (errOf_ne _ hz)
  rw [errOf_ne _ hz] at CH
  unfold FailsM
  rw [E.out]
  generalize Mx.mcode 5 0 9972 m = z at *
  clear ha hn hz E
  go_enter Try.func10, Try.ntmps10
  go_wp2_with fail
  refine (CH.out).mono ?_; rintro e w' ⟨rfl, rfl⟩
  go_wp2_with fail
  refine bodyPost_ret (v := .tuple #[.slice none 0 0, .iface 50 (.int .i64 (z : Int))]) (by simp [results, Try.results10, go_sem]) rfl ⟨rfl, Kp.rfl' _⟩
set_option maxHeartbeats 800000 in
theorem Pow_shape (A : Option Addr) (f : Nat → Nat → Fp.F) (r c d : Nat) (k : Int) (w : World) (ha : LiesM w A (Mx.matl r c f)) (hr0 : 0 < r) (hr : r ≤ 5) (hc0 : 0 < c) (hc : c ≤ 5) (hne : r ≠ c) :
    Calls Try.prog 10 #[.slice A r d, .int .i64 k] w fun e w' => FailsM 3 w e w' := by
  have CH := Lib.hid (Check_any A (Mx.matl r c f) r d w ha (Mx.len_matl _ _ _))
  rw [Mx.mcode_matl f hr0 hr hc0 hc] at CH
  obtain ⟨ad, A0, d0, rfl, hlt0, hc00, _, _⟩ := ha.row hr0
  rw [add_zero'] at hc00
  have e1 : ((r : Int) != (c : Int)) = true := by rw [bne_iff_ne]; omega
  clear ha
  go_enter Try.func10, Try.ntmps10
  go_wp2_with fail
  refine (CH.out).mono ?_; rintro e w' ⟨rfl, rfl⟩
  rw [errOf_zero]
  go_wp2_with fail
  refine bodyPost_ret (v := .tuple #[.slice none 0 0, errOf 3]) (by simp [results, Try.results10, go_sem, errOf]) rfl ⟨rfl, Kp.rfl' _⟩
set_option maxHeartbeats 800000 in
theorem Pow_range (A : Option Addr) (f : Nat → Nat → Fp.F) (r d : Nat) (k : Int) (w : World) (ha : LiesM w A (Mx.matl r r f)) (hr0 : 0 < r) (hr : r ≤ 5) (hk : ¬ (0 ≤ k ∧ k ≤ 1000)) :
    Calls Try.prog 10 #[.slice A r d, .int .i64 k] w fun e w' => FailsM 1 w e w' := by
  have CH := Lib.hid (Check_any A (Mx.matl r r f) r d w ha (Mx.len_matl _ _ _))
  rw [Mx.mcode_matl f hr0 hr hr0 hr] at CH
  obtain ⟨ad, A0, d0, rfl, hlt0, hc00, _, _⟩ := ha.row hr0
  rw [add_zero'] at hc00
  have e1 : ((r : Int) != (r : Int)) = false := by simp
  clear ha
  by_cases h1 : k < 0
  · clear hk
    go_enter Try.func10, Try.ntmps10
    go_wp2_with fail
    refine (CH.out).mono ?_; rintro e w' ⟨rfl, rfl⟩
    rw [errOf_zero]
    go_wp2_with fail
    refine bodyPost_ret (v := .tuple #[.slice none 0 0, errOf 1]) (by simp [results, Try.results10, go_sem, errOf]) rfl ⟨rfl, Kp.rfl' _⟩
  · have h2 : 1000 < k := by omega
    clear hk
    go_enter Try.func10, Try.ntmps10
    go_wp2_with fail
    refine (CH.out).mono ?_; rintro e w' ⟨rfl, rfl⟩
    rw [errOf_zero]
    go_wp2_with fail
    refine bodyPost_ret (v := .tuple #[.slice none 0 0, errOf 1]) (by simp [results, Try.results10, go_sem, errOf]) rfl ⟨rfl, Kp.rfl' _⟩

set_option maxRecDepth 100000 in
set_option maxHeartbeats 1600000 in
theorem Pow_grid (A : Option Addr) (f : Nat → Nat → Fp.F) (n d k : Nat) (w : World) (ha : LiesM w A (Mx.matl n n f)) (h0 : 0 < n) (h5 : n ≤ 5) (hk : k ≤ 1000) :
    Calls Try.prog 10 #[.slice A n d, .int .i64 (k : Int)] w fun e w' => ∃ g G, e = .returned (.tuple #[.slice (some ⟨g, 0, none⟩) n n, .nilIface]) ∧ Grid w' g G n n (fun a b => ((Mx.pwm n f k a b).val : Int)) ∧ w.heap.size ≤ g ∧ Kp w w' := by
  have CH := Lib.hid (Check_any A (Mx.matl n n f) n d w ha (Mx.len_matl _ _ _))
  rw [Mx.mcode_matl f h0 h5 h0 h5] at CH
  have ID := Lib.hid (identity_grid n w (by omega))
  have HA := Lib.hid ha
  obtain ⟨ad, A0, d0, rfl, hlt0, hc00, _, _⟩ := ha.row h0
  rw [add_zero'] at hc00
  have e1 : ((n : Int) != (n : Int)) = false := by simp
  have e2 : ¬ (k : Int) < 0 := by omega
  have e3 : ¬ (1000 : Int) < k := by omega
  clear ha
  go_enter Try.func10, Try.ntmps10
  go_wp2_with fail
  refine (CH.out).mono ?_; rintro e w' ⟨rfl, rfl⟩
  rw [errOf_zero]
  go_wp2_with fail
  refine (ID.out).mono ?_; rintro e w1 ⟨gI, GI, rfl, hl, hgI, hk1⟩
  have HL := Lib.hid hl
  have HK1 := Lib.hid hk1
  clear hl hk1 hc00
  go_wp2_with fail
  go_loopw [0, 1, 7] (fun u v p wr => ∃ (m : Nat) (A1 : Option Addr) (d1 g2 : Nat) (G2 : Nat → Nat) (x y : Nat → Nat → Fp.F), m ≤ k ∧ v = .int .i64 (m : Int) ∧ u = .slice A1 n d1 ∧ p = .slice (some ⟨g2, 0, none⟩) n n ∧ w.heap.size ≤ g2 ∧ LiesM wr A1 (Mx.matl n n x) ∧ Grid wr g2 G2 n n (fun a b => ((y a b).val : Int)) ∧ Mx.Eqm n n (Mx.mul n y (Mx.pwm n x m)) (Mx.pwm n f k) ∧ Kp w wr) (fun _ v _ _ => (intOf v).toNat)
  case atStart => exact ⟨k, some ad, d, gI, GI, f, Mx.one, Nat.le_refl _, rfl, rfl, rfl, hgI, HA.out.keep HK1.out, HL.out, Mx.one_mul n n _, HK1.out⟩
  case round =>
    obtain ⟨m, A1, d1, g2, G2, x, y, hm, rfl, rfl, rfl, hd2, l1, l2, heq, hkw⟩ := hrel
    have L1 := Lib.hid l1
    have L2 := Lib.hid l2
    have EQ := Lib.hid heq
    have HK := Lib.hid hkw
    clear l1 l2 heq hkw
    by_cases hm0 : m = 0
    · subst hm0
      go_wp2_with fail
      refine bodyPost_ret (v := .tuple #[.slice (some ⟨g2, 0, none⟩) n n, .nilIface]) (by simp [results, Try.results10, go_sem]) rfl ⟨g2, G2, rfl, L2.out.ext fun a b ha hb => ?_, hd2, HK.out⟩
      rw [← EQ.out a b ha hb, show Mx.pwm n x 0 = Mx.one from rfl, Mx.mul_one n n y a b ha hb]
    · have hpos : (0 : Int) < (m : Int) := by omega
      have hdiv : (m : Int).tdiv 2 = ((m / 2 : Nat) : Int) := by rw [Int.tdiv_eq_ediv_of_nonneg (by omega)]; omega
      have hdiv' : (m : Int) / 2 = ((m / 2 : Nat) : Int) := by omega
      have M1 := Lib.hid (fun (w' : World) (h : Kp wr w') => multiply_any A1 A1 x x n n n d1 d1 w' (L1.out.keep h) (L1.out.keep h) h0 h5 h0 h5 h0 h5)
      have M2 := Lib.hid (multiply_grid (some ⟨g2, 0, none⟩) A1 y x n n n n d1 wr L2.out.lies L1.out h0 h5 h0 h5 h0 h5)
      have HF := Lib.hid (Mx.pwm_half n x y m)
      have hlt : m / 2 < m := by omega
      have hle : m / 2 ≤ k := by omega
      by_cases hodd : m % 2 = 1
      · have hmod : (m : Int).tmod 2 = 1 := by rw [Int.tmod_eq_emod_of_nonneg (by omega)]; omega
        have hmod' : (m : Int) % 2 = 1 := by omega
        rw [if_pos hodd] at HF
        clear hodd hm0
        generalize m / 2 = h at *
        go_wp2_with fail
        refine (M2.out).mono ?_; rintro e w2 ⟨g3', G3', rfl, l3, hg3, k3⟩
        have L3 := Lib.hid l3
        have K3 := Lib.hid k3
        have hg4 : w.heap.size ≤ g3' := by have := HK.out.size; omega
        clear l3 k3 hg3
        go_wp2_with fail
        refine (M1.out w2 K3.out).mono ?_; rintro e w3 ⟨g3, rfl, l4, k4⟩
        have L4 := Lib.hid l4
        have K4 := Lib.hid k4
        clear l4 k4
        go_wp2_with fail
        go_roundw
        case rel => exact ⟨h, _, _, _, _, _, _, hle, rfl, rfl, rfl, hg4, L4.out, L3.out.keep K4.out, HF.out.trans EQ.out, (HK.out.trans K3.out).trans K4.out⟩
        case measure => simp [intOf]; omega
      · have hmod : (m : Int).tmod 2 = 0 := by rw [Int.tmod_eq_emod_of_nonneg (by omega)]; omega
        have hmod' : (m : Int) % 2 = 0 := by omega
        rw [if_neg hodd] at HF
        clear hodd hm0
        generalize m / 2 = h at *
        go_wp2_with fail
        refine (M1.out wr (Kp.rfl' _)).mono ?_; rintro e w3 ⟨g3, rfl, l4, k4⟩
        have L4 := Lib.hid l4
        have K4 := Lib.hid k4
        clear l4 k4
        go_wp2_with fail
        go_roundw
        case rel => exact ⟨h, _, _, _, _, _, _, hle, rfl, rfl, rfl, hd2, L4.out, L2.out.keep K4.out, HF.out.trans EQ.out, HK.out.trans K4.out⟩
        case measure => simp [intOf]; omega
theorem Pow_ok (A : Option Addr) (f : Nat → Nat → Fp.F) (n d k : Nat) (w : World) (ha : LiesM w A (Mx.matl n n f)) (h0 : 0 < n) (h5 : n ≤ 5) (hk : k ≤ 1000) :
    Calls Try.prog 10 #[.slice A n d, .int .i64 (k : Int)] w fun e w' => GivesM (Mx.matl n n (Mx.pwm n f k)) w e w' :=
  (Pow_grid A f n d k w ha h0 h5 hk).mono fun _ _ ⟨_, _, he, hg, _, hk⟩ => ⟨_, _, by rw [Mx.len_matl]; exact he, by rw [Mx.len_matl]; exact Nat.le_refl _, hg.lies, hk⟩

end Go.Proofs.Ytologiinkilooaa

/- The closed fact of package mat, outright; and what its functions say of whatever comes in. -/
namespace Go.Proofs.Ytologiinkilooaa
open Go.ChangeShapes Go.WideShapes Go.ChangeAt Go.RowKit
set_option linter.unusedVariables false

theorem fa1 : Mx.tab 2 2 (n22 1 2 3 4) = Mx.matl 2 2 (f22 1 2 3 4) := by decide +kernel
theorem fa2 : Mx.tab 2 2 (n22 0 1 1 0) = Mx.matl 2 2 (f22 0 1 1 0) := by decide +kernel
theorem fa3 : Mx.tab 2 2 (n22 1 1 0 1) = Mx.matl 2 2 (f22 1 1 0 1) := by decide +kernel
theorem fa4 : Mx.matl 2 2 (Mx.mul 2 (f22 1 2 3 4) (f22 0 1 1 0)) = Mx.tab 2 2 (n22 2 1 4 3) := by decide +kernel
theorem fa5 : Mx.matl 2 2 (Mx.pwm 2 (f22 1 1 0 1) 7) = Mx.tab 2 2 (n22 1 7 0 1) := by decide +kernel


/-- A call that answers an error and nothing else. -/
def FailsAny (w : World) (e : Ending) (w' : World) : Prop := ∃ z : Nat, e = .returned (.tuple #[.slice none 0 0, .iface 50 (.int .i64 (z : Int))]) ∧ Kp w w'
theorem FailsM.any {c : Nat} {w w' : World} {e : Ending} (h : FailsM c w e w') (hc : c ≠ 0) : FailsAny w e w' := ⟨c, by rw [h.1, errOf_ne c hc], h.2⟩

/-- A call that answers a matrix. -/
def Got (r c : Nat) (f : Nat → Nat → Fp.F) (w : World) (e : Ending) (w' : World) : Prop := ∃ A d, e = .returned (.tuple #[.slice A r d, .nilIface]) ∧ LiesM w' A (Mx.matl r c f) ∧ Kp w w'
theorem GivesM.got {r c : Nat} {f : Nat → Nat → Fp.F} {w w' : World} {e : Ending} (h : GivesM (Mx.matl r c f) w e w') : Got r c f w e w' := by
  obtain ⟨A, d, he, _, hl, hk⟩ := h
  rw [Mx.len_matl] at he
  exact ⟨A, d, he, hl, hk⟩

theorem Turn_or (A : Option Addr) (m : List (List Int)) (n d : Nat) (hn : m.length = n) :
    (∃ r c f, Sh r c f m) ∨ ∀ (w : World), LiesM w A m → Calls Try.prog 15 #[.slice A n d] w fun e w' => FailsAny w e w' := by
  rcases sh_or m with ⟨_, h⟩ | h
  · exact .inl h
  · exact .inr fun w ha => ((Turn_bad A m n d w ha hn h).mono fun e w' h' => h'.any h)
theorem Turn_sh {A : Option Addr} {m : List (List Int)} {r c : Nat} {f : Nat → Nat → Fp.F} (s : Sh r c f m) (d : Nat) (w : World) (ha : LiesM w A m) :
    Calls Try.prog 15 #[.slice A r d] w fun e w' => Got c r (Mx.flip f) w e w' := by
  rw [s.eq] at ha
  exact (Turn_ok A f r c d w ha s.r0 s.r5 s.c0 s.c5).mono fun _ _ h => h.got
theorem Pow_or (A : Option Addr) (m : List (List Int)) (n d : Nat) (k : Int) (hn : m.length = n) :
    (∃ r f, Sh r r f m) ∨ ∀ (w : World), LiesM w A m → Calls Try.prog 10 #[.slice A n d, .int .i64 k] w fun e w' => FailsAny w e w' := by
  rcases sh_or m with ⟨_, r, c, f, s⟩ | h
  · by_cases hq : r = c
    · subst hq; exact .inl ⟨r, f, s⟩
    · right
      rw [s.len] at hn
      subst hn
      intro w ha
      rw [s.eq] at ha
      exact (Pow_shape A f r c d k w ha s.r0 s.r5 s.c0 s.c5 hq).mono fun e w' h => h.any (by decide)
  · exact .inr fun w ha => ((Pow_bad A m n d k w ha hn h).mono fun e w' h' => h'.any h)
theorem Pow_sh {A : Option Addr} {m : List (List Int)} {n : Nat} {f : Nat → Nat → Fp.F} (s : Sh n n f m) (d k : Nat) (w : World) (ha : LiesM w A m) (hk : k ≤ 1000) :
    Calls Try.prog 10 #[.slice A n d, .int .i64 (k : Int)] w fun e w' => Got n n (Mx.pwm n f k) w e w' := by
  rw [s.eq] at ha
  exact (Pow_ok A f n d k w ha s.r0 s.r5 hk).mono fun _ _ h => h.got

end Go.Proofs.Ytologiinkilooaa

/- Contracts of the document's answer on matrices (package rankmereref1: Mod, Unit, Flip, Copy, MatMul, MatAdd, Matrix, Field). For all packages. -/
namespace Go.Proofs.Ytologiinkilooaa
open Go.ChangeShapes Go.WideShapes Go.ChangeAt Go.RowKit
set_option linter.unusedVariables false

theorem own_made {w : World} {base g n : Nat} (h : w.ownsRow base 3 1 (.slice (some ⟨g, 0, none⟩) n n) n (madeCells #[.int .i64 0] (n * 1)).toList) : Own w base (.slice (some ⟨g, 0, none⟩) n n) (Mx.row n fun _ => 0) := by
  unfold Own
  rw [Mx.len_row, ← Mx.row_rep]
  rw [toList_madeCells_one, Nat.mul_one] at h
  simpa [ints] using h
theorem rval (a : Fp.F) : 0 ≤ (a.val : Int) ∧ (a.val : Int) ≤ 9972 := by have := a.isLt; omega
theorem rprod (a b : Fp.F) : 0 ≤ (a.val : Int) * (b.val : Int) ∧ (a.val : Int) * (b.val : Int) ≤ 99440784 := by
  have h1 := rval a
  have h2 := rval b
  exact ⟨Int.mul_nonneg h1.1 h2.1, Int.mul_le_mul h1.2 h2.2 h2.1 (by decide)⟩
theorem rzero : ((0 : Fp.F).val : Int) = 0 := rfl

theorem rMod_any (n : Int) (w : World) (h1 : -1000000000000000 ≤ n) (h2 : n ≤ 1000000000000000) :
    Calls Try.prog 11 #[.int .i64 n] w fun e w' => e = .returned (.int .i64 (n % 9973)) ∧ w = w' := by
  obtain ⟨f1, f2⟩ := Num.tmod_fix n 9973 (by omega)
  obtain ⟨b2, b1⟩ := Num.tmod_bound n 9973 (by omega)
  have F1 := Lib.hid f1
  have F2 := Lib.hid f2
  clear f1 f2
  by_cases h : n.tmod 9973 < 0
  · go_enter Try.func11, Try.ntmps11
    go_wp2
    go_ret
    exact ⟨ret_int (F1.out h), rfl⟩
  · have h' : 0 ≤ n.tmod 9973 := by omega
    clear h
    go_enter Try.func11, Try.ntmps11
    go_wp2
    go_ret
    exact ⟨ret_int (F2.out h'), rfl⟩

/-- A matrix that the call made. -/
def Made (r c : Nat) (f : Nat → Nat → Fp.F) (w : World) (e : Ending) (w' : World) : Prop := ∃ A d, e = .returned (.slice A r d) ∧ LiesM w' A (Mx.matl r c f) ∧ Kp w w'
/-- The same, to be written to. -/
def MadeOwn (r c : Nat) (f : Nat → Nat → Fp.F) (w : World) (e : Ending) (w' : World) : Prop := ∃ v G C, e = .returned v ∧ OwnM w' w.heap.size v G C (Mx.matl r c f) ∧ Kp w w'

set_option maxRecDepth 100000 in
set_option maxHeartbeats 3200000 in
theorem rUnit_own (n : Nat) (w : World) (hn : n ≤ 1000) :
    Calls Try.prog 26 #[.int .i64 (n : Int)] w fun e w' => MadeOwn n n Mx.one w e w' := by
  obtain ⟨i0, hi, hz0, hz1, hz2⟩ := info_parts int_info
  go_enter Try.func26, Try.ntmps26
  go_wp2_with fail
  go_loopw [3, 4] (fun v i wr => ∃ (k : Nat) (G C : Nat → Nat), k ≤ n ∧ i = .int .i64 (k : Int) ∧ OwnM wr w.heap.size v G C (Mx.matl k n Mx.one) ∧ Kp w wr) (fun _ i _ => n - (intOf i).toNat)
  case atStart => exact ⟨0, fun _ => 0, fun _ => 0, Nat.zero_le _, rfl, ownM_none _ _ _ _, Kp.rfl' _⟩
  case round =>
    obtain ⟨k, G, C, hk, rfl, ho, hkp⟩ := hrel
    have HO := Lib.hid ho
    have HK := Lib.hid hkp
    clear ho hkp
    by_cases hlt : k < n
    · have HS := Lib.hid (show Mx.matl (k + 1) n Mx.one = Mx.matl k n Mx.one ++ [(Mx.row n fun _ => 0).set k 1] by
        rw [Mx.matl, Mx.tab_snoc, Mx.row_set]
        congr 2
        refine Mx.row_ext fun j _ => ?_
        show (((if k = j then (1 : Fp.F) else 0)).val : Int) = _
        by_cases e : j = k
        · rw [if_pos e, if_pos e.symm]; rfl
        · rw [if_neg e, if_neg (fun e' => e e'.symm)]; rfl)
      have HAP := Lib.hid (show ∀ i, i < (Mx.matl k n Mx.one).length → G i ≠ wr.heap.size from fun i hi => by have := (HO.out.lt hi).2; omega)
      go_wp2_with (first
        | (at_make; refine wpList_make_full _ rfl _ _ 24 rfl wr.heap.size 3 i0 (.int .i64 0) 1 Try.underlying24 hi hz0 hz1 _ _ _ _ n rfl rfl rfl rfl (by rw [hz2]; omega) (by unfold maxLen; omega) (Nat.le_refl _) ?_; intro w2 hown hgrow; have kp2 : Kp wr w2 := (Kp.rfl' wr).grown hgrow (by simp) (fun k hk => by cases hk); have ow := own_made hown; have hcell := own_cell ow k (by rw [Mx.len_row]; exact hlt); have hfree := own_free ow k; have kp3 := Lib.hid (kp2.put (p := ⟨wr.heap.size, k, none⟩) (Nat.le_refl _) (.int .i64 1)); have ow3 := Lib.hid (own_put ow k 1); have om3 := Lib.hid (HO.out.kp kp3.out))
        | (at_builtin; refine wpList_pushM rfl _ _ rfl w.heap.size _ G C (Mx.matl k n Mx.one) _ wr.heap.size n n _ 1 (by rw [List.length_set, Mx.len_row]) rfl rfl (om3.out.new _) (cell_made _ _ _ _ 0 (size_set _ _ _)) ((ow3.out.from HK.out.size).new _) HAP.out (by rw [Mx.len_matl]; omega) (Nat.le_trans HK.out.size (Nat.le_trans kp3.out.size ((Kp.rfl' _).new _).size)) ?_; intro v' w' G' C' ho' hk'))
      have HO' := Lib.hid ho'
      have HK' := Lib.hid (hk' w (Nat.le_refl _) ((HK.out.trans kp3.out).new _))
      clear ho' hk'
      go_wp2_with fail
      go_roundw
      case rel => exact ⟨k + 1, G', C', by omega, by go_num, by rw [HS.out]; exact HO'.out, HK'.out⟩
      case measure => simp [intOf]; omega
    · obtain rfl : k = n := by omega
      go_wp2_with fail
      go_ret
      exact ⟨_, G, C, rfl, HO.out, HK.out⟩
theorem rUnit_any (n : Nat) (w : World) (hn : n ≤ 1000) :
    Calls Try.prog 26 #[.int .i64 (n : Int)] w fun e w' => Made n n Mx.one w e w' :=
  (rUnit_own n w hn).mono fun e w' ⟨v, G, C, he, ho, hk⟩ => by
    obtain ⟨A', d', hv, hl, _⟩ := ho.lies
    rw [Mx.len_matl] at hv
    exact ⟨A', d', by rw [he, hv], hl, hk⟩

set_option maxRecDepth 100000 in
set_option maxHeartbeats 3200000 in
theorem rFlip_own (A : Option Addr) (f : Nat → Nat → Fp.F) (r c d : Nat) (w : World) (ha : LiesM w A (Mx.matl r c f)) (hr0 : 0 < r) (hr : r ≤ 1000) (hc : c ≤ 1000) :
    Calls Try.prog 27 #[.slice A r d] w fun e w' => MadeOwn c r (Mx.flip f) w e w' := by
  obtain ⟨ad, A0, d0, rfl, hlt0, hc00, _, _⟩ := ha.row hr0
  rw [add_zero'] at hc00
  have HA := Lib.hid ha
  have C0 := Lib.hid hc00
  clear ha hc00
  go_enter Try.func27, Try.ntmps27
  go_wp2_with fail
  go_loopw [3, 4] (fun v i wr => ∃ (k : Nat) (G C : Nat → Nat), k ≤ c ∧ i = .int .i64 (k : Int) ∧ OwnM wr w.heap.size v G C (Mx.matl k r (Mx.flip f)) ∧ Kp w wr) (fun _ i _ => c - (intOf i).toNat)
  case atStart => exact ⟨0, fun _ => 0, fun _ => 0, Nat.zero_le _, rfl, ownM_none _ _ _ _, Kp.rfl' _⟩
  case round =>
    obtain ⟨k, G, C, hk, rfl, ho, hkp⟩ := hrel
    obtain ⟨wo, hwo⟩ : ∃ x, x = wr := ⟨_, rfl⟩
    subst hwo
    have hc0 := (hkp.cell (p := ad) hlt0).trans C0.out
    have HO := Lib.hid ho
    have HK := Lib.hid hkp
    clear ho hkp
    by_cases hlt : k < c
    · have HS := Lib.hid (show Mx.matl (k + 1) r (Mx.flip f) = Mx.matl k r (Mx.flip f) ++ [Mx.row r fun j => ((f j k).val : Int)] by rw [Mx.matl, Mx.tab_snoc]; rfl)
      go_wp2_with fail
      go_loopw [5, 6] (fun u i wq => ∃ t : Nat, t ≤ r ∧ i = .int .i64 (t : Int) ∧ Own wq wo.heap.size u (Mx.row t fun j => ((f j k).val : Int)) ∧ Kp wo wq) (fun _ i _ => r - (intOf i).toNat)
      case atStart => exact ⟨0, Nat.zero_le _, rfl, Own.none _ _, Kp.rfl' _⟩
      case round =>
        obtain ⟨t, ht, rfl, hu, hkq⟩ := hrel
        have HU := Lib.hid hu
        have HQ := Lib.hid hkq
        by_cases hlt2 : t < r
        · obtain ⟨ad', A1, d1, ea, _, x1, _, l1⟩ := (HA.out.keep (HK.out.trans hkq)).row hlt2
          obtain rfl := Option.some.inj ea
          obtain ⟨ad1, rfl, _, x2⟩ := l1.el hlt
          clear hu hkq l1
          have hlen : (Mx.row t fun j => ((f j k).val : Int)).length + 1 ≤ 17000000000000 := by rw [Mx.len_row]; omega
          have hsz := HQ.out.size
          have HSN := Lib.hid (Mx.row_snoc t fun j => ((f j k).val : Int))
          generalize ((f t k).val : Int) = z at *
          go_wp2_with (at_builtin; refine wpList_push rfl _ _ rfl wo.heap.size _ (Mx.row t fun j => ((f j k).val : Int)) z wr.heap.size 1 rfl rfl (HU.out.new _) (by simp; done) hlen (Nat.le_trans hsz ((Kp.rfl' _).new _).size) ?_; intro v' w' h1 h2 _)
          have HU' := Lib.hid h1
          have HQ' := Lib.hid (own_below (HU.out.new _) (HQ.out.new _) (by have := HQ.out.size; simp; omega) h2)
          clear h1 h2
          go_wp2_with fail
          go_roundw
          case rel => exact ⟨t + 1, by omega, by go_num, by rw [HSN.out]; exact HU'.out, HQ'.out⟩
          case measure => simp [intOf]; omega
        · obtain rfl : t = r := by omega
          obtain ⟨g, gc, rfl, hg, hgc⟩ := own_some hu (by rw [Mx.len_row]; exact hr0)
          rw [Mx.len_row] at HU hgc ⊢
          clear hu hkq
          have OM := Lib.hid (HO.out.kp HQ.out)
          have HAP := Lib.hid (show ∀ i, i < (Mx.matl k t (Mx.flip f)).length → G i ≠ g from fun i hi => by have := (HO.out.lt hi).2; omega)
          go_wp2_with (at_builtin; refine wpList_pushM rfl _ _ rfl w.heap.size _ G C (Mx.matl k t (Mx.flip f)) _ g t gc _ 1 (Mx.len_row _ _) rfl rfl (OM.out.new _) (by simp; done) ((HU.out.from HK.out.size).new _) HAP.out (by rw [Mx.len_matl]; omega) (Nat.le_trans HK.out.size (Nat.le_trans HQ.out.size ((Kp.rfl' _).new _).size)) ?_; intro v' w' G' C' ho' hk')
          have HO' := Lib.hid ho'
          have HK' := Lib.hid (hk' w (Nat.le_refl _) ((HK.out.trans HQ.out).new _))
          clear ho' hk'
          go_wp2_with fail
          go_roundw
          case rel => exact ⟨k + 1, G', C', by omega, by go_num, by rw [HS.out]; exact HO'.out, HK'.out⟩
          case measure => simp [intOf]; omega
    · obtain rfl : k = c := by omega
      go_wp2_with fail
      go_ret
      exact ⟨_, G, C, rfl, HO.out, HK.out⟩
theorem rFlip_any (A : Option Addr) (f : Nat → Nat → Fp.F) (r c d : Nat) (w : World) (ha : LiesM w A (Mx.matl r c f)) (hr0 : 0 < r) (hr : r ≤ 1000) (hc : c ≤ 1000) :
    Calls Try.prog 27 #[.slice A r d] w fun e w' => Made c r (Mx.flip f) w e w' :=
  (rFlip_own A f r c d w ha hr0 hr hc).mono fun e w' ⟨v, G, C, he, ho, hk⟩ => by
    obtain ⟨A', d', hv, hl, _⟩ := ho.lies
    rw [Mx.len_matl] at hv
    exact ⟨A', d', by rw [he, hv], hl, hk⟩

end Go.Proofs.Ytologiinkilooaa

/- The law CharEnds. -/
namespace Go.Proofs.Ytologiinkilooaa
open Go.ChangeShapes Go.WideShapes Go.ChangeAt Go.RowKit
set_option linter.unusedVariables false

set_option maxRecDepth 100000 in
set_option maxHeartbeats 6400000 in
theorem walk_CharEnds (A : Option Addr) (a : List (List Int)) (c : Nat) (w : World) (ha : LiesM w A a) :
    Calls Try.prog 4 #[.slice A a.length c] w fun e w' => e = .returned (.bool true) ∧ Kp w w' := by
  obtain ⟨n, hn⟩ : ∃ n, n = a.length := ⟨_, rfl⟩
  rw [← hn]
  have HA := Lib.hid ha
  have FA := Lib.hid (charFact_any w)
  clear ha
  rcases COf_or A a n c hn.symm with ⟨f, sa⟩ | bad
  · have n0 := sa.r0
    have n5 := sa.r5
    obtain ⟨p, hp⟩ : ∃ p, n = p + 1 := ⟨n - 1, by omega⟩
    have O1 := Lib.hid (fun w h => COf_sh (A := A) sa c w h)
    have D1 := Lib.hid (fun w h => Of_sh (A := A) sa c w h)
    have T1 := Lib.hid (fun w h => Trace_sh (A := A) sa c w h)
    have U1 := Lib.hid (fun w h => Turn_sh (A := A) sa c w h)
    have O2 := Lib.hid (fun B d w h => COf_sh (A := B) sa.flip d w h)
    have EF := Lib.hid (Mx.chl_ext (Mx.ch_flip (n := n) (by omega) f))
    have SM := Lib.hid (show Mx.ch n f p = -(Mx.sg n fun i => f i i) by rw [hp]; exact Mx.ch_mid p f)
    have SL := Lib.hid (Mx.ch_low n f)
    have hpn : (n : Int) - 1 = (p : Int) := by omega
    have hpl : p < n + 1 := by omega
    have hpw : IntKind.i64.wrap ((n : Int) - 1) = (p : Int) := by rw [hpn]; exact IntWalk.i64_in _ (by omega)
    have hnw : IntKind.i64.wrap ((n : Int) + 1) = (n : Int) + 1 := IntWalk.i64_in _ (by omega)
    generalize Mx.sg n (fun i => f i i) = tr at *
    generalize Mx.dt n f = dd at *
    have PB := Lib.hid (show p ≤ n by omega)
    clear hn sa hp
    go_enter Try.func4, Try.ntmps4
    go_wp2_with fail
    refine (FA.out).mono ?_; rintro e w1 ⟨rfl, k1⟩
    have K := Lib.hid k1; clear k1
    go_wp2_with fail
    refine (O1.out w1 (HA.out.keep K.out)).mono ?_; rintro e w2 ⟨Z, cz, rfl, hz, _, k2⟩
    replace K := Lib.hid (K.out.trans k2); have LZ := Lib.hid hz; clear k2 hz
    go_wp2_with fail
    refine (D1.out w2 (HA.out.keep K.out)).mono ?_; rintro e w3 ⟨rfl, k3⟩
    replace K := Lib.hid (K.out.trans k3); replace LZ := Lib.hid (LZ.out.keep k3); clear k3
    go_wp2_with fail
    refine (T1.out w3 (HA.out.keep K.out)).mono ?_; rintro e w4 ⟨rfl, k4⟩
    replace K := Lib.hid (K.out.trans k4); replace LZ := Lib.hid (LZ.out.keep k4); clear k4
    go_wp2_with fail
    refine (U1.out w4 (HA.out.keep K.out)).mono ?_; rintro e w5 ⟨B, d, rfl, hb, k5⟩
    replace K := Lib.hid (K.out.trans k5); replace LZ := Lib.hid (LZ.out.keep k5); have LB := Lib.hid hb; clear k5 hb
    go_wp2_with fail
    refine (O2.out B d w5 LB.out).mono ?_; rintro e w6 ⟨Y, cy, rfl, hy, _, k6⟩
    rw [EF.out] at hy
    replace K := Lib.hid (K.out.trans k6); replace LZ := Lib.hid (LZ.out.keep k6); have LY := Lib.hid hy; clear k6 hy
    obtain ⟨ad, rfl, _, x1⟩ := chl_el LZ.out PB.out
    rw [SM.out] at x1
    have IC := Lib.hid (fun (q : Nat) => show Calls Try.prog 16 #[.slice Y (n + 1) cy, .slice (some ad) (n + 1) cz] (w6.drewN q) fun e w' => e = .returned (.bool true) ∧ Drew (w6.drewN q) w' by
      have h := ints_drew Y (some ad) (Pol.vals (Mx.chl n f)) (Pol.vals (Mx.chl n f)) cy cz (w6.drewN q) (LY.out.keep ((Kp.rfl' w6).drewN q)) (LZ.out.keep ((Kp.rfl' w6).drewN q)) (by rw [Pol.len_vals, Mx.len_chl]; omega) (by rw [Pol.len_vals, Mx.len_chl]; omega)
      rw [Pol.len_vals, Mx.len_chl] at h
      exact h.mono fun e w' hh => ⟨tells_yes hh.1 rfl, hh.2⟩)
    have bt := cval tr
    have bd := cval dd
    have MO1 := Lib.hid (fun w => rMod_any (-(tr.val : Int)) w (by omega) (by omega))
    rw [minus_mod] at MO1
    have hw1 : IntKind.i64.wrap (-(tr.val : Int)) = -(tr.val : Int) := IntWalk.i64_in _ (by omega)
    have hw2 : IntKind.i64.wrap (-(dd.val : Int)) = -(dd.val : Int) := IntWalk.i64_in _ (by omega)
    have MO2 := Lib.hid (fun w => rMod_any (-(dd.val : Int)) w (by omega) (by omega))
    rw [minus_mod] at MO2
    have MO3 := Lib.hid (fun w => rMod_any (dd.val : Int) w (by omega) (by omega))
    rw [val_mod] at MO3
    obtain ⟨z0, hz0⟩ : ∃ z, z = ((Mx.ch n f 0).val : Int) := ⟨_, rfl⟩
    obtain ⟨ad', e', _, x0⟩ := chl_el LZ.out (Nat.zero_le n)
    obtain rfl := Option.some.inj e'
    rw [← hz0, add_zero'] at x0
    rw [SL.out] at hz0
    have h0n : 0 < n + 1 := by omega
    have CE := Lib.hid (show ∀ q, (w6.drewN q).cell? ad = some (.int .i64 z0) from fun q => x0)
    clear x0
    by_cases hpar : n % 2 = 1
    · have e1 : ((n : Int) % 2 == 1) = true := by rw [beq_iff_eq]; omega
      have ez : z0 = ((-dd).val : Int) := by rw [hz0]; unfold Mx.sgn; rw [if_neg (by omega)]; congr 2; grind
      rw [← ez] at MO2
      generalize ((-tr).val : Int) = t2 at *
      generalize (tr.val : Int) = t1 at *
      generalize (dd.val : Int) = d1 at *
      clear hz0 ez hpar bt bd
      go_wp2_with fail
      go_quiet ((first
        | (with_reducible exact quiet_drew (IC.out _))
        | (with_reducible exact quiet_drew_more (IC.out _))
        | (with_reducible exact quiet_here (MO1.out _))
        | (with_reducible exact quiet_more (MO1.out _))))
      have x0 := CE.out nq
      obtain ⟨wi, hwi⟩ : ∃ x, x = w6.drewN nq := ⟨_, rfl⟩
      have KI := Lib.hid (show Kp w wi by rw [hwi]; exact K.out.drewN nq)
      rw [← hwi] at x0 ⊢
      clear hwi x1
      go_wp2_with fail
      go_quiet ((first
        | (with_reducible exact quiet_here (MO2.out _))
        | (with_reducible exact quiet_more (MO2.out _))))
      go_wp2_with fail
      go_ret
      exact ⟨ret_bool (by simp), KI.out.drewN _⟩
    · have e1 : ((n : Int) % 2 == 1) = false := by rw [beq_eq_false_iff_ne]; omega
      have ez : z0 = (dd.val : Int) := by rw [hz0]; unfold Mx.sgn; rw [if_pos (by omega)]; congr 2; grind
      rw [← ez] at MO3
      generalize ((-tr).val : Int) = t2 at *
      generalize (tr.val : Int) = t1 at *
      rw [← ez]
      clear hz0 ez hpar bt bd hw2
      go_wp2_with fail
      go_quiet ((first
        | (with_reducible exact quiet_drew (IC.out _))
        | (with_reducible exact quiet_drew_more (IC.out _))
        | (with_reducible exact quiet_here (MO1.out _))
        | (with_reducible exact quiet_more (MO1.out _))))
      have x0 := CE.out nq
      obtain ⟨wi, hwi⟩ : ∃ x, x = w6.drewN nq := ⟨_, rfl⟩
      have KI := Lib.hid (show Kp w wi by rw [hwi]; exact K.out.drewN nq)
      rw [← hwi] at x0 ⊢
      clear hwi x1
      go_wp2_with fail
      go_quiet ((first
        | (with_reducible exact quiet_here (MO3.out _))
        | (with_reducible exact quiet_more (MO3.out _))))
      go_wp2_with fail
      go_ret
      exact ⟨ret_bool (by simp), KI.out.drewN _⟩
  · have BAD := Lib.hid bad
    clear bad hn
    go_enter Try.func4, Try.ntmps4
    go_wp2_with fail
    refine (FA.out).mono ?_; rintro e w1 ⟨rfl, k1⟩
    have K := Lib.hid k1; clear k1
    go_wp2_with fail
    refine (BAD.out w1 (HA.out.keep K.out)).mono ?_; rintro e w2 ⟨z, rfl, k2⟩
    replace K := Lib.hid (K.out.trans k2); clear k2
    go_wp2_with fail
    go_ret
    exact ⟨by simp, K.out⟩
end Go.Proofs.Ytologiinkilooaa
