/- Several texts, one behind the other: IpC2, IpC3, CpC2, RowsG, ShM, DeFact, CpFact, MatZ, MatH, MatB, BaC1, BaC2, BaC3, BaC4, LawIn, BaFact, MatU, LuM, LuC1. -/
import Derived.Test.YtologiinkilooaaTopDetsProofG2
import Derived.Test.YtologiinkilooaaTopDetsProofG1
import Derived.StillTailTactics

/- Contracts of package ipol, second part: Steps, Through. -/
namespace Go.Proofs.Ytologiinkilooaa
open Go.ChangeShapes Go.WideShapes Go.ChangeAt Go.RowKit
set_option linter.unusedVariables false

/-- The row of the divided differences. -/
def stepRow (p q : List Fp.F) : List Fp.F := Pol.row p.length (fun k => Pol.dd (Pol.co p) (Pol.co q) k 0)
theorem len_stepRow (p q : List Fp.F) : (stepRow p q).length = p.length := Pol.len_row _ _
theorem co_stepRow (p q : List Fp.F) (k : Nat) (h : k < p.length) : Pol.co (stepRow p q) k = Pol.dd (Pol.co p) (Pol.co q) k 0 := Pol.co_row _ _ k h

set_option maxRecDepth 100000 in
theorem steps_bad (A B : Option Addr) (l m : List Int) (c d : Nat) (w : World) (ha : Lies w A l) (hb : Lies w B m) (hc : l.length ≤ c) (h : dcode l m ≠ 0) :
    Calls Try.prog 54 #[.slice A l.length c, .slice B m.length d] w fun e w' => Fails (dcode l m) w e w' := by
  have C := Lib.hid (ipCheck_any A B l m c d w ha hb hc)
  unfold Fails
  have e := errOf_ne _ h
  rw [e] at C ⊢
  clear e h ha hb hc
  generalize dcode l m = x at *
  generalize l.length = n at *
  generalize m.length = q at *
  go_enter Try.func54, Try.ntmps54
  go_wp2_with fail
  refine (C.out).mono ?_; rintro e w' ⟨rfl, rfl⟩
  go_wp2_with fail
  go_ret2
  exact ⟨rfl, Kp.rfl' _⟩

set_option maxRecDepth 100000 in
set_option maxHeartbeats 3200000 in
theorem steps_ok (A B : Option Addr) (p q : List Fp.F) (n c d : Nat) (w : World) (ha : Lies w A (Pol.vals p)) (hb : Lies w B (Pol.vals q)) (hn : n = p.length) (hq : n = q.length) (ln : n ≤ 6) (hc : n ≤ c) (hX : Pol.Apart (Pol.co p) n) :
    Calls Try.prog 54 #[.slice A n c, .slice B n d] w fun e w' => Gives (stepRow p q) w e w' := by
  have C := Lib.hid (by
    have h := ipCheck_any A B (Pol.vals p) (Pol.vals q) c d w ha hb (by rw [Pol.len_vals]; omega)
    rw [dcode_vals (by omega) (by omega) (by rw [← hn]; exact hX), Pol.len_vals, Pol.len_vals, ← hn, ← hq] at h
    exact h)
  rw [errOf_zero] at C
  have CL := Lib.hid (by
    have h := iclone_any B (Pol.vals q) d w hb (by rw [Pol.len_vals]; omega)
    rw [Pol.len_vals, ← hq] at h
    exact h)
  have HA := Lib.hid ha
  have HN := Lib.hid hn
  have HQ := Lib.hid hq
  have HX := Lib.hid hX
  have HC := Lib.hid hc
  have ROW := Lib.hid (show stepRow p q = Pol.row n (fun k => Pol.dd (Pol.co p) (Pol.co q) k 0) by rw [hn]; rfl)
  clear ha hb hn hq hX hc
  go_enter Try.func54, Try.ntmps54
  go_wp2_with fail
  refine (C.out).mono ?_; rintro e w' ⟨rfl, rfl⟩
  go_wp2_with fail
  refine (CL.out).mono ?_; rintro e w1 ⟨v, rfl, hown, hkp⟩
  have HK1 := Lib.hid hkp
  obtain ⟨A1, c1, rfl, hl1, hc1⟩ := hown.cap
  rw [Pol.len_vals, ← HQ.out] at hc1
  have ev1 : (Pol.vals q).length = n := by rw [Pol.len_vals, ← HQ.out]
  rw [ev1] at hown ⊢
  have HO0 := Lib.hid (show Own w1 w.heap.size (.slice A1 n c1) (Pol.vals (Pol.row n (Pol.tab (Pol.co p) (Pol.co q) 0))) by
    have e : Pol.row n (Pol.tab (Pol.co p) (Pol.co q) 0) = q := by
      rw [Pol.row_ext n _ (Pol.co q) (fun k _ => Pol.tab_zero _ _ k), HQ.out, Pol.row_self]
    rw [e]; exact hown)
  have HC1 := Lib.hid hc1
  clear hown hkp hl1 C CL ev1 hc1
  go_wp2_with fail
  go_loopw [8] (fun i wr => ∃ o : Nat, o + 1 ≤ max n 1 ∧ i = .int .i64 ((o : Int) + 1) ∧ Own wr w.heap.size (.slice A1 n c1) (Pol.vals (Pol.row n (Pol.tab (Pol.co p) (Pol.co q) o))) ∧ Kp w wr) (fun i _ => n + 1 - (intOf i).toNat)
  case atStart => exact ⟨0, by omega, rfl, HO0.out, HK1.out⟩
  case round =>
    obtain ⟨o, ho, rfl, hown, hkp⟩ := hrel
    have HO := Lib.hid hown
    have HK := Lib.hid hkp
    clear hown hkp
    by_cases hlt : o + 1 < n
    · have hso := own_some HO.out (by rw [Pol.len_vals, Pol.len_row]; omega)
      obtain ⟨g, c', e, hg, hcx⟩ := hso
      injection e with e1 e2 e3
      subst e1
      have HG := Lib.hid hg
      clear hg hcx e2 e3
      obtain ⟨n', hn'⟩ : ∃ n', n = n' + 1 := ⟨n - 1, by omega⟩
      have HN' := Lib.hid hn'
      clear hn'
      go_wp2_with fail
      go_loopw [9] (fun j wr' => ∃ i : Nat, o ≤ i ∧ i + 1 ≤ n ∧ j = .int .i64 (i : Int) ∧ Own wr' w.heap.size (.slice (some ⟨g, 0, none⟩) n c1) (Pol.vals (Pol.row n (Pol.mid (Pol.co p) (Pol.co q) o i))) ∧ Kp w wr') (fun j _ => (intOf j).toNat)
      case atStart => exact ⟨n', by have := HN'.out; omega, by have := HN'.out; omega, by rw [show (n : Int) - 1 = (n' : Int) by have := HN'.out; omega], by
        have e := HO.out
        rw [← Pol.mid_start, show n - 1 = n' by have := HN'.out; omega] at e
        exact e, HK.out⟩
      case round =>
        obtain ⟨i, hi, hi2, rfl, hown2, hkp2⟩ := hrel
        by_cases hge : o + 1 ≤ i
        · obtain ⟨j, hj⟩ : ∃ j, i = j + o + 1 := ⟨i - (o + 1), by omega⟩
          obtain ⟨i0, hi0⟩ : ∃ i0, i0 = j + o := ⟨_, rfl⟩
          have hln : (Pol.vals (Pol.row n (Pol.mid (Pol.co p) (Pol.co q) o i))).length = n := by rw [Pol.len_vals, Pol.len_row]
          have s1 := own_cell hown2 i (by rw [hln]; omega)
          have s0 := own_cell hown2 i0 (by rw [hln]; omega)
          rw [Pol.vals_at, Pol.co_row _ _ _ (by omega), Pol.mid, if_neg (by omega)] at s1 s0
          have fr := own_free hown2 i
          obtain ⟨ad, rfl, _, x1⟩ := (HA.out.keep hkp2) i (by rw [Pol.len_vals, ← HN.out]; omega)
          obtain ⟨ad', ee, _, x0⟩ := (HA.out.keep hkp2) j (by rw [Pol.len_vals, ← HN.out]; omega)
          injection ee with ee
          subst ee
          rw [Pol.vals_at] at x1 x0
          have ne := Pol.sub_ne (HX.out.ne (i := i) (j := j) (by omega) (by omega) (by omega))
          have ST := Lib.hid (show Pol.vals (Pol.row n (Pol.mid (Pol.co p) (Pol.co q) o i0)) = (Pol.vals (Pol.row n (Pol.mid (Pol.co p) (Pol.co q) o i))).set i ((Pol.tab (Pol.co p) (Pol.co q) (o + 1) i).val : Int) by
            have h := Pol.row_mid (Pol.co p) (Pol.co q) n o i (by omega) (by omega)
            rw [show i - 1 = i0 by omega] at h
            rw [← h, Pol.vals_set])
          have TS := Lib.hid (Pol.tab_step (Pol.co p) (Pol.co q) o i (by omega))
          rw [show i - (o + 1) = j by omega, show i - 1 = i0 by omega] at TS
          have PUT := Lib.hid (fun (m : Nat) (x : Int) => own_put (hown2.drewN m) i x)
          have HK2 := Lib.hid hkp2
          have f1 : i < n := by omega
          have f2 : i0 < n := by omega
          have f3 : j < n := by omega
          have e1 : (i : Int) - 1 = (i0 : Int) := by omega
          have e2 : (i : Int) - ((o : Int) + 1) = (j : Int) := by omega
          have HI0 := Lib.hid hi0
          have HJ := Lib.hid hj
          clear hown2 hkp2 hln hi0 hj
          generalize Pol.co p i = a1 at *
          generalize Pol.co p j = a0 at *
          generalize Pol.tab (Pol.co p) (Pol.co q) o i = b1 at *
          generalize Pol.tab (Pol.co p) (Pol.co q) o i0 = b0 at *
          have MB := Lib.hid (fun w => minus_el b1 b0 w)
          have MA := Lib.hid (fun w => minus_el a1 a0 w)
          have DV := Lib.hid (fun w => div_el (b1 - b0) (a1 - a0) w ne)
          rw [← TS.out] at DV
          clear TS ne
          unfold el at *
          generalize ((Pol.tab (Pol.co p) (Pol.co q) (o + 1) i).val : Int) = z at *
          generalize ((b1 - b0).val : Int) = db at *
          generalize ((a1 - a0).val : Int) = da at *
          generalize (a1.val : Int) = va1 at *
          generalize (a0.val : Int) = va0 at *
          generalize (b1.val : Int) = vb1 at *
          generalize (b0.val : Int) = vb0 at *
          go_wp2_with fail
          go_quiet ((first
            | (with_reducible exact quiet_here (MB.out _))
            | (with_reducible exact quiet_more (MB.out _))
            | (with_reducible exact quiet_here (MA.out _))
            | (with_reducible exact quiet_more (MA.out _))
            | (with_reducible exact quiet_drew (DV.out _))
            | (with_reducible exact quiet_drew_more (DV.out _))))
          go_wp2_with fail
          go_roundw
          case rel =>
            have h1 := HJ.out
            have h0 := HI0.out
            exact ⟨i0, by omega, by omega, rfl, by rw [ST.out]; exact PUT.out _ _, (HK2.out.drewN _).put (p := ⟨g, i, none⟩) HG.out _⟩
          case measure => simp [intOf]; omega
        · have e : i = o := by omega
          subst e
          have HO2 := Lib.hid (show Own wr w.heap.size (.slice (some ⟨g, 0, none⟩) n c1) (Pol.vals (Pol.row n (Pol.tab (Pol.co p) (Pol.co q) (i + 1)))) by
            rw [← Pol.mid_end]; exact hown2)
          have HK2 := Lib.hid hkp2
          clear hown2 hkp2
          go_wp2_with fail
          go_roundw
          case rel => exact ⟨i + 1, by omega, by go_num, HO2.out, HK2.out⟩
          case measure => simp [intOf]; omega
    · have E := Lib.hid (Pol.tab_end (Pol.co p) (Pol.co q) n o (by omega))
      obtain ⟨A2, c2, e, hl, hc2⟩ := HO.out.cap
      injection e with e1 e2 e3
      subst e1 e3
      rw [E.out, ← ROW.out] at hl
      rw [E.out, ← ROW.out] at hc2
      rw [Pol.len_vals] at hc2
      have HL := Lib.hid hl
      have HC2 := Lib.hid hc2
      have EL := Lib.hid (show n = (stepRow p q).length by rw [len_stepRow, HN.out])
      clear hl hc2 e2
      have hge : (n : Int) ≤ (o : Int) + 1 := by omega
      go_wp2_with fail
      go_ret2
      exact ⟨A1, c1, by rw [← EL.out]; rfl, HL.out, HC2.out, HK.out⟩

end Go.Proofs.Ytologiinkilooaa

/- Contracts of package ipol, third part: Through. -/
namespace Go.Proofs.Ytologiinkilooaa
open Go.ChangeShapes Go.WideShapes Go.ChangeAt Go.RowKit
set_option linter.unusedVariables false

set_option maxRecDepth 100000 in
theorem through_bad (A B : Option Addr) (l m : List Int) (c d : Nat) (w : World) (ha : Lies w A l) (hb : Lies w B m) (hc : l.length ≤ c) (h : dcode l m ≠ 0) :
    Calls Try.prog 31 #[.slice A l.length c, .slice B m.length d] w fun e w' => Fails (dcode l m) w e w' := by
  have C := Lib.hid (steps_bad A B l m c d w ha hb hc h)
  unfold Fails at *
  have e := errOf_ne _ h
  rw [e] at C ⊢
  clear e h ha hb hc
  generalize dcode l m = x at *
  generalize l.length = n at *
  generalize m.length = q at *
  go_enter Try.func31, Try.ntmps31
  go_wp2_with fail
  refine (C.out).mono ?_; rintro e w' ⟨rfl, hk⟩
  have HK := Lib.hid hk
  clear hk
  go_wp2_with fail
  go_ret2
  exact ⟨rfl, HK.out⟩

theorem minus_zero (a : Fp.F) (w : World) :
    Calls Try.prog 56 #[.int .i64 0, el a] w fun e w' => e = .returned (el (-a)) ∧ w = w' := by
  have h := minus_el 0 a w
  rw [show (0 : Fp.F) - a = -a by grind] at h
  exact h

/-- The rule of the divided differences. -/
def stp (p q : List Fp.F) (k : Nat) : Fp.F := Pol.dd (Pol.co p) (Pol.co q) k 0

theorem vals_two (a : Fp.F) : Pol.vals [a, 1] = [(a.val : Int), 1] := rfl
theorem vals_one (a : Fp.F) : Pol.vals [a] = [(a.val : Int)] := rfl

set_option maxRecDepth 100000 in
set_option maxHeartbeats 3200000 in
theorem through_ok (A B : Option Addr) (p q : List Fp.F) (n c d : Nat) (w : World) (ha : Lies w A (Pol.vals p)) (hb : Lies w B (Pol.vals q)) (hn : n = p.length) (hq : n = q.length) (ln : n ≤ 6) (hc : n ≤ c) (hX : Pol.Apart (Pol.co p) n) :
    Calls Try.prog 31 #[.slice A n c, .slice B n d] w fun e w' => Gives (Pol.thr (Pol.co p) (Pol.co q) n) w e w' := by
  have ST := Lib.hid (steps_ok A B p q n c d w ha hb hn hq ln hc hX)
  have HA := Lib.hid ha
  have HN := Lib.hid hn
  have HQ := Lib.hid hq
  clear ha hb hn hq hX hc
  go_enter Try.func31, Try.ntmps31
  go_wp2_with fail
  refine (ST.out).mono ?_; rintro e w1 ⟨A1, c1, rfl, hl1, hc1, hkp⟩
  rw [len_stepRow, ← HN.out] at hc1 ⊢
  have HL1 := Lib.hid hl1
  have HK1 := Lib.hid hkp
  clear hl1 hkp ST
  go_wp2_with fail
  go_loopw [8, 7, 9] (fun f err i wr => ∃ (m len c' : Nat) (A' : Option Addr) (z : Int), m ≤ n ∧ f = .slice A' len c' ∧ len = (Pol.hor (Pol.co p) (stp p q) n m).length ∧ Lies wr A' (Pol.vals (Pol.hor (Pol.co p) (stp p q) n m)) ∧ len ≤ c' ∧
      err = .nilIface ∧ i = .int .i64 z ∧ z = (n : Int) - 1 - (m : Int) ∧ Kp w1 wr) (fun _ _ i _ => (intOf i + 1).toNat)
  case atStart => exact ⟨0, 0, 0, Option.none, _, Nat.zero_le _, rfl, rfl, Lies.empty _ _, Nat.le_refl _, rfl, rfl, by omega, Kp.rfl' _⟩
  case round =>
    obtain ⟨m, len, c', A', z, hm, rfl, hlen, hlies, hc', rfl, rfl, hz, hkp⟩ := hrel
    have HLEN := Lib.hid hlen
    have HLI := Lib.hid hlies
    have HK := Lib.hid hkp
    have LB := Lib.hid (Pol.len_hor (Pol.co p) (stp p q) n m (by omega))
    clear hlen hlies hkp
    by_cases hlt : m < n
    · obtain ⟨k, hk⟩ : ∃ k, k = n - (m + 1) := ⟨_, rfl⟩
      obtain rfl : z = (k : Int) := by omega
      have hkn : k < n := by omega
      have HKM := Lib.hid hk
      have HZ := Lib.hid hz
      clear hz hk
      obtain ⟨ad, rfl, _, xc⟩ := (HA.out.keep (HK1.out.trans HK.out)) k (by rw [Pol.len_vals, ← HN.out]; exact hkn)
      rw [Pol.vals_at] at xc
      have hll : len ≤ 6 := by have := HLEN.out; have := LB.out; omega
      obtain ⟨a, haa⟩ : ∃ a, a = Pol.co p k := ⟨_, rfl⟩
      rw [← haa] at xc
      have MZ := Lib.hid (fun w => minus_zero a w)
      have MU := Lib.hid (fun (w' : World) (B' : Option Addr) (d' : Nat) (hw : Kp wr w') (hB : Lies w' B' (Pol.vals [-a, 1])) => mul_ok' A' B' (Pol.hor (Pol.co p) (stp p q) n m) [-a, 1] len 2 c' d' w' (HLI.out.keep hw) hB HLEN.out rfl (by omega) (by omega))
      obtain ⟨bd, rfl, hbb, yc⟩ := (HL1.out.keep HK.out) k (by rw [Pol.len_vals, len_stepRow, ← HN.out]; exact hkn)
      rw [Pol.vals_at, co_stepRow _ _ _ (by rw [← HN.out]; exact hkn)] at yc
      have HY := Lib.hid (show Lies wr (some (bd.add k)) (Pol.vals [stp p q k]) from fun j hj => by
        obtain rfl : j = 0 := by rw [Pol.len_vals] at hj; simp at hj; exact hj
        exact ⟨_, rfl, by rw [block_add]; exact hbb, by rw [add_add, Nat.add_zero, yc]; rfl⟩)
      have AD := Lib.hid (fun (w' : World) (A2 : Option Addr) (c2 d2 : Nat) (hw : Kp wr w') (hA : Lies w' A2 (Pol.vals (Pol.mul (Pol.hor (Pol.co p) (stp p q) n m) [-a, 1]))) =>
        add_ok' A2 (some (bd.add k)) (Pol.mul (Pol.hor (Pol.co p) (stp p q) n m) [-a, 1]) [stp p q k] _ 1 c2 d2 w' hA (HY.out.keep hw) rfl rfl (by have h1 : (Pol.mul (Pol.hor (Pol.co p) (stp p q) n m) [-a, 1]).length ≤ (Pol.hor (Pol.co p) (stp p q) n m).length + 2 := Pol.len_mul _ _; have := HLEN.out; omega) (by omega))
      have EQ := Lib.hid (show Pol.add (Pol.mul (Pol.hor (Pol.co p) (stp p q) n m) [-a, 1]) [stp p q k] = Pol.hor (Pol.co p) (stp p q) n (m + 1) by rw [Pol.hor, haa, HKM.out])
      have hkc : (k : Int) < (c1 : Int) := by omega
      have hkc2 : (k : Int) + 1 ≤ (c1 : Int) := by omega
      clear haa yc hbb
      unfold el at *
      generalize hv : (a.val : Int) = va at *
      generalize hv' : ((-a).val : Int) = vna at *
      have HV' := Lib.hid hv'
      clear hv hv'
      go_wp2_with fail
      refine (MZ.out _).mono ?_; rintro e w' ⟨rfl, rfl⟩
      go_wp2_with fail
      refine (MU.out _ _ _ ((Kp.rfl' wr).new _) (by rw [vals_two, HV'.out]; exact lies_new wr _ [vna, 1])).mono ?_; rintro e w2 ⟨A2, c2, rfl, hl2, hc2, hk2⟩
      have HL2 := Lib.hid hl2
      have HK2 := Lib.hid (((Kp.rfl' wr).new _).trans hk2)
      clear hl2 hc2 hk2 MU MZ
      go_wp2_with fail
      refine (AD.out _ _ _ _ HK2.out HL2.out).mono ?_; rintro e w3 ⟨A3, c3, rfl, hl3, hc3, hk3⟩
      rw [EQ.out] at hl3 hc3 ⊢
      have HL3 := Lib.hid hl3
      have HC3 := Lib.hid hc3
      have HK3 := Lib.hid (HK.out.trans (HK2.out.trans hk3))
      clear hl3 hc3 hk3 AD EQ
      go_wp2_with fail
      go_roundw
      case rel => exact ⟨m + 1, _, c3, A3, _, by omega, rfl, rfl, HL3.out, HC3.out, rfl, rfl, by have := HZ.out; omega, HK3.out⟩
      case measure => simp [intOf]
    · obtain rfl : m = n := by omega
      obtain rfl : z = -1 := by omega
      have E := Lib.hid (show Pol.hor (Pol.co p) (stp p q) m m = Pol.thr (Pol.co p) (Pol.co q) m from rfl)
      have HT := Lib.hid (HK1.out.trans HK.out)
      go_wp2_with fail
      go_ret2
      exact ⟨A', c', by rw [← E.out, ← HLEN.out]; rfl, by rw [← E.out]; exact HLI.out, by rw [← E.out, ← HLEN.out]; exact hc', HT.out⟩

end Go.Proofs.Ytologiinkilooaa

/- Contracts of package charpoly, second part: Trace, Of. -/
namespace Go.Proofs.Ytologiinkilooaa
open Go.ChangeShapes Go.WideShapes Go.ChangeAt Go.RowKit
set_option linter.unusedVariables false

theorem Trace_bad (A : Option Addr) (m : List (List Int)) (n d : Nat) (w : World) (ha : LiesM w A m) (hn : m.length = n) (h : qcode 5 0 9972 m ≠ 0) :
    Calls Try.prog 14 #[.slice A n d] w fun e w' => e = .returned (.tuple #[.int .i64 0, errOf (qcode 5 0 9972 m)]) ∧ Kp w w' := by
  have CK := Lib.hid (fun w (ha : LiesM w A m) => DChk_any A m n d w ha hn)
  rw [errOf_ne _ h] at CK ⊢
  generalize qcode 5 0 9972 m = z at *
  have HA := Lib.hid ha
  clear ha h hn
  go_enter Try.func14, Try.ntmps14
  go_wp2_with fail
  refine (CK.out _ HA.out).mono ?_; rintro e w' ⟨rfl, rfl⟩
  go_wp2_with fail
  go_ret2
  exact ⟨rfl, Kp.rfl' _⟩

set_option maxRecDepth 100000 in
set_option maxHeartbeats 1600000 in
theorem Trace_ok (A : Option Addr) (f : Nat → Nat → Fp.F) (n d : Nat) (w : World) (ha : LiesM w A (Mx.matl n n f)) (h0 : 0 < n) (hn : n ≤ 5) :
    Calls Try.prog 14 #[.slice A n d] w fun e w' => e = .returned (.tuple #[.int .i64 ((Mx.sg n fun i => f i i).val : Int), .nilIface]) ∧ Kp w w' := by
  have CK := Lib.hid (fun w (ha : LiesM w A (Mx.matl n n f)) => DChk_any A (Mx.matl n n f) n d w ha (Mx.len_matl _ _ _))
  rw [qcode_matl f h0 hn, errOf_zero] at CK
  have HA := Lib.hid ha
  clear ha h0
  go_enter Try.func14, Try.ntmps14
  go_wp2_with fail
  refine (CK.out _ HA.out).mono ?_; rintro e w' ⟨rfl, rfl⟩
  go_wp2_with fail
  go_loop [5, 6, 7, 15] (fun s _ _ i => ∃ (k : Nat) (z : Int), k ≤ n ∧ i = .int .i64 (k : Int) ∧ s = .int .i64 z ∧ 0 ≤ z ∧ z ≤ 9972 * k ∧ Fp.ofInt z = Mx.sg k fun i => f i i) (fun _ _ _ i => n - (intOf i).toNat)
  case atStart => exact ⟨0, 0, Nat.zero_le _, rfl, rfl, by omega, by omega, rfl⟩
  case round =>
    obtain ⟨k, z, hk, rfl, rfl, z0, z1, hz⟩ := hrel
    have HZ := Lib.hid hz
    clear hz
    by_cases hlt : k < n
    · obtain ⟨ad, A1, d1, rfl, _, x1, _, l1⟩ := HA.out.row hlt
      obtain ⟨bd, rfl, _, x2⟩ := l1.el hlt
      have hb := cval (f k k)
      have HF := Lib.hid (show Fp.ofInt (z + ((f k k).val : Int)) = Mx.sg (k + 1) fun i => f i i by rw [Fp.ofInt_add, HZ.out, Fp.ofInt_self, Mx.sg_succ])
      generalize ((f k k).val : Int) = v at *
      have hw : IntKind.i64.wrap (z + v) = z + v := IntWalk.i64_in _ (by omega)
      clear l1
      go_wp2_with fail
      go_round
      case rel => exact ⟨k + 1, z + v, by omega, by go_num, rfl, by omega, by omega, HF.out⟩
      case measure => simp [intOf]; omega
    · obtain rfl : k = n := by omega
      have HM := Lib.hid (show z % 9973 = ((Mx.sg k fun i => f i i).val : Int) by rw [← HZ.out, Fp.ofInt_val])
      go_wp2_with fail
      go_ret2
      refine ⟨?_, Kp.rfl' _⟩
      show Ending.returned (.tuple #[.int .i64 (z % 9973), .nilIface]) = _
      rw [HM.out]

theorem COf_bad (A : Option Addr) (m : List (List Int)) (n d : Nat) (w : World) (ha : LiesM w A m) (hn : m.length = n) (h : qcode 5 0 9972 m ≠ 0) :
    Calls Try.prog 8 #[.slice A n d] w fun e w' => Fails (qcode 5 0 9972 m) w e w' := by
  have CK := Lib.hid (fun w (ha : LiesM w A m) => DChk_any A m n d w ha hn)
  unfold Fails
  rw [errOf_ne _ h] at CK ⊢
  generalize qcode 5 0 9972 m = z at *
  have HA := Lib.hid ha
  clear ha h hn
  go_enter Try.func8, Try.ntmps8
  go_wp2_with fail
  refine (CK.out _ HA.out).mono ?_; rintro e w' ⟨rfl, rfl⟩
  go_wp2_with fail
  go_ret2
  exact ⟨rfl, Kp.rfl' _⟩

theorem vals_snoc (p : List Fp.F) (a : Fp.F) : Pol.vals (p ++ [a]) = Pol.vals p ++ [(a.val : Int)] := by simp [Pol.vals]

set_option maxRecDepth 100000 in
set_option maxHeartbeats 3200000 in
theorem COf_ok (A : Option Addr) (f : Nat → Nat → Fp.F) (n d : Nat) (w : World) (ha : LiesM w A (Mx.matl n n f)) (h0 : 0 < n) (hn : n ≤ 5) :
    Calls Try.prog 8 #[.slice A n d] w fun e w' => Gives (Mx.chl n f) w e w' := by
  have CK := Lib.hid (fun w (ha : LiesM w A (Mx.matl n n f)) => DChk_any A (Mx.matl n n f) n d w ha (Mx.len_matl _ _ _))
  rw [qcode_matl f h0 hn, errOf_zero] at CK
  have HA := Lib.hid ha
  have DI := Lib.hid (fun (x : Nat) (hx : x ≤ 5) w1 (k : Kp w w1) => difference_any A f n d x w1 (ha.keep k) hn hx)
  have OF := Lib.hid (fun (x g : Nat) w1 h => Of_ok (some ⟨g, 0, none⟩) (Mx.chm f (Fp.ofInt (x : Int))) n n w1 h h0 hn)
  have TH := Lib.hid (fun (X Y : Option Addr) (c1 c2 : Nat) w1 h1 h2 (hc : n + 1 ≤ c1) => through_ok X Y (Mx.upto (n + 1)) (Mx.cdet n f (n + 1)) (n + 1) c1 c2 w1 h1 h2 (Mx.len_upto _).symm (Mx.len_cdet _ _ _).symm (by omega) hc (Mx.upto_apart (Nat.le_refl _) (by omega)))
  rw [Mx.thr_chl (by omega)] at TH
  clear ha h0
  go_enter Try.func8, Try.ntmps8
  go_wp2_with fail
  refine (CK.out _ HA.out).mono ?_; rintro e w' ⟨rfl, rfl⟩
  have hwn : IntKind.i64.wrap ((n : Int) + 1) = (n : Int) + 1 := IntWalk.i64_in _ (by omega)
  go_wp2_with fail
  go_loopw [2, 3, 5, 6, 7, 8, 9, 18] (fun _ _ V1 V2 _ _ _ i wr => ∃ k : Nat, k ≤ n + 1 ∧ i = .int .i64 (k : Int) ∧ Two w V1 V2 (Pol.vals (Mx.upto k)) (Pol.vals (Mx.cdet n f k)) wr) (fun _ _ _ _ _ _ _ i _ => n + 1 - (intOf i).toNat)
  case atStart => exact ⟨0, Nat.zero_le _, rfl, ⟨Own.none _ _, Own.none _ _, fun g e => (by cases e), Kp.rfl' _⟩⟩
  case round =>
    obtain ⟨k, hk, rfl, ht⟩ := hrel
    have HT := Lib.hid ht
    clear ht
    by_cases hlt : k < n + 1
    · have hlt' : (k : Int) < (n : Int) + 1 := by omega
      have DI1 := Lib.hid (DI.out k (by omega) wr HT.out.kp)
      have HR1 := Lib.hid (show Pol.vals (Mx.upto (k + 1)) = Pol.vals (Mx.upto k) ++ [(k : Int)] by rw [Mx.upto_succ, vals_snoc, Fp.ofInt_of _ (by omega) (by omega)])
      obtain ⟨y, hy⟩ : ∃ y, y = ((Mx.dt n (Mx.chm f (Fp.ofInt (k : Int)))).val : Int) := ⟨_, rfl⟩
      have HR2 := Lib.hid (show Pol.vals (Mx.cdet n f (k + 1)) = Pol.vals (Mx.cdet n f k) ++ [y] by rw [Mx.cdet_succ, vals_snoc, hy])
      have OF1 := Lib.hid (OF.out k)
      rw [← hy] at OF1
      have hl1 : (Pol.vals (Mx.upto k)).length + 1 ≤ 17000000000000 := by rw [Pol.len_vals, Mx.len_upto]; omega
      have hl2 : (Pol.vals (Mx.cdet n f k)).length + 1 ≤ 17000000000000 := by rw [Pol.len_vals, Mx.len_cdet]; omega
      have HL1 := Lib.hid hl1
      have HL2 := Lib.hid hl2
      obtain ⟨r1, hr1⟩ : ∃ r, r = Pol.vals (Mx.upto k) := ⟨_, rfl⟩
      obtain ⟨r2, hr2⟩ : ∃ r, r = Pol.vals (Mx.cdet n f k) := ⟨_, rfl⟩
      rw [← hr1] at HT HR1 HL1
      rw [← hr2] at HT HR2 HL2
      clear hl1 hl2 hr1 hr2 hy
      go_wp2_with fail
      refine (DI1.out).mono ?_; rintro e w1 ⟨g, rfl, hl, k1⟩
      have HLx := Lib.hid hl
      have HT1 := Lib.hid (show Two w _ _ r1 r2 w1 from ⟨HT.out.one.kp k1, HT.out.two.kp k1, HT.out.apart, HT.out.kp.trans k1⟩)
      clear hl k1 HT DI1
      go_wp2_with fail
      refine (OF1.out g w1 HLx.out).mono ?_; rintro e w2 ⟨rfl, k2⟩
      have HT2 := Lib.hid (show Two w _ _ r1 r2 w2 from ⟨HT1.out.one.kp k2, HT1.out.two.kp k2, HT1.out.apart, HT1.out.kp.trans k2⟩)
      have hs2 := HT2.out.kp.size
      clear k2 HT1 HLx OF1
      go_wp2_with (first
        | (at_builtin; refine wpList_push rfl _ _ rfl w.heap.size _ r1 (k : Int) w2.heap.size 1 rfl rfl (HT2.out.one.new _) (by simp) HL1.out (by simp; omega) ?_; intro v3 w3 h1 h2 h3; have TW := Lib.hid ((HT2.out.new _).grown h1 h2 h3); have hs3 := TW.out.kp.size; clear h1 h2 h3)
        | (at_builtin; refine wpList_push rfl _ _ rfl w.heap.size _ r2 y w3.heap.size 1 rfl rfl (TW.out.two.new _) (by simp) HL2.out (by simp; omega) ?_; intro v4 w4 h1 h2 h3; have TZ := Lib.hid (((TW.out.symm).new _).grown h1 h2 h3).symm; clear h1 h2 h3))
      go_roundw
      case rel => exact ⟨k + 1, by omega, by go_num, by rw [HR1.out, HR2.out]; exact TZ.out⟩
      case measure => simp [intOf]; omega
    · obtain rfl : k = n + 1 := by omega
      obtain ⟨g1, c1, e1, _, hc1⟩ := own_some HT.out.one (by rw [Pol.len_vals, Mx.len_upto]; omega)
      obtain ⟨X, _, e1', L1⟩ := HT.out.one.lies
      obtain ⟨Y, c2, e2, L2⟩ := HT.out.two.lies
      rw [Pol.len_vals, Mx.len_upto] at e1 hc1 e1'
      rw [Pol.len_vals, Mx.len_cdet] at e2
      rw [e1] at e1'
      cases e1'
      subst e1 e2
      have hlt' : ¬ (((n + 1 : Nat) : Int) < (n : Int) + 1) := by omega
      have K3 := Lib.hid HT.out.kp
      have T1 := Lib.hid (TH.out _ Y c1 c2 wr L1 L2 hc1)
      clear HT L1 L2
      go_wp2_with fail
      refine (T1.out).mono ?_; rintro e w2 ⟨Z, cz, rfl, hz, hcz, k2⟩
      have HZ := Lib.hid hz
      have HCZ := Lib.hid hcz
      have K4 := Lib.hid (K3.out.trans k2)
      clear hz hcz k2 K3
      go_wp2_with fail
      go_ret2
      exact ⟨Z, cz, rfl, HZ.out, HCZ.out, K4.out⟩
end Go.Proofs.Ytologiinkilooaa

/- Comparing rows and matrices, small matrices just laid down: for all packages. -/
namespace Go.Proofs.Ytologiinkilooaa
open Go.ChangeShapes Go.WideShapes Go.ChangeAt Go.RowKit
set_option linter.unusedVariables false

set_option maxHeartbeats 1600000 in
theorem ints_drew (A B : Option Addr) (l m : List Int) (c d : Nat) (w : World) (ha : Lies w A l) (hb : Lies w B m) (hn : l.length ≤ 1000000) (hm : m.length ≤ 1000000) :
    Calls Try.prog 16 #[.slice A l.length c, .slice B m.length d] w fun e w' => Tells (l = m) e ∧ Drew w w' := by
  have HA := Lib.hid ha
  have HB := Lib.hid hb
  obtain ⟨n, hn'⟩ : ∃ n, n = l.length := ⟨_, rfl⟩
  obtain ⟨q, hq'⟩ : ∃ q, q = m.length := ⟨_, rfl⟩
  rw [← hn'] at hn ⊢
  rw [← hq'] at hm ⊢
  have HN := Lib.hid hn'
  have HQ := Lib.hid hq'
  clear ha hb hn' hq'
  by_cases he : n = q
  · subst he
    have hne : ((n : Int) != (n : Int)) = false := by simp
    go_enter Try.func16, Try.ntmps16
    go_wp2_with fail
    go_loopw [5] (fun i wr => ∃ k : Nat, k ≤ n ∧ i = .int .i64 (k : Int) ∧ (∀ j, j < k → l.getD j 0 = m.getD j 0) ∧ Drew w wr) (fun i _ => n - (intOf i).toNat)
    case atStart => exact ⟨0, Nat.zero_le _, rfl, fun j hj => absurd hj (by omega), Drew.refl _⟩
    case round =>
      obtain ⟨k, hk, rfl, hg, hkp⟩ := hrel
      have HG := Lib.hid hg
      have HK := Lib.hid hkp
      clear hg hkp
      by_cases hlt : k < n
      · obtain ⟨ad, rfl, _, hc⟩ := (HA.out.keep HK.out.kp) k (by have := HN.out; omega)
        obtain ⟨bd, rfl, _, hd⟩ := (HB.out.keep HK.out.kp) k (by have := HQ.out; omega)
        obtain ⟨x, hx⟩ : ∃ x, x = l.getD k 0 := ⟨_, rfl⟩
        obtain ⟨y, hy⟩ : ∃ y, y = m.getD k 0 := ⟨_, rfl⟩
        rw [← hx] at hc
        rw [← hy] at hd
        by_cases hxy : x = y
        · have GG := Lib.hid (show ∀ j, j < k + 1 → l.getD j 0 = m.getD j 0 from fun j hj => by
            by_cases e : j = k
            · subst e; rw [← hx, ← hy]; exact hxy
            · exact HG.out j (by omega))
          have hb : (x != y) = false := by rw [hxy]; simp
          clear hx hy hxy
          go_wp2_with fail
          go_quiet (fail)
          go_wp2_with fail
          go_roundw
          case rel => exact ⟨k + 1, by omega, by go_num, GG.out, HK.out.more _⟩
          case measure => simp [intOf]; omega
        · have NF := Lib.hid (show ¬ l = m from fun e => hxy (by rw [hx, hy, e]))
          have hb : (x != y) = true := by rw [bne_iff_ne]; exact hxy
          clear hx hy hxy
          go_wp2_with fail
          go_quiet (fail)
          go_wp2_with fail
          go_ret
          exact ⟨.inr ⟨NF.out, rfl⟩, HK.out.more _⟩
      · have YES := Lib.hid (show l = m from list_same l m (by rw [← HN.out, ← HQ.out]) fun j hj => HG.out j (by have := HN.out; omega))
        go_wp2_with fail
        go_ret
        exact ⟨.inl ⟨YES.out, rfl⟩, HK.out⟩
  · have hne : ((n : Int) != (q : Int)) = true := by rw [bne_iff_ne]; omega
    have NF := Lib.hid (show ¬ l = m from fun e => he (by rw [HN.out, HQ.out, e]))
    clear he
    go_enter Try.func16, Try.ntmps16
    go_wp2_with fail
    go_ret
    exact ⟨.inr ⟨NF.out, rfl⟩, Drew.refl _⟩
theorem rows_same (a b : List (List Int)) (h : a.length = b.length) (h2 : ∀ k, k < a.length → a.getD k [] = b.getD k []) : a = b := by
  refine List.ext_getElem h fun k h3 h4 => ?_
  have := h2 k h3
  rwa [List.getD_eq_getElem?_getD, List.getD_eq_getElem?_getD, List.getElem?_eq_getElem h3, List.getElem?_eq_getElem h4] at this

/-- No row is longer than a slice may be. -/
def Modest (m : List (List Int)) : Prop := m.length ≤ 1000000 ∧ ∀ k, k < m.length → (m.getD k []).length ≤ 1000000
theorem modest_tab {r c : Nat} (g : Nat → Nat → Int) (hr : r ≤ 1000000) (hc : c ≤ 1000000) : Modest (Mx.tab r c g) :=
  ⟨by rw [Mx.len_tab]; exact hr, fun k hk => by rw [Mx.len_tab] at hk; rw [Mx.tab_len _ _ _ _ hk]; exact hc⟩
theorem modest_nil : Modest [] := ⟨by decide, fun k hk => absurd hk (by simp)⟩

set_option maxRecDepth 100000 in
set_option maxHeartbeats 1600000 in
theorem rows_any (A B : Option Addr) (a b : List (List Int)) (n m c d : Nat) (w : World) (ha : LiesM w A a) (hb : LiesM w B b) (hn : a.length = n) (hm : b.length = m) (ma : Modest a) (mb : Modest b) :
    Calls Try.prog 28 #[.slice A n c, .slice B m d] w fun e w' => Tells (a = b) e ∧ Drew w w' := by
  have HA := Lib.hid ha
  have HB := Lib.hid hb
  have MA := Lib.hid ma
  have MB := Lib.hid mb
  have HN := Lib.hid hn
  have HM := Lib.hid hm
  have hb : n ≤ 1000000 := by rw [← hn]; exact ma.1
  clear ha ma mb hn hm
  by_cases he : n = m
  · subst he
    have hne : ((n : Int) != (n : Int)) = false := by simp
    go_enter Try.func28, Try.ntmps28
    go_wp2_with fail
    go_loopw [5] (fun i wr => ∃ k : Nat, k ≤ n ∧ i = .int .i64 (k : Int) ∧ (∀ j, j < k → a.getD j [] = b.getD j []) ∧ Drew w wr) (fun i _ => n - (intOf i).toNat)
    case atStart => exact ⟨0, Nat.zero_le _, rfl, fun j hj => absurd hj (by omega), Drew.refl _⟩
    case round =>
      obtain ⟨k, hk, rfl, hg, hkp⟩ := hrel
      have HG := Lib.hid hg
      have HK := Lib.hid hkp
      clear hg hkp
      by_cases hlt : k < n
      · obtain ⟨ad, A1, c1, rfl, _, hc, _, l1⟩ := (HA.out.keep HK.out.kp) k (by have := HN.out; omega)
        obtain ⟨bd, B1, d1, rfl, _, hd, _, l2⟩ := (HB.out.keep HK.out.kp) k (by have := HM.out; omega)
        have IN := Lib.hid (fun i => ints_drew A1 B1 _ _ c1 d1 (wr.drewN i) (l1.keep ((Kp.rfl' wr).drewN i)) (l2.keep ((Kp.rfl' wr).drewN i)) (MA.out.2 k (by have := HN.out; omega)) (MB.out.2 k (by have := HM.out; omega)))
        obtain ⟨x, hx⟩ : ∃ x, x = a.getD k [] := ⟨_, rfl⟩
        obtain ⟨y, hy⟩ : ∃ y, y = b.getD k [] := ⟨_, rfl⟩
        rw [← hx, ← hy] at IN
        rw [← hx] at hc
        rw [← hy] at hd
        by_cases hxy : x = y
        · have GG := Lib.hid (show ∀ j, j < k + 1 → a.getD j [] = b.getD j [] from fun j hj => by
            by_cases e : j = k
            · subst e; rw [← hx, ← hy]; exact hxy
            · exact HG.out j (by omega))
          have IY := Lib.hid (fun i => (IN.out i).mono fun e w' ⟨ht, hd⟩ => (⟨tells_yes ht hxy, hd⟩ : e = Ending.returned (.bool true) ∧ Drew (wr.drewN i) w'))
          generalize x.length = p at *
          generalize y.length = q at *
          clear hx hy hxy l1 l2
          go_wp2_with fail
          go_quiet ((first
            | (with_reducible exact quiet_drew (IY.out _))
            | (with_reducible exact quiet_drew_more (IY.out _))))
          go_wp2_with fail
          go_roundw
          case rel => exact ⟨k + 1, by omega, by go_num, GG.out, HK.out.more _⟩
          case measure => simp [intOf]; omega
        · have NF := Lib.hid (show ¬ a = b from fun e => hxy (by rw [hx, hy, e]))
          have IY := Lib.hid (fun i => (IN.out i).mono fun e w' ⟨ht, hd⟩ => (⟨tells_no ht hxy, hd⟩ : e = Ending.returned (.bool false) ∧ Drew (wr.drewN i) w'))
          generalize x.length = p at *
          generalize y.length = q at *
          clear hx hy hxy l1 l2
          go_wp2_with fail
          go_quiet ((first
            | (with_reducible exact quiet_drew (IY.out _))
            | (with_reducible exact quiet_drew_more (IY.out _))))
          go_wp2_with fail
          go_ret
          exact ⟨.inr ⟨NF.out, rfl⟩, HK.out.more _⟩
      · have YES := Lib.hid (show a = b from rows_same a b (by rw [HN.out, HM.out]) fun j hj => HG.out j (by have := HN.out; omega))
        go_wp2_with fail
        go_ret
        exact ⟨.inl ⟨YES.out, rfl⟩, HK.out⟩
  · have hne : ((n : Int) != (m : Int)) = true := by rw [bne_iff_ne]; omega
    have NF := Lib.hid (show ¬ a = b from fun e => he (by rw [← HN.out, ← HM.out, e]))
    clear he
    go_enter Try.func28, Try.ntmps28
    go_wp2_with fail
    go_ret
    exact ⟨.inr ⟨NF.out, rfl⟩, Drew.refl _⟩
theorem rows_eq (A B : Option Addr) (a b : List (List Int)) (n m c d : Nat) (w : World) (ha : LiesM w A a) (hb : LiesM w B b) (hn : a.length = n) (hm : b.length = m) (ma : Modest a) (mb : Modest b) (h : a = b) :
    Calls Try.prog 28 #[.slice A n c, .slice B m d] w fun e w' => e = .returned (.bool true) ∧ Kp w w' :=
  (rows_any A B a b n m c d w ha hb hn hm ma mb).mono fun e w' ⟨ht, hd⟩ => ⟨tells_yes ht h, hd.kp⟩

theorem cell_just (w : World) (cs : Array Value) (e : TypeId) (g k : Nat) (h : g = w.heap.size) : (w.alloc (.cells cs e)).cell? ⟨g, k, none⟩ = cs[k]? := by
  subst h
  exact cell_of_row _ _ k _ e (0, 0) (heap_alloc_new w _)
/-- What came in: the rows up to the capacity, each with its numbers up to its own; its rows are the first of them. -/
theorem liesM_open {w : World} {a : Addr} {len cap : Nat} {A : Nat → Option Addr} {L C : Nat → Nat} {Z : Nat → List Int} (hl : len ≤ cap)
    (h : ∀ r, r < cap → w.cell? (a.add r) = some (.slice (A r) (L r) (C r)) ∧ L r ≤ C r ∧ C r ≤ maxLen ∧ (Z r).length = C r ∧ (∀ n ∈ Z r, (Lit.int .i64 n).wf = true) ∧ (A r = none → C r = 0) ∧
      ∀ a', A r = some a' → 0 ≤ a'.block ∧ ∀ c, c < C r → w.cell? (a'.add c) = some (.int .i64 ((Z r).getD c 0))) :
    ((List.range len).map fun r => (Z r).take (L r)).length = len ∧ LiesM w (some a) ((List.range len).map fun r => (Z r).take (L r)) := by
  refine ⟨by simp, fun k hk => ?_⟩
  have hk' : k < len := by simpa using hk
  obtain ⟨h1, h2, _, h4, _, h6, h7⟩ := h k (by omega)
  have e : ((List.range len).map fun r => (Z r).take (L r)).getD k [] = (Z k).take (L k) := by simp [hk']
  have el : ((Z k).take (L k)).length = L k := by rw [List.length_take]; omega
  rw [e, el]
  refine ⟨a, A k, C k, rfl, ?_, h1, h2, ?_⟩
  · have := cell_lt h1; rwa [block_add] at this
  · cases hA : A k with
    | none =>
      intro j hj
      have := h6 hA
      rw [el] at hj
      omega
    | some a' => exact (lies_take (w := w) (x := a') h2 h4 (fun i hi => (h7 a' hA).2 i (by omega))).2
/-- Two rows of two, and the heads of both, just laid down. -/
def laid22 (w : World) (x : Nat → Nat → Int) : World :=
  ((w.alloc (.cells #[.int .i64 (x 0 0), .int .i64 (x 0 1)] 3)).alloc (.cells #[.int .i64 (x 1 0), .int .i64 (x 1 1)] 3)).alloc (.cells #[.slice (some ⟨w.heap.size, 0, none⟩) 2 2, .slice (some ⟨w.heap.size + 1, 0, none⟩) 2 2] 24)
theorem laid22_kp (w : World) (x : Nat → Nat → Int) : Kp w (laid22 w x) := (((Kp.rfl' w).new _).new _).new _
theorem laid22_size (w : World) (x : Nat → Nat → Int) : (laid22 w x).heap.size = w.heap.size + 3 := by simp [laid22]
theorem laid22_lies (w : World) (x : Nat → Nat → Int) : LiesM (laid22 w x) (some ⟨w.heap.size + 2, 0, none⟩) (Mx.tab 2 2 x) := by
  have h0 : Lies (w.alloc (.cells #[.int .i64 (x 0 0), .int .i64 (x 0 1)] 3)) (some ⟨w.heap.size, 0, none⟩) (Mx.row 2 (x 0)) := lies_new' w _ [x 0 0, x 0 1] _ rfl
  have h1 : Lies ((w.alloc (.cells #[.int .i64 (x 0 0), .int .i64 (x 0 1)] 3)).alloc (.cells #[.int .i64 (x 1 0), .int .i64 (x 1 1)] 3)) (some ⟨w.heap.size + 1, 0, none⟩) (Mx.row 2 (x 1)) :=
    lies_new' (w.alloc _) _ [x 1 0, x 1 1] _ (by simp)
  have k2 := ((Kp.rfl' (w.alloc (.cells #[.int .i64 (x 0 0), .int .i64 (x 0 1)] 3))).new (.cells #[.int .i64 (x 1 0), .int .i64 (x 1 1)] 3)).new (.cells #[.slice (some ⟨w.heap.size, 0, none⟩) 2 2, .slice (some ⟨w.heap.size + 1, 0, none⟩) 2 2] 24)
  have k3 := (Kp.rfl' ((w.alloc (.cells #[.int .i64 (x 0 0), .int .i64 (x 0 1)] 3)).alloc (.cells #[.int .i64 (x 1 0), .int .i64 (x 1 1)] 3))).new (.cells #[.slice (some ⟨w.heap.size, 0, none⟩) 2 2, .slice (some ⟨w.heap.size + 1, 0, none⟩) 2 2] 24)
  have hs : w.heap.size + 2 < (laid22 w x).heap.size := by rw [laid22_size]; omega
  intro k hk
  rw [Mx.len_tab] at hk
  match k, hk with
  | 0, _ => exact ⟨_, some ⟨w.heap.size, 0, none⟩, 2, rfl, hs, by rw [add_at]; unfold laid22; rw [cell_just _ _ _ _ _ (by simp)]; simp [Mx.tab, Mx.row], by simp [Mx.tab, Mx.row], h0.keep k2⟩
  | 1, _ => exact ⟨_, some ⟨w.heap.size + 1, 0, none⟩, 2, rfl, hs, by rw [add_at]; unfold laid22; rw [cell_just _ _ _ _ _ (by simp)]; simp [Mx.tab, Mx.row], by simp [Mx.tab, Mx.row], h1.keep k3⟩

def n22 (a b c d : Int) : Nat → Nat → Int := fun i j => if i = 0 then (if j = 0 then a else b) else (if j = 0 then c else d)
/-- The same with the numbers and the block as they stand in a walk. -/
abbrev lit22 (w : World) (g : Nat) (a b c d : Int) : World :=
  ((w.alloc (.cells #[.int .i64 a, .int .i64 b] 3)).alloc (.cells #[.int .i64 c, .int .i64 d] 3)).alloc (.cells #[.slice (some ⟨g, 0, none⟩) 2 2, .slice (some ⟨g + 1, 0, none⟩) 2 2] 24)
theorem lit22_lies (w : World) (g : Nat) (a b c d : Int) (h : g = w.heap.size) : LiesM (lit22 w g a b c d) (some ⟨g + 1 + 1, 0, none⟩) (Mx.tab 2 2 (n22 a b c d)) := by
  subst h
  exact laid22_lies w (n22 a b c d)
theorem lit22_kp (w : World) (g : Nat) (a b c d : Int) : Kp w (lit22 w g a b c d) := (((Kp.rfl' w).new _).new _).new _
theorem lit22_size (w : World) (g : Nat) (a b c d : Int) : (lit22 w g a b c d).heap.size = w.heap.size + 1 + 1 + 1 := by simp [lit22]

end Go.Proofs.Ytologiinkilooaa

/- Good matrices, as package mat wants them. For all packages on matrices. -/
namespace Go.Proofs.Ytologiinkilooaa
set_option linter.unusedVariables false

def f22 (a b c d : Fp.F) : Nat → Nat → Fp.F := fun i j => if i = 0 then (if j = 0 then a else b) else (if j = 0 then c else d)
/-- A matrix of r rows and c columns, as package mat wants it. -/
structure Sh (r c : Nat) (f : Nat → Nat → Fp.F) (m : List (List Int)) : Prop where
  eq : m = Mx.matl r c f
  r0 : 0 < r
  r5 : r ≤ 5
  c0 : 0 < c
  c5 : c ≤ 5
theorem Sh.len {r c : Nat} {f : Nat → Nat → Fp.F} {m : List (List Int)} (h : Sh r c f m) : m.length = r := by rw [h.eq, Mx.len_matl]
theorem Sh.mat {r c : Nat} {f : Nat → Nat → Fp.F} {m : List (List Int)} (h : Sh r c f m) : Sh r c f (Mx.matl r c f) := ⟨rfl, h.r0, h.r5, h.c0, h.c5⟩
theorem sh_or (m : List (List Int)) : (Mx.mcode 5 0 9972 m = 0 ∧ ∃ r c f, Sh r c f m) ∨ Mx.mcode 5 0 9972 m ≠ 0 := by
  by_cases h : Mx.mcode 5 0 9972 m = 0
  · obtain ⟨r, c, f, e, h1, h2, h3, h4⟩ := Mx.mcode_zero h
    exact .inl ⟨h, r, c, f, ⟨e, h1, h2, h3, h4⟩⟩
  · exact .inr h
theorem Sh.code {r c : Nat} {f : Nat → Nat → Fp.F} {m : List (List Int)} (h : Sh r c f m) : Mx.mcode 5 0 9972 m = 0 := by
  rw [h.eq]; exact Mx.mcode_matl f h.r0 h.r5 h.c0 h.c5

theorem Sh.mul {r q k : Nat} {f f' : Nat → Nat → Fp.F} {a b : List (List Int)} (sa : Sh r q f a) (sb : Sh q k f' b) : Sh r k (Mx.mul q f f') (Mx.matl r k (Mx.mul q f f')) := ⟨rfl, sa.r0, sa.r5, sb.c0, sb.c5⟩
theorem Sh.flip {r q : Nat} {f : Nat → Nat → Fp.F} {a : List (List Int)} (sa : Sh r q f a) : Sh q r (Mx.flip f) (Mx.matl q r (Mx.flip f)) := ⟨rfl, sa.c0, sa.c5, sa.r0, sa.r5⟩
theorem Sh.plus {r q : Nat} {f f' : Nat → Nat → Fp.F} {a : List (List Int)} (sa : Sh r q f a) : Sh r q (Mx.plus f f') (Mx.matl r q (Mx.plus f f')) := ⟨rfl, sa.r0, sa.r5, sa.c0, sa.c5⟩
theorem Sh.pow {r : Nat} {f : Nat → Nat → Fp.F} {a : List (List Int)} (sa : Sh r r f a) (k : Nat) : Sh r r (Mx.pwm r f k) (Mx.matl r r (Mx.pwm r f k)) := ⟨rfl, sa.r0, sa.r5, sa.c0, sa.c5⟩
theorem Sh.one {r q : Nat} {f : Nat → Nat → Fp.F} {a : List (List Int)} (sa : Sh r q f a) : Sh r r Mx.one (Mx.matl r r Mx.one) := ⟨rfl, sa.r0, sa.r5, sa.r0, sa.r5⟩
theorem Sh.modest {r q : Nat} {f : Nat → Nat → Fp.F} {a : List (List Int)} (sa : Sh r q f a) : Modest a := by
  rw [sa.eq]; exact modest_tab _ (Nat.le_trans sa.r5 (by decide)) (Nat.le_trans sa.c5 (by decide))

end Go.Proofs.Ytologiinkilooaa

/- What det says of whatever comes in; its closed fact. -/
namespace Go.Proofs.Ytologiinkilooaa
open Go.ChangeShapes Go.WideShapes Go.ChangeAt Go.RowKit
set_option linter.unusedVariables false

theorem sq_or (m : List (List Int)) {n : Nat} (hn : m.length = n) : (∃ f, Sh n n f m) ∨ qcode 5 0 9972 m ≠ 0 := by
  by_cases h : qcode 5 0 9972 m = 0
  · obtain ⟨h1, h2⟩ := qcode_zero h
    obtain ⟨r, c, f, e, r0, r5, c0, c5⟩ := Mx.mcode_zero h1
    have hr : r = n := by rw [← hn, e, Mx.len_matl]
    have hc : c = n := by
      rw [e, Mx.len_matl] at h2
      rw [← hr, h2]
      exact (Mx.tab_len r c _ 0 r0).symm
    subst hr hc
    exact .inl ⟨f, e, r0, r5, c0, c5⟩
  · exact .inr h
theorem Sh.code2 {n : Nat} {f : Nat → Nat → Fp.F} {m : List (List Int)} (h : Sh n n f m) : qcode 5 0 9972 m = 0 := by
  rw [h.eq]; exact qcode_matl f h.r0 h.r5

theorem Of_or (A : Option Addr) (m : List (List Int)) (n d : Nat) (hn : m.length = n) :
    (∃ f, Sh n n f m) ∨ ∀ (w : World), LiesM w A m → Calls Try.prog 13 #[.slice A n d] w fun e w' => ∃ z : Nat, e = .returned (.tuple #[.int .i64 0, .iface 50 (.int .i64 (z : Int))]) ∧ Kp w w' := by
  rcases sq_or m hn with h | h
  · exact .inl h
  · exact .inr fun w ha => ((Of_bad A m n d w ha hn h).mono fun e w' h' => ⟨qcode 5 0 9972 m, by rw [h'.1, errOf_ne _ h], h'.2⟩)
theorem Of_sh {A : Option Addr} {m : List (List Int)} {n : Nat} {f : Nat → Nat → Fp.F} (s : Sh n n f m) (d : Nat) (w : World) (ha : LiesM w A m) :
    Calls Try.prog 13 #[.slice A n d] w fun e w' => e = .returned (.tuple #[.int .i64 ((Mx.dt n f).val : Int), .nilIface]) ∧ Kp w w' := by
  rw [s.eq] at ha
  exact Of_ok A f n d w ha s.r0 s.r5

def fdet : Nat → Nat → Fp.F := f22 1 2 3 4
theorem fdet_mat : Mx.tab 2 2 (n22 1 2 3 4) = Mx.matl 2 2 fdet := by decide +kernel
theorem fdet_val : ((Mx.dt 2 fdet).val : Int) = 9971 := by decide +kernel
theorem sp_10 : Mx.sp 2 (fun i => [(1 : Int), 0].getD i 0) = -1 := by decide +kernel
theorem sp_11 : Mx.sp 2 (fun i => [(1 : Int), 1].getD i 0) = 0 := by decide +kernel


end Go.Proofs.Ytologiinkilooaa

/- What the laws on package charpoly share: the closed fact, the cases, what a row of factors holds. -/
namespace Go.Proofs.Ytologiinkilooaa
open Go.ChangeShapes Go.WideShapes Go.ChangeAt Go.RowKit
set_option linter.unusedVariables false

theorem minus_mod (d : Fp.F) : (-(d.val : Int)) % 9973 = ((-d : Fp.F).val : Int) := by
  rw [← Fp.ofInt_val]
  congr 2
  have h2 := Fp.ofInt_add (-(d.val : Int)) (d.val : Int)
  rw [Fp.ofInt_self, show -(d.val : Int) + (d.val : Int) = 0 by omega, show Fp.ofInt 0 = 0 from by decide] at h2
  grind
theorem val_mod (d : Fp.F) : (d.val : Int) % 9973 = (d.val : Int) := by have := d.isLt; omega
theorem vals_el {w : World} {A : Option Addr} {p : List Fp.F} (h : Lies w A (Pol.vals p)) {k : Nat} (hk : k < p.length) : ∃ ad, A = some ad ∧ ad.block < w.heap.size ∧ w.cell? (ad.add k) = some (.int .i64 ((Pol.co p k).val : Int)) := by
  obtain ⟨ad, e, hl, hc⟩ := h k (by rw [Pol.len_vals]; exact hk)
  rw [Pol.vals_at] at hc
  exact ⟨ad, e, hl, hc⟩
theorem chl_el {w : World} {A : Option Addr} {n : Nat} {f : Nat → Nat → Fp.F} (h : Lies w A (Pol.vals (Mx.chl n f))) {k : Nat} (hk : k ≤ n) : ∃ ad, A = some ad ∧ ad.block < w.heap.size ∧ w.cell? (ad.add k) = some (.int .i64 ((Mx.ch n f k).val : Int)) := by
  obtain ⟨ad, e, hl, hc⟩ := vals_el h (k := k) (by rw [Mx.len_chl]; omega)
  rw [Mx.co_chl f hk] at hc
  exact ⟨ad, e, hl, hc⟩

/-- A row of factors is the answer. -/
def GivesCh (n : Nat) (f : Nat → Nat → Fp.F) (w : World) (e : Ending) (w' : World) : Prop :=
  ∃ A c, e = .returned (.tuple #[.slice A (n + 1) c, .nilIface]) ∧ Lies w' A (Pol.vals (Mx.chl n f)) ∧ n + 1 ≤ c ∧ Kp w w'

theorem COf_or (A : Option Addr) (m : List (List Int)) (n d : Nat) (hn : m.length = n) :
    (∃ f, Sh n n f m) ∨ ∀ (w : World), LiesM w A m → Calls Try.prog 8 #[.slice A n d] w fun e w' => ∃ z : Nat, e = .returned (.tuple #[.slice none 0 0, .iface 50 (.int .i64 (z : Int))]) ∧ Kp w w' := by
  rcases sq_or m hn with h | h
  · exact .inl h
  · exact .inr fun w ha => ((COf_bad A m n d w ha hn h).mono fun e w' h' => ⟨qcode 5 0 9972 m, by rw [h'.1, errOf_ne _ h], h'.2⟩)
theorem COf_sh {A : Option Addr} {m : List (List Int)} {n : Nat} {f : Nat → Nat → Fp.F} (s : Sh n n f m) (d : Nat) (w : World) (ha : LiesM w A m) :
    Calls Try.prog 8 #[.slice A n d] w fun e w' => GivesCh n f w e w' := by
  rw [s.eq] at ha
  refine (COf_ok A f n d w ha s.r0 s.r5).mono fun e w' h => ?_
  unfold Gives at h
  rw [Mx.len_chl] at h
  exact h
theorem Trace_sh {A : Option Addr} {m : List (List Int)} {n : Nat} {f : Nat → Nat → Fp.F} (s : Sh n n f m) (d : Nat) (w : World) (ha : LiesM w A m) :
    Calls Try.prog 14 #[.slice A n d] w fun e w' => e = .returned (.tuple #[.int .i64 ((Mx.sg n fun i => f i i).val : Int), .nilIface]) ∧ Kp w w' := by
  rw [s.eq] at ha
  exact Trace_ok A f n d w ha s.r0 s.r5
theorem Trace_or (A : Option Addr) (m : List (List Int)) (n d : Nat) (hn : m.length = n) :
    (∃ f, Sh n n f m) ∨ ∀ (w : World), LiesM w A m → Calls Try.prog 14 #[.slice A n d] w fun e w' => ∃ z : Nat, e = .returned (.tuple #[.int .i64 0, .iface 50 (.int .i64 (z : Int))]) ∧ Kp w w' := by
  rcases sq_or m hn with h | h
  · exact .inl h
  · exact .inr fun w ha => ((Trace_bad A m n d w ha hn h).mono fun e w' h' => ⟨qcode 5 0 9972 m, by rw [h'.1, errOf_ne _ h], h'.2⟩)

theorem fch_val : Pol.vals (Mx.chl 2 fdet) = [9971, 9968, 1] := by decide +kernel

set_option maxRecDepth 100000 in
set_option maxHeartbeats 1600000 in
theorem charFact_any (w : World) : Calls Try.prog 7 #[] w fun e w' => e = .returned (.bool true) ∧ Kp w w' := by
  have A1 : LiesM (lit22 w w.heap.size 1 2 3 4) (some ⟨w.heap.size + 1 + 1, 0, none⟩) (Mx.matl 2 2 fdet) := by
    rw [← fdet_mat]; exact lit22_lies w _ 1 2 3 4 rfl
  have O1 := Lib.hid (COf_ok _ fdet 2 2 _ A1 (by decide) (by decide))
  unfold Gives at O1
  rw [fch_val, Mx.len_chl] at O1
  clear A1
  go_enter Try.func7, Try.ntmps7
  go_wp2_with fail
  refine (O1.out).mono ?_; rintro e w1 ⟨Z, cz, rfl, hz, hcz, k1⟩
  have K1 := Lib.hid ((lit22_kp w w.heap.size 1 2 3 4).trans k1)
  have HZ := Lib.hid hz
  clear k1 O1 hz hcz
  go_wp2_with fail
  refine (same_eq Z _ _ _ 3 3 cz 3 _ (HZ.out.keep ((Kp.rfl' w1).new _)) (lies_new w1 3 [9971, 9968, 1]) rfl rfl (by decide) rfl).mono ?_; rintro e w2 ⟨rfl, k2⟩
  have K2 := Lib.hid ((K1.out.new _).trans k2)
  clear k2
  go_wp2_with fail
  go_ret
  exact ⟨rfl, K2.out⟩
end Go.Proofs.Ytologiinkilooaa

/- The mathematics of determinants once more, over the whole numbers. No program is named here. -/
namespace Go.Proofs.Ytologiinkilooaa.Zx
set_option linter.unusedVariables false

/-- The sum of the first n values. -/
def sg : Nat → (Nat → Int) → Int
  | 0, _ => 0
  | n + 1, f => sg n f + f n
theorem sg_zero (f : Nat → Int) : sg 0 f = 0 := rfl
theorem sg_succ (n : Nat) (f : Nat → Int) : sg (n + 1) f = sg n f + f n := rfl
theorem sg_congr {n : Nat} {f g : Nat → Int} (h : ∀ i, i < n → f i = g i) : sg n f = sg n g := by
  induction n with
  | zero => rfl
  | succ n ih => rw [sg, sg, ih fun i hi => h i (by omega), h n (by omega)]
theorem sg_none (n : Nat) : sg n (fun _ => 0) = 0 := by
  induction n with
  | zero => rfl
  | succ n ih => rw [sg, ih]; grind
theorem sg_add (n : Nat) (f g : Nat → Int) : sg n (fun i => f i + g i) = sg n f + sg n g := by
  induction n with
  | zero => simp only [sg]; grind
  | succ n ih => rw [sg, sg, sg, ih]; grind
theorem sg_times (n : Nat) (a : Int) (f : Nat → Int) : sg n (fun i => a * f i) = a * sg n f := by
  induction n with
  | zero => simp only [sg]; grind
  | succ n ih => rw [sg, sg, ih]; grind
theorem sg_by (n : Nat) (a : Int) (f : Nat → Int) : sg n (fun i => f i * a) = sg n f * a := by
  induction n with
  | zero => simp only [sg]; grind
  | succ n ih => rw [sg, sg, ih]; grind
theorem sg_swap (n m : Nat) (f : Nat → Nat → Int) : sg n (fun i => sg m (f i)) = sg m (fun j => sg n (fun i => f i j)) := by
  induction n with
  | zero => simp only [sg]; exact (sg_none m).symm
  | succ n ih => rw [sg, ih, ← sg_add]; rfl
/-- A sum in which one term alone is not nought. -/
theorem sg_one {n : Nat} {f : Nat → Int} {k : Nat} (hk : k < n) (h : ∀ i, i < n → i ≠ k → f i = 0) : sg n f = f k := by
  induction n with
  | zero => omega
  | succ n ih =>
    rw [sg]
    by_cases e : k = n
    · subst e
      rw [sg_congr (g := fun _ => 0) fun i hi => h i (by omega) (by omega), sg_none]; grind
    · rw [ih (by omega) fun i hi => h i (by omega), h n (by omega) (fun e' => e e'.symm)]; grind
/-- Products, the one that changes nothing, powers, turned. -/
def mul (k : Nat) (f g : Nat → Nat → Int) : Nat → Nat → Int := fun i j => sg k fun x => f i x * g x j
def plus (f g : Nat → Nat → Int) : Nat → Nat → Int := fun i j => f i j + g i j
def one : Nat → Nat → Int := fun i j => if i = j then 1 else 0
def flip (f : Nat → Nat → Int) : Nat → Nat → Int := fun i j => f j i
/-- Alike on the first rows and columns. -/
def Eqm (r c : Nat) (f g : Nat → Nat → Int) : Prop := ∀ i j, i < r → j < c → f i j = g i j
theorem Eqm.rfl' (r c : Nat) (f : Nat → Nat → Int) : Eqm r c f f := fun _ _ _ _ => rfl
theorem Eqm.symm {r c : Nat} {f g : Nat → Nat → Int} (h : Eqm r c f g) : Eqm r c g f := fun i j hi hj => (h i j hi hj).symm
theorem Eqm.trans {r c : Nat} {f g k : Nat → Nat → Int} (h : Eqm r c f g) (h' : Eqm r c g k) : Eqm r c f k := fun i j hi hj => (h i j hi hj).trans (h' i j hi hj)
theorem Eqm.mul {r k c : Nat} {f f' g g' : Nat → Nat → Int} (h : Eqm r k f f') (h' : Eqm k c g g') : Eqm r c (Zx.mul k f g) (Zx.mul k f' g') := fun i j hi hj =>
  sg_congr fun x hx => by rw [h i x hi hx, h' x j hx hj]
theorem Eqm.plus {r c : Nat} {f f' g g' : Nat → Nat → Int} (h : Eqm r c f f') (h' : Eqm r c g g') : Eqm r c (Zx.plus f g) (Zx.plus f' g') := fun i j hi hj => by
  show f i j + g i j = f' i j + g' i j
  rw [h i j hi hj, h' i j hi hj]

theorem mul_assoc (m n : Nat) (f g h : Nat → Nat → Int) : mul n (mul m f g) h = mul m f (mul n g h) := by
  funext i j
  show sg n (fun y => sg m (fun x => f i x * g x y) * h y j) = sg m fun x => f i x * sg n fun y => g x y * h y j
  have e1 : (fun y => sg m (fun x => f i x * g x y) * h y j) = fun y => sg m fun x => f i x * (g x y * h y j) := by
    funext y
    rw [← sg_by]
    exact sg_congr fun x _ => by grind
  have e2 : (fun x => f i x * sg n fun y => g x y * h y j) = fun x => sg n fun y => f i x * (g x y * h y j) := by
    funext x
    rw [← sg_times]
  rw [e1, e2, sg_swap]
theorem mul_plus (n : Nat) (f g h : Nat → Nat → Int) : mul n f (plus g h) = plus (mul n f g) (mul n f h) := by
  funext i j
  show sg n (fun x => f i x * (g x j + h x j)) = sg n (fun x => f i x * g x j) + sg n fun x => f i x * h x j
  rw [← sg_add]
  exact sg_congr fun x _ => by grind
theorem plus_mul (n : Nat) (f g h : Nat → Nat → Int) : mul n (plus f g) h = plus (mul n f h) (mul n g h) := by
  funext i j
  show sg n (fun x => (f i x + g i x) * h x j) = sg n (fun x => f i x * h x j) + sg n fun x => g i x * h x j
  rw [← sg_add]
  exact sg_congr fun x _ => by grind
theorem one_mul (r c : Nat) (f : Nat → Nat → Int) : Eqm r c (mul r one f) f := fun i j hi hj => by
  show sg r (fun x => (if i = x then (1 : Int) else 0) * f x j) = f i j
  rw [sg_one hi fun x _ hne => by rw [if_neg fun e => hne e.symm]; grind]
  rw [if_pos rfl]; grind
theorem mul_one (r c : Nat) (f : Nat → Nat → Int) : Eqm r c (mul c f one) f := fun i j hi hj => by
  show sg c (fun x => f i x * (if x = j then (1 : Int) else 0)) = f i j
  rw [sg_one hj fun x _ hne => by rw [if_neg hne]; grind]
  rw [if_pos rfl]; grind
theorem flip_mul (k : Nat) (f g : Nat → Nat → Int) : flip (mul k f g) = mul k (flip g) (flip f) := by
  funext i j
  exact sg_congr fun x _ => by show f j x * g x i = g x i * f j x; grind
theorem flip_flip (f : Nat → Nat → Int) : flip (flip f) = f := rfl

theorem sg_split (n m : Nat) (f : Nat → Int) : sg (n + m) f = sg n f + sg m (fun i => f (n + i)) := by
  induction m with
  | zero => rw [Nat.add_zero, sg_zero]; grind
  | succ m ih => rw [← Nat.add_assoc, sg_succ, sg_succ, ih]; grind
/-- Terms of nought behind the first n. -/
theorem sg_less {n m : Nat} {f : Nat → Int} (h : n ≤ m) (h0 : ∀ i, n ≤ i → i < m → f i = 0) : sg m f = sg n f := by
  obtain ⟨d, rfl⟩ := Nat.exists_eq_add_of_le h
  rw [sg_split, sg_congr (g := fun _ => 0) fun i hi => h0 (n + i) (by omega) (by omega), sg_none]; grind
/-- A sum that is not nought has a term that is not. -/
theorem sg_ne {n : Nat} {f : Nat → Int} (h : sg n f ≠ 0) : ∃ i, i < n ∧ f i ≠ 0 := by
  refine Classical.byContradiction fun hn => h ?_
  rw [sg_congr (g := fun _ => 0) fun i hi => Classical.byContradiction fun he => hn ⟨i, hi, he⟩, sg_none]

open Mx (sk sk_lt sk_ne sk_inj un sk_un un_lt sk_eq sk_zero tau tau_zero tau_next sw sw_left sw_right sw_none sw_sw sw_lt sw_inj onto into by_swaps perm_of turn turn_next)
/-- Without row a and column b. -/
def wo (f : Nat → Nat → Int) (a b : Nat) : Nat → Nat → Int := fun i j => f (sk a i) (sk b j)
theorem one_sk (a i j : Nat) : one (sk a i) (sk a j) = one i j := by
  unfold one
  by_cases h : i = j
  · rw [if_pos h, if_pos (by rw [h])]
  · rw [if_neg h, if_neg (fun e => h (sk_inj e))]
/-- The sign of a place. -/
def sgn (j : Nat) : Int := if j % 2 = 0 then 1 else -1
theorem sgn_succ (j : Nat) : sgn (j + 1) = -(sgn j) := by
  unfold sgn
  by_cases h : j % 2 = 0
  · rw [if_pos h, if_neg (by omega)]
  · rw [if_neg h, if_pos (by omega)]; grind
/-- Without the first row and column j. -/
def del (j : Nat) (f : Nat → Nat → Int) : Nat → Nat → Int := fun a b => f (a + 1) (sk j b)
/-- The determinant, by the first row. -/
def dt : Nat → (Nat → Nat → Int) → Int
  | 0, _ => 1
  | n + 1, f => sg (n + 1) fun j => sgn j * f 0 j * dt n (del j f)
theorem dt_succ (n : Nat) (f : Nat → Nat → Int) : dt (n + 1) f = sg (n + 1) fun j => sgn j * f 0 j * dt n (del j f) := rfl
theorem dt_congr : ∀ (n : Nat) {f g : Nat → Nat → Int}, Eqm n n f g → dt n f = dt n g
  | 0, _, _, _ => rfl
  | n + 1, f, g, h => sg_congr fun j hj => by
    have e : dt n (del j f) = dt n (del j g) := dt_congr n fun a b ha hb => h (a + 1) (sk j b) (by omega) (sk_lt hb)
    rw [h 0 j (Nat.succ_pos n) hj, e]

/-- Column c in the place of its own. -/
def setc (c : Nat) (u : Nat → Int) (f : Nat → Nat → Int) : Nat → Nat → Int := fun i j => if j = c then u i else f i j
theorem del_same (c : Nat) (u : Nat → Int) (f : Nat → Nat → Int) : del c (setc c u f) = del c f := by
  funext a b
  show (if sk c b = c then u (a + 1) else f (a + 1) (sk c b)) = _
  rw [if_neg (sk_ne c b)]; rfl
theorem del_other {j c : Nat} (h : j ≠ c) (u : Nat → Int) (f : Nat → Nat → Int) : del j (setc c u f) = setc (un j c) (fun a => u (a + 1)) (del j f) := by
  funext a b
  show (if sk j b = c then u (a + 1) else f (a + 1) (sk j b)) = if b = un j c then u (a + 1) else f (a + 1) (sk j b)
  by_cases e : b = un j c
  · rw [if_pos e, if_pos ((sk_eq h).2 e)]
  · rw [if_neg e, if_neg fun e' => e ((sk_eq h).1 e')]
theorem dt_lin : ∀ (n c : Nat) (hc : c < n) (a b : Int) (u w : Nat → Int) (f : Nat → Nat → Int),
    dt n (setc c (fun i => a * u i + b * w i) f) = a * dt n (setc c u f) + b * dt n (setc c w f)
  | 0, c, hc, _, _, _, _, _ => absurd hc (by omega)
  | n + 1, c, hc, a, b, u, w, f => by
    rw [dt_succ, dt_succ, dt_succ, ← sg_times, ← sg_times, ← sg_add]
    refine sg_congr fun j hj => ?_
    by_cases h : j = c
    · subst h
      rw [del_same, del_same, del_same]
      show sgn j * (if j = j then a * u 0 + b * w 0 else f 0 j) * dt n (del j f) = a * (sgn j * (if j = j then u 0 else f 0 j) * dt n (del j f)) + b * (sgn j * (if j = j then w 0 else f 0 j) * dt n (del j f))
      rw [if_pos rfl, if_pos rfl, if_pos rfl]; grind
    · rw [del_other h, del_other h, del_other h, dt_lin n (un j c) (un_lt h hc hj) a b (fun i => u (i + 1)) (fun i => w (i + 1))]
      show sgn j * (if j = c then a * u 0 + b * w 0 else f 0 j) * _ = a * (sgn j * (if j = c then u 0 else f 0 j) * _) + b * (sgn j * (if j = c then w 0 else f 0 j) * _)
      rw [if_neg h, if_neg h, if_neg h]; grind
theorem setc_self (c : Nat) (f : Nat → Nat → Int) : setc c (fun i => f i c) f = f := by
  funext i j
  show (if j = c then f i c else f i j) = f i j
  by_cases h : j = c
  · rw [if_pos h, h]
  · rw [if_neg h]
theorem setc_setc (c : Nat) (u w : Nat → Int) (f : Nat → Nat → Int) : setc c u (setc c w f) = setc c u f := by
  funext i j
  show (if j = c then u i else if j = c then w i else f i j) = if j = c then u i else f i j
  by_cases h : j = c
  · rw [if_pos h, if_pos h]
  · rw [if_neg h, if_neg h, if_neg h]
theorem setc_comm {c d : Nat} (h : c ≠ d) (u w : Nat → Int) (f : Nat → Nat → Int) : setc c u (setc d w f) = setc d w (setc c u f) := by
  funext i j
  show (if j = c then u i else if j = d then w i else f i j) = if j = d then w i else if j = c then u i else f i j
  by_cases h1 : j = c
  · rw [if_pos h1, if_neg (by omega), if_pos h1]
  · rw [if_neg h1, if_neg h1]
theorem dt_plus (n c : Nat) (hc : c < n) (u w : Nat → Int) (f : Nat → Nat → Int) : dt n (setc c (fun i => u i + w i) f) = dt n (setc c u f) + dt n (setc c w f) := by
  have := dt_lin n c hc 1 1 u w f
  rw [show (fun i => (1 : Int) * u i + 1 * w i) = fun i => u i + w i by funext i; grind] at this
  rw [this]; grind
theorem dt_times (n c : Nat) (hc : c < n) (a : Int) (u : Nat → Int) (f : Nat → Nat → Int) : dt n (setc c (fun i => a * u i) f) = a * dt n (setc c u f) := by
  have := dt_lin n c hc a 0 u u f
  rw [show (fun i => a * u i + 0 * u i) = fun i => a * u i by funext i; grind] at this
  rw [this]; grind
theorem dt_sum (n c : Nat) (hc : c < n) (f : Nat → Nat → Int) (a : Nat → Int) (u : Nat → Nat → Int) : ∀ m, dt n (setc c (fun i => sg m fun t => a t * u t i) f) = sg m fun t => a t * dt n (setc c (u t) f)
  | 0 => by
    have := dt_times n c hc 0 (fun _ => 0) f
    rw [show (fun i => (0 : Int) * (fun _ => 0) i) = fun _ => (0 : Int) by funext i; grind] at this
    show dt n (setc c (fun _ => 0) f) = 0
    rw [this]; grind
  | m + 1 => by
    have := dt_plus n c hc (fun i => sg m fun t => a t * u t i) (fun i => a m * u m i) f
    rw [dt_times n c hc, dt_sum n c hc f a u m] at this
    exact this

/-- A sum with two terms that are not nought. -/
theorem sg_two {n : Nat} {f : Nat → Int} {k l : Nat} (hk : k < n) (hl : l < n) (hne : k ≠ l) (h : ∀ i, i < n → i ≠ k → i ≠ l → f i = 0) : sg n f = f k + f l := by
  have e : sg n f = sg n (fun i => if i = k then f k else 0) + sg n (fun i => if i = l then f l else 0) := by
    rw [← sg_add]
    refine sg_congr fun i hi => ?_
    by_cases h1 : i = k
    · subst h1; rw [if_pos rfl, if_neg hne]; grind
    · by_cases h2 : i = l
      · subst h2; rw [if_neg h1, if_pos rfl]; grind
      · rw [h i hi h1 h2, if_neg h1, if_neg h2]; grind
  rw [e, sg_one hk fun i _ h1 => by rw [if_neg h1], sg_one hl fun i _ h1 => by rw [if_neg h1], if_pos rfl, if_pos rfl]
/-- Two equal columns side by side. -/
theorem dt_next : ∀ (n c : Nat) (hc : c + 1 < n) (f : Nat → Nat → Int), (∀ i, i < n → f i c = f i (c + 1)) → dt n f = 0
  | 0, c, hc, _, _ => absurd hc (by omega)
  | n + 1, c, hc, f, h => by
    rw [dt_succ, sg_two (k := c) (l := c + 1) (by omega) hc (by omega) fun j hj h1 h2 => ?_]
    · have e : dt n (del c f) = dt n (del (c + 1) f) := dt_congr n fun a b ha hb => by
        show f (a + 1) (sk c b) = f (a + 1) (sk (c + 1) b)
        by_cases e : b = c
        · have e1 : sk c b = c + 1 := by unfold sk; rw [if_neg (by omega), e]
          have e2 : sk (c + 1) b = c := by unfold sk; rw [if_pos (by omega), e]
          rw [e1, e2]; exact (h (a + 1) (by omega)).symm
        · have e1 : sk c b = sk (c + 1) b := by unfold sk; split <;> split <;> omega
          rw [e1]
      rw [e, sgn_succ, h 0 (by omega)]; grind
    · have : dt n (del j f) = 0 := by
        rcases Nat.lt_or_ge j c with hlt | hge
        · refine dt_next n (c - 1) (by omega) (del j f) fun a ha => ?_
          show f (a + 1) (sk j (c - 1)) = f (a + 1) (sk j (c - 1 + 1))
          have e1 : sk j (c - 1) = c := by unfold sk; rw [if_neg (by omega)]; omega
          have e2 : sk j (c - 1 + 1) = c + 1 := by unfold sk; rw [if_neg (by omega)]; omega
          rw [e1, e2]; exact h (a + 1) (by omega)
        · refine dt_next n c (by omega) (del j f) fun a ha => ?_
          show f (a + 1) (sk j c) = f (a + 1) (sk j (c + 1))
          have e1 : sk j c = c := by unfold sk; rw [if_pos (by omega)]
          have e2 : sk j (c + 1) = c + 1 := by unfold sk; rw [if_pos (by omega)]
          rw [e1, e2]; exact h (a + 1) (by omega)
      rw [this]; grind
/-- From nought with two equal columns: the sign turns when they change places. -/
theorem dt_anti {n c d : Nat} (hc : c < n) (hd : d < n) (hne : c ≠ d) (hz : ∀ (w : Nat → Int) (g : Nat → Nat → Int), dt n (setc c w (setc d w g)) = 0) (u w : Nat → Int) (f : Nat → Nat → Int) :
    dt n (setc c u (setc d w f)) = -(dt n (setc c w (setc d u f))) := by
  have h := hz (fun i => u i + w i) f
  rw [dt_plus n c hc, setc_comm hne u, setc_comm hne w, dt_plus n d hd, dt_plus n d hd, ← setc_comm hne, ← setc_comm hne, ← setc_comm hne, ← setc_comm hne, hz u, hz w] at h
  grind
theorem next_zero {n c : Nat} (hc : c + 1 < n) (w : Nat → Int) (g : Nat → Nat → Int) : dt n (setc c w (setc (c + 1) w g)) = 0 := dt_next n c hc _ fun i _ => by
  show (if c = c then w i else _) = if c + 1 = c then w i else if c + 1 = c + 1 then w i else _
  rw [if_pos rfl, if_neg (by omega), if_pos rfl]
/-- Two equal columns, wherever they stand. -/
theorem both_zero {n c : Nat} : ∀ (d : Nat), c + d + 1 < n → ∀ (w : Nat → Int) (g : Nat → Nat → Int), dt n (setc c w (setc (c + d + 1) w g)) = 0
  | 0, h, w, g => next_zero h w g
  | d + 1, h, w, g => by
    -- columns c + d + 1 and c + d + 2 change places
    have h1 : dt n (setc c w (setc (c + (d + 1) + 1) w g)) = dt n (setc (c + d + 1) (fun i => g i (c + d + 1)) (setc (c + d + 1 + 1) w (setc c w g))) := by
      refine dt_congr n fun i j _ _ => ?_
      show (if j = c then w i else if j = c + (d + 1) + 1 then w i else g i j) = if j = c + d + 1 then g i (c + d + 1) else if j = c + d + 1 + 1 then w i else if j = c then w i else g i j
      by_cases e1 : j = c
      · rw [if_pos e1, if_neg (by omega), if_neg (by omega), if_pos e1]
      · by_cases e2 : j = c + (d + 1) + 1
        · rw [if_neg e1, if_pos e2, if_neg (by omega), if_pos (by omega)]
        · by_cases e3 : j = c + d + 1
          · rw [if_neg e1, if_neg e2, if_pos e3, e3]
          · rw [if_neg e1, if_neg e2, if_neg e3, if_neg (by omega), if_neg e1]
    rw [h1, dt_anti (by omega) (by omega) (by omega) (fun w g => next_zero (by omega) w g)]
    have h2 : setc (c + d + 1) w (setc (c + d + 1 + 1) (fun i => g i (c + d + 1)) (setc c w g)) = setc c w (setc (c + d + 1) w (setc (c + d + 1 + 1) (fun i => g i (c + d + 1)) g)) := by
      rw [setc_comm (show c + d + 1 + 1 ≠ c by omega), setc_comm (show c + d + 1 ≠ c by omega)]
    rw [h2, both_zero d (by omega)]; grind
theorem dt_equal {n c d : Nat} (hc : c < n) (hd : d < n) (hne : c ≠ d) (w : Nat → Int) (g : Nat → Nat → Int) : dt n (setc c w (setc d w g)) = 0 := by
  rcases Nat.lt_or_ge c d with h | h
  · have := both_zero (n := n) (c := c) (d - c - 1) (by omega) w g
    rw [show c + (d - c - 1) + 1 = d by omega] at this
    exact this
  · have := both_zero (n := n) (c := d) (c - d - 1) (by omega) w g
    rw [show d + (c - d - 1) + 1 = c by omega] at this
    rw [setc_comm hne]; exact this
/-- Column d in the place of column c: nought. -/
theorem dt_copy {n c d : Nat} (hc : c < n) (hd : d < n) (hne : c ≠ d) (f : Nat → Nat → Int) : dt n (setc c (fun i => f i d) f) = 0 := by
  have := dt_equal hc hd hne (fun i => f i d) f
  rw [setc_self] at this
  exact this
theorem dt_swap {n c d : Nat} (hc : c < n) (hd : d < n) (hne : c ≠ d) (f : Nat → Nat → Int) : dt n (setc c (fun i => f i d) (setc d (fun i => f i c) f)) = -(dt n f) := by
  rw [dt_anti hc hd hne (fun w g => dt_equal hc hd hne w g)]
  have : setc c (fun i => f i c) (setc d (fun i => f i d) f) = f := by rw [setc_self d, setc_self c]
  rw [this]
/-- What is taken to noughts by something that is not has no determinant. -/
theorem dt_null {n : Nat} {f : Nat → Nat → Int} {y : Nat → Int} {c : Nat} (hc : c < n) (h1 : y c ≠ 0) (h : ∀ i, i < n → sg n (fun j => f i j * y j) = 0) : dt n f = 0 := by
  -- the determinant with the sum of all columns, each so many times, in the place of column c
  have e1 : dt n (setc c (fun i => sg n fun t => y t * f i t) f) = 0 := by
    have : dt n (setc c (fun i => sg n fun t => y t * f i t) f) = dt n (setc c (fun i => (0 : Int) * f i c) f) := dt_congr n fun i j hi _ => by
      show (if j = c then sg n (fun t => y t * f i t) else f i j) = if j = c then (0 : Int) * f i c else f i j
      rw [show sg n (fun t => y t * f i t) = (0 : Int) * f i c by
        rw [sg_congr (g := fun j => f i j * y j) fun t _ => by grind, h i hi]; grind]
    rw [this, dt_times n c hc]; grind
  have e2 := dt_sum n c hc f y (fun t i => f i t) n
  rw [e1, sg_one hc fun t ht hne => by rw [dt_copy hc ht (fun e => hne e.symm)]; grind, setc_self] at e2
  exact (Int.mul_eq_zero.1 e2.symm).resolve_left h1



/-- Linear in each column, and nought with two equal columns. -/
structure Alt (n : Nat) (M : (Nat → Nat → Int) → Int) : Prop where
  congr : ∀ f g, Eqm n n f g → M f = M g
  lin : ∀ c, c < n → ∀ (a b : Int) (u w : Nat → Int) (f : Nat → Nat → Int), M (setc c (fun i => a * u i + b * w i) f) = a * M (setc c u f) + b * M (setc c w f)
  zero : ∀ c d, c < n → d < n → c ≠ d → ∀ (w : Nat → Int) (f : Nat → Nat → Int), M (setc c w (setc d w f)) = 0
theorem Alt.plus {n : Nat} {M : (Nat → Nat → Int) → Int} (h : Alt n M) {c : Nat} (hc : c < n) (u w : Nat → Int) (f : Nat → Nat → Int) : M (setc c (fun i => u i + w i) f) = M (setc c u f) + M (setc c w f) := by
  have := h.lin c hc 1 1 u w f
  rw [show (fun i => (1 : Int) * u i + 1 * w i) = fun i => u i + w i by funext i; grind] at this
  rw [this]; grind
theorem Alt.times {n : Nat} {M : (Nat → Nat → Int) → Int} (h : Alt n M) {c : Nat} (hc : c < n) (a : Int) (u : Nat → Int) (f : Nat → Nat → Int) : M (setc c (fun i => a * u i) f) = a * M (setc c u f) := by
  have := h.lin c hc a 0 u u f
  rw [show (fun i => a * u i + 0 * u i) = fun i => a * u i by funext i; grind] at this
  rw [this]; grind
theorem Alt.sum {n : Nat} {M : (Nat → Nat → Int) → Int} (h : Alt n M) {c : Nat} (hc : c < n) (f : Nat → Nat → Int) (a : Nat → Int) (u : Nat → Nat → Int) : ∀ m, M (setc c (fun i => sg m fun t => a t * u t i) f) = sg m fun t => a t * M (setc c (u t) f)
  | 0 => by
    have := h.times hc 0 (fun _ => 0) f
    rw [show (fun i => (0 : Int) * (fun _ => 0) i) = fun _ => (0 : Int) by funext i; grind] at this
    show M (setc c (fun _ => 0) f) = 0
    rw [this]; grind
  | m + 1 => by
    have := h.plus hc (fun i => sg m fun t => a t * u t i) (fun i => a m * u m i) f
    rw [h.times hc, h.sum hc f a u m] at this
    exact this
theorem Alt.anti {n : Nat} {M : (Nat → Nat → Int) → Int} (h : Alt n M) {c d : Nat} (hc : c < n) (hd : d < n) (hne : c ≠ d) (u w : Nat → Int) (f : Nat → Nat → Int) :
    M (setc c u (setc d w f)) = -(M (setc c w (setc d u f))) := by
  have h0 := h.zero c d hc hd hne (fun i => u i + w i) f
  rw [h.plus hc, setc_comm hne u, setc_comm hne w, h.plus hd, h.plus hd, ← setc_comm hne, ← setc_comm hne, ← setc_comm hne, ← setc_comm hne, h.zero c d hc hd hne u, h.zero c d hc hd hne w] at h0
  grind
theorem dt_alt (n : Nat) : Alt n (dt n) := ⟨fun f g h => dt_congr n h, fun c hc a b u w f => dt_lin n c hc a b u w f, fun c d hc hd hne w f => dt_equal hc hd hne w f⟩

/-- Each column is one of those of the unit matrix. -/
def pick (s : Nat → Nat) : Nat → Nat → Int := fun i j => if i = s j then 1 else 0
theorem pick_sw (s : Nat → Nat) (a b : Nat) : pick (fun j => s (sw a b j)) = setc a (fun i => pick s i b) (setc b (fun i => pick s i a) (pick s)) := by
  funext i j
  show (if i = s (sw a b j) then (1 : Int) else 0) = if j = a then pick s i b else if j = b then pick s i a else pick s i j
  by_cases h1 : j = a
  · rw [if_pos h1, h1, sw_left]; rfl
  · rw [if_neg h1]
    by_cases h2 : j = b
    · rw [if_pos h2, h2, sw_right]; rfl
    · rw [if_neg h2, sw_none h1 h2]; rfl
theorem Alt.swap {n : Nat} {M : (Nat → Nat → Int) → Int} (h : Alt n M) {c d : Nat} (hc : c < n) (hd : d < n) (hne : c ≠ d) (f : Nat → Nat → Int) : M (setc c (fun i => f i d) (setc d (fun i => f i c) f)) = -(M f) := by
  rw [h.anti hc hd hne]
  have : setc c (fun i => f i c) (setc d (fun i => f i d) f) = f := by rw [setc_self d, setc_self c]
  rw [this]
theorem Alt.pick_swap {n : Nat} {M : (Nat → Nat → Int) → Int} (h : Alt n M) (s : Nat → Nat) {a b : Nat} (ha : a < n) (hb : b < n) (hne : a ≠ b) : M (pick (fun j => s (sw a b j))) = -(M (pick s)) := by
  rw [pick_sw, h.swap ha hb hne]
theorem Alt.same {n : Nat} {M : (Nat → Nat → Int) → Int} (h : Alt n M) (f : Nat → Nat → Int) {c d : Nat} (hc : c < n) (hd : d < n) (hne : c ≠ d) (e : ∀ i, f i c = f i d) : M f = 0 := by
  have h0 := h.zero c d hc hd hne (fun i => f i d) f
  rw [setc_self, show (fun i => f i d) = fun i => f i c from funext fun i => (e i).symm, setc_self] at h0
  exact h0
theorem sg_pick {n : Nat} (s : Nat → Nat) (j : Nat) (hs : s j < n) (a : Nat → Int) : sg n (fun t => a t * pick s t j) = a (s j) := by
  rw [sg_one hs fun t _ hne => by show a t * (if t = s j then (1 : Int) else 0) = 0; rw [if_neg hne]; grind]
  show a (s j) * (if s j = s j then (1 : Int) else 0) = a (s j)
  rw [if_pos rfl]; grind
theorem dt_one : ∀ n, dt n one = 1
  | 0 => rfl
  | n + 1 => by
    rw [dt_succ, sg_one (Nat.succ_pos n) fun j _ hne => by show sgn j * (if 0 = j then (1 : Int) else 0) * _ = 0; rw [if_neg (fun e => hne e.symm)]; grind]
    have : dt n (del 0 one) = dt n one := dt_congr n fun a b _ _ => by
      show (if a + 1 = sk 0 b then (1 : Int) else 0) = if a = b then (1 : Int) else 0
      rw [sk_zero]
      by_cases h : a = b
      · rw [if_pos h, if_pos (by omega)]
      · rw [if_neg h, if_neg (by omega)]
    rw [this, dt_one n]
    show sgn 0 * (if 0 = 0 then (1 : Int) else 0) * 1 = 1
    rw [if_pos rfl, show sgn 0 = 1 from rfl]; grind
/-- Of all columns that are columns of the unit matrix. -/
theorem Alt.picked {n : Nat} {M : (Nat → Nat → Int) → Int} (h : Alt n M) (s : Nat → Nat) (hs : ∀ i, i < n → s i < n) : M (pick s) = M one * dt n (pick s) := by
  by_cases hi : ∀ i j, i < n → j < n → s i = s j → i = j
  · refine by_swaps (P := fun s => M (pick s) = M one * dt n (pick s)) (fun s hf => ?_) (fun s a b ha hb hne _ _ e => ?_) n 0 s (by omega) hs hi (fun j hj => absurd hj (by omega))
    · have : Eqm n n (pick s) one := fun i j _ hj => by show (if i = s j then (1 : Int) else 0) = if i = j then 1 else 0; rw [hf j hj]
      rw [h.congr _ _ this, dt_congr n this, dt_one]; grind
    · rw [h.pick_swap s ha hb hne, (dt_alt n).pick_swap s ha hb hne] at e
      grind
  · obtain ⟨c, hn⟩ := Classical.not_forall.1 hi
    obtain ⟨d, hn⟩ := Classical.not_forall.1 hn
    obtain ⟨hc, hn⟩ := Classical.not_imp.1 hn
    obtain ⟨hd, hn⟩ := Classical.not_imp.1 hn
    obtain ⟨e, hne⟩ := Classical.not_imp.1 hn
    have e1 : ∀ i, pick s i c = pick s i d := fun i => by show (if i = s c then (1 : Int) else 0) = if i = s d then 1 else 0; rw [e]
    rw [h.same _ hc hd hne e1, (dt_alt n).same _ hc hd hne e1]; grind
/-- The first k columns are columns of the unit matrix, the others as they come. -/
def front (k : Nat) (s : Nat → Nat) (f : Nat → Nat → Int) : Nat → Nat → Int := fun i j => if j < k then pick s i j else f i j
theorem Alt.fronts {n : Nat} {M : (Nat → Nat → Int) → Int} (h : Alt n M) : ∀ (m k : Nat) (s : Nat → Nat) (f : Nat → Nat → Int), k + m = n → (∀ i, i < n → s i < n) → M (front k s f) = M one * dt n (front k s f)
  | 0, k, s, f, hm, hs => by
    have : Eqm n n (front k s f) (pick s) := fun i j _ hj => by unfold front; rw [if_pos (by omega)]
    rw [h.congr _ _ this, dt_congr n this]; exact h.picked s hs
  | m + 1, k, s, f, hm, hs => by
    have hk : k < n := by omega
    have e : Eqm n n (front k s f) (setc k (fun i => sg n fun t => f t k * one i t) (front k s f)) := fun i j hi hj => by
      show front k s f i j = if j = k then sg n (fun t => f t k * one i t) else front k s f i j
      by_cases hjk : j = k
      · rw [if_pos hjk, sg_one hi fun t _ hne => by show f t k * (if i = t then (1 : Int) else 0) = 0; rw [if_neg (fun e => hne e.symm)]; grind]
        show (if j < k then _ else f i j) = f i k * (if i = i then (1 : Int) else 0)
        rw [if_neg (by omega), if_pos rfl, hjk]; grind
      · rw [if_neg hjk]
    rw [h.congr _ _ e, dt_congr n e, h.sum hk, (dt_alt n).sum hk, ← sg_times]
    refine sg_congr fun t ht => ?_
    have e2 : setc k (fun i => one i t) (front k s f) = front (k + 1) (fun j => if j = k then t else s j) f := by
      funext i j
      show (if j = k then one i t else if j < k then pick s i j else f i j) = if j < k + 1 then (if i = (if j = k then t else s j) then (1 : Int) else 0) else f i j
      by_cases h1 : j = k
      · rw [if_pos h1, if_pos (by omega), if_pos h1]; rfl
      · rw [if_neg h1, if_neg h1]
        by_cases h2 : j < k
        · rw [if_pos h2, if_pos (by omega)]; rfl
        · rw [if_neg h2, if_neg (by omega)]
    rw [e2, h.fronts m (k + 1) _ f (by omega) fun i hi => by
      by_cases h1 : i = k
      · rw [if_pos h1]; exact ht
      · rw [if_neg h1]; exact hs i hi]
    grind
/-- There is one such rule, up to what it says of the unit matrix. -/
theorem Alt.is {n : Nat} {M : (Nat → Nat → Int) → Int} (h : Alt n M) (f : Nat → Nat → Int) : M f = M one * dt n f := by
  have := h.fronts n 0 (fun _ => 0) f (by omega)
  by_cases hn : n = 0
  · subst hn
    rw [h.congr f one fun i j hi => absurd hi (by omega)]
    show M one = M one * 1
    grind
  · have := this fun i hi => by omega
    exact this

theorem mul_setc (n c : Nat) (f : Nat → Nat → Int) (u : Nat → Int) (g : Nat → Nat → Int) : mul n f (setc c u g) = setc c (fun i => sg n fun x => f i x * u x) (mul n f g) := by
  funext i j
  show sg n (fun x => f i x * (if j = c then u x else g x j)) = if j = c then sg n (fun x => f i x * u x) else sg n (fun x => f i x * g x j)
  by_cases h : j = c
  · rw [if_pos h]; exact sg_congr fun x _ => by rw [if_pos h]
  · rw [if_neg h]; exact sg_congr fun x _ => by rw [if_neg h]
/-- Cauchy, Binet. -/
theorem dt_mul (n : Nat) (f g : Nat → Nat → Int) : dt n (mul n f g) = dt n f * dt n g := by
  have h : Alt n fun g => dt n (mul n f g) := by
    refine ⟨fun a b e => dt_congr n ((Eqm.rfl' n n f).mul e), fun c hc a b u w k => ?_, fun c d hc hd hne w k => ?_⟩
    · rw [mul_setc, mul_setc, mul_setc]
      have : (fun i => sg n fun x => f i x * (a * u x + b * w x)) = fun i => a * (sg n fun x => f i x * u x) + b * (sg n fun x => f i x * w x) := by
        funext i
        rw [← sg_times, ← sg_times, ← sg_add]
        exact sg_congr fun x _ => by grind
      rw [this]; exact dt_lin n c hc a b _ _ _
    · rw [mul_setc, mul_setc]; exact dt_equal hc hd hne _ _
  have := h.is g
  rw [this, show dt n (mul n f one) = dt n f from dt_congr n (mul_one n n f)]

/-- Row r in the place of its own. -/
def setr (r : Nat) (u : Nat → Int) (f : Nat → Nat → Int) : Nat → Nat → Int := fun i j => if i = r then u j else f i j
theorem setr_flip (r : Nat) (u : Nat → Int) (f : Nat → Nat → Int) : setr r u f = flip (setc r u (flip f)) := rfl
theorem del_setr_zero (j : Nat) (u : Nat → Int) (f : Nat → Nat → Int) : del j (setr 0 u f) = del j f := by
  funext a b
  show (if a + 1 = 0 then u (sk j b) else f (a + 1) (sk j b)) = f (a + 1) (sk j b)
  rw [if_neg (by omega)]
theorem del_setr (j r : Nat) (u : Nat → Int) (f : Nat → Nat → Int) : del j (setr (r + 1) u f) = setr r (fun b => u (sk j b)) (del j f) := by
  funext a b
  show (if a + 1 = r + 1 then u (sk j b) else f (a + 1) (sk j b)) = if a = r then u (sk j b) else f (a + 1) (sk j b)
  by_cases h : a = r
  · rw [if_pos h, if_pos (by omega)]
  · rw [if_neg h, if_neg (by omega)]
/-- Linear in each row. -/
theorem dt_rlin : ∀ (n r : Nat) (hr : r < n) (a b : Int) (u w : Nat → Int) (f : Nat → Nat → Int),
    dt n (setr r (fun j => a * u j + b * w j) f) = a * dt n (setr r u f) + b * dt n (setr r w f)
  | 0, r, hr, _, _, _, _, _ => absurd hr (by omega)
  | n + 1, 0, _, a, b, u, w, f => by
    rw [dt_succ, dt_succ, dt_succ, ← sg_times, ← sg_times, ← sg_add]
    refine sg_congr fun j hj => ?_
    rw [del_setr_zero, del_setr_zero, del_setr_zero]
    show sgn j * (a * u j + b * w j) * dt n (del j f) = a * (sgn j * u j * dt n (del j f)) + b * (sgn j * w j * dt n (del j f))
    grind
  | n + 1, r + 1, hr, a, b, u, w, f => by
    rw [dt_succ, dt_succ, dt_succ, ← sg_times, ← sg_times, ← sg_add]
    refine sg_congr fun j hj => ?_
    rw [del_setr, del_setr, del_setr, dt_rlin n r (by omega) a b (fun b => u (sk j b)) (fun b => w (sk j b))]
    have : ∀ v : Nat → Int, setr (r + 1) v f 0 j = f 0 j := fun v => by show (if 0 = r + 1 then v j else f 0 j) = f 0 j; rw [if_neg (by omega)]
    rw [this, this, this]; grind
/-- Two equal rows. -/
theorem dt_rows {n : Nat} {f : Nat → Nat → Int} {r s : Nat} (hr : r < n) (hs : s < n) (hne : r ≠ s) (e : ∀ j, j < n → f r j = f s j) : dt n f = 0 := by
  have h1 : Eqm n n (mul n (setr r (fun j => one s j) one) f) f := fun i j hi hj => by
    show sg n (fun x => (if i = r then one s x else one i x) * f x j) = f i j
    by_cases h : i = r
    · rw [sg_congr (g := fun x => one s x * f x j) fun x _ => by rw [if_pos h]]
      have := one_mul n n f s j hs hj
      exact this.trans (by rw [h, e j hj])
    · rw [sg_congr (g := fun x => one i x * f x j) fun x _ => by rw [if_neg h]]
      exact one_mul n n f i j hi hj
  have h2 : dt n (setr r (fun j => one s j) one) = 0 := by
    have : Eqm n n (setr r (fun j => one s j) one) (setc r (fun i => (0 : Int) * 0) (setr r (fun j => one s j) one)) := fun i j hi hj => by
      show (if i = r then one s j else one i j) = if j = r then (0 : Int) * 0 else if i = r then one s j else one i j
      by_cases hj : j = r
      · rw [if_pos hj]
        by_cases hi : i = r
        · rw [if_pos hi]; show (if s = j then (1 : Int) else 0) = 0 * 0; rw [if_neg (by omega)]; rfl
        · rw [if_neg hi]; show (if i = j then (1 : Int) else 0) = 0 * 0; rw [if_neg (by omega)]; rfl
      · rw [if_neg hj]
    rw [dt_congr n this, dt_times n r hr 0 (fun _ => 0)]; grind
  rw [← dt_congr n h1, dt_mul, h2]; grind
theorem dt_flip (n : Nat) (f : Nat → Nat → Int) : dt n (flip f) = dt n f := by
  have h : Alt n fun g => dt n (flip g) := by
    refine ⟨fun a b e => dt_congr n fun i j hi hj => e j i hj hi, fun c hc a b u w k => dt_rlin n c hc a b u w (flip k), fun c d hc hd hne w k => ?_⟩
    refine dt_rows hc hd hne fun j _ => ?_
    show (if c = c then w j else _) = if d = c then w j else if d = d then w j else _
    rw [if_pos rfl, if_neg (fun e => hne e.symm), if_pos rfl]
  have := h.is f
  rw [this, show dt n (flip one) = 1 from (dt_congr n fun i j _ _ => by show (if j = i then (1 : Int) else 0) = if i = j then 1 else 0; by_cases e : i = j <;> simp [e, eq_comm]).trans (dt_one n)]
  grind
/-- Two rows change places. -/
theorem dt_rswap {n : Nat} (f : Nat → Nat → Int) {a b : Nat} (ha : a < n) (hb : b < n) (hne : a ≠ b) : dt n (fun i j => f (sw a b i) j) = -(dt n f) := by
  rw [← dt_flip n f, ← dt_flip n fun i j => f (sw a b i) j, ← (dt_alt n).swap ha hb hne]
  congr 1
  funext i j
  show f (sw a b j) i = if j = a then f b i else if j = b then f a i else f j i
  by_cases h1 : j = a
  · rw [if_pos h1, h1, sw_left]
  · rw [if_neg h1]
    by_cases h2 : j = b
    · rw [if_pos h2, h2, sw_right]
    · rw [if_neg h2, sw_none h1 h2]
theorem dt_cswap {n : Nat} (f : Nat → Nat → Int) {a b : Nat} (ha : a < n) (hb : b < n) (hne : a ≠ b) : dt n (fun i j => f i (sw a b j)) = -(dt n f) := by
  rw [← dt_flip n f, ← dt_flip n fun i j => f i (sw a b j)]
  exact dt_rswap (flip f) ha hb hne
theorem setr_self (r : Nat) (f : Nat → Nat → Int) : setr r (fun j => f r j) f = f := by
  funext i j
  show (if i = r then f r j else f i j) = f i j
  by_cases h : i = r
  · rw [if_pos h, h]
  · rw [if_neg h]
/-- So many times one row added to another one. -/
theorem dt_add {n : Nat} (f : Nat → Nat → Int) {a b : Nat} (ha : a < n) (hb : b < n) (hne : a ≠ b) (k : Int) : dt n (setr a (fun j => f a j + k * f b j) f) = dt n f := by
  have h := dt_rlin n a ha 1 k (fun j => f a j) (fun j => f b j) f
  rw [show (fun j => (1 : Int) * f a j + k * f b j) = fun j => f a j + k * f b j by funext j; grind, setr_self] at h
  have h2 : dt n (setr a (fun j => f b j) f) = 0 := dt_rows ha hb hne fun j _ => by
    show (if a = a then f b j else f a j) = if b = a then f b j else f b j
    rw [if_pos rfl, if_neg (fun e => hne e.symm)]
  rw [h, h2]; grind
theorem dt_scale {n : Nat} (f : Nat → Nat → Int) {a : Nat} (ha : a < n) (k : Int) : dt n (setr a (fun j => k * f a j) f) = k * dt n f := by
  have h := dt_rlin n a ha k 0 (fun j => f a j) (fun j => f a j) f
  rw [show (fun j => k * f a j + (0 : Int) * f a j) = fun j => k * f a j by funext j; grind, setr_self] at h
  rw [h]; grind
theorem dt_rplus {n : Nat} (f : Nat → Nat → Int) {a : Nat} (ha : a < n) (u : Nat → Int) : dt n (setr a (fun j => f a j + u j) f) = dt n f + dt n (setr a u f) := by
  have h := dt_rlin n a ha 1 1 (fun j => f a j) u f
  rw [show (fun j => (1 : Int) * f a j + 1 * u j) = fun j => f a j + u j by funext j; grind, setr_self] at h
  rw [h]; grind

theorem dt_zrow {n : Nat} {f : Nat → Nat → Int} {k : Nat} (hk : k < n) (h : ∀ j, j < n → f k j = 0) : dt n f = 0 := by
  have h1 := dt_scale f hk 0
  rw [show (0 : Int) * dt n f = 0 by grind] at h1
  rw [← h1]
  refine dt_congr n fun i j hi hj => ?_
  show f i j = if i = k then (0 : Int) * f k j else f i j
  by_cases e : i = k
  · rw [if_pos e, e, h j hj]; grind
  · rw [if_neg e]
/-- The sign of an order of whole numbers: the determinant of its matrix. -/
def sp (n : Nat) (s : Nat → Int) : Int := dt n fun i j => if s i = (j : Int) then 1 else 0
theorem sp_congr {n : Nat} {s t : Nat → Int} (h : ∀ i, i < n → s i = t i) : sp n s = sp n t := dt_congr n fun i j hi _ => by rw [h i hi]
theorem sp_id {n : Nat} {s : Nat → Int} (h : ∀ i, i < n → s i = (i : Int)) : sp n s = 1 := by
  rw [← dt_one n]
  refine dt_congr n fun i j hi _ => ?_
  rw [h i hi]
  show (if (i : Int) = (j : Int) then (1 : Int) else 0) = if i = j then 1 else 0
  by_cases e : i = j
  · rw [if_pos e, if_pos (by omega)]
  · rw [if_neg e, if_neg (by omega)]
theorem sp_swap {n : Nat} (s : Nat → Int) {a b : Nat} (ha : a < n) (hb : b < n) (hne : a ≠ b) : sp n (fun i => s (sw a b i)) = -(sp n s) :=
  dt_rswap (fun i j => if s i = (j : Int) then 1 else 0) ha hb hne
theorem sp_out {n : Nat} {s : Nat → Int} {k : Nat} (hk : k < n) (h : s k < 0 ∨ (n : Int) ≤ s k) : sp n s = 0 := dt_zrow hk fun j hj => by rw [if_neg (by omega)]
theorem sp_twice {n : Nat} {s : Nat → Int} {a b : Nat} (ha : a < n) (hb : b < n) (hne : a ≠ b) (h : s a = s b) : sp n s = 0 := dt_rows ha hb hne fun j _ => by rw [h]
/-- Only of n numbers, each once, is there a sign. -/
theorem sp_miss {n : Nat} {s : Nat → Int} {k : Nat} (hk : k < n) (h : ∀ i, i < n → s i ≠ (k : Int)) : sp n s = 0 := by
  unfold sp
  have e : Eqm n n (fun i j => if s i = (j : Int) then (1 : Int) else 0) (setc k (fun i => (0 : Int) * 0) (fun i j => if s i = (j : Int) then (1 : Int) else 0)) := fun i j hi hj => by
    show (if s i = (j : Int) then (1 : Int) else 0) = if j = k then (0 : Int) * 0 else if s i = (j : Int) then 1 else 0
    by_cases e : j = k
    · rw [if_pos e, e, if_neg (h i hi)]; grind
    · rw [if_neg e]
  rw [dt_congr n e, dt_times n k hk 0 (fun _ => 0)]; grind

theorem dt_turn {m : Nat} (k : Nat → Nat → Int) (e : Nat) : ∀ t, t < e → t < m → dt m (fun i b => k i (turn e t b)) = sgn t * dt m (fun i b => k i (sk e b))
  | 0, h, hm => by
    have : (fun i b => k i (turn e 0 b)) = fun i b => k i (sk e b) := by
      funext i b
      congr 1
      unfold turn sk
      rw [if_neg (by omega)]
      by_cases h0 : b = 0
      · rw [if_pos h0, if_pos (by omega), h0]
      · rw [if_neg h0]
    rw [this, show sgn 0 = 1 from rfl]; grind
  | t + 1, h, hm => by
    have := dt_cswap (n := m) (fun i b => k i (turn e t b)) (a := t) (b := t + 1) (by omega) hm (by omega)
    rw [dt_turn k e t (by omega) (by omega)] at this
    have e1 : (fun i b => k i (turn e (t + 1) b)) = fun i b => k i (turn e t (sw t (t + 1) b)) := by
      funext i b
      exact congrArg (k i) (congrFun (turn_next e t h) b)
    rw [e1, this, sgn_succ]; grind

/-- The product of the first k. -/
def pr : Nat → (Nat → Int) → Int
  | 0, _ => 1
  | k + 1, g => pr k g * g k
theorem pr_congr {k : Nat} {g h : Nat → Int} (e : ∀ i, i < k → g i = h i) : pr k g = pr k h := by
  induction k with
  | zero => rfl
  | succ k ih => show pr k g * g k = pr k h * h k; rw [ih fun i hi => e i (by omega), e k (by omega)]
/-- What all orders that begin as s does (its first k places) add to the determinant. -/
def part' (n k : Nat) (f : Nat → Nat → Int) (s : Nat → Nat) : Int := sp n (fun i => (s i : Int)) * pr k (fun i => f i (s i)) * dt (n - k) (fun i j => f (k + i) (s (k + j)))
theorem part_end (n : Nat) (f : Nat → Nat → Int) (s : Nat → Nat) : part' n n f s = sp n (fun i => (s i : Int)) * pr n (fun i => f i (s i)) := by
  unfold part'
  rw [Nat.sub_self]
  show _ * 1 = _
  grind
theorem part_zero (n : Nat) (f : Nat → Nat → Int) {s : Nat → Nat} (hs : ∀ j, j < n → s j = j) : part' n 0 f s = dt n f := by
  unfold part'
  rw [sp_id fun i hi => by rw [hs i hi], Nat.sub_zero]
  have : dt n (fun i j => f (0 + i) (s (0 + j))) = dt n f := dt_congr n fun i j _ hj => by rw [Nat.zero_add, Nat.zero_add, hs j hj]
  rw [this]
  show 1 * 1 * _ = _
  grind
theorem part_next {n k : Nat} (f : Nat → Nat → Int) (s : Nat → Nat) (hk : k < n) : sg (n - k) (fun t => part' n (k + 1) f fun j => s (sw k (k + t) j)) = part' n k f s := by
  obtain ⟨m, hm⟩ : ∃ m, n - k = m + 1 := ⟨n - k - 1, by omega⟩
  unfold part'
  rw [hm, dt_succ, ← sg_times]
  refine sg_congr fun t ht => ?_
  have e1 : pr (k + 1) (fun i => f i (s (sw k (k + t) i))) = pr k (fun i => f i (s i)) * f k (s (k + t)) := by
    show pr k (fun i => f i (s (sw k (k + t) i))) * f k (s (sw k (k + t) k)) = _
    rw [sw_left, pr_congr (h := fun i => f i (s i)) fun i hi => by rw [sw_none (by omega) (by omega)]]
  have e0 : n - (k + 1) = m := by omega
  rw [e0, e1]
  show _ = sp n (fun i => (s i : Int)) * pr k (fun i => f i (s i)) * (sgn t * f (k + 0) (s (k + t)) * dt m (del t fun i j => f (k + i) (s (k + j))))
  rw [Nat.add_zero]
  cases t with
  | zero =>
    have e2 : (fun i => ((s (sw k (k + 0) i) : Nat) : Int)) = fun i => (s i : Int) := by
      funext i
      rw [Nat.add_zero]
      by_cases h : i = k
      · rw [h, sw_left]
      · rw [sw_none h h]
    have e3 : (fun i j => f (k + 1 + i) (s (sw k (k + 0) (k + 1 + j)))) = del 0 fun i j => f (k + i) (s (k + j)) := by
      funext i j
      show f (k + 1 + i) (s (sw k (k + 0) (k + 1 + j))) = f (k + (i + 1)) (s (k + sk 0 j))
      rw [sw_none (by omega) (by omega), sk_zero, show k + 1 + i = k + (i + 1) by omega, show k + 1 + j = k + (j + 1) by omega]
    rw [e2, e3, show sgn 0 = 1 from rfl]; grind
  | succ t =>
    have e2 : sp n (fun i => ((s (sw k (k + (t + 1)) i) : Nat) : Int)) = -(sp n fun i => (s i : Int)) := sp_swap (fun i => (s i : Int)) hk (by omega) (by omega)
    have e3 : dt m (fun i j => f (k + 1 + i) (s (sw k (k + (t + 1)) (k + 1 + j)))) = sgn t * dt m (del (t + 1) fun i j => f (k + i) (s (k + j))) := by
      refine Eq.trans (dt_congr m fun i j hi hj => ?_) (dt_turn (fun i b => f (k + (i + 1)) (s (k + b))) (t + 1) t (by omega) (by omega))
      show f (k + 1 + i) (s (sw k (k + (t + 1)) (k + 1 + j))) = f (k + (i + 1)) (s (k + turn (t + 1) t j))
      rw [show k + 1 + i = k + (i + 1) by omega]
      congr 2
      unfold turn
      by_cases h1 : j = t
      · rw [if_neg (by omega), if_pos h1, h1, show k + 1 + t = k + (t + 1) by omega, sw_right, Nat.add_zero]
      · rw [sw_none (by omega) (by omega)]
        by_cases h2 : j < t
        · rw [if_pos h2]; omega
        · rw [if_neg h2, if_neg h1]; unfold sk; rw [if_neg (by omega)]; omega
    rw [e2, e3, sgn_succ]; grind

/-- The document's sign: one exchange for each two of which the greater one comes first. -/
def e2 (a b : Int) : Int := if b < a then -1 else 1
def inv : Nat → (Nat → Int) → Int
  | 0, _ => 1
  | k + 1, s => inv k s * pr k (fun t => e2 (s t) (s k))
theorem e2_turn {a b : Int} (h : a ≠ b) : e2 b a = -(e2 a b) := by
  unfold e2
  rcases Int.lt_or_lt_of_ne h with h | h
  · rw [if_pos h, if_neg (by omega)]
  · rw [if_neg (by omega), if_pos h]; grind
theorem pr_next {c : Nat} (g : Nat → Int) : ∀ k, c + 1 < k → pr k (fun i => g (sw c (c + 1) i)) = pr k g
  | 0, h => absurd h (by omega)
  | k + 1, h => by
    show pr k (fun i => g (sw c (c + 1) i)) * g (sw c (c + 1) k) = pr k g * g k
    by_cases hk : c + 1 < k
    · rw [pr_next g k hk, sw_none (by omega) (by omega)]
    · obtain rfl : k = c + 1 := by omega
      show pr c (fun i => g (sw c (c + 1) i)) * g (sw c (c + 1) c) * g (sw c (c + 1) (c + 1)) = pr c g * g c * g (c + 1)
      rw [pr_congr (h := g) fun i hi => by rw [sw_none (by omega) (by omega)], sw_left, sw_right]; grind
theorem inv_congr {k : Nat} {s t : Nat → Int} (h : ∀ i, i < k → s i = t i) : inv k s = inv k t := by
  induction k with
  | zero => rfl
  | succ k ih =>
    show inv k s * pr k _ = inv k t * pr k _
    rw [ih fun i hi => h i (by omega), h k (by omega), pr_congr (h := fun x => e2 (t x) (t k)) fun i hi => by rw [h i (by omega)]]
theorem inv_next {c : Nat} (s : Nat → Int) (hne : s c ≠ s (c + 1)) : ∀ k, c + 1 < k → inv k (fun i => s (sw c (c + 1) i)) = -(inv k s)
  | 0, h => absurd h (by omega)
  | k + 1, h => by
    show inv k (fun i => s (sw c (c + 1) i)) * pr k (fun t => e2 (s (sw c (c + 1) t)) (s (sw c (c + 1) k))) = -(inv k s * pr k (fun t => e2 (s t) (s k)))
    by_cases hk : c + 1 < k
    · rw [inv_next s hne k hk, sw_none (j := k) (by omega) (by omega), pr_next (fun t => e2 (s t) (s k)) k hk]; grind
    · obtain rfl : k = c + 1 := by omega
      show inv c (fun i => s (sw c (c + 1) i)) * pr c (fun t => e2 (s (sw c (c + 1) t)) (s (sw c (c + 1) c))) * (pr c (fun t => e2 (s (sw c (c + 1) t)) (s (sw c (c + 1) (c + 1)))) * e2 (s (sw c (c + 1) c)) (s (sw c (c + 1) (c + 1)))) =
        -(inv c s * pr c (fun t => e2 (s t) (s c)) * (pr c (fun t => e2 (s t) (s (c + 1))) * e2 (s c) (s (c + 1))))
      rw [sw_left, sw_right, inv_congr (t := s) fun i hi => by rw [sw_none (by omega) (by omega)], pr_congr (g := fun t => e2 (s (sw c (c + 1) t)) (s (c + 1))) (h := fun t => e2 (s t) (s (c + 1))) fun i hi => by rw [sw_none (by omega) (by omega)],
        pr_congr (g := fun t => e2 (s (sw c (c + 1) t)) (s c)) (h := fun t => e2 (s t) (s c)) fun i hi => by rw [sw_none (by omega) (by omega)], e2_turn hne]
      grind
theorem sw_three {c p q : Nat} (h1 : c ≠ p) (h2 : p ≠ q) (h3 : c ≠ q) (i : Nat) : sw c q i = sw p q (sw c p (sw p q i)) := by
  by_cases e1 : i = c
  · rw [e1, sw_left, sw_none (j := c) h1 h3, sw_left, sw_left]
  · by_cases e2 : i = p
    · rw [e2, sw_left p q, sw_none (j := q) (fun e => h3 e.symm) (fun e => h2 e.symm), sw_right, sw_none (fun e => h1 e.symm) h2]
    · by_cases e3 : i = q
      · rw [e3, sw_right, sw_right, sw_right, sw_none (j := c) h1 h3]
      · rw [sw_none e1 e3, sw_none e2 e3, sw_none e1 e2, sw_none e2 e3]
theorem inv_far (c : Nat) : ∀ (d k : Nat) (s : Nat → Int), c + d + 1 < k → (∀ i j, i < k → j < k → s i = s j → i = j) → inv k (fun i => s (sw c (c + d + 1) i)) = -(inv k s)
  | 0, k, s, h, hi => inv_next s (fun e => by have := hi _ _ (by omega) (by omega) e; omega) k h
  | d + 1, k, s, h, hi => by
    have e : (fun i => s (sw c (c + (d + 1) + 1) i)) = fun i => s (sw (c + d + 1) (c + d + 1 + 1) (sw c (c + d + 1) (sw (c + d + 1) (c + d + 1 + 1) i))) := by
      funext i
      exact congrArg s (sw_three (by omega) (by omega) (by omega) i)
    have s1 : ∀ i j, i < k → j < k → s (sw (c + d + 1) (c + d + 1 + 1) i) = s (sw (c + d + 1) (c + d + 1 + 1) j) → i = j := fun i j h1 h2 e => sw_inj (hi _ _ (sw_lt (by omega) (by omega) h1) (sw_lt (by omega) (by omega) h2) e)
    have a1 := inv_next (c := c + d + 1) s (fun e => by have := hi _ _ (by omega) (by omega) e; omega) k (by omega)
    have a2 := inv_far c d k (fun i => s (sw (c + d + 1) (c + d + 1 + 1) i)) (by omega) s1
    have a3 := inv_next (c := c + d + 1) (fun i => s (sw (c + d + 1) (c + d + 1 + 1) (sw c (c + d + 1) i))) (fun e => by
      have := s1 _ _ (sw_lt (by omega) (by omega) (by omega)) (sw_lt (by omega) (by omega) (by omega)) e
      have := sw_inj this
      omega) k (by omega)
    rw [e, a3, a2, a1]; grind
theorem inv_swap {n : Nat} (s : Nat → Int) {a b : Nat} (ha : a < n) (hb : b < n) (hne : a ≠ b) (hi : ∀ i j, i < n → j < n → s i = s j → i = j) : inv n (fun i => s (sw a b i)) = -(inv n s) := by
  have sym : ∀ i, sw a b i = sw b a i := fun i => by
    unfold sw
    by_cases h1 : i = a
    · rw [if_pos h1, if_neg (by omega), if_pos h1]
    · rw [if_neg h1]
      by_cases h2 : i = b
      · rw [if_pos h2, if_pos h2]
      · rw [if_neg h2, if_neg h2, if_neg h1]
  rcases Nat.lt_or_ge a b with h | h
  · have := inv_far a (b - a - 1) n s (by omega) hi
    rw [show a + (b - a - 1) + 1 = b by omega] at this
    exact this
  · have := inv_far b (a - b - 1) n s (by omega) hi
    rw [show b + (a - b - 1) + 1 = a by omega] at this
    rw [show (fun i => s (sw a b i)) = fun i => s (sw b a i) by funext i; rw [sym]]
    exact this
theorem pr_ones {k : Nat} {g : Nat → Int} (h : ∀ i, i < k → g i = 1) : pr k g = 1 := by
  induction k with
  | zero => rfl
  | succ k ih => show pr k g * g k = 1; rw [ih fun i hi => h i (by omega), h k (by omega)]; rfl
theorem inv_id {s : Nat → Int} : ∀ n, (∀ i, i < n → s i = (i : Int)) → inv n s = 1
  | 0, _ => rfl
  | n + 1, h => by
    show inv n s * pr n _ = 1
    rw [inv_id n fun i hi => h i (by omega), pr_ones fun i hi => by unfold e2; rw [h i (by omega), h n (by omega), if_neg (by omega)]]; rfl
/-- Of an order both are one. -/
theorem inv_sp {n : Nat} {s : Nat → Int} (h : ∀ k : Nat, k < n → ∃ i, i < n ∧ s i = (k : Int)) : inv n s = sp n s := by
  have hN : ∀ k : Nat, k < n → ∃ i, i < n ∧ (s i).toNat = k := fun k hk => by
    obtain ⟨i, h1, h2⟩ := h k hk
    exact ⟨i, h1, by rw [h2]; rfl⟩
  obtain ⟨h1, h2⟩ := into hN
  -- the numbers are none below nought
  have hs : ∀ i, i < n → s i = (((s i).toNat : Nat) : Int) := fun i hi => by
    obtain ⟨j, hj, e⟩ := h _ (h1 i hi)
    have : i = j := h2 i j hi hj (by rw [e]; rfl)
    rw [this] at e ⊢
    exact e
  rw [inv_congr hs, sp_congr hs]
  refine by_swaps (n := n) (P := fun t => inv n (fun i => (t i : Int)) = sp n fun i => (t i : Int)) (fun t hf => ?_) (fun t a b ha hb hne _ hi e => ?_) n 0 (fun i => (s i).toNat) (by omega) h1 h2 (fun j hj => absurd hj (by omega))
  · rw [inv_id n fun i hi => by rw [hf i hi], sp_id fun i hi => by rw [hf i hi]]
  · have a1 := inv_swap (n := n) (fun i => (t i : Int)) ha hb hne fun i j h1 h2 e => hi i j h1 h2 (by omega)
    have a2 := sp_swap (n := n) (fun i => (t i : Int)) ha hb hne
    have e' : inv n (fun i => ((t (sw a b i) : Nat) : Int)) = sp n fun i => ((t (sw a b i) : Nat) : Int) := e
    rw [a1, a2] at e'
    grind

theorem dt_tau {n : Nat} : ∀ (i : Nat) (f : Nat → Nat → Int), i < n → dt n (fun a b => f (tau i a) b) = sgn i * dt n f
  | 0, f, _ => by
    rw [show (fun a b => f (tau 0 a) b) = f from funext fun a => by rw [tau_zero]]
    show _ = (if 0 % 2 = 0 then (1 : Int) else -1) * _
    rw [if_pos rfl]; grind
  | i + 1, f, h => by
    have h1 := dt_tau (n := n) i (fun r b => f (sw i (i + 1) r) b) (by omega)
    rw [show (fun a b => f (sw i (i + 1) (tau i a)) b) = fun a b => f (tau (i + 1) a) b from funext fun a => by rw [tau_next]] at h1
    rw [h1, dt_rswap f (a := i) (b := i + 1) (by omega) h (by omega), sgn_succ]
    grind
theorem sgn_two (i : Nat) : sgn i * sgn i = 1 := by unfold sgn; split <;> grind
theorem sgn_add (i j : Nat) : sgn (i + j) = sgn i * sgn j := by
  unfold sgn
  by_cases h1 : i % 2 = 0
  · by_cases h2 : j % 2 = 0
    · rw [if_pos h1, if_pos h2, if_pos (by omega)]; grind
    · rw [if_pos h1, if_neg h2, if_neg (by omega)]; grind
  · by_cases h2 : j % 2 = 0
    · rw [if_neg h1, if_pos h2, if_neg (by omega)]; grind
    · rw [if_neg h1, if_neg h2, if_pos (by omega)]; grind
/-- By row i. -/
theorem laplace (p i : Nat) (f : Nat → Nat → Int) (hi : i ≤ p) : (sg (p + 1) fun j => sgn (i + j) * f i j * dt p (wo f i j)) = dt (p + 1) f := by
  have h1 := dt_tau i f (Nat.lt_succ_of_le hi)
  rw [dt_succ] at h1
  have h2 : (sg (p + 1) fun j => sgn j * f (tau i 0) j * dt p (del j fun a b => f (tau i a) b)) = sg (p + 1) fun j => sgn j * f i j * dt p (wo f i j) := sg_congr fun j _ => by
    rw [show (del j fun a b => f (tau i a) b) = wo f i j from funext fun a => funext fun b => by
      show f (tau i (a + 1)) (sk j b) = f (sk i a) (sk j b)
      unfold tau
      rw [if_neg (Nat.succ_ne_zero a), Nat.add_sub_cancel]]
    show sgn j * f (if 0 = 0 then i else _) j * _ = _
    rw [if_pos rfl]
  rw [h2] at h1
  have h3 : (sg (p + 1) fun j => sgn (i + j) * f i j * dt p (wo f i j)) = sgn i * sg (p + 1) fun j => sgn j * f i j * dt p (wo f i j) := by
    rw [← sg_times]
    exact sg_congr fun j _ => by rw [sgn_add]; grind
  rw [h3, h1]
  have := sgn_two i
  grind
theorem wo_setr (i j : Nat) (u : Nat → Int) (f : Nat → Nat → Int) : wo (setr i u f) i j = wo f i j := by
  funext a b
  show (if sk i a = i then u (sk j b) else f (sk i a) (sk j b)) = _
  rw [if_neg (sk_ne i a)]; rfl
/-- With the numbers of another row in its place. -/
theorem laplace_row (p i : Nat) (u : Nat → Int) (f : Nat → Nat → Int) (hi : i ≤ p) : (sg (p + 1) fun j => sgn (i + j) * u j * dt p (wo f i j)) = dt (p + 1) (setr i u f) := by
  rw [← laplace p i (setr i u f) hi]
  exact sg_congr fun j _ => by
    rw [wo_setr]
    show _ = _ * (if i = i then u j else f i j) * _
    rw [if_pos rfl]
theorem laplace_other (p i k : Nat) (f : Nat → Nat → Int) (hi : i ≤ p) (hk : k ≤ p) : (sg (p + 1) fun j => sgn (i + j) * f k j * dt p (wo f i j)) = if i = k then dt (p + 1) f else 0 := by
  rw [laplace_row p i (fun j => f k j) f hi]
  by_cases h : i = k
  · rw [if_pos h, h, setr_self]
  · rw [if_neg h]
    refine dt_rows (r := i) (s := k) (by omega) (by omega) h fun j _ => ?_
    show (if i = i then f k j else f i j) = (if k = i then f k j else f k j)
    rw [if_pos rfl]; split <;> rfl

/-- The adjugate: at row i and column j what is left without row j and column i, with its sign. -/
def adj (p : Nat) (f : Nat → Nat → Int) : Nat → Nat → Int := fun i j => sgn (i + j) * dt p (wo f j i)
/-- So many times the one. -/
def scal (d : Int) : Nat → Nat → Int := fun i j => if i = j then d else 0
theorem adj_right (p : Nat) (f : Nat → Nat → Int) : Eqm (p + 1) (p + 1) (mul (p + 1) f (adj p f)) (scal (dt (p + 1) f)) := fun k i hk hi => by
  show (sg (p + 1) fun j => f k j * (sgn (j + i) * dt p (wo f i j))) = if k = i then _ else 0
  have := laplace_other p i k f (by omega) (by omega)
  rw [show (sg (p + 1) fun j => f k j * (sgn (j + i) * dt p (wo f i j))) = sg (p + 1) fun j => sgn (i + j) * f k j * dt p (wo f i j) from sg_congr fun j _ => by rw [Nat.add_comm i j]; grind, this]
  by_cases h : i = k
  · rw [if_pos h, if_pos h.symm]
  · rw [if_neg h, if_neg fun h' => h h'.symm]
theorem adj_flip (p : Nat) (f : Nat → Nat → Int) : adj p (flip f) = flip (adj p f) := by
  funext i j
  show sgn (i + j) * dt p (wo (flip f) j i) = sgn (j + i) * dt p (wo f i j)
  rw [Nat.add_comm i j, show wo (flip f) j i = flip (wo f i j) from rfl, dt_flip]
theorem adj_left (p : Nat) (f : Nat → Nat → Int) : Eqm (p + 1) (p + 1) (mul (p + 1) (adj p f) f) (scal (dt (p + 1) f)) := fun k i hk hi => by
  have h := adj_right p (flip f) i k hi hk
  rw [adj_flip, dt_flip] at h
  have e : mul (p + 1) (flip f) (flip (adj p f)) i k = mul (p + 1) (adj p f) f k i := sg_congr fun x _ => by
    show f x i * adj p f k x = adj p f k x * f x i
    grind
  rw [← e, h]
  show (if i = k then _ else _) = if k = i then _ else _
  by_cases h : i = k
  · rw [if_pos h, if_pos h.symm]
  · rw [if_neg h, if_neg fun h' => h h'.symm]
theorem dt_scal (d : Int) : ∀ n, dt n (scal d) = d ^ n
  | 0 => (Int.pow_zero d).symm
  | n + 1 => by
    rw [dt_succ, sg_one (Nat.succ_pos n) fun i hi hne => by
      show sgn i * (if 0 = i then d else 0) * _ = 0
      rw [if_neg fun h => hne h.symm]; grind]
    have e : del 0 (scal d) = scal d := by
      funext a b
      show (if a + 1 = sk 0 b then d else 0) = if a = b then d else 0
      rw [sk_zero]
      by_cases h : a = b
      · rw [if_pos h, if_pos (by omega)]
      · rw [if_neg h, if_neg (by omega)]
    rw [e, dt_scal d n]
    show (if 0 % 2 = 0 then (1 : Int) else -1) * (if 0 = 0 then d else 0) * d ^ n = d ^ (n + 1)
    rw [if_pos rfl, if_pos rfl, Int.pow_succ]; grind
/-- Cramer: with what a row comes to in the place of column j. -/
theorem cramer (n j : Nat) (f : Nat → Nat → Int) (x : Nat → Int) (hj : j < n) : dt n (setc j (fun i => sg n fun t => f i t * x t) f) = dt n f * x j := by
  have h := dt_sum n j hj f x (fun t i => f i t) n
  rw [show (fun i => sg n fun t => x t * f i t) = fun i => sg n fun t => f i t * x t from funext fun i => sg_congr fun t _ => by grind] at h
  rw [h, sg_one hj fun t ht hne => by rw [dt_copy hj ht (fun e => hne e.symm)]; grind, setc_self]
  grind


end Go.Proofs.Ytologiinkilooaa.Zx

/- Determinants of whole numbers: what is left by the prime, how great they may be, elimination without division, a middle that outweighs its row (Levy, Desplanques), Hadamard. No program is named here. -/
namespace Go.Proofs.Ytologiinkilooaa.Zx
open Mx (sk sk_lt sk_zero)
set_option linter.unusedVariables false

theorem sg_ofInt (n : Nat) (f : Nat → Int) : Fp.ofInt (sg n f) = Mx.sg n fun i => Fp.ofInt (f i) := by
  induction n with
  | zero => rfl
  | succ n ih => rw [sg_succ, Fp.ofInt_add, ih]; rfl
theorem sgn_ofInt (j : Nat) : Fp.ofInt (sgn j) = Mx.sgn j := by
  unfold sgn Mx.sgn
  split <;> decide
/-- What the prime leaves of a determinant is that of what it leaves. -/
theorem dt_ofInt : ∀ (n : Nat) (f : Nat → Nat → Int), Fp.ofInt (dt n f) = Mx.dt n fun i j => Fp.ofInt (f i j)
  | 0, _ => rfl
  | n + 1, f => by
    rw [dt_succ, sg_ofInt, Mx.dt_succ]
    exact Mx.sg_congr fun j _ => by rw [Fp.ofInt_mul, Fp.ofInt_mul, sgn_ofInt, dt_ofInt n]; rfl

/-- Sizes. -/
def ab (x : Int) : Int := (x.natAbs : Int)
theorem ab_pos (x : Int) : 0 ≤ ab x := by unfold ab; omega
theorem ab_mul (x y : Int) : ab (x * y) = ab x * ab y := by unfold ab; rw [Int.natAbs_mul]; simp
theorem ab_sub (x y : Int) : ab (x - y) ≤ ab x + ab y := by unfold ab; omega
theorem ab_sub' (x y : Int) : ab x - ab y ≤ ab (x - y) := by unfold ab; omega
theorem ab_zero {x : Int} (h : ab x = 0) : x = 0 := by unfold ab at h; omega
theorem sg_le {n : Nat} {f g : Nat → Int} (h : ∀ i, i < n → f i ≤ g i) : sg n f ≤ sg n g := by
  induction n with
  | zero => exact Int.le_refl _
  | succ n ih => rw [sg_succ, sg_succ]; have := ih fun i hi => h i (by omega); have := h n (by omega); omega
theorem sg_nonneg {n : Nat} {f : Nat → Int} (h : ∀ i, i < n → 0 ≤ f i) : 0 ≤ sg n f := by
  induction n with
  | zero => exact Int.le_refl _
  | succ n ih => rw [sg_succ]; have := ih fun i hi => h i (by omega); have := h n (by omega); omega
theorem sg_shift (n : Nat) (f : Nat → Int) : sg (n + 1) f = f 0 + sg n fun i => f (i + 1) := by
  induction n with
  | zero => show 0 + f 0 = f 0 + 0; omega
  | succ n ih => rw [sg_succ, ih, sg_succ]; omega
/-- One term more. -/
theorem sg_extra {n k : Nat} (hk : k < n) (f : Nat → Int) (x : Int) : (sg n fun i => f i + if i = k then x else 0) = sg n f + x := by
  rw [sg_add, sg_one (k := k) hk fun i _ h => if_neg h, if_pos rfl]
def fb (M : Int) : Nat → Int
  | 0 => 1
  | n + 1 => (n + 1 : Nat) * (M * fb M n)
theorem fb_pos {M : Int} (h : 0 ≤ M) : ∀ n, 0 ≤ fb M n
  | 0 => by show (0 : Int) ≤ 1; omega
  | n + 1 => Int.mul_nonneg (by omega) (Int.mul_nonneg h (fb_pos h n))
theorem sg_ab {n : Nat} {f : Nat → Int} {B : Int} (h : ∀ i, i < n → ab (f i) ≤ B) : ab (sg n f) ≤ (n : Int) * B := by
  induction n with
  | zero => show ab 0 ≤ _; rw [show ((0 : Nat) : Int) * B = 0 by simp]; decide
  | succ n ih =>
    have h1 := ih fun i hi => h i (by omega)
    have h2 := h n (by omega)
    have h3 : ((n + 1 : Nat) : Int) * B = n * B + B := by rw [Int.natCast_add, Int.add_mul]; simp
    rw [sg_succ, h3]
    unfold ab at *
    omega
theorem sgn_ab (j : Nat) : ab (sgn j) = 1 := by unfold sgn; split <;> decide
/-- How great a determinant may be. -/
theorem dt_ab {M : Int} (hM : 0 ≤ M) : ∀ (n : Nat) (f : Nat → Nat → Int), (∀ i j, i < n → j < n → ab (f i j) ≤ M) → ab (dt n f) ≤ fb M n
  | 0, _, _ => by show ab 1 ≤ 1; decide
  | n + 1, f, h => by
    rw [dt_succ]
    refine sg_ab fun j hj => ?_
    have h1 := dt_ab hM n (del j f) fun a b ha hb => h (a + 1) (sk j b) (by omega) (sk_lt hb)
    rw [ab_mul, ab_mul, sgn_ab, Int.one_mul]
    exact Int.mul_le_mul (h 0 j (by omega) hj) h1 (ab_pos _) hM

/-- The first row, or the first column, has noughts behind its first number. -/
theorem dt_first (n : Nat) (f : Nat → Nat → Int) (h : ∀ j, 0 < j → j < n + 1 → f 0 j = 0) : dt (n + 1) f = f 0 0 * dt n fun i j => f (i + 1) (j + 1) := by
  rw [dt_succ, sg_one (Nat.succ_pos n) fun i hi hne => by rw [h i (by omega) hi]; grind]
  have e : del 0 f = fun i j => f (i + 1) (j + 1) := funext fun a => funext fun b => by show f (a + 1) (sk 0 b) = _; rw [sk_zero]
  rw [e]
  show (if 0 % 2 = 0 then (1 : Int) else -1) * f 0 0 * _ = _
  rw [if_pos rfl, Int.one_mul]
theorem dt_firstc (n : Nat) (f : Nat → Nat → Int) (h : ∀ i, 0 < i → i < n + 1 → f i 0 = 0) : dt (n + 1) f = f 0 0 * dt n fun i j => f (i + 1) (j + 1) := by
  rw [← dt_flip (n + 1) f, dt_first n (flip f) h, ← dt_flip n fun i j => f (i + 1) (j + 1)]
  rfl
/-- What is left when the first column is taken away, without division. -/
def schur (f : Nat → Nat → Int) : Nat → Nat → Int := fun i j => f 0 0 * f (i + 1) (j + 1) - f (i + 1) 0 * f 0 (j + 1)
def lowm (f : Nat → Nat → Int) : Nat → Nat → Int := fun i j => if i = 0 then (if j = 0 then 1 else 0) else if j = 0 then -(f i 0) else if i = j then f 0 0 else 0
theorem lowm_mul (n : Nat) (f : Nat → Nat → Int) {i : Nat} (hi : i < n) (j : Nat) : mul (n + 1) (lowm f) f (i + 1) j = f 0 0 * f (i + 1) j - f (i + 1) 0 * f 0 j := by
  show (sg (n + 1) fun x => (if i + 1 = 0 then (if x = 0 then (1 : Int) else 0) else if x = 0 then -(f (i + 1) 0) else if i + 1 = x then f 0 0 else 0) * f x j) = _
  rw [sg_two (k := 0) (l := i + 1) (by omega) (by omega) (by omega) fun x hx h1 h2 => by
    rw [if_neg (by omega), if_neg h1, if_neg (fun e => h2 e.symm)]; grind]
  rw [if_neg (by omega), if_pos rfl, if_neg (by omega), if_pos rfl]
  grind
theorem lowm_top (n : Nat) (f : Nat → Nat → Int) (j : Nat) : mul (n + 1) (lowm f) f 0 j = f 0 j := by
  show (sg (n + 1) fun x => (if 0 = 0 then (if x = 0 then (1 : Int) else 0) else if x = 0 then -(f 0 0) else if 0 = x then f 0 0 else 0) * f x j) = _
  rw [sg_one (k := 0) (by omega) fun x hx h1 => by rw [if_pos rfl, if_neg h1]; grind]
  rw [if_pos rfl, if_pos rfl]; grind
theorem elim (n : Nat) (f : Nat → Nat → Int) : f 0 0 ^ n * dt (n + 1) f = f 0 0 * dt n (schur f) := by
  have h1 : dt (n + 1) (lowm f) = f 0 0 ^ n := by
    rw [dt_first n (lowm f) fun j h _ => by show (if 0 = 0 then (if j = 0 then (1 : Int) else 0) else _) = 0; rw [if_pos rfl, if_neg (by omega)]]
    have e : (fun i j => lowm f (i + 1) (j + 1)) = scal (f 0 0) := funext fun i => funext fun j => by
      show (if i + 1 = 0 then (if j + 1 = 0 then (1 : Int) else 0) else if j + 1 = 0 then -(f (i + 1) 0) else if i + 1 = j + 1 then f 0 0 else 0) = if i = j then f 0 0 else 0
      rw [if_neg (by omega), if_neg (by omega)]
      by_cases h : i = j
      · rw [if_pos h, if_pos (by omega)]
      · rw [if_neg h, if_neg (by omega)]
    rw [e, dt_scal]
    show (if 0 = 0 then (if 0 = 0 then (1 : Int) else 0) else _) * _ = _
    rw [if_pos rfl, if_pos rfl, Int.one_mul]
  rw [← h1, ← dt_mul, dt_firstc n (mul (n + 1) (lowm f) f) fun i h hi => by
    obtain ⟨k, rfl⟩ : ∃ k, i = k + 1 := ⟨i - 1, by omega⟩
    rw [lowm_mul n f (by omega)]; grind]
  rw [lowm_top]
  congr 1
  exact dt_congr n fun i j hi hj => by rw [lowm_mul n f hi]; rfl

/-- In each row the number in the middle is more than all others together. -/
def Heavy (n : Nat) (f : Nat → Nat → Int) : Prop := ∀ i, i < n → (sg n fun j => ab (f i j)) < 2 * ab (f i i)
theorem Heavy.next {n : Nat} {f : Nat → Nat → Int} (h : Heavy (n + 1) f) : f 0 0 ≠ 0 ∧ Heavy n (schur f) := by
  have h0 := h 0 (by omega)
  rw [sg_shift] at h0
  have hR : 0 ≤ sg n fun j => ab (f 0 (j + 1)) := sg_nonneg fun j _ => ab_pos _
  have ha := ab_pos (f 0 0)
  refine ⟨fun e => ?_, fun i hi => ?_⟩
  · rw [e] at h0
    have : ab 0 = 0 := rfl
    omega
  · have h1 := h (i + 1) (by omega)
    rw [sg_shift] at h1
    have hc := ab_pos (f (i + 1) 0)
    have hB := ab_sub' (f 0 0 * f (i + 1) (i + 1)) (f (i + 1) 0 * f 0 (i + 1))
    rw [ab_mul, ab_mul] at hB
    have hS : (sg n fun j => ab (schur f i j)) ≤ sg n fun j => (ab (f 0 0) * ab (f (i + 1) (j + 1)) + ab (f (i + 1) 0) * ab (f 0 (j + 1))) + if j = i then ab (schur f i i) - (ab (f 0 0) * ab (f (i + 1) (i + 1)) + ab (f (i + 1) 0) * ab (f 0 (i + 1))) else 0 := sg_le fun j hj => by
      by_cases e : j = i
      · rw [if_pos e, e]; omega
      · rw [if_neg e]
        have := ab_sub (f 0 0 * f (i + 1) (j + 1)) (f (i + 1) 0 * f 0 (j + 1))
        rw [ab_mul, ab_mul] at this
        show ab (f 0 0 * f (i + 1) (j + 1) - f (i + 1) 0 * f 0 (j + 1)) ≤ _
        omega
    rw [sg_extra hi, sg_add, sg_times, sg_times] at hS
    have hB' : ab (f 0 0) * ab (f (i + 1) (i + 1)) - ab (f (i + 1) 0) * ab (f 0 (i + 1)) ≤ ab (schur f i i) := hB
    generalize ab (schur f i i) = y at *
    generalize (sg n fun j => ab (schur f i j)) = z at *
    generalize (sg n fun j => ab (f (i + 1) (j + 1))) = S at *
    generalize (sg n fun j => ab (f 0 (j + 1))) = R at *
    generalize ab (f (i + 1) (i + 1)) = d at *
    generalize ab (f 0 (i + 1)) = r at *
    generalize ab (f (i + 1) 0) = c at *
    generalize ab (f 0 0) = α at *
    have e1 : α * (S + c + 1) ≤ α * (2 * d) := Int.mul_le_mul_of_nonneg_left (by omega) ha
    have e2 : c * R ≤ c * α := Int.mul_le_mul_of_nonneg_left (by omega) hc
    have e3 : α * (S + c + 1) = α * S + c * α + α := by grind
    have e4 : α * (2 * d) = 2 * (α * d) := by grind
    rw [e3, e4] at e1
    omega
/-- Levy, Desplanques. -/
theorem heavy : ∀ (n : Nat) (f : Nat → Nat → Int), Heavy n f → dt n f ≠ 0
  | 0, _, _ => by show (1 : Int) ≠ 0; omega
  | n + 1, f, h => by
    obtain ⟨h1, h2⟩ := h.next
    intro e
    have := elim n f
    rw [e, Int.mul_zero] at this
    rcases Int.mul_eq_zero.1 this.symm with h3 | h3
    · exact h1 h3
    · exact heavy n _ h2 h3

/-- Sums of squares and products of rows. -/
def gm (m : Nat) (v : Nat → Nat → Int) : Nat → Nat → Int := fun i j => sg m fun x => v i x * v j x
theorem sq_pos (x : Int) : 0 ≤ x * x := by
  rcases Int.le_total 0 x with h | h
  · exact Int.mul_nonneg h h
  · have := Int.mul_nonneg (show 0 ≤ -x by omega) (show 0 ≤ -x by omega)
    rwa [Int.neg_mul_neg] at this
theorem gm_pos (m : Nat) (v : Nat → Nat → Int) (i : Nat) : 0 ≤ gm m v i i := sg_nonneg fun x _ => sq_pos _
theorem gm_comm (m : Nat) (v : Nat → Nat → Int) (i j : Nat) : gm m v i j = gm m v j i := sg_congr fun x _ => Int.mul_comm _ _
theorem sq_none {n : Nat} {f : Nat → Int} (h : (sg n fun x => f x * f x) = 0) : ∀ x, x < n → f x = 0 := by
  induction n with
  | zero => exact fun x hx => absurd hx (by omega)
  | succ n ih =>
    rw [sg_succ] at h
    have h1 : 0 ≤ sg n fun x => f x * f x := sg_nonneg fun x _ => sq_pos _
    have h2 := sq_pos (f n)
    intro x hx
    by_cases e : x = n
    · subst e
      rcases Int.mul_eq_zero.1 (show f x * f x = 0 by omega) with h | h <;> exact h
    · exact ih (by omega) x (by omega)
theorem pr_shift (n : Nat) (g : Nat → Int) : pr (n + 1) g = g 0 * pr n fun i => g (i + 1) := by
  induction n with
  | zero => show _ = _; simp only [pr]; grind
  | succ n ih => rw [pr, ih, pr]; grind
theorem pr_times (n : Nat) (a : Int) (g : Nat → Int) : (pr n fun i => a * g i) = a ^ n * pr n g := by
  induction n with
  | zero => simp only [pr, Int.pow_zero]; grind
  | succ n ih => rw [pr, ih, pr, Int.pow_succ]; grind
theorem pr_pos {n : Nat} {g : Nat → Int} (h : ∀ i, i < n → 0 ≤ g i) : 0 ≤ pr n g := by
  induction n with
  | zero => show (0 : Int) ≤ 1; omega
  | succ n ih => rw [pr]; exact Int.mul_nonneg (by first | exact ih (fun i hi => h i (by omega)) | exact h n (by omega)) (by first | exact h n (by omega) | exact ih (fun i hi => h i (by omega)))
theorem pr_le {n : Nat} {g k : Nat → Int} (h0 : ∀ i, i < n → 0 ≤ g i) (h : ∀ i, i < n → g i ≤ k i) : pr n g ≤ pr n k := by
  induction n with
  | zero => exact Int.le_refl _
  | succ n ih =>
    have h1 := ih (fun i hi => h0 i (by omega)) (fun i hi => h i (by omega))
    have h2 := pr_pos (n := n) fun i hi => h0 i (by omega)
    have h3 := h0 n (by omega)
    have h4 := h n (by omega)
    rw [pr, pr]
    first
      | exact Int.mul_le_mul h1 h4 h3 (by omega)
      | exact Int.mul_le_mul h4 h1 h2 (by omega)
theorem dt_times_all (n : Nat) (a : Int) (f : Nat → Nat → Int) : (dt n fun i j => a * f i j) = a ^ n * dt n f := by
  rw [← dt_scal, ← dt_mul]
  exact dt_congr n fun i j hi _ => by
    show a * f i j = sg n fun x => (if i = x then a else 0) * f x j
    rw [sg_one hi fun x _ h => by rw [if_neg fun e => h e.symm]; grind, if_pos rfl]
/-- The rows without what they have of the first one, without division. -/
def away (m : Nat) (v : Nat → Nat → Int) : Nat → Nat → Int := fun i x => gm m v 0 0 * v (i + 1) x - gm m v (i + 1) 0 * v 0 x
theorem away_gm (m : Nat) (v : Nat → Nat → Int) (i j : Nat) : gm m (away m v) i j = gm m v 0 0 * schur (gm m v) i j := by
  have e : gm m (away m v) i j = gm m v 0 0 * gm m v 0 0 * gm m v (i + 1) (j + 1) + -(gm m v 0 0 * gm m v (j + 1) 0) * gm m v (i + 1) 0 + (-(gm m v 0 0 * gm m v (i + 1) 0) * gm m v 0 (j + 1) + gm m v (i + 1) 0 * gm m v (j + 1) 0 * gm m v 0 0) := by
    conv => rhs; unfold gm
    rw [← sg_times m (_ * _), ← sg_times m (-(_)), ← sg_times m (-(_)), ← sg_times m (_ * _), ← sg_add, ← sg_add, ← sg_add]
    exact sg_congr fun x _ => by unfold away gm; grind
  rw [e]
  unfold schur
  rw [gm_comm m v 0 (j + 1)]
  grind
theorem hadamard_gm : ∀ (n m : Nat) (v : Nat → Nat → Int), dt n (gm m v) ≤ pr n fun i => gm m v i i
  | 0, _, _ => Int.le_refl _
  | n + 1, m, v => by
    have ha := gm_pos m v 0
    rcases Int.lt_or_eq_of_le ha with ha | ha
    · have ih := hadamard_gm n m (away m v)
      rw [show gm m (away m v) = fun i j => gm m v 0 0 * schur (gm m v) i j from funext fun i => funext fun j => away_gm m v i j, dt_times_all, pr_times] at ih
      have hp : 0 < gm m v 0 0 ^ n := Int.pow_pos ha
      have h1 : dt n (schur (gm m v)) ≤ pr n fun i => schur (gm m v) i i := Int.le_of_mul_le_mul_left ih hp
      have hB0 : ∀ i, i < n → 0 ≤ schur (gm m v) i i := fun i _ => by
        have h2 := gm_pos m (away m v) i
        rw [away_gm] at h2
        rcases (show schur (gm m v) i i < 0 ∨ 0 ≤ schur (gm m v) i i by omega) with h3 | h3
        · have := Int.mul_neg_of_pos_of_neg ha h3
          omega
        · exact h3
      have hB1 : ∀ i, i < n → schur (gm m v) i i ≤ gm m v 0 0 * gm m v (i + 1) (i + 1) := fun i _ => by
        have h2 := sq_pos (gm m v (i + 1) 0)
        unfold schur
        rw [gm_comm m v 0 (i + 1)]
        omega
      have h2 := pr_le hB0 hB1
      rw [pr_times] at h2
      have h3 := elim n (gm m v)
      have h4 : gm m v 0 0 * dt n (schur (gm m v)) ≤ gm m v 0 0 * (gm m v 0 0 ^ n * pr n fun i => gm m v (i + 1) (i + 1)) := Int.mul_le_mul_of_nonneg_left (Int.le_trans h1 h2) (by omega)
      rw [← h3, show gm m v 0 0 * (gm m v 0 0 ^ n * pr n fun i => gm m v (i + 1) (i + 1)) = gm m v 0 0 ^ n * (gm m v 0 0 * pr n fun i => gm m v (i + 1) (i + 1)) by grind] at h4
      rw [pr_shift]
      exact Int.le_of_mul_le_mul_left h4 hp
    · have hz : ∀ x, x < m → v 0 x = 0 := sq_none (n := m) (f := v 0) ha.symm
      rw [dt_zrow (k := 0) (by omega) fun j _ => show gm m v 0 j = 0 from by
        unfold gm
        rw [sg_congr (g := fun _ => 0) fun x hx => by rw [hz x hx]; grind, sg_none]]
      exact pr_pos fun i _ => gm_pos m v i
/-- Hadamard. -/
theorem hadamard (n : Nat) (f : Nat → Nat → Int) : dt n f * dt n f ≤ pr n fun i => sg n fun j => f i j * f i j := by
  have h := hadamard_gm n n f
  have e : dt n (gm n f) = dt n f * dt n f := by
    have := dt_mul n f (flip f)
    rw [dt_flip] at this
    exact this
  rw [e] at h
  exact h

end Go.Proofs.Ytologiinkilooaa.Zx

/- Elimination of whole numbers row by row, each row with a column of its own: what stands after each step is a determinant (Sylvester), and how the determinants of the first rows and columns come of it. No program is named here. -/
namespace Go.Proofs.Ytologiinkilooaa.Zx
open Mx (sk sk_lt sk_zero)
set_option linter.unusedVariables false

/-- The first t rows and row k; the columns taken and column j. -/
def bk (t k : Nat) : Nat → Nat := fun a => if a < t then a else k
def bj (t : Nat) (p : Nat → Nat) (j : Nat) : Nat → Nat := fun b => if b < t then p b else j
/-- What stands at (k, j) after t steps. -/
def bd (f : Nat → Nat → Int) (p : Nat → Nat) (t k j : Nat) : Int := dt (t + 1) fun a b => f (bk t k a) (bj t p j b)
/-- The number that step t took, 1 before the first. -/
def lp (f : Nat → Nat → Int) (p : Nat → Nat) : Nat → Int
  | 0 => 1
  | t + 1 => bd f p t t (p t)
theorem dt_single (f : Nat → Nat → Int) : dt 1 f = f 0 0 := by
  rw [dt_succ, sg_succ, sg_zero]
  show 0 + sgn 0 * f 0 0 * 1 = f 0 0
  rw [show sgn 0 = 1 from rfl]; grind
theorem dt_pair (f : Nat → Nat → Int) : dt 2 f = f 0 0 * f 1 1 - f 0 1 * f 1 0 := by
  rw [dt_succ, sg_succ, sg_succ, sg_zero]
  simp only [dt_single]
  show 0 + sgn 0 * f 0 0 * f 1 1 + sgn 1 * f 0 1 * f 1 0 = _
  rw [show sgn 0 = 1 from rfl, show sgn 1 = -1 from rfl]; grind
theorem bd_zero (f : Nat → Nat → Int) (p : Nat → Nat) (k j : Nat) : bd f p 0 k j = f k j := by unfold bd; rw [dt_single]; rfl

def Sylv (f : Nat → Nat → Int) (p : Nat → Nat) (t : Nat) : Prop :=
  ∀ (s : Nat) (K J : Nat → Nat), (∀ a, a < t → K a = a) → (∀ b, b < t → J b = p b) →
    lp f p t ^ s * dt (t + (s + 1)) (fun a b => f (K a) (J b)) = dt (s + 1) fun a b => bd f p t (K (t + a)) (J (t + b))
theorem Sylv.rec' {f : Nat → Nat → Int} {p : Nat → Nat} {t : Nat} (h : Sylv f p t) (k j : Nat) :
    lp f p t * bd f p (t + 1) k j = bd f p t t (p t) * bd f p t k j - bd f p t t j * bd f p t k (p t) := by
  have e := h 1 (bk (t + 1) k) (bj (t + 1) p j) (fun a ha => by unfold bk; rw [if_pos (by omega)]) (fun b hb => by unfold bj; rw [if_pos (by omega)])
  rw [Int.pow_succ, Int.pow_zero, Int.one_mul] at e
  have e2 : dt (t + (1 + 1)) (fun a b => f (bk (t + 1) k a) (bj (t + 1) p j b)) = bd f p (t + 1) k j := rfl
  rw [e2] at e
  rw [e]
  show dt 2 _ = _
  rw [dt_pair]
  have k0 : bk (t + 1) k (t + 0) = t := by unfold bk; rw [if_pos (by omega)]; rfl
  have k1 : bk (t + 1) k (t + 1) = k := by unfold bk; rw [if_neg (by omega)]
  have j0 : bj (t + 1) p j (t + 0) = p t := by unfold bj; rw [if_pos (by omega)]; rfl
  have j1 : bj (t + 1) p j (t + 1) = j := by unfold bj; rw [if_neg (by omega)]
  rw [k0, k1, j0, j1]
theorem sylv (f : Nat → Nat → Int) (p : Nat → Nat) : ∀ t, (∀ i, i < t → lp f p (i + 1) ≠ 0) → Sylv f p t
  | 0, _ => fun s K J _ _ => by
    show (1 : Int) ^ s * _ = _
    rw [Int.one_pow, Int.one_mul, show 0 + (s + 1) = s + 1 by omega]
    exact dt_congr _ fun a b _ _ => by rw [bd_zero, show 0 + a = a by omega, show 0 + b = b by omega]
  | t + 1, hz => fun s K J hK hJ => by
    have S := sylv f p t fun i hi => hz i (by omega)
    have IH := S (s + 1) K J (fun a ha => hK a (by omega)) (fun b hb => hJ b (by omega))
    have q0 := hz t (by omega)
    have l0 : lp f p t ≠ 0 := by
      rcases t with _ | t
      · show (1 : Int) ≠ 0; decide
      · exact hz t (by omega)
    obtain ⟨G, hG⟩ : ∃ G, G = fun a b => bd f p t (K (t + a)) (J (t + b)) := ⟨_, rfl⟩
    have g00 : G 0 0 = lp f p (t + 1) := by
      rw [hG]
      show bd f p t (K t) (J t) = bd f p t t (p t)
      rw [hK t (by omega), hJ t (by omega)]
    have el := elim (s + 1) G
    have sc : dt (s + 1) (schur G) = lp f p t ^ (s + 1) * dt (s + 1) fun a b => bd f p (t + 1) (K (t + 1 + a)) (J (t + 1 + b)) := by
      rw [← dt_times_all]
      refine dt_congr _ fun a b _ _ => ?_
      rw [S.rec']
      unfold schur
      rw [g00, hG]
      show lp f p (t + 1) * bd f p t (K (t + (a + 1))) (J (t + (b + 1))) - bd f p t (K (t + (a + 1))) (J t) * bd f p t (K t) (J (t + (b + 1))) = _
      rw [hK t (by omega), hJ t (by omega), show t + (a + 1) = t + 1 + a by omega, show t + (b + 1) = t + 1 + b by omega]
      show bd f p t t (p t) * _ - _ = _
      grind
    rw [← hG] at IH
    rw [sc, ← IH, g00] at el
    have hp : lp f p t ^ (s + 1) ≠ 0 := Int.pow_ne_zero l0
    rw [show t + (s + 1 + 1) = t + 1 + (s + 1) by omega, Int.pow_succ (lp f p (t + 1)) s] at el
    have el2 : (lp f p (t + 1) * lp f p t ^ (s + 1)) * (lp f p (t + 1) ^ s * dt (t + 1 + (s + 1)) fun a b => f (K a) (J b)) = (lp f p (t + 1) * lp f p t ^ (s + 1)) * dt (s + 1) fun a b => bd f p (t + 1) (K (t + 1 + a)) (J (t + 1 + b)) := by grind
    exact Int.eq_of_mul_eq_mul_left (Int.mul_ne_zero q0 hp) el2

/-- A step: what it divides by goes in. -/
theorem step_bd {f : Nat → Nat → Int} {p : Nat → Nat} {t : Nat} (hz : ∀ i, i < t → lp f p (i + 1) ≠ 0) (k j : Nat) :
    (bd f p t k j * lp f p (t + 1) - bd f p t k (p t) * bd f p t t j).tdiv (lp f p t) = bd f p (t + 1) k j := by
  have l0 : lp f p t ≠ 0 := by
    rcases t with _ | t
    · show (1 : Int) ≠ 0; decide
    · exact hz t (by omega)
  have := (sylv f p t hz).rec' k j
  rw [show bd f p t k j * lp f p (t + 1) - bd f p t k (p t) * bd f p t t j = lp f p t * bd f p (t + 1) k j by
    rw [this]; show bd f p t k j * bd f p t t (p t) - _ = _; grind]
  exact Int.mul_tdiv_cancel_left _ l0

theorem lp_dt (f : Nat → Nat → Int) (p : Nat → Nat) (t : Nat) : lp f p t = dt t fun a b => f a (p b) := by
  rcases t with _ | t
  · rfl
  · show dt (t + 1) (fun a b => f (bk t t a) (bj t p (p t) b)) = _
    refine dt_congr _ fun a b ha hb => ?_
    have e1 : bk t t a = a := by unfold bk; split <;> omega
    have e2 : bj t p (p t) b = p b := by
      unfold bj
      by_cases h : b < t
      · rw [if_pos h]
      · rw [if_neg h, show b = t by omega]
    rw [e1, e2]

/-- A row of which nothing is left in the first q columns: the first q rows and columns have no determinant. -/
theorem bd_null {f : Nat → Nat → Int} {p : Nat → Nat} {t q : Nat} (ht : t < q) (h0 : lp f p t ≠ 0) (h : ∀ j, j < q → bd f p t t j = 0) : dt q f = 0 := by
  obtain ⟨c, hc⟩ : ∃ c : Nat → Int, c = fun a => if a < t + 1 then sgn (t + a) * dt t (fun i b => f (sk a b) (p i)) else 0 := ⟨_, rfl⟩
  rw [← dt_flip]
  refine dt_null (y := c) (c := t) ht ?_ fun j hj => ?_
  · rw [hc]
    show (if t < t + 1 then sgn (t + t) * dt t (fun i b => f (sk t b) (p i)) else 0) ≠ 0
    rw [if_pos (by omega), show sgn (t + t) = 1 by unfold sgn; rw [if_pos (by omega)], Int.one_mul]
    rw [lp_dt, ← dt_flip] at h0
    rw [dt_congr t (g := flip fun a b => f a (p b)) fun i b hi hb => by show f (sk t b) (p i) = f b (p i); rw [show sk t b = b by unfold sk; rw [if_pos hb]]]
    exact h0
  · have e := h j hj
    unfold bd at e
    rw [← dt_flip, ← laplace t t _ (Nat.le_refl _)] at e
    rw [← e, sg_less (n := t + 1) (by omega) fun i h1 h2 => by rw [hc]; show flip f j i * (if i < t + 1 then _ else 0) = 0; rw [if_neg (by omega), Int.mul_zero]]
    refine sg_congr fun a ha => ?_
    rw [hc]
    show f a j * (if a < t + 1 then sgn (t + a) * dt t (fun i b => f (sk a b) (p i)) else 0) = sgn (t + a) * f (bk t t a) (bj t p j t) * dt t _
    rw [if_pos ha, show bk t t a = a by unfold bk; split <;> omega, show bj t p j t = j by unfold bj; rw [if_neg (by omega)]]
    rw [dt_congr t (f := wo _ t a) (g := fun i b => f (sk a b) (p i)) fun i b hi hb => by
      show f (bk t t (sk a b)) (bj t p j (sk t i)) = f (sk a b) (p i)
      have e3 : sk a b ≤ b + 1 := by unfold sk; split <;> omega
      rw [show sk t i = i by unfold sk; rw [if_pos hi], show bj t p j i = p i by unfold bj; rw [if_pos hi], show bk t t (sk a b) = sk a b by unfold bk; split <;> omega]]
    grind

theorem sp_sq {n : Nat} (s : Nat → Int) : sp n s = 0 ∨ sp n s * sp n s = 1 := by
  by_cases ho : ∃ k, k < n ∧ (s k < 0 ∨ (n : Int) ≤ s k)
  · obtain ⟨k, hk, h⟩ := ho
    exact .inl (sp_out hk h)
  · by_cases ht : ∃ a b, a < n ∧ b < n ∧ a ≠ b ∧ s a = s b
    · obtain ⟨a, b, ha, hb, hne, e⟩ := ht
      exact .inl (sp_twice ha hb hne e)
    · right
      have : sp n s * sp n s = dt n (mul n (fun i j => if s i = (j : Int) then 1 else 0) (flip fun i j => if s i = (j : Int) then 1 else 0)) := by
        rw [dt_mul, dt_flip]; rfl
      rw [this]
      refine Eq.trans ?_ (dt_one n)
      refine dt_congr n fun i k hi hk => ?_
      show (sg n fun x => (if s i = (x : Int) then (1 : Int) else 0) * (if s k = (x : Int) then 1 else 0)) = if i = k then 1 else 0
      have hb : 0 ≤ s i ∧ s i < n := by
        have : ¬ (s i < 0 ∨ (n : Int) ≤ s i) := fun h => ho ⟨i, hi, h⟩
        omega
      rw [sg_one (k := (s i).toNat) (by omega) fun x hx hne => by rw [if_neg (by omega), Int.zero_mul], if_pos (by omega), Int.one_mul]
      by_cases e : i = k
      · rw [if_pos e, if_pos (by rw [← e]; omega)]
      · rw [if_neg e, if_neg fun e2 => ht ⟨i, k, hi, hk, e, by omega⟩]
theorem sp_some {n : Nat} (s : Nat → Int) : sp n s = 1 ∨ sp n s = -1 ∨ sp n s = 0 := by
  rcases sp_sq (n := n) s with h | h
  · exact .inr (.inr h)
  · have : (sp n s - 1) * (sp n s + 1) = 0 := by grind
    rcases Int.mul_eq_zero.1 this with h | h
    · left; omega
    · right; left; omega

/-- The first q rows and columns, of the number that the last step took. -/
theorem lead_lp {f : Nat → Nat → Int} {p : Nat → Nat} {q : Nat} (hz : ∀ i, i < q → lp f p (i + 1) ≠ 0) (hf : ∀ i, i < q → ∀ j, j < p i → bd f p i i j = 0) :
    sp q (fun i => (p i : Int)) * lp f p q = dt q f := by
  by_cases ho : ∃ i, i < q ∧ q ≤ p i
  · obtain ⟨i, hi, h⟩ := ho
    rw [sp_out hi (.inr (by omega)), Int.zero_mul]
    refine (bd_null hi ?_ fun j hj => hf i hi j (by omega)).symm
    rcases i with _ | i
    · show (1 : Int) ≠ 0; decide
    · exact hz i (by omega)
  · have hp : ∀ i, i < q → p i < q := fun i hi => by
      rcases Nat.lt_or_ge (p i) q with h | h
      · exact h
      · exact absurd ⟨i, hi, h⟩ ho
    have e : lp f p q = dt q f * sp q (fun i => (p i : Int)) := by
      rw [lp_dt]
      have : sp q (fun i => (p i : Int)) = dt q (flip fun i j => if (p i : Int) = (j : Int) then 1 else 0) := by rw [dt_flip]; rfl
      rw [this, ← dt_mul]
      refine dt_congr q fun a b ha hb => ?_
      show f a (p b) = sg q fun x => f a x * (if (p b : Int) = (x : Int) then 1 else 0)
      rw [sg_one (k := p b) (hp b hb) fun x hx hne => by rw [if_neg (by omega), Int.mul_zero], if_pos rfl, Int.mul_one]
    have h0 : lp f p q ≠ 0 := by
      rcases q with _ | q
      · show (1 : Int) ≠ 0; decide
      · exact hz q (by omega)
    rcases sp_sq (n := q) (fun i => (p i : Int)) with h | h
    · rw [h, Int.mul_zero] at e; exact absurd e h0
    · rw [e]; grind

theorem bd_ab {f : Nat → Nat → Int} {p : Nat → Nat} {t k : Nat} {M : Int} {r c : Nat} (hM : 0 ≤ M) (h : ∀ i j, i < r → j < c → ab (f i j) ≤ M) (ht : t ≤ k) (hk : k < r) (hp : ∀ i, i < t → p i < c) {j : Nat} (hj : j < c) : ab (bd f p t k j) ≤ fb M (t + 1) := by
  refine dt_ab hM _ _ fun a b ha hb => h _ _ ?_ ?_
  · unfold bk; split <;> omega
  · unfold bj
    by_cases e : b < t
    · rw [if_pos e]; exact hp b e
    · rw [if_neg e]; exact hj
theorem fb_nine {n : Nat} (h : n ≤ 5) : fb 9 n ≤ 7085880 := by
  have : n = 0 ∨ n = 1 ∨ n = 2 ∨ n = 3 ∨ n = 4 ∨ n = 5 := by omega
  rcases this with e | e | e | e | e | e <;> rw [e] <;> decide +kernel
/-- Only the pivots so far count. -/
theorem bd_congr {f : Nat → Nat → Int} {p p' : Nat → Nat} {t : Nat} (h : ∀ i, i < t → p i = p' i) (k j : Nat) : bd f p t k j = bd f p' t k j := by
  unfold bd
  refine dt_congr _ fun a b ha hb => ?_
  have : bj t p j b = bj t p' j b := by
    unfold bj
    by_cases e : b < t
    · rw [if_pos e, if_pos e, h b e]
    · rw [if_neg e, if_neg e]
  rw [this]
theorem lp_congr {f : Nat → Nat → Int} {p p' : Nat → Nat} {t : Nat} (h : ∀ i, i < t → p i = p' i) : lp f p t = lp f p' t := by
  rcases t with _ | t
  · rfl
  · show bd f p t t (p t) = bd f p' t t (p' t)
    rw [bd_congr (fun i hi => h i (by omega)), h t (by omega)]

def upd (p : Nat → Nat) (k q : Nat) : Nat → Nat := fun i => if i = k then q else p i
theorem upd_lt {p : Nat → Nat} {k q i : Nat} (h : i < k) : upd p k q i = p i := by unfold upd; rw [if_neg (by omega)]
theorem upd_self (p : Nat → Nat) (k q : Nat) : upd p k q k = q := by unfold upd; rw [if_pos rfl]
theorem bd_upd {f : Nat → Nat → Int} {p : Nat → Nat} {k q t : Nat} (h : t ≤ k) (r j : Nat) : bd f (upd p k q) t r j = bd f p t r j := bd_congr (fun i hi => upd_lt (by omega)) r j
theorem lp_upd {f : Nat → Nat → Int} {p : Nat → Nat} {k q t : Nat} (h : t ≤ k) : lp f (upd p k q) t = lp f p t := lp_congr fun i hi => upd_lt (by omega)
theorem lp_next (f : Nat → Nat → Int) (p : Nat → Nat) (k q : Nat) : lp f (upd p k q) (k + 1) = bd f p k k q := by
  show bd f (upd p k q) k k (upd p k q k) = _
  rw [bd_upd (Nat.le_refl k), upd_self]
/-- The first k steps: the column that each took, the first that has not 0. -/
structure El (n : Nat) (x : Nat → Nat → Int) (p : Nat → Nat) (k : Nat) : Prop where
  lt : ∀ i, i < k → p i < n
  nz : ∀ i, i < k → lp x p (i + 1) ≠ 0
  first : ∀ i, i < k → ∀ j, j < p i → bd x p i i j = 0
theorem El.start (n : Nat) (x : Nat → Nat → Int) (p : Nat → Nat) : El n x p 0 := ⟨fun i hi => absurd hi (by omega), fun i hi => absurd hi (by omega), fun i hi => absurd hi (by omega)⟩
theorem El.next {n : Nat} {x : Nat → Nat → Int} {p : Nat → Nat} {k q : Nat} (h : El n x p k) (hq : q < n) (h1 : bd x p k k q ≠ 0) (h2 : ∀ j, j < q → bd x p k k j = 0) : El n x (upd p k q) (k + 1) := by
  refine ⟨fun i hi => ?_, fun i hi => ?_, fun i hi j hj => ?_⟩
  · by_cases e : i = k
    · rw [e, upd_self]; exact hq
    · rw [upd_lt (by omega)]; exact h.lt i (by omega)
  · by_cases e : i = k
    · rw [e, lp_next]; exact h1
    · rw [lp_upd (by omega)]; exact h.nz i (by omega)
  · by_cases e : i = k
    · rw [e, bd_upd (Nat.le_refl k)]
      rw [e, upd_self] at hj
      exact h2 j hj
    · rw [bd_upd (by omega)]
      rw [upd_lt (by omega)] at hj
      exact h.first i (by omega) j hj
theorem El.ne {n : Nat} {x : Nat → Nat → Int} {p : Nat → Nat} {k : Nat} (h : El n x p k) {t : Nat} (ht : t ≤ k) : lp x p t ≠ 0 := by
  rcases t with _ | t
  · show (1 : Int) ≠ 0; decide
  · exact h.nz t (by omega)
theorem El.lead {n : Nat} {x : Nat → Nat → Int} {p : Nat → Nat} {k : Nat} (h : El n x p k) : sp k (fun i => (p i : Int)) * lp x p k = dt k x := lead_lp h.nz h.first
theorem El.null {n : Nat} {x : Nat → Nat → Int} {p : Nat → Nat} {k : Nat} (h : El n x p k) (hz : ∀ j, j < n → bd x p k k j = 0) {q : Nat} (hk : k < q) (hq : q ≤ n) : dt q x = 0 :=
  bd_null hk (h.ne (Nat.le_refl k)) fun j hj => hz j (by omega)
theorem El.step {n : Nat} {x : Nat → Nat → Int} {p : Nat → Nat} {k : Nat} (h : El n x p k) {t : Nat} (ht : t < k) (r j : Nat) :
    (bd x p t r j * bd x p t t (p t) - bd x p t r (p t) * bd x p t t j).tdiv (lp x p t) = bd x p (t + 1) r j := step_bd (fun i hi => h.nz i (by omega)) r j
theorem El.bound {n : Nat} {x : Nat → Nat → Int} {p : Nat → Nat} {k : Nat} (h : El n x p k) (h5 : n ≤ 5) (hx : ∀ i j, i < n → j < n → ab (x i j) ≤ 9) {t r : Nat} (ht : t ≤ k) (hr : t ≤ r) (hr2 : r < n) {j : Nat} (hj : j < n) : -7085880 ≤ bd x p t r j ∧ bd x p t r j ≤ 7085880 := by
  have h1 := bd_ab (f := x) (p := p) (t := t) (k := r) (M := 9) (by omega) hx hr hr2 (fun i hi => h.lt i (by omega)) hj
  have h2 := fb_nine (n := t + 1) (by omega)
  unfold ab at h1
  omega
theorem dt_bound {n : Nat} {x : Nat → Nat → Int} (h5 : n ≤ 5) (hx : ∀ i j, i < n → j < n → ab (x i j) ≤ 9) {q : Nat} (hq : q ≤ n) : -7085880 ≤ dt q x ∧ dt q x ≤ 7085880 := by
  have h1 := dt_ab (M := 9) (by omega) q x fun i j hi hj => hx i j (by omega) (by omega)
  have h2 := fb_nine (n := q) (by omega)
  unfold ab at h1
  omega

end Go.Proofs.Ytologiinkilooaa.Zx

/- Contracts of package bareiss, first part: checkRow, Check; good matrices of whole numbers. -/
namespace Go.Proofs.Ytologiinkilooaa
open Go.ChangeShapes Go.WideShapes Go.ChangeAt Go.RowKit
set_option linter.unusedVariables false

theorem qcode_is {most c : Nat} {lo hi : Int} {m : List (List Int)} (h : Mx.mcode most lo hi m = c) (hc : c ≠ 0) : qcode most lo hi m = c := by
  rw [qcode_bad (by omega), h]

/-- A square matrix of small whole numbers. -/
structure Shz (n : Nat) (x : Nat → Nat → Int) (m : List (List Int)) : Prop where
  eq : m = Mx.tab n n x
  n0 : 0 < n
  n5 : n ≤ 5
  ab : ∀ i j, i < n → j < n → -9 ≤ x i j ∧ x i j ≤ 9
theorem Shz.len {n : Nat} {x : Nat → Nat → Int} {m : List (List Int)} (h : Shz n x m) : m.length = n := by rw [h.eq, Mx.len_tab]
theorem shz_or (m : List (List Int)) {n : Nat} (hn : m.length = n) : (∃ x, Shz n x m) ∨ qcode 5 (-9) 9 m ≠ 0 := by
  by_cases h : qcode 5 (-9) 9 m = 0
  · left
    have hm : Mx.mcode 5 (-9) 9 m = 0 ∧ m.length = (m.getD 0 []).length := by
      unfold qcode at h
      by_cases h0 : Mx.mcode 5 (-9) 9 m = 0 ∧ m.length ≠ (m.getD 0 []).length
      · rw [if_pos h0] at h; cases h
      · rw [if_neg h0] at h
        exact ⟨h, Classical.byContradiction fun e => h0 ⟨h, e⟩⟩
    obtain ⟨h1, h2⟩ := hm
    unfold Mx.mcode at h1
    by_cases c1 : m.length = 0 ∨ (m.getD 0 []).length = 0
    · rw [if_pos c1] at h1; cases h1
    rw [if_neg c1] at h1
    by_cases c2 : 5 < m.length ∨ 5 < (m.getD 0 []).length
    · rw [if_pos c2] at h1; cases h1
    rw [if_neg c2] at h1
    have hr := Mx.rows_zero h1
    have hl : ∀ i, i < m.length → (m.getD i []).length = n := fun i hi => by rw [(Mx.rcode_zero (hr i hi)).1, ← h2, hn]
    refine ⟨fun i j => (m.getD i []).getD j 0, ⟨?_, by omega, by omega, fun i j hi hj => ?_⟩⟩
    · have := Mx.is_tab hl
      rw [hn] at this
      exact this
    · exact (Mx.rcode_zero (hr i (by omega))).2 j (by rw [hl i (by omega)]; exact hj)
  · exact .inr h
theorem Shz.code {n : Nat} {x : Nat → Nat → Int} {m : List (List Int)} (h : Shz n x m) : qcode 5 (-9) 9 m = 0 := by
  obtain ⟨rfl, h0, h5, hab⟩ := h
  have e0 : ((Mx.tab n n x).getD 0 []).length = n := Mx.tab_len n n x 0 h0
  have hm : Mx.mcode 5 (-9) 9 (Mx.tab n n x) = 0 := by
    unfold Mx.mcode
    rw [Mx.len_tab, e0, if_neg (by omega), if_neg (by omega)]
    refine Mx.rows_ok fun i hi => ?_
    rw [Mx.len_tab] at hi
    refine Mx.rcode_ok (Mx.tab_len n n x i hi) fun k hk => ?_
    rw [Mx.tab_len n n x i hi] at hk
    rw [Mx.tab_el n n x i k hi hk]
    exact hab i k hi hk
  unfold qcode
  rw [if_neg (fun h => h.2 (by rw [Mx.len_tab, e0])), hm]
theorem Shz.nine {n : Nat} {x : Nat → Nat → Int} {m : List (List Int)} (h : Shz n x m) : ∀ i j, i < n → j < n → Zx.ab (x i j) ≤ 9 := fun i j hi hj => by
  have := h.ab i j hi hj
  unfold Zx.ab; omega

set_option maxRecDepth 100000 in
set_option maxHeartbeats 800000 in
theorem BRow_any (A : Option Addr) (l : List Int) (n d c : Nat) (w : World) (ha : Lies w A l) (hn : l.length = n) (hb : c ≤ 1000) :
    Calls Try.prog 86 #[.slice A n d, .int .i64 (c : Int)] w fun e w' => e = .returned (errOf (Mx.rcode (-9) 9 c l)) ∧ w = w' := by
  have HA := Lib.hid ha
  have HN := Lib.hid hn
  obtain ⟨v, hv⟩ : ∃ v, v = Mx.rcode (-9) 9 c l := ⟨_, rfl⟩
  by_cases hc : n = c
  · subst hc
    have RNG := Lib.hid (fun (k : Nat) (hk : k < n) h2 => hv.trans (Mx.rcode_bad hn (k := k) (by omega) h2))
    have OKS := Lib.hid (fun h2 => hv.trans (Mx.rcode_ok (lo := -9) (hi := 9) hn h2))
    rw [← hv]
    have e1 : ((n : Int) != (n : Int)) = false := by simp
    clear ha hn hv
    go_enter Try.func86, Try.ntmps86
    go_wp2_with fail
    go_loop [14] (fun i => ∃ k : Nat, k ≤ n ∧ i = .int .i64 (k : Int) ∧ ∀ j, j < k → -9 ≤ l.getD j 0 ∧ l.getD j 0 ≤ 9) (fun i => n - (intOf i).toNat)
    case atStart => exact ⟨0, Nat.zero_le _, rfl, fun j hj => absurd hj (by omega)⟩
    case round =>
      obtain ⟨k, hk, rfl, hg⟩ := hrel
      have HG := Lib.hid hg
      clear hg
      by_cases hlt : k < n
      · obtain ⟨ad, rfl, _, hcx⟩ := HA.out k (by have := HN.out; omega)
        obtain ⟨x, hx⟩ : ∃ x, x = l.getD k 0 := ⟨_, rfl⟩
        rw [← hx] at hcx
        by_cases x0 : x < -9
        · have E := Lib.hid (RNG.out k hlt (by rw [← hx]; omega))
          clear hx
          go_wp2_with fail
          go_ret
          exact ⟨by rw [E.out]; rfl, rfl⟩
        · by_cases x1 : 9 < x
          · have E := Lib.hid (RNG.out k hlt (by rw [← hx]; omega))
            clear hx
            go_wp2_with fail
            go_ret
            exact ⟨by rw [E.out]; rfl, rfl⟩
          · have GG := Lib.hid (show ∀ j, j < k + 1 → -9 ≤ l.getD j 0 ∧ l.getD j 0 ≤ 9 from fun j hj => by
              by_cases e : j = k
              · subst e; rw [← hx]; omega
              · exact HG.out j (by omega))
            clear hx
            go_wp2_with fail
            go_round
            case rel => exact ⟨k + 1, by omega, by go_num, GG.out⟩
            case measure => simp [intOf]; omega
      · have E := Lib.hid (OKS.out (fun j hj => HG.out j (by have := HN.out; omega)))
        go_wp2_with fail
        go_ret
        exact ⟨by rw [E.out]; rfl, rfl⟩
  · have E := Lib.hid (hv.trans (Mx.rcode_len (lo := -9) (hi := 9) (by omega : l.length ≠ c)))
    rw [← hv]
    have e1 : ((n : Int) != (c : Int)) = true := by rw [bne_iff_ne]; omega
    clear ha hn hv hc
    go_enter Try.func86, Try.ntmps86
    go_wp2_with fail
    go_ret
    exact ⟨by rw [E.out]; rfl, rfl⟩

/-- The first k rows have no fault. -/
def rowsZ (lo hi : Int) (m : List (List Int)) (k : Nat) : Prop := Mx.rows lo hi (m.getD 0 []).length m = Mx.rows lo hi (m.getD 0 []).length (m.drop k)
theorem rowsZ_go {lo hi : Int} {m : List (List Int)} {k : Nat} (hk : k < m.length) (h : rowsZ lo hi m k) (h0 : Mx.rcode lo hi (m.getD 0 []).length (m.getD k []) = 0) : rowsZ lo hi m (k + 1) := by
  unfold rowsZ at *
  rw [h, Mx.rows_drop hk, if_pos h0]

set_option maxRecDepth 100000 in
set_option maxHeartbeats 1600000 in
theorem BChk_main (A : Option Addr) (m : List (List Int)) (n d q : Nat) (w : World) (ha : LiesM w A m) (hn : m.length = n) (hq : (m.getD 0 []).length = q) (h1 : 0 < n) (h2 : n ≤ 5) (h3 : 0 < q) (h4 : q ≤ 5) :
    Calls Try.prog 61 #[.slice A n d] w fun e w' => e = .returned (errOf (qcode 5 (-9) 9 m)) ∧ w = w' := by
  have hm : Mx.mcode 5 (-9) 9 m = Mx.rows (-9) 9 (m.getD 0 []).length m := by
    unfold Mx.mcode
    rw [if_neg (by omega), if_neg (by omega)]
  obtain ⟨v, hv⟩ : ∃ v, v = Mx.rows (-9) 9 (m.getD 0 []).length m := ⟨_, rfl⟩
  have QV := Lib.hid (show qcode 5 (-9) 9 m = if v = 0 ∧ n ≠ q then 3 else v by unfold qcode; rw [hm, ← hv, hn, hq])
  obtain ⟨qv, hqv⟩ : ∃ qv, qv = qcode 5 (-9) 9 m := ⟨_, rfl⟩
  rw [← hqv] at QV ⊢
  have hg0 : rowsZ (-9) 9 m 0 := by unfold rowsZ; rw [List.drop_zero]
  have RNG := Lib.hid (fun (k : Nat) (hk : k < n) (hg : rowsZ (-9) 9 m k) (h0 : Mx.rcode (-9) 9 q (m.getD k []) ≠ 0) => show v = Mx.rcode (-9) 9 q (m.getD k []) by
    unfold rowsZ at hg
    rw [hv, hg, Mx.rows_drop (by omega), hq, if_neg h0])
  have OKS := Lib.hid (fun (hg : rowsZ (-9) 9 m n) => show v = 0 by
    unfold rowsZ at hg
    rw [hv, hg, Mx.rows_end (by omega)])
  have STP := Lib.hid (fun (k : Nat) (hk : k < n) (hg : rowsZ (-9) 9 m k) (h0 : Mx.rcode (-9) 9 q (m.getD k []) = 0) => rowsZ_go (by omega) hg (by rw [hq]; exact h0))
  obtain ⟨ad, A0, d0, rfl, _, hc0, _, hr0⟩ := ha 0 (by omega)
  rw [hq] at hc0
  rw [add_zero'] at hc0
  have HA := Lib.hid ha
  have HN := Lib.hid hn
  have G0 := Lib.hid hg0
  have e0 : ((n : Int) == 0) = false := by rw [beq_eq_false_iff_ne]; omega
  have e1 : ((q : Int) == 0) = false := by rw [beq_eq_false_iff_ne]; omega
  have e2 : ¬ (5 : Int) < n := by omega
  have e3 : ¬ (5 : Int) < q := by omega
  clear ha hn hg0 hm hv hq hr0 hqv
  go_enter Try.func61, Try.ntmps61
  go_wp2_with fail
  go_loop [30] (fun i => ∃ k : Nat, k ≤ n ∧ i = .int .i64 (k : Int) ∧ rowsZ (-9) 9 m k) (fun i => n - (intOf i).toNat)
  case atStart => exact ⟨0, Nat.zero_le _, rfl, G0.out⟩
  case round =>
    obtain ⟨k, hk, rfl, hg⟩ := hrel
    have HG := Lib.hid hg
    clear hg
    by_cases hlt : k < n
    · obtain ⟨ad', A1, d1, ea, _, hc1, _, hr1⟩ := HA.out k (by have := HN.out; omega)
      obtain rfl := Option.some.inj ea
      have CR := Lib.hid (BRow_any A1 (m.getD k []) _ d1 q w hr1 rfl (by omega))
      obtain ⟨p, hp⟩ : ∃ p, p = (m.getD k []).length := ⟨_, rfl⟩
      rw [← hp] at hc1 CR
      by_cases h0 : Mx.rcode (-9) 9 q (m.getD k []) = 0
      · have ST := Lib.hid (STP.out k hlt HG.out h0)
        rw [h0] at CR
        clear hr1 hp h0
        go_wp2_with fail
        refine (CR.out).mono ?_; rintro e w' ⟨rfl, rfl⟩
        rw [errOf_zero]
        go_wp2_with fail
        go_round
        case rel => exact ⟨k + 1, by omega, by go_num, ST.out⟩
        case measure => simp [intOf]; omega
      · have E := Lib.hid (RNG.out k hlt HG.out h0)
        rw [errOf_ne _ h0] at CR
        have E2 := Lib.hid (show errOf qv = .iface 50 (.int .i64 ((Mx.rcode (-9) 9 q (m.getD k []) : Nat) : Int)) by rw [QV.out, if_neg (fun h => h0 (E.out.symm.trans h.1)), E.out, errOf_ne _ h0])
        generalize Mx.rcode (-9) 9 q (m.getD k []) = z at *
        clear hr1 hp h0
        go_wp2_with fail
        refine (CR.out).mono ?_; rintro e w' ⟨rfl, rfl⟩
        go_wp2_with fail
        go_ret
        exact ⟨by rw [E2.out]; rfl, rfl⟩
    · have E := Lib.hid (OKS.out (by have h : k = n := by omega
                                     rw [← h]; exact HG.out))
      by_cases hq : n = q
      · subst hq
        have e4 : ((n : Int) != (n : Int)) = false := by simp
        go_wp2_with fail
        go_ret
        exact ⟨by rw [QV.out, E.out, if_neg (fun h => h.2 rfl)]; rfl, rfl⟩
      · have e4 : ((n : Int) != (q : Int)) = true := by rw [bne_iff_ne]; omega
        have E3 := Lib.hid (show qv = 3 by rw [QV.out, if_pos ⟨E.out, hq⟩])
        clear hq
        go_wp2_with fail
        go_ret
        exact ⟨by rw [E3.out]; rfl, rfl⟩

set_option maxHeartbeats 800000 in
theorem BChk_any (A : Option Addr) (m : List (List Int)) (n d : Nat) (w : World) (ha : LiesM w A m) (hn : m.length = n) :
    Calls Try.prog 61 #[.slice A n d] w fun e w' => e = .returned (errOf (qcode 5 (-9) 9 m)) ∧ w = w' := by
  by_cases h1 : n = 0
  · have hm : qcode 5 (-9) 9 m = 5 := by rw [qcode_is (c := 5) (by unfold Mx.mcode; rw [if_pos (by omega)]) (by omega)]
    rw [hm]
    subst h1
    clear hm ha hn
    go_enter Try.func61, Try.ntmps61
    go_wp2
    go_ret
    exact ⟨rfl, rfl⟩
  obtain ⟨ad, A0, d0, rfl, _, hc0, _, hr0⟩ := ha 0 (by omega)
  rw [add_zero'] at hc0
  obtain ⟨q, hq⟩ : ∃ q, q = (m.getD 0 []).length := ⟨_, rfl⟩
  rw [← hq] at hc0
  have e0 : ((n : Int) == 0) = false := by rw [beq_eq_false_iff_ne]; omega
  have hn0 : (0 : Int) < n := by omega
  by_cases h2 : q = 0
  · have hm : qcode 5 (-9) 9 m = 5 := by rw [qcode_is (c := 5) (by unfold Mx.mcode; rw [if_pos (by omega)]) (by omega)]
    rw [hm]
    subst h2
    clear hm ha hn hr0 h1 hq
    go_enter Try.func61, Try.ntmps61
    go_wp2
    go_ret
    exact ⟨rfl, rfl⟩
  have e1 : ((q : Int) == 0) = false := by rw [beq_eq_false_iff_ne]; omega
  by_cases h3 : 5 < n
  · have hm : qcode 5 (-9) 9 m = 4 := by rw [qcode_is (c := 4) (by unfold Mx.mcode; rw [if_neg (by omega), if_pos (by omega)]) (by omega)]
    rw [hm]
    have e3 : (5 : Int) < n := by omega
    clear hm ha hn hr0 h1 hq h2 h3
    go_enter Try.func61, Try.ntmps61
    go_wp2
    go_ret
    exact ⟨rfl, rfl⟩
  by_cases h4 : 5 < q
  · have hm : qcode 5 (-9) 9 m = 4 := by rw [qcode_is (c := 4) (by unfold Mx.mcode; rw [if_neg (by omega), if_pos (by omega)]) (by omega)]
    rw [hm]
    have e3 : ¬ (5 : Int) < n := by omega
    have e4 : (5 : Int) < q := by omega
    clear hm ha hn hr0 h1 hq h2 h3 h4
    go_enter Try.func61, Try.ntmps61
    go_wp2
    go_ret
    exact ⟨rfl, rfl⟩
  exact BChk_main (some ad) m n d q w ha hn hq.symm (by omega) (by omega) (by omega) (by omega)


end Go.Proofs.Ytologiinkilooaa

/- Contracts of package bareiss, second part: the first number that is not 0, the function that a pivot makes, and a step that calls it. -/
namespace Go.Proofs.Ytologiinkilooaa
open Go.ChangeShapes Go.WideShapes Go.ChangeAt Go.RowKit
set_option linter.unusedVariables false

set_option maxRecDepth 100000 in
theorem nz_any (x : Int) (w : World) :
    Calls Try.prog 63 #[.int .i64 x] w fun e w' => e = .returned (.bool (x != 0)) ∧ w = w' := by
  go_enter Try.func63, Try.ntmps63
  go_wp2_with fail
  go_ret
  exact ⟨rfl, rfl⟩

set_option maxRecDepth 100000 in
set_option maxHeartbeats 1600000 in
/-- The first number that is not 0. -/
theorem idx_any (A : Option Addr) (l : List Int) (n d : Nat) (w : World) (hl : Lies w A l) (hn : l.length = n) (hb : n ≤ 1000) :
    Calls Try.prog 62 #[.slice A n d, .func (.func 63) #[] #[]] w fun e w' =>
      ((∃ k : Nat, k < n ∧ l.getD k 0 ≠ 0 ∧ (∀ j, j < k → l.getD j 0 = 0) ∧ e = .returned (.int .i64 (k : Int))) ∨ ((∀ j, j < n → l.getD j 0 = 0) ∧ e = .returned (.int .i64 (-1)))) ∧ w = w' := by
  have HL := Lib.hid hl
  have HN := Lib.hid hn
  clear hl hn
  go_enter Try.func62, Try.ntmps62
  go_wp2_with fail
  go_loop [8] (fun j => ∃ k : Nat, k ≤ n ∧ j = .int .i64 (k : Int) ∧ ∀ t, t < k → l.getD t 0 = 0) (fun j => n - (intOf j).toNat)
  case atStart => exact ⟨0, Nat.zero_le _, rfl, fun t ht => absurd ht (by omega)⟩
  case round =>
    obtain ⟨k, hk, rfl, hz⟩ := hrel
    have HZ := Lib.hid hz
    clear hz
    by_cases hlt : k < n
    · obtain ⟨ad, rfl, _, x1⟩ := HL.out k (by have := HN.out; omega)
      obtain ⟨x, hx⟩ : ∃ x, x = l.getD k 0 := ⟨_, rfl⟩
      rw [← hx] at x1
      have HX := Lib.hid hx
      have M := Lib.hid (fun w => nz_any x w)
      clear hx
      by_cases h0 : x = 0
      · rw [h0] at x1 M
        rw [show ((0 : Int) != 0) = false from rfl] at M
        have HZ2 := Lib.hid (show ∀ t, t < k + 1 → l.getD t 0 = 0 from fun t ht => by
          by_cases e : t = k
          · rw [e, ← HX.out]; exact h0
          · exact HZ.out t (by omega))
        clear h0
        go_wp2_with fail
        refine (M.out _).mono ?_; rintro e w' ⟨rfl, rfl⟩
        go_wp2_with fail
        go_round
        case rel => exact ⟨k + 1, by omega, by go_num, HZ2.out⟩
        case measure => simp [intOf]; omega
      · have HQ := Lib.hid (show l.getD k 0 ≠ 0 by rw [← HX.out]; exact h0)
        rw [show (x != 0) = true by rw [bne_iff_ne]; exact h0] at M
        clear h0
        go_wp2_with fail
        refine (M.out _).mono ?_; rintro e w' ⟨rfl, rfl⟩
        go_wp2_with fail
        go_ret
        exact ⟨.inl ⟨k, hlt, HQ.out, HZ.out, rfl⟩, rfl⟩
    · obtain rfl : k = n := by omega
      go_wp2_with fail
      go_ret
      exact ⟨.inr ⟨HZ.out, rfl⟩, rfl⟩

set_option maxRecDepth 100000 in
theorem elim_any (A : Option Addr) (n c : Nat) (pv last : Int) (w : World) :
    Calls Try.prog 64 #[.slice A n c, .int .i64 pv, .int .i64 last] w fun e w' =>
      ∃ P R L, e = .returned (.func (.func 87) #[] #[.pointer (some ⟨P, 0, none⟩), .pointer (some ⟨R, 0, none⟩), .pointer (some ⟨L, 0, none⟩)]) ∧
        (w.heap.size ≤ P ∧ w.heap.size ≤ R ∧ w.heap.size ≤ L) ∧ w'.cell? ⟨P, 0, none⟩ = some (.int .i64 pv) ∧ w'.cell? ⟨R, 0, none⟩ = some (.slice A n c) ∧ w'.cell? ⟨L, 0, none⟩ = some (.int .i64 last) ∧ Kp w w' := by
  go_enter Try.func64, Try.ntmps64
  go_wp2_with fail
  go_ret
  have s1 : (w.alloc (.cells #[.slice A n c] 24)).heap.size = w.heap.size + 1 := by simp
  have s2 : ((w.alloc (.cells #[.slice A n c] 24)).alloc (.cells #[.int .i64 pv] 3)).heap.size = w.heap.size + 1 + 1 := by simp
  refine ⟨w.heap.size + 1, w.heap.size, w.heap.size + 1 + 1, rfl, ⟨by omega, by omega, by omega⟩, ?_, ?_, ?_, (((Kp.rfl' w).new _).new _).new _⟩
  · have k3 : Kp ((w.alloc (.cells #[.slice A n c] 24)).alloc (.cells #[.int .i64 pv] 3)) _ := (Kp.rfl' _).new (.cells #[.int .i64 last] 3)
    exact (k3.cell (p := ⟨w.heap.size + 1, 0, none⟩) (by rw [s2]; show w.heap.size + 1 < _; omega)).trans (cell_made _ _ _ _ 0 s1.symm)
  · have k3 : Kp (w.alloc (.cells #[.slice A n c] 24)) _ := ((Kp.rfl' _).new (.cells #[.int .i64 pv] 3)).new (.cells #[.int .i64 last] 3)
    exact (k3.cell (p := ⟨w.heap.size, 0, none⟩) (by rw [s1]; show w.heap.size < _; omega)).trans (cell_made _ _ _ _ 0 rfl)
  · exact cell_made _ _ _ _ 0 s2.symm

/-- The function that a pivot made: its boxes, and the row that it stands over. -/
structure StepAt (w : World) (u : Value) (P R L Z n c pv : Nat) (last : Int) (by' : Nat → Int) : Prop where
  fn : u = .func (.func 87) #[] #[.pointer (some ⟨P, 0, none⟩), .pointer (some ⟨R, 0, none⟩), .pointer (some ⟨L, 0, none⟩)]
  piv : w.cell? ⟨P, 0, none⟩ = some (.int .i64 (pv : Int))
  row : w.cell? ⟨R, 0, none⟩ = some (.slice (some ⟨Z, 0, none⟩) n c)
  last : w.cell? ⟨L, 0, none⟩ = some (.int .i64 last)
  el : ∀ j, j < n → w.cell? ⟨Z, j, none⟩ = some (.int .i64 (by' j))

theorem mul_within (a b : Int) (ha : -7085880 ≤ a ∧ a ≤ 7085880) (hb : -7085880 ≤ b ∧ b ≤ 7085880) : -50209695374400 ≤ a * b ∧ a * b ≤ 50209695374400 := by
  have h : (a * b).natAbs ≤ 7085880 * 7085880 := by
    rw [Int.natAbs_mul]
    exact Nat.mul_le_mul (by omega) (by omega)
  omega
theorem quo_in {a b : Int} (h1 : -9000000000000000000 ≤ a) (h2 : a ≤ 9000000000000000000) : IntKind.i64.wrap (a.tdiv b) = a.tdiv b := by
  refine IntWalk.i64_in _ ?_
  have h := Int.natAbs_tdiv_le_natAbs a b
  omega

set_option maxRecDepth 100000 in
set_option maxHeartbeats 1600000 in
theorem step_any (u : Value) (P R L Z n c pv : Nat) (last : Int) (by' y : Nat → Int) (w : World) (B z cz : Nat) (hs : StepAt w u P R L Z n c pv last by') (ho : Own w B (.slice (some ⟨z, 0, none⟩) n cz) (Mx.row n y))
    (hP : P ≠ z) (hR : R ≠ z) (hL : L ≠ z) (hZ : Z ≠ z) (hpv : pv < n) (hn : n ≤ 1000) (h0 : last ≠ 0) (hy : ∀ j, j < n → -7085880 ≤ y j ∧ y j ≤ 7085880) (hb : ∀ j, j < n → -7085880 ≤ by' j ∧ by' j ≤ 7085880) :
    Calls Try.prog 87 #[.slice (some ⟨z, 0, none⟩) n cz, .pointer (some ⟨P, 0, none⟩), .pointer (some ⟨R, 0, none⟩), .pointer (some ⟨L, 0, none⟩)] w fun e w' =>
      e = .returned (.tuple #[]) ∧ Own w' B (.slice (some ⟨z, 0, none⟩) n cz) (Mx.row n fun j => (y j * by' pv - y pv * by' j).tdiv last) ∧ ∀ a : World, a.heap.size ≤ z → Kp a w → Kp a w' := by
  have HO := Lib.hid ho
  have x1 := hs.piv
  have x2 := own_cell ho pv (by rw [Mx.len_row]; exact hpv)
  rw [Mx.row_at _ _ _ hpv] at x2
  have HS := Lib.hid hs
  have HY := Lib.hid hy
  have HB := Lib.hid hb
  obtain ⟨fa, hfa⟩ : ∃ fa, fa = y pv := ⟨_, rfl⟩
  have HF := Lib.hid hfa
  rw [← hfa] at x2
  have hfb : -7085880 ≤ fa ∧ fa ≤ 7085880 := by rw [hfa]; exact hy pv hpv
  have HFB := Lib.hid hfb
  clear ho hs hy hb hfa hfb
  go_enter Try.func87, Try.ntmps87
  go_wp2_with fail
  go_loopw [14] (fun i wr => ∃ k : Nat, k ≤ n ∧ i = .int .i64 (k : Int) ∧ Own wr B (.slice (some ⟨z, 0, none⟩) n cz) (Mx.row n fun j => if j < k then (y j * by' pv - fa * by' j).tdiv last else y j) ∧ StepAt wr u P R L Z n c pv last by' ∧ ∀ a : World, a.heap.size ≤ z → Kp a w → Kp a wr) (fun i _ => n - (intOf i).toNat)
  case atStart => exact ⟨0, Nat.zero_le _, rfl, by
    rw [show (Mx.row n fun j => if j < 0 then (y j * by' pv - fa * by' j).tdiv last else y j) = Mx.row n y from Mx.row_ext fun j _ => by rw [if_neg (by omega)]]
    exact HO.out, HS.out, fun a _ h => h⟩
  case round =>
    clear x1 x2
    obtain ⟨k, hk, rfl, ho, hs, hkp⟩ := hrel
    by_cases hlt : k < n
    · have x1 := hs.piv
      have x2 := hs.row
      have x3 := hs.last
      have x4 := hs.el pv hpv
      have x5 := hs.el k hlt
      have x6 := own_cell ho k (by rw [Mx.len_row]; exact hlt)
      have x7 := own_free ho k
      rw [Mx.row_at _ _ _ hlt, if_neg (by omega)] at x6
      have hyk := HY.out k hlt
      have hbp := HB.out pv hpv
      have hbk := HB.out k hlt
      have hfb := HFB.out
      have HO2 := Lib.hid ho
      have HS2 := Lib.hid hs
      have HK2 := Lib.hid hkp
      obtain ⟨yk, hyk'⟩ : ∃ v, v = y k := ⟨_, rfl⟩
      obtain ⟨bp, hbp'⟩ : ∃ v, v = by' pv := ⟨_, rfl⟩
      obtain ⟨bk, hbk'⟩ : ∃ v, v = by' k := ⟨_, rfl⟩
      rw [← hyk'] at x6 hyk
      rw [← hbp'] at x4 hbp
      rw [← hbk'] at x5 hbk
      have p1 := mul_within yk bp hyk hbp
      have p2 := mul_within fa bk hfb hbk
      have hw1 : IntKind.i64.wrap (yk * bp) = yk * bp := IntWalk.i64_in _ (by omega)
      have hw2 : IntKind.i64.wrap (fa * bk) = fa * bk := IntWalk.i64_in _ (by omega)
      have hw3 : IntKind.i64.wrap (yk * bp - fa * bk) = yk * bp - fa * bk := IntWalk.i64_in _ (by omega)
      have hw4 : IntKind.i64.wrap ((yk * bp - fa * bk).tdiv last) = (yk * bp - fa * bk).tdiv last := quo_in (by omega) (by omega)
      have e0 : (last == 0) = false := by rw [beq_eq_false_iff_ne]; exact h0
      have HQ := Lib.hid (show (yk * bp - fa * bk).tdiv last = (y k * by' pv - fa * by' k).tdiv last by rw [hyk', hbp', hbk'])
      clear ho hs hkp p1 p2 hyk' hbp' hbk' hyk hbp hbk hfb
      go_wp2_with fail
      go_still_tail 18, (by kernel_rfl)
      change wpList _ _ _ _ _ wr.drew
      go_wp2_with fail
      go_roundw
      case rel =>
        have hd := HS2.out
        refine ⟨k + 1, by omega, by go_num, ?_, ⟨hd.fn, ?_, ?_, ?_, fun j hj => ?_⟩, fun a ha hk0 => ((HK2.out a ha hk0).drewN 1).put (p := ⟨z, k, none⟩) ha _⟩
        · have := own_put (HO2.out.drewN 1) k ((yk * bp - fa * bk).tdiv last)
          rw [Mx.row_set] at this
          rw [show (Mx.row n fun j => if j < k + 1 then (y j * by' pv - fa * by' j).tdiv last else y j) = Mx.row n fun j => if j = k then (yk * bp - fa * bk).tdiv last else if j < k then (y j * by' pv - fa * by' j).tdiv last else y j from Mx.row_ext fun j _ => by
            by_cases e : j = k
            · rw [if_pos e, if_pos (by omega), e, HQ.out]
            · rw [if_neg e]
              by_cases e2 : j < k
              · rw [if_pos e2, if_pos (by omega)]
              · rw [if_neg e2, if_neg (by omega)]]
          exact this
        · exact (World.cell?_setCell_other (w := wr.drewN 1) (v := .int .i64 ((yk * bp - fa * bk).tdiv last)) (h := fun e => hP (by cases e; rfl))).trans hd.piv
        · exact (World.cell?_setCell_other (w := wr.drewN 1) (v := .int .i64 ((yk * bp - fa * bk).tdiv last)) (h := fun e => hR (by cases e; rfl))).trans hd.row
        · exact (World.cell?_setCell_other (w := wr.drewN 1) (v := .int .i64 ((yk * bp - fa * bk).tdiv last)) (h := fun e => hL (by cases e; rfl))).trans hd.last
        · exact (World.cell?_setCell_other (w := wr.drewN 1) (v := .int .i64 ((yk * bp - fa * bk).tdiv last)) (h := fun e => hZ (by cases e; rfl))).trans (hd.el j hj)
      case measure => simp [intOf]; omega
    · obtain rfl : k = n := by omega
      have HO2 := Lib.hid (show Own wr B (.slice (some ⟨z, 0, none⟩) k cz) (Mx.row k fun j => (y j * by' pv - y pv * by' j).tdiv last) by
        rw [← HF.out]
        rw [show (Mx.row k fun j => (y j * by' pv - fa * by' j).tdiv last) = Mx.row k fun j => if j < k then (y j * by' pv - fa * by' j).tdiv last else y j from Mx.row_ext fun j hj => by rw [if_pos hj]]
        exact ho)
      have HK2 := Lib.hid hkp
      clear ho hs hkp
      go_wp2_with fail
      go_end0
      exact ⟨rfl, HO2.out, HK2.out⟩

end Go.Proofs.Ytologiinkilooaa

/- What stands in memory while package bareiss eliminates: a row of functions of the call's own, each over a row, a list of columns, and the minors. -/
namespace Go.Proofs.Ytologiinkilooaa
open Go.ChangeShapes Go.WideShapes Go.ChangeAt Go.RowKit
set_option linter.unusedVariables false

theorem func_info : (Try.prog.info? 54).map (fun i => (i.zero, i.size, i.bytes)) = some (some .nilFunc, 1, 8) := by kernel_rfl

/-- The slice value v is the call's own and holds k functions. -/
def FnsV (w : World) (B : Nat) (v : Value) (k : Nat) (H : Nat → Value) : Prop := w.ownsRow B 54 1 v k ((List.range k).map H)
theorem fnsV_none (w : World) (B : Nat) (H : Nat → Value) : FnsV w B (.slice none 0 0) 0 H := World.ownsRow_nil _ _ _ _
theorem FnsV.kp {w w' : World} {B k : Nat} {v : Value} {H : Nat → Value} (h : FnsV w B v k H) (hk : Kp w w') : FnsV w' B v k H := ownsRow_kp h hk
theorem FnsV.form {w : World} {B k : Nat} {v : Value} {H : Nat → Value} (h : FnsV w B v k H) : ∃ A c, v = .slice A k c ∧ k ≤ c ∧ ∀ i, i < k → ∃ ad, A = some ad ∧ ad.block < w.heap.size ∧ w.cell? (ad.add i) = some (H i) := by
  rcases h.2 with ⟨rfl, h0⟩ | ⟨g, cap, cur, hv, hg, hh, hc, hm, hs, ht⟩
  · obtain rfl : k = 0 := h0
    exact ⟨Option.none, 0, rfl, Nat.le_refl _, fun i hi => absurd hi (by omega)⟩
  · refine ⟨_, cap, hv, hc, fun i hi => ⟨_, rfl, ?_, ?_⟩⟩
    · rcases Nat.lt_or_ge g w.heap.size with h' | h'
      · exact h'
      · rw [Array.getElem?_eq_none h'] at hh; cases hh
    · have ht' : cur.toList.take k = (List.range k).map H := by simpa using ht
      rw [add_at, cell_of_row _ _ i _ _ (0, 0) hh, ← Array.getElem?_toList, ← List.getElem?_take_of_lt hi, ht']
      simp [hi]
/-- The block of the functions is no row's of numbers. -/
theorem fns_ne {w : World} {B B' k : Nat} {u v : Value} {H : Nat → Value} {l : List Int} (h : FnsV w B u k H) (hr : Own w B' v l) {g : Nat} (hg : u.ownBlock = some g) : v.ownBlock ≠ some g := fun e => by
  rcases h.2 with ⟨rfl, _⟩ | ⟨g1, cap1, cur1, rfl, _, hh1, _⟩
  · cases hg
  · rcases hr.2 with ⟨rfl, _⟩ | ⟨g2, cap2, cur2, rfl, _, hh2, _⟩
    · cases e
    · have e1 : g1 = g := Option.some.inj hg
      have e2 : g2 = g := Option.some.inj e
      subst e1; subst e2
      rw [hh1] at hh2
      cases hh2

section
variable {ops : Array Oper} {rest : List Oper} {o : Oper} {a : Act} {w : World} {K : Act → World → Prop} {Q : Exit → Act → World → Prop}
/-- out = append(out, function). -/
theorem wpList_pushF (hgd : o.guard = Option.none) (s x : Operand) (ho : o.op = .call { callee := .builtin .append, args := #[s, x], argTypes := #[76, 76] })
    (B : Nat) (v : Value) (k : Nat) (H : Nat → Value) (u : Value) (gb cb : Nat) (hs : a.eval s = v) (hx : a.eval x = .slice (some ⟨gb, 0, none⟩) 1 cb) (hown : FnsV w B v k H)
    (hcell : w.cell? ⟨gb, 0, none⟩ = some u) (hu : u.oneCell' = true) (hlen : k + 1 ≤ 1000000) (hB : B ≤ w.heap.size)
    (h : ∀ v' w', FnsV w' B v' (k + 1) (fun i => if i = k then u else H i) → w.grownBy w' v.ownBlock → At w v v' → wpList Try.prog ops Q rest (a.put o.dst v') w') : wpList Try.prog ops Q (o :: rest) a w := by
  obtain ⟨i0, hi, hz0, hz1, hz2⟩ := info_parts func_info
  obtain ⟨v', w', hrun, h1, h2, _, h3⟩ := run_append_own_at (P := Try.prog) w B 76 o.type 54 i0 .nilFunc 1 8 Try.underlying76 hi hz0 hz1 hz2 rfl (by decide) v k ((List.range k).map H) hown ⟨gb, 0, Option.none⟩ 1 cb [u] rfl
    (fun j u' hj => by
      match j, hj with
      | 0, hj => simp at hj; subst hj; rw [add_at]; exact hcell) (fun u' hu' => by simp at hu'; subst hu'; exact hu) (by unfold maxLen; omega) (by omega) hB
  refine wpList_plain hgd fun _ hK => ?_
  unfold Oper.wp execOp
  simp only [ho, resolve, invoke, builtin, Sem.run_bind, Sem.run_pure, Result.andThen_ok, List.map_toArray, List.map_cons, List.map_nil, hs, hx, hrun]
  refine hK _ _ (h v' w' ?_ h2 h3)
  have e1 : (List.range k).map (fun i => if i = k then u else H i) = (List.range k).map H := List.map_congr_left fun i hi => by
    have := List.mem_range.1 hi
    rw [if_neg (by omega)]
  have e2 : (List.range (k + 1)).map (fun i => if i = k then u else H i) = (List.range k).map H ++ [u] := by
    rw [List.range_succ, List.map_append, e1, List.map_singleton, if_pos rfl]
  unfold FnsV
  rw [e2]
  exact h1
end

/-- A block that none of what is still written lies in. -/
def Free (w : World) (g0 : Nat) (u v : Value) (b : Nat) : Prop := g0 < b ∧ b < w.heap.size ∧ u.ownBlock ≠ some b ∧ v.ownBlock ≠ some b
theorem Free.more {w w' : World} {g0 b : Nat} {u v : Value} (h : Free w g0 u v b) (hs : w.heap.size ≤ w'.heap.size) : Free w' g0 u v b := ⟨h.1, Nat.lt_of_lt_of_le h.2.1 hs, h.2.2⟩
theorem Free.left {w w' : World} {g0 b : Nat} {u u' v : Value} (h : Free w g0 u v b) (hs : w.heap.size ≤ w'.heap.size) (ha : At w u u') : Free w' g0 u' v b :=
  ⟨h.1, Nat.lt_of_lt_of_le h.2.1 hs, by
    rcases ha with e | e
    · rw [e]; exact h.2.2.1
    · rw [e]; intro e2; have := Option.some.inj e2; have := h.2.1; omega, h.2.2.2⟩
theorem Free.right {w w' : World} {g0 b : Nat} {u v v' : Value} (h : Free w g0 u v b) (hs : w.heap.size ≤ w'.heap.size) (ha : At w v v') : Free w' g0 u v' b :=
  ⟨h.1, Nat.lt_of_lt_of_le h.2.1 hs, h.2.2.1, by
    rcases ha with e | e
    · rw [e]; exact h.2.2.2
    · rw [e]; intro e2; have := Option.some.inj e2; have := h.2.1; omega⟩

theorem StepAt.move {w w' : World} {u : Value} {P R L Z n c pv : Nat} {last : Int} {by' : Nat → Int} (h : StepAt w u P R L Z n c pv last by')
    (hk : ∀ (a : Addr) (x : Value), a.block = P ∨ a.block = R ∨ a.block = L ∨ a.block = Z → w.cell? a = some x → w'.cell? a = some x) : StepAt w' u P R L Z n c pv last by' :=
  ⟨h.fn, hk _ _ (.inl rfl) h.piv, hk _ _ (.inr (.inl rfl)) h.row, hk _ _ (.inr (.inr (.inl rfl))) h.last, fun j hj => hk _ _ (.inr (.inr (.inr rfl))) (h.el j hj)⟩
theorem StepAt.keep {w w' : World} {u : Value} {P R L Z n c pv : Nat} {last : Int} {by' : Nat → Int} (h : StepAt w u P R L Z n c pv last by') (hk : Kp w w') : StepAt w' u P R L Z n c pv last by' :=
  h.move fun a x _ hc => (hk.cell (p := a) (cell_lt hc)).trans hc

/-- Step i of an elimination, somewhere free. -/
def StepFree (w : World) (g0 : Nat) (u v : Value) (f : Value) (n : Nat) (x : Nat → Nat → Int) (p : Nat → Nat) (i : Nat) : Prop :=
  ∃ P R L Z c, StepAt w f P R L Z n c (p i) (Zx.lp x p i) (Zx.bd x p i i) ∧ Free w g0 u v P ∧ Free w g0 u v R ∧ Free w g0 u v L ∧ Free w g0 u v Z
theorem StepFree.keep {w w' : World} {g0 : Nat} {u v f : Value} {n : Nat} {x : Nat → Nat → Int} {p : Nat → Nat} {i : Nat} (h : StepFree w g0 u v f n x p i) (hk : Kp w w') : StepFree w' g0 u v f n x p i := by
  obtain ⟨P, R, L, Z, c, h0, h1, h2, h3, h4⟩ := h
  exact ⟨P, R, L, Z, c, h0.keep hk, h1.more hk.size, h2.more hk.size, h3.more hk.size, h4.more hk.size⟩
theorem StepFree.left {w w' : World} {g0 : Nat} {u u' v f : Value} {n : Nat} {x : Nat → Nat → Int} {p : Nat → Nat} {i : Nat} (h : StepFree w g0 u v f n x p i) (hg : w.grownBy w' u.ownBlock) (ha : At w u u') : StepFree w' g0 u' v f n x p i := by
  obtain ⟨P, R, L, Z, c, h0, h1, h2, h3, h4⟩ := h
  refine ⟨P, R, L, Z, c, h0.move fun a x hb hc => hg.cell hc fun e => ?_, h1.left hg.size ha, h2.left hg.size ha, h3.left hg.size ha, h4.left hg.size ha⟩
  rcases hb with b | b | b | b <;> rw [b] at e
  · exact h1.2.2.1 e.symm
  · exact h2.2.2.1 e.symm
  · exact h3.2.2.1 e.symm
  · exact h4.2.2.1 e.symm
theorem StepFree.right {w w' : World} {g0 : Nat} {u v v' f : Value} {n : Nat} {x : Nat → Nat → Int} {p : Nat → Nat} {i : Nat} (h : StepFree w g0 u v f n x p i) (hg : w.grownBy w' v.ownBlock) (ha : At w v v') : StepFree w' g0 u v' f n x p i := by
  obtain ⟨P, R, L, Z, c, h0, h1, h2, h3, h4⟩ := h
  refine ⟨P, R, L, Z, c, h0.move fun a x hb hc => hg.cell hc fun e => ?_, h1.right hg.size ha, h2.right hg.size ha, h3.right hg.size ha, h4.right hg.size ha⟩
  rcases hb with b | b | b | b <;> rw [b] at e
  · exact h1.2.2.2 e.symm
  · exact h2.2.2.2 e.symm
  · exact h3.2.2.2 e.symm
  · exact h4.2.2.2 e.symm
theorem StepFree.upd {w : World} {g0 : Nat} {u v f : Value} {n : Nat} {x : Nat → Nat → Int} {p : Nat → Nat} {i k q : Nat} (h : StepFree w g0 u v f n x p i) (hi : i < k) : StepFree w g0 u v f n x (Zx.upd p k q) i := by
  obtain ⟨P, R, L, Z, c, h0, r⟩ := h
  refine ⟨P, R, L, Z, c, ?_, r⟩
  rw [Zx.upd_lt hi, Zx.lp_upd (by omega), show Zx.bd x (Zx.upd p k q) i i = Zx.bd x p i i from funext fun j => Zx.bd_upd (by omega) i j]
  exact h0

/-- The minors in block g0, the functions, the columns. -/
structure Run (w0 w : World) (g0 : Nat) (u v : Value) (H : Nat → Value) (k : Nat) (pl ml : List Int) (n : Nat) (x : Nat → Nat → Int) (p : Nat → Nat) : Prop where
  kp : Kp w0 w
  b0 : w0.heap.size ≤ g0
  min : Row w g0 ml
  st : FnsV w (g0 + 1) u k H
  pv : Own w (g0 + 1) v pl
  fn : ∀ i, i < k → StepFree w g0 u v (H i) n x p i
theorem Run.keep {w0 w w' : World} {g0 : Nat} {u v : Value} {H : Nat → Value} {k : Nat} {pl ml : List Int} {n : Nat} {x : Nat → Nat → Int} {p : Nat → Nat} (h : Run w0 w g0 u v H k pl ml n x p) (hk : Kp w w') : Run w0 w' g0 u v H k pl ml n x p :=
  ⟨h.kp.trans hk, h.b0, h.min.keep hk, h.st.kp hk, h.pv.kp hk, fun i hi => (h.fn i hi).keep hk⟩
theorem Run.left {w0 w w' : World} {g0 : Nat} {u u' v f : Value} {H : Nat → Value} {k : Nat} {pl ml : List Int} {n : Nat} {x : Nat → Nat → Int} {p : Nat → Nat} {q : Nat} (h : Run w0 w g0 u v H k pl ml n x p)
    (hs : FnsV w' (g0 + 1) u' (k + 1) (fun i => if i = k then f else H i)) (hg : w.grownBy w' u.ownBlock) (ha : At w u u') (hn : StepFree w g0 u v f n x (Zx.upd p k q) k) :
    Run w0 w' g0 u' v (fun i => if i = k then f else H i) (k + 1) pl ml n x (Zx.upd p k q) := by
  refine ⟨h.kp.grown hg h.kp.size fun b hb => ?_, h.b0, ?_, hs, ?_, fun i hi => ?_⟩
  · have := (World.ownsRow.lt h.st b hb).1
    have := h.b0
    omega
  · unfold Row
    rw [hg.block g0 h.min.lt fun e => by have := (World.ownsRow.lt h.st g0 e.symm).1; omega]
    exact h.min
  · refine World.ownsRow.kept h.pv hg ?_
    cases hu : v.ownBlock with
    | none => exact .inl rfl
    | some b => right; intro e; exact fns_ne h.st h.pv e.symm hu
  · by_cases e : i = k
    · rw [e]; simp only [if_true]; exact hn.left hg ha
    · simp only [if_neg e]
      exact ((h.fn i (by omega)).left hg ha).upd (by omega)
theorem Run.right {w0 w w' : World} {g0 : Nat} {u v v' : Value} {H : Nat → Value} {k : Nat} {pl pl' ml : List Int} {n : Nat} {x : Nat → Nat → Int} {p : Nat → Nat} (h : Run w0 w g0 u v H k pl ml n x p)
    (hs : Own w' (g0 + 1) v' pl') (hg : w.grownBy w' v.ownBlock) (ha : At w v v') : Run w0 w' g0 u v' H k pl' ml n x p := by
  refine ⟨h.kp.grown hg h.kp.size fun b hb => ?_, h.b0, ?_, ?_, hs, fun i hi => (h.fn i hi).right hg ha⟩
  · have := (World.ownsRow.lt h.pv b hb).1
    have := h.b0
    omega
  · unfold Row
    rw [hg.block g0 h.min.lt fun e => by have := (World.ownsRow.lt h.pv g0 e.symm).1; omega]
    exact h.min
  · refine World.ownsRow.kept h.st hg ?_
    cases hu : u.ownBlock with
    | none => exact .inl rfl
    | some b => right; intro e; exact fns_ne h.st h.pv hu e.symm
theorem grown_set (w : World) (a : Addr) (x : Value) : w.grownBy (w.setCell a x) (some a.block) :=
  ⟨rfl, rfl, rfl, by simp [World.setCell], fun k _ hn => Below.heap_setCell _ _ _ _ (fun e => hn (by rw [e]))⟩
theorem Run.store {w0 w : World} {g0 : Nat} {u v : Value} {H : Nat → Value} {k : Nat} {pl ml : List Int} {n : Nat} {x : Nat → Nat → Int} {p : Nat → Nat} (h : Run w0 w g0 u v H k pl ml n x p) (i : Nat) (y : Int) :
    Run w0 (w.setCell ⟨g0, i, none⟩ (.int .i64 y)) g0 u v H k pl (ml.set i y) n x p := by
  have hg := grown_set w ⟨g0, i, none⟩ (.int .i64 y)
  refine ⟨h.kp.put (p := ⟨g0, i, none⟩) h.b0 _, h.b0, h.min.put i y, ?_, ?_, fun j hj => ?_⟩
  · refine World.ownsRow.kept h.st hg ?_
    cases hu : u.ownBlock with
    | none => exact .inl rfl
    | some b => right; intro e; have e2 : b = g0 := Option.some.inj e; have := (World.ownsRow.lt h.st b hu).1; omega
  · refine World.ownsRow.kept h.pv hg ?_
    cases hu : v.ownBlock with
    | none => exact .inl rfl
    | some b => right; intro e; have e2 : b = g0 := Option.some.inj e; have := (World.ownsRow.lt h.pv b hu).1; omega
  · obtain ⟨P, R, L, Z, c, h0, h1, h2, h3, h4⟩ := h.fn j hj
    refine ⟨P, R, L, Z, c, h0.move fun a x hb hc => hg.cell hc fun e => ?_, h1.more hg.size, h2.more hg.size, h3.more hg.size, h4.more hg.size⟩
    have e2 : a.block = g0 := Option.some.inj e
    have := h1.1
    have := h2.1
    have := h3.1
    have := h4.1
    omega

theorem Run.free {w0 w w' : World} {g0 : Nat} {u v : Value} {H : Nat → Value} {k : Nat} {pl ml : List Int} {n : Nat} {x : Nat → Nat → Int} {p : Nat → Nat} (h : Run w0 w g0 u v H k pl ml n x p) {b : Nat} (h1 : w.heap.size ≤ b) (h2 : b < w'.heap.size) : Free w' g0 u v b :=
  ⟨Nat.lt_of_lt_of_le h.min.lt h1, h2, fun e => by have := (World.ownsRow.lt h.st b e).2; omega, fun e => by have := (World.ownsRow.lt h.pv b e).2; omega⟩

theorem sign_sp {n : Nat} {s : Nat → Int} {y : Int} (h : Mx.SgnIs (Mx.sp n s) y) : y = Zx.sp n s := by
  refine h.one ⟨Zx.sp_some s, ?_⟩
  unfold Zx.sp Mx.sp
  rw [Zx.dt_ofInt]
  congr 1
  funext i j
  split <;> rfl

end Go.Proofs.Ytologiinkilooaa

/- Contracts of package bareiss, third part: Leading, Of. -/
namespace Go.Proofs.Ytologiinkilooaa
open Go.ChangeShapes Go.WideShapes Go.ChangeAt Go.RowKit
set_option linter.unusedVariables false

/-- The determinants of the first rows and columns. -/
def leads (n : Nat) (x : Nat → Nat → Int) : List Int := Mx.row n fun i => Zx.dt (i + 1) x
def GotLead (n : Nat) (x : Nat → Nat → Int) (w : World) (e : Ending) (w' : World) : Prop := ∃ g, e = .returned (.tuple #[.slice (some ⟨g, 0, none⟩) n n, .nilIface]) ∧ Row w' g (leads n x) ∧ Kp w w'

set_option maxRecDepth 100000 in
set_option maxHeartbeats 1600000 in
theorem Lead_bad (A : Option Addr) (m : List (List Int)) (n d : Nat) (w : World) (ha : LiesM w A m) (hn : m.length = n) (h : qcode 5 (-9) 9 m ≠ 0) :
    Calls Try.prog 42 #[.slice A n d] w fun e w' => e = .returned (.tuple #[.slice none 0 0, errOf (qcode 5 (-9) 9 m)]) ∧ Kp w w' := by
  have CK := Lib.hid (BChk_any A m n d w ha hn)
  rw [errOf_ne _ h] at CK ⊢
  generalize qcode 5 (-9) 9 m = z at *
  clear ha hn h
  go_enter Try.func42, Try.ntmps42
  go_wp2_with fail
  refine (CK.out).mono ?_; rintro e w' ⟨rfl, rfl⟩
  go_wp2_with fail
  go_ret2
  exact ⟨rfl, Kp.rfl' w⟩

set_option maxRecDepth 100000 in
set_option maxHeartbeats 6400000 in
theorem Lead_ok (A : Option Addr) (x : Nat → Nat → Int) (m : List (List Int)) (n d : Nat) (w : World) (ha : LiesM w A m) (s : Shz n x m) :
    Calls Try.prog 42 #[.slice A n d] w fun e w' => GotLead n x w e w' := by
  have CK := Lib.hid (BChk_any A m n d w ha s.len)
  rw [s.code, errOf_zero] at CK
  rw [s.eq] at ha
  have HA := Lib.hid ha
  have S5 := s.n5
  have NN := Lib.hid s.nine
  clear ha s
  obtain ⟨i0, hi, hz0, hz1, hz2⟩ := info_parts int_info
  go_enter Try.func42, Try.ntmps42
  go_wp2_with fail
  refine (CK.out).mono ?_; rintro e w' ⟨rfl, rfl⟩
  go_wp2_with (at_make; refine wpList_make_full _ rfl _ _ 24 rfl w.heap.size 3 i0 (.int .i64 0) 1 Try.underlying24 hi hz0 hz1 _ _ _ _ n rfl rfl rfl rfl (by rw [hz2]; omega) (by unfold maxLen; omega) (Nat.le_refl _) ?_; intro w1 hown hgrow)
  have HR := Lib.hid (row_made hown)
  have HK := Lib.hid (show Kp w w1 from (Kp.rfl' w).grown hgrow (by simp) (fun k hk => by cases hk))
  obtain ⟨g, hg⟩ : ∃ g, g = w.heap.size := ⟨_, rfl⟩
  rw [← hg] at HR ⊢
  have HG := Lib.hid (show w.heap.size ≤ g by omega)
  clear hown hgrow hg hi hz0 hz1 hz2
  go_loopw [6, 7, 8, 24] (fun u v l i wr => ∃ (k : Nat) (p : Nat → Nat) (H : Nat → Value), k ≤ n ∧ i = .int .i64 (k : Int) ∧ l = .int .i64 (Zx.lp x p k) ∧ Zx.El n x p k ∧
    Run w wr g u v H k (Mx.row k fun i => (p i : Int)) (Mx.row n fun i => if i < k then Zx.dt (i + 1) x else 0) n x p) (fun _ _ _ i _ => n - (intOf i).toNat)
  case atStart =>
    refine ⟨0, fun _ => 0, fun _ => .nilFunc, Nat.zero_le _, rfl, rfl, Zx.El.start n x _, ⟨HK.out, HG.out, ?_, fnsV_none _ _ _, Own.none _ _, fun i hi => absurd hi (by omega)⟩⟩
    have := HR.out
    rw [Mx.row_rep] at this
    rw [show (Mx.row n fun i => if i < 0 then Zx.dt (i + 1) x else 0) = Mx.row n fun _ => 0 from Mx.row_ext fun i _ => by rw [if_neg (by omega)]]
    exact this
  case round =>
    obtain ⟨k, p, H, hk, rfl, rfl, hel, hrun⟩ := hrel
    obtain ⟨wo, hwo⟩ : ∃ y, y = wr := ⟨_, rfl⟩
    subst hwo
    have EL := Lib.hid hel
    have RN := Lib.hid hrun
    clear HR HK
    by_cases hlt : k < n
    · obtain ⟨ad, A1, d1, rfl, _, x1, _, l1⟩ := (HA.out.keep hrun.kp).row hlt
      have CL := Lib.hid (sclone_any A1 (Mx.row n (x k)) d1 wo l1 (by rw [Mx.len_row]; omega))
      rw [Mx.len_row] at CL
      obtain ⟨Au, cu, hu, hcu, _⟩ := hrun.st.form
      have hku : k ≤ 1000 := by omega
      clear l1 hel hrun
      go_wp2_with fail
      refine (CL.out).mono ?_; rintro e w1 ⟨vr, rfl, hor, hkr⟩
      obtain ⟨z, cz, rfl, hz, hcz⟩ := own_some hor (by rw [Mx.len_row]; omega)
      rw [Mx.len_row] at hor hcz ⊢
      have HOR := Lib.hid hor
      have HKR := Lib.hid hkr
      clear hor hkr
      subst hu
      go_wp2_with fail
      go_loopw [34] (fun j wq => ∃ t : Nat, t ≤ k ∧ j = .int .i64 (t : Int) ∧ Own wq wo.heap.size (.slice (some ⟨z, 0, none⟩) n cz) (Mx.row n (Zx.bd x p t k)) ∧ Kp wo wq) (fun j _ => k - (intOf j).toNat)
      case atStart => exact ⟨0, Nat.zero_le _, rfl, by
        rw [show Mx.row n (Zx.bd x p 0 k) = Mx.row n (x k) from Mx.row_ext fun j _ => Zx.bd_zero x p k j]
        exact HOR.out, HKR.out⟩
      case round =>
        obtain ⟨t, ht, rfl, ho, hkq⟩ := hrel
        have HO := Lib.hid ho
        have HQ := Lib.hid hkq
        clear HOR HKR ho hkq
        by_cases htk : t < k
        · obtain ⟨Au', cu', e', _, hx⟩ := (RN.out.keep HQ.out).st.form
          cases e'
          obtain ⟨ad1, rfl, _, x2⟩ := hx t htk
          obtain ⟨P, R, L, Z, cc, hs, f1, f2, f3, f4⟩ := RN.out.fn t htk
          rw [(hs.keep HQ.out).fn] at x2
          have hb := fun j (hj : j < n) => EL.out.bound S5 NN.out (t := t) (r := k) (by omega) (by omega) hlt hj
          have hb2 := fun j (hj : j < n) => EL.out.bound S5 NN.out (t := t) (r := t) (by omega) (by omega) (by omega) hj
          have ST := Lib.hid (step_any _ P R L Z n cc (p t) (Zx.lp x p t) (Zx.bd x p t t) (Zx.bd x p t k) wr wo.heap.size z cz (hs.keep HQ.out) HO.out
            (by have := f1.2.1; omega) (by have := f2.2.1; omega) (by have := f3.2.1; omega) (by have := f4.2.1; omega) (EL.out.lt t htk) (by omega) (EL.out.ne (by omega)) hb hb2)
          rw [show (Mx.row n fun j => (Zx.bd x p t k j * Zx.bd x p t t (p t) - Zx.bd x p t k (p t) * Zx.bd x p t t j).tdiv (Zx.lp x p t)) = Mx.row n (Zx.bd x p (t + 1) k) from Mx.row_ext fun j _ => EL.out.step htk k j] at ST
          clear hs f1 f2 f3 f4 hb hb2 hx
          go_wp2_with fail
          refine (ST.out).mono ?_; rintro e w2 ⟨rfl, ho2, hk2⟩
          have HO2 := Lib.hid ho2
          have HQ2 := Lib.hid (hk2 wo hz HQ.out)
          clear ho2 hk2
          go_wp2_with fail
          go_roundw
          case rel => exact ⟨t + 1, by omega, by go_num, HO2.out, HQ2.out⟩
          case measure => simp [intOf]; omega
        · obtain rfl : t = k := by omega
          obtain ⟨Az, cz', ez, lz, _⟩ := HO.out.cap
          rw [Mx.len_row] at ez
          cases ez
          have IX := Lib.hid (idx_any (some ⟨z, 0, none⟩) (Mx.row n (Zx.bd x p t t)) n cz wr lz (Mx.len_row _ _) (by omega))
          clear lz
          go_wp2_with fail
          refine (IX.out).mono ?_; rintro e w2 ⟨hc, rfl⟩
          rcases hc with ⟨q, hq, hq1, hq2, rfl⟩ | ⟨hall, rfl⟩
          · rw [Mx.row_at _ _ _ hq] at hq1
            have EL2 := Lib.hid (EL.out.next hq hq1 fun j hj => by have := hq2 j hj; rw [Mx.row_at _ _ _ (by omega)] at this; exact this)
            have hqn : ¬ ((q : Int) < 0) := by omega
            have EM := Lib.hid (fun w => elim_any (some ⟨z, 0, none⟩) n cz (q : Int) (Zx.lp x p t) w)
            clear hq1 hq2
            go_wp2_with fail
            refine (EM.out _).mono ?_; rintro e w3 ⟨P, R, L, rfl, ⟨b1, b2, b3⟩, y1, y2, y3, k3⟩
            have R3 := Lib.hid (RN.out.keep (HQ.out.trans k3))
            have c3 := (k3.cell (p := ⟨z, q, none⟩) (cell_lt (own_cell HO.out q (by rw [Mx.len_row]; exact hq)))).trans (own_cell HO.out q (by rw [Mx.len_row]; exact hq))
            rw [Mx.row_at _ _ _ hq] at c3
            have hzl := cell_lt c3
            have hws := HQ.out.size
            have FZ := Lib.hid (fun (w' : World) (hs : w3.heap.size ≤ w'.heap.size) => RN.out.free (w' := w') hz (Nat.lt_of_lt_of_le hzl hs))
            have SF := Lib.hid (show StepFree w3 g (.slice Au t cu) u7 (.func (.func 87) #[] #[.pointer (some ⟨P, 0, none⟩), .pointer (some ⟨R, 0, none⟩), .pointer (some ⟨L, 0, none⟩)]) n x (Zx.upd p t q) t by
              refine ⟨P, R, L, z, cz, ⟨rfl, ?_, y2, ?_, fun j hj => ?_⟩, RN.out.free (Nat.le_trans hws b1) (cell_lt y1), RN.out.free (Nat.le_trans hws b2) (cell_lt y2), RN.out.free (Nat.le_trans hws b3) (cell_lt y3), RN.out.free hz hzl⟩
              · rw [Zx.upd_self]; exact y1
              · rw [Zx.lp_upd (Nat.le_refl t)]; exact y3
              · rw [Zx.bd_upd (Nat.le_refl t)]
                have := (k3.cell (p := ⟨z, j, none⟩) (cell_lt (own_cell HO.out j (by rw [Mx.len_row]; exact hj)))).trans (own_cell HO.out j (by rw [Mx.len_row]; exact hj))
                rw [Mx.row_at _ _ _ hj] at this
                exact this)
            have hg3 := R3.out.min.lt
            clear y1 y2 y3 k3 b1 b2 b3
            have epl : (Mx.row t fun i => (p i : Int)) ++ [(q : Int)] = Mx.row (t + 1) fun i => (Zx.upd p t q i : Int) := by
              rw [Mx.row_snoc, Zx.upd_self]
              congr 1
              exact Mx.row_ext fun i hi => by rw [Zx.upd_lt hi]
            have EP := Lib.hid epl
            have hyb := EL.out.bound S5 NN.out (t := t) (r := t) (Nat.le_refl _) (Nat.le_refl _) hlt hq
            have LP := Lib.hid (Zx.lp_next x p t q)
            obtain ⟨y, hy⟩ : ∃ y, y = Zx.bd x p t t q := ⟨_, rfl⟩
            rw [← hy] at c3 hyb LP
            clear hy epl
            go_wp2_with (at_builtin; first
              | (refine wpList_pushF rfl _ _ rfl (g + 1) _ t H _ w3.heap.size 1 rfl rfl (R3.out.keep ((Kp.rfl' w3).new _)).st (cell_made _ _ _ _ 0 rfl) rfl (by omega) (by simp; omega) ?_
                 intro u' w5 h1 h2 h3
                 have R5 := Lib.hid ((R3.out.keep ((Kp.rfl' w3).new _)).left (q := q) h1 h2 h3 (SF.out.keep ((Kp.rfl' w3).new _)))
                 have c5 := h2.cell (((Kp.rfl' w3).new _).cell (p := ⟨z, q, none⟩) hzl |>.trans c3) (fun e => (FZ.out w3 (Nat.le_refl _)).2.2.1 e.symm)
                 have hg5 := R5.out.min.lt
                 clear h1 h2 h3 c3)
              | (refine wpList_push rfl _ _ rfl (g + 1) _ (Mx.row t fun i => (p i : Int)) (q : Int) w5.heap.size 1 rfl rfl (R5.out.keep ((Kp.rfl' w5).new _)).pv (cell_made _ _ _ _ 0 rfl) (by rw [Mx.len_row]; omega) (by simp; omega) ?_
                 intro v' w6 h1 h2 h3
                 rw [EP.out] at h1
                 have R6 := Lib.hid ((R5.out.keep ((Kp.rfl' w5).new _)).right h1 h2 h3)
                 have c6 := h2.cell (((Kp.rfl' w5).new _).cell (p := ⟨z, q, none⟩) (cell_lt c5) |>.trans c5) (fun e => (FZ.out w3 (Nat.le_refl _)).2.2.2 e.symm)
                 obtain ⟨Av, cv, rfl, lv, _⟩ := h1.cap
                 rw [Mx.len_row] at R6 ⊢
                 have SG := Lib.hid (Sign_any Av (Mx.row (t + 1) fun i => (Zx.upd p t q i : Int)) (t + 1) cv w6 lv (Mx.len_row _ _) (by omega))
                 clear h1 h2 h3 c5 lv))
            refine (SG.out).mono ?_; rintro e w7 ⟨sv, rfl, hsg, k7⟩
            have R7 := Lib.hid (R6.out.keep k7)
            have hsb := hsg.bound
            have hw7 : IntKind.i64.wrap (sv * y) = sv * y := IntWalk.i64_in _ (by have := mul_within sv y (by omega) hyb; omega)
            have z1 := R7.out.min.cell t (by rw [Mx.len_row]; exact hlt)
            have z2 := R7.out.min.free t
            have DT := Lib.hid (show sv * y = Zx.dt (t + 1) x by
              have e1 := sign_sp hsg
              rw [Zx.sp_congr fun i hi => Mx.row_at _ _ _ hi] at e1
              rw [e1, ← LP.out]
              exact EL2.out.lead)
            clear hsg k7 hsb hyb c6
            go_wp2_with fail
            go_roundw
            case rel =>
              have := R7.out.store t (sv * y)
              rw [Mx.row_set] at this
              have ee : (Mx.row n fun j => if j = t then sv * y else if j < t then Zx.dt (j + 1) x else 0) = Mx.row n fun i => if i < t + 1 then Zx.dt (i + 1) x else 0 := Mx.row_ext fun j _ => by
                by_cases e : j = t
                · rw [if_pos e, if_pos (by omega), e, DT.out]
                · rw [if_neg e]
                  by_cases e2 : j < t
                  · rw [if_pos e2, if_pos (by omega)]
                  · rw [if_neg e2, if_neg (by omega)]
              rw [ee] at this
              exact ⟨t + 1, Zx.upd p t q, _, by omega, by go_num, by rw [LP.out], EL2.out, this⟩
            case measure => simp [intOf]; omega
          · have R2 := Lib.hid (RN.out.keep HQ.out)
            have ML := Lib.hid (show (Mx.row n fun i => if i < t then Zx.dt (i + 1) x else 0) = leads n x from Mx.row_ext fun i hi => by
              by_cases e : i < t
              · rw [if_pos e]
              · rw [if_neg e]
                exact (EL.out.null (fun j hj => by have := hall j hj; rw [Mx.row_at _ _ _ hj] at this; exact this) (by omega) (by omega)).symm)
            clear hall
            go_wp2_with fail
            go_ret2
            exact ⟨g, rfl, by rw [← ML.out]; exact R2.out.min, R2.out.kp⟩
    · obtain rfl : k = n := by omega
      have R2 := Lib.hid (show Row wo g (leads k x) by
        rw [show leads k x = Mx.row k fun i => if i < k then Zx.dt (i + 1) x else 0 from Mx.row_ext fun i hi => by rw [if_pos hi]]
        exact hrun.min)
      clear hel hrun
      go_wp2_with fail
      go_ret2
      exact ⟨g, rfl, R2.out, RN.out.kp⟩

set_option maxRecDepth 100000 in
set_option maxHeartbeats 1600000 in
theorem BOf_bad (A : Option Addr) (m : List (List Int)) (n d : Nat) (w : World) (ha : LiesM w A m) (hn : m.length = n) (h : qcode 5 (-9) 9 m ≠ 0) :
    Calls Try.prog 17 #[.slice A n d] w fun e w' => e = .returned (.tuple #[.int .i64 0, errOf (qcode 5 (-9) 9 m)]) ∧ Kp w w' := by
  have LB := Lib.hid (Lead_bad A m n d w ha hn h)
  rw [errOf_ne _ h] at LB ⊢
  generalize qcode 5 (-9) 9 m = z at *
  clear ha hn h
  go_enter Try.func17, Try.ntmps17
  go_wp2_with fail
  refine (LB.out).mono ?_; rintro e w' ⟨rfl, hk⟩
  have HK := Lib.hid hk
  clear hk
  go_wp2_with fail
  go_ret2
  exact ⟨rfl, HK.out⟩

set_option maxRecDepth 100000 in
set_option maxHeartbeats 1600000 in
theorem BOf_ok (A : Option Addr) (x : Nat → Nat → Int) (m : List (List Int)) (n d : Nat) (w : World) (ha : LiesM w A m) (s : Shz n x m) :
    Calls Try.prog 17 #[.slice A n d] w fun e w' => e = .returned (.tuple #[.int .i64 (Zx.dt n x), .nilIface]) ∧ Kp w w' := by
  have LO := Lib.hid (Lead_ok A x m n d w ha s)
  have h0 := s.n0
  have h5 := s.n5
  obtain ⟨k, hk⟩ : ∃ k, n = k + 1 := ⟨n - 1, by omega⟩
  have HN := Lib.hid hk
  have hk5 : k < 5 := by omega
  have e1 : (n : Int) - 1 = (k : Int) := by omega
  have hkn : k < n := by omega
  clear ha s hk
  go_enter Try.func17, Try.ntmps17
  go_wp2_with fail
  refine (LO.out).mono ?_; rintro e w' ⟨g, rfl, hr, hk⟩
  have x1 := hr.cell k (by unfold leads; rw [Mx.len_row]; exact hkn)
  unfold leads at x1
  rw [Mx.row_at _ _ _ hkn, ← HN.out] at x1
  have HK := Lib.hid hk
  clear hr hk
  go_wp2_with fail
  go_ret2
  exact ⟨rfl, HK.out⟩

end Go.Proofs.Ytologiinkilooaa

/- The laws' small function 'in'. -/
namespace Go.Proofs.Ytologiinkilooaa
open Go.ChangeShapes Go.WideShapes Go.ChangeAt Go.RowKit
set_option linter.unusedVariables false



theorem topIn_any (n a b : Int) (w : World) (t : Bool) (h : (decide (a ≤ n) && decide (n ≤ b)) = t) :
    Calls Try.prog 22 #[.int .i64 n, .int .i64 a, .int .i64 b] w fun e w' => e = .returned (.bool t) ∧ w = w' := by
  have H := Lib.hid h
  clear h
  by_cases h1 : a ≤ n
  · by_cases h2 : n ≤ b
    · go_enter Try.func22, Try.ntmps22
      go_wp2
      go_ret
      exact ⟨ret_bool (by rw [← H.out]; simp [h1, h2]), rfl⟩
    · go_enter Try.func22, Try.ntmps22
      go_wp2
      go_ret
      exact ⟨ret_bool (by rw [← H.out]; simp [h1]; omega), rfl⟩
  · go_enter Try.func22, Try.ntmps22
    go_wp2
    go_ret
    exact ⟨ret_bool (by rw [← H.out]; simp; omega), rfl⟩

end Go.Proofs.Ytologiinkilooaa

/- What bareiss says of whatever comes in; its closed fact; how great a number of ones is. -/
namespace Go.Proofs.Ytologiinkilooaa
open Go.ChangeShapes Go.WideShapes Go.ChangeAt Go.RowKit
set_option linter.unusedVariables false

theorem BOf_or (A : Option Addr) (m : List (List Int)) (n d : Nat) (hn : m.length = n) :
    (∃ x, Shz n x m) ∨ ∀ (w : World), LiesM w A m → Calls Try.prog 17 #[.slice A n d] w fun e w' => ∃ z : Nat, e = .returned (.tuple #[.int .i64 0, .iface 50 (.int .i64 (z : Int))]) ∧ Kp w w' := by
  rcases shz_or m hn with h | h
  · exact .inl h
  · exact .inr fun w ha => ((BOf_bad A m n d w ha hn h).mono fun e w' h' => ⟨qcode 5 (-9) 9 m, by rw [h'.1, errOf_ne _ h], h'.2⟩)

theorem ba1_shz : Shz 2 (n22 0 2 (-3) 4) (Mx.tab 2 2 (n22 0 2 (-3) 4)) := ⟨rfl, by decide, by decide, fun i j hi hj => by
  have h1 : i = 0 ∨ i = 1 := by omega
  have h2 : j = 0 ∨ j = 1 := by omega
  rcases h1 with rfl | rfl <;> rcases h2 with rfl | rfl <;> decide⟩
theorem ba2_shz : Shz 2 (n22 2 1 1 2) (Mx.tab 2 2 (n22 2 1 1 2)) := ⟨rfl, by decide, by decide, fun i j hi hj => by
  have h1 : i = 0 ∨ i = 1 := by omega
  have h2 : j = 0 ∨ j = 1 := by omega
  rcases h1 with rfl | rfl <;> rcases h2 with rfl | rfl <;> decide⟩
theorem ba1_dt : Zx.dt 2 (n22 0 2 (-3) 4) = 6 := by decide +kernel
theorem ba2_leads : leads 2 (n22 2 1 1 2) = [2, 3] := by decide +kernel


theorem in_million {n : Nat} {x : Nat → Nat → Int} {m : List (List Int)} (s : Shz n x m) : (decide ((-10000000 : Int) ≤ Zx.dt n x) && decide (Zx.dt n x ≤ 10000000)) = true := by
  have := Zx.dt_bound s.n5 s.nine (Nat.le_refl n)
  simp; omega

end Go.Proofs.Ytologiinkilooaa

/- Plain facts on elimination below the diagonal, in which a column without a pivot is passed over: the factors, what is left, the order of the rows; their product, the determinant. No program is named here. -/
namespace Go.Proofs.Ytologiinkilooaa
open Fp
set_option linter.unusedVariables false

theorem First.one {r : Nat} {f : Nat → Nat → F} {i j k l : Nat} (h : First r f i j k) (h' : First r f i j l) : k = l := by
  obtain ⟨a1, a2, a3, a4⟩ := h
  obtain ⟨b1, b2, b3, b4⟩ := h'
  rcases Nat.lt_trichotomy k l with e | e | e
  · exact absurd (b3 k a1 e) (a4 (by omega))
  · exact e
  · exact absurd (a3 l b1 e) (b4 (by omega))

namespace Mx

theorem pr_front (n : Nat) (g : Nat → F) : pr (n + 1) g = g 0 * pr n (fun i => g (i + 1)) := by
  induction n with
  | zero => show pr 0 g * g 0 = g 0 * pr 0 _; unfold pr; grind
  | succ n ih =>
    show pr (n + 1) g * g (n + 1) = g 0 * (pr n (fun i => g (i + 1)) * g (n + 1))
    rw [ih]; grind
theorem dt_low : ∀ (n : Nat) (f : Nat → Nat → F), (∀ i j, i < n → j < n → i < j → f i j = 0) → dt n f = pr n fun i => f i i
  | 0, _, _ => rfl
  | n + 1, f, h => by
    rw [dt_succ, sg_one (k := 0) (Nat.succ_pos n) (fun j hj hne => by rw [h 0 j (Nat.succ_pos n) hj (by omega)]; grind), pr_front]
    have e : dt n (del 0 f) = pr n fun i => f (i + 1) (i + 1) := by
      rw [dt_low n (del 0 f) fun i j hi hj hlt => by unfold del; rw [sk_zero]; exact h _ _ (by omega) (by omega) (by omega)]
      exact pr_congr fun i _ => by unfold del; rw [sk_zero]
    rw [e, show sgn 0 = 1 from rfl]
    grind
/-- With noughts below the diagonal: the product of the diagonal. -/
theorem dt_up (n : Nat) (f : Nat → Nat → F) (h : ∀ i j, i < n → j < n → j < i → f i j = 0) : dt n f = pr n fun i => f i i := by
  rw [← dt_flip]
  exact dt_low n (flip f) fun i j hi hj hlt => h j i hj hi hlt

/-- The rows in an order, the factors, and what is left. -/
structure Tri where
  s : Nat → Nat
  l : Nat → Nat → F
  u : Nat → Nat → F
/-- Rows c and k change places. -/
def Tri.swp (t : Tri) (c k : Nat) : Tri := ⟨fun i => t.s (sw c k i), fun i => t.l (sw c k i), fun i => t.u (sw c k i)⟩
/-- Row c is taken from the rows between c and d, so that nothing is left of them at column c. -/
def Tri.clr (t : Tri) (c d : Nat) : Tri :=
  ⟨t.s, fun i j => if c < i ∧ i < d ∧ j = c then t.u i c * Fp.inv (t.u c c) else t.l i j, fun i j => if c < i ∧ i < d then t.u i j - t.u i c * Fp.inv (t.u c c) * t.u c j else t.u i j⟩
theorem Tri.clr_start (t : Tri) (c p q : Nat) : t.l p q = (t.clr c (c + 1)).l p q ∧ t.u p q = (t.clr c (c + 1)).u p q := by
  unfold Tri.clr; simp only
  rw [if_neg (by omega), if_neg (by omega)]; exact ⟨rfl, rfl⟩
theorem Tri.clr_at (t : Tri) (c i q : Nat) : (t.clr c i).u i q = t.u i q ∧ (t.clr c i).u c q = t.u c q := by
  unfold Tri.clr; simp only
  rw [if_neg (by omega), if_neg (by omega)]; exact ⟨rfl, rfl⟩
theorem Tri.clr_l (t : Tri) {c i : Nat} (h : c < i) (p q : Nat) : (if p = i ∧ q = c then t.u i c * Fp.inv (t.u c c) else (t.clr c i).l p q) = (t.clr c (i + 1)).l p q := by
  unfold Tri.clr; simp only
  by_cases e : p = i ∧ q = c
  · rw [if_pos e, if_pos ⟨by omega, by omega, e.2⟩, e.1]
  · rw [if_neg e]
    by_cases e2 : c < p ∧ p < i ∧ q = c
    · rw [if_pos e2, if_pos ⟨e2.1, by omega, e2.2.2⟩]
    · rw [if_neg e2, if_neg (by omega)]
theorem Tri.clr_u (t : Tri) {c i : Nat} (h : c < i) (p q : Nat) : (if p = i then t.u i q - t.u i c * Fp.inv (t.u c c) * t.u c q else (t.clr c i).u p q) = (t.clr c (i + 1)).u p q := by
  unfold Tri.clr; simp only
  by_cases e : p = i
  · rw [if_pos e, if_pos ⟨by omega, by omega⟩, e]
  · rw [if_neg e]
    by_cases e2 : c < p ∧ p < i
    · rw [if_pos e2, if_pos ⟨e2.1, by omega⟩]
    · rw [if_neg e2, if_neg (by omega)]
def Tri.step (t : Tri) (n c k : Nat) : Tri := (t.swp c k).clr c n
def tri0 (m : Nat → Nat → F) : Tri := ⟨fun i => i, fun _ _ => 0, m⟩
/-- What comes of m behind c columns. -/
def LuTo (n : Nat) (m : Nat → Nat → F) : Nat → Tri → Prop
  | 0, t => t = tri0 m
  | c + 1, t => ∃ t0, LuTo n m c t0 ∧ ((First n t0.u c c n ∧ t = t0) ∨ ∃ k, k < n ∧ First n t0.u c c k ∧ t = t0.step n c k)
theorem LuTo.one {n : Nat} {m : Nat → Nat → F} : ∀ {c : Nat} {t t' : Tri}, LuTo n m c t → LuTo n m c t' → t = t'
  | 0, _, _, h, h' => Eq.trans h (Eq.symm h')
  | c + 1, t, t', ⟨t0, a, b⟩, ⟨t1, a', b'⟩ => by
    obtain rfl := a.one a'
    rcases b with ⟨b1, rfl⟩ | ⟨k, hk, b1, rfl⟩ <;> rcases b' with ⟨d1, rfl⟩ | ⟨k', hk', d1, rfl⟩
    · rfl
    · exact absurd (b1.one d1) (by omega)
    · exact absurd (d1.one b1) (by omega)
    · rw [b1.one d1]

theorem sw_ge {c k i j : Nat} (hk : c ≤ k) (hj : j < c) (hi : j < i) : j < sw c k i := by unfold sw; split <;> (try split) <;> omega
theorem sw_low {c k i : Nat} (hk : c ≤ k) (hi : i < c) : sw c k i = i := sw_none (by omega) (by omega)
theorem sw_same (c i : Nat) : sw c c i = i := by unfold sw; split <;> (try split) <;> omega

/-- What is known of it. -/
structure LuIs (n : Nat) (m : Nat → Nat → F) (c : Nat) (t : Tri) : Prop where
  lt : ∀ i, i < n → t.s i < n
  sn : sp n (fun i => (t.s i : Int)) = 1 ∨ sp n (fun i => (t.s i : Int)) = -1
  lz : ∀ i k, i < n → k < n → i ≤ k ∨ c ≤ k → t.l i k = 0
  uz : ∀ i j, i < n → j < c → j < i → t.u i j = 0
  back : ∀ i j, i < n → j < n → m (t.s i) j = t.u i j + sg n fun k => t.l i k * t.u k j
  det : dt n m = sp n (fun i => (t.s i : Int)) * dt n t.u
theorem LuIs.start (n : Nat) (m : Nat → Nat → F) : LuIs n m 0 (tri0 m) := by
  have hs : sp n (fun i => ((tri0 m).s i : Int)) = 1 := sp_id fun i _ => rfl
  refine ⟨fun i hi => hi, .inl hs, fun _ _ _ _ _ => rfl, fun i j _ hj _ => absurd hj (by omega), fun i j _ _ => ?_, ?_⟩
  · show m i j = m i j + sg n fun k => (0 : F) * m k j
    rw [show (fun k => (0 : F) * m k j) = fun _ => 0 from funext fun k => by grind, sg_none]; grind
  · rw [hs]; show dt n m = 1 * dt n m; grind
theorem LuIs.skip {n c : Nat} {m : Nat → Nat → F} {t : Tri} (h : LuIs n m c t) (hf : First n t.u c c n) : LuIs n m (c + 1) t := by
  refine ⟨h.lt, h.sn, fun i k hi hk hh => h.lz i k hi hk (by omega), fun i j hi hj hlt => ?_, h.back, h.det⟩
  by_cases e : j = c
  · subst e; exact hf.2.2.1 i (by omega) hi
  · exact h.uz i j hi (by omega) hlt
theorem LuIs.swp {n c k : Nat} {m : Nat → Nat → F} {t : Tri} (h : LuIs n m c t) (hc : c < n) (hk : c ≤ k) (hkn : k < n) : LuIs n m c (t.swp c k) := by
  have hσ : ∀ i, i < n → sw c k i < n := fun i hi => sw_lt hc hkn hi
  by_cases e : c = k
  · subst e
    rw [show t.swp c c = t by unfold Tri.swp; simp only [sw_same]]
    exact h
  have hsp : sp n (fun i => ((t.swp c k).s i : Int)) = -(sp n fun i => (t.s i : Int)) := sp_swap (fun i => (t.s i : Int)) hc hkn e
  refine ⟨fun i hi => h.lt _ (hσ i hi), ?_, fun i j hi hj hh => ?_, fun i j hi hj hlt => h.uz _ j (hσ i hi) hj (sw_ge hk hj hlt), fun i j hi hj => ?_, ?_⟩
  · rw [hsp]
    rcases h.sn with e1 | e1 <;> rw [e1]
    · exact .inr rfl
    · exact .inl (by grind)
  · show t.l (sw c k i) j = 0
    by_cases hcj : c ≤ j
    · exact h.lz _ _ (hσ i hi) hj (.inr hcj)
    · rw [sw_low hk (by omega)]; exact h.lz i j hi hj hh
  · show m (t.s (sw c k i)) j = t.u (sw c k i) j + sg n fun q => t.l (sw c k i) q * t.u (sw c k q) j
    rw [h.back _ j (hσ i hi) hj]
    congr 1
    refine sg_congr fun q hq => ?_
    by_cases hcq : c ≤ q
    · rw [h.lz _ q (hσ i hi) hq (.inr hcq)]; grind
    · rw [sw_low hk (show q < c by omega)]
  · rw [hsp, h.det, show dt n (t.swp c k).u = -(dt n t.u) from dt_rswap t.u hc hkn e]; grind
theorem less_is (a f u : F) : a - f * u = a + -f * u := by grind
theorem clr_det {n c : Nat} (t : Tri) (hc : c < n) : ∀ d, d ≤ n → dt n (t.clr c d).u = dt n t.u
  | 0, _ => dt_congr n fun i j _ _ => by unfold Tri.clr; simp only; rw [if_neg (by omega)]
  | d + 1, hd => by
    rw [← clr_det t hc d (by omega)]
    by_cases h : c < d
    · rw [← dt_add (t.clr c d).u (a := d) (b := c) (by omega) hc (by omega) (-(t.u d c * Fp.inv (t.u c c)))]
      refine dt_congr n fun i j _ _ => ?_
      unfold setr Tri.clr
      simp only
      by_cases e : i = d
      · subst e
        rw [if_pos ⟨h, by omega⟩, if_pos rfl, if_neg (by omega), if_neg (by omega)]; exact less_is _ _ _
      · rw [if_neg e]
        by_cases e2 : c < i ∧ i < d
        · rw [if_pos ⟨e2.1, by omega⟩, if_pos e2]
        · rw [if_neg (by omega), if_neg e2]
    · refine dt_congr n fun i j _ _ => ?_
      unfold Tri.clr
      simp only
      rw [if_neg (by omega), if_neg (by omega)]
theorem clear_one (a f u x y : F) : a + x = a - f * u + (x + f * u) := by grind
theorem clear_none {a u : F} (h : u ≠ 0) : a - a * Fp.inv u * u = 0 := by
  have := Fp.inv_mul h
  rw [show a * Fp.inv u * u = a * (Fp.inv u * u) by grind, this]; grind
theorem LuIs.clr {n c : Nat} {m : Nat → Nat → F} {t : Tri} (h : LuIs n m c t) (hc : c < n) (h0 : t.u c c ≠ 0) : LuIs n m (c + 1) (t.clr c n) := by
  refine ⟨h.lt, h.sn, fun i k hi hk hh => ?_, fun i j hi hj hlt => ?_, fun i j hi hj => ?_, ?_⟩
  · unfold Tri.clr; simp only
    rw [if_neg (by omega)]; exact h.lz i k hi hk (by omega)
  · unfold Tri.clr; simp only
    by_cases e : j = c
    · subst e
      rw [if_pos ⟨hlt, hi⟩]; exact clear_none h0
    · by_cases e2 : c < i
      · rw [if_pos ⟨e2, hi⟩, h.uz i j hi (by omega) hlt, h.uz c j hc (by omega) (by omega)]; grind
      · rw [if_neg (by omega)]; exact h.uz i j hi (by omega) hlt
  · show m (t.s i) j = (t.clr c n).u i j + sg n fun k => (t.clr c n).l i k * (t.clr c n).u k j
    rw [h.back i j hi hj]
    obtain ⟨g, hg⟩ : ∃ g, g = if c < i then t.u i c * Fp.inv (t.u c c) else 0 := ⟨_, rfl⟩
    have e1 : (sg n fun k => (t.clr c n).l i k * (t.clr c n).u k j) = sg n fun k => t.l i k * t.u k j + (if k = c then g * t.u c j else 0) := by
      refine sg_congr fun k hk => ?_
      unfold Tri.clr; simp only
      by_cases e : k = c
      · subst e
        rw [h.lz i k hi hk (.inr (Nat.le_refl k)), if_neg (c := k < k ∧ k < n) (by omega), if_pos rfl, hg]
        by_cases e2 : k < i
        · rw [if_pos ⟨e2, hi, rfl⟩, if_pos e2]; grind
        · rw [if_neg (by omega), if_neg e2]; grind
      · rw [if_neg (c := c < i ∧ i < n ∧ k = c) (by omega), if_neg (c := k = c) e]
        by_cases e2 : c < k
        · rw [h.lz i k hi hk (.inr (by omega))]; grind
        · rw [if_neg (by omega)]; grind
    have e3 : (sg n fun k => if k = c then g * t.u c j else 0) = g * t.u c j := by
      rw [sg_one (k := c) hc (fun k _ hne => if_neg hne), if_pos rfl]
    rw [e1, sg_add, e3, hg]
    unfold Tri.clr; simp only
    by_cases e2 : c < i
    · rw [if_pos ⟨e2, hi⟩, if_pos e2]; generalize (sg n fun k => t.l i k * t.u k j) = x; grind
    · rw [if_neg (by omega), if_neg e2]; generalize (sg n fun k => t.l i k * t.u k j) = x; grind
  · rw [clr_det t hc n (Nat.le_refl n)]; exact h.det
theorem LuTo.is {n : Nat} {m : Nat → Nat → F} : ∀ {c : Nat} {t : Tri}, c ≤ n → LuTo n m c t → LuIs n m c t
  | 0, t, _, h => by rw [show t = tri0 m from h]; exact LuIs.start n m
  | c + 1, t, hc, ⟨t0, a, b⟩ => by
    have ih := LuTo.is (show c ≤ n by omega) a
    rcases b with ⟨b1, rfl⟩ | ⟨k, hk, b1, rfl⟩
    · exact ih.skip b1
    · refine (ih.swp (by omega) b1.1 hk).clr (by omega) ?_
      show t0.u (sw c k c) c ≠ 0
      rw [sw_left]; exact b1.2.2.2 hk

/-- The factors, with 1 on the diagonal. -/
def Tri.low (t : Tri) : Nat → Nat → F := fun i j => if j = i then 1 else t.l i j
theorem LuIs.product {n : Nat} {m : Nat → Nat → F} {t : Tri} (h : LuIs n m n t) : Eqm n n (mul n t.low t.u) fun i j => m (t.s i) j := fun i j hi hj => by
  show (sg n fun k => t.low i k * t.u k j) = m (t.s i) j
  rw [h.back i j hi hj]
  have e1 : (sg n fun k => t.low i k * t.u k j) = sg n fun k => (if k = i then t.u i j else 0) + t.l i k * t.u k j := sg_congr fun k hk => by
    unfold Tri.low
    by_cases e : k = i
    · subst e; rw [if_pos rfl, if_pos rfl, h.lz k k hk hk (.inl (Nat.le_refl k))]; grind
    · rw [if_neg e, if_neg e]; grind
  rw [e1, sg_add, sg_one (k := i) hi (fun k _ hne => if_neg hne), if_pos rfl]
theorem LuIs.low {n : Nat} {m : Nat → Nat → F} {t : Tri} (h : LuIs n m n t) {i j : Nat} (hi : i < n) (hj : j < n) (hlt : i < j) : t.low i j = 0 := by
  unfold Tri.low
  rw [if_neg (by omega)]; exact h.lz i j hi hj (.inl (by omega))
theorem Tri.low_one (t : Tri) (i : Nat) : t.low i i = 1 := if_pos rfl
theorem LuIs.middle {n : Nat} {m : Nat → Nat → F} {t : Tri} (h : LuIs n m n t) : sp n (fun i => (t.s i : Int)) * pr n (fun i => t.u i i) = dt n m := by
  rw [h.det, dt_up n t.u fun i j hi hj hlt => h.uz i j hi hj hlt]

end Mx
end Go.Proofs.Ytologiinkilooaa

/- What stands in memory while package lu eliminates: a block of lines of three cells each, and two rows of numbers to each line. -/
namespace Go.Proofs.Ytologiinkilooaa
open Go.ChangeShapes Go.WideShapes Go.ChangeAt Go.RowKit
set_option linter.unusedVariables false

/-- Block g holds n lines of three cells each, nothing else. -/
def Lns (w : World) (g n : Nat) (T : Nat → Value × Value × Value) : Prop :=
  ∃ cur, w.heap[g]? = some (.cells cur 63 (0, 0)) ∧ cur.size = n * 3 ∧ ∀ i, i < n → cur[i * 3]? = some (T i).1 ∧ cur[i * 3 + 1]? = some (T i).2.1 ∧ cur[i * 3 + 2]? = some (T i).2.2
/-- Three cells, one behind the other, are written. -/
def st3 (w : World) (g o : Nat) (x y z : Value) : World := ((w.setCell ⟨g, o, none⟩ x).setCell ⟨g, o + 1, none⟩ y).setCell ⟨g, o + 2, none⟩ z
theorem Lns.cell0 {w : World} {g n : Nat} {T : Nat → Value × Value × Value} (h : Lns w g n T) {i : Nat} (hi : i < n) : w.cell? ⟨g, i * 3, none⟩ = some (T i).1 := by
  obtain ⟨cur, hh, _, hc⟩ := h
  rw [cell_of_row _ _ _ _ _ (0, 0) hh]; exact (hc i hi).1
theorem Lns.cell1 {w : World} {g n : Nat} {T : Nat → Value × Value × Value} (h : Lns w g n T) {i : Nat} (hi : i < n) : w.cell? ⟨g, i * 3 + 1, none⟩ = some (T i).2.1 := by
  obtain ⟨cur, hh, _, hc⟩ := h
  rw [cell_of_row _ _ _ _ _ (0, 0) hh]; exact (hc i hi).2.1
theorem Lns.cell2 {w : World} {g n : Nat} {T : Nat → Value × Value × Value} (h : Lns w g n T) {i : Nat} (hi : i < n) : w.cell? ⟨g, i * 3 + 2, none⟩ = some (T i).2.2 := by
  obtain ⟨cur, hh, _, hc⟩ := h
  rw [cell_of_row _ _ _ _ _ (0, 0) hh]; exact (hc i hi).2.2
theorem Lns.free {w : World} {g n : Nat} {T : Nat → Value × Value × Value} (h : Lns w g n T) (q : Nat) : w.frozen? ⟨g, q, none⟩ = false := by
  obtain ⟨cur, hh, _⟩ := h
  exact frozen_of_row w g q _ _ hh
/-- Whatever is written into it, its cells are there. -/
theorem Lns.has {w : World} {g n : Nat} {T : Nat → Value × Value × Value} (h : Lns w g n T) {q : Nat} (hq : q < n * 3) : ∃ v, w.cell? ⟨g, q, none⟩ = some v := by
  obtain ⟨cur, hh, hs, _⟩ := h
  refine ⟨cur[q]'(by omega), ?_⟩
  rw [cell_of_row _ _ _ _ _ (0, 0) hh]; simp
theorem Lns.lt {w : World} {g n : Nat} {T : Nat → Value × Value × Value} (h : Lns w g n T) : g < w.heap.size := by
  obtain ⟨cur, hh, _⟩ := h
  rcases Nat.lt_or_ge g w.heap.size with h' | h'
  · exact h'
  · rw [Array.getElem?_eq_none h'] at hh; cases hh
theorem Lns.block {w w' : World} {g n : Nat} {T : Nat → Value × Value × Value} (h : Lns w g n T) (hb : w'.heap[g]? = w.heap[g]?) : Lns w' g n T := by
  unfold Lns at h ⊢
  rw [hb]; exact h
theorem Lns.keep {w w' : World} {g n : Nat} {T : Nat → Value × Value × Value} (h : Lns w g n T) (hk : Kp w w') : Lns w' g n T := h.block (hk.block g h.lt)
theorem Lns.ext {w : World} {g n : Nat} {T T' : Nat → Value × Value × Value} (h : Lns w g n T) (e : ∀ i, i < n → T i = T' i) : Lns w g n T' := by
  obtain ⟨cur, hh, hs, hc⟩ := h
  exact ⟨cur, hh, hs, fun i hi => by rw [← e i hi]; exact hc i hi⟩
theorem Lns.put {w : World} {g n : Nat} {T : Nat → Value × Value × Value} (h : Lns w g n T) {k : Nat} (hk : k < n) (x y z : Value) : Lns (st3 w g (k * 3) x y z) g n (fun i => if i = k then (x, y, z) else T i) := by
  obtain ⟨cur, hh, hs, hc⟩ := h
  have h1 := heap_setCell_same w g (k * 3) _ _ x hh
  have h2 := heap_setCell_same _ g (k * 3 + 1) _ _ y h1
  have h3 := heap_setCell_same _ g (k * 3 + 2) _ _ z h2
  refine ⟨_, h3, by simp [hs], fun i hi => ?_⟩
  have hsz : k * 3 < cur.size ∧ k * 3 + 1 < cur.size ∧ k * 3 + 2 < cur.size := by omega
  simp only [Array.getElem?_setIfInBounds, Array.size_setIfInBounds, hsz.1, hsz.2.1, hsz.2.2, if_true]
  by_cases e : i = k
  · subst e
    refine ⟨?_, ?_, ?_⟩
    · rw [if_neg (by omega), if_neg (by omega), if_pos rfl, if_pos rfl]
    · rw [if_neg (by omega), if_pos rfl, if_pos rfl]
    · rw [if_pos rfl, if_pos rfl]
  · rw [if_neg e]
    refine ⟨?_, ?_, ?_⟩
    · rw [if_neg (by omega), if_neg (by omega), if_neg (by omega)]; exact (hc i hi).1
    · rw [if_neg (by omega), if_neg (by omega), if_neg (by omega)]; exact (hc i hi).2.1
    · rw [if_neg (by omega), if_neg (by omega), if_neg (by omega)]; exact (hc i hi).2.2
/-- What such stores leave alone. -/
theorem st3_other (w : World) (g o : Nat) (x y z : Value) {b : Nat} (hb : b ≠ g) : (st3 w g o x y z).heap[b]? = w.heap[b]? := by
  unfold st3
  rw [heap_setCell_other _ _ b _ hb, heap_setCell_other _ _ b _ hb, heap_setCell_other _ _ b _ hb]
theorem st3_kp {a w : World} (h : Kp a w) {g : Nat} (hg : a.heap.size ≤ g) (o : Nat) (x y z : Value) : Kp a (st3 w g o x y z) := ((h.put (p := ⟨g, o, none⟩) hg x).put (p := ⟨g, o + 1, none⟩) hg y).put (p := ⟨g, o + 2, none⟩) hg z
/-- Lines just made. -/
theorem lns_made {w : World} {B g n : Nat} (h : w.ownsRow B 63 3 (.slice (some ⟨g, 0, none⟩) n n) n (madeCells (Value.agg #[.int .i64 0, .slice none 0 0, .slice none 0 0]).cells (n * 3)).toList) :
    Lns w g n fun _ => (.int .i64 0, .slice none 0 0, .slice none 0 0) := by
  rcases h.2 with ⟨e, _⟩ | ⟨g', cap, cur, hv, hg, hh, hc, hm, hs, ht⟩
  · cases e
  · cases hv
    refine ⟨cur, hh, hs, fun i hi => ?_⟩
    have e : cur = madeCells (Value.agg #[.int .i64 0, .slice none 0 0, .slice none 0 0]).cells (n * 3) := by
      apply Array.toList_inj.1
      rw [← ht, List.take_of_length_le (by simp [hs])]
    rw [e]
    have h0 : i * 3 % 3 = 0 := by omega
    have h1 : (i * 3 + 1) % 3 = 1 := by omega
    have h2 : (i * 3 + 2) % 3 = 2 := by omega
    have l0 : i * 3 < n * 3 := by omega
    have l1 : i * 3 + 1 < n * 3 := by omega
    have l2 : i * 3 + 2 < n * 3 := by omega
    refine ⟨?_, ?_, ?_⟩ <;> simp [madeCells, Value.cells, h0, h1, h2, l0, l1, l2]

/-- A line as three values. -/
def lnv (n s a c b d : Nat) : Value × Value × Value := (.int .i64 (s : Int), .slice (some ⟨a, 0, none⟩) n c, .slice (some ⟨b, 0, none⟩) n d)
/-- The lines of an elimination: the factors of line i in block L i, what is left of it in block U i. -/
structure Lin (w : World) (B g n : Nat) (s : Nat → Nat) (L C U D : Nat → Nat) (l u : Nat → Nat → Int) : Prop where
  hB : B ≤ g
  top : Lns w g n fun i => lnv n (s i) (L i) (C i) (U i) (D i)
  low : ∀ i, i < n → Own w B (.slice (some ⟨L i, 0, none⟩) n (C i)) (Mx.row n (l i))
  up : ∀ i, i < n → Own w B (.slice (some ⟨U i, 0, none⟩) n (D i)) (Mx.row n (u i))
  la : ∀ i j, i < n → j < n → i ≠ j → L i ≠ L j
  ua : ∀ i j, i < n → j < n → i ≠ j → U i ≠ U j
  lu : ∀ i j, i < n → j < n → L i ≠ U j
/-- The block of the lines is no row's. -/
theorem lns_ne {w : World} {B g n z d c : Nat} {T : Nat → Value × Value × Value} {l : List Int} (h : Lns w g n T) (hr : Own w B (.slice (some ⟨z, 0, none⟩) d c) l) : z ≠ g := fun e => by
  subst e
  obtain ⟨cur, hh, _⟩ := own_row hr
  obtain ⟨cur', hh', _⟩ := h
  rw [hh] at hh'
  cases hh'
section
variable {w w' : World} {B g n : Nat} {s : Nat → Nat} {L C U D : Nat → Nat} {l u : Nat → Nat → Int}
theorem Lin.keep (h : Lin w B g n s L C U D l u) (hk : Kp w w') : Lin w' B g n s L C U D l u :=
  ⟨h.hB, h.top.keep hk, fun i hi => (h.low i hi).kp hk, fun i hi => (h.up i hi).kp hk, h.la, h.ua, h.lu⟩
theorem Lin.ext {l' u' : Nat → Nat → Int} (h : Lin w B g n s L C U D l u) (e : ∀ i j, i < n → j < n → l i j = l' i j ∧ u i j = u' i j) : Lin w B g n s L C U D l' u' :=
  ⟨h.hB, h.top, fun i hi => by rw [← Mx.row_ext (fun j hj => (e i j hi hj).1)]; exact h.low i hi, fun i hi => by rw [← Mx.row_ext (fun j hj => (e i j hi hj).2)]; exact h.up i hi, h.la, h.ua, h.lu⟩
theorem Lin.lb (h : Lin w B g n s L C U D l u) {i : Nat} (hi : i < n) : B ≤ L i ∧ L i < w.heap.size := World.ownsRow.lt (h.low i hi) (L i) rfl
theorem Lin.ub (h : Lin w B g n s L C U D l u) {i : Nat} (hi : i < n) : B ≤ U i ∧ U i < w.heap.size := World.ownsRow.lt (h.up i hi) (U i) rfl
theorem Lin.lc (h : Lin w B g n s L C U D l u) {i j : Nat} (hi : i < n) (hj : j < n) : w.cell? ⟨L i, j, none⟩ = some (.int .i64 (l i j)) := by
  have := own_cell (h.low i hi) j (by rw [Mx.len_row]; exact hj)
  rwa [Mx.row_at _ _ _ hj] at this
theorem Lin.uc (h : Lin w B g n s L C U D l u) {i j : Nat} (hi : i < n) (hj : j < n) : w.cell? ⟨U i, j, none⟩ = some (.int .i64 (u i j)) := by
  have := own_cell (h.up i hi) j (by rw [Mx.len_row]; exact hj)
  rwa [Mx.row_at _ _ _ hj] at this
theorem Lin.lf (h : Lin w B g n s L C U D l u) {i : Nat} (hi : i < n) (j : Nat) : w.frozen? ⟨L i, j, none⟩ = false := own_free (h.low i hi) j
/-- What turns the row of what is left of one line. -/
theorem Lin.turn {i : Nat} {x : Nat → Int} (h : Lin w B g n s L C U D l u) (hi : i < n) (ho : Only (fun _ => U i) 1 w w') (hx : Own w' B (.slice (some ⟨U i, 0, none⟩) n (D i)) (Mx.row n x)) :
    Lin w' B g n s L C U D l (fun p => if p = i then x else u p) := by
  refine ⟨h.hB, h.top.block (ho.block g h.top.lt fun _ _ e => lns_ne h.top (h.up i hi) e.symm), fun p hp => (h.low p hp).only ho fun b hb _ _ e => ?_, fun p hp => ?_, h.la, h.ua, h.lu⟩
  · have hb2 : L p = b := Option.some.inj hb; exact h.lu p i hp hi (by omega)
  · by_cases e : p = i
    · subst e; simp only [if_true]; exact hx
    · simp only [if_neg e]
      exact (h.up p hp).only ho fun b hb _ _ e2 => by have hb2 : U p = b := Option.some.inj hb; exact h.ua p i hp hi e (by omega)
/-- A factor is written. -/
theorem Lin.put (h : Lin w B g n s L C U D l u) {i : Nat} (hi : i < n) (j : Nat) (x : Int) :
    Lin (w.setCell ⟨L i, j, none⟩ (.int .i64 x)) B g n s L C U D (fun p q => if p = i ∧ q = j then x else l p q) u := by
  have ho : Only (fun _ => L i) 1 w (w.setCell ⟨L i, j, none⟩ (.int .i64 x)) := (Only.refl (fun _ => L i) 1 w).put (i := 0) (by omega) j _
  refine ⟨h.hB, h.top.block (ho.block g h.top.lt fun _ _ e => lns_ne h.top (h.low i hi) e.symm), fun p hp => ?_, fun p hp => (h.up p hp).only ho fun b hb _ _ e => ?_, h.la, h.ua, h.lu⟩
  · by_cases e : p = i
    · subst e
      have := own_put (h.low p hp) j x
      rw [Mx.row_set] at this
      rw [show (fun q => if p = p ∧ q = j then x else l p q) = fun q => if q = j then x else l p q by funext q; simp]
      exact this
    · rw [show (fun q => if p = i ∧ q = j then x else l p q) = l p by funext q; simp [e]]
      exact (h.low p hp).only ho fun b hb _ _ e2 => by have hb2 : L p = b := Option.some.inj hb; exact h.la p i hp hi e (by omega)
  · have hb2 : U p = b := Option.some.inj hb; exact h.lu i p hi hp (by omega)
/-- Two lines change places: the first is written first. (o1, o2: where they begin.) -/
def swW (w : World) (g n o1 o2 a b : Nat) (s L C U D : Nat → Nat) : World :=
  st3 (st3 w g o1 (lnv n (s b) (L b) (C b) (U b) (D b)).1 (lnv n (s b) (L b) (C b) (U b) (D b)).2.1 (lnv n (s b) (L b) (C b) (U b) (D b)).2.2) g o2 (lnv n (s a) (L a) (C a) (U a) (D a)).1 (lnv n (s a) (L a) (C a) (U a) (D a)).2.1 (lnv n (s a) (L a) (C a) (U a) (D a)).2.2
theorem swW_other (w : World) (g n o1 o2 a b : Nat) (s L C U D : Nat → Nat) {c : Nat} (hc : c ≠ g) : (swW w g n o1 o2 a b s L C U D).heap[c]? = w.heap[c]? := by
  unfold swW; rw [st3_other _ _ _ _ _ _ hc, st3_other _ _ _ _ _ _ hc]
theorem Lin.swap (h : Lin w B g n s L C U D l u) {a b o1 o2 : Nat} (ha : a < n) (hb : b < n) (h1 : o1 = a * 3) (h2 : o2 = b * 3) :
    Lin (swW w g n o1 o2 a b s L C U D) B g n (fun i => s (Mx.sw a b i)) (fun i => L (Mx.sw a b i)) (fun i => C (Mx.sw a b i)) (fun i => U (Mx.sw a b i)) (fun i => D (Mx.sw a b i)) (fun i => l (Mx.sw a b i)) (fun i => u (Mx.sw a b i)) := by
  subst h1 h2
  have hs : ∀ i, i < n → Mx.sw a b i < n := fun i hi => Mx.sw_lt ha hb hi
  have hown : ∀ (z d c : Nat) (x : List Int), Own w B (.slice (some ⟨z, 0, none⟩) d c) x → Own (swW w g n (a * 3) (b * 3) a b s L C U D) B (.slice (some ⟨z, 0, none⟩) d c) x := fun z d c x hx => by
    have hz := lns_ne h.top hx
    obtain ⟨h1, h2⟩ := hx
    refine ⟨h1, ?_⟩
    rcases h2 with h2 | ⟨g', cap, cur, hv, hg, hh, r⟩
    · exact .inl h2
    · refine .inr ⟨g', cap, cur, hv, hg, ?_, r⟩
      cases hv
      rw [swW_other _ _ _ _ _ _ _ _ _ _ _ _ hz]; exact hh
  refine ⟨h.hB, ?_, fun i hi => hown _ _ _ _ (h.low _ (hs i hi)), fun i hi => hown _ _ _ _ (h.up _ (hs i hi)), fun i j hi hj hne => h.la _ _ (hs i hi) (hs j hj) fun e => hne (Mx.sw_inj e),
    fun i j hi hj hne => h.ua _ _ (hs i hi) (hs j hj) fun e => hne (Mx.sw_inj e), fun i j hi hj => h.lu _ _ (hs i hi) (hs j hj)⟩
  refine ((h.top.put ha _ _ _).put hb _ _ _).ext fun i hi => ?_
  show (if i = b then _ else if i = a then _ else _) = _
  by_cases e1 : i = b
  · subst e1; rw [if_pos rfl, Mx.sw_right]
  · rw [if_neg e1]
    by_cases e2 : i = a
    · subst e2; rw [if_pos rfl, Mx.sw_left]
    · rw [if_neg e2, Mx.sw_none e2 e1]
theorem swW_kp {a0 : World} (hk : Kp a0 w) (hg : a0.heap.size ≤ g) (o1 o2 a b : Nat) : Kp a0 (swW w g n o1 o2 a b s L C U D) := st3_kp (st3_kp hk hg _ _ _ _) hg _ _ _ _
end

/-- The same of what is known of an elimination. -/
def LinT (w : World) (B g n : Nat) (L C U D : Nat → Nat) (t : Mx.Tri) : Prop := Lin w B g n t.s L C U D (fun i j => ((t.l i j).val : Int)) (fun i j => ((t.u i j).val : Int))

end Go.Proofs.Ytologiinkilooaa

/- Contracts of package lu, first part: the first line that is not nought at a column, a row taken from another one. -/
namespace Go.Proofs.Ytologiinkilooaa
open Go.ChangeShapes Go.WideShapes Go.ChangeAt Go.RowKit
set_option linter.unusedVariables false

set_option maxRecDepth 100000 in
theorem lnz_any (s : Int) (y n d a ca P c : Nat) (x : Int) (w : World) (hp : w.cell? ⟨P, 0, none⟩ = some (.int .i64 (c : Int))) (hx : w.cell? ⟨y, c, none⟩ = some (.int .i64 x)) (hc : c < n) :
    Calls Try.prog 66 #[.agg #[.int .i64 s, .slice (some ⟨a, 0, none⟩) n ca, .slice (some ⟨y, 0, none⟩) n d], .pointer (some ⟨P, 0, none⟩)] w fun e w' => e = .returned (.bool (x != 0)) ∧ Kp w w' := by
  have k0 : Kp w (w.alloc (.cells #[.int .i64 s, .slice (some ⟨a, 0, none⟩) n ca, .slice (some ⟨y, 0, none⟩) n d] 63)) := (Kp.rfl' w).new _
  have q1 := (k0.cell (p := ⟨P, 0, none⟩) (cell_lt hp)).trans hp
  have q2 := (k0.cell (p := ⟨y, c, none⟩) (cell_lt hx)).trans hx
  clear k0
  go_enter Try.func66, Try.ntmps66
  go_wp2_with fail
  go_ret
  exact ⟨rfl, (Kp.rfl' w).new _⟩

set_option maxRecDepth 100000 in
set_option maxHeartbeats 1600000 in
/-- A row is taken from another one, so many times. -/
theorem sub_any {B z cz y cy n : Nat} {f h : Nat → Fp.F} (hzy : z ≠ y) (x : Fp.F) (w : World) (hn : n ≤ 1000)
    (hz : Own w B (.slice (some ⟨z, 0, none⟩) n cz) (Mx.row n fun j => ((f j).val : Int))) (hy : ∀ j, j < n → w.cell? ⟨y, j, none⟩ = some (.int .i64 ((h j).val : Int))) :
    Calls Try.prog 67 #[.slice (some ⟨z, 0, none⟩) n cz, .slice (some ⟨y, 0, none⟩) n cy, .int .i64 (x.val : Int)] w fun e w' =>
      e = .returned (.tuple #[]) ∧ Own w' B (.slice (some ⟨z, 0, none⟩) n cz) (Mx.row n fun j => ((f j - x * h j).val : Int)) ∧ Only (fun _ => z) 1 w w' := by
  have HZ := Lib.hid hz
  have HY := Lib.hid hy
  clear hz hy
  obtain ⟨xv, hxv⟩ : ∃ xv, xv = (x.val : Int) := ⟨_, rfl⟩
  rw [← hxv]
  have HX := Lib.hid hxv
  have hxb : 0 ≤ xv ∧ xv ≤ 9972 := by rw [hxv]; exact gval x
  clear hxv
  go_enter Try.func67, Try.ntmps67
  go_wp2_with fail
  go_loopw [10] (fun u wr => ∃ k : Nat, k ≤ n ∧ u = .int .i64 (k : Int) ∧ Own wr B (.slice (some ⟨z, 0, none⟩) n cz) (Mx.row n fun q => if q < k then ((f q - x * h q).val : Int) else ((f q).val : Int)) ∧ Only (fun _ => z) 1 w wr) (fun u _ => n - (intOf u).toNat)
  case atStart =>
    refine ⟨0, Nat.zero_le _, rfl, ?_, Only.refl _ _ _⟩
    rw [show (Mx.row n fun q => if q < 0 then ((f q - x * h q).val : Int) else ((f q).val : Int)) = Mx.row n fun j => ((f j).val : Int) from Mx.row_ext fun j _ => by rw [if_neg (by omega)]]
    exact HZ.out
  case round =>
    obtain ⟨k, hk, rfl, ho, hon⟩ := hrel
    by_cases hlt : k < n
    · have y2 := own_cell ho k (by rw [Mx.len_row]; exact hlt)
      rw [Mx.row_at _ _ _ hlt, if_neg (by omega)] at y2
      have y3 := own_free ho k
      have hyl := cell_lt (HY.out k hlt)
      have y1 := (World.cell?_of_block (w := w) (w' := wr) (a := ⟨y, k, none⟩) (hon.block y hyl fun _ _ e => hzy e.symm)).trans (HY.out k hlt)
      have HP := Lib.hid ho
      have HN := Lib.hid hon
      have hm := less_mod (f k) x (h k)
      have hb := less_bound x (h k)
      have hb2 := gval (f k)
      rw [← HX.out] at hm hb
      obtain ⟨v1, hv1⟩ : ∃ v, v = ((f k - x * h k).val : Int) := ⟨_, rfl⟩
      rw [← hv1] at hm
      have HV := Lib.hid hv1
      generalize ((f k).val : Int) = u0 at *
      generalize ((h k).val : Int) = v at *
      have hws : IntKind.i64.wrap (9973 - xv) = 9973 - xv := IntWalk.i64_in _ (by omega)
      have hwm : IntKind.i64.wrap ((9973 - xv) * v) = (9973 - xv) * v := IntWalk.i64_in _ (by omega)
      have hwa : IntKind.i64.wrap (u0 + (9973 - xv) * v) = u0 + (9973 - xv) * v := IntWalk.i64_in _ (by omega)
      clear ho hon hv1 hb hb2 hyl
      go_wp2_with fail
      go_roundw
      case rel =>
        refine ⟨k + 1, by omega, by go_num, ?_, HN.out.put (i := 0) (by omega) k _⟩
        have := own_put HP.out k v1
        rw [Mx.row_set] at this
        rw [show (Mx.row n fun q => if q < k + 1 then ((f q - x * h q).val : Int) else ((f q).val : Int)) = Mx.row n fun q => if q = k then v1 else if q < k then ((f q - x * h q).val : Int) else ((f q).val : Int) from Mx.row_ext fun q _ => by
          by_cases e : q = k
          · rw [if_pos e, if_pos (by omega), HV.out, e]
          · rw [if_neg e]
            by_cases e2 : q < k
            · rw [if_pos e2, if_pos (by omega)]
            · rw [if_neg e2, if_neg (by omega)]]
        exact this
      case measure => simp [intOf]; omega
    · obtain rfl : k = n := by omega
      have HP := Lib.hid ho
      have HN := Lib.hid hon
      clear ho hon
      go_wp2_with fail
      go_end0
      refine ⟨rfl, ?_, HN.out⟩
      rw [show (Mx.row k fun j => ((f j - x * h j).val : Int)) = Mx.row k fun q => if q < k then ((f q - x * h q).val : Int) else ((f q).val : Int) from Mx.row_ext fun q hq => by rw [if_pos hq]]
      exact HP.out

set_option maxRecDepth 100000 in
set_option maxHeartbeats 1600000 in
/-- The first line from line c on that is not nought at column c. -/
theorem lidx_any {B g n c r P : Nat} {L C U D : Nat → Nat} {t : Mx.Tri} (w : World) (h : LinT w B g n L C U D t) (hn : n = c + r) (hb : n ≤ 1000) (hr : 0 < r) (hp : w.cell? ⟨P, 0, none⟩ = some (.int .i64 (c : Int))) :
    Calls Try.prog 65 #[.slice (some ⟨g, c * 3, none⟩) r r, .func (.func 66) #[] #[.pointer (some ⟨P, 0, none⟩)]] w fun e w' =>
      ((∃ k : Nat, k < r ∧ t.u (c + k) c ≠ 0 ∧ (∀ j, j < k → t.u (c + j) c = 0) ∧ e = .returned (.int .i64 (k : Int))) ∨ ((∀ j, j < r → t.u (c + j) c = 0) ∧ e = .returned (.int .i64 (-1)))) ∧ Kp w w' := by
  have H := Lib.hid h
  have HN := Lib.hid hn
  have HP := Lib.hid hp
  have hr1 : r ≤ 1000 := by omega
  clear h hn hp
  go_enter Try.func65, Try.ntmps65
  go_wp2_with fail
  go_loopw [8] (fun j wr => ∃ k : Nat, k ≤ r ∧ j = .int .i64 (k : Int) ∧ (∀ j, j < k → t.u (c + j) c = 0) ∧ Kp w wr) (fun j _ => r - (intOf j).toNat)
  case atStart => exact ⟨0, Nat.zero_le _, rfl, fun t ht => absurd ht (by omega), Kp.rfl' w⟩
  case round =>
    obtain ⟨k, hk, rfl, hz, hkp⟩ := hrel
    have HZ := Lib.hid hz
    have HK := Lib.hid hkp
    clear hz hkp
    by_cases hlt : k < r
    · have hi : c + k < n := by have := HN.out; omega
      have hl := H.out.keep HK.out
      have x0 := hl.top.cell0 hi
      have x1 := hl.top.cell1 hi
      have x2 := hl.top.cell2 hi
      have x3 := hl.uc hi (j := c) (by omega)
      have x4 := (HK.out.cell (p := ⟨P, 0, none⟩) (cell_lt HP.out)).trans HP.out
      have x5 := hl.top.lt
      unfold lnv at x0 x1 x2
      rw [show (c + k) * 3 = c * 3 + k * 3 by omega] at x0 x1 x2
      have M := Lib.hid (lnz_any (t.s (c + k) : Int) (U (c + k)) n (D (c + k)) (L (c + k)) (C (c + k)) P c _ wr x4 x3 (by omega))
      generalize t.s (c + k) = s0 at *
      generalize L (c + k) = L0 at *
      generalize C (c + k) = C0 at *
      generalize U (c + k) = U0 at *
      generalize D (c + k) = D0 at *
      clear hl x3 x4
      by_cases h0 : t.u (c + k) c = 0
      · have HZ2 := Lib.hid (show ∀ j, j < k + 1 → t.u (c + j) c = 0 from fun j hj => by
          by_cases e : j = k
          · rw [e]; exact h0
          · exact HZ.out j (by omega))
        rw [h0, show ((((0 : Fp.F).val : Nat) : Int) != 0) = false from rfl] at M
        clear h0
        go_wp2_with fail
        refine (M.out).mono ?_; rintro e w' ⟨rfl, hk2⟩
        have HK2 := Lib.hid (HK.out.trans hk2)
        clear hk2
        go_wp2_with fail
        go_roundw
        case rel => exact ⟨k + 1, by omega, by go_num, HZ2.out, HK2.out⟩
        case measure => simp [intOf]; omega
      · have HQ := Lib.hid h0
        have hv := Fp.ne_val h0
        rw [show (((t.u (c + k) c).val : Int) != 0) = true by rw [bne_iff_ne]; omega] at M
        clear h0 hv
        go_wp2_with fail
        refine (M.out).mono ?_; rintro e w' ⟨rfl, hk2⟩
        have HK2 := Lib.hid (HK.out.trans hk2)
        clear hk2
        go_wp2_with fail
        go_ret
        exact ⟨.inl ⟨k, hlt, HQ.out, HZ.out, rfl⟩, HK2.out⟩
    · obtain rfl : k = r := by omega
      go_wp2_with fail
      go_ret
      exact ⟨.inr ⟨HZ.out, rfl⟩, HK.out⟩

end Go.Proofs.Ytologiinkilooaa
