/- Contracts of package ipol, third part: Through. -/
import Derived.Test.YteaonlmiifpjfaaDoorIpC2
namespace Go.Proofs.YteaonlmiifpjfaaDoor
open Go.ChangeShapes Go.WideShapes Go.ChangeAt Go.RowKit
set_option linter.unusedVariables false

theorem through_bad (A B : Option Addr) (l m : List Int) (c d : Nat) (w : World) (ha : Lies w A l) (hb : Lies w B m) (hc : l.length ≤ c) (h : dcode l m ≠ 0) :
    Calls Tryd.prog 8 #[.slice A l.length c, .slice B m.length d] w fun e w' => Fails (dcode l m) w e w' := by
  have C := Lib.hid (steps_bad A B l m c d w ha hb hc h)
  unfold Fails at *
  have e := errOf_ne _ h
  rw [e] at C ⊢
  clear e h ha hb hc
  generalize dcode l m = x at *
  generalize l.length = n at *
  generalize m.length = q at *
  go_enter Tryd.func8, Tryd.ntmps8
  go_wp2_with fail
  refine (C.out).mono ?_; rintro e w' ⟨rfl, hk⟩
  have HK := Lib.hid hk
  clear hk
  go_wp2_with fail
  go_ret2
  exact ⟨rfl, HK.out⟩

theorem minus_zero (a : Fp.F) (w : World) :
    Calls Tryd.prog 21 #[.int .i64 0, el a] w fun e w' => e = .returned (el (-a)) ∧ w = w' := by
  have h := minus_el 0 a w
  rw [show (0 : Fp.F) - a = -a by grind] at h
  exact h

/-- The rule of the divided differences. -/
def stp (p q : List Fp.F) (k : Nat) : Fp.F := Pol.dd (Pol.co p) (Pol.co q) k 0

theorem vals_two (a : Fp.F) : Pol.vals [a, 1] = [(a.val : Int), 1] := rfl
theorem vals_one (a : Fp.F) : Pol.vals [a] = [(a.val : Int)] := rfl

set_option maxRecDepth 100000 in
set_option maxHeartbeats 3200000 in
theorem through_ok (A B : Option Addr) (p q : List Fp.F) (n c d : Nat) (w : World) (ha : Lies w A (Pol.vals p)) (hb : Lies w B (Pol.vals q)) (hn : n = p.length) (hq : n = q.length) (ln : n ≤ 6) (hc : n ≤ c) (hX : Pol.Apart (Pol.co p) n) :
    Calls Tryd.prog 8 #[.slice A n c, .slice B n d] w fun e w' => Gives (Pol.thr (Pol.co p) (Pol.co q) n) w e w' := by
  have ST := Lib.hid (steps_ok A B p q n c d w ha hb hn hq ln hc hX)
  have HA := Lib.hid ha
  have HN := Lib.hid hn
  have HQ := Lib.hid hq
  clear ha hb hn hq hX hc
  go_enter Tryd.func8, Tryd.ntmps8
  go_wp2_with fail
  refine (ST.out).mono ?_; rintro e w1 ⟨A1, c1, rfl, hl1, hc1, hkp⟩
  rw [len_stepRow, ← HN.out] at hc1 ⊢
  have HL1 := Lib.hid hl1
  have HK1 := Lib.hid hkp
  clear hl1 hkp ST
  go_wp2_with fail
  go_loopw [8, 7, 9] (fun f err i wr => ∃ (m len c' : Nat) (A' : Option Addr) (z : Int), m ≤ n ∧ f = .slice A' len c' ∧ len = (Pol.hor (Pol.co p) (stp p q) n m).length ∧ Lies wr A' (Pol.vals (Pol.hor (Pol.co p) (stp p q) n m)) ∧ len ≤ c' ∧
      err = .nilIface ∧ i = .int .i64 z ∧ z = (n : Int) - 1 - (m : Int) ∧ Kp w1 wr) (fun _ _ i _ => (intOf i + 1).toNat)
  case atStart => exact ⟨0, 0, 0, Option.none, _, Nat.zero_le _, rfl, rfl, Lies.empty _ _, Nat.le_refl _, rfl, rfl, by omega, Kp.rfl' _⟩
  case round =>
    obtain ⟨m, len, c', A', z, hm, rfl, hlen, hlies, hc', rfl, rfl, hz, hkp⟩ := hrel
    have HLEN := Lib.hid hlen
    have HLI := Lib.hid hlies
    have HK := Lib.hid hkp
    have LB := Lib.hid (Pol.len_hor (Pol.co p) (stp p q) n m (by omega))
    clear hlen hlies hkp
    by_cases hlt : m < n
    · obtain ⟨k, hk⟩ : ∃ k, k = n - (m + 1) := ⟨_, rfl⟩
      obtain rfl : z = (k : Int) := by omega
      have hkn : k < n := by omega
      have HKM := Lib.hid hk
      have HZ := Lib.hid hz
      clear hz hk
      obtain ⟨ad, rfl, _, xc⟩ := (HA.out.keep (HK1.out.trans HK.out)) k (by rw [Pol.len_vals, ← HN.out]; exact hkn)
      rw [Pol.vals_at] at xc
      have hll : len ≤ 6 := by have := HLEN.out; have := LB.out; omega
      obtain ⟨a, haa⟩ : ∃ a, a = Pol.co p k := ⟨_, rfl⟩
      rw [← haa] at xc
      have MZ := Lib.hid (fun w => minus_zero a w)
      have MU := Lib.hid (fun (w' : World) (B' : Option Addr) (d' : Nat) (hw : Kp wr w') (hB : Lies w' B' (Pol.vals [-a, 1])) => mul_ok' A' B' (Pol.hor (Pol.co p) (stp p q) n m) [-a, 1] len 2 c' d' w' (HLI.out.keep hw) hB HLEN.out rfl (by omega) (by omega))
      obtain ⟨bd, rfl, hbb, yc⟩ := (HL1.out.keep HK.out) k (by rw [Pol.len_vals, len_stepRow, ← HN.out]; exact hkn)
      rw [Pol.vals_at, co_stepRow _ _ _ (by rw [← HN.out]; exact hkn)] at yc
      have HY := Lib.hid (show Lies wr (some (bd.add k)) (Pol.vals [stp p q k]) from fun j hj => by
        obtain rfl : j = 0 := by rw [Pol.len_vals] at hj; simp at hj; exact hj
        exact ⟨_, rfl, by rw [block_add]; exact hbb, by rw [add_add, Nat.add_zero, yc]; rfl⟩)
      have AD := Lib.hid (fun (w' : World) (A2 : Option Addr) (c2 d2 : Nat) (hw : Kp wr w') (hA : Lies w' A2 (Pol.vals (Pol.mul (Pol.hor (Pol.co p) (stp p q) n m) [-a, 1]))) =>
        add_ok' A2 (some (bd.add k)) (Pol.mul (Pol.hor (Pol.co p) (stp p q) n m) [-a, 1]) [stp p q k] _ 1 c2 d2 w' hA (HY.out.keep hw) rfl rfl (by have h1 : (Pol.mul (Pol.hor (Pol.co p) (stp p q) n m) [-a, 1]).length ≤ (Pol.hor (Pol.co p) (stp p q) n m).length + 2 := Pol.len_mul _ _; have := HLEN.out; omega) (by omega))
      have EQ := Lib.hid (show Pol.add (Pol.mul (Pol.hor (Pol.co p) (stp p q) n m) [-a, 1]) [stp p q k] = Pol.hor (Pol.co p) (stp p q) n (m + 1) by rw [Pol.hor, haa, HKM.out])
      have hkc : (k : Int) < (c1 : Int) := by omega
      have hkc2 : (k : Int) + 1 ≤ (c1 : Int) := by omega
      clear haa yc hbb
      unfold el at *
      generalize hv : (a.val : Int) = va at *
      generalize hv' : ((-a).val : Int) = vna at *
      have HV' := Lib.hid hv'
      clear hv hv'
      go_wp2_with fail
      refine (MZ.out _).mono ?_; rintro e w' ⟨rfl, rfl⟩
      go_wp2_with fail
      refine (MU.out _ _ _ ((Kp.rfl' wr).new _) (by rw [vals_two, HV'.out]; exact lies_new wr _ [vna, 1])).mono ?_; rintro e w2 ⟨A2, c2, rfl, hl2, hc2, hk2⟩
      have HL2 := Lib.hid hl2
      have HK2 := Lib.hid (((Kp.rfl' wr).new _).trans hk2)
      clear hl2 hc2 hk2 MU MZ
      go_wp2_with fail
      refine (AD.out _ _ _ _ HK2.out HL2.out).mono ?_; rintro e w3 ⟨A3, c3, rfl, hl3, hc3, hk3⟩
      rw [EQ.out] at hl3 hc3 ⊢
      have HL3 := Lib.hid hl3
      have HC3 := Lib.hid hc3
      have HK3 := Lib.hid (HK.out.trans (HK2.out.trans hk3))
      clear hl3 hc3 hk3 AD EQ
      go_wp2_with fail
      go_roundw
      case rel => exact ⟨m + 1, _, c3, A3, _, by omega, rfl, rfl, HL3.out, HC3.out, rfl, rfl, by have := HZ.out; omega, HK3.out⟩
      case measure => simp [intOf]
    · obtain rfl : m = n := by omega
      obtain rfl : z = -1 := by omega
      have E := Lib.hid (show Pol.hor (Pol.co p) (stp p q) m m = Pol.thr (Pol.co p) (Pol.co q) m from rfl)
      have HT := Lib.hid (HK1.out.trans HK.out)
      go_wp2_with fail
      go_ret2
      exact ⟨A', c', by rw [← E.out, ← HLEN.out]; rfl, by rw [← E.out]; exact HLI.out, by rw [← E.out, ← HLEN.out]; exact hc', HT.out⟩

end Go.Proofs.YteaonlmiifpjfaaDoor
