/- Contracts of the document's answer for package poly (package rankmereref1): factor, Plus, Times, At. -/
import Derived.Test.YteaonlmiifpjfaaDoorPolLaw
namespace Go.Proofs.YteaonlmiifpjfaaDoor
open Go.ChangeShapes Go.WideShapes Go.ChangeAt Go.RowKit
set_option linter.unusedVariables false

theorem quiet_here {P : Program} {f : FuncId} {args : Array Value} {w : World} {n : Nat} {v : Value} (h : Calls P f args (w.drewN n) fun e w' => e = .returned v ∧ w.drewN n = w') :
    Calls P f args (w.drewN n) fun e w'' => e = .returned v ∧ ∃ m, w'' = w.drewN m := h.mono fun _ _ ⟨he, hm⟩ => ⟨he, n, hm.symm⟩

theorem quiet_more {P : Program} {f : FuncId} {args : Array Value} {w : World} {a n : Nat} {v : Value} (h : Calls P f args (w.drewN (a + n)) fun e w' => e = .returned v ∧ w.drewN (a + n) = w') :
    Calls P f args (w.drewN (a + n)) fun e w'' => e = .returned v ∧ ∃ m, w'' = w.drewN (a + m) := h.mono fun _ _ ⟨he, hm⟩ => ⟨he, n, hm.symm⟩

theorem ofInt_neg (a : Fp.F) : Fp.ofInt (-(a.val : Int)) = -a := by
  have : Fp.ofInt (-(a.val : Int)) + Fp.ofInt (a.val : Int) = 0 := by
    rw [← Fp.ofInt_add, show -(a.val : Int) + (a.val : Int) = 0 by omega]; rfl
  rw [Fp.ofInt_self] at this; grind

/-- The answer is one row of factors. -/
def GivesRow (l : List Fp.F) (w : World) (e : Ending) (w' : World) : Prop :=
  ∃ A c, e = .returned (.slice A l.length c) ∧ Lies w' A (Pol.vals l) ∧ l.length ≤ c ∧ Kp w w'

theorem Own.cap {w : World} {B : Nat} {v : Value} {l : List Int} (h : Own w B v l) : ∃ A c, v = .slice A l.length c ∧ Lies w A l ∧ l.length ≤ c := by
  have h' := h
  rcases h'.2 with ⟨rfl, h0⟩ | ⟨g, cap, cur, rfl, _, _, hnc, _⟩
  · obtain rfl : l = [] := List.eq_nil_of_length_eq_zero h0
    exact ⟨Option.none, 0, rfl, Lies.empty _ _, Nat.le_refl _⟩
  · obtain ⟨A, c, e, hl⟩ := h.lies
    injection e with e1 e2 e3
    subst e1 e3
    exact ⟨_, _, rfl, hl, hnc⟩

theorem refFactor_nat (A : Option Addr) (p : List Fp.F) (c : Nat) (k : Nat) (w : World) (ha : Lies w A (Pol.vals p)) :
    Calls Tryd.prog 29 #[.slice A p.length c, .int .i64 (k : Int)] w fun e w' => e = .returned (el (Pol.co p k)) ∧ w = w' := by
  by_cases h : k < p.length
  · obtain ⟨ad, rfl, _, hcell⟩ := ha k (by rw [Pol.len_vals]; exact h)
    rw [Pol.vals_at] at hcell
    unfold el
    generalize ((Pol.co p k).val : Int) = m at *
    generalize p.length = n at *
    clear ha
    go_enter Tryd.func29, Tryd.ntmps29
    go_wp2_with fail
    go_ret
    exact ⟨rfl, rfl⟩
  · rw [Pol.co_out p k (by omega)]
    generalize p.length = n at *
    have h' : (n : Int) ≤ (k : Int) := by omega
    clear ha
    go_enter Tryd.func29, Tryd.ntmps29
    go_wp2_with fail
    go_ret
    exact ⟨rfl, rfl⟩
theorem refFactor_neg (A : Option Addr) (p : List Fp.F) (c : Nat) (k : Int) (w : World) (hk : k < 0) :
    Calls Tryd.prog 29 #[.slice A p.length c, .int .i64 k] w fun e w' => e = .returned (.int .i64 0) ∧ w = w' := by
  generalize p.length = n at *
  go_enter Tryd.func29, Tryd.ntmps29
  go_wp2_with fail
  go_ret
  exact ⟨rfl, rfl⟩

/-- A factor's place, shifted. -/
theorem refFactor_shift (A : Option Addr) (p : List Fp.F) (n c : Nat) (k up : Nat) (w : World) (ha : Lies w A (Pol.vals p)) (hn : n = p.length) :
    ∃ b : Fp.F, (∀ t, Pol.co (Pol.shift t up p) k = t * b) ∧ Calls Tryd.prog 29 #[.slice A n c, .int .i64 ((k : Int) - (up : Int))] w fun e w' => e = .returned (el b) ∧ w = w' := by
  subst hn
  by_cases h : up ≤ k
  · refine ⟨Pol.co p (k - up), fun t => Pol.co_shift t up p k h, ?_⟩
    rw [show (k : Int) - (up : Int) = ((k - up : Nat) : Int) by omega]
    exact refFactor_nat A p c (k - up) w ha
  · exact ⟨0, fun t => by rw [Pol.co_shift_low t up p k (by omega), Fin.mul_zero], refFactor_neg A p c _ w (by omega)⟩

theorem signed_bound (T : Int) (b : Fp.F) (h1 : -9972 ≤ T) (h2 : T ≤ 9972) : -99440784 ≤ T * (b.val : Int) ∧ T * (b.val : Int) ≤ 99440784 := by
  have hb := Fp.val_bound b
  have u1 := Int.mul_le_mul_of_nonneg_right h1 hb.1
  have u2 := Int.mul_le_mul_of_nonneg_right h2 hb.1
  omega

set_option maxRecDepth 100000 in
set_option maxHeartbeats 1600000 in
theorem refPlus_any (A B : Option Addr) (p g : List Fp.F) (n m c d : Nat) (T : Int) (t : Fp.F) (up : Nat) (w : World) (ha : Lies w A (Pol.vals p)) (hb : Lies w B (Pol.vals g)) (hn : n = p.length) (hm : m = g.length)
    (ln : n ≤ 100) (lm : m ≤ 100) (lu : up ≤ 100) (hT : Fp.ofInt T = t) (T1 : -9972 ≤ T) (T2 : T ≤ 9972) :
    Calls Tryd.prog 19 #[.slice A n c, .slice B m d, .int .i64 T, .int .i64 (up : Int)] w fun e w' => GivesRow (Pol.plus p g t up) w e w' := by
  have HA := Lib.hid ha
  have HB := Lib.hid hb
  have HN := Lib.hid hn
  have HM := Lib.hid hm
  have HT := Lib.hid hT
  clear ha hb hn hm hT
  go_enter Tryd.func19, Tryd.ntmps19
  go_wp2_with fail
  go_loopw [9, 10] (fun v i wr => ∃ k : Nat, k ≤ max n (up + m) ∧ i = .int .i64 (k : Int) ∧ Own wr w.heap.size v (Pol.vals (Pol.plusRow p g t up k)) ∧ Kp w wr) (fun _ i _ => max n (up + m) - (intOf i).toNat)
  case atStart => exact ⟨0, Nat.zero_le _, rfl, Own.none _ _, Kp.rfl' _⟩
  case round =>
    obtain ⟨k, hk, rfl, hown, hkp⟩ := hrel
    have HO := Lib.hid hown
    have HK := Lib.hid hkp
    have hsz := hkp.size
    clear hown hkp
    by_cases hlt : k < n ∨ k < up + m
    · obtain ⟨b, hb, cb⟩ := refFactor_shift B g m d k up wr (HB.out.keep HK.out) HM.out
      have CB := Lib.hid cb
      have HS := Lib.hid (hb t)
      have CA := Lib.hid (refFactor_nat A p c k wr (HA.out.keep HK.out))
      rw [← HN.out] at CA
      obtain ⟨a, haa⟩ : ∃ a, a = Pol.co p k := ⟨_, rfl⟩
      rw [← haa] at CA
      have HR := Lib.hid (show Pol.vals (Pol.plusRow p g t up (k + 1)) = Pol.vals (Pol.plusRow p g t up k) ++ [(((a + t * b : Fp.F)).val : Int)] by
        rw [Pol.plusRow, Pol.vals_append, HS.out, haa]; rfl)
      have hlen : (Pol.vals (Pol.plusRow p g t up k)).length + 1 ≤ 17000000000000 := by rw [Pol.len_vals, Pol.len_plusRow]; omega
      have HV := Lib.hid (show Fp.ofInt ((a.val : Int) + T * (b.val : Int)) = a + t * b by rw [Fp.ofInt_add, Fp.ofInt_mul, Fp.ofInt_self, Fp.ofInt_self, HT.out])
      obtain ⟨p1, p2⟩ := signed_bound T b T1 T2
      have a1 := Fp.val_bound a
      have MD := Lib.hid (refMod_el ((a.val : Int) + T * (b.val : Int)) wr (by omega) (by omega))
      rw [HV.out] at MD
      have b1 := Fp.val_bound b
      unfold el at *
      clear haa hb cb HV HS
      generalize hz : ((a + t * b : Fp.F).val : Int) = z at *
      clear hz
      generalize hav : (a.val : Int) = av at *
      generalize hbv : (b.val : Int) = bv at *
      clear hav hbv
      go_wp2_with fail
      all_goals
        refine (CA.out).mono ?_; rintro e w' ⟨rfl, rfl⟩
        go_wp2_with fail
        refine (CB.out).mono ?_; rintro e w' ⟨rfl, rfl⟩
        go_wp2_with fail
        refine (MD.out).mono ?_; rintro e w' ⟨rfl, rfl⟩
        go_wp2_with (at_builtin; refine wpList_push rfl _ _ rfl w.heap.size _ (Pol.vals (Pol.plusRow p g t up k)) z wr.heap.size 1 rfl rfl (HO.out.new _) (by simp) hlen (by simp; omega) ?_; intro v' w' h1 h2 _)
        have HO' := Lib.hid (show Own w' w.heap.size v' (Pol.vals (Pol.plusRow p g t up (k + 1))) by rw [HR.out]; exact h1)
        have HK' := Lib.hid (own_below (HO.out.new _) (HK.out.new _) (Nat.le_trans hsz (by simp)) h2)
        clear h1 h2
        go_wp2_with fail
        go_roundw
        case rel => exact ⟨k + 1, by omega, by go_num, HO'.out, HK'.out⟩
        case measure => simp [intOf]; omega
    · have h1 : (n : Int) ≤ k := by omega
      have h2 : ((up : Int) + m) ≤ k := by omega
      clear hlt
      obtain ⟨A', c', rfl, hl, hc⟩ := HO.out.cap
      rw [Pol.len_vals, Pol.len_plusRow] at *
      have E := Lib.hid (Pol.row_plus p g t up k (by have := HN.out; omega) (by have := HM.out; omega) (by omega))
      have T := Lib.hid (refTrim_any A' (Pol.plusRow p g t up k) c' wr hl (by rw [Pol.len_plusRow]; exact hc) (by rw [Pol.len_plusRow]; omega))
      have LT := Lib.hid (Pol.len_trim (Pol.plusRow p g t up k))
      have L := Lib.hid hl.trim
      rw [Pol.len_plusRow, E.out] at T
      rw [Pol.len_plusRow, E.out] at LT
      rw [E.out] at L
      clear hl
      go_wp2_with fail
      refine (T.out).mono ?_; rintro e w' ⟨rfl, rfl⟩
      go_wp2_with fail
      go_ret
      exact ⟨A', c', rfl, L.out, Nat.le_trans LT.out hc, HK.out⟩

/-- The rows of a product, as the document's answer adds them. -/
def timesRows (f g : List Fp.F) : Nat → List Fp.F
  | 0 => []
  | k + 1 => Pol.plus (timesRows f g k) g (Pol.co f k) k
theorem ev_timesRows (f g : List Fp.F) (k : Nat) (x : Fp.F) : Pol.ev (timesRows f g k) x = Pol.ev (f.take k) x * Pol.ev g x := by
  induction k with
  | zero => rw [timesRows, List.take_zero, Pol.ev_nil]; grind
  | succ k ih => rw [timesRows, Pol.ev_plus, ih, Pol.ev_take_more]; grind
theorem len_timesRows (f g : List Fp.F) (k : Nat) : (timesRows f g k).length ≤ k + g.length := by
  induction k with
  | zero => rw [timesRows]; simp
  | succ k ih => rw [timesRows]; have := Pol.len_plus (timesRows f g k) g (Pol.co f k) k; omega

set_option maxRecDepth 100000 in
set_option maxHeartbeats 1600000 in
theorem refTimes_any (A B : Option Addr) (p g : List Fp.F) (n m c d : Nat) (w : World) (ha : Lies w A (Pol.vals p)) (hb : Lies w B (Pol.vals g)) (hn : n = p.length) (hm : m = g.length) (ln : n ≤ 40) (lm : m ≤ 40) :
    Calls Tryd.prog 18 #[.slice A n c, .slice B m d] w fun e w' => GivesRow (Pol.mul p g) w e w' := by
  have HA := Lib.hid ha
  have HB := Lib.hid hb
  have HN := Lib.hid hn
  have HM := Lib.hid hm
  clear ha hb hn hm
  go_enter Tryd.func18, Tryd.ntmps18
  go_wp2_with fail
  go_loopw [5, 6] (fun v i wr => ∃ (k : Nat) (A' : Option Addr) (l c' : Nat), k ≤ n ∧ i = .int .i64 (k : Int) ∧ v = .slice A' l c' ∧ l = (timesRows p g k).length ∧ Lies wr A' (Pol.vals (timesRows p g k)) ∧ l ≤ c' ∧ Kp w wr) (fun _ i _ => n - (intOf i).toNat)
  case atStart => exact ⟨0, Option.none, 0, 0, Nat.zero_le _, rfl, rfl, rfl, Lies.empty _ _, Nat.le_refl _, Kp.rfl' _⟩
  case round =>
    obtain ⟨k, A', l, c', hk, rfl, rfl, hl, hlies, hc, hkp⟩ := hrel
    have HL := Lib.hid hl
    have HLI := Lib.hid hlies
    have HK := Lib.hid hkp
    have LB := Lib.hid (len_timesRows p g k)
    have hlb : l ≤ 80 := by have := LB.out; have := HM.out; omega
    clear hl hlies hkp
    by_cases hlt : k < n
    · obtain ⟨ad, rfl, _, hcell⟩ := (HA.out.keep HK.out) k (by rw [Pol.len_vals, ← HN.out]; exact hlt)
      rw [Pol.vals_at] at hcell
      have a1 := Fp.val_bound (Pol.co p k)
      have PL := Lib.hid (refPlus_any A' B (timesRows p g k) g l m c' d ((Pol.co p k).val : Int) (Pol.co p k) k wr HLI.out (HB.out.keep HK.out) HL.out HM.out (by omega) (by omega) (by omega) (Fp.ofInt_self _) (by omega) (by omega))
      rw [← timesRows] at PL
      generalize ((Pol.co p k).val : Int) = av at *
      go_wp2_with fail
      refine (PL.out).mono ?_; rintro e w' ⟨A2, c2, rfl, l2, lc2, hk2⟩
      have L2 := Lib.hid l2
      have K2 := Lib.hid (HK.out.trans hk2)
      clear l2 hk2 PL
      go_wp2_with fail
      go_roundw
      case rel => exact ⟨k + 1, A2, _, c2, by omega, by go_num, rfl, rfl, L2.out, lc2, K2.out⟩
      case measure => simp [intOf]; omega
    · obtain rfl : k = n := by omega
      have E := Lib.hid (show Pol.trim (timesRows p g k) = Pol.mul p g from Pol.is_mul p g _ (by have := HN.out; omega) (by have := HM.out; omega) (by have := HL.out; omega) fun x => by
        rw [ev_timesRows, HN.out, List.take_length])
      have T := Lib.hid (refTrim_any A' (timesRows p g k) c' wr HLI.out (by rw [← HL.out]; exact hc) (by rw [← HL.out]; omega))
      have LT := Lib.hid (Pol.len_trim (timesRows p g k))
      have L := Lib.hid HLI.out.trim
      rw [E.out, ← HL.out] at T
      rw [E.out, ← HL.out] at LT
      rw [E.out] at L
      go_wp2_with fail
      refine (T.out).mono ?_; rintro e w' ⟨rfl, rfl⟩
      go_wp2_with fail
      go_ret
      exact ⟨A', c', rfl, L.out, Nat.le_trans LT.out hc, HK.out⟩

end Go.Proofs.YteaonlmiifpjfaaDoor
