/- What the laws of package poly share: Factors, Trim and Ints on rows of factors, the closed fact. -/
import Derived.Test.YteaonlmiifpjfaaDoorPolC4
import Derived.Test.YteaonlmiifpjfaaDoorSame
import Derived.Test.YteaonlmiifpjfaaDoorFldRef
namespace Go.Proofs.YteaonlmiifpjfaaDoor
open Go.ChangeShapes Go.WideShapes Go.ChangeAt Go.RowKit
set_option linter.unusedVariables false

theorem errOf_ne (c : Nat) (h : c ≠ 0) : errOf c = .iface 34 (.int .i64 (c : Int)) := by unfold errOf; rw [if_neg h]
theorem errOf_zero : errOf 0 = .nilIface := rfl

theorem code_all (l : List Int) (h : ¬ 12 < l.length) : (AllIn l 0 9972 ∧ Pol.code l = 0) ∨ (¬ AllIn l 0 9972 ∧ Pol.code l = 1) := by
  by_cases ha : AllIn l 0 9972
  · exact .inl ⟨ha, Pol.code_ok h ha⟩
  · refine .inr ⟨ha, ?_⟩
    rcases Pol.code_some l with e | e | e
    · exact absurd ((Pol.code_zero_iff l).1 e).2 ha
    · exact e
    · exfalso
      unfold Pol.code at e
      rw [if_neg h] at e
      split at e <;> cases e

theorem refTrim_any (A : Option Addr) (p : List Fp.F) (c : Nat) (w : World) (hl : Lies w A (Pol.vals p)) (hc : p.length ≤ c) (hn : p.length ≤ 1000000) :
    Calls Tryd.prog 28 #[.slice A p.length c] w fun e w' => e = .returned (.slice A (Pol.trim p).length c) ∧ w = w' := by
  have HL := Lib.hid hl
  obtain ⟨n, hn'⟩ : ∃ n, n = p.length := ⟨_, rfl⟩
  rw [← hn'] at hn hc ⊢
  have HN := Lib.hid hn'
  clear hl hn'
  go_enter Tryd.func28, Tryd.ntmps28
  go_wp2_with fail
  go_loop [3] (fun v => ∃ k : Nat, k ≤ n ∧ v = .int .i64 (k : Int) ∧ Pol.trim (p.take k) = Pol.trim p) (fun v => (intOf v).toNat)
  case atStart => exact ⟨n, Nat.le_refl _, rfl, by rw [HN.out, List.take_length]⟩
  case round =>
    obtain ⟨k, hk, rfl, ht⟩ := hrel
    have HT := Lib.hid ht
    clear ht
    have kc : (k : Int) ≤ (c : Int) := by omega
    cases k with
    | zero =>
      have E := Lib.hid (show Pol.trim p = [] by rw [← HT.out]; rfl)
      go_wp2_with fail
      go_ret
      exact ⟨by rw [E.out]; rfl, rfl⟩
    | succ k =>
      obtain ⟨ad, rfl, _, hcell⟩ := HL.out k (by rw [Pol.len_vals, ← HN.out]; omega)
      rw [Pol.vals_at] at hcell
      by_cases h0 : Pol.co p k = 0
      · have e0 : (((Pol.co p k).val : Int) == 0) = true := by rw [h0]; rfl
        have ST := Lib.hid (trim_step0 p k (by have := HN.out; omega) h0)
        generalize ((Pol.co p k).val : Int) = m at *
        clear h0
        go_wp2_with fail
        go_round
        case rel => exact ⟨k, by omega, by go_num, by rw [← ST.out]; exact HT.out⟩
        case measure => simp [intOf]
      · have e0 : (((Pol.co p k).val : Int) == 0) = false := by rw [beq_eq_false_iff_ne]; intro e; exact h0 (Fp.val_inj e)
        have E := Lib.hid (show Pol.trim p = p.take (k + 1) by rw [← HT.out, Pol.take_succ p k (by have := HN.out; omega), Pol.trim_not _ _ h0])
        have E2 := Lib.hid (show (p.take (k + 1)).length = k + 1 by rw [List.length_take]; have := HN.out; omega)
        generalize ((Pol.co p k).val : Int) = m at *
        clear h0
        go_wp2_with fail
        go_ret
        exact ⟨by rw [E.out, E2.out]; rfl, rfl⟩

/-- Two rows that are the same. -/
theorem ints_eq (A B : Option Addr) (p q : List Fp.F) (c d : Nat) (w : World) (ha : Lies w A (Pol.vals p)) (hb : Lies w B (Pol.vals q)) (hp : p.length ≤ 1000) (h : p = q) :
    Calls Tryd.prog 9 #[.slice A p.length c, .slice B q.length d] w fun e w' => e = .returned (.bool true) ∧ Kp w w' := by
  subst h
  have := ints_any A B (Pol.vals p) (Pol.vals p) c d w ha hb (by rw [Pol.len_vals]; omega) (by rw [Pol.len_vals]; omega)
  rw [Pol.len_vals] at this
  exact this.mono fun e w' ⟨ht, hk⟩ => ⟨tells_yes ht rfl, hk⟩
/-- The same, with the lengths as numbers. -/
theorem ints_eq' (A B : Option Addr) (p q : List Fp.F) (n m c d : Nat) (w : World) (ha : Lies w A (Pol.vals p)) (hb : Lies w B (Pol.vals q)) (hn : n = p.length) (hm : m = q.length) (hp : n ≤ 1000) (h : p = q) :
    Calls Tryd.prog 9 #[.slice A n c, .slice B m d] w fun e w' => e = .returned (.bool true) ∧ Kp w w' := by
  subst hn hm
  exact ints_eq A B p q c d w ha hb hp h

theorem fact_mul : Pol.mul [1, 1] [9972, 1] = [9972, 0, 1] := by decide +kernel
theorem fact_div (q r : List Fp.F) (h : Pol.Dv (Pol.trim [5, 0, 1]) (Pol.trim [1, 1]) q r) : q = [9972, 1] ∧ r = [6] := by
  rw [show Pol.trim [5, 0, 1] = [5, 0, 1] by decide +kernel, show Pol.trim [1, 1] = [1, 1] by decide +kernel] at h
  refine h.one (by unfold Pol.Tr; decide) (by simp) (by simp) ⟨by unfold Pol.Tr; decide, by unfold Pol.Tr; decide, by simp, by simp, fun x => ?_⟩
  simp only [Pol.ev_cons, Pol.ev_nil]
  grind

/-- The contracts, with the lengths as numbers. -/
theorem mul_ok' (A B : Option Addr) (p q : List Fp.F) (n m c d : Nat) (w : World) (ha : Lies w A (Pol.vals p)) (hb : Lies w B (Pol.vals q)) (hn : n = p.length) (hm : m = q.length) (hp : n ≤ 12) (hq : m ≤ 12) :
    Calls Tryd.prog 20 #[.slice A n c, .slice B m d] w fun e w' => Gives (Pol.mul p q) w e w' := by subst hn hm; exact mul_ok A B p q c d w ha hb hp hq
theorem add_ok' (A B : Option Addr) (p q : List Fp.F) (n m c d : Nat) (w : World) (ha : Lies w A (Pol.vals p)) (hb : Lies w B (Pol.vals q)) (hn : n = p.length) (hm : m = q.length) (hp : n ≤ 12) (hq : m ≤ 12) :
    Calls Tryd.prog 22 #[.slice A n c, .slice B m d] w fun e w' => Gives (Pol.add p q) w e w' := by subst hn hm; exact add_ok A B p q c d w ha hb hp hq
theorem trim_ok' (A : Option Addr) (p : List Fp.F) (n c : Nat) (w : World) (hl : Lies w A (Pol.vals p)) (hn : n = p.length) (hc : n ≤ c) (hp : n ≤ 12) :
    Calls Tryd.prog 28 #[.slice A n c] w fun e w' => e = .returned (.slice A (Pol.trim p).length c) ∧ w = w' := by subst hn; exact refTrim_any A p c w hl hc (by omega)

end Go.Proofs.YteaonlmiifpjfaaDoor
