/- The law PolySays: the program and the document's answer agree. Written by wip/tools/gen_PolSays.py. -/
import Derived.Test.YtakhnacfnobldaaDoorPolRefD
import Derived.Test.YtakhnacfnobldaaDoorErrK
namespace Go.Proofs.YtakhnacfnobldaaDoor
open Go.ChangeShapes Go.WideShapes Go.ChangeAt Go.RowKit
set_option linter.unusedVariables false

/-- Error says yes to the error that is told. -/
theorem error_says (c : Nat) (w : World) (hl : Told.Laid w) (hc : c ≤ 100) :
    Calls Tryd.prog 5 #[errOf c, .int .i64 (c : Int)] w fun e w' => e = .returned (.bool true) ∧ Kp w w' := by
  by_cases h : c = 0
  · subst h; exact errorK_nil 0 w true rfl
  · rw [errOf_ne c h]
    exact errorK_hit c c w hl (by omega) true (by simp)

theorem place (x : Int) : (∃ a : Fp.F, x = (a.val : Int)) ∨ ¬ (0 ≤ x ∧ x ≤ 9972) := by
  by_cases h : 0 ≤ x ∧ x ≤ 9972
  · exact .inl ⟨Fp.ofInt x, (Fp.ofInt_of x h.1 h.2).symm⟩
  · exact .inr h
theorem div_null' (A B : Option Addr) (p q : List Fp.F) (n m c d : Nat) (w : World) (ha : Lies w A (Pol.vals p)) (hb : Lies w B (Pol.vals q)) (hn : n = p.length) (hm : m = q.length) (hp : n ≤ 12) (hq : m ≤ 12) (hd : m ≤ d) (h : Pol.trim q = []) :
    Calls Tryd.prog 16 #[.slice A n c, .slice B m d] w fun e w' => Fails2 5 w e w' := by subst hn hm; exact div_null A B p q c d w ha hb hp hq hd h
theorem sum_same (p q : List Fp.F) (lp : p.length ≤ 12) (lq : q.length ≤ 12) : Pol.add p q = Pol.plus p q 1 0 := by
  have h1 := Pol.len_add p q
  have h2 := Pol.len_plus p q 1 0
  exact Pol.same _ _ (Pol.tr_add _ _) (Pol.tr_plus _ _ _ _) (by omega) (by omega) fun x => by rw [Pol.ev_add, Pol.ev_plus, Fp.pw_zero]; grind
theorem len_z {p q z : List Fp.F} (lp : p.length ≤ 12) (lq : q.length ≤ 12) (h : Pol.Gc (Pol.trim p) (Pol.trim q) z) : (Pol.mon z).length ≤ 1000 := by
  have h1 := Pol.len_trim p
  have h2 := Pol.len_trim q
  have := (h.facts (Pol.tr_trim p) (Pol.tr_trim q) (by omega) (by omega)).2.1
  rw [Pol.len_mon]; exact this
theorem dv_short {p q u r : List Fp.F} (lp : p.length ≤ 12) (lq : q.length ≤ 12) (h : Pol.Dv (Pol.trim p) (Pol.trim q) u r) : u.length ≤ 1000 ∧ r.length ≤ 1000 := by
  have h1 := Pol.len_trim p
  have h2 := Pol.len_trim q
  have := h.lq
  have := h.lt
  omega

set_option maxRecDepth 100000 in
set_option maxHeartbeats 3200000 in
theorem says_B (A B : Option Addr) (f g : List Int) (ca cb : Nat) (x : Int) (w : World) (hl : Told.Laid w) (ha : Lies w A f) (hb : Lies w B g) (bad : Pol.code f ≠ 0) :
    Calls Tryd.prog 3 #[.slice A f.length ca, .slice B g.length cb, .int .i64 x] w fun e w' => e = .returned (.bool true) ∧ Kp w w' := by
  have HL := Lib.hid hl
  have HA := Lib.hid ha
  have HB := Lib.hid hb
  have e2 : Pol.code2 f g = Pol.code f := by unfold Pol.code2; rw [if_neg bad]
  have e3 : atCode f x = Pol.code f := by unfold atCode; rw [if_neg bad]
  have FF := Lib.hid (fun w ha => refFactors_any A f ca w ha)
  have CF := Lib.hid (fun w ha => check_any A f ca w ha)
  have ADD := Lib.hid (fun w ha hb => add_bad A B f g ca cb w ha hb (by rw [e2]; exact bad))
  have MUL := Lib.hid (fun w ha hb => mul_bad A B f g ca cb w ha hb (by rw [e2]; exact bad))
  have GCD := Lib.hid (fun w ha hb => gcd_bad A B f g ca cb w ha hb (by rw [e2]; exact bad))
  have DIV := Lib.hid (fun w ha hb => div_bad A B f g ca cb w ha hb (by rw [e2]; exact bad))
  have AT := Lib.hid (fun w ha => at_bad A f ca x w ha (by rw [e3]; exact bad))
  have HC := Lib.hid (show Pol.code f ≤ 100 by rcases Pol.code_some f with h | h | h <;> omega)
  rw [e2] at ADD MUL GCD DIV
  rw [e3] at AT
  have c0 : ((Pol.code f : Int) == 0) = false := by rw [beq_eq_false_iff_ne]; omega
  clear e2 e3 hl ha hb
  generalize Pol.code f = c at *
  generalize f.length = nf at *
  generalize g.length = ng at *
  go_enter Tryd.func3, Tryd.ntmps3
  go_wp2_with fail
  refine (FF.out _ HA.out).mono ?_; rintro e w' ⟨rfl, rfl⟩
  go_wp2_with fail
  refine (CF.out _ HA.out).mono ?_; rintro e w' ⟨rfl, rfl⟩
  go_wp2_with fail
  have T0 := Lib.hid (Kp.rfl' w)
  refine (error_says c _ (laid_kp HL.out T0.out) HC.out).mono ?_; rintro e w1 ⟨rfl, hk⟩
  have T1 := Lib.hid (T0.out.trans hk)
  clear hk
  go_wp2_with fail
  refine (ADD.out _ (HA.out.keep T1.out) (HB.out.keep T1.out)).mono ?_; rintro e w2 ⟨rfl, hk⟩
  have T2 := Lib.hid (T1.out.trans hk)
  clear hk
  go_wp2_with fail
  refine (error_says c _ (laid_kp HL.out T2.out) HC.out).mono ?_; rintro e w3 ⟨rfl, hk⟩
  have T3 := Lib.hid (T2.out.trans hk)
  clear hk
  go_wp2_with fail
  refine (ints_eq' Option.none Option.none [] [] 0 0 0 0 _ (Lies.empty _ _) (Lies.empty _ _) rfl rfl (by decide) rfl).mono ?_; rintro e w4 ⟨rfl, hk⟩
  have T4 := Lib.hid (T3.out.trans hk)
  clear hk
  go_wp2_with fail
  refine (MUL.out _ (HA.out.keep T4.out) (HB.out.keep T4.out)).mono ?_; rintro e w5 ⟨rfl, hk⟩
  have T5 := Lib.hid (T4.out.trans hk)
  clear hk
  go_wp2_with fail
  refine (error_says c _ (laid_kp HL.out T5.out) HC.out).mono ?_; rintro e w6 ⟨rfl, hk⟩
  have T6 := Lib.hid (T5.out.trans hk)
  clear hk
  go_wp2_with fail
  refine (ints_eq' Option.none Option.none [] [] 0 0 0 0 _ (Lies.empty _ _) (Lies.empty _ _) rfl rfl (by decide) rfl).mono ?_; rintro e w7 ⟨rfl, hk⟩
  have T7 := Lib.hid (T6.out.trans hk)
  clear hk
  go_wp2_with fail
  refine (GCD.out _ (HA.out.keep T7.out) (HB.out.keep T7.out)).mono ?_; rintro e w8 ⟨rfl, hk⟩
  have T8 := Lib.hid (T7.out.trans hk)
  clear hk
  go_wp2_with fail
  refine (error_says c _ (laid_kp HL.out T8.out) HC.out).mono ?_; rintro e w9 ⟨rfl, hk⟩
  have T9 := Lib.hid (T8.out.trans hk)
  clear hk
  go_wp2_with fail
  refine (ints_eq' Option.none Option.none [] [] 0 0 0 0 _ (Lies.empty _ _) (Lies.empty _ _) rfl rfl (by decide) rfl).mono ?_; rintro e w10 ⟨rfl, hk⟩
  have T10 := Lib.hid (T9.out.trans hk)
  clear hk
  go_wp2_with fail
  refine (DIV.out _ (HA.out.keep T10.out) (HB.out.keep T10.out)).mono ?_; rintro e w11 ⟨rfl, hk⟩
  have T11 := Lib.hid (T10.out.trans hk)
  clear hk
  go_wp2_with fail
  refine (error_says c _ (laid_kp HL.out T11.out) HC.out).mono ?_; rintro e w12 ⟨rfl, hk⟩
  have T12 := Lib.hid (T11.out.trans hk)
  clear hk
  go_wp2_with fail
  refine (ints_eq' Option.none Option.none [] [] 0 0 0 0 _ (Lies.empty _ _) (Lies.empty _ _) rfl rfl (by decide) rfl).mono ?_; rintro e w13 ⟨rfl, hk⟩
  have T13 := Lib.hid (T12.out.trans hk)
  clear hk
  go_wp2_with fail
  refine (ints_eq' Option.none Option.none [] [] 0 0 0 0 _ (Lies.empty _ _) (Lies.empty _ _) rfl rfl (by decide) rfl).mono ?_; rintro e w14 ⟨rfl, hk⟩
  have T14 := Lib.hid (T13.out.trans hk)
  clear hk
  go_wp2_with fail
  refine (AT.out _ (HA.out.keep T14.out)).mono ?_; rintro e w' ⟨rfl, rfl⟩
  go_wp2_with fail
  refine (error_says c _ (laid_kp HL.out T14.out) HC.out).mono ?_; rintro e w15 ⟨rfl, hk⟩
  have T15 := Lib.hid (T14.out.trans hk)
  clear hk
  go_wp2_with fail
  go_ret
  exact ⟨by simp [go_sem], T15.out⟩

set_option maxRecDepth 100000 in
set_option maxHeartbeats 3200000 in
theorem says_A2 (A B : Option Addr) (p : List Fp.F) (g : List Int) (ca cb : Nat) (x : Int) (w : World) (hl : Told.Laid w) (ha : Lies w A (Pol.vals p)) (hb : Lies w B g) (lp : p.length ≤ 12) (bad : Pol.code g ≠ 0) :
    Calls Tryd.prog 3 #[.slice A p.length ca, .slice B g.length cb, .int .i64 x] w fun e w' => e = .returned (.bool true) ∧ Kp w w' := by
  have HL := Lib.hid hl
  have HA := Lib.hid ha
  have HB := Lib.hid hb
  have e1 := Pol.code_vals p lp
  have e2 : Pol.code2 (Pol.vals p) g = Pol.code g := by unfold Pol.code2; rw [if_pos e1]
  have FF := Lib.hid (fun w ha => refFactors_any A (Pol.vals p) ca w ha)
  have CF := Lib.hid (fun w ha => check_any A (Pol.vals p) ca w ha)
  have FG := Lib.hid (fun w ha => refFactors_any B g cb w ha)
  have ADD := Lib.hid (fun w ha hb => add_bad A B (Pol.vals p) g ca cb w ha hb (by rw [e2]; exact bad))
  have MUL := Lib.hid (fun w ha hb => mul_bad A B (Pol.vals p) g ca cb w ha hb (by rw [e2]; exact bad))
  have GCD := Lib.hid (fun w ha hb => gcd_bad A B (Pol.vals p) g ca cb w ha hb (by rw [e2]; exact bad))
  have DIV := Lib.hid (fun w ha hb => div_bad A B (Pol.vals p) g ca cb w ha hb (by rw [e2]; exact bad))
  have HC := Lib.hid (show Pol.code g ≤ 100 by rcases Pol.code_some g with h | h | h <;> omega)
  rw [e2, Pol.len_vals] at ADD MUL GCD DIV
  rw [e1, Pol.len_vals] at FF CF
  have c0 : ((Pol.code g : Int) == 0) = false := by rw [beq_eq_false_iff_ne]; omega
  clear e1 e2 hl ha hb
  obtain ⟨nf, hnf⟩ : ∃ n, n = p.length := ⟨_, rfl⟩
  have lf : nf ≤ 12 := by omega
  rw [← hnf] at FF CF ADD MUL GCD DIV ⊢
  clear lp
  have HF := Lib.hid hnf
  clear hnf
  generalize Pol.code g = c at *
  generalize g.length = ng at *
  go_enter Tryd.func3, Tryd.ntmps3
  go_wp2_with fail
  refine (FF.out _ HA.out).mono ?_; rintro e w' ⟨rfl, rfl⟩
  go_wp2_with fail
  refine (CF.out _ HA.out).mono ?_; rintro e w' ⟨rfl, rfl⟩
  rw [errOf_zero]
  go_wp2_with fail
  have T0 := Lib.hid (Kp.rfl' w)
  refine (errorK_nil 0 _ true rfl).mono ?_; rintro e w1 ⟨rfl, hk⟩
  have T1 := Lib.hid (T0.out.trans hk)
  clear hk
  go_wp2_with fail
  refine (FG.out _ (HB.out.keep T1.out)).mono ?_; rintro e w' ⟨rfl, rfl⟩
  go_wp2_with fail
  refine (ADD.out _ (HA.out.keep T1.out) (HB.out.keep T1.out)).mono ?_; rintro e w2 ⟨rfl, hk⟩
  have T2 := Lib.hid (T1.out.trans hk)
  clear hk
  go_wp2_with fail
  refine (error_says c _ (laid_kp HL.out T2.out) HC.out).mono ?_; rintro e w3 ⟨rfl, hk⟩
  have T3 := Lib.hid (T2.out.trans hk)
  clear hk
  go_wp2_with fail
  refine (ints_eq' Option.none Option.none [] [] 0 0 0 0 _ (Lies.empty _ _) (Lies.empty _ _) rfl rfl (by decide) rfl).mono ?_; rintro e w4 ⟨rfl, hk⟩
  have T4 := Lib.hid (T3.out.trans hk)
  clear hk
  go_wp2_with fail
  refine (MUL.out _ (HA.out.keep T4.out) (HB.out.keep T4.out)).mono ?_; rintro e w5 ⟨rfl, hk⟩
  have T5 := Lib.hid (T4.out.trans hk)
  clear hk
  go_wp2_with fail
  refine (error_says c _ (laid_kp HL.out T5.out) HC.out).mono ?_; rintro e w6 ⟨rfl, hk⟩
  have T6 := Lib.hid (T5.out.trans hk)
  clear hk
  go_wp2_with fail
  refine (ints_eq' Option.none Option.none [] [] 0 0 0 0 _ (Lies.empty _ _) (Lies.empty _ _) rfl rfl (by decide) rfl).mono ?_; rintro e w7 ⟨rfl, hk⟩
  have T7 := Lib.hid (T6.out.trans hk)
  clear hk
  go_wp2_with fail
  refine (GCD.out _ (HA.out.keep T7.out) (HB.out.keep T7.out)).mono ?_; rintro e w8 ⟨rfl, hk⟩
  have T8 := Lib.hid (T7.out.trans hk)
  clear hk
  go_wp2_with fail
  refine (error_says c _ (laid_kp HL.out T8.out) HC.out).mono ?_; rintro e w9 ⟨rfl, hk⟩
  have T9 := Lib.hid (T8.out.trans hk)
  clear hk
  go_wp2_with fail
  refine (ints_eq' Option.none Option.none [] [] 0 0 0 0 _ (Lies.empty _ _) (Lies.empty _ _) rfl rfl (by decide) rfl).mono ?_; rintro e w10 ⟨rfl, hk⟩
  have T10 := Lib.hid (T9.out.trans hk)
  clear hk
  go_wp2_with fail
  refine (DIV.out _ (HA.out.keep T10.out) (HB.out.keep T10.out)).mono ?_; rintro e w11 ⟨rfl, hk⟩
  have T11 := Lib.hid (T10.out.trans hk)
  clear hk
  go_wp2_with fail
  refine (error_says c _ (laid_kp HL.out T11.out) HC.out).mono ?_; rintro e w12 ⟨rfl, hk⟩
  have T12 := Lib.hid (T11.out.trans hk)
  clear hk
  go_wp2_with fail
  refine (ints_eq' Option.none Option.none [] [] 0 0 0 0 _ (Lies.empty _ _) (Lies.empty _ _) rfl rfl (by decide) rfl).mono ?_; rintro e w13 ⟨rfl, hk⟩
  have T13 := Lib.hid (T12.out.trans hk)
  clear hk
  go_wp2_with fail
  refine (ints_eq' Option.none Option.none [] [] 0 0 0 0 _ (Lies.empty _ _) (Lies.empty _ _) rfl rfl (by decide) rfl).mono ?_; rintro e w14 ⟨rfl, hk⟩
  have T14 := Lib.hid (T13.out.trans hk)
  clear hk
  go_wp2_with fail
  rcases place x with ⟨a, rfl⟩ | hx
  · have x1 := Fp.val_bound a
    refine (lawIn_any (a.val : Int) 0 9972 _ true (by simp; omega)).mono ?_; rintro e w' ⟨rfl, rfl⟩
    go_wp2_with fail
    refine (refAt_any A p nf ca a _ (HA.out.keep T14.out) HF.out (by omega)).mono ?_; rintro e w15 ⟨rfl, hk⟩
    have T15 := Lib.hid (T14.out.trans hk)
    clear hk
    go_wp2_with fail
    refine (at_ok' A p nf ca a _ (HA.out.keep T15.out) HF.out lf).mono ?_; rintro e w' ⟨rfl, rfl⟩
    go_wp2_with fail
    refine (errorK_nil 0 _ true rfl).mono ?_; rintro e w16 ⟨rfl, hk⟩
    have T16 := Lib.hid (T15.out.trans hk)
    clear hk
    go_wp2_with fail
    go_ret
    exact ⟨by simp [go_sem], T16.out⟩
  · have HX := Lib.hid hx
    have AB := Lib.hid (show ∀ w, Lies w A (Pol.vals p) → Calls Tryd.prog 19 #[.slice A nf ca, .int .i64 x] w fun e w' => e = .returned (.tuple #[.int .i64 0, errOf 1]) ∧ w = w' from fun w ha => by
      have e : atCode (Pol.vals p) x = 1 := by unfold atCode; rw [if_pos (Pol.code_vals p (by have := HF.out; omega)), if_neg HX.out]
      have h := at_bad A (Pol.vals p) ca x w ha (by rw [e]; decide)
      rw [e, Pol.len_vals, ← HF.out] at h; exact h)
    refine (lawIn_any x 0 9972 _ false (by have := HX.out; simp; omega)).mono ?_; rintro e w' ⟨rfl, rfl⟩
    go_wp2_with fail
    refine (AB.out _ (HA.out.keep T14.out)).mono ?_; rintro e w' ⟨rfl, rfl⟩
    go_wp2_with fail
    refine (error_says 1 _ (laid_kp HL.out T14.out) (by decide)).mono ?_; rintro e w15 ⟨rfl, hk⟩
    have T15 := Lib.hid (T14.out.trans hk)
    clear hk
    go_wp2_with fail
    go_ret
    exact ⟨by simp [go_sem], T15.out⟩

set_option maxRecDepth 100000 in
set_option maxHeartbeats 6400000 in
theorem says_A1a (A B : Option Addr) (p q : List Fp.F) (ca cb : Nat) (x : Int) (w : World) (hl : Told.Laid w) (ha : Lies w A (Pol.vals p)) (hb : Lies w B (Pol.vals q)) (lp : p.length ≤ 12) (lq : q.length ≤ 12) (hca : p.length ≤ ca) (hcb : q.length ≤ cb) (q0 : Pol.trim q ≠ []) :
    Calls Tryd.prog 3 #[.slice A p.length ca, .slice B q.length cb, .int .i64 x] w fun e w' => e = .returned (.bool true) ∧ Kp w w' := by
  have HL := Lib.hid hl
  have HA := Lib.hid ha
  have HB := Lib.hid hb
  have Q0 := Lib.hid q0
  have FF := Lib.hid (fun w ha => refFactors_any A (Pol.vals p) ca w ha)
  have CF := Lib.hid (fun w ha => check_any A (Pol.vals p) ca w ha)
  have FG := Lib.hid (fun w ha => refFactors_any B (Pol.vals q) cb w ha)
  have RTG := Lib.hid (fun w ha => trim_ok' B q q.length cb w ha rfl hcb lq)
  rw [Pol.code_vals p lp, Pol.len_vals] at FF CF
  rw [Pol.code_vals q lq, Pol.len_vals] at FG
  have EQS := Lib.hid (sum_same p q lp lq)
  have h1 := Pol.len_trim p
  have h2 := Pol.len_trim q
  have GONE := Lib.hid (fun z z' (h : Pol.Gc (Pol.trim p) (Pol.trim q) z) h' => h.one (c' := z') (Pol.tr_trim q) (by omega) (by omega) h')
  have DONE := Lib.hid (fun u r u' r' (h : Pol.Dv (Pol.trim p) (Pol.trim q) u r) h' => h.one (q' := u') (r' := r') (Pol.tr_trim q) (by omega) (by omega) h')
  obtain ⟨kq, hkq⟩ : ∃ k, (Pol.trim q).length = k + 1 := ⟨(Pol.trim q).length - 1, by have := List.length_pos_iff.2 q0; omega⟩
  rw [hkq] at RTG
  have hk0 : ((kq : Int) + 1 == 0) = false := by rw [beq_eq_false_iff_ne]; omega
  clear hl ha hb q0 h1 h2 hkq
  obtain ⟨nf, hnf⟩ : ∃ n, n = p.length := ⟨_, rfl⟩
  obtain ⟨ng, hng⟩ : ∃ n, n = q.length := ⟨_, rfl⟩
  have lf : nf ≤ 12 := by omega
  have lg : ng ≤ 12 := by omega
  rw [← hnf] at hca FF CF ⊢
  rw [← hng] at hcb FG RTG ⊢
  clear lp lq
  have HF := Lib.hid hnf
  have HG := Lib.hid hng
  clear hnf hng
  go_enter Tryd.func3, Tryd.ntmps3
  go_wp2_with fail
  refine (FF.out _ HA.out).mono ?_; rintro e w' ⟨rfl, rfl⟩
  go_wp2_with fail
  refine (CF.out _ HA.out).mono ?_; rintro e w' ⟨rfl, rfl⟩
  rw [errOf_zero]
  go_wp2_with fail
  have T0 := Lib.hid (Kp.rfl' w)
  refine (errorK_nil 0 _ true rfl).mono ?_; rintro e w1 ⟨rfl, hk⟩
  have T1 := Lib.hid (T0.out.trans hk)
  clear hk
  go_wp2_with fail
  refine (FG.out _ (HB.out.keep T1.out)).mono ?_; rintro e w' ⟨rfl, rfl⟩
  go_wp2_with fail
  refine (refPlus_at A B p q nf ng ca cb 1 0 1 0 _ (HA.out.keep T1.out) (HB.out.keep T1.out) HF.out HG.out (by omega) (by omega) (by omega) (by rfl) (by omega) (by omega) rfl).mono ?_; rintro e w2 ⟨As, cs, rfl, l, _, hk⟩
  have LS := Lib.hid l
  clear l
  have T2 := Lib.hid (T1.out.trans hk)
  clear hk
  go_wp2_with fail
  refine (refTimes_any A B p q nf ng ca cb _ (HA.out.keep T2.out) (HB.out.keep T2.out) HF.out HG.out (by omega) (by omega)).mono ?_; rintro e w3 ⟨Ap, cp, rfl, l, _, hk⟩
  have LP := Lib.hid l
  clear l
  have LS := Lib.hid (LS.out.keep hk)
  have T3 := Lib.hid (T2.out.trans hk)
  clear hk
  go_wp2_with fail
  refine (refCommon_any 40 A B p q nf ng ca cb _ (by have := Pol.len_trim q; have := HG.out; omega) (HA.out.keep T3.out) (HB.out.keep T3.out) HF.out HG.out (by omega) (by omega) hca hcb).mono ?_; rintro e w4 ⟨z, gc, Ac, cc, rfl, l, _, hk⟩
  have LC := Lib.hid l
  have GC := Lib.hid gc
  clear l gc
  have LS := Lib.hid (LS.out.keep hk)
  have LP := Lib.hid (LP.out.keep hk)
  have T4 := Lib.hid (T3.out.trans hk)
  clear hk
  go_wp2_with fail
  refine (add_ok' A B p q nf ng ca cb _ (HA.out.keep T4.out) (HB.out.keep T4.out) HF.out HG.out lf lg).mono ?_; rintro e w5 ⟨A1, c1, rfl, l, _, hk⟩
  have LR := Lib.hid l
  clear l
  have LS := Lib.hid (LS.out.keep hk)
  have LP := Lib.hid (LP.out.keep hk)
  have LC := Lib.hid (LC.out.keep hk)
  have T5 := Lib.hid (T4.out.trans hk)
  clear hk
  go_wp2_with fail
  refine (errorK_nil 0 _ true rfl).mono ?_; rintro e w6 ⟨rfl, hk⟩
  have LS := Lib.hid (LS.out.keep hk)
  have LP := Lib.hid (LP.out.keep hk)
  have LC := Lib.hid (LC.out.keep hk)
  have LR := Lib.hid (LR.out.keep hk)
  have T6 := Lib.hid (T5.out.trans hk)
  clear hk
  go_wp2_with fail
  refine (ints_eq' A1 As (Pol.add p q) (Pol.plus p q 1 0) _ _ _ _ _ LR.out LS.out rfl rfl (by have := Pol.len_add p q; have := HF.out; have := HG.out; omega) EQS.out).mono ?_; rintro e w7 ⟨rfl, hk⟩
  have LS := Lib.hid (LS.out.keep hk)
  have LP := Lib.hid (LP.out.keep hk)
  have LC := Lib.hid (LC.out.keep hk)
  have LR := Lib.hid (LR.out.keep hk)
  have T7 := Lib.hid (T6.out.trans hk)
  clear hk
  go_wp2_with fail
  refine (mul_ok' A B p q nf ng ca cb _ (HA.out.keep T7.out) (HB.out.keep T7.out) HF.out HG.out lf lg).mono ?_; rintro e w8 ⟨A2, c2, rfl, l, _, hk⟩
  have LR := Lib.hid l
  clear l
  have LP := Lib.hid (LP.out.keep hk)
  have LC := Lib.hid (LC.out.keep hk)
  have T8 := Lib.hid (T7.out.trans hk)
  clear hk
  go_wp2_with fail
  refine (errorK_nil 0 _ true rfl).mono ?_; rintro e w9 ⟨rfl, hk⟩
  have LP := Lib.hid (LP.out.keep hk)
  have LC := Lib.hid (LC.out.keep hk)
  have LR := Lib.hid (LR.out.keep hk)
  have T9 := Lib.hid (T8.out.trans hk)
  clear hk
  go_wp2_with fail
  refine (ints_eq' A2 Ap (Pol.mul p q) (Pol.mul p q) _ _ _ _ _ LR.out LP.out rfl rfl (by have := Pol.len_mul p q; have := HF.out; have := HG.out; omega) rfl).mono ?_; rintro e w10 ⟨rfl, hk⟩
  have LP := Lib.hid (LP.out.keep hk)
  have LC := Lib.hid (LC.out.keep hk)
  have LR := Lib.hid (LR.out.keep hk)
  have T10 := Lib.hid (T9.out.trans hk)
  clear hk
  go_wp2_with fail
  refine (gcd_ok' A B p q nf ng ca cb _ (HA.out.keep T10.out) (HB.out.keep T10.out) HF.out HG.out lf lg hca hcb).mono ?_; rintro e w11 ⟨z', gc', A3, c3, rfl, l, _, hk⟩
  obtain rfl := GONE.out _ _ GC.out gc'
  have LR := Lib.hid l
  have LZ := Lib.hid (len_z (by have := HF.out; omega) (by have := HG.out; omega) gc')
  clear l gc'
  have LC := Lib.hid (LC.out.keep hk)
  have T11 := Lib.hid (T10.out.trans hk)
  clear hk
  go_wp2_with fail
  refine (errorK_nil 0 _ true rfl).mono ?_; rintro e w12 ⟨rfl, hk⟩
  have LC := Lib.hid (LC.out.keep hk)
  have LR := Lib.hid (LR.out.keep hk)
  have T12 := Lib.hid (T11.out.trans hk)
  clear hk
  go_wp2_with fail
  refine (ints_eq' A3 Ac (Pol.mon z) (Pol.mon z) _ _ _ _ _ LR.out LC.out rfl rfl LZ.out rfl).mono ?_; rintro e w13 ⟨rfl, hk⟩
  have LC := Lib.hid (LC.out.keep hk)
  have LR := Lib.hid (LR.out.keep hk)
  have T13 := Lib.hid (T12.out.trans hk)
  clear hk
  go_wp2_with fail
  refine (RTG.out _ (HB.out.keep T13.out)).mono ?_; rintro e w' ⟨rfl, rfl⟩
  go_wp2_with fail
  refine (refDivide_any A B p q nf ng ca cb _ (HA.out.keep T13.out) (HB.out.keep T13.out) HF.out HG.out (by omega) (by omega) hca hcb Q0.out).mono ?_; rintro e w14 ⟨u, r, dv, A4, c4, A5, c5, rfl, l1, _, l2, _, hk⟩
  have LU := Lib.hid l1
  have LR := Lib.hid l2
  have DV := Lib.hid dv
  clear l1 l2 dv
  have T14 := Lib.hid (T13.out.trans hk)
  clear hk
  go_wp2_with fail
  refine (div_ok' A B p q nf ng ca cb _ (HA.out.keep T14.out) (HB.out.keep T14.out) HF.out HG.out lf lg hca hcb Q0.out).mono ?_; rintro e w15 ⟨u', r', dv, A6, c6, A7, c7, rfl, l1, _, l2, _, hk⟩
  obtain ⟨rfl, rfl⟩ := DONE.out _ _ _ _ DV.out dv
  have LU2 := Lib.hid l1
  have LR2 := Lib.hid l2
  have LNU := Lib.hid (dv_short (by have := HF.out; omega) (by have := HG.out; omega) dv)
  clear l1 l2 dv
  have LU := Lib.hid (LU.out.keep hk)
  have LR := Lib.hid (LR.out.keep hk)
  have T15 := Lib.hid (T14.out.trans hk)
  clear hk
  go_wp2_with fail
  refine (errorK_nil 0 _ true rfl).mono ?_; rintro e w16 ⟨rfl, hk⟩
  have LU := Lib.hid (LU.out.keep hk)
  have LR := Lib.hid (LR.out.keep hk)
  have LU2 := Lib.hid (LU2.out.keep hk)
  have LR2 := Lib.hid (LR2.out.keep hk)
  have T16 := Lib.hid (T15.out.trans hk)
  clear hk
  go_wp2_with fail
  refine (ints_eq' A6 A4 u u _ _ _ _ _ LU2.out LU.out rfl rfl LNU.out.1 rfl).mono ?_; rintro e w17 ⟨rfl, hk⟩
  have LU := Lib.hid (LU.out.keep hk)
  have LR := Lib.hid (LR.out.keep hk)
  have LU2 := Lib.hid (LU2.out.keep hk)
  have LR2 := Lib.hid (LR2.out.keep hk)
  have T17 := Lib.hid (T16.out.trans hk)
  clear hk
  go_wp2_with fail
  refine (ints_eq' A7 A5 r r _ _ _ _ _ LR2.out LR.out rfl rfl LNU.out.2 rfl).mono ?_; rintro e w18 ⟨rfl, hk⟩
  have LR := Lib.hid (LR.out.keep hk)
  have LR2 := Lib.hid (LR2.out.keep hk)
  have T18 := Lib.hid (T17.out.trans hk)
  clear hk
  go_wp2_with fail
  rcases place x with ⟨a, rfl⟩ | hx
  · have x1 := Fp.val_bound a
    refine (lawIn_any (a.val : Int) 0 9972 _ true (by simp; omega)).mono ?_; rintro e w' ⟨rfl, rfl⟩
    go_wp2_with fail
    refine (refAt_any A p nf ca a _ (HA.out.keep T18.out) HF.out (by omega)).mono ?_; rintro e w19 ⟨rfl, hk⟩
    have T19 := Lib.hid (T18.out.trans hk)
    clear hk
    go_wp2_with fail
    refine (at_ok' A p nf ca a _ (HA.out.keep T19.out) HF.out lf).mono ?_; rintro e w' ⟨rfl, rfl⟩
    go_wp2_with fail
    refine (errorK_nil 0 _ true rfl).mono ?_; rintro e w20 ⟨rfl, hk⟩
    have T20 := Lib.hid (T19.out.trans hk)
    clear hk
    go_wp2_with fail
    go_ret
    exact ⟨by simp [go_sem], T20.out⟩
  · have HX := Lib.hid hx
    have AB := Lib.hid (show ∀ w, Lies w A (Pol.vals p) → Calls Tryd.prog 19 #[.slice A nf ca, .int .i64 x] w fun e w' => e = .returned (.tuple #[.int .i64 0, errOf 1]) ∧ w = w' from fun w ha => by
      have e : atCode (Pol.vals p) x = 1 := by unfold atCode; rw [if_pos (Pol.code_vals p (by have := HF.out; omega)), if_neg HX.out]
      have h := at_bad A (Pol.vals p) ca x w ha (by rw [e]; decide)
      rw [e, Pol.len_vals, ← HF.out] at h; exact h)
    refine (lawIn_any x 0 9972 _ false (by have := HX.out; simp; omega)).mono ?_; rintro e w' ⟨rfl, rfl⟩
    go_wp2_with fail
    refine (AB.out _ (HA.out.keep T18.out)).mono ?_; rintro e w' ⟨rfl, rfl⟩
    go_wp2_with fail
    refine (error_says 1 _ (laid_kp HL.out T18.out) (by decide)).mono ?_; rintro e w19 ⟨rfl, hk⟩
    have T19 := Lib.hid (T18.out.trans hk)
    clear hk
    go_wp2_with fail
    go_ret
    exact ⟨by simp [go_sem], T19.out⟩

set_option maxRecDepth 100000 in
set_option maxHeartbeats 6400000 in
theorem says_A1b (A B : Option Addr) (p q : List Fp.F) (ca cb : Nat) (x : Int) (w : World) (hl : Told.Laid w) (ha : Lies w A (Pol.vals p)) (hb : Lies w B (Pol.vals q)) (lp : p.length ≤ 12) (lq : q.length ≤ 12) (hca : p.length ≤ ca) (hcb : q.length ≤ cb) (q0 : Pol.trim q = []) :
    Calls Tryd.prog 3 #[.slice A p.length ca, .slice B q.length cb, .int .i64 x] w fun e w' => e = .returned (.bool true) ∧ Kp w w' := by
  have HL := Lib.hid hl
  have HA := Lib.hid ha
  have HB := Lib.hid hb
  have Q0 := Lib.hid q0
  have FF := Lib.hid (fun w ha => refFactors_any A (Pol.vals p) ca w ha)
  have CF := Lib.hid (fun w ha => check_any A (Pol.vals p) ca w ha)
  have FG := Lib.hid (fun w ha => refFactors_any B (Pol.vals q) cb w ha)
  have RTG := Lib.hid (fun w ha => trim_ok' B q q.length cb w ha rfl hcb lq)
  rw [Pol.code_vals p lp, Pol.len_vals] at FF CF
  rw [Pol.code_vals q lq, Pol.len_vals] at FG
  have EQS := Lib.hid (sum_same p q lp lq)
  have h1 := Pol.len_trim p
  have h2 := Pol.len_trim q
  have GONE := Lib.hid (fun z z' (h : Pol.Gc (Pol.trim p) (Pol.trim q) z) h' => h.one (c' := z') (Pol.tr_trim q) (by omega) (by omega) h')
  rw [q0, List.length_nil] at RTG
  clear hl ha hb q0 h1 h2
  obtain ⟨nf, hnf⟩ : ∃ n, n = p.length := ⟨_, rfl⟩
  obtain ⟨ng, hng⟩ : ∃ n, n = q.length := ⟨_, rfl⟩
  have lf : nf ≤ 12 := by omega
  have lg : ng ≤ 12 := by omega
  rw [← hnf] at hca FF CF ⊢
  rw [← hng] at hcb FG RTG ⊢
  clear lp lq
  have HF := Lib.hid hnf
  have HG := Lib.hid hng
  clear hnf hng
  go_enter Tryd.func3, Tryd.ntmps3
  go_wp2_with fail
  refine (FF.out _ HA.out).mono ?_; rintro e w' ⟨rfl, rfl⟩
  go_wp2_with fail
  refine (CF.out _ HA.out).mono ?_; rintro e w' ⟨rfl, rfl⟩
  rw [errOf_zero]
  go_wp2_with fail
  have T0 := Lib.hid (Kp.rfl' w)
  refine (errorK_nil 0 _ true rfl).mono ?_; rintro e w1 ⟨rfl, hk⟩
  have T1 := Lib.hid (T0.out.trans hk)
  clear hk
  go_wp2_with fail
  refine (FG.out _ (HB.out.keep T1.out)).mono ?_; rintro e w' ⟨rfl, rfl⟩
  go_wp2_with fail
  refine (refPlus_at A B p q nf ng ca cb 1 0 1 0 _ (HA.out.keep T1.out) (HB.out.keep T1.out) HF.out HG.out (by omega) (by omega) (by omega) (by rfl) (by omega) (by omega) rfl).mono ?_; rintro e w2 ⟨As, cs, rfl, l, _, hk⟩
  have LS := Lib.hid l
  clear l
  have T2 := Lib.hid (T1.out.trans hk)
  clear hk
  go_wp2_with fail
  refine (refTimes_any A B p q nf ng ca cb _ (HA.out.keep T2.out) (HB.out.keep T2.out) HF.out HG.out (by omega) (by omega)).mono ?_; rintro e w3 ⟨Ap, cp, rfl, l, _, hk⟩
  have LP := Lib.hid l
  clear l
  have LS := Lib.hid (LS.out.keep hk)
  have T3 := Lib.hid (T2.out.trans hk)
  clear hk
  go_wp2_with fail
  refine (refCommon_any 40 A B p q nf ng ca cb _ (by have := Pol.len_trim q; have := HG.out; omega) (HA.out.keep T3.out) (HB.out.keep T3.out) HF.out HG.out (by omega) (by omega) hca hcb).mono ?_; rintro e w4 ⟨z, gc, Ac, cc, rfl, l, _, hk⟩
  have LC := Lib.hid l
  have GC := Lib.hid gc
  clear l gc
  have LS := Lib.hid (LS.out.keep hk)
  have LP := Lib.hid (LP.out.keep hk)
  have T4 := Lib.hid (T3.out.trans hk)
  clear hk
  go_wp2_with fail
  refine (add_ok' A B p q nf ng ca cb _ (HA.out.keep T4.out) (HB.out.keep T4.out) HF.out HG.out lf lg).mono ?_; rintro e w5 ⟨A1, c1, rfl, l, _, hk⟩
  have LR := Lib.hid l
  clear l
  have LS := Lib.hid (LS.out.keep hk)
  have LP := Lib.hid (LP.out.keep hk)
  have LC := Lib.hid (LC.out.keep hk)
  have T5 := Lib.hid (T4.out.trans hk)
  clear hk
  go_wp2_with fail
  refine (errorK_nil 0 _ true rfl).mono ?_; rintro e w6 ⟨rfl, hk⟩
  have LS := Lib.hid (LS.out.keep hk)
  have LP := Lib.hid (LP.out.keep hk)
  have LC := Lib.hid (LC.out.keep hk)
  have LR := Lib.hid (LR.out.keep hk)
  have T6 := Lib.hid (T5.out.trans hk)
  clear hk
  go_wp2_with fail
  refine (ints_eq' A1 As (Pol.add p q) (Pol.plus p q 1 0) _ _ _ _ _ LR.out LS.out rfl rfl (by have := Pol.len_add p q; have := HF.out; have := HG.out; omega) EQS.out).mono ?_; rintro e w7 ⟨rfl, hk⟩
  have LS := Lib.hid (LS.out.keep hk)
  have LP := Lib.hid (LP.out.keep hk)
  have LC := Lib.hid (LC.out.keep hk)
  have LR := Lib.hid (LR.out.keep hk)
  have T7 := Lib.hid (T6.out.trans hk)
  clear hk
  go_wp2_with fail
  refine (mul_ok' A B p q nf ng ca cb _ (HA.out.keep T7.out) (HB.out.keep T7.out) HF.out HG.out lf lg).mono ?_; rintro e w8 ⟨A2, c2, rfl, l, _, hk⟩
  have LR := Lib.hid l
  clear l
  have LP := Lib.hid (LP.out.keep hk)
  have LC := Lib.hid (LC.out.keep hk)
  have T8 := Lib.hid (T7.out.trans hk)
  clear hk
  go_wp2_with fail
  refine (errorK_nil 0 _ true rfl).mono ?_; rintro e w9 ⟨rfl, hk⟩
  have LP := Lib.hid (LP.out.keep hk)
  have LC := Lib.hid (LC.out.keep hk)
  have LR := Lib.hid (LR.out.keep hk)
  have T9 := Lib.hid (T8.out.trans hk)
  clear hk
  go_wp2_with fail
  refine (ints_eq' A2 Ap (Pol.mul p q) (Pol.mul p q) _ _ _ _ _ LR.out LP.out rfl rfl (by have := Pol.len_mul p q; have := HF.out; have := HG.out; omega) rfl).mono ?_; rintro e w10 ⟨rfl, hk⟩
  have LP := Lib.hid (LP.out.keep hk)
  have LC := Lib.hid (LC.out.keep hk)
  have LR := Lib.hid (LR.out.keep hk)
  have T10 := Lib.hid (T9.out.trans hk)
  clear hk
  go_wp2_with fail
  refine (gcd_ok' A B p q nf ng ca cb _ (HA.out.keep T10.out) (HB.out.keep T10.out) HF.out HG.out lf lg hca hcb).mono ?_; rintro e w11 ⟨z', gc', A3, c3, rfl, l, _, hk⟩
  obtain rfl := GONE.out _ _ GC.out gc'
  have LR := Lib.hid l
  have LZ := Lib.hid (len_z (by have := HF.out; omega) (by have := HG.out; omega) gc')
  clear l gc'
  have LC := Lib.hid (LC.out.keep hk)
  have T11 := Lib.hid (T10.out.trans hk)
  clear hk
  go_wp2_with fail
  refine (errorK_nil 0 _ true rfl).mono ?_; rintro e w12 ⟨rfl, hk⟩
  have LC := Lib.hid (LC.out.keep hk)
  have LR := Lib.hid (LR.out.keep hk)
  have T12 := Lib.hid (T11.out.trans hk)
  clear hk
  go_wp2_with fail
  refine (ints_eq' A3 Ac (Pol.mon z) (Pol.mon z) _ _ _ _ _ LR.out LC.out rfl rfl LZ.out rfl).mono ?_; rintro e w13 ⟨rfl, hk⟩
  have LC := Lib.hid (LC.out.keep hk)
  have LR := Lib.hid (LR.out.keep hk)
  have T13 := Lib.hid (T12.out.trans hk)
  clear hk
  go_wp2_with fail
  refine (RTG.out _ (HB.out.keep T13.out)).mono ?_; rintro e w' ⟨rfl, rfl⟩
  go_wp2_with fail
  refine (div_null' A B p q nf ng ca cb _ (HA.out.keep T13.out) (HB.out.keep T13.out) HF.out HG.out lf lg hcb Q0.out).mono ?_; rintro e w14 ⟨rfl, hk⟩
  have T14 := Lib.hid (T13.out.trans hk)
  clear hk
  go_wp2_with fail
  refine (error_says 5 _ (laid_kp HL.out T14.out) (by decide)).mono ?_; rintro e w15 ⟨rfl, hk⟩
  have T15 := Lib.hid (T14.out.trans hk)
  clear hk
  go_wp2_with fail
  refine (ints_eq' Option.none Option.none [] [] 0 0 0 0 _ (Lies.empty _ _) (Lies.empty _ _) rfl rfl (by decide) rfl).mono ?_; rintro e w16 ⟨rfl, hk⟩
  have T16 := Lib.hid (T15.out.trans hk)
  clear hk
  go_wp2_with fail
  refine (ints_eq' Option.none Option.none [] [] 0 0 0 0 _ (Lies.empty _ _) (Lies.empty _ _) rfl rfl (by decide) rfl).mono ?_; rintro e w17 ⟨rfl, hk⟩
  have T17 := Lib.hid (T16.out.trans hk)
  clear hk
  go_wp2_with fail
  rcases place x with ⟨a, rfl⟩ | hx
  · have x1 := Fp.val_bound a
    refine (lawIn_any (a.val : Int) 0 9972 _ true (by simp; omega)).mono ?_; rintro e w' ⟨rfl, rfl⟩
    go_wp2_with fail
    refine (refAt_any A p nf ca a _ (HA.out.keep T17.out) HF.out (by omega)).mono ?_; rintro e w18 ⟨rfl, hk⟩
    have T18 := Lib.hid (T17.out.trans hk)
    clear hk
    go_wp2_with fail
    refine (at_ok' A p nf ca a _ (HA.out.keep T18.out) HF.out lf).mono ?_; rintro e w' ⟨rfl, rfl⟩
    go_wp2_with fail
    refine (errorK_nil 0 _ true rfl).mono ?_; rintro e w19 ⟨rfl, hk⟩
    have T19 := Lib.hid (T18.out.trans hk)
    clear hk
    go_wp2_with fail
    go_ret
    exact ⟨by simp [go_sem], T19.out⟩
  · have HX := Lib.hid hx
    have AB := Lib.hid (show ∀ w, Lies w A (Pol.vals p) → Calls Tryd.prog 19 #[.slice A nf ca, .int .i64 x] w fun e w' => e = .returned (.tuple #[.int .i64 0, errOf 1]) ∧ w = w' from fun w ha => by
      have e : atCode (Pol.vals p) x = 1 := by unfold atCode; rw [if_pos (Pol.code_vals p (by have := HF.out; omega)), if_neg HX.out]
      have h := at_bad A (Pol.vals p) ca x w ha (by rw [e]; decide)
      rw [e, Pol.len_vals, ← HF.out] at h; exact h)
    refine (lawIn_any x 0 9972 _ false (by have := HX.out; simp; omega)).mono ?_; rintro e w' ⟨rfl, rfl⟩
    go_wp2_with fail
    refine (AB.out _ (HA.out.keep T17.out)).mono ?_; rintro e w' ⟨rfl, rfl⟩
    go_wp2_with fail
    refine (error_says 1 _ (laid_kp HL.out T17.out) (by decide)).mono ?_; rintro e w18 ⟨rfl, hk⟩
    have T18 := Lib.hid (T17.out.trans hk)
    clear hk
    go_wp2_with fail
    go_ret
    exact ⟨by simp [go_sem], T18.out⟩

theorem walk_PolySays (A : Option Addr) (f : List Int) (ca : Nat) (B : Option Addr) (g : List Int) (cb : Nat) (x : Int) (w : World) (hl : Told.Laid w) (ha : Lies w A f) (hca : f.length ≤ ca) (hb : Lies w B g) (hcb : g.length ≤ cb) :
    Calls Tryd.prog 3 #[.slice A f.length ca, .slice B g.length cb, .int .i64 x] w fun e w' => e = .returned (.bool true) ∧ Kp w w' := by
  by_cases hf : Pol.code f = 0
  · obtain ⟨p, rfl, hp⟩ := Pol.code_zero hf
    rw [Pol.len_vals] at *
    by_cases hg : Pol.code g = 0
    · obtain ⟨q, rfl, hq⟩ := Pol.code_zero hg
      rw [Pol.len_vals] at *
      by_cases q0 : Pol.trim q = []
      · exact says_A1b A B p q ca cb x w hl ha hb hp hq hca hcb q0
      · exact says_A1a A B p q ca cb x w hl ha hb hp hq hca hcb q0
    · exact says_A2 A B p g ca cb x w hl ha hb hp hg
  · exact says_B A B f g ca cb x w hl ha hb hf

end Go.Proofs.YtakhnacfnobldaaDoor
