/- The law PolyDiv. -/
import Derived.Test.YtakhnacfnobldaaPolFact
namespace Go.Proofs.Ytakhnacfnobldaa
open Go.ChangeShapes Go.WideShapes Go.ChangeAt Go.RowKit
set_option linter.unusedVariables false

/-- What is divided comes back. -/
theorem dv_back {F G q r : List Fp.F} (d : Pol.Dv F G q r) (tf : Pol.Tr F) (lf : F.length ≤ 12) (lg : G.length ≤ 12) : Pol.add (Pol.mul G q) r = F := by
  have h1 := Pol.len_add (Pol.mul G q) r
  have h2 := Pol.len_mul G q
  have := d.lq
  have := d.lt
  exact Pol.same _ _ (Pol.tr_add _ _) tf (by omega) (by omega) fun x => by rw [Pol.ev_add, Pol.ev_mul, d.eq]
/-- What comes back is no longer than what was divided. -/
theorem dv_len {F G q r : List Fp.F} (d : Pol.Dv F G q r) (tf : Pol.Tr F) (tg : Pol.Tr G) (lf : F.length ≤ 12) (lg : G.length ≤ 12) : (Pol.mul G q).length ≤ 12 ∧ q.length + G.length ≤ 13 := by
  have h2 := Pol.len_mul' G q (by have := d.lq; omega)
  rcases d.len tf tg (by omega) (by omega) with ⟨e, _⟩ | ⟨_, e⟩
  · subst e; simp at h2 ⊢; omega
  · omega
/-- Of a product nothing is left. -/
theorem dv_prod {f g a b : List Fp.F} (lf : f.length ≤ 12) (lg : g.length ≤ 12) (g0 : Pol.trim g ≠ []) (d : Pol.Dv (Pol.trim (Pol.mul f g)) (Pol.trim g) a b) : a = Pol.trim f ∧ b = [] := by
  have e : Pol.trim (Pol.mul f g) = Pol.pmul (Pol.trim f) (Pol.trim g) := by rw [Pol.trim_tr _ (Pol.tr_mul f g)]; exact Pol.mul_of f g (by omega) (by omega) g0
  have l := Pol.len_pmul_le (Pol.trim f) (Pol.trim g)
  have l1 := Pol.len_trim f
  have l2 := Pol.len_trim g
  rw [e] at d
  refine d.one (Pol.tr_trim g) (by omega) (by omega) ⟨Pol.tr_trim f, Pol.tr_nil, List.length_pos_iff.2 g0, ?_, fun x => by rw [Pol.ev_pmul, Pol.ev_nil, Fin.mul_comm, Fin.add_zero]⟩
  by_cases f0 : Pol.trim f = []
  · rw [f0]; simp
  · have := Pol.len_pmul _ _ f0 g0
    have := List.length_pos_iff.2 g0
    omega

set_option maxRecDepth 100000 in
set_option maxHeartbeats 1600000 in
theorem div_law_ok (A B : Option Addr) (f g : List Fp.F) (ca cb : Nat) (w : World) (ha : Lies w A (Pol.vals f)) (hb : Lies w B (Pol.vals g)) (lf : f.length ≤ 12) (lg : g.length ≤ 12) (hca : f.length ≤ ca) (hcb : g.length ≤ cb) (g0 : Pol.trim g ≠ []) :
    Calls Try.prog 4 #[.slice A f.length ca, .slice B g.length cb] w fun e w' => e = .returned (.bool true) ∧ Kp w w' := by
  have HA := Lib.hid ha
  have HB := Lib.hid hb
  have G0 := Lib.hid g0
  clear ha hb g0
  obtain ⟨nf, hnf⟩ : ∃ n, n = f.length := ⟨_, rfl⟩
  obtain ⟨ng, hng⟩ : ∃ n, n = g.length := ⟨_, rfl⟩
  rw [← hnf] at lf hca ⊢
  rw [← hng] at lg hcb ⊢
  have HF := Lib.hid hnf
  have HG := Lib.hid hng
  clear hnf hng
  have TF := Lib.hid (Pol.len_trim f)
  have TG := Lib.hid (Pol.len_trim g)
  obtain ⟨tf, htf⟩ : ∃ n, n = (Pol.trim f).length := ⟨_, rfl⟩
  obtain ⟨tg, htg⟩ : ∃ n, n = (Pol.trim g).length := ⟨_, rfl⟩
  have tf1 : tf ≤ nf := by rw [htf, HF.out]; exact TF.out
  have tg1 : tg ≤ ng := by rw [htg, HG.out]; exact TG.out
  have HTF := Lib.hid htf
  have HTG := Lib.hid htg
  clear htf htg
  have RTF := Lib.hid (show ∀ w, Lies w A (Pol.vals f) → Calls Try.prog 14 #[.slice A nf ca] w fun e w' => e = .returned (.slice A tf ca) ∧ w = w' from fun w h => by
    rw [HTF.out]; exact trim_ok' A f nf ca w h HF.out hca lf)
  have RTG := Lib.hid (show ∀ w, Lies w B (Pol.vals g) → Calls Try.prog 14 #[.slice B ng cb] w fun e w' => e = .returned (.slice B tg cb) ∧ w = w' from fun w h => by
    rw [HTG.out]; exact trim_ok' B g ng cb w h HG.out hcb lg)
  go_enter Try.func4, Try.ntmps4
  go_wp2_with fail
  refine (fact_any _).mono ?_; rintro e w1 ⟨rfl, hk⟩
  have K1 := Lib.hid hk
  clear hk
  go_wp2_with fail
  refine (div_ok' A B f g nf ng _ _ _ (HA.out.keep K1.out) (HB.out.keep K1.out) HF.out HG.out lf lg hca hcb G0.out).mono ?_
  rintro e w2 ⟨q, r, dv, Aq, nq, Ar, nr, rfl, l1, lc1, l2, lc2, hk⟩
  have Lq := Lib.hid l1
  have Lr := Lib.hid l2
  have T2 := Lib.hid (K1.out.trans hk)
  have HBACK := Lib.hid (dv_back dv (Pol.tr_trim f) (by have := HTF.out; omega) (by have := HTG.out; omega))
  obtain ⟨m1, m2⟩ := dv_len dv (Pol.tr_trim f) (Pol.tr_trim g) (by have := HTF.out; omega) (by have := HTG.out; omega)
  have r1 : r.length < tg := by rw [HTG.out]; exact dv.lt
  have q1 : q.length ≤ tf := by rw [HTF.out]; exact dv.lq
  rw [← HTG.out] at m2
  clear dv l1 l2 hk
  obtain ⟨lq, hlq⟩ : ∃ n, n = q.length := ⟨_, rfl⟩
  obtain ⟨lr, hlr⟩ : ∃ n, n = r.length := ⟨_, rfl⟩
  rw [← hlq] at m2 q1 lc1 ⊢
  rw [← hlr] at r1 lc2 ⊢
  have HLQ := Lib.hid hlq
  have HLR := Lib.hid hlr
  clear hlq hlr
  go_wp2_with fail
  refine (RTG.out _ (HB.out.keep T2.out)).mono ?_; rintro e w' ⟨rfl, rfl⟩
  go_wp2_with fail
  refine (RTG.out _ (HB.out.keep T2.out)).mono ?_; rintro e w' ⟨rfl, rfl⟩
  go_wp2_with fail
  refine (RTG.out _ (HB.out.keep T2.out)).mono ?_; rintro e w' ⟨rfl, rfl⟩
  go_wp2_with fail
  refine (mul_ok' B Aq (Pol.trim g) q tg lq _ _ _ ((HB.out.keep T2.out).trim) Lq.out HTG.out HLQ.out (by omega) (by omega)).mono ?_
  rintro e w3 ⟨Ap, np, rfl, l, _, hk⟩
  have Lp := Lib.hid l
  have Lr3 := Lib.hid (Lr.out.keep hk)
  have T3 := Lib.hid (T2.out.trans hk)
  clear l hk
  go_wp2_with fail
  refine (add_ok' Ap Ar (Pol.mul (Pol.trim g) q) r _ lr _ _ _ Lp.out Lr3.out rfl HLR.out m1 (by omega)).mono ?_
  rw [HBACK.out]
  rintro e w4 ⟨As, ns, rfl, l, _, hk⟩
  rw [← HTF.out]
  have Ls := Lib.hid l
  have T4 := Lib.hid (T3.out.trans hk)
  clear l hk m1
  go_wp2_with fail
  refine (RTF.out _ (HA.out.keep T4.out)).mono ?_; rintro e w' ⟨rfl, rfl⟩
  go_wp2_with fail
  refine (ints_eq' As A (Pol.trim f) (Pol.trim f) tf tf _ _ _ Ls.out ((HA.out.keep T4.out).trim) HTF.out HTF.out (by omega) rfl).mono ?_
  rintro e w5 ⟨rfl, hk⟩
  have T5 := Lib.hid (T4.out.trans hk)
  clear hk
  by_cases hs : nf + ng ≤ 12
  · have L1 := Lib.hid (Pol.len_mul' f g (by have := HF.out; have := HG.out; omega))
    go_wp2_with fail
    refine (mul_ok' A B f g nf ng _ _ _ (HA.out.keep T5.out) (HB.out.keep T5.out) HF.out HG.out lf lg).mono ?_
    rintro e w6 ⟨Am, nm, rfl, l, lm, hk⟩
    have Lm := Lib.hid l
    have T6 := Lib.hid (T5.out.trans hk)
    clear l hk
    have HDP := Lib.hid (fun a b d => dv_prod (f := f) (g := g) (a := a) (b := b) (by have := HF.out; omega) (by have := HG.out; omega) G0.out d)
    go_wp2_with fail
    refine (div_ok' Am B (Pol.mul f g) g _ ng _ _ _ Lm.out (HB.out.keep T6.out) rfl HG.out (by have := L1.out; have := HF.out; have := HG.out; omega) lg lm hcb G0.out).mono ?_
    rintro e w7 ⟨a, b, dv, Aa, na, Ab, nb, rfl, l1, lc1', l2, lc2', hk⟩
    obtain ⟨rfl, rfl⟩ := HDP.out a b dv
    have La := Lib.hid l1
    have T7 := Lib.hid (T6.out.trans hk)
    clear dv l1 l2 hk
    rw [← HTF.out]
    go_wp2_with fail
    refine (RTF.out _ (HA.out.keep T7.out)).mono ?_; rintro e w' ⟨rfl, rfl⟩
    go_wp2_with fail
    refine (ints_eq' Aa A (Pol.trim f) (Pol.trim f) tf tf _ _ _ La.out ((HA.out.keep T7.out).trim) HTF.out HTF.out (by omega) rfl).mono ?_
    rintro e w8 ⟨rfl, hk⟩
    have T8 := Lib.hid (T7.out.trans hk)
    clear hk
    go_wp2_with fail
    go_ret
    exact ⟨rfl, T8.out⟩
  · have hs' : ¬ ((nf : Int) + ng ≤ 12) := by omega
    clear hs
    go_wp2_with fail
    go_ret
    exact ⟨rfl, T5.out⟩

theorem div_law_bad (A B : Option Addr) (f g : List Int) (ca cb : Nat) (w : World) (ha : Lies w A f) (hb : Lies w B g) (c : Nat) (c0 : c ≠ 0)
    (H : ∀ w, Lies w A f → Lies w B g → Calls Try.prog 13 #[.slice A f.length ca, .slice B g.length cb] w fun e w' => Fails2 c w e w') :
    Calls Try.prog 4 #[.slice A f.length ca, .slice B g.length cb] w fun e w' => e = .returned (.bool true) ∧ Kp w w' := by
  have HA := Lib.hid ha
  have HB := Lib.hid hb
  have HH := Lib.hid H
  clear ha hb H
  generalize f.length = nf at *
  generalize g.length = ng at *
  go_enter Try.func4, Try.ntmps4
  go_wp2_with fail
  refine (fact_any _).mono ?_; rintro e w1 ⟨rfl, hk⟩
  have K1 := Lib.hid hk
  clear hk
  go_wp2_with fail
  refine (HH.out _ (HA.out.keep K1.out) (HB.out.keep K1.out)).mono ?_; rintro e w2 ⟨rfl, hk⟩
  have K2 := Lib.hid (K1.out.trans hk)
  clear hk
  rw [errOf_ne _ c0]
  go_wp2_with fail
  go_ret
  exact ⟨rfl, K2.out⟩

theorem walk_PolyDiv (A : Option Addr) (f : List Int) (ca : Nat) (B : Option Addr) (g : List Int) (cb : Nat) (w : World) (ha : Lies w A f) (hca : f.length ≤ ca) (hb : Lies w B g) (hcb : g.length ≤ cb) :
    Calls Try.prog 4 #[.slice A f.length ca, .slice B g.length cb] w fun e w' => e = .returned (.bool true) ∧ Kp w w' := by
  by_cases bad : Pol.code2 f g = 0
  · obtain ⟨h1, h2⟩ := Pol.code2_zero bad
    obtain ⟨p, rfl, hp⟩ := Pol.code_zero h1
    obtain ⟨q, rfl, hq⟩ := Pol.code_zero h2
    by_cases g0 : Pol.trim q = []
    · refine div_law_bad A B _ _ ca cb w ha hb 5 (by decide) fun w ha hb => ?_
      rw [Pol.len_vals] at hcb
      rw [Pol.len_vals, Pol.len_vals]
      exact div_null A B p q ca cb w ha hb hp hq hcb g0
    · rw [Pol.len_vals] at *
      rw [Pol.len_vals]
      exact div_law_ok A B p q ca cb w ha hb hp hq hca hcb g0
  · exact div_law_bad A B f g ca cb w ha hb _ bad fun w ha hb => div_bad A B f g ca cb w ha hb bad

end Go.Proofs.Ytakhnacfnobldaa
