/- The law PolyGcd. -/
import Derived.Test.YtakhnacfnobldaaPolFact
namespace Go.Proofs.Ytakhnacfnobldaa
open Go.ChangeShapes Go.WideShapes Go.ChangeAt Go.RowKit
set_option linter.unusedVariables false

theorem gc_len {f g z : List Fp.F} (h : Pol.Gc f g z) : z.length ≤ max f.length g.length := by
  induction h with
  | done f => simp
  | step d _ ih => have := d.lt; omega
theorem gc_divides {f g z : List Fp.F} (h : Pol.Gc f g z) (tf : Pol.Tr f) (tg : Pol.Tr g) (lf : f.length ≤ 12) (lg : g.length ≤ 12) (z0 : z ≠ []) :
    (∀ u a, Pol.Dv f (Pol.trim (Pol.mon z)) u a → a = []) ∧ (∀ u a, Pol.Dv g (Pol.trim (Pol.mon z)) u a → a = []) := by
  obtain ⟨tz, lz, _, a, b, ta, tb, la, lb, ea, eb⟩ := h.facts tf tg (by omega) (by omega)
  rw [Pol.trim_tr _ (Pol.tr_mon tz)]
  have lm := Pol.len_mon z
  exact ⟨fun u r d => (d.one (Pol.tr_mon tz) (by omega) (by omega) (Pol.mon_divides tz z0 ta la ea)).2,
    fun u r d => (d.one (Pol.tr_mon tz) (by omega) (by omega) (Pol.mon_divides tz z0 tb lb eb)).2⟩
/-- With a third one times both. -/
theorem gc_times {f g h z z' : List Fp.F} (lf : f.length ≤ 12) (lg : g.length ≤ 12) (lh : h.length ≤ 12) (h0 : Pol.trim h ≠ []) (d : Pol.Gc (Pol.trim f) (Pol.trim g) z)
    (d' : Pol.Gc (Pol.trim (Pol.mul f h)) (Pol.trim (Pol.mul g h)) z') : z' = Pol.pmul z (Pol.trim h) := by
  rw [Pol.trim_tr _ (Pol.tr_mul f h), Pol.trim_tr _ (Pol.tr_mul g h), Pol.mul_of f h (by omega) (by omega) h0, Pol.mul_of g h (by omega) (by omega) h0] at d'
  have l1 := Pol.len_pmul_le (Pol.trim f) (Pol.trim h)
  have l2 := Pol.len_pmul_le (Pol.trim g) (Pol.trim h)
  have a1 := Pol.len_trim f
  have a2 := Pol.len_trim g
  have a3 := Pol.len_trim h
  exact d'.one (Pol.tr_pmul _ _ (Pol.tr_trim g) (Pol.tr_trim h) h0) (by omega) (by omega) (d.scale (Pol.tr_trim h) h0)
theorem mon_mul {z h : List Fp.F} (tz : Pol.Tr z) (lz : z.length ≤ 12) (lh : h.length ≤ 12) (h0 : Pol.trim h ≠ []) : Pol.mul (Pol.mon z) h = Pol.pmul (Pol.mon z) (Pol.trim h) := by
  have := Pol.len_mon z
  rw [Pol.mul_of _ h (by omega) (by omega) h0, Pol.trim_tr _ (Pol.tr_mon tz)]
theorem gc_last {z h q r : List Fp.F} (tz : Pol.Tr z) (lz : z.length ≤ 12) (lh : h.length ≤ 12) (z0 : z ≠ []) (h0 : Pol.trim h ≠ [])
    (d : Pol.Dv (Pol.trim (Pol.mul (Pol.mon z) h)) (Pol.trim (Pol.mon (Pol.pmul z (Pol.trim h)))) q r) : q = [Pol.top (Pol.trim h)] ∧ r = [] := by
  have tp := Pol.tr_pmul z _ tz (Pol.tr_trim h) h0
  rw [Pol.trim_tr _ (Pol.tr_mul _ h), mon_mul tz lz lh h0, Pol.trim_tr _ (Pol.tr_mon tp)] at d
  have l1 := Pol.len_pmul_le (Pol.mon z) (Pol.trim h)
  have l2 := Pol.len_pmul_le z (Pol.trim h)
  have a3 := Pol.len_trim h
  have lm := Pol.len_mon z
  have lm2 := Pol.len_mon (Pol.pmul z (Pol.trim h))
  exact d.one (Pol.tr_mon tp) (by omega) (by omega) (Pol.mon_scale tz (Pol.tr_trim h) z0 h0)

set_option maxRecDepth 100000 in
theorem gcd_law_bad (A B C : Option Addr) (f g h : List Int) (ca cb cc : Nat) (w : World) (ha : Lies w A f) (hb : Lies w B g) (bad : Pol.code2 f g ≠ 0) :
    Calls Try.prog 5 #[.slice A f.length ca, .slice B g.length cb, .slice C h.length cc] w fun e w' => e = .returned (.bool true) ∧ Kp w w' := by
  have HA := Lib.hid ha
  have HB := Lib.hid hb
  have HH := Lib.hid (fun w ha hb => gcd_bad A B f g ca cb w ha hb bad)
  clear ha hb
  generalize Pol.code2 f g = c at *
  generalize f.length = nf at *
  generalize g.length = ng at *
  generalize h.length = nh at *
  go_enter Try.func5, Try.ntmps5
  go_wp2_with fail
  refine (fact_any _).mono ?_; rintro e w1 ⟨rfl, hk⟩
  have K1 := Lib.hid hk
  clear hk
  go_wp2_with fail
  refine (HH.out _ (HA.out.keep K1.out) (HB.out.keep K1.out)).mono ?_; rintro e w2 ⟨rfl, hk⟩
  have K2 := Lib.hid (K1.out.trans hk)
  clear hk
  rw [errOf_ne _ bad]
  go_wp2_with fail
  go_ret
  exact ⟨rfl, K2.out⟩

set_option maxRecDepth 100000 in
set_option maxHeartbeats 3200000 in
theorem gcd_law_ok (A B C : Option Addr) (f g : List Fp.F) (h : List Int) (ca cb cc : Nat) (w : World) (ha : Lies w A (Pol.vals f)) (hb : Lies w B (Pol.vals g)) (hc : Lies w C h) (lf : f.length ≤ 12) (lg : g.length ≤ 12)
    (hca : f.length ≤ ca) (hcb : g.length ≤ cb) (hcc : h.length ≤ cc) :
    Calls Try.prog 5 #[.slice A f.length ca, .slice B g.length cb, .slice C h.length cc] w fun e w' => e = .returned (.bool true) ∧ Kp w w' := by
  have HA := Lib.hid ha
  have HB := Lib.hid hb
  have HC := Lib.hid hc
  clear ha hb hc
  obtain ⟨nf, hnf⟩ : ∃ n, n = f.length := ⟨_, rfl⟩
  obtain ⟨ng, hng⟩ : ∃ n, n = g.length := ⟨_, rfl⟩
  obtain ⟨nh, hnh⟩ : ∃ n, n = h.length := ⟨_, rfl⟩
  rw [← hnf] at lf hca ⊢
  rw [← hng] at lg hcb ⊢
  rw [← hnh] at hcc ⊢
  have HF := Lib.hid hnf
  have HG := Lib.hid hng
  have HH := Lib.hid hnh
  clear hnf hng hnh
  go_enter Try.func5, Try.ntmps5
  go_wp2_with fail
  refine (fact_any _).mono ?_; rintro e w1 ⟨rfl, hk⟩
  have K1 := Lib.hid hk
  clear hk
  go_wp2_with fail
  refine (gcd_ok' A B f g nf ng _ _ _ (HA.out.keep K1.out) (HB.out.keep K1.out) HF.out HG.out lf lg hca hcb).mono ?_
  rintro e w2 ⟨z, gc, Az, nz, rfl, l, lc, hk⟩
  have GC := Lib.hid gc
  have tfl := Pol.len_trim f
  have tgl := Pol.len_trim g
  have FACTS := gc.facts (Pol.tr_trim f) (Pol.tr_trim g) (by have := HF.out; omega) (by have := HG.out; omega)
  have TZ := Lib.hid FACTS.1
  have ZN := Lib.hid FACTS.2.2.1
  have LZ := Lib.hid (gc_len gc)
  have Lz := Lib.hid l
  have T2 := Lib.hid (K1.out.trans hk)
  have LC := Lib.hid lc
  have lz : z.length ≤ 12 := by have := LZ.out; have := HF.out; have := HG.out; omega
  clear gc l hk FACTS lc tfl tgl
  by_cases z0 : z = []
  · subst z0
    obtain ⟨f0, g0⟩ := ZN.out.1 rfl
    have RTF := Lib.hid (fun w hh => trim_ok' A f nf ca w hh HF.out hca lf)
    have RTG := Lib.hid (fun w hh => trim_ok' B g ng cb w hh HG.out hcb lg)
    rw [f0, List.length_nil] at RTF
    rw [g0, List.length_nil] at RTG
    rw [Pol.mon_nil, List.length_nil]
    clear f0 g0 ZN lz
    go_wp2_with fail
    refine (RTF.out _ (HA.out.keep T2.out)).mono ?_; rintro e w' ⟨rfl, rfl⟩
    go_wp2_with fail
    refine (RTG.out _ (HB.out.keep T2.out)).mono ?_; rintro e w' ⟨rfl, rfl⟩
    go_wp2_with fail
    go_ret
    exact ⟨rfl, T2.out⟩
  · have Z0 := Lib.hid z0
    have DIV := Lib.hid (gc_divides GC.out (Pol.tr_trim f) (Pol.tr_trim g) (Nat.le_trans (Pol.len_trim f) (by have := HF.out; omega)) (Nat.le_trans (Pol.len_trim g) (by have := HG.out; omega)) z0)
    obtain ⟨k, hk⟩ : ∃ k, z.length = k + 1 := ⟨z.length - 1, by have := List.length_pos_iff.2 z0; omega⟩
    have KZ := Lib.hid (show k + 1 = (Pol.mon z).length by rw [Pol.len_mon, hk])
    have KZ2 := Lib.hid hk
    have TOP := Lib.hid (show (Pol.vals (Pol.mon z)).getD k 0 = 1 by
      have := Pol.top_mon TZ.out z0
      rw [Pol.top, Pol.len_mon, hk] at this
      rw [Pol.vals_at, show Pol.co (Pol.mon z) k = 1 from this]; rfl)
    rw [hk] at lz
    rw [← KZ.out]
    have hlc : k + 1 ≤ nz := by rw [KZ.out]; exact LC.out
    have M0 := Lib.hid (show Pol.trim (Pol.mon z) ≠ [] by rw [Pol.trim_tr _ (Pol.tr_mon TZ.out)]; exact Pol.mon_ne z0)
    clear z0 hk LC ZN
    go_wp2_with fail
    refine (div_ok' A Az f (Pol.mon z) nf (k + 1) _ _ _ (HA.out.keep T2.out) Lz.out HF.out KZ.out lf (by omega) hca hlc M0.out).mono ?_
    rintro e w3 ⟨u, a, dv, A3, c3, B3, d3, rfl, l1, l2, l3, l4, hk⟩
    obtain rfl := DIV.out.1 u a dv
    have Lz3 := Lib.hid (Lz.out.keep hk)
    have T3 := Lib.hid (T2.out.trans hk)
    clear dv l1 l2 l3 l4 hk
    go_wp2_with fail
    refine (div_ok' B Az g (Pol.mon z) ng (k + 1) _ _ _ (HB.out.keep T3.out) Lz3.out HG.out KZ.out lg (by omega) hcb hlc M0.out).mono ?_
    rintro e w4 ⟨u2, a, dv, A4, c4, B4, d4, rfl, l1, l2, l3, l4, hk⟩
    obtain rfl := DIV.out.2 u2 a dv
    have Lz4 := Lib.hid (Lz3.out.keep hk)
    have T4 := Lib.hid (T3.out.trans hk)
    clear dv l1 l2 l3 l4 hk
    obtain ⟨zd, rfl, _, hcell⟩ := Lz4.out k (by rw [Pol.len_vals, ← KZ.out]; omega)
    rw [TOP.out] at hcell
    have FA := Lib.hid (fun w hh => refFactors_any C h cc w hh)
    rw [← HH.out] at FA
    by_cases h0 : Pol.code h = 0
    · obtain ⟨p, rfl, hp⟩ := Pol.code_zero h0
      rw [h0] at FA
      have HP := Lib.hid (show nh = p.length by rw [HH.out, Pol.len_vals])
      have hp' : nh ≤ 12 := by rw [HP.out]; exact hp
      clear hp h0
      by_cases hs1 : nf + nh ≤ 12
      · by_cases hs2 : ng + nh ≤ 12
        · have RT := Lib.hid (fun w hh => trim_ok' C p nh cc w hh HP.out hcc hp')
          by_cases t0 : Pol.trim p = []
          · rw [t0, List.length_nil] at RT
            clear t0
            go_wp2_with fail
            refine (FA.out _ (HC.out.keep T4.out)).mono ?_; rintro e w' ⟨rfl, rfl⟩
            go_wp2_with fail
            refine (RT.out _ (HC.out.keep T4.out)).mono ?_; rintro e w' ⟨rfl, rfl⟩
            go_wp2_with fail
            go_ret
            exact ⟨rfl, T4.out⟩
          · have T0 := Lib.hid t0
            obtain ⟨kt, hkt⟩ : ∃ kt, (Pol.trim p).length = kt + 1 := ⟨(Pol.trim p).length - 1, by have := List.length_pos_iff.2 t0; omega⟩
            rw [hkt] at RT
            have L1 := Lib.hid (Pol.len_mul' f p (by have := HF.out; have := HP.out; omega))
            have L2 := Lib.hid (Pol.len_mul' g p (by have := HG.out; have := HP.out; omega))
            have L3 := Lib.hid (Pol.len_mul' (Pol.mon z) p (by have := KZ.out; have := HP.out; omega))
            have LZ1 := Lib.hid (show k + 1 ≤ max nf ng by have h1 := LZ.out; have h2 := Pol.len_trim f; have h3 := Pol.len_trim g; have := KZ2.out; have := HF.out; have := HG.out; omega)
            have GT := Lib.hid (fun z' d => gc_times (f := f) (g := g) (h := p) (z := z) (z' := z') (by have := HF.out; omega) (by have := HG.out; omega) (by have := HP.out; omega) t0 GC.out d)
            have GL := Lib.hid (fun q r d => gc_last (h := p) (q := q) (r := r) TZ.out (by have := KZ2.out; omega) (by have := HP.out; omega) Z0.out t0 d)
            have MM := Lib.hid (mon_mul (h := p) TZ.out (by have := KZ2.out; omega) (by have := HP.out; omega) t0)
            have LP := Lib.hid (Pol.len_pmul z (Pol.trim p) Z0.out t0)
            have LM := Lib.hid (show (Pol.mul (Pol.mon z) p).length = k + kt + 1 by
              have h1 := Pol.len_pmul (Pol.mon z) (Pol.trim p) (Pol.mon_ne Z0.out) t0
              rw [← MM.out, hkt, ← KZ.out] at h1; omega)
            have hkp := Pol.len_trim p
            have LMM := Lib.hid (show (Pol.mon (Pol.pmul z (Pol.trim p))).length = k + kt + 1 by
              have h1 := LP.out
              rw [Pol.len_mon]; rw [hkt, KZ2.out] at h1; omega)
            have MNE := Lib.hid (show Pol.trim (Pol.mon (Pol.pmul z (Pol.trim p))) ≠ [] by
              rw [Pol.trim_tr _ (Pol.tr_mon (Pol.tr_pmul _ _ TZ.out (Pol.tr_trim p) t0))]
              exact Pol.mon_ne (Pol.pmul_ne _ _ Z0.out t0))
            have hlen : k + kt + 1 ≤ 12 := by have := LZ1.out; have := HP.out; omega
            have hkt0 : ((kt : Int) + 1 == 0) = false := by rw [beq_eq_false_iff_ne]; omega
            clear t0 hkt hkp
            go_wp2_with fail
            refine (FA.out _ (HC.out.keep T4.out)).mono ?_; rintro e w' ⟨rfl, rfl⟩
            go_wp2_with fail
            refine (RT.out _ (HC.out.keep T4.out)).mono ?_; rintro e w' ⟨rfl, rfl⟩
            go_wp2_with fail
            refine (mul_ok' A C f p nf nh _ _ _ (HA.out.keep T4.out) (HC.out.keep T4.out) HF.out HP.out lf hp').mono ?_
            rintro e w5 ⟨Am, nm, rfl, l, lm, hk⟩
            have Lm := Lib.hid l
            have T5 := Lib.hid (T4.out.trans hk)
            have Lz5 := Lib.hid (Lz4.out.keep hk)
            clear l hk
            go_wp2_with fail
            refine (mul_ok' B C g p ng nh _ _ _ (HB.out.keep T5.out) (HC.out.keep T5.out) HG.out HP.out lg hp').mono ?_
            rintro e w6 ⟨An, nn, rfl, l, ln, hk⟩
            have Ln := Lib.hid l
            have Lm6 := Lib.hid (Lm.out.keep hk)
            have T6 := Lib.hid (T5.out.trans hk)
            have Lz6 := Lib.hid (Lz5.out.keep hk)
            clear l hk
            go_wp2_with fail
            refine (gcd_ok' Am An (Pol.mul f p) (Pol.mul g p) _ _ _ _ _ Lm6.out Ln.out rfl rfl (by have := L1.out; have := HF.out; have := HP.out; omega) (by have := L2.out; have := HG.out; have := HP.out; omega) lm ln).mono ?_
            rintro e w7 ⟨z', gc', Ad, nd, rfl, l, ld, hk⟩
            obtain rfl := GT.out z' gc'
            have Ld := Lib.hid l
            have T7 := Lib.hid (T6.out.trans hk)
            have Lz7 := Lib.hid (Lz6.out.keep hk)
            rw [LMM.out] at ld ⊢
            clear gc' l hk lm ln
            go_wp2_with fail
            refine (mul_ok' (some zd) C (Pol.mon z) p (k + 1) nh _ _ _ Lz7.out (HC.out.keep T7.out) KZ.out HP.out lz hp').mono ?_
            rintro e w8 ⟨Ak, nk, rfl, l, lk, hk⟩
            have Lk := Lib.hid l
            have T8 := Lib.hid (T7.out.trans hk)
            have Ld8 := Lib.hid (Ld.out.keep hk)
            rw [LM.out] at lk ⊢
            clear l hk
            go_wp2_with fail
            refine (div_ok' Ak Ad (Pol.mul (Pol.mon z) p) (Pol.mon (Pol.pmul z (Pol.trim p))) _ _ _ _ _ Lk.out Ld8.out LM.out.symm LMM.out.symm hlen hlen lk ld MNE.out).mono ?_
            rintro e w9 ⟨q, r, dv, A9, c9, B9, d9, rfl, l1, l2, l3, l4, hk⟩
            obtain ⟨rfl, rfl⟩ := GL.out q r dv
            have T9 := Lib.hid (T8.out.trans hk)
            clear dv l1 l2 l3 l4 hk
            go_wp2_with fail
            go_ret
            exact ⟨rfl, T9.out⟩
        · have hs' : ¬ ((ng : Int) + nh ≤ 12) := by omega
          clear hs2
          go_wp2_with fail
          refine (FA.out _ (HC.out.keep T4.out)).mono ?_; rintro e w' ⟨rfl, rfl⟩
          go_wp2_with fail
          go_ret
          exact ⟨rfl, T4.out⟩
      · have hs' : ¬ ((nf : Int) + nh ≤ 12) := by omega
        clear hs1
        go_wp2_with fail
        refine (FA.out _ (HC.out.keep T4.out)).mono ?_; rintro e w' ⟨rfl, rfl⟩
        go_wp2_with fail
        go_ret
        exact ⟨rfl, T4.out⟩
    · have hx : ((Pol.code h : Int) != 0) = true := by rw [bne_iff_ne]; omega
      generalize Pol.code h = x at *
      go_wp2_with fail
      refine (FA.out _ (HC.out.keep T4.out)).mono ?_; rintro e w' ⟨rfl, rfl⟩
      go_wp2_with fail
      go_ret
      exact ⟨rfl, T4.out⟩

theorem walk_PolyGcd (A : Option Addr) (f : List Int) (ca : Nat) (B : Option Addr) (g : List Int) (cb : Nat) (C : Option Addr) (h : List Int) (cc : Nat) (w : World) (ha : Lies w A f) (hca : f.length ≤ ca) (hb : Lies w B g) (hcb : g.length ≤ cb) (hc : Lies w C h) (hcc : h.length ≤ cc) :
    Calls Try.prog 5 #[.slice A f.length ca, .slice B g.length cb, .slice C h.length cc] w fun e w' => e = .returned (.bool true) ∧ Kp w w' := by
  by_cases bad : Pol.code2 f g = 0
  · obtain ⟨h1, h2⟩ := Pol.code2_zero bad
    obtain ⟨p, rfl, hp⟩ := Pol.code_zero h1
    obtain ⟨q, rfl, hq⟩ := Pol.code_zero h2
    rw [Pol.len_vals] at *
    rw [Pol.len_vals]
    exact gcd_law_ok A B C p q h ca cb cc w ha hb hc hp hq hca hcb hcc
  · exact gcd_law_bad A B C f g h ca cb cc w ha hb bad

end Go.Proofs.Ytakhnacfnobldaa
