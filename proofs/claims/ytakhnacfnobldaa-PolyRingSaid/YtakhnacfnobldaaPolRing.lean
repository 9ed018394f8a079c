/- The law PolyRing. -/
import Derived.Test.YtakhnacfnobldaaPolFact
namespace Go.Proofs.Ytakhnacfnobldaa
open Go.ChangeShapes Go.WideShapes Go.ChangeAt Go.RowKit
set_option linter.unusedVariables false

/-- An operation's answer, whatever it is: with the error of its arguments. -/
def SomeErr (x : Nat) (w : World) (e : Ending) (w' : World) : Prop := ∃ v, e = .returned (.tuple #[v, errOf x]) ∧ Kp w w'
theorem mul_some (A B : Option Addr) (l m : List Int) (c d : Nat) (w : World) (ha : Lies w A l) (hb : Lies w B m) :
    Calls Try.prog 9 #[.slice A l.length c, .slice B m.length d] w fun e w' => SomeErr (Pol.code2 l m) w e w' := by
  by_cases h : Pol.code2 l m = 0
  · obtain ⟨h1, h2⟩ := Pol.code2_zero h
    obtain ⟨p, rfl, hp⟩ := Pol.code_zero h1
    obtain ⟨q, rfl, hq⟩ := Pol.code_zero h2
    rw [h, Pol.len_vals, Pol.len_vals]
    exact (mul_ok A B p q c d w ha hb hp hq).mono fun e w' ⟨A', c', he, _, _, hk⟩ => ⟨_, he, hk⟩
  · exact (mul_bad A B l m c d w ha hb h).mono fun e w' ⟨he, hk⟩ => ⟨_, he, hk⟩
theorem add_some (A B : Option Addr) (l m : List Int) (c d : Nat) (w : World) (ha : Lies w A l) (hb : Lies w B m) :
    Calls Try.prog 10 #[.slice A l.length c, .slice B m.length d] w fun e w' => SomeErr (Pol.code2 l m) w e w' := by
  by_cases h : Pol.code2 l m = 0
  · obtain ⟨h1, h2⟩ := Pol.code2_zero h
    obtain ⟨p, rfl, hp⟩ := Pol.code_zero h1
    obtain ⟨q, rfl, hq⟩ := Pol.code_zero h2
    rw [h, Pol.len_vals, Pol.len_vals]
    exact (add_ok A B p q c d w ha hb hp hq).mono fun e w' ⟨A', c', he, _, _, hk⟩ => ⟨_, he, hk⟩
  · exact (add_bad A B l m c d w ha hb h).mono fun e w' ⟨he, hk⟩ => ⟨_, he, hk⟩

set_option maxRecDepth 100000 in
set_option maxHeartbeats 1600000 in
theorem ring_ok (A B C : Option Addr) (f g h : List Fp.F) (ca cb cc : Nat) (w : World) (ha : Lies w A (Pol.vals f)) (hb : Lies w B (Pol.vals g)) (hc : Lies w C (Pol.vals h)) (lf : f.length ≤ 12) (lg : g.length ≤ 12) (lh : h.length ≤ 12) :
    Calls Try.prog 3 #[.slice A f.length ca, .slice B g.length cb, .slice C h.length cc] w fun e w' => e = .returned (.bool true) ∧ Kp w w' := by
  have HA := Lib.hid ha
  have HB := Lib.hid hb
  have HC := Lib.hid hc
  clear ha hb hc
  obtain ⟨nf, hnf⟩ : ∃ n, n = f.length := ⟨_, rfl⟩
  obtain ⟨ng, hng⟩ : ∃ n, n = g.length := ⟨_, rfl⟩
  obtain ⟨nh, hnh⟩ : ∃ n, n = h.length := ⟨_, rfl⟩
  rw [← hnf] at lf ⊢
  rw [← hng] at lg ⊢
  rw [← hnh] at lh ⊢
  have HF := Lib.hid hnf
  have HG := Lib.hid hng
  have HH := Lib.hid hnh
  clear hnf hng hnh
  by_cases hs : nf + ng + nh ≤ 12
  · have L1 := Lib.hid (Pol.len_mul' f g (by have := HF.out; have := HG.out; omega))
    have L2 := Lib.hid (Pol.len_mul' g h (by have := HH.out; have := HG.out; omega))
    have L3 := Lib.hid (Pol.len_add g h)
    have L4 := Lib.hid (Pol.len_mul' f h (by have := HF.out; have := HH.out; omega))
    go_enter Try.func3, Try.ntmps3
    go_wp2_with fail
    refine (fact_any _).mono ?_; rintro e w1 ⟨rfl, hk⟩
    have K1 := Lib.hid hk
    clear hk
    go_wp2_with fail
    refine (mul_ok' A B f g nf ng _ _ _ (HA.out.keep K1.out) (HB.out.keep K1.out) HF.out HG.out lf lg).mono ?_
    rintro e w2 ⟨Aa, na, rfl, l, _, hk⟩
    have La := Lib.hid l
    have K2 := Lib.hid hk
    have T2 := Lib.hid (K1.out.trans hk)
    clear l hk
    go_wp2_with fail
    refine (mul_ok' B C g h ng nh _ _ _ (HB.out.keep T2.out) (HC.out.keep T2.out) HG.out HH.out lg lh).mono ?_
    rintro e w3 ⟨Ab, nb, rfl, l, _, hk⟩
    have Lb := Lib.hid l
    have K3 := Lib.hid hk
    have T3 := Lib.hid (T2.out.trans hk)
    clear l hk
    go_wp2_with fail
    refine (add_ok' B C g h ng nh _ _ _ (HB.out.keep T3.out) (HC.out.keep T3.out) HG.out HH.out lg lh).mono ?_
    rintro e w4 ⟨As, ns, rfl, l, _, hk⟩
    have Ls := Lib.hid l
    have K4 := Lib.hid hk
    have T4 := Lib.hid (T3.out.trans hk)
    clear l hk
    go_wp2_with fail
    refine (mul_ok' Aa C (Pol.mul f g) h _ nh _ _ _ (La.out.keep (K3.out.trans K4.out)) (HC.out.keep T4.out) rfl HH.out (by have := L1.out; have := HF.out; have := HG.out; omega) lh).mono ?_
    rintro e w5 ⟨Ac, nc, rfl, l, _, hk⟩
    have Lc := Lib.hid l
    have K5 := Lib.hid hk
    have T5 := Lib.hid (T4.out.trans hk)
    clear l hk
    go_wp2_with fail
    refine (mul_ok' A Ab f (Pol.mul g h) nf _ _ _ _ (HA.out.keep T5.out) (Lb.out.keep (K4.out.trans K5.out)) HF.out rfl lf (by have := L2.out; have := HH.out; have := HG.out; omega)).mono ?_
    rintro e w6 ⟨Ad, nd, rfl, l, _, hk⟩
    have Ld := Lib.hid l
    have K6 := Lib.hid hk
    have T6 := Lib.hid (T5.out.trans hk)
    clear l hk
    go_wp2_with fail
    refine (mul_ok' B A g f ng nf _ _ _ (HB.out.keep T6.out) (HA.out.keep T6.out) HG.out HF.out lg lf).mono ?_
    rintro e w7 ⟨Ak, nk, rfl, l, _, hk⟩
    have Lk := Lib.hid l
    have K7 := Lib.hid hk
    have T7 := Lib.hid (T6.out.trans hk)
    clear l hk
    go_wp2_with fail
    refine (mul_ok' A As f (Pol.add g h) nf _ _ _ _ (HA.out.keep T7.out) (Ls.out.keep ((K5.out.trans K6.out).trans K7.out)) HF.out rfl lf (by have := L3.out; have := HH.out; have := HG.out; omega)).mono ?_
    rintro e w8 ⟨Au, nu, rfl, l, _, hk⟩
    have Lu := Lib.hid l
    have K8 := Lib.hid hk
    have T8 := Lib.hid (T7.out.trans hk)
    clear l hk
    go_wp2_with fail
    refine (mul_ok' A C f h nf nh _ _ _ (HA.out.keep T8.out) (HC.out.keep T8.out) HF.out HH.out lf lh).mono ?_
    rintro e w9 ⟨Av, nv, rfl, l, _, hk⟩
    have Lv := Lib.hid l
    have K9 := Lib.hid hk
    have T9 := Lib.hid (T8.out.trans hk)
    clear l hk
    have La9 := Lib.hid (La.out.keep ((((((K3.out.trans K4.out).trans K5.out).trans K6.out).trans K7.out).trans K8.out).trans K9.out))
    have Lc9 := Lib.hid (Lc.out.keep (((K6.out.trans K7.out).trans K8.out).trans K9.out))
    have Ld9 := Lib.hid (Ld.out.keep ((K7.out.trans K8.out).trans K9.out))
    have Lk9 := Lib.hid (Lk.out.keep (K8.out.trans K9.out))
    have Lu9 := Lib.hid (Lu.out.keep K9.out)
    go_wp2_with fail
    refine (add_ok' Aa Av (Pol.mul f g) (Pol.mul f h) _ _ _ _ _ La9.out Lv.out rfl rfl (by have := L1.out; have := HF.out; have := HG.out; omega) (by have := L4.out; have := HF.out; have := HH.out; omega)).mono ?_
    rintro e w10 ⟨Aw, nw, rfl, l, _, hk⟩
    have Lw := Lib.hid l
    have K10 := Lib.hid hk
    have T10 := Lib.hid (T9.out.trans hk)
    clear l hk
    have M1 := Lib.hid (Pol.len_mul (Pol.mul f g) h)
    have M2 := Lib.hid (Pol.len_mul f (Pol.mul g h))
    have M3 := Lib.hid (Pol.len_mul g f)
    have M4 := Lib.hid (Pol.len_mul f (Pol.add g h))
    have M5 := Lib.hid (Pol.len_add (Pol.mul f g) (Pol.mul f h))
    go_wp2_with fail
    refine (ints_eq' Ac Ad (Pol.mul (Pol.mul f g) h) (Pol.mul f (Pol.mul g h)) _ _ _ _ _ (Lc9.out.keep K10.out) (Ld9.out.keep K10.out) rfl rfl (by have := M1.out; have := L1.out; have := HF.out; have := HG.out; have := HH.out; omega)
      (Pol.same _ _ (Pol.tr_mul _ _) (Pol.tr_mul _ _) (by have := M1.out; have := L1.out; have := HF.out; have := HG.out; have := HH.out; omega) (by have := M2.out; have := L2.out; have := HF.out; have := HG.out; have := HH.out; omega) fun x => by
        rw [Pol.ev_mul, Pol.ev_mul, Pol.ev_mul, Pol.ev_mul, Fin.mul_assoc])).mono ?_
    rintro e w11 ⟨rfl, hk⟩
    have K11 := Lib.hid (K10.out.trans hk)
    have T11 := Lib.hid (T10.out.trans hk)
    have Lw11 := Lib.hid (Lw.out.keep hk)
    clear hk
    go_wp2_with fail
    refine (ints_eq' Aa Ak (Pol.mul f g) (Pol.mul g f) _ _ _ _ _ (La9.out.keep K11.out) (Lk9.out.keep K11.out) rfl rfl (by have := L1.out; have := HF.out; have := HG.out; omega)
      (Pol.same _ _ (Pol.tr_mul _ _) (Pol.tr_mul _ _) (by have := L1.out; have := HF.out; have := HG.out; omega) (by have := M3.out; have := HF.out; have := HG.out; omega) fun x => by
        rw [Pol.ev_mul, Pol.ev_mul, Fin.mul_comm])).mono ?_
    rintro e w12 ⟨rfl, hk⟩
    have K12 := Lib.hid (K11.out.trans hk)
    have T12 := Lib.hid (T11.out.trans hk)
    have Lw12 := Lib.hid (Lw11.out.keep hk)
    clear hk
    go_wp2_with fail
    refine (ints_eq' Au Aw (Pol.mul f (Pol.add g h)) (Pol.add (Pol.mul f g) (Pol.mul f h)) _ _ _ _ _ (Lu9.out.keep K12.out) Lw12.out rfl rfl (by have := M4.out; have := L3.out; have := HF.out; have := HG.out; have := HH.out; omega)
      (Pol.same _ _ (Pol.tr_mul _ _) (Pol.tr_add _ _) (by have := M4.out; have := L3.out; have := HF.out; have := HG.out; have := HH.out; omega) (by have := M5.out; have := L1.out; have := L4.out; have := HF.out; have := HG.out; have := HH.out; omega) fun x => by
        rw [Pol.ev_mul, Pol.ev_add, Pol.ev_add, Pol.ev_mul, Pol.ev_mul, Fp.mul_add])).mono ?_
    rintro e w13 ⟨rfl, hk⟩
    have T13 := Lib.hid (T12.out.trans hk)
    clear hk
    go_wp2_with fail
    go_ret
    exact ⟨rfl, T13.out⟩
  · have hs' : ¬ ((nf : Int) + ng + nh ≤ 12) := by omega
    clear hs
    go_enter Try.func3, Try.ntmps3
    go_wp2_with fail
    refine (fact_any _).mono ?_; rintro e w1 ⟨rfl, hk⟩
    have K1 := Lib.hid hk
    clear hk
    go_wp2_with fail
    go_ret
    exact ⟨rfl, K1.out⟩

/-- The errors of three rows. -/
theorem ring_bad (A B C : Option Addr) (f g h : List Int) (ca cb cc : Nat) (w : World) (ha : Lies w A f) (hb : Lies w B g) (hc : Lies w C h) (bad : ¬ (Pol.code f = 0 ∧ Pol.code g = 0 ∧ Pol.code h = 0)) :
    Calls Try.prog 3 #[.slice A f.length ca, .slice B g.length cb, .slice C h.length cc] w fun e w' => e = .returned (.bool true) ∧ Kp w w' := by
  have HA := Lib.hid ha
  have HB := Lib.hid hb
  have HC := Lib.hid hc
  have M1 := Lib.hid (fun w => mul_some A B f g ca cb w)
  have M2 := Lib.hid (fun w => mul_some B C g h cb cc w)
  have M3 := Lib.hid (fun w => add_some B C g h cb cc w)
  have F1 := Lib.hid (fun w => refFactors_any A f ca w)
  have F2 := Lib.hid (fun w => refFactors_any B g cb w)
  have F3 := Lib.hid (fun w => refFactors_any C h cc w)
  clear ha hb hc
  unfold Pol.code2 at M1 M2 M3
  generalize Pol.code f = xf at *
  generalize Pol.code g = xg at *
  generalize Pol.code h = xh at *
  generalize f.length = nf at *
  generalize g.length = ng at *
  generalize h.length = nh at *
  by_cases hb : 12 < wrap64 (wrap64 ((nf : Int) + ng) + nh)
  · go_enter Try.func3, Try.ntmps3
    go_wp2_with fail
    refine (fact_any _).mono ?_; rintro e w1 ⟨rfl, hk⟩
    have K1 := Lib.hid hk
    clear hk
    go_wp2_with fail
    go_ret
    exact ⟨rfl, K1.out⟩
  by_cases h1 : xf = 0
  · by_cases h2 : xg = 0
    · have h3 : xh ≠ 0 := fun e => bad ⟨h1, h2, e⟩
      subst h1 h2
      clear bad
      rw [if_pos rfl] at M1 M2 M3
      have hx : ((xh : Int) != 0) = true := by rw [bne_iff_ne]; omega
      go_enter Try.func3, Try.ntmps3
      go_wp2_with fail
      refine (fact_any _).mono ?_; rintro e w1 ⟨rfl, hk⟩
      have K1 := Lib.hid hk
      clear hk
      go_wp2_with fail
      refine (M1.out _ (HA.out.keep K1.out) (HB.out.keep K1.out)).mono ?_; rintro e w2 ⟨v1, rfl, hk⟩
      have K2 := Lib.hid (K1.out.trans hk)
      clear hk
      rw [errOf_zero]
      go_wp2_with fail
      refine (M2.out _ (HB.out.keep K2.out) (HC.out.keep K2.out)).mono ?_; rintro e w3 ⟨v2, rfl, hk⟩
      have K3 := Lib.hid (K2.out.trans hk)
      clear hk
      rw [errOf_ne _ h3]
      go_wp2_with fail
      refine (M3.out _ (HB.out.keep K3.out) (HC.out.keep K3.out)).mono ?_; rintro e w4 ⟨v3, rfl, hk⟩
      have K4 := Lib.hid (K3.out.trans hk)
      clear hk
      go_wp2_with fail
      refine (F1.out _ (HA.out.keep K4.out)).mono ?_; rintro e w' ⟨rfl, rfl⟩
      go_wp2_with fail
      refine (F2.out _ (HB.out.keep K4.out)).mono ?_; rintro e w' ⟨rfl, rfl⟩
      go_wp2_with fail
      refine (F3.out _ (HC.out.keep K4.out)).mono ?_; rintro e w' ⟨rfl, rfl⟩
      go_wp2_with fail
      go_ret
      exact ⟨rfl, K4.out⟩
    · subst h1
      clear bad
      rw [if_pos rfl] at M1
      rw [if_neg h2] at M2 M3
      have hx : ((xg : Int) != 0) = true := by rw [bne_iff_ne]; omega
      go_enter Try.func3, Try.ntmps3
      go_wp2_with fail
      refine (fact_any _).mono ?_; rintro e w1 ⟨rfl, hk⟩
      have K1 := Lib.hid hk
      clear hk
      go_wp2_with fail
      refine (M1.out _ (HA.out.keep K1.out) (HB.out.keep K1.out)).mono ?_; rintro e w2 ⟨v1, rfl, hk⟩
      have K2 := Lib.hid (K1.out.trans hk)
      clear hk
      rw [errOf_ne _ h2]
      go_wp2_with fail
      refine (M2.out _ (HB.out.keep K2.out) (HC.out.keep K2.out)).mono ?_; rintro e w3 ⟨v2, rfl, hk⟩
      have K3 := Lib.hid (K2.out.trans hk)
      clear hk
      go_wp2_with fail
      refine (M3.out _ (HB.out.keep K3.out) (HC.out.keep K3.out)).mono ?_; rintro e w4 ⟨v3, rfl, hk⟩
      have K4 := Lib.hid (K3.out.trans hk)
      clear hk
      go_wp2_with fail
      refine (F1.out _ (HA.out.keep K4.out)).mono ?_; rintro e w' ⟨rfl, rfl⟩
      go_wp2_with fail
      refine (F2.out _ (HB.out.keep K4.out)).mono ?_; rintro e w' ⟨rfl, rfl⟩
      go_wp2_with fail
      go_ret
      exact ⟨rfl, K4.out⟩
  · · clear bad
      rw [if_neg h1] at M1
      generalize (if xg = 0 then xh else xg) = y at *
      have hx : ((xf : Int) != 0) = true := by rw [bne_iff_ne]; omega
      go_enter Try.func3, Try.ntmps3
      go_wp2_with fail
      refine (fact_any _).mono ?_; rintro e w1 ⟨rfl, hk⟩
      have K1 := Lib.hid hk
      clear hk
      go_wp2_with fail
      refine (M1.out _ (HA.out.keep K1.out) (HB.out.keep K1.out)).mono ?_; rintro e w2 ⟨v1, rfl, hk⟩
      have K2 := Lib.hid (K1.out.trans hk)
      clear hk
      rw [errOf_ne _ h1]
      go_wp2_with fail
      refine (M2.out _ (HB.out.keep K2.out) (HC.out.keep K2.out)).mono ?_; rintro e w3 ⟨v2, rfl, hk⟩
      have K3 := Lib.hid (K2.out.trans hk)
      clear hk
      go_wp2_with fail
      refine (M3.out _ (HB.out.keep K3.out) (HC.out.keep K3.out)).mono ?_; rintro e w4 ⟨v3, rfl, hk⟩
      have K4 := Lib.hid (K3.out.trans hk)
      clear hk
      go_wp2_with fail
      refine (F1.out _ (HA.out.keep K4.out)).mono ?_; rintro e w' ⟨rfl, rfl⟩
      go_wp2_with fail
      go_ret
      exact ⟨rfl, K4.out⟩

theorem walk_PolyRing (A : Option Addr) (f : List Int) (ca : Nat) (B : Option Addr) (g : List Int) (cb : Nat) (C : Option Addr) (h : List Int) (cc : Nat) (w : World) (ha : Lies w A f) (hb : Lies w B g) (hc : Lies w C h) :
    Calls Try.prog 3 #[.slice A f.length ca, .slice B g.length cb, .slice C h.length cc] w fun e w' => e = .returned (.bool true) ∧ Kp w w' := by
  by_cases bad : Pol.code f = 0 ∧ Pol.code g = 0 ∧ Pol.code h = 0
  · obtain ⟨h1, h2, h3⟩ := bad
    obtain ⟨p, rfl, hp⟩ := Pol.code_zero h1
    obtain ⟨q, rfl, hq⟩ := Pol.code_zero h2
    obtain ⟨r, rfl, hr⟩ := Pol.code_zero h3
    rw [Pol.len_vals, Pol.len_vals, Pol.len_vals]
    exact ring_ok A B C p q r ca cb cc w ha hb hc hp hq hr
  · exact ring_bad A B C f g h ca cb cc w ha hb hc bad

end Go.Proofs.Ytakhnacfnobldaa
