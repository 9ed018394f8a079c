/- The laws PolyAt and PolyRoot. -/
import Derived.Test.YtakhnacfnobldaaPolFact
namespace Go.Proofs.Ytakhnacfnobldaa
open Go.ChangeShapes Go.WideShapes Go.ChangeAt Go.RowKit
set_option linter.unusedVariables false

/-- A place that is an element, or none. -/
theorem place (x : Int) : (∃ a : Fp.F, x = (a.val : Int)) ∨ ¬ (0 ≤ x ∧ x ≤ 9972) := by
  by_cases h : 0 ≤ x ∧ x ≤ 9972
  · exact .inl ⟨Fp.ofInt x, (Fp.ofInt_of x h.1 h.2).symm⟩
  · exact .inr h
theorem atCode_zero {l : List Int} {x : Int} (h : atCode l x = 0) : ∃ (p : List Fp.F) (a : Fp.F), l = Pol.vals p ∧ p.length ≤ 12 ∧ x = (a.val : Int) := by
  unfold atCode at h
  split at h
  · rename_i hc
    split at h
    · rename_i hx
      obtain ⟨p, e, hp⟩ := Pol.code_zero hc
      exact ⟨p, _, e, hp, (Fp.ofInt_of x hx.1 hx.2).symm⟩
    · cases h
  · rename_i hc; exact absurd h hc
theorem atCode_vals (p : List Fp.F) (a : Fp.F) (h : p.length ≤ 12) : atCode (Pol.vals p) (a.val : Int) = 0 := by
  unfold atCode
  rw [if_pos (Pol.code_vals p h), if_pos (Fp.val_bound a)]
/-- What At answers, whatever comes in. -/
theorem at_some (A : Option Addr) (l : List Int) (c : Nat) (x : Int) (w : World) (ha : Lies w A l) :
    Calls Try.prog 16 #[.slice A l.length c, .int .i64 x] w fun e w' => (∃ v : Int, e = .returned (.tuple #[.int .i64 v, errOf (atCode l x)]) ∧ (atCode l x ≠ 0 → v = 0)) ∧ w = w' := by
  by_cases h : atCode l x = 0
  · obtain ⟨p, a, rfl, hp, rfl⟩ := atCode_zero h
    rw [h, Pol.len_vals]
    exact (at_ok' A p _ c a w ha rfl hp).mono fun e w' ⟨he, hk⟩ => ⟨⟨_, he, fun h => absurd rfl h⟩, hk⟩
  · exact (at_bad A l c x w ha h).mono fun e w' ⟨he, hk⟩ => ⟨⟨0, he, fun _ => rfl⟩, hk⟩

set_option maxRecDepth 100000 in
set_option maxHeartbeats 1600000 in
theorem at_law_bad (A B : Option Addr) (f g : List Int) (ca cb : Nat) (x : Int) (w : World) (ha : Lies w A f) (hb : Lies w B g) (bad : ¬ (atCode f x = 0 ∧ atCode g x = 0)) :
    Calls Try.prog 6 #[.slice A f.length ca, .slice B g.length cb, .int .i64 x] w fun e w' => e = .returned (.bool true) ∧ Kp w w' := by
  have HA := Lib.hid ha
  have HB := Lib.hid hb
  have M1 := Lib.hid (fun w => at_some A f ca x w)
  have M2 := Lib.hid (fun w => at_some B g cb x w)
  clear ha hb
  generalize atCode f x = xf at *
  generalize atCode g x = xg at *
  generalize f.length = nf at *
  generalize g.length = ng at *
  by_cases h1 : xf = 0
  · have h2 : xg ≠ 0 := fun e => bad ⟨h1, e⟩
    subst h1
    clear bad
    go_enter Try.func6, Try.ntmps6
    go_wp2_with fail
    refine (fact_any _).mono ?_; rintro e w1 ⟨rfl, hk⟩
    have K1 := Lib.hid hk
    clear hk
    go_wp2_with fail
    refine (M1.out _ (HA.out.keep K1.out)).mono ?_; rintro e w' ⟨⟨v, rfl, _⟩, rfl⟩
    rw [errOf_zero]
    go_wp2_with fail
    refine (M2.out _ (HB.out.keep K1.out)).mono ?_; rintro e w' ⟨⟨v2, rfl, _⟩, rfl⟩
    rw [errOf_ne _ h2]
    go_wp2_with fail
    go_ret
    exact ⟨rfl, K1.out⟩
  · clear bad
    go_enter Try.func6, Try.ntmps6
    go_wp2_with fail
    refine (fact_any _).mono ?_; rintro e w1 ⟨rfl, hk⟩
    have K1 := Lib.hid hk
    clear hk
    go_wp2_with fail
    refine (M1.out _ (HA.out.keep K1.out)).mono ?_; rintro e w' ⟨⟨v, rfl, hv⟩, rfl⟩
    obtain rfl := hv h1
    rw [errOf_ne _ h1]
    go_wp2_with fail
    refine (M2.out _ (HB.out.keep K1.out)).mono ?_; rintro e w' ⟨⟨v2, rfl, _⟩, rfl⟩
    generalize errOf xg = y at *
    go_wp2_with fail
    go_ret
    exact ⟨rfl, K1.out⟩

set_option maxRecDepth 100000 in
set_option maxHeartbeats 1600000 in
theorem at_law_ok (A B : Option Addr) (f g : List Fp.F) (ca cb : Nat) (x : Fp.F) (w : World) (ha : Lies w A (Pol.vals f)) (hb : Lies w B (Pol.vals g)) (lf : f.length ≤ 12) (lg : g.length ≤ 12) :
    Calls Try.prog 6 #[.slice A f.length ca, .slice B g.length cb, el x] w fun e w' => e = .returned (.bool true) ∧ Kp w w' := by
  have HA := Lib.hid ha
  have HB := Lib.hid hb
  clear ha hb
  obtain ⟨nf, hnf⟩ : ∃ n, n = f.length := ⟨_, rfl⟩
  obtain ⟨ng, hng⟩ : ∃ n, n = g.length := ⟨_, rfl⟩
  rw [← hnf] at lf ⊢
  rw [← hng] at lg ⊢
  have HF := Lib.hid hnf
  have HG := Lib.hid hng
  clear hnf hng
  by_cases hs : nf + ng ≤ 12
  · have L1 := Lib.hid (Pol.len_mul' f g (by have := HF.out; have := HG.out; omega))
    have L2 := Lib.hid (Pol.len_add f g)
    have E1 := Lib.hid (Pol.ev_mul f g x)
    have E2 := Lib.hid (Pol.ev_add f g x)
    go_enter Try.func6, Try.ntmps6
    go_wp2_with fail
    refine (fact_any _).mono ?_; rintro e w1 ⟨rfl, hk⟩
    have K1 := Lib.hid hk
    clear hk
    go_wp2_with fail
    refine (at_ok' A f nf _ x _ (HA.out.keep K1.out) HF.out lf).mono ?_; rintro e w' ⟨rfl, rfl⟩
    go_wp2_with fail
    refine (at_ok' B g ng _ x _ (HB.out.keep K1.out) HG.out lg).mono ?_; rintro e w' ⟨rfl, rfl⟩
    go_wp2_with fail
    refine (mul_ok' A B f g nf ng _ _ _ (HA.out.keep K1.out) (HB.out.keep K1.out) HF.out HG.out lf lg).mono ?_
    rintro e w2 ⟨Am, nm, rfl, l, _, hk⟩
    have Lm := Lib.hid l
    have T2 := Lib.hid (K1.out.trans hk)
    clear l hk
    go_wp2_with fail
    refine (add_ok' A B f g nf ng _ _ _ (HA.out.keep T2.out) (HB.out.keep T2.out) HF.out HG.out lf lg).mono ?_
    rintro e w3 ⟨As, ns, rfl, l, _, hk⟩
    have Ls := Lib.hid l
    have Lm3 := Lib.hid (Lm.out.keep hk)
    have T3 := Lib.hid (T2.out.trans hk)
    clear l hk
    go_wp2_with fail
    refine (at_ok' Am (Pol.mul f g) _ _ x _ Lm3.out rfl (by have := L1.out; have := HF.out; have := HG.out; omega)).mono ?_; rintro e w' ⟨rfl, rfl⟩
    rw [E1.out]
    go_wp2_with fail
    refine (at_ok' As (Pol.add f g) _ _ x _ Ls.out rfl (by have := L2.out; have := HF.out; have := HG.out; omega)).mono ?_; rintro e w' ⟨rfl, rfl⟩
    rw [E2.out]
    generalize Pol.ev f x = a at *
    generalize Pol.ev g x = b at *
    obtain ⟨p1, p2⟩ := prod_bound a b
    have a1 := Fp.val_bound a
    have b1 := Fp.val_bound b
    have EM := Lib.hid (Fp.mul_val a b)
    have EA := Lib.hid (Fp.add_val a b)
    unfold el
    generalize ((a * b).val : Int) = ab at *
    generalize ((a + b).val : Int) = sab at *
    generalize (a.val : Int) = av at *
    generalize (b.val : Int) = bv at *
    go_wp2_with fail
    refine (lawIn_any av 0 9972 _ true (by simp; omega)).mono ?_; rintro e w' ⟨rfl, rfl⟩
    go_wp2_with fail
    refine (lawIn_any bv 0 9972 _ true (by simp; omega)).mono ?_; rintro e w' ⟨rfl, rfl⟩
    go_wp2_with fail
    refine (refMod_any (av * bv) _ (by omega) (by omega)).mono ?_; rintro e w' ⟨rfl, rfl⟩
    rw [← EM.out]
    go_wp2_with fail
    refine (refMod_any (av + bv) _ (by omega) (by omega)).mono ?_; rintro e w' ⟨rfl, rfl⟩
    rw [← EA.out]
    go_wp2_with fail
    go_ret
    exact ⟨by simp [go_sem], T3.out⟩
  · have hs' : ¬ ((nf : Int) + ng ≤ 12) := by omega
    clear hs
    go_enter Try.func6, Try.ntmps6
    go_wp2_with fail
    refine (fact_any _).mono ?_; rintro e w1 ⟨rfl, hk⟩
    have K1 := Lib.hid hk
    clear hk
    go_wp2_with fail
    refine (at_ok' A f nf _ x _ (HA.out.keep K1.out) HF.out lf).mono ?_; rintro e w' ⟨rfl, rfl⟩
    go_wp2_with fail
    refine (at_ok' B g ng _ x _ (HB.out.keep K1.out) HG.out lg).mono ?_; rintro e w' ⟨rfl, rfl⟩
    go_wp2_with fail
    go_ret
    exact ⟨rfl, K1.out⟩

theorem walk_PolyAt (A : Option Addr) (f : List Int) (ca : Nat) (B : Option Addr) (g : List Int) (cb : Nat) (x : Int) (w : World) (ha : Lies w A f) (hb : Lies w B g) :
    Calls Try.prog 6 #[.slice A f.length ca, .slice B g.length cb, .int .i64 x] w fun e w' => e = .returned (.bool true) ∧ Kp w w' := by
  by_cases bad : atCode f x = 0 ∧ atCode g x = 0
  · obtain ⟨h1, h2⟩ := bad
    obtain ⟨p, a, rfl, hp, rfl⟩ := atCode_zero h1
    obtain ⟨q, a', rfl, hq, e⟩ := atCode_zero h2
    rw [Pol.len_vals, Pol.len_vals]
    exact at_law_ok A B p q ca cb a w ha hb hp hq
  · exact at_law_bad A B f g ca cb x w ha hb bad

theorem neg_val (a : Fp.F) : (-(a.val : Int)) % 9973 = ((-a).val : Int) := by
  have e : Fp.ofInt (-(a.val : Int)) = -a := by
    have : Fp.ofInt (-(a.val : Int)) + Fp.ofInt (a.val : Int) = 0 := by
      rw [← Fp.ofInt_add, show -(a.val : Int) + (a.val : Int) = 0 by omega]; rfl
    rw [Fp.ofInt_self] at this; grind
  rw [← e, Fp.ofInt_val]

theorem root_trim (a : Fp.F) : Pol.trim [-a, 1] = [-a, 1] := Pol.trim_not [-a] 1 Fp.one_ne
theorem root_rest {p q r : List Fp.F} {a : Fp.F} (h : Pol.Dv (Pol.trim p) (Pol.trim [-a, 1]) q r) : (Pol.ev p a = 0 → r = []) ∧ (Pol.ev p a ≠ 0 → r = [Pol.ev p a]) := by
  rw [root_trim] at h
  have e := h.eq a
  have hl := h.lt
  have ht := h.tr
  have z : Pol.ev [-a, 1] a = 0 := by
    rw [Pol.ev_cons, Pol.ev_cons, Pol.ev_nil]; grind
  rw [Pol.ev_trim, z] at e
  have e2 : Pol.ev p a = Pol.ev r a := by rw [e]; grind
  rw [e2]
  match r, ht, hl with
  | [], _, _ => exact ⟨fun _ => rfl, fun h => absurd rfl h⟩
  | [b], ht, _ =>
    rw [Pol.ev_one]
    exact ⟨fun hb => absurd hb (ht (by simp)), fun _ => rfl⟩
  | _ :: _ :: _, _, hl => simp at hl; omega

set_option maxRecDepth 100000 in
set_option maxHeartbeats 1600000 in
theorem walk_PolyRoot (A : Option Addr) (f : List Int) (ca : Nat) (x : Int) (w : World) (ha : Lies w A f) (hc : f.length ≤ ca) :
    Calls Try.prog 7 #[.slice A f.length ca, .int .i64 x] w fun e w' => e = .returned (.bool true) ∧ Kp w w' := by
  have HA := Lib.hid ha
  by_cases bad : atCode f x = 0
  · obtain ⟨p, a, rfl, hp, rfl⟩ := atCode_zero bad
    rw [Pol.len_vals] at *
    obtain ⟨n, hn⟩ : ∃ n, n = p.length := ⟨_, rfl⟩
    rw [← hn] at hp hc ⊢
    have HN := Lib.hid hn
    have HV := Lib.hid (neg_val a)
    have hAT := Lib.hid (fun w h => at_ok' A p n ca a w h HN.out hp)
    have x1 := Fp.val_bound a
    have HT := Lib.hid (fun q r (h : Pol.Dv (Pol.trim p) (Pol.trim [-a, 1]) q r) => root_rest h)
    clear ha hn bad
    obtain ⟨v, hv⟩ : ∃ v, v = Pol.ev p a := ⟨_, rfl⟩
    rw [← hv] at hAT HT
    unfold el at hAT
    generalize hxa : (a.val : Int) = xa at *
    clear hv hxa
    go_enter Try.func7, Try.ntmps7
    go_wp2_with fail
    refine (fact_any _).mono ?_; rintro e w1 ⟨rfl, hk⟩
    have K1 := Lib.hid hk
    clear hk
    go_wp2_with fail
    refine (hAT.out _ (HA.out.keep K1.out)).mono ?_; rintro e w' ⟨rfl, rfl⟩
    go_wp2_with fail
    refine (refMod_any (-xa) _ (by omega) (by omega)).mono ?_; rintro e w' ⟨rfl, rfl⟩
    rw [HV.out]
    go_wp2_with fail
    refine (div_ok' A (some ⟨w1.heap.size, 0, none⟩) p [-a, 1] n 2 ca 2 _ ((HA.out.keep K1.out).keep ((Kp.rfl' _).new _)) (lies_new w1 _ [((-a).val : Int), 1]) HN.out rfl hp (by decide) hc (by decide) (by rw [root_trim]; simp)).mono ?_
    rintro e w2 ⟨q, r, dv, A2, c2, A3, c3, rfl, l2, lc2, l3, lc3, hk2⟩
    have T2 := Lib.hid (K1.out.trans (((Kp.rfl' w1).new _).trans hk2))
    have L3 := Lib.hid l3
    obtain ⟨hr0, hr1⟩ := HT.out q r dv
    clear dv hk2 l2 l3
    by_cases h0 : v = 0
    · obtain rfl := hr0 h0
      have e0 : ((v.val : Int) == 0) = true := by rw [h0]; rfl
      clear hr0 hr1 h0
      generalize (v.val : Int) = vv at *
      go_wp2_with fail
      go_ret
      exact ⟨rfl, T2.out⟩
    · obtain rfl := hr1 h0
      have e0 : ((v.val : Int) == 0) = false := by rw [beq_eq_false_iff_ne]; intro e; exact h0 (Fp.val_inj e)
      clear hr0 hr1 h0
      have LV := Lib.hid (fun w => lies_new w 3 (Pol.vals [v]))
      have hvv : Pol.vals [v] = [(v.val : Int)] := rfl
      go_wp2_with fail
      refine (ints_eq' A3 (some ⟨w2.heap.size, 0, none⟩) [v] [v] 1 1 c3 1 _ (L3.out.keep ((Kp.rfl' w2).new _)) (LV.out w2) rfl rfl (by decide) rfl).mono ?_
      rintro e w3 ⟨rfl, hk3⟩
      have T3 := Lib.hid (T2.out.trans (((Kp.rfl' w2).new _).trans hk3))
      clear hk3
      go_wp2_with fail
      go_ret
      exact ⟨rfl, T3.out⟩
  · have M1 := Lib.hid (fun w => at_bad A f ca x w)
    generalize hxf : atCode f x = xf at *
    clear hxf
    generalize f.length = nf at *
    clear ha hc
    go_enter Try.func7, Try.ntmps7
    go_wp2_with fail
    refine (fact_any _).mono ?_; rintro e w1 ⟨rfl, hk⟩
    have K1 := Lib.hid hk
    clear hk
    go_wp2_with fail
    refine (M1.out _ (HA.out.keep K1.out) bad).mono ?_; rintro e w' ⟨rfl, rfl⟩
    rw [errOf_ne _ bad]
    go_wp2_with fail
    go_ret
    exact ⟨rfl, K1.out⟩

end Go.Proofs.Ytakhnacfnobldaa
