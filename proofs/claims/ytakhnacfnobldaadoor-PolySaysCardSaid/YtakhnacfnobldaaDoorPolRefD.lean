/- Contracts of the document's answer for package poly, second part: Divide and Common. -/
import Derived.Test.YtakhnacfnobldaaDoorPolRef
namespace Go.Proofs.YtakhnacfnobldaaDoor
open Go.ChangeShapes Go.WideShapes Go.ChangeAt Go.RowKit
set_option linter.unusedVariables false

theorem refPlus_at (A B : Option Addr) (p g : List Fp.F) (n m c d : Nat) (T U : Int) (t : Fp.F) (up : Nat) (w : World) (ha : Lies w A (Pol.vals p)) (hb : Lies w B (Pol.vals g)) (hn : n = p.length) (hm : m = g.length)
    (ln : n ≤ 100) (lm : m ≤ 100) (lu : up ≤ 100) (hT : Fp.ofInt T = t) (T1 : -9972 ≤ T) (T2 : T ≤ 9972) (hU : U = (up : Int)) :
    Calls Tryd.prog 7 #[.slice A n c, .slice B m d, .int .i64 T, .int .i64 U] w fun e w' => GivesRow (Pol.plus p g t up) w e w' := by
  subst hU; exact refPlus_any A B p g n m c d T t up w ha hb hn hm ln lm lu hT T1 T2

/-- The answer is two rows of factors. -/
def GivesRows (q r : List Fp.F) (w : World) (e : Ending) (w' : World) : Prop :=
  ∃ A c B d, e = .returned (.tuple #[.slice A q.length c, .slice B r.length d]) ∧ Lies w' A (Pol.vals q) ∧ q.length ≤ c ∧ Lies w' B (Pol.vals r) ∧ r.length ≤ d ∧ Kp w w'

/-- What the document's dividing keeps. -/
def DivRel (F G : List Fp.F) (w : World) (u v : Value) (wr : World) : Prop :=
  ∃ (A1 : Option Addr) (c1 l1 : Nat) (A2 : Option Addr) (c2 l2 : Nat) (fl ql : List Fp.F), u = .slice A1 l1 c1 ∧ v = .slice A2 l2 c2 ∧ l1 = fl.length ∧ l2 = ql.length ∧ Lies wr A1 (Pol.vals fl) ∧ Lies wr A2 (Pol.vals ql) ∧ l1 ≤ c1 ∧ l2 ≤ c2 ∧
    Pol.Tr fl ∧ Pol.Tr ql ∧ l1 ≤ F.length ∧ l2 ≤ F.length ∧ (∀ x, Pol.ev F x = Pol.ev G x * Pol.ev ql x + Pol.ev fl x) ∧ Kp w wr

theorem plus_step {F G fl ql : List Fp.F} (q : Fp.F) (up : Nat) (h : ∀ x, Pol.ev F x = Pol.ev G x * Pol.ev ql x + Pol.ev fl x) (x : Fp.F) :
    Pol.ev F x = Pol.ev G x * Pol.ev (Pol.plus ql [q] 1 up) x + Pol.ev (Pol.plus fl G (-q) up) x := by
  rw [Pol.ev_plus, Pol.ev_plus, Pol.ev_one, h]; grind

set_option maxRecDepth 100000 in
set_option maxHeartbeats 3200000 in
theorem refDivide_any (A B : Option Addr) (p g : List Fp.F) (n m c d : Nat) (w : World) (ha : Lies w A (Pol.vals p)) (hb : Lies w B (Pol.vals g)) (hn : n = p.length) (hm : m = g.length) (ln : n ≤ 40) (lm : m ≤ 40) (hc : n ≤ c) (hd : m ≤ d) (g0 : Pol.trim g ≠ []) :
    Calls Tryd.prog 15 #[.slice A n c, .slice B m d] w fun e w' => ∃ q r, Pol.Dv (Pol.trim p) (Pol.trim g) q r ∧ GivesRows q r w e w' := by
  have HA := Lib.hid ha
  have HB := Lib.hid hb.trim
  have TA := Lib.hid (show Calls Tryd.prog 14 #[.slice A n c] w fun e w' => e = .returned (.slice A (Pol.trim p).length c) ∧ w = w' by subst hn; exact refTrim_any A p c w ha hc (by omega))
  have TB := Lib.hid (show Calls Tryd.prog 14 #[.slice B m d] w fun e w' => e = .returned (.slice B (Pol.trim g).length d) ∧ w = w' by subst hm; exact refTrim_any B g d w hb hd (by omega))
  have START := Lib.hid (show ∀ (A2 : Option Addr) (wr : World), Kp w wr → DivRel (Pol.trim p) (Pol.trim g) w (.slice A (Pol.trim p).length c) (.slice A2 0 0) wr from fun A2 wr hk =>
    ⟨A, c, _, A2, 0, 0, Pol.trim p, [], rfl, rfl, rfl, rfl, ha.trim.keep hk, Lies.empty _ _, by have := Pol.len_trim p; omega, Nat.le_refl _, Pol.tr_trim p, Pol.tr_nil, Nat.le_refl _, Nat.zero_le _, fun x => by rw [Pol.ev_nil]; grind, hk⟩)
  have lf : (Pol.trim p).length ≤ 40 := by have := Pol.len_trim p; omega
  have lg : (Pol.trim g).length ≤ 40 := by have := Pol.len_trim g; omega
  have tg := Pol.tr_trim g
  generalize Pol.trim p = F at *
  generalize Pol.trim g = G at *
  have TG := Lib.hid tg
  have G0 := Lib.hid g0
  obtain ⟨b, hb1⟩ : ∃ b, G.length = b + 1 := ⟨G.length - 1, by have := List.length_pos_iff.2 g0; omega⟩
  rw [hb1] at TB lg
  have HGL := Lib.hid hb1
  obtain ⟨tf, htf⟩ : ∃ tf, tf = F.length := ⟨_, rfl⟩
  rw [← htf] at TA START lf
  have HTF := Lib.hid htf
  obtain ⟨gd, rfl, _⟩ := HB.out b (by rw [Pol.len_vals, HGL.out]; omega)
  obtain ⟨tgv, htgv⟩ : ∃ t, t = Pol.top G := ⟨_, rfl⟩
  have HTV := Lib.hid htgv
  have TV0 := Lib.hid (show tgv ≠ 0 by rw [htgv]; exact Pol.top_ne tg g0)
  clear ha hb hn hm tg g0 hb1 htf htgv
  obtain ⟨i0, hi, hz0, hz1, hz2⟩ := info_parts int_info
  go_enter Tryd.func15, Tryd.ntmps15
  go_wp2_with fail
  refine (TA.out).mono ?_; rintro e w' ⟨rfl, rfl⟩
  go_wp2_with fail
  refine (TB.out).mono ?_; rintro e w' ⟨rfl, rfl⟩
  go_wp2_with (at_make; refine wpList_make_full _ rfl _ _ 22 rfl w.heap.size 3 i0 (.int .i64 0) 1 Tryd.underlying22 hi hz0 hz1 _ _ _ _ 0 rfl rfl rfl rfl (by rw [hz2]; omega) (by unfold maxLen; omega) (Nat.le_refl _) ?_; intro w1 hown hgrow; have hkp : Kp w w1 := (Kp.rfl' w).grown hgrow (Nat.le_refl _) (fun k hk => by cases hk); clear hown hgrow)
  clear hi hz0 hz1 hz2 TA TB
  go_loopw [0, 6] (fun u v wr => DivRel F G w u v wr) (fun u _ _ => sliceLen u)
  case atStart => exact START.out _ _ hkp
  case round =>
    clear hkp START
    obtain ⟨A1, c1, l1, A2, c2, l2, fl, ql, rfl, rfl, hl1, hl2, la, lb, hc1, hc2, tf1, tq1, le1, le2, heq, hk⟩ := hrel
    have HL1 := Lib.hid hl1
    have HL2 := Lib.hid hl2
    have LA := Lib.hid la
    have LB := Lib.hid lb
    have TF1 := Lib.hid tf1
    have TQ1 := Lib.hid tq1
    have HEQ := Lib.hid heq
    have HK := Lib.hid hk
    rw [← HTF.out] at le1 le2
    clear hl1 hl2 la lb tf1 tq1 heq hk
    by_cases hlt : b + 1 ≤ l1
    · obtain ⟨a, rfl⟩ : ∃ a, l1 = a + 1 := ⟨l1 - 1, by omega⟩
      have F0 := Lib.hid (show fl ≠ [] from fun e => by have := HL1.out; rw [e] at this; simp at this)
      obtain ⟨fd, rfl, _, hcf⟩ := LA.out a (by rw [Pol.len_vals, ← HL1.out]; omega)
      obtain ⟨gd', e, _, hcg⟩ := (HB.out.keep HK.out) b (by rw [Pol.len_vals, HGL.out]; omega)
      injection e with e
      subst e
      rw [Pol.vals_at] at hcf hcg
      obtain ⟨tfv, htfv⟩ : ∃ t, t = Pol.top fl := ⟨_, rfl⟩
      rw [show Pol.co fl a = tfv by rw [htfv, Pol.top, ← HL1.out]; rfl] at hcf
      rw [show Pol.co G b = tgv by rw [HTV.out, Pol.top, HGL.out]; rfl] at hcg
      have DV := Lib.hid (fun w => refDiv_el tfv tgv w TV0.out)
      obtain ⟨q, hq⟩ : ∃ q, q = tfv * Fp.inv tgv := ⟨_, rfl⟩
      rw [← hq] at DV
      have HLESS := Lib.hid (show (Pol.plus fl G (-q) (a - b)).length < a + 1 by
        have h := Pol.plus_less fl G F0.out TG.out G0.out (by rw [HGL.out, ← HL1.out]; exact hlt)
        rw [← HL1.out, HGL.out, show a + 1 - (b + 1) = a - b by omega, ← htfv, ← HTV.out, ← hq] at h
        exact h)
      have q1 := Fp.val_bound q
      have HNEG := Lib.hid (ofInt_neg q)
      have HST := Lib.hid (plus_step q (a - b) HEQ.out)
      have HLQ := Lib.hid (show (Pol.plus ql [q] 1 (a - b)).length ≤ tf by
        have h := Pol.len_plus ql [q] 1 (a - b)
        rw [← HL2.out] at h; simp at h; omega)
      have QV := Lib.hid (show Pol.vals [q] = [(q.val : Int)] from rfl)
      clear htfv hq
      unfold el at *
      generalize hqv : (q.val : Int) = qv at *
      clear hqv
      generalize (tfv.val : Int) = tfi at *
      generalize (tgv.val : Int) = tgi at *
      go_wp2_with fail
      go_quiet ((first
        | (with_reducible exact quiet_here (DV.out _))
        | (with_reducible exact quiet_more (DV.out _))))
      clear hcf hcg
      go_wp2_with fail
      refine (refPlus_at A2 _ ql [q] l2 1 c2 1 1 _ 1 (a - b) _ (LB.out.keep (((Kp.rfl' wr).drewN _).new _)) (by rw [QV.out]; exact lies_new _ _ [qv]) HL2.out rfl (by omega) (by omega) (by omega) (by rfl) (by omega) (by omega) (by omega)).mono ?_
      rintro e w2 ⟨A3, c3, rfl, l3, lc3, hk3⟩
      have L3 := Lib.hid l3
      have K3 := Lib.hid (show Kp wr w2 from (((Kp.rfl' wr).drewN _).new _).trans hk3)
      clear l3 hk3
      go_wp2_with fail
      refine (refPlus_at (some fd) (some gd) fl G (a + 1) (b + 1) c1 d (-qv) _ (-q) (a - b) _ (LA.out.keep K3.out) (HB.out.keep (HK.out.trans K3.out)) HL1.out HGL.out.symm (by omega) (by omega) (by omega) HNEG.out (by omega) (by omega) (by omega)).mono ?_
      rintro e w3 ⟨A4, c4, rfl, l4, lc4, hk4⟩
      have REL := Lib.hid (show DivRel F G w (.slice A4 (Pol.plus fl G (-q) (a - b)).length c4) (.slice A3 (Pol.plus ql [q] 1 (a - b)).length c3) w3 from
        ⟨A4, c4, _, A3, c3, _, _, _, rfl, rfl, rfl, rfl, l4, L3.out.keep hk4, lc4, lc3, Pol.tr_plus _ _ _ _, Pol.tr_plus _ _ _ _, by have := HLESS.out; have := HTF.out; omega, by have := HLQ.out; have := HTF.out; omega, HST.out, (HK.out.trans K3.out).trans hk4⟩)
      clear l4 hk4
      go_wp2_with fail
      go_roundw
      case rel => exact REL.out
      case measure => simp [sliceLen]; exact HLESS.out
    · have DVV := Lib.hid (show Pol.Dv F G ql fl from ⟨TQ1.out, TF1.out, by rw [HGL.out, ← HL1.out]; omega, by rw [← HL2.out, ← HTF.out]; exact le2, HEQ.out⟩)
      go_wp2_with fail
      go_ret2
      exact ⟨ql, fl, DVV.out, A2, c2, A1, c1, by rw [← HL1.out, ← HL2.out]; rfl, LB.out, by rw [← HL2.out]; exact hc2, LA.out, by rw [← HL1.out]; exact hc1, HK.out⟩

/-- One made monic by what undoes its greatest factor. -/
theorem mul_top (p : List Fp.F) (hp : Pol.Tr p) (lp : p.length ≤ 40) : Pol.mul p [Fp.inv (Pol.top p)] = Pol.mon p := by
  have h1 := Pol.len_mul p [Fp.inv (Pol.top p)]
  have h2 := Pol.len_mon p
  simp at h1
  exact Pol.same _ _ (Pol.tr_mul _ _) (Pol.tr_mon hp) (by omega) (by omega) fun x => by rw [Pol.ev_mul, Pol.ev_one, Pol.ev_mon, Fin.mul_comm]

theorem refDiv_one (b : Fp.F) (w : World) (hb : b ≠ 0) :
    Calls Tryd.prog 24 #[.int .i64 1, el b] w fun e w' => e = .returned (el (Fp.inv b)) ∧ w = w' := by
  have h := refDiv_el 1 b w hb
  rw [Fin.one_mul] at h
  exact h

set_option maxRecDepth 100000 in
set_option maxHeartbeats 1600000 in
theorem refCommon_base (A B : Option Addr) (p g : List Fp.F) (n m c d : Nat) (w : World) (g0 : Pol.trim g = []) (ha : Lies w A (Pol.vals p)) (hb : Lies w B (Pol.vals g)) (hn : n = p.length) (hm : m = g.length) (ln : n ≤ 40) (lm : m ≤ 40) (hc : n ≤ c) (hd : m ≤ d) :
    Calls Tryd.prog 9 #[.slice A n c, .slice B m d] w fun e w' => ∃ z, Pol.Gc (Pol.trim p) (Pol.trim g) z ∧ GivesRow (Pol.mon z) w e w' := by
  have HA := Lib.hid ha.trim
  have TA := Lib.hid (show Calls Tryd.prog 14 #[.slice A n c] w fun e w' => e = .returned (.slice A (Pol.trim p).length c) ∧ w = w' by subst hn; exact refTrim_any A p c w ha hc (by omega))
  have TB := Lib.hid (show Calls Tryd.prog 14 #[.slice B m d] w fun e w' => e = .returned (.slice B (Pol.trim g).length d) ∧ w = w' by subst hm; exact refTrim_any B g d w hb hd (by omega))
  rw [g0] at TB ⊢
  rw [List.length_nil] at TB
  have lf : (Pol.trim p).length ≤ n := by have := Pol.len_trim p; omega
  have tf := Pol.tr_trim p
  generalize Pol.trim p = F at *
  clear ha hb hn hm g0
  by_cases f0 : F = []
  · subst f0
    rw [List.length_nil] at *
    go_enter Tryd.func9, Tryd.ntmps9
    go_wp2_with fail
    refine (TA.out).mono ?_; rintro e w' ⟨rfl, rfl⟩
    go_wp2_with fail
    refine (TB.out).mono ?_; rintro e w' ⟨rfl, rfl⟩
    go_wp2_with fail
    go_ret
    exact ⟨[], .done [], Option.none, 0, rfl, Lies.empty _ _, Nat.le_refl _, Kp.rfl' _⟩
  · obtain ⟨b, hb1⟩ : ∃ b, F.length = b + 1 := ⟨F.length - 1, by have := List.length_pos_iff.2 f0; omega⟩
    have HFL := Lib.hid hb1
    obtain ⟨fd, rfl, _, hcell⟩ := HA.out b (by rw [Pol.len_vals, hb1]; omega)
    rw [Pol.vals_at] at hcell
    obtain ⟨t, ht⟩ : ∃ t, t = Pol.top F := ⟨_, rfl⟩
    rw [show Pol.co F b = t by rw [ht, Pol.top, hb1]; rfl] at hcell
    have DV := Lib.hid (refDiv_one t w (by rw [ht]; exact Pol.top_ne tf f0))
    have MT := Lib.hid (mul_top F tf (by omega))
    rw [← ht] at MT
    rw [hb1] at TA lf
    clear tf f0 hb1 ht
    have QV := Lib.hid (show Pol.vals [Fp.inv t] = [((Fp.inv t).val : Int)] from rfl)
    unfold el at *
    generalize hq : ((Fp.inv t).val : Int) = qv at *
    generalize (t.val : Int) = tv at *
    clear hq
    go_enter Tryd.func9, Tryd.ntmps9
    go_wp2_with fail
    refine (TA.out).mono ?_; rintro e w' ⟨rfl, rfl⟩
    go_wp2_with fail
    refine (TB.out).mono ?_; rintro e w' ⟨rfl, rfl⟩
    go_wp2_with fail
    refine (DV.out).mono ?_; rintro e w' ⟨rfl, rfl⟩
    go_wp2_with fail
    refine (refTimes_any (some fd) _ F [Fp.inv t] (b + 1) 1 c 1 _ (HA.out.keep ((Kp.rfl' w).new _)) (by rw [QV.out]; exact lies_new _ _ [qv]) HFL.out.symm rfl (by omega) (by omega)).mono ?_
    rintro e w1 ⟨A1, c1, rfl, l1, lc1, hk1⟩
    rw [MT.out] at l1 lc1 ⊢
    have L1 := Lib.hid l1
    have K1 := Lib.hid (show Kp w w1 from ((Kp.rfl' w).new _).trans hk1)
    clear l1 hk1
    go_wp2_with fail
    go_ret
    exact ⟨F, .done F, A1, c1, rfl, L1.out, lc1, K1.out⟩

set_option maxRecDepth 100000 in
set_option maxHeartbeats 3200000 in
theorem refCommon_any (k : Nat) : ∀ (A B : Option Addr) (p g : List Fp.F) (n m c d : Nat) (w : World), (Pol.trim g).length ≤ k → Lies w A (Pol.vals p) → Lies w B (Pol.vals g) → n = p.length → m = g.length → n ≤ 40 → m ≤ 40 → n ≤ c → m ≤ d →
    Calls Tryd.prog 9 #[.slice A n c, .slice B m d] w fun e w' => ∃ z, Pol.Gc (Pol.trim p) (Pol.trim g) z ∧ GivesRow (Pol.mon z) w e w' := by
  induction k with
  | zero =>
    intro A B p g n m c d w hk ha hb hn hm ln lm hc hd
    exact refCommon_base A B p g n m c d w (List.eq_nil_of_length_eq_zero (by omega)) ha hb hn hm ln lm hc hd
  | succ k ih =>
    intro A B p g n m c d w hk ha hb hn hm ln lm hc hd
    by_cases g0 : Pol.trim g = []
    · exact refCommon_base A B p g n m c d w g0 ha hb hn hm ln lm hc hd
    · have HA := Lib.hid ha.trim
      have HB := Lib.hid hb.trim
      have TA := Lib.hid (show Calls Tryd.prog 14 #[.slice A n c] w fun e w' => e = .returned (.slice A (Pol.trim p).length c) ∧ w = w' by subst hn; exact refTrim_any A p c w ha hc (by omega))
      have TB := Lib.hid (show Calls Tryd.prog 14 #[.slice B m d] w fun e w' => e = .returned (.slice B (Pol.trim g).length d) ∧ w = w' by subst hm; exact refTrim_any B g d w hb hd (by omega))
      have lf : (Pol.trim p).length ≤ n := by have := Pol.len_trim p; omega
      have lg : (Pol.trim g).length ≤ m := by have := Pol.len_trim g; omega
      have TTF := Lib.hid (Pol.trim_trim p)
      have TTG := Lib.hid (Pol.trim_trim g)
      have G0 := Lib.hid g0
      have IH := Lib.hid ih
      generalize Pol.trim p = F at *
      generalize Pol.trim g = G at *
      obtain ⟨b, hb1⟩ : ∃ b, G.length = b + 1 := ⟨G.length - 1, by have := List.length_pos_iff.2 g0; omega⟩
      rw [hb1] at TB lg hk
      have HGL := Lib.hid hb1
      obtain ⟨tf, htf⟩ : ∃ tf, tf = F.length := ⟨_, rfl⟩
      rw [← htf] at TA lf
      have HTF := Lib.hid htf
      clear ha hb hn hm g0 hb1 htf ih
      go_enter Tryd.func9, Tryd.ntmps9
      go_wp2_with fail
      refine (TA.out).mono ?_; rintro e w' ⟨rfl, rfl⟩
      go_wp2_with fail
      refine (TB.out).mono ?_; rintro e w' ⟨rfl, rfl⟩
      go_wp2_with fail
      refine (refDivide_any A B F G tf (b + 1) c d _ HA.out HB.out HTF.out HGL.out.symm (by omega) (by omega) (by omega) (by omega) (by rw [TTG.out]; exact G0.out)).mono ?_
      rintro e w1 ⟨q, r, dv, A1, c1, B1, d1, rfl, l1, lc1, l2, lc2, hk1⟩
      rw [TTF.out, TTG.out] at dv
      have DV := Lib.hid dv
      have L2 := Lib.hid l2
      have K1 := Lib.hid hk1
      have hlt : r.length < b + 1 := by have := dv.lt; have := HGL.out; omega
      have TR := Lib.hid (Pol.trim_tr r dv.tr)
      clear dv l1 lc1 l2 hk1
      go_wp2_with fail
      refine (IH.out B B1 G r (b + 1) r.length d d1 _ (by rw [TR.out]; omega) (HB.out.keep K1.out) L2.out HGL.out.symm rfl (by omega) (by omega) (by omega) lc2).mono ?_
      rintro e w2 ⟨z, gc, A3, c3, rfl, l3, lc3, hk3⟩
      rw [TTG.out, TR.out] at gc
      have GC := Lib.hid (Pol.Gc.step DV.out gc)
      have L3 := Lib.hid l3
      have K3 := Lib.hid (K1.out.trans hk3)
      clear gc l3 hk3
      go_wp2_with fail
      go_ret
      exact ⟨z, GC.out, A3, c3, rfl, L3.out, lc3, K3.out⟩

end Go.Proofs.YtakhnacfnobldaaDoor
