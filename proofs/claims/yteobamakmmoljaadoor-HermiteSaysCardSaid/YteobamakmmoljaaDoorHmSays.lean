/- The law HermiteSays. -/
import Derived.Test.YteobamakmmoljaaDoorHmC6
import Derived.Test.YteobamakmmoljaaDoorHmR2
import Derived.Test.YteobamakmmoljaaDoorHmR3
import Derived.Test.YteobamakmmoljaaDoorErrG
import Derived.Test.YteobamakmmoljaaDoorRowsG
import Derived.Deep.Cut
import Derived.Deep.CutRange
import Derived.Deep.DeepCutAuto
namespace Go.Proofs.YteobamakmmoljaaDoor
open Go.ChangeShapes Go.WideShapes Go.ChangeAt Go.RowKit
set_option linter.unusedVariables false

/-- The form of rows as a list; none where they have none. -/
def FormL (m W : List (List Int)) : Prop := (hcd m ≠ 0 ∧ W = []) ∨ ∃ n x a, Hm n x m ∧ Zx.Hnf n a ∧ Zx.Eql n a x ∧ W = Mx.tab n n a
theorem Hm.same {n n' : Nat} {x x' : Nat → Nat → Int} {m : List (List Int)} (h : Hm n x m) (h' : Hm n' x' m) : n = n' ∧ Zx.Eqm n n x x' := by
  obtain rfl : n = n' := by rw [← h.sh.len, h'.sh.len]
  exact ⟨rfl, tab_eq.1 (h.sh.eq.symm.trans h'.sh.eq)⟩
theorem FormL.one {m W W' : List (List Int)} (h : FormL m W) (h' : FormL m W') : W = W' := by
  rcases h with ⟨h1, rfl⟩ | ⟨n, x, a, h1, h2, h3, rfl⟩
  · rcases h' with ⟨_, rfl⟩ | ⟨n, x, a, k1, _⟩
    · rfl
    · exact absurd k1.code h1
  · rcases h' with ⟨k1, _⟩ | ⟨n', x', a', k1, k2, k3, rfl⟩
    · exact absurd h1.code k1
    · obtain ⟨rfl, e⟩ := h1.same k1
      have exx : Zx.Eql n x x' := ⟨fun i hi => (Zx.Lat.row x' hi).congr fun j hj => (e i j hi hj).symm, fun i hi => (Zx.Lat.row x hi).congr fun j hj => e i j hi hj⟩
      exact tab_eq.2 (h2.one k2 (h3.trans (exx.trans k3.symm)))
theorem FormL.modest {m W : List (List Int)} (h : FormL m W) : Modest W := by
  rcases h with ⟨_, rfl⟩ | ⟨n, x, a, h1, _, _, rfl⟩
  · exact modest_nil
  · have := h1.sh.n3
    exact modest_tab a (by omega) (by omega)
theorem Form_formL (A : Option Addr) (m : List (List Int)) (n d : Nat) (w : World) (ha : LiesM w A m) (hn : m.length = n) :
    Calls Tryd.prog 8 #[.slice A n d] w fun e w' => ∃ W A' d', FormL m W ∧ e = .returned (.tuple #[.slice A' W.length d', errOf (hcd m)]) ∧ LiesM w' A' W ∧ Kp w w' := by
  rcases hm_or m hn with ⟨x, s⟩ | h
  · rw [s.code, errOf_zero]
    exact (Form_ok s A d w ha).mono fun e w' ⟨g, cap, G, C, a, h1, h2, _, h3, h4, _, h5⟩ => ⟨Mx.tab n n a, some ⟨g, 0, none⟩, cap, .inr ⟨n, x, a, s, h1, h2, rfl⟩, by rw [h3, Mx.len_tab], h4.liesM, h5⟩
  · exact (Form_no A m n d w ha hn h).mono fun e w' ⟨h1, h2⟩ => ⟨[], none, 0, .inl ⟨h, rfl⟩, h1, LiesM.empty _ _, h2⟩
theorem rHerm_formL (A : Option Addr) (m : List (List Int)) (n d : Nat) (w : World) (ha : LiesM w A m) (hn : m.length = n) (h0 : hcd m = 0) :
    Calls Tryd.prog 7 #[.slice A n d] w fun e w' => ∃ W A' d', FormL m W ∧ e = .returned (.slice A' W.length d') ∧ LiesM w' A' W ∧ Kp w w' := by
  rcases hm_or m hn with ⟨x, s⟩ | h
  · exact (rHerm_any s A d w ha).mono fun e w' ⟨g, cap, G, C, a, h1, h2, h3, h4, h5⟩ => ⟨Mx.tab n n a, some ⟨g, 0, none⟩, cap, .inr ⟨n, x, a, s, h1, h2, rfl⟩, by rw [h3, Mx.len_tab], h4.liesM, h5⟩
  · exact absurd h0 h
/-- What is wrong with two matrices of rows. -/
def hcd2 (m k : List (List Int)) : Nat := if hcd m ≠ 0 then hcd m else if hcd k ≠ 0 then hcd k else if m.length ≠ k.length then 3 else 0
/-- What is wrong with a matrix of rows and a row. -/
def hcdx (m : List (List Int)) (l : List Int) (b : Bool) : Nat := if hcd m ≠ 0 then hcd m else if l.length ≠ m.length then 3 else if b = false then 1 else 0
def bit (P : Prop) (e : Ending) (z : Nat) (w w' : World) : Prop := ∃ b : Bool, (b = true ↔ P) ∧ e = .returned (.tuple #[.bool b, errOf z]) ∧ Kp w w'
theorem Same_bit (A B : Option Addr) (m k : List (List Int)) (n p c d : Nat) (w : World) (ha : LiesM w A m) (hb : LiesM w B k) (hn : m.length = n) (hp : k.length = p) :
    Calls Tryd.prog 11 #[.slice A n c, .slice B p d] w fun e w' => bit (hcd2 m k = 0 ∧ ∀ f y, Hm n f m → Hm n y k → Zx.Eql n f y) e (hcd2 m k) w w' := by
  have no : ∀ z : Nat, z ≠ 0 → hcd2 m k = z → ∀ e w', (e = Ending.returned (.tuple #[.bool false, errOf z]) ∧ Kp w w') → bit (hcd2 m k = 0 ∧ ∀ f y, Hm n f m → Hm n y k → Zx.Eql n f y) e (hcd2 m k) w w' :=
    fun z hz he e w' h => ⟨false, ⟨fun h => (by cases h), fun h => absurd h.1 (by omega)⟩, by rw [he]; exact h.1, h.2⟩
  rcases hm_or m hn with ⟨x, s⟩ | h
  · rcases hm_or k hp with ⟨y, t⟩ | h2
    · by_cases e : n = p
      · subst e
        have h0 : hcd2 m k = 0 := by unfold hcd2; rw [if_neg (fun h => h s.code), if_neg (fun h => h t.code), if_neg (fun h => h (hn.trans hp.symm))]
        rw [h0]
        refine (Same_ok s t A B c d w ha hb).mono fun e w' ⟨b, h1, h2, h3⟩ => ⟨b, h1.trans ⟨fun h => ⟨rfl, fun f y' hf hy => ?_⟩, fun h => h.2 x y s t⟩, h2, h3⟩
        have e1 := (s.same hf).2
        have e2 := (t.same hy).2
        have f1 : ∀ {u v : Nat → Nat → Int}, Zx.Eqm n n u v → Zx.Eql n u v := fun e => ⟨fun i hi => (Zx.Lat.row _ hi).congr fun j hj => (e i j hi hj).symm, fun i hi => (Zx.Lat.row _ hi).congr fun j hj => e i j hi hj⟩
        exact (f1 e1).symm.trans (h.trans (f1 e2))
      · have h0 : hcd2 m k = 3 := by unfold hcd2; rw [if_neg (fun h => h s.code), if_neg (fun h => h t.code), if_pos (by omega)]
        exact (Same_len s t A B c d w ha hb e).mono (no 3 (by decide) h0)
    · have h0 : hcd2 m k = hcd k := by unfold hcd2; rw [if_neg (fun h => h s.code), if_pos h2]
      exact (Same_no2 s A B k p c d w ha hb hp h2).mono (no _ h2 h0)
  · have h0 : hcd2 m k = hcd m := by unfold hcd2; rw [if_pos h]
    exact (Same_no A B m k n p c d w ha hn h).mono (no _ h h0)
theorem Has_bit (A B : Option Addr) (m : List (List Int)) (l : List Int) (n L c d : Nat) (w : World) (b : Bool) (ha : LiesM w A m) (hb : Lies w B l) (hn : m.length = n) (hl : l.length = L) (hbx : b = true ↔ AllIn l (-100) 100) :
    Calls Tryd.prog 13 #[.slice A n c, .slice B L d] w fun e w' => bit (hcdx m l b = 0 ∧ ∀ f, Hm n f m → Zx.Lat n f fun j => l.getD j 0) e (hcdx m l b) w w' := by
  have no : ∀ z : Nat, z ≠ 0 → hcdx m l b = z → ∀ e w', (e = Ending.returned (.tuple #[.bool false, errOf z]) ∧ Kp w w') → bit (hcdx m l b = 0 ∧ ∀ f, Hm n f m → Zx.Lat n f fun j => l.getD j 0) e (hcdx m l b) w w' :=
    fun z hz he e w' h => ⟨false, ⟨fun h => (by cases h), fun h => absurd h.1 (by omega)⟩, by rw [he]; exact h.1, h.2⟩
  rcases hm_or m hn with ⟨x, s⟩ | h
  · by_cases e : L = n
    · subst e
      cases b with
      | true =>
        have h0 : hcdx m l true = 0 := by unfold hcdx; rw [if_neg (fun h => h s.code), if_neg (fun h => h (hl.trans hn.symm)), if_neg (by decide)]
        rw [h0]
        exact (Has_ok s A B l c d w ha hb hl (hbx.1 rfl)).mono fun e w' ⟨b, h1, h2, h3⟩ => ⟨b, h1.trans ⟨fun h => ⟨rfl, fun f hf => h.mat (s.same hf).2⟩, fun h => h.2 x s⟩, h2, h3⟩
      | false =>
        have h0 : hcdx m l false = 1 := by unfold hcdx; rw [if_neg (fun h => h s.code), if_neg (fun h => h (hl.trans hn.symm)), if_pos rfl]
        exact (Has_range s A B l c d w ha hb hl (fun h => by have := hbx.2 h; cases this)).mono (no 1 (by decide) h0)
    · have h0 : hcdx m l b = 3 := by unfold hcdx; rw [if_neg (fun h => h s.code), if_pos (by omega)]
      exact (Has_len s A B c d w ha e).mono (no 3 (by decide) h0)
  · have h0 : hcdx m l b = hcd m := by unfold hcdx; rw [if_pos h]
    exact (Has_no A B m n L c d w ha hn h).mono (no _ h h0)

set_option maxRecDepth 100000 in
set_option maxHeartbeats 12800000 in
theorem walk_HermiteSays (A : Option Addr) (m : List (List Int)) (c : Nat) (B : Option Addr) (k : List (List Int)) (d : Nat) (X : Option Addr) (l : List Int) (e : Nat) (w : World) (hL : Told.Laid w) (ha : LiesM w A m) (hb : LiesM w B k) (hx : Lies w X l) (le : l.length ≤ e) :
    Calls Tryd.prog 3 #[.slice A m.length c, .slice B k.length d, .slice X l.length e] w fun e w' => e = .returned (.bool true) ∧ Kp w w' := by
  obtain ⟨n, hn⟩ : ∃ n, n = m.length := ⟨_, rfl⟩
  obtain ⟨p, hp⟩ : ∃ p, p = k.length := ⟨_, rfl⟩
  obtain ⟨L, hl⟩ : ∃ L, L = l.length := ⟨_, rfl⟩
  rw [← hn, ← hp, ← hl]
  have LXH := Lib.hid (show L ≤ e by omega)
  have HA := Lib.hid ha
  have HB := Lib.hid hb
  have HX := Lib.hid hx
  have HN := Lib.hid hn
  have HP := Lib.hid hp
  have HLL := Lib.hid hl
  have RM := Lib.hid (fun w' (q : Kp w w') => rHRows_any A m n c w' (ha.keep q) hn.symm)
  have RK := Lib.hid (fun w' (q : Kp w w') => rHRows_any B k p d w' (hb.keep q) hp.symm)
  have CK := Lib.hid (fun w' (q : Kp w w') => HCheck_any A m n c w' (ha.keep q) hn.symm)
  have FO := Lib.hid (fun w' (q : Kp w w') => Form_formL A m n c w' (ha.keep q) hn.symm)
  have HE := Lib.hid (fun w' (q : Kp w w') h => rHerm_formL A m n c w' (ha.keep q) hn.symm h)
  have SA := Lib.hid (fun w' (q : Kp w w') => Same_bit A B m k n p c d w' (ha.keep q) (hb.keep q) hn.symm hp.symm)
  have HS := Lib.hid (fun w' (q : Kp w w') b hbx => Has_bit A X m l n L c e w' b (ha.keep q) (hx.keep q) hn.symm hl.symm hbx)
  have ER := Lib.hid (fun (z : Nat) (hz : z ≤ 100) (w' : World) (q : Kp w w') => error_says z w' (laid_kp hL q) hz)
  have Z1 := Lib.hid (hcd_le m)
  have Z2 := Lib.hid (hcd_le k)
  obtain ⟨z1, hz1⟩ : ∃ z1, z1 = hcd m := ⟨_, rfl⟩
  have HZ1 := Lib.hid hz1
  rw [← hz1] at RM CK FO HE Z1
  obtain ⟨zk, hzk⟩ : ∃ zk, zk = hcd k := ⟨_, rfl⟩
  have HZK := Lib.hid hzk
  rw [← hzk] at RK Z2
  clear ha hb hx hn hp hl hL hz1 hzk le
  go_enter Tryd.func3, Tryd.ntmps3
  go_wp2_with fail
  refine (RM.out w (Kp.rfl' w)).mono ?_; rintro e1 w1 ⟨rfl, k1⟩
  have K1 := Lib.hid k1; clear k1
  go_wp2_with fail
  refine (CK.out w1 K1.out).mono ?_; rintro e1 w2 ⟨rfl, k2⟩
  have K2 := Lib.hid (K1.out.trans k2); clear k2
  have E1 := Lib.hid (fun w' (q : Kp w w') => ER.out z1 (by have := Z1.out; omega) w' q)
  obtain ⟨x1, hx1⟩ : ∃ x1, x1 = errOf z1 := ⟨_, rfl⟩
  rw [← hx1] at E1 FO ⊢
  clear hx1
  go_wp2_with fail
  refine (E1.out w2 K2.out).mono ?_; rintro e1 w3 ⟨rfl, k3⟩
  have K3 := Lib.hid (K2.out.trans k3); clear k3
  go_upto_if 26 with (fail)
  go_cut [9] (fun s wc => ∃ W A' d', s = .slice A' W.length d' ∧ FormL m W ∧ LiesM wc A' W ∧ Kp w wc)
  case first =>
    as_aux_lemma =>
    by_cases h : z1 = 0
    · have hc : ((z1 : Int) == 0) = true := by rw [beq_iff_eq]; omega
      have HE2 := Lib.hid (HE.out w3 K3.out h)
      clear h
      go_wp2_with fail
      refine (HE2.out).mono ?_; rintro e1 w4 ⟨W, A', d', hf, rfl, lw, k4⟩
      have HF := Lib.hid hf; have LW := Lib.hid lw; have K4 := Lib.hid (K3.out.trans k4)
      clear hf lw k4
      go_wp2_with fail
      go_meet
      case rel => exact ⟨W, A', d', rfl, HF.out, LW.out, K4.out⟩
    · have hc : ((z1 : Int) == 0) = false := by rw [beq_eq_false_iff_ne]; omega
      have HF := Lib.hid (show FormL m [] from .inl ⟨by rw [← HZ1.out]; exact h, rfl⟩)
      clear h
      go_wp2_with fail
      go_meet
      case rel => exact ⟨[], none, 0, rfl, HF.out, LiesM.empty _ _, K3.out⟩
  case rest =>
  as_aux_lemma =>
  obtain ⟨W, A', d', rfl, hf, lw, kT⟩ := hcut
  obtain ⟨w4, hw4⟩ : ∃ x, x = wc := ⟨_, rfl⟩
  subst hw4
  have HF := Lib.hid hf; have LW := Lib.hid lw; have K4 := Lib.hid kT
  clear hf lw kT K3 K2 K1 RM CK HE
  go_wp2_with fail
  refine (FO.out w4 K4.out).mono ?_; rintro e1 w5 ⟨W2, A2, d2, hf2, rfl, lw2, k5⟩
  obtain rfl : W = W2 := HF.out.one hf2
  have LW5 := Lib.hid (LW.out.keep k5)
  have LV5 := Lib.hid lw2
  have K5 := Lib.hid (K4.out.trans k5)
  clear hf2 lw2 k5 LW
  go_wp2_with fail
  refine (E1.out w5 K5.out).mono ?_; rintro e1 w6 ⟨rfl, k6⟩
  have K6 := Lib.hid (K5.out.trans k6)
  have EQ := Lib.hid (rows_eq A2 A' W W W.length W.length d2 d' w6 (LV5.out.keep k6) (LW5.out.keep k6) rfl rfl HF.out.modest HF.out.modest rfl)
  clear k6 LW5 LV5
  generalize W.length = nW at *
  go_wp2_with fail
  refine (EQ.out).mono ?_; rintro e1 w7 ⟨rfl, k7⟩
  have K7 := Lib.hid (K6.out.trans k7)
  clear k7 EQ K6 K5 K4 FO HF
  -- two matrices: what is wrong with the second
  obtain ⟨zb, hzb⟩ : ∃ zb : Nat, zb = if z1 = 0 then zk else z1 := ⟨_, rfl⟩
  have HZB := Lib.hid hzb
  have ZB := Lib.hid (show zb ≤ 6 by have := Z1.out; have := Z2.out; rw [hzb]; split <;> omega)
  clear hzb
  go_upto_if 44 with (fail)
  go_cut [13] (fun s wc => s = .int .i64 (zb : Int) ∧ Kp w wc)
  case first =>
    as_aux_lemma =>
    by_cases h : z1 = 0
    · have hc : ((z1 : Int) == 0) = true := by rw [beq_iff_eq]; omega
      have eb : zb = zk := by rw [HZB.out, if_pos h]
      have EB := Lib.hid eb
      have RK2 := Lib.hid (RK.out w7 K7.out)
      clear h eb
      go_wp2_with fail
      refine (RK2.out).mono ?_; rintro e1 w8 ⟨rfl, k8⟩
      have K8 := Lib.hid (K7.out.trans k8); clear k8
      go_wp2_with fail
      go_meet
      case rel => exact ⟨by rw [EB.out], K8.out⟩
    · have hc : ((z1 : Int) == 0) = false := by rw [beq_eq_false_iff_ne]; omega
      have EB := Lib.hid (show zb = z1 by rw [HZB.out, if_neg h])
      clear h
      go_wp2_with fail
      go_meet
      case rel => exact ⟨by rw [EB.out], K7.out⟩
  case rest =>
  as_aux_lemma =>
  obtain ⟨rfl, kT⟩ := hcut
  obtain ⟨w8, hw8⟩ : ∃ x, x = wc := ⟨_, rfl⟩
  subst hw8
  have K8 := Lib.hid kT
  clear kT K7 RK
  obtain ⟨z2, hz2⟩ : ∃ z2, z2 = hcd2 m k := ⟨_, rfl⟩
  have HZ2 := Lib.hid (show z2 = if zb = 0 ∧ n ≠ p then 3 else zb by
    rw [hz2, HZB.out]
    unfold hcd2
    rw [← HZ1.out, ← HZK.out, ← HN.out, ← HP.out]
    by_cases h : z1 = 0
    · rw [if_neg (fun h' => h' h), if_pos h]
      by_cases h2 : zk = 0
      · rw [if_neg (fun h' => h' h2), h2]
        by_cases h3 : n = p
        · rw [if_neg (fun h' => h' h3), if_neg (fun h' => h'.2 h3)]
        · rw [if_pos h3, if_pos ⟨rfl, h3⟩]
      · rw [if_pos h2, if_neg (fun h' => h2 h'.1)]
    · rw [if_pos h, if_neg h, if_neg (fun h' => h h'.1)])
  rw [← hz2] at SA
  have HD2 := Lib.hid hz2
  clear hz2
  go_upto_region 11 with (fail)
  go_cut [55] (fun t wc => ∃ bb : Bool, t = .bool bb ∧ (bb = true → z2 = 3) ∧ (bb = false → z2 = zb) ∧ Kp w wc)
  case first =>
    as_aux_lemma =>
    by_cases h : zb = 0
    · have hc : ((zb : Int) == 0) = true := by rw [beq_iff_eq]; omega
      by_cases h2 : n = p
      · have hc2 : ((n : Int) != (p : Int)) = false := by rw [h2]; simp
        have EQ := Lib.hid (show z2 = zb by rw [HZ2.out, if_neg (fun h' => h'.2 h2)])
        clear h h2
        go_wp2_with fail
        go_meet
        case rel => exact ⟨false, rfl, fun h => (by cases h), fun _ => EQ.out, K8.out⟩
      · have hc2 : ((n : Int) != (p : Int)) = true := by rw [bne_iff_ne]; omega
        have EQ := Lib.hid (show z2 = 3 by rw [HZ2.out, if_pos ⟨h, h2⟩])
        clear h h2
        go_wp2_with fail
        go_meet
        case rel => exact ⟨true, rfl, fun _ => EQ.out, fun h => (by cases h), K8.out⟩
    · have hc : ((zb : Int) == 0) = false := by rw [beq_eq_false_iff_ne]; omega
      have EQ := Lib.hid (show z2 = zb by rw [HZ2.out, if_neg (fun h' => h h'.1)])
      clear h
      go_wp2_with fail
      go_meet
      case rel => exact ⟨false, rfl, fun h => (by cases h), fun _ => EQ.out, K8.out⟩
  case rest =>
  as_aux_lemma =>
  obtain ⟨bb, rfl, b1, b0, k7⟩ := hcut
  have B1 := Lib.hid b1; have B0 := Lib.hid b0; have K9 := Lib.hid k7
  clear b1 b0 k7 K8
  go_upto_if 55 with (fail)
  go_cut [13] (fun t wc => t = .int .i64 (z2 : Int) ∧ Kp w wc)
  case first =>
    as_aux_lemma =>
    cases bb with
    | true =>
      have EQ := Lib.hid (B1.out rfl)
      go_wp2_with fail
      go_meet
      case rel => exact ⟨by rw [EQ.out]; rfl, K9.out⟩
    | false =>
      have EQ := Lib.hid (B0.out rfl)
      go_wp2_with fail
      go_meet
      case rel => exact ⟨by rw [EQ.out], K9.out⟩
  case rest =>
  as_aux_lemma =>
  obtain ⟨rfl, kT⟩ := hcut
  obtain ⟨w9, hw9⟩ : ∃ x, x = wc := ⟨_, rfl⟩
  subst hw9
  have K10 := Lib.hid kT
  clear kT K9 B1 B0 HZB ZB
  have GOOD := Lib.hid (show z2 = 0 → ∃ f y, Hm n f m ∧ Hm n y k ∧ n = p from fun h => by
    have h2 := HD2.out
    rw [h] at h2
    unfold hcd2 at h2
    by_cases c1 : hcd m = 0
    · rw [if_neg (fun h' => h' c1)] at h2
      by_cases c2 : hcd k = 0
      · rw [if_neg (fun h' => h' c2)] at h2
        by_cases c3 : m.length = k.length
        · have np : n = p := HN.out.trans (c3.trans HP.out.symm)
          rcases hm_or m HN.out.symm with ⟨f, sf⟩ | h'
          · rcases hm_or k (HP.out.symm.trans np.symm) with ⟨y, sy⟩ | h'
            · exact ⟨f, y, sf, sy, np⟩
            · exact absurd c2 h'
          · exact absurd c1 h'
        · rw [if_pos c3] at h2; cases h2
      · rw [if_pos c2] at h2; exact absurd h2.symm c2
    · rw [if_pos c1] at h2; exact absurd h2.symm c1)
  have Z2L := Lib.hid (show z2 ≤ 100 by
    have a := Z1.out
    have b := Z2.out
    rw [HD2.out]; unfold hcd2
    rw [← HZ1.out, ← HZK.out]
    split
    · omega
    · split
      · omega
      · split <;> omega)
  obtain ⟨b0, hb0⟩ : ∃ b0 : Bool, b0 = ((z2 : Int) == 0) := ⟨_, rfl⟩
  have HB0 := Lib.hid (show b0 = true ↔ z2 = 0 by rw [hb0, beq_iff_eq]; omega)
  have eb0 : ((z2 : Int) == 0) = b0 := hb0.symm
  clear hb0
  go_wp2_with fail
  go_loopw [14, 15] (fun s i wr => ∃ (r : Nat) (b : Bool), r ≤ n ∧ i = .int .i64 (r : Int) ∧ s = .bool b ∧ (b = true ↔ (z2 = 0 ∧ ∀ f y, Hm n f m → Hm n y k → ∀ t, t < r → Zx.Lat n f (y t) ∧ Zx.Lat n y (f t))) ∧ Kp w wr) (fun _ i _ => n - (intOf i).toNat)
  case atStart => exact ⟨0, b0, Nat.zero_le _, rfl, rfl, ⟨fun h => ⟨HB0.out.1 h, fun f y _ _ t ht => absurd ht (by omega)⟩, fun h => HB0.out.2 h.1⟩, K10.out⟩
  case round =>
    obtain ⟨r, b, hr, rfl, rfl, hb, hkp⟩ := hrel
    have HBR := Lib.hid hb
    have HK := Lib.hid hkp
    clear K10 HB0 eb0
    by_cases hc : r < n ∧ b = true
    · as_aux_lemma =>
      obtain ⟨hrn, rfl⟩ := hc
      obtain ⟨z0, hall⟩ := hb.1 rfl
      obtain ⟨f, y, sf, sy, hnp⟩ := GOOD.out z0
      have hrp : r < p := by omega
      have hn3 : n ≤ 3 := sf.sh.n3
      have la := HA.out.keep hkp
      have lb := HB.out.keep hkp
      have la' := la
      have lb' := lb
      rw [sf.sh.eq] at la'
      rw [sy.sh.eq] at lb'
      obtain ⟨ad, A1, d1, rfl, _, x1', hd1, l1⟩ := la'.row hrn
      obtain ⟨bd, B1, d2, rfl, _, x2', hd2, l2⟩ := lb'.row hrn
      have S1 := Lib.hid (rSum_any sf (some ad) B1 (y r) c d2 wr la l2 hd2 (fun j hj => by have := sy.sh.ab r j hrn hj; omega))
      have S2 := Lib.hid (fun (w' : World) (q : Kp wr w') => show Calls Tryd.prog 10 #[.slice (some bd) p d, .slice A1 n d1] w' fun e w'' => Tells (Zx.Lat n y (f r)) e ∧ Kp w' w'' from by
        have h := rSum_any sy (some bd) A1 (f r) d d1 w' (lb.keep q) (l1.keep q) hd1 (fun j hj => by have := sf.sh.ab r j hrn hj; omega)
        have key : ∀ p', p' = n → Calls Tryd.prog 10 #[.slice (some bd) p' d, .slice A1 n d1] w' fun e w'' => Tells (Zx.Lat n y (f r)) e ∧ Kp w' w'' := fun p' e => by subst e; exact h
        exact key p hnp.symm)
      have UNI := Lib.hid (show ∀ f' y', Hm n f' m → Hm n y' k → (∀ u, Zx.Lat n f u ↔ Zx.Lat n f' u) ∧ (∀ u, Zx.Lat n y u ↔ Zx.Lat n y' u) ∧ (∀ j, j < n → f r j = f' r j) ∧ ∀ j, j < n → y r j = y' r j from fun f' y' hf hy => by
        have e1 := (sf.same hf).2
        have e2 := (sy.same hy).2
        exact ⟨fun u => ⟨fun h => h.mat e1, fun h => h.mat e1.symm⟩, fun u => ⟨fun h => h.mat e2, fun h => h.mat e2.symm⟩, fun j hj => e1 r j hrn hj, fun j hj => e2 r j hrn hj⟩)
      have HALL := Lib.hid hall
      have HZ0 := Lib.hid z0
      have HSF := Lib.hid sf
      have HSY := Lib.hid sy
      have KEEP := Lib.hid (fun (w' : World) (q : Kp wr w') => (show w'.cell? (ad.add r) = some (.slice A1 n d1) from (q.cell (cell_lt x1')).trans x1'))
      clear hb hall sf sy hnp la lb la' lb' l1 l2 hd1 hd2 hkp z0
      go_wp2_with fail
      refine (S1.out).mono ?_; rintro e1 w10 ⟨ht, k10⟩
      obtain ⟨t1, h1, rfl⟩ := tells_bool ht
      have T1 := Lib.hid h1
      have Q10 := Lib.hid k10
      have K11 := Lib.hid (HK.out.trans k10)
      have x1'' := KEEP.out w10 k10
      clear h1 ht k10 x1' x2'
      cases t1 with
      | true =>
        have LT := Lib.hid (T1.out.1 rfl)
        clear T1
        go_wp2_with fail
        refine (S2.out w10 Q10.out).mono ?_; rintro e1 w11 ⟨ht, k11⟩
        obtain ⟨t2, h2, rfl⟩ := tells_bool ht
        have NW := Lib.hid (show t2 = true ↔ (z2 = 0 ∧ ∀ f y, Hm n f m → Hm n y k → ∀ t, t < r + 1 → Zx.Lat n f (y t) ∧ Zx.Lat n y (f t)) from ⟨fun h => ⟨HZ0.out, fun f' y' hf hy t ht => by
          by_cases e : t = r
          · obtain ⟨u1, u2, u3, u4⟩ := UNI.out f' y' hf hy
            rw [e]
            exact ⟨((u1 _).1 LT.out).congr u4, ((u2 _).1 (h2.1 h)).congr u3⟩
          · exact HALL.out f' y' hf hy t (by omega)⟩, fun h => h2.2 (h.2 f y HSF.out HSY.out r (by omega)).2⟩)
        have K12 := Lib.hid (K11.out.trans k11)
        clear h2 ht k11
        go_wp2_with fail
        go_roundw
        case rel => exact ⟨r + 1, t2, by omega, by go_num, rfl, NW.out, K12.out⟩
        case measure => simp [intOf]; omega
      | false =>
        have NW := Lib.hid (show false = true ↔ (z2 = 0 ∧ ∀ f y, Hm n f m → Hm n y k → ∀ t, t < r + 1 → Zx.Lat n f (y t) ∧ Zx.Lat n y (f t)) from ⟨fun h => (by cases h), fun h => T1.out.2 (h.2 f y HSF.out HSY.out r (by omega)).1⟩)
        go_wp2_with fail
        go_roundw
        case rel => exact ⟨r + 1, false, by omega, by go_num, rfl, NW.out, K11.out⟩
        case measure => simp [intOf]; omega
    · as_aux_lemma =>
      have HCC := Lib.hid hc
      clear hb hkp hc
      go_upto_region 15 with (fail)
      go_cut [64] from 58 to 64 (fun v wc => v = .bool false ∧ Kp w wc)
      case first =>
        as_aux_lemma =>
        by_cases hrn : r < n
        · obtain rfl : b = false := by
            cases b with
            | false => rfl
            | true => exact absurd ⟨hrn, rfl⟩ HCC.out
          go_wp2_with fail
          go_meet
          case rel => exact ⟨rfl, HK.out⟩
        · have hd : decide (r < n) = false := decide_eq_false hrn
          obtain rfl : n = r := by omega
          clear hr hrn hd
          go_wp2_with fail
          go_meet
          case rel => exact ⟨rfl, HK.out⟩
      case rest =>
      as_aux_lemma =>
      obtain ⟨rfl, kT⟩ := hcut
      obtain ⟨w10, hw10⟩ : ∃ x, x = wc := ⟨_, rfl⟩
      subst hw10
      have K10 := Lib.hid kT
      clear kT HK
      have BS := Lib.hid (show b = true ↔ (z2 = 0 ∧ ∀ f y, Hm n f m → Hm n y k → Zx.Eql n f y) from ⟨fun h => by
        obtain ⟨u1, u2⟩ := HBR.out.1 h
        have hrn : r = n := Classical.byContradiction fun e => HCC.out ⟨by omega, h⟩
        exact ⟨u1, fun f y hf hy => ⟨fun i hi => (u2 f y hf hy i (by omega)).2, fun i hi => (u2 f y hf hy i (by omega)).1⟩⟩,
        fun h => HBR.out.2 ⟨h.1, fun f y hf hy t ht => ⟨(h.2 f y hf hy).2 t (by omega), (h.2 f y hf hy).1 t (by omega)⟩⟩⟩)
      have SAM := SA.out w10 K10.out
      unfold bit at SAM
      have E2 := Lib.hid (fun w' (q : Kp w w') => ER.out z2 Z2L.out w' q)
      obtain ⟨x2, hx2⟩ : ∃ x2, x2 = errOf z2 := ⟨_, rfl⟩
      rw [← hx2] at SAM E2
      have SAM := Lib.hid SAM
      clear hx2
      go_wp2_with fail
      refine (SAM.out).mono ?_; rintro e1 w11 ⟨bs, hbs, rfl, k11⟩
      obtain rfl : bs = b := by
        have h1 : bs = true ↔ b = true := hbs.trans BS.out.symm
        cases b <;> cases bs <;> simp at h1 ⊢
      have K11 := Lib.hid (K10.out.trans k11)
      have ebb : (bs == bs) = true := by simp
      clear hbs k11 BS HBR SAM
      go_wp2_with fail
      refine (E2.out w11 K11.out).mono ?_; rintro e1 w12 ⟨rfl, k12⟩
      have K12 := Lib.hid (K11.out.trans k12)
      clear k12 E2 K10 K11
      obtain ⟨bx, hbx⟩ := bool_of (AllIn l (-100) 100)
      have HBX := Lib.hid hbx
      have HZX := Lib.hid (show hcdx m l bx = if z1 ≠ 0 then z1 else if L ≠ n then 3 else if bx = false then 1 else 0 by
        unfold hcdx; rw [← HZ1.out, ← HLL.out, ← HN.out])
      have HCA := Lib.hid (fun w' (q : Kp w w') => HS.out w' q bx hbx)
      clear hbx
      by_cases h1 : z1 = 0
      · have hc1 : ((z1 : Int) == 0) = true := by rw [beq_iff_eq]; omega
        rcases hm_or m HN.out.symm with ⟨f, sf⟩ | h'
        · have n3 := sf.sh.n3
          have n0 := sf.sh.n0
          by_cases h2 : L = n
          · as_aux_lemma =>
            have hc2 : ((L : Int) != (n : Int)) = false := by rw [h2]; simp
            have AL := Lib.hid (show Calls Tryd.prog 12 #[.slice X L e, .int .i64 (-100), .int .i64 100] w12 fun e w'' => e = .returned (.bool bx) ∧ w12 = w'' from by
              have := all_any X l e (-100) 100 w12 (HX.out.keep K12.out) (by rw [← HLL.out]; omega)
              rw [← HLL.out] at this
              refine this.mono fun e w' ⟨ht, h⟩ => ⟨?_, h⟩
              cases bx with
              | true => exact tells_yes ht (HBX.out.1 rfl)
              | false => exact tells_no ht (fun h => by have := HBX.out.2 h; cases this))
            cases bx with
            | true =>
              have ez : hcdx m l true = 0 := by rw [HZX.out, if_neg (fun h => h h1), if_neg (fun h => h h2), if_neg (by decide)]
              have BND := HBX.out.1 rfl
              have LE := Lib.hid HX.out
              have SU := Lib.hid (show Calls Tryd.prog 10 #[.slice A n c, .slice X L e] w12 fun e1 w'' => Tells (Zx.Lat n f fun j => l.getD j 0) e1 ∧ Kp w12 w'' from by
                have RW : l = Mx.row n fun j => l.getD j 0 := by
                  refine list_same _ _ (by rw [Mx.len_row, ← HLL.out]; exact h2) fun t ht => ?_
                  rw [Mx.row_at _ _ _ (by rw [← HLL.out] at ht; omega)]
                have hb : Lies w12 X (Mx.row n fun j => l.getD j 0) := by rw [← RW]; exact HX.out.keep K12.out
                have key : ∀ L', L' = n → Calls Tryd.prog 10 #[.slice A n c, .slice X L' e] w12 fun e1 w'' => Tells (Zx.Lat n f fun j => l.getD j 0) e1 ∧ Kp w12 w'' := fun L' eL => by
                  subst eL
                  exact rSum_any sf A X (fun j => l.getD j 0) c e w12 (HA.out.keep K12.out) hb (by have := LXH.out; omega) (fun j hj => BND j (by rw [← HLL.out]; omega))
                exact key L h2)
              have HUN := Lib.hid (show (hcdx m l true = 0 ∧ ∀ f, Hm n f m → Zx.Lat n f fun j => l.getD j 0) ↔ Zx.Lat n f fun j => l.getD j 0 from ⟨fun h => h.2 f sf, fun h => ⟨ez, fun f' hf => h.mat (sf.same hf).2⟩⟩)
              have HCC := Lib.hid (fun w' (q : Kp w w') => show Calls Tryd.prog 13 #[.slice A n c, .slice X L e] w' fun e w'' => ∃ b : Bool, (b = true ↔ Zx.Lat n f fun j => l.getD j 0) ∧ e = .returned (.tuple #[.bool b, errOf 0]) ∧ Kp w' w'' from
                (HCA.out w' q).mono fun e1 w'' ⟨b, g1, g2, g3⟩ => ⟨b, g1.trans HUN.out, by rw [ez] at g2; exact g2, g3⟩)
              have E3 := Lib.hid (fun w' (q : Kp w w') => show Calls Tryd.prog 5 #[errOf 0, .int .i64 (z1 : Int)] w' fun e w'' => e = .returned (.bool true) ∧ Kp w' w'' from by rw [h1]; exact ER.out 0 (by decide) w' q)
              obtain ⟨x3, hx3⟩ : ∃ x3, x3 = errOf 0 := ⟨_, rfl⟩
              rw [← hx3] at HCC E3
              clear hx3 ez BND LE h1 h2 sf
              go_wp2_with fail
              refine (AL.out).mono ?_; rintro e1 w13 ⟨rfl, rfl⟩
              go_wp2_with fail
              refine (SU.out).mono ?_; rintro e1 w13 ⟨ht, k13⟩
              obtain ⟨b1, hb1, rfl⟩ := tells_bool ht
              have HB1 := Lib.hid hb1
              have Q13 := Lib.hid (K12.out.trans k13)
              clear ht hb1 k13
              have HC := Lib.hid (HCC.out w13 Q13.out)
              go_wp2_with fail
              refine (HC.out).mono ?_; rintro e1 w14 ⟨bh, hbh, rfl, k14⟩
              obtain rfl : bh = b1 := by
                have h1 : bh = true ↔ b1 = true := hbh.trans HB1.out.symm
                cases b1 <;> cases bh <;> simp at h1 ⊢
              have K14 := Lib.hid (Q13.out.trans k14)
              have ebh : (bh == bh) = true := by simp
              clear hbh k14
              go_wp2_with fail
              refine (E3.out w14 K14.out).mono ?_; rintro e1 w15 ⟨rfl, k15⟩
              have K15 := Lib.hid (K14.out.trans k15)
              clear k15
              go_wp2_with fail
              go_ret
              exact ⟨rfl, K15.out⟩
            | false =>
              have ez : hcdx m l false = 1 := by rw [HZX.out, if_neg (fun h => h h1), if_neg (fun h => h h2), if_pos rfl]
              have N : ¬ (1 : Nat) = 0 := by decide
              have N := Lib.hid N
              have hc0 := HCA.out w12 K12.out
              unfold bit at hc0
              rw [ez] at hc0
              have E3 := Lib.hid (fun w' (q : Kp w w') => show Calls Tryd.prog 5 #[errOf 1, .int .i64 1] w' fun e w'' => e = .returned (.bool true) ∧ Kp w' w'' from ER.out 1 (by decide) w' q)
              obtain ⟨x3, hx3⟩ : ∃ x3, x3 = errOf 1 := ⟨_, rfl⟩
              rw [← hx3] at hc0 E3
              have HC := Lib.hid hc0
              clear hc0 hx3 ez
              clear h1 h2 sf
              go_wp2_with fail
              refine (AL.out).mono ?_; rintro e1 w13' ⟨rfl, rfl⟩
              go_wp2_with fail
              refine (HC.out).mono ?_; rintro e1 w13 ⟨bh, hbh, rfl, k13⟩
              obtain rfl : bh = false := by
                cases bh with
                | false => rfl
                | true => exact absurd (hbh.1 rfl).1 N.out
              have K13 := Lib.hid (K12.out.trans k13)
              clear hbh k13
              go_wp2_with fail
              refine (E3.out w13 K13.out).mono ?_; rintro e1 w14 ⟨rfl, k14⟩
              have K14 := Lib.hid (K13.out.trans k14)
              clear k14
              go_wp2_with fail
              go_ret
              exact ⟨rfl, K14.out⟩
          · as_aux_lemma =>
            have hc2 : ((L : Int) != (n : Int)) = true := by rw [bne_iff_ne]; omega
            have ez : hcdx m l bx = 3 := by rw [HZX.out, if_neg (fun h => h h1), if_pos h2]
            have N : ¬ (3 : Nat) = 0 := by decide
            have N := Lib.hid N
            have hc0 := HCA.out w12 K12.out
            unfold bit at hc0
            rw [ez] at hc0
            have E3 := Lib.hid (fun w' (q : Kp w w') => show Calls Tryd.prog 5 #[errOf 3, .int .i64 3] w' fun e w'' => e = .returned (.bool true) ∧ Kp w' w'' from ER.out 3 (by decide) w' q)
            obtain ⟨x3, hx3⟩ : ∃ x3, x3 = errOf 3 := ⟨_, rfl⟩
            rw [← hx3] at hc0 E3
            have HC := Lib.hid hc0
            clear hc0 hx3 ez
            clear h1 h2 sf
            go_wp2_with fail
            refine (HC.out).mono ?_; rintro e1 w13 ⟨bh, hbh, rfl, k13⟩
            obtain rfl : bh = false := by
              cases bh with
              | false => rfl
              | true => exact absurd (hbh.1 rfl).1 N.out
            have K13 := Lib.hid (K12.out.trans k13)
            clear hbh k13
            go_wp2_with fail
            refine (E3.out w13 K13.out).mono ?_; rintro e1 w14 ⟨rfl, k14⟩
            have K14 := Lib.hid (K13.out.trans k14)
            clear k14
            go_wp2_with fail
            go_ret
            exact ⟨rfl, K14.out⟩
        · exact absurd (HZ1.out.symm.trans h1) h'
      · as_aux_lemma =>
        have hc1 : ((z1 : Int) == 0) = false := by rw [beq_eq_false_iff_ne]; omega
        have ez : hcdx m l bx = z1 := by rw [HZX.out, if_pos h1]
        have N := Lib.hid h1
        have hc0 := HCA.out w12 K12.out
        unfold bit at hc0
        rw [ez] at hc0
        have E3 := Lib.hid (fun w' (q : Kp w w') => ER.out z1 (by have := Z1.out; omega) w' q)
        obtain ⟨x3, hx3⟩ : ∃ x3, x3 = errOf z1 := ⟨_, rfl⟩
        rw [← hx3] at hc0 E3
        have HC := Lib.hid hc0
        clear hc0 hx3 ez
        clear h1
        go_wp2_with fail
        refine (HC.out).mono ?_; rintro e1 w13 ⟨bh, hbh, rfl, k13⟩
        obtain rfl : bh = false := by
          cases bh with
          | false => rfl
          | true => exact absurd (hbh.1 rfl).1 N.out
        have K13 := Lib.hid (K12.out.trans k13)
        clear hbh k13
        go_wp2_with fail
        refine (E3.out w13 K13.out).mono ?_; rintro e1 w14 ⟨rfl, k14⟩
        have K14 := Lib.hid (K13.out.trans k14)
        clear k14
        go_wp2_with fail
        go_ret
        exact ⟨rfl, K14.out⟩
end Go.Proofs.YteobamakmmoljaaDoor
