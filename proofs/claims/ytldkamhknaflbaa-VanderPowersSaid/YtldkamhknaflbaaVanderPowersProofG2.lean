/- Several texts, one behind the other: PolM, MatC, MatV, MatC2, MatC3, MatQ, PartF, OwnM, OwnH, GaC1, Bz, Fld, GaC2, MtC1, GaC3, MatS, SoC1, RcM, VdM, VdC1, HdP. -/
import Derived.Test.YtldkamhknaflbaaVanderPowersProofG1
import Derived.StillTailTactics
import Derived.RangeFuncWrites
import Derived.Maps.AppendAt
import Derived.Deep.RegionHeld3

/- Plain facts on polynomials over the field: lists of coefficients, values, products, division, Euclid's steps. No program is named here. -/
namespace Go.Proofs.Ytldkamhknaflbaa.Pol
open Fp
set_option linter.unusedVariables false

/-- The value at x. -/
def ev : List F → F → F
  | [], _ => 0
  | a :: p, x => a + x * ev p x
/-- The coefficient of a power; 0 behind all. -/
def co (p : List F) (k : Nat) : F := p.getD k 0

theorem ev_nil (x : F) : ev [] x = 0 := rfl
theorem ev_cons (a : F) (p : List F) (x : F) : ev (a :: p) x = a + x * ev p x := rfl
theorem co_nil (k : Nat) : co [] k = 0 := by simp [co]
theorem co_zero (a : F) (p : List F) : co (a :: p) 0 = a := by simp [co]
theorem co_succ (a : F) (p : List F) (k : Nat) : co (a :: p) (k + 1) = co p k := by simp [co]
theorem co_out (p : List F) (k : Nat) (h : p.length ≤ k) : co p k = 0 := by simp [co, List.getElem?_eq_none h]

theorem pw_comm (x : F) (n : Nat) : pw x (n + 1) = x * pw x n := by rw [pw_succ, Fin.mul_comm]

theorem ev_append (p q : List F) (x : F) : ev (p ++ q) x = ev p x + pw x p.length * ev q x := by
  induction p with
  | nil => rw [List.nil_append, ev_nil, List.length_nil, pw_zero]; grind
  | cons a p ih => rw [List.cons_append, ev_cons, ev_cons, ih, List.length_cons, pw_comm]; grind

theorem ev_one (a x : F) : ev [a] x = a := by rw [ev_cons, ev_nil]; grind
theorem ev_snoc (p : List F) (a x : F) : ev (p ++ [a]) x = ev p x + a * pw x p.length := by rw [ev_append, ev_one]; grind

theorem ev_set (p : List F) (k : Nat) (c x : F) (h : k < p.length) : ev (p.set k c) x = ev p x + (c - co p k) * pw x k := by
  induction p generalizing k with
  | nil => simp at h
  | cons a p ih =>
    cases k with
    | zero => rw [List.set_cons_zero, ev_cons, ev_cons, co_zero, pw_zero]; grind
    | succ k =>
      rw [List.set_cons_succ, ev_cons, ev_cons, co_succ, ih k (by simpa using h), pw_comm]; grind

theorem ev_zeros (n : Nat) (x : F) : ev (List.replicate n 0) x = 0 := by
  induction n with
  | zero => rfl
  | succ n ih => rw [List.replicate_succ, ev_cons, ih]; grind

theorem ev_all_zero (p : List F) (h : ∀ b ∈ p, b = 0) (x : F) : ev p x = 0 := by
  induction p with
  | nil => rfl
  | cons a p ih => rw [ev_cons, ih fun b hb => h b (List.mem_cons_of_mem _ hb), h a (List.mem_cons_self ..)]; grind

theorem take_succ (p : List F) (k : Nat) (h : k < p.length) : p.take (k + 1) = p.take k ++ [co p k] := by
  rw [List.take_succ_eq_append_getElem h, co, List.getD_eq_getElem?_getD, List.getElem?_eq_getElem h]; rfl

theorem ev_take_succ (p : List F) (k : Nat) (h : k < p.length) (x : F) : ev (p.take (k + 1)) x = ev (p.take k) x + co p k * pw x k := by
  rw [take_succ p k h, ev_snoc, List.length_take, Nat.min_eq_left (Nat.le_of_lt h)]

/-- Behind a place: what Horner's rule keeps. -/
theorem drop_eq (p : List F) (k : Nat) (h : k < p.length) : p.drop k = co p k :: p.drop (k + 1) := by
  rw [List.drop_eq_getElem_cons h, co, List.getD_eq_getElem?_getD, List.getElem?_eq_getElem h]; rfl
theorem ev_drop (p : List F) (k : Nat) (h : k < p.length) (x : F) : ev (p.drop k) x = co p k + x * ev (p.drop (k + 1)) x := by
  rw [drop_eq p k h, ev_cons]

/-- A root can be taken out. -/
theorem synth (p : List F) (r : F) (hp : p ≠ []) :
    ∃ q : List F, q.length + 1 = p.length ∧ (∀ x, ev p x = (x - r) * ev q x + ev p r) ∧ ((∀ b ∈ q, b = 0) → ev p r = 0 → ∀ b ∈ p, b = 0) := by
  induction p with
  | nil => exact absurd rfl hp
  | cons a p ih =>
    by_cases h0 : p = []
    · subst h0
      refine ⟨[], rfl, fun x => by rw [ev_one, ev_one, ev_nil]; grind, fun _ h b hb => ?_⟩
      rw [ev_one] at h
      rw [List.mem_singleton] at hb
      rw [hb, h]
    · obtain ⟨q, h1, h2, h3⟩ := ih h0
      refine ⟨ev p r :: q, by simp [h1], fun x => ?_, fun hq hr b hb => ?_⟩
      · have := h2 x
        rw [ev_cons, ev_cons, ev_cons, this]; grind
      · have z := hq (ev p r) (List.mem_cons_self ..)
        have hq' : ∀ b ∈ p, b = 0 := h3 (fun b hb => hq b (List.mem_cons_of_mem _ hb)) z
        rw [ev_cons, z] at hr
        rcases List.mem_cons.1 hb with rfl | hb
        · grind
        · exact hq' b hb

theorem zero_below (n : Nat) : ∀ p : List F, p.length ≤ n → n ≤ 9973 → (∀ x : F, x.val < n → ev p x = 0) → ∀ b ∈ p, b = 0 := by
  induction n with
  | zero =>
    intro p hp _ _ b hb
    have : p = [] := List.eq_nil_of_length_eq_zero (by omega)
    subst this; simp at hb
  | succ n ih =>
    intro p hp hn hz
    by_cases h0 : p = []
    · subst h0; intro b hb; simp at hb
    · obtain ⟨q, h1, h2, h3⟩ := synth p ⟨n, by omega⟩ h0
      have hr : ev p ⟨n, by omega⟩ = 0 := hz _ (by show n < n + 1; omega)
      refine h3 (ih q (by omega) (by omega) fun x hx => ?_) hr
      have e := h2 x
      rw [hr, hz x (by omega)] at e
      have e2 : (x - ⟨n, by omega⟩) * ev q x = 0 := by grind
      rcases mul_zero_or e2 with h | h
      · exfalso
        have : x = ⟨n, by omega⟩ := by grind
        rw [this] at hx
        exact Nat.lt_irrefl _ hx
      · exact h

theorem zero_all (p : List F) (hp : p.length ≤ 9973) (hz : ∀ x, ev p x = 0) : ∀ b ∈ p, b = 0 :=
  zero_below 9973 p hp (Nat.le_refl _) fun x _ => hz x

/-- The sum. -/
def padd : List F → List F → List F
  | [], q => q
  | a :: p, [] => a :: p
  | a :: p, b :: q => (a + b) :: padd p q
theorem padd_nil (p : List F) : padd p [] = p := by cases p <;> rfl
theorem ev_padd (p q : List F) (x : F) : ev (padd p q) x = ev p x + ev q x := by
  induction p generalizing q with
  | nil => rw [padd, ev_nil]; grind
  | cons a p ih =>
    cases q with
    | nil => rw [padd, ev_nil]; grind
    | cons b q => rw [padd, ev_cons, ev_cons, ev_cons, ih]; grind
theorem co_padd (p q : List F) (k : Nat) : co (padd p q) k = co p k + co q k := by
  induction p generalizing q k with
  | nil => rw [padd, co_nil]; grind
  | cons a p ih =>
    cases q with
    | nil => rw [padd, co_nil]; grind
    | cons b q =>
      rw [padd]
      cases k with
      | zero => rw [co_zero, co_zero, co_zero]
      | succ k => rw [co_succ, co_succ, co_succ, ih]
theorem len_padd (p q : List F) : (padd p q).length = max p.length q.length := by
  induction p generalizing q with
  | nil => rw [padd, List.length_nil]; omega
  | cons a p ih =>
    cases q with
    | nil => rw [padd, List.length_nil]; omega
    | cons b q => rw [padd, List.length_cons, List.length_cons, List.length_cons, ih]; omega

/-- So many times. -/
def times (c : F) (p : List F) : List F := p.map fun a => c * a
theorem ev_times (c : F) (p : List F) (x : F) : ev (times c p) x = c * ev p x := by
  induction p with
  | nil => rw [times, List.map_nil, ev_nil]; grind
  | cons a p ih => rw [times] at *; rw [List.map_cons, ev_cons, ev_cons, ih]; grind
theorem co_times (c : F) (p : List F) (k : Nat) : co (times c p) k = c * co p k := by
  induction p generalizing k with
  | nil => rw [times, List.map_nil, co_nil]; grind
  | cons a p ih =>
    rw [times] at *
    rw [List.map_cons]
    cases k with
    | zero => rw [co_zero, co_zero]
    | succ k => rw [co_succ, co_succ, ih]
theorem len_times (c : F) (p : List F) : (times c p).length = p.length := by rw [times, List.length_map]

/-- The product. -/
def pmul : List F → List F → List F
  | [], _ => []
  | a :: p, q => padd (times a q) (0 :: pmul p q)
theorem ev_pmul (p q : List F) (x : F) : ev (pmul p q) x = ev p x * ev q x := by
  induction p with
  | nil => rw [pmul, ev_nil]; grind
  | cons a p ih => rw [pmul, ev_padd, ev_times, ev_cons, ev_cons, ih]; grind
theorem len_pmul (p q : List F) (hp : p ≠ []) (hq : q ≠ []) : (pmul p q).length + 1 = p.length + q.length := by
  have hq' := List.length_pos_iff.2 hq
  induction p with
  | nil => exact absurd rfl hp
  | cons a p ih =>
    rw [pmul, len_padd, len_times, List.length_cons, List.length_cons]
    by_cases h : p = []
    · subst h; rw [pmul, List.length_nil]; omega
    · have := ih h; omega
theorem co_pmul (p q : List F) (n m : Nat) (hp : p.length ≤ n + 1) (hq : q.length ≤ m + 1) : co (pmul p q) (n + m) = co p n * co q m := by
  induction p generalizing n with
  | nil => rw [pmul, co_nil, co_nil]; grind
  | cons a p ih =>
    rw [pmul, co_padd, co_times]
    cases n with
    | zero =>
      have : p = [] := by simpa using hp
      subst this
      rw [pmul, co_zero, Nat.zero_add]
      cases m with
      | zero => rw [co_zero]; grind
      | succ m => rw [co_succ, co_nil]; grind
    | succ n =>
      have e : n + 1 + m = (n + m) + 1 := by omega
      rw [e, co_succ, co_succ, ih n (by simpa using hp), co_out q (n + m + 1) (by omega)]; grind

/-- It has no nought at its end. -/
def Tr (p : List F) : Prop := p ≠ [] → co p (p.length - 1) ≠ 0
theorem tr_nil : Tr [] := fun h => absurd rfl h
theorem snoc_of (p : List F) (h : p ≠ []) : ∃ q, p = q ++ [co p (p.length - 1)] ∧ q.length + 1 = p.length := by
  have hl := List.length_pos_iff.2 h
  refine ⟨p.take (p.length - 1), ?_, by rw [List.length_take]; omega⟩
  have := take_succ p (p.length - 1) (by omega)
  rw [Nat.sub_add_cancel (by omega), List.take_length] at this
  exact this
theorem co_snoc (p : List F) (a : F) : co (p ++ [a]) p.length = a := by simp [co]
theorem tr_snoc (p : List F) (a : F) (h : a ≠ 0) : Tr (p ++ [a]) := by
  intro _
  rw [List.length_append, List.length_singleton, Nat.add_sub_cancel, co_snoc]
  exact h

/-- Without the noughts at its end. -/
def trim (p : List F) : List F := (p.reverse.dropWhile (fun a => a == 0)).reverse
theorem trim_nil : trim [] = [] := rfl
theorem trim_zero (p : List F) : trim (p ++ [0]) = trim p := by simp [trim]
theorem trim_not (p : List F) (a : F) (h : a ≠ 0) : trim (p ++ [a]) = p ++ [a] := by simp [trim, h]
theorem trim_tr (p : List F) (h : Tr p) : trim p = p := by
  by_cases h0 : p = []
  · subst h0; rfl
  · obtain ⟨q, e, _⟩ := snoc_of p h0
    have := h h0
    rw [e]
    exact trim_not _ _ this

theorem trim_ind (P : List F → Prop) (hz : ∀ p, P p → P (p ++ [0])) (hn : ∀ p, Tr p → P p) (p : List F) : P p := by
  obtain ⟨n, hl⟩ : ∃ n, n = p.length := ⟨_, rfl⟩
  induction n generalizing p with
  | zero =>
    have : p = [] := List.eq_nil_of_length_eq_zero hl.symm
    subst this; exact hn _ tr_nil
  | succ n ih =>
    have h0 : p ≠ [] := fun e => by subst e; simp at hl
    obtain ⟨q, e, hq⟩ := snoc_of p h0
    by_cases hc : co p (p.length - 1) = 0
    · rw [hc] at e
      rw [e]
      exact hz q (ih q (by omega))
    · exact hn p fun _ => hc

theorem tr_trim (p : List F) : Tr (trim p) := by
  refine trim_ind (fun p => Tr (trim p)) (fun p h => by rw [trim_zero]; exact h) (fun p h => by rw [trim_tr p h]; exact h) p
theorem ev_trim (p : List F) (x : F) : ev (trim p) x = ev p x := by
  refine trim_ind (fun p => ev (trim p) x = ev p x) (fun p h => by rw [trim_zero, h, ev_snoc]; grind) (fun p h => by rw [trim_tr p h]) p
theorem len_trim (p : List F) : (trim p).length ≤ p.length := by
  refine trim_ind (fun p => (trim p).length ≤ p.length) (fun p h => by rw [trim_zero, List.length_append]; omega) (fun p h => by rw [trim_tr p h]; exact Nat.le_refl _) p
theorem trim_take (p : List F) : trim p = p.take (trim p).length := by
  refine trim_ind (fun p => trim p = p.take (trim p).length) (fun p h => ?_) (fun p h => by rw [trim_tr p h, List.take_length]) p
  show trim (p ++ [0]) = (p ++ [0]).take (trim (p ++ [0])).length
  rw [trim_zero, List.take_append_of_le_length (len_trim p)]; exact h
theorem trim_trim (p : List F) : trim (trim p) = trim p := trim_tr _ (tr_trim p)
theorem trim_len_eq (p : List F) (h : (trim p).length = p.length) : trim p = p := by
  have := trim_take p
  rwa [h, List.take_length] at this
theorem co_trim (p : List F) (k : Nat) : co (trim p) k = co p k := by
  refine trim_ind (fun p => co (trim p) k = co p k) (fun p h => ?_) (fun p h => by rw [trim_tr p h]) p
  show co (trim (p ++ [0])) k = co (p ++ [0]) k
  rw [trim_zero, h]
  rcases Nat.lt_trichotomy k p.length with hk | hk | hk
  · simp [co, List.getElem?_append_left hk]
  · rw [hk, co_snoc, co_out p _ (Nat.le_refl _)]
  · rw [co_out p _ (by omega), co_out (p ++ [0]) _ (by simp; omega)]
/-- One that ends in noughts from place n on is no longer. -/
theorem trim_short (p : List F) (n : Nat) (h : ∀ k, n ≤ k → co p k = 0) : (trim p).length ≤ n := by
  refine Nat.le_of_not_lt fun hl => ?_
  have h0 : trim p ≠ [] := fun e => by rw [e] at hl; simp at hl
  refine tr_trim p h0 ?_
  rw [co_trim]
  exact h _ (by omega)

theorem list_ext (p q : List F) (h : p.length = q.length) (h2 : ∀ k, co p k = co q k) : p = q := by
  refine List.ext_getElem h fun k h3 h4 => ?_
  have := h2 k
  rwa [co, co, List.getD_eq_getElem?_getD, List.getD_eq_getElem?_getD, List.getElem?_eq_getElem h3, List.getElem?_eq_getElem h4] at this
theorem tr_le (p q : List F) (hp : Tr p) (h : ∀ k, co p k = co q k) : p.length ≤ q.length := by
  refine Nat.le_of_not_lt fun hl => ?_
  have h0 : p ≠ [] := fun e => by subst e; simp at hl
  refine hp h0 ?_
  rw [h, co_out q _ (by omega)]
theorem tr_ext (p q : List F) (hp : Tr p) (hq : Tr q) (h : ∀ k, co p k = co q k) : p = q :=
  list_ext p q (Nat.le_antisymm (tr_le p q hp h) (tr_le q p hq fun k => (h k).symm)) h

/-- Values say all of a short one. -/
theorem co_of_ev (p q : List F) (lp : p.length ≤ 9973) (lq : q.length ≤ 9973) (h : ∀ x, ev p x = ev q x) (k : Nat) : co p k = co q k := by
  have z := zero_all (padd p (times (-1) q)) (by rw [len_padd, len_times]; omega) fun x => by rw [ev_padd, ev_times, h]; grind
  have e : co (padd p (times (-1) q)) k = 0 := by
    rcases Nat.lt_or_ge k (padd p (times (-1) q)).length with hk | hk
    · rw [co, List.getD_eq_getElem?_getD, List.getElem?_eq_getElem hk]
      exact z _ (List.getElem_mem _)
    · exact co_out _ _ hk
  rw [co_padd, co_times] at e
  grind
theorem same (p q : List F) (hp : Tr p) (hq : Tr q) (lp : p.length ≤ 9973) (lq : q.length ≤ 9973) (h : ∀ x, ev p x = ev q x) : p = q :=
  tr_ext p q hp hq fun k => co_of_ev p q lp lq h k
theorem zero_of (p : List F) (hp : Tr p) (lp : p.length ≤ 9973) (h : ∀ x, ev p x = 0) : p = [] :=
  same p [] hp tr_nil lp (by simp) fun x => by rw [h, ev_nil]

theorem tr_pmul (p q : List F) (hp : Tr p) (hq : Tr q) (h2 : q ≠ []) : Tr (pmul p q) := by
  intro h0
  by_cases h1 : p = []
  · subst h1; exact absurd rfl h0
  have l1 := List.length_pos_iff.2 h1
  have l2 := List.length_pos_iff.2 h2
  have e := len_pmul p q h1 h2
  have : (pmul p q).length - 1 = (p.length - 1) + (q.length - 1) := by omega
  rw [this, co_pmul p q _ _ (by omega) (by omega)]
  intro h
  rcases mul_zero_or h with h | h
  · exact hp h1 h
  · exact hq h2 h
theorem pmul_ne (p q : List F) (h1 : p ≠ []) (h2 : q ≠ []) : pmul p q ≠ [] := by
  have l1 := List.length_pos_iff.2 h1
  have l2 := List.length_pos_iff.2 h2
  have e := len_pmul p q h1 h2
  intro h
  rw [h] at e
  simp at e
  omega
theorem len_pmul_le (p q : List F) : (pmul p q).length ≤ p.length + q.length := by
  induction p with
  | nil => rw [pmul]; simp
  | cons a p ih => rw [pmul, len_padd, len_times, List.length_cons, List.length_cons]; omega

/-- A product of a short one with something is something, and long. -/
theorem prod_len (p q r : List F) (hp : Tr p) (hq : Tr q) (hr : Tr r) (h1 : p ≠ []) (h2 : q ≠ []) (l : p.length + q.length ≤ 9973) (lr : r.length ≤ 9973)
    (h : ∀ x, ev r x = ev p x * ev q x) : r = pmul p q := by
  refine same r (pmul p q) hr (tr_pmul p q hp hq h2) lr (Nat.le_trans (len_pmul_le p q) l) fun x => ?_
  rw [h, ev_pmul]

/-- f is g so many times, and a rest with fewer factors. -/
structure Dv (f g q r : List F) : Prop where
  tq : Tr q
  tr : Tr r
  lt : r.length < g.length
  lq : q.length ≤ f.length
  eq : ∀ x, ev f x = ev g x * ev q x + ev r x

theorem Dv.one {f g q r q' r' : List F} (hg : Tr g) (lf : f.length ≤ 1000) (lg : g.length ≤ 1000) (h : Dv f g q r) (h' : Dv f g q' r') : q = q' ∧ r = r' := by
  have hlt := h.lt
  have hlt' := h'.lt
  have hlq := h.lq
  have hlq' := h'.lq
  have g0 : g ≠ [] := fun e => by rw [e] at hlt; simp at hlt
  have ed : ∀ x, ev g x * ev (trim (padd q (times (-1) q'))) x = ev (trim (padd r' (times (-1) r))) x := fun x => by
    have e1 := h.eq x
    have e2 := h'.eq x
    rw [ev_trim, ev_trim, ev_padd, ev_padd, ev_times, ev_times]; grind
  have ld := Nat.le_trans (len_trim (padd q (times (-1) q'))) (Nat.le_of_eq (len_padd _ _))
  have le := Nat.le_trans (len_trim (padd r' (times (-1) r))) (Nat.le_of_eq (len_padd _ _))
  rw [len_times] at ld le
  have d0 : trim (padd q (times (-1) q')) = [] := by
    refine Classical.byContradiction fun d0 => ?_
    have e := prod_len g _ (trim (padd r' (times (-1) r))) hg (tr_trim _) (tr_trim _) g0 d0 (by omega) (by omega) fun x => (ed x).symm
    have := len_pmul g _ g0 d0
    rw [← e] at this
    have := List.length_pos_iff.2 d0
    omega
  have eq : ∀ x, ev q x = ev q' x := fun x => by
    have : ev (trim (padd q (times (-1) q'))) x = 0 := by rw [d0]; rfl
    rw [ev_trim, ev_padd, ev_times] at this; grind
  refine ⟨same q q' h.tq h'.tq (by omega) (by omega) eq, same r r' h.tr h'.tr (by omega) (by omega) fun x => ?_⟩
  have e1 := h.eq x
  have e2 := h'.eq x
  rw [eq] at e1
  grind

/-- Lengths in a division. -/
theorem Dv.len {f g q r : List F} (hf : Tr f) (hg : Tr g) (lf : f.length ≤ 1000) (lg : g.length ≤ 1000) (h : Dv f g q r) :
    (q = [] ∧ f = r) ∨ (q ≠ [] ∧ q.length + g.length = f.length + 1) := by
  have hlt := h.lt
  have hlq := h.lq
  have g0 : g ≠ [] := fun e => by rw [e] at hlt; simp at hlt
  by_cases q0 : q = []
  · refine .inl ⟨q0, same f r hf h.tr (by omega) (by omega) fun x => ?_⟩
    rw [h.eq, q0, ev_nil]; grind
  · refine .inr ⟨q0, ?_⟩
    have l1 := List.length_pos_iff.2 q0
    have l := len_pmul g q g0 q0
    have t := tr_pmul g q hg h.tq q0
    have le : (padd (pmul g q) r).length = (pmul g q).length := by rw [len_padd]; omega
    have ts : Tr (padd (pmul g q) r) := fun _ => by
      rw [le, co_padd, co_out r _ (by omega)]
      have := t (pmul_ne g q g0 q0)
      grind
    have := same f _ hf ts (by omega) (by omega) fun x => by rw [h.eq, ev_padd, ev_pmul]
    rw [this, le]
    omega

/-- Of a row that runs to places that may be nought, the shortened one. -/
theorem Dv.of {f g q r : List F} (hf : Tr f) (hg : Tr g) (lf : f.length ≤ 1000) (lg : g.length ≤ 1000) (lq : q.length ≤ f.length) (hr : (trim r).length < g.length)
    (h : ∀ x, ev f x = ev g x * ev q x + ev r x) : Dv f g (trim q) (trim r) :=
  ⟨tr_trim q, tr_trim r, hr, Nat.le_trans (len_trim q) lq, fun x => by rw [h, ev_trim, ev_trim]⟩

/-- What is left by all that was made: quotient's row is as long as it may be. -/
theorem Dv.full {f g q r : List F} (hf : Tr f) (hg : Tr g) (lf : f.length ≤ 1000) (lg : g.length ≤ 1000) (g0 : g ≠ []) (lq : q.length = f.length - (g.length - 1)) (hr : (trim r).length < g.length)
    (h : ∀ x, ev f x = ev g x * ev q x + ev r x) : Dv f g q (trim r) := by
  have l1 := List.length_pos_iff.2 g0
  have d := Dv.of (q := q) hf hg lf lg (by omega) hr h
  have e : trim q = q := by
    refine trim_len_eq q ?_
    rcases d.len hf hg lf lg with ⟨e, e2⟩ | ⟨_, e⟩
    · have : q.length = 0 := by rw [lq]; rw [e2]; omega
      rw [e, this]; rfl
    · omega
  rwa [e] at d

end Go.Proofs.Ytldkamhknaflbaa.Pol

/- Plain facts on polynomials as rules for their factors: values, what the values tell, and determinants whose numbers go straight with x. No program is named here. -/
namespace Go.Proofs.Ytldkamhknaflbaa.Mx
open Fp
set_option linter.unusedVariables false

/-- The value at x, of the factors up to that of x to the power d. -/
def vx (d : Nat) (c : Nat → F) (x : F) : F := sg (d + 1) fun k => c k * pw x k
theorem vx_congr {d : Nat} {c e : Nat → F} (h : ∀ k, k ≤ d → c k = e k) (x : F) : vx d c x = vx d e x := sg_congr fun k hk => by rw [h k (by omega)]
theorem vx_zero (c : Nat → F) (x : F) : vx 0 c x = c 0 := by unfold vx; rw [sg_succ, sg_zero, pw_zero]; grind
theorem vx_succ (d : Nat) (c : Nat → F) (x : F) : vx (d + 1) c x = vx d c x + c (d + 1) * pw x (d + 1) := by unfold vx; rw [sg_succ]
theorem vx_add (d : Nat) (c e : Nat → F) (x : F) : vx d c x + vx d e x = vx d (fun k => c k + e k) x := by
  unfold vx; rw [← sg_add]; exact sg_congr fun k _ => by grind
theorem vx_times (d : Nat) (a : F) (c : Nat → F) (x : F) : a * vx d c x = vx d (fun k => a * c k) x := by
  unfold vx; rw [← sg_times]; exact sg_congr fun k _ => by grind
theorem vx_up {d m : Nat} (h : d ≤ m) (c : Nat → F) (x : F) : vx m (fun k => if k ≤ d then c k else 0) x = vx d c x := by
  unfold vx
  rw [sg_less (n := d + 1) (by omega) fun i h1 h2 => by dsimp only; rw [if_neg (by omega)]; grind]
  exact sg_congr fun k hk => by dsimp only; rw [if_pos (by omega)]
theorem sg_first (n : Nat) (f : Nat → F) : sg (n + 1) f = f 0 + sg n fun i => f (i + 1) := by
  rw [Nat.add_comm n 1, sg_split, sg_succ, sg_zero]
  have : (fun i => f (1 + i)) = fun i => f (i + 1) := funext fun i => by rw [Nat.add_comm]
  rw [this]; grind
/-- x times it. -/
theorem vx_shift (d : Nat) (c : Nat → F) (x : F) : x * vx d c x = vx (d + 1) (fun k => if k = 0 then 0 else c (k - 1)) x := by
  unfold vx
  rw [sg_first (d + 1)]
  dsimp only
  rw [if_pos rfl, ← sg_times]
  have : (sg (d + 1) fun k => x * (c k * pw x k)) = sg (d + 1) fun k => (if k + 1 = 0 then 0 else c (k + 1 - 1)) * pw x (k + 1) := sg_congr fun k _ => by
    rw [if_neg (by omega), pw_succ, show k + 1 - 1 = k from rfl]; grind
  rw [this]; grind
theorem vx_at_zero (d : Nat) (c : Nat → F) : vx d c 0 = c 0 := by
  unfold vx
  rw [sg_first, pw_zero]
  have : (sg d fun i => c (i + 1) * pw 0 (i + 1)) = 0 := by
    rw [sg_congr (g := fun _ => 0) fun i _ => by rw [pw_zero_base _ (by omega)]; grind, sg_none]
  rw [this]; grind
theorem vx_ev (d : Nat) (c : Nat → F) (x : F) : Pol.ev ((List.range (d + 1)).map c) x = vx d c x := by
  induction d with
  | zero => rw [vx_zero]; simp [List.range_succ, Pol.ev_one]
  | succ d ih => rw [List.range_succ, List.map_append, List.map_cons, List.map_nil, Pol.ev_snoc, ih, vx_succ]; simp
/-- The values tell the factors. -/
theorem vx_zeros {d : Nat} (hd : d < 9973) {c : Nat → F} (h : ∀ x, vx d c x = 0) : ∀ k, k ≤ d → c k = 0 := fun k hk =>
  Pol.zero_all ((List.range (d + 1)).map c) (by simp; omega) (fun x => by rw [vx_ev, h]) (c k) (List.mem_map.2 ⟨k, List.mem_range.2 (by omega), rfl⟩)
theorem vx_eq {d : Nat} (hd : d < 9973) {c e : Nat → F} (h : ∀ x, vx d c x = vx d e x) : ∀ k, k ≤ d → c k = e k := fun k hk => by
  have := vx_zeros (c := fun k => c k + (-1) * e k) hd (fun x => by rw [← vx_add, ← vx_times, h]; grind) k hk
  grind

/-- A rule that is a polynomial's. -/
def IsP (d : Nat) (g : F → F) : Prop := ∃ c : Nat → F, ∀ x, g x = vx d c x
theorem IsP.up {d m : Nat} {g : F → F} (h : IsP d g) (hm : d ≤ m) : IsP m g := by
  obtain ⟨c, hc⟩ := h
  exact ⟨_, fun x => by rw [hc, vx_up hm]⟩
theorem IsP.const (a : F) : IsP 0 fun _ => a := ⟨fun _ => a, fun x => by rw [vx_zero]⟩
theorem IsP.add {d : Nat} {g h : F → F} (hg : IsP d g) (hh : IsP d h) : IsP d fun x => g x + h x := by
  obtain ⟨c, hc⟩ := hg
  obtain ⟨e, he⟩ := hh
  exact ⟨_, fun x => by dsimp only; rw [hc, he, vx_add]⟩
theorem IsP.times {d : Nat} {g : F → F} (hg : IsP d g) (a : F) : IsP d fun x => a * g x := by
  obtain ⟨c, hc⟩ := hg
  exact ⟨_, fun x => by dsimp only; rw [hc, vx_times]⟩
theorem IsP.shift {d : Nat} {g : F → F} (hg : IsP d g) : IsP (d + 1) fun x => x * g x := by
  obtain ⟨c, hc⟩ := hg
  exact ⟨_, fun x => by dsimp only; rw [hc, vx_shift]⟩
theorem IsP.line {d : Nat} {g : F → F} (hg : IsP d g) (a b : F) : IsP (d + 1) fun x => (a + b * x) * g x := by
  obtain ⟨c, hc⟩ := ((hg.times a).up (Nat.le_succ d)).add ((hg.times b).shift)
  exact ⟨c, fun x => by rw [← hc]; dsimp only; grind⟩
theorem IsP.sum {d : Nat} {g : Nat → F → F} : ∀ n, (∀ i, i < n → IsP d (g i)) → IsP d fun x => sg n fun i => g i x
  | 0, _ => ⟨fun _ => 0, fun x => by unfold vx; rw [sg_congr (g := fun _ => 0) fun k _ => by grind, sg_none]; rfl⟩
  | n + 1, h => by
    obtain ⟨c, hc⟩ := (IsP.sum n fun i hi => h i (by omega)).add (h n (by omega))
    exact ⟨c, fun x => by rw [← hc]; dsimp only; rw [sg_succ]⟩
/-- A determinant whose numbers go straight with x. -/
theorem IsP.dt : ∀ (n : Nat) (a b : Nat → Nat → F), IsP n fun x => Mx.dt n fun i j => a i j + b i j * x
  | 0, _, _ => IsP.const 1
  | n + 1, a, b => by
    obtain ⟨c, hc⟩ := IsP.sum (d := n + 1) (g := fun j x => sgn j * (a 0 j + b 0 j * x) * Mx.dt n (del j fun i j => a i j + b i j * x)) (n + 1) fun j _ => by
      obtain ⟨c, hc⟩ := ((IsP.dt n (del j a) (del j b)).line (a 0 j) (b 0 j)).times (sgn j)
      exact ⟨c, fun x => by rw [← hc]; show _ = sgn j * ((a 0 j + b 0 j * x) * Mx.dt n (del j fun i j => a i j + b i j * x)); grind⟩
    exact ⟨c, fun x => by rw [← hc]; rfl⟩

end Go.Proofs.Ytldkamhknaflbaa.Mx

/- Plain facts on the matrix of powers (Vandermonde). No program is named here. -/
namespace Go.Proofs.Ytldkamhknaflbaa.Mx
open Fp
set_option linter.unusedVariables false

/-- The powers of some numbers, row by row. -/
def vm (X : Nat → F) : Nat → Nat → F := fun i j => pw (X i) j
/-- The product of all differences. -/
def df : Nat → (Nat → F) → F
  | 0, _ => 1
  | n + 1, X => df n X * pr n fun i => X n - X i
theorem df_congr : ∀ (n : Nat) {X Y : Nat → F}, (∀ i, i < n → X i = Y i) → df n X = df n Y
  | 0, _, _, _ => rfl
  | n + 1, X, Y, h => by
    show df n X * _ = df n Y * _
    rw [df_congr n fun i hi => h i (by omega), pr_congr (h := fun i => Y n - Y i) fun i hi => by rw [h n (by omega), h i (by omega)]]
theorem pr_last (n : Nat) (g : Nat → F) : pr (n + 1) g = pr n g * g n := rfl
theorem df_front : ∀ (n : Nat) (X : Nat → F), df (n + 1) X = (pr n fun i => X (i + 1) - X 0) * df n fun i => X (i + 1)
  | 0, X => rfl
  | n + 1, X => by
    show df (n + 1) X * (pr (n + 1) fun i => X (n + 1) - X i) = _
    rw [df_front n X, pr_front n fun i => X (n + 1) - X i]
    show _ = (pr (n + 1) fun i => X (i + 1) - X 0) * (df n (fun i => X (i + 1)) * pr n fun i => X (n + 1) - X (i + 1))
    rw [pr_last n fun i => X (i + 1) - X 0]
    grind
theorem df_zero {n : Nat} {X : Nat → F} {i j : Nat} (hij : i < j) (hj : j < n) (h : X i = X j) : df n X = 0 := by
  induction n with
  | zero => omega
  | succ n ih =>
    show df n X * (pr n fun i => X n - X i) = 0
    by_cases e : j = n
    · have : (pr n fun i => X n - X i) = 0 := by
        have aux : ∀ (m : Nat) (g : Nat → F), i < m → g i = 0 → pr m g = 0 := fun m g => by
          induction m with
          | zero => intro h; omega
          | succ m ih =>
            intro h1 h2
            rw [pr_last]
            by_cases e : i = m
            · rw [← e, h2]; grind
            · rw [ih (by omega) h2]; grind
        exact aux n _ (by omega) (by rw [h, e]; grind)
      rw [this]; grind
    · rw [ih (by omega)]; grind
theorem df_ne {n : Nat} {X : Nat → F} (h : ∀ i j, i < j → j < n → X i ≠ X j) : df n X ≠ 0 := by
  induction n with
  | zero => show (1 : F) ≠ 0; decide
  | succ n ih =>
    intro e
    rcases mul_zero_or (show df n X * (pr n fun i => X n - X i) = 0 from e) with e | e
    · exact ih (fun i j h1 h2 => h i j h1 (by omega)) e
    · have aux : ∀ (m : Nat) (g : Nat → F), (∀ i, i < m → g i ≠ 0) → pr m g ≠ 0 := fun m g => by
        induction m with
        | zero => intro _; show (1 : F) ≠ 0; decide
        | succ m ih =>
          intro h1 h2
          rw [pr_last] at h2
          rcases mul_zero_or h2 with h2 | h2
          · exact ih (fun i hi => h1 i (by omega)) h2
          · exact h1 m (by omega) h2
      exact aux n _ (fun i hi h0 => h i n hi (by omega) (by grind)) e
/-- The determinant of powers. -/
theorem dt_vm : ∀ (n : Nat) (X : Nat → F), dt n (vm X) = df n X
  | 0, _ => rfl
  | n + 1, X => by
    -- each column less the first number times the one ahead of it
    let u : Nat → Nat → F := fun i j => if i = j then 1 else if i + 1 = j then -(X 0) else 0
    have hu : dt (n + 1) u = 1 := by
      rw [dt_up (n + 1) u fun i j _ _ hlt => by show (if i = j then (1 : F) else if i + 1 = j then _ else 0) = 0; rw [if_neg (by omega), if_neg (by omega)]]
      exact pr_ones fun i _ => by show (if i = i then (1 : F) else _) = 1; rw [if_pos rfl]
    have hm : dt (n + 1) (mul (n + 1) (vm X) u) = dt (n + 1) (vm X) := by rw [dt_mul, hu]; grind
    have c0 : ∀ i, mul (n + 1) (vm X) u i 0 = 1 := fun i => by
      unfold mul
      rw [sg_one (k := 0) (by omega) fun k _ hk => by show _ * (if k = 0 then (1 : F) else if k + 1 = 0 then _ else 0) = 0; rw [if_neg hk, if_neg (by omega)]; grind]
      show pw (X i) 0 * (if 0 = 0 then (1 : F) else _) = 1
      rw [if_pos rfl, pw_zero]; grind
    have cs : ∀ i j, j + 1 < n + 1 → mul (n + 1) (vm X) u i (j + 1) = (X i - X 0) * pw (X i) j := fun i j hj => by
      unfold mul
      rw [sg_two (k := j) (l := j + 1) (by omega) hj (by omega) fun k _ h1 h2 => by show _ * (if k = j + 1 then (1 : F) else if k + 1 = j + 1 then _ else 0) = 0; rw [if_neg h2, if_neg (by omega)]; grind]
      show pw (X i) j * (if j = j + 1 then (1 : F) else if j + 1 = j + 1 then -(X 0) else 0) + pw (X i) (j + 1) * (if j + 1 = j + 1 then (1 : F) else _) = _
      rw [if_neg (by omega), if_pos rfl, if_pos rfl, pw_succ]; grind
    rw [← hm, dt_succ, sg_one (k := 0) (by omega) fun j hj h0 => by
      obtain ⟨j, rfl⟩ : ∃ t, j = t + 1 := ⟨j - 1, by omega⟩
      rw [cs 0 j hj]; grind, c0 0]
    have h2 : dt n (del 0 (mul (n + 1) (vm X) u)) = (pr n fun i => X (i + 1) - X 0) * df n fun i => X (i + 1) := by
      rw [← dt_vm n fun i => X (i + 1)]
      -- each row by its own number
      let w : Nat → Nat → F := fun i j => if i = j then X (i + 1) - X 0 else 0
      have hw : dt n w = pr n fun i => X (i + 1) - X 0 := by
        rw [dt_up n w fun i j _ _ hlt => by show (if i = j then _ else (0 : F)) = 0; rw [if_neg (by omega)]]
        exact pr_congr fun i _ => by show (if i = i then _ else (0 : F)) = _; rw [if_pos rfl]
      rw [← hw, ← dt_mul]
      refine dt_congr n fun i j hi hj => ?_
      show mul (n + 1) (vm X) u (i + 1) (sk 0 j) = sg n fun k => w i k * pw (X (k + 1)) j
      rw [sk_zero, cs _ _ (by omega), sg_one hi fun k _ hk => by show (if i = k then _ else (0 : F)) * _ = 0; rw [if_neg fun e => hk e.symm]; grind]
      show _ = (if i = i then _ else (0 : F)) * _
      rw [if_pos rfl]
    rw [h2, df_front, show sgn 0 = 1 from rfl]; grind
/-- What it takes factors to is what they come to. -/
theorem vm_to (n : Nat) (X c : Nat → F) (i : Nat) : (sg (n + 1) fun j => vm X i j * c j) = vx n c (X i) := by
  unfold vx vm
  exact sg_congr fun j _ => by grind

end Go.Proofs.Ytldkamhknaflbaa.Mx

/- Plain facts on what takes a matrix to noughts: its factors are sums of determinants of some rows and the same columns (with signs), and its values the determinants of x times the one less the matrix. No program is named here. -/
namespace Go.Proofs.Ytldkamhknaflbaa.Mx
open Fp
set_option linter.unusedVariables false

theorem dt_neg : ∀ (n : Nat) (f : Nat → Nat → F), dt n (fun i j => -(f i j)) = sgn n * dt n f
  | 0, f => by show (1 : F) = sgn 0 * 1; rw [show sgn 0 = 1 from rfl]; grind
  | n + 1, f => by
    rw [dt_succ, dt_succ, ← sg_times]
    refine sg_congr fun j _ => ?_
    have h := dt_neg n (del j f)
    have e : del j (fun i j => -(f i j)) = fun a b => -(del j f a b) := rfl
    rw [e, h, sgn_succ]; grind
/-- Rows and columns of these numbers. -/
def sub (f : Nat → Nat → F) (h : List Nat) : Nat → Nat → F := fun i j => f (h.getD i 0) (h.getD j 0)
/-- The sum of the determinants of k rows and the same columns: those of h, and some of t behind them. -/
def prin (f : Nat → Nat → F) : List Nat → List Nat → Nat → F
  | h, [], k => if h.length = k then dt k (sub f h) else 0
  | h, r :: t, k => if h.length = k then dt k (sub f h) else prin f (h ++ [r]) t k + prin f h t k
theorem prin_is (f : Nat → Nat → F) (h t : List Nat) : prin f h t h.length = dt h.length (sub f h) := by
  cases t with
  | nil => unfold prin; rw [if_pos rfl]
  | cons r t => unfold prin; rw [if_pos rfl]
theorem prin_cons (f : Nat → Nat → F) (h : List Nat) (r : Nat) (t : List Nat) {k : Nat} (hk : h.length ≠ k) : prin f h (r :: t) k = prin f (h ++ [r]) t k + prin f h t k := by
  rw [prin, if_neg hk]
theorem prin_over (f : Nat → Nat → F) : ∀ (t h : List Nat) (k : Nat), k < h.length → prin f h t k = 0
  | [], h, k, hk => by unfold prin; rw [if_neg (by omega)]
  | r :: t, h, k, hk => by
    rw [prin_cons f h r t (by omega), prin_over f t (h ++ [r]) k (by simp; omega), prin_over f t h k hk]; grind
theorem prin_far (f : Nat → Nat → F) : ∀ (t h : List Nat) (k : Nat), h.length + t.length < k → prin f h t k = 0
  | [], h, k, hk => by unfold prin; rw [if_neg (by simp at hk; omega)]
  | r :: t, h, k, hk => by
    simp only [List.length_cons] at hk
    rw [prin_cons f h r t (by omega), prin_far f t (h ++ [r]) k (by simp; omega), prin_far f t h k (by omega)]; grind
theorem prin_all (f : Nat → Nat → F) : ∀ (t h : List Nat), prin f h t (h.length + t.length) = dt (h.length + t.length) (sub f (h ++ t))
  | [], h => by rw [List.append_nil]; exact prin_is f h []
  | r :: t, h => by
    simp only [List.length_cons]
    have := prin_all f t (h ++ [r])
    simp only [List.length_append, List.length_cons, List.length_nil, List.append_assoc, List.singleton_append] at this
    rw [prin_cons f h r t (by omega), prin_far f t h _ (by omega), show h.length + (t.length + 1) = h.length + (0 + 1) + t.length by omega, this]; grind
theorem prin_one (f : Nat → Nat → F) : ∀ t : List Nat, prin f [] t 1 = (t.map fun r => f r r).foldr (· + ·) 0
  | [] => by unfold prin; rw [if_neg (by simp)]; rfl
  | r :: t => by
    rw [prin_cons f [] r t (by simp), prin_one f t]
    have := prin_is f [r] t
    simp only [List.length_cons, List.length_nil] at this
    rw [List.nil_append, this]
    have e : dt (0 + 1) (sub f [r]) = f r r := by
      rw [dt_succ, sg_succ, sg_zero]
      show 0 + sgn 0 * f r r * 1 = f r r
      rw [show sgn 0 = 1 from rfl]; grind
    rw [e]; rfl

/-- x in the middle behind the first rows, less the rows and columns of these numbers. -/
def chT (f : Nat → Nat → F) (x : F) (h t : List Nat) : Nat → Nat → F := fun a b => (if a = b ∧ h.length ≤ a then x else 0) - sub f (h ++ t) a b
/-- Its factors. -/
def chC (f : Nat → Nat → F) (h t : List Nat) (j : Nat) : F := sgn (h.length + t.length - j) * prin f h t (h.length + t.length - j)
theorem getD_skip (h : List Nat) (r : Nat) (t : List Nat) (a : Nat) : (h ++ r :: t).getD (sk h.length a) 0 = (h ++ t).getD a 0 := by
  unfold sk
  by_cases e : a < h.length
  · rw [if_pos e, List.getD_eq_getElem?_getD, List.getD_eq_getElem?_getD, List.getElem?_append_left e, List.getElem?_append_left e]
  · rw [if_neg e, List.getD_eq_getElem?_getD, List.getD_eq_getElem?_getD, List.getElem?_append_right (by omega), List.getElem?_append_right (by omega), show a + 1 - h.length = (a - h.length) + 1 by omega]; rfl
theorem chT_dt (f : Nat → Nat → F) (x : F) : ∀ (t h : List Nat), dt (h.length + t.length) (chT f x h t) = vx t.length (chC f h t) x
  | [], h => by
    show dt (h.length + 0) _ = vx 0 _ x
    rw [vx_zero, Nat.add_zero]
    have e : dt h.length (chT f x h []) = dt h.length (fun i j => -(sub f h i j)) := dt_congr _ fun a b ha hb => by
      unfold chT; rw [if_neg (by omega), List.append_nil]; grind
    rw [e, dt_neg]
    unfold chC
    show _ = sgn (h.length + 0 - 0) * prin f h [] (h.length + 0 - 0)
    rw [show h.length + 0 - 0 = h.length by omega, prin_is]
  | r :: t, h => by
    have h1 := chT_dt f x t h
    have h2 := chT_dt f x t (h ++ [r])
    have hl : (r :: t).length = t.length + 1 := rfl
    have hl2 : (h ++ [r]).length = h.length + 1 := by simp
    rw [hl2] at h2
    rw [hl]
    -- row h.length is x in its place, less a row
    have e0 : chT f x h (r :: t) = setr h.length (fun b => x * (if b = h.length then 1 else 0) + (-(sub f (h ++ r :: t) h.length b))) (chT f x h (r :: t)) := by
      funext a b
      unfold setr
      by_cases e : a = h.length
      · rw [if_pos e]
        unfold chT
        dsimp only
        by_cases e2 : b = h.length
        · rw [if_pos ⟨by omega, by omega⟩, if_pos e2, e]; grind
        · rw [if_neg (by omega), if_neg e2, e]; grind
      · rw [if_neg e]
    have hp : h.length < h.length + (t.length + 1) := by omega
    have s1 := dt_rlin (h.length + (t.length + 1)) h.length hp x 1 (fun b => if b = h.length then 1 else 0) (fun b => -(sub f (h ++ r :: t) h.length b)) (chT f x h (r :: t))
    have e1 : dt (h.length + (t.length + 1)) (setr h.length (fun b => if b = h.length then 1 else 0) (chT f x h (r :: t))) = vx t.length (chC f h t) x := by
      rw [← h1, show h.length + (t.length + 1) = (h.length + t.length) + 1 by omega, ← laplace_row (h.length + t.length) h.length _ _ (by omega),
        sg_one (k := h.length) (by omega) fun j _ hj => by rw [if_neg hj]; grind]
      rw [if_pos rfl, show sgn (h.length + h.length) = 1 by rw [sgn_add, sgn_two]]
      have : dt (h.length + t.length) (wo (chT f x h (r :: t)) h.length h.length) = dt (h.length + t.length) (chT f x h t) := dt_congr _ fun a b _ _ => by
        show chT f x h (r :: t) (sk h.length a) (sk h.length b) = _
        unfold chT sub
        rw [getD_skip, getD_skip]
        congr 1
        by_cases e : a = b ∧ h.length ≤ a
        · rw [if_pos e, if_pos ⟨by rw [e.1], by unfold sk; rw [if_neg (by omega)]; omega⟩]
        · rw [if_neg e, if_neg fun e3 => e ⟨sk_inj e3.1, by
            have := e3.2
            unfold sk at this
            split at this <;> omega⟩]
      rw [this]; grind
    have e2 : dt (h.length + (t.length + 1)) (setr h.length (fun b => -(sub f (h ++ r :: t) h.length b)) (chT f x h (r :: t))) = vx t.length (chC f (h ++ [r]) t) x := by
      rw [← h2, show h.length + (t.length + 1) = h.length + 1 + t.length by omega]
      refine dt_congr _ fun a b _ _ => ?_
      unfold setr chT
      rw [hl2, show h ++ [r] ++ t = h ++ r :: t by simp]
      by_cases e : a = h.length
      · rw [if_pos e, if_neg (by omega), e]; grind
      · rw [if_neg e]
        by_cases e4 : a = b ∧ h.length ≤ a
        · rw [if_pos e4, if_pos (by omega)]
        · rw [if_neg e4, if_neg (by omega)]
    have e3 : (fun b => x * (if b = h.length then 1 else 0) + 1 * (-(sub f (h ++ r :: t) h.length b))) = fun b => x * (if b = h.length then 1 else 0) + (-(sub f (h ++ r :: t) h.length b)) := by
      funext b; grind
    rw [e3, ← e0, e1, e2] at s1
    rw [s1, vx_shift, show (1 : F) * vx t.length (chC f (h ++ [r]) t) x = vx t.length (chC f (h ++ [r]) t) x by grind, ← vx_up (Nat.le_succ t.length) (chC f (h ++ [r]) t), vx_add]
    refine vx_congr (fun j hj => ?_) x
    unfold chC
    rw [hl, hl2]
    have hN : h.length + (t.length + 1) - j = h.length + 1 + t.length - j := by omega
    rw [hN]
    by_cases j0 : j = 0
    · subst j0
      rw [if_pos rfl, if_pos (Nat.zero_le _), prin_cons f h r t (by omega), prin_far f t h _ (by omega)]; grind
    · rw [if_neg j0, show h.length + t.length - (j - 1) = h.length + 1 + t.length - j by omega]
      by_cases j1 : j ≤ t.length
      · rw [if_pos j1, prin_cons f h r t (by omega)]; grind
      · rw [if_neg j1, show h.length + 1 + t.length - j = h.length by omega, prin_is, prin_is]; grind

/-- x times the one, less a matrix. -/
def chm (f : Nat → Nat → F) (x : F) : Nat → Nat → F := fun i j => (if i = j then x else 0) - f i j
/-- The factors of what takes a matrix to noughts. -/
def ch (n : Nat) (f : Nat → Nat → F) : Nat → F := chC f [] (List.range n)
theorem range_getD {n i : Nat} (h : i < n) : (List.range n).getD i 0 = i := by simp [h]
theorem ch_is (n : Nat) (f : Nat → Nat → F) (x : F) : dt n (chm f x) = vx n (ch n f) x := by
  have h := chT_dt f x (List.range n) []
  simp only [List.length_nil, List.length_range, Nat.zero_add] at h
  rw [ch, ← h]
  refine dt_congr n fun a b ha hb => ?_
  unfold chm chT sub
  rw [List.nil_append, range_getD ha, range_getD hb]
  congr 1
  by_cases e : a = b
  · rw [if_pos e, if_pos ⟨e, Nat.zero_le _⟩]
  · rw [if_neg e, if_neg fun h => e h.1]
theorem ch_one {n : Nat} (hn : n < 9973) {f g : Nat → Nat → F} (h : ∀ x, dt n (chm f x) = dt n (chm g x)) : ∀ k, k ≤ n → ch n f k = ch n g k :=
  vx_eq hn fun x => by rw [← ch_is, ← ch_is, h]
theorem ch_congr {n : Nat} (hn : n < 9973) {f g : Nat → Nat → F} (h : Eqm n n f g) : ∀ k, k ≤ n → ch n f k = ch n g k :=
  ch_one hn fun x => dt_congr n fun i j hi hj => by unfold chm; rw [h i j hi hj]
theorem ch_top (n : Nat) (f : Nat → Nat → F) : ch n f n = 1 := by
  unfold ch chC
  rw [List.length_range, show ([] : List Nat).length + n - n = 0 by simp, show sgn 0 = 1 from rfl]
  have := prin_is f [] (List.range n)
  rw [List.length_nil] at this
  rw [this]
  show (1 : F) * 1 = 1
  grind
theorem ch_low (n : Nat) (f : Nat → Nat → F) : ch n f 0 = sgn n * dt n f := by
  have h := ch_is n f 0
  rw [vx_at_zero] at h
  rw [← h, ← dt_neg]
  refine dt_congr n fun i j _ _ => ?_
  unfold chm
  by_cases e : i = j
  · rw [if_pos e]; grind
  · rw [if_neg e]; grind
theorem foldr_sg (g : Nat → F) : ∀ n, ((List.range n).map g).foldr (· + ·) 0 = sg n g
  | 0 => rfl
  | n + 1 => by
    have aux : ∀ (l : List F) (a : F), (l ++ [a]).foldr (· + ·) 0 = l.foldr (· + ·) 0 + a := fun l a => by
      induction l with
      | nil => show a + 0 = 0 + a; grind
      | cons b l ih => rw [List.cons_append, List.foldr_cons, ih, List.foldr_cons]; grind
    rw [List.range_succ, List.map_append, List.map_cons, List.map_nil, aux, foldr_sg g n, sg_succ]
theorem ch_mid (p : Nat) (f : Nat → Nat → F) : ch (p + 1) f p = -(sg (p + 1) fun i => f i i) := by
  unfold ch chC
  rw [List.length_range, show ([] : List Nat).length + (p + 1) - p = 1 by simp, show sgn 1 = -1 from rfl, prin_one, foldr_sg]; grind
theorem ch_flip {n : Nat} (hn : n < 9973) (f : Nat → Nat → F) : ∀ k, k ≤ n → ch n (flip f) k = ch n f k := ch_one hn fun x => by
  rw [← dt_flip n (chm f x)]
  refine dt_congr n fun i j _ _ => ?_
  show (if i = j then x else 0) - f j i = (if j = i then x else 0) - f j i
  by_cases e : i = j
  · rw [if_pos e, if_pos e.symm]
  · rw [if_neg e, if_neg fun h => e h.symm]

end Go.Proofs.Ytldkamhknaflbaa.Mx

/- Plain facts: a product has the same factors the other way round (Sylvester); a matrix takes itself to noughts (Cayley, Hamilton), and what undoes it is made of its powers. No program is named here. -/
namespace Go.Proofs.Ytldkamhknaflbaa.Mx
open Fp
set_option linter.unusedVariables false

/-- Noughts to the right of the first n rows and columns. -/
theorem dt_right : ∀ (n m : Nat) (g : Nat → Nat → F), (∀ i j, i < n → n ≤ j → j < n + m → g i j = 0) → dt (n + m) g = dt n g * dt m (fun i j => g (n + i) (n + j))
  | 0, m, g, _ => by
    have e : (fun i j => g (0 + i) (0 + j)) = g := funext fun i => funext fun j => by rw [Nat.zero_add, Nat.zero_add]
    rw [Nat.zero_add, e]
    show dt m g = 1 * dt m g
    grind
  | n + 1, m, g, h => by
    rw [show n + 1 + m = n + m + 1 by omega, dt_succ, dt_succ, ← sg_by, show n + m + 1 = (n + 1) + m by omega, sg_split]
    have e2 : (sg m fun i => sgn (n + 1 + i) * g 0 (n + 1 + i) * dt (n + m) (del (n + 1 + i) g)) = 0 := by
      rw [sg_congr (g := fun _ => 0) fun i hi => by rw [h 0 (n + 1 + i) (by omega) (by omega) (by omega)]; grind, sg_none]
    rw [e2]
    have e1 : (sg (n + 1) fun j => sgn j * g 0 j * dt (n + m) (del j g)) = sg (n + 1) fun j => sgn j * g 0 j * dt n (del j g) * dt m (fun i k => g (n + 1 + i) (n + 1 + k)) := sg_congr fun j hj => by
      have := dt_right n m (del j g) fun a b ha hb hb2 => by
        show g (a + 1) (sk j b) = 0
        unfold sk; rw [if_neg (by omega)]
        exact h _ _ (by omega) (by omega) (by omega)
      have e : dt m (fun i k => del j g (n + i) (n + k)) = dt m (fun i k => g (n + 1 + i) (n + 1 + k)) := dt_congr m fun i k _ _ => by
        show g (n + i + 1) (sk j (n + k)) = _
        unfold sk; rw [if_neg (by omega)]
        congr 1 <;> omega
      rw [this, e]; grind
    rw [e1]; grind
/-- Noughts below the first n rows and columns. -/
theorem dt_below (n m : Nat) (g : Nat → Nat → F) (h : ∀ i j, n ≤ i → i < n + m → j < n → g i j = 0) : dt (n + m) g = dt n g * dt m (fun i j => g (n + i) (n + j)) := by
  rw [← dt_flip (n + m) g, dt_right n m (flip g) (fun i j hi hj hj2 => h j i hj hj2 hi), dt_flip n g]
  congr 1
  exact dt_flip m fun i j => g (n + i) (n + j)

/-- Four matrices as one. -/
def four (n : Nat) (p q r s : Nat → Nat → F) : Nat → Nat → F := fun i j => if i < n then (if j < n then p i j else q i (j - n)) else (if j < n then r (i - n) j else s (i - n) (j - n))
theorem four_mul (n : Nat) (p q r s p' q' r' s' : Nat → Nat → F) :
    mul (n + n) (four n p q r s) (four n p' q' r' s') = four n (plus (mul n p p') (mul n q r')) (plus (mul n p q') (mul n q s')) (plus (mul n r p') (mul n s r')) (plus (mul n r q') (mul n s s')) := by
  funext i j
  unfold mul
  rw [sg_split]
  unfold four
  by_cases hi : i < n
  · rw [if_pos hi]
    by_cases hj : j < n
    · rw [if_pos hj]
      unfold plus
      congr 1
      · exact sg_congr fun x hx => by rw [if_pos hi, if_pos hx, if_pos hx, if_pos hj]
      · exact sg_congr fun x hx => by rw [if_pos hi, if_neg (by omega), if_neg (by omega), if_pos hj, Nat.add_sub_cancel_left]
    · rw [if_neg hj]
      unfold plus
      congr 1
      · exact sg_congr fun x hx => by rw [if_pos hi, if_pos hx, if_pos hx, if_neg hj]
      · exact sg_congr fun x hx => by rw [if_pos hi, if_neg (by omega), if_neg (by omega), if_neg hj, Nat.add_sub_cancel_left]
  · rw [if_neg hi]
    by_cases hj : j < n
    · rw [if_pos hj]
      unfold plus
      congr 1
      · exact sg_congr fun x hx => by rw [if_neg hi, if_pos hx, if_pos hx, if_pos hj]
      · exact sg_congr fun x hx => by rw [if_neg hi, if_neg (by omega), if_neg (by omega), if_pos hj, Nat.add_sub_cancel_left]
    · rw [if_neg hj]
      unfold plus
      congr 1
      · exact sg_congr fun x hx => by rw [if_neg hi, if_pos hx, if_pos hx, if_neg hj]
      · exact sg_congr fun x hx => by rw [if_neg hi, if_neg (by omega), if_neg (by omega), if_neg hj, Nat.add_sub_cancel_left]
def zer : Nat → Nat → F := fun _ _ => 0
def ngm (f : Nat → Nat → F) : Nat → Nat → F := fun i j => -(f i j)
theorem dt_four_high (n : Nat) (p q s : Nat → Nat → F) {r : Nat → Nat → F} (hr : Eqm n n r zer) : dt (n + n) (four n p q r s) = dt n p * dt n s := by
  rw [dt_below n n _ fun i j h1 h2 h3 => by unfold four; rw [if_neg (by omega), if_pos h3, hr _ _ (by omega) h3]; rfl]
  congr 1
  · exact dt_congr n fun i j hi hj => by unfold four; rw [if_pos hi, if_pos hj]
  · exact dt_congr n fun i j hi hj => by unfold four; rw [if_neg (by omega), if_neg (by omega), Nat.add_sub_cancel_left, Nat.add_sub_cancel_left]
theorem dt_four_low (n : Nat) (p r s : Nat → Nat → F) : dt (n + n) (four n p zer r s) = dt n p * dt n s := by
  rw [dt_right n n _ fun i j h1 h2 h3 => by unfold four; rw [if_pos h1, if_neg (by omega)]; rfl]
  congr 1
  · exact dt_congr n fun i j hi hj => by unfold four; rw [if_pos hi, if_pos hj]
  · exact dt_congr n fun i j hi hj => by unfold four; rw [if_neg (by omega), if_neg (by omega), Nat.add_sub_cancel_left, Nat.add_sub_cancel_left]
theorem mul_scal (n : Nat) (d : F) (f : Nat → Nat → F) {i j : Nat} (hj : j < n) : mul n f (scal d) i j = f i j * d := by
  unfold mul scal
  rw [sg_one hj fun k _ hk => by rw [if_neg hk]; grind, if_pos rfl]
theorem scal_mul (n : Nat) (d : F) (f : Nat → Nat → F) {i j : Nat} (hi : i < n) : mul n (scal d) f i j = d * f i j := by
  unfold mul scal
  rw [sg_one hi fun k _ hk => by rw [if_neg fun e => hk e.symm]; grind, if_pos rfl]
theorem mul_ngm (n : Nat) (f g : Nat → Nat → F) (i j : Nat) : mul n f (ngm g) i j = -(mul n f g i j) := by
  have : mul n f (ngm g) i j = (-1) * mul n f g i j := by
    unfold mul; rw [← sg_times]; exact sg_congr fun k _ => by show f i k * -(g k j) = _; grind
  rw [this]; grind
theorem ngm_mul (n : Nat) (f g : Nat → Nat → F) (i j : Nat) : mul n (ngm f) g i j = -(mul n f g i j) := by
  have : mul n (ngm f) g i j = (-1) * mul n f g i j := by
    unfold mul; rw [← sg_times]; exact sg_congr fun k _ => by show -(f i k) * g k j = _; grind
  rw [this]; grind
theorem pw_ne {x : F} (h : x ≠ 0) : ∀ n, pw x n ≠ 0
  | 0 => by rw [pw_zero]; decide
  | n + 1 => fun e => by
    rw [pw_succ] at e
    rcases mul_zero_or e with e | e
    · exact pw_ne h n e
    · exact h e
theorem scal_one : scal 1 = one := rfl
theorem chm_both (n : Nat) (a b : Nat → Nat → F) (x : F) : dt n (chm (mul n a b) x) = dt n (chm (mul n b a) x) := by
  by_cases h0 : x = 0
  · have e : ∀ f : Nat → Nat → F, dt n (chm f 0) = sgn n * dt n f := fun f => by
      rw [← dt_neg]
      exact dt_congr n fun i j _ _ => by unfold chm; split <;> grind
    rw [h0, e, e, dt_mul, dt_mul]; grind
  · have m1 := dt_mul (n + n) (four n (scal x) a b (scal 1)) (four n (scal 1) zer (ngm b) (scal 1))
    have m2 := dt_mul (n + n) (four n (scal 1) zer (ngm b) (scal x)) (four n (scal x) a b (scal 1))
    rw [four_mul, dt_four_low, dt_four_high n _ _ _ (fun i j hi hj => by
      show mul n b (scal 1) i j + mul n (scal 1) (ngm b) i j = 0
      rw [mul_scal n 1 b hj, scal_mul n 1 (ngm b) hi]; show b i j * 1 + 1 * -(b i j) = 0; grind)] at m1
    rw [four_mul, dt_four_low, dt_four_high n _ _ _ (fun i j hi hj => by
      show mul n (ngm b) (scal x) i j + mul n (scal x) b i j = 0
      rw [mul_scal n x (ngm b) hj, scal_mul n x b hi]; show -(b i j) * x + x * b i j = 0; grind)] at m2
    have d1 : dt n (scal 1) = 1 := by rw [dt_scal, pw_one_base]
    have p1 : dt n (plus (mul n (scal x) (scal 1)) (mul n a (ngm b))) = dt n (chm (mul n a b) x) := dt_congr n fun i j hi hj => by
      show mul n (scal x) (scal 1) i j + mul n a (ngm b) i j = _
      rw [mul_scal n 1 _ hj, mul_ngm]
      unfold chm scal; split <;> grind
    have s1 : dt n (plus (mul n b zer) (mul n (scal 1) (scal 1))) = 1 := by
      refine Eq.trans ?_ d1
      exact dt_congr n fun i j hi hj => by
        show mul n b zer i j + mul n (scal 1) (scal 1) i j = _
        have e : mul n b zer i j = 0 := by
          unfold mul
          rw [sg_congr (g := fun _ => 0) fun k _ => by show b i k * 0 = 0; grind, sg_none]
        rw [e, mul_scal n 1 _ hj]; grind
    have p2 : dt n (plus (mul n (scal 1) (scal x)) (mul n zer b)) = dt n (scal x) := dt_congr n fun i j hi hj => by
      show mul n (scal 1) (scal x) i j + mul n zer b i j = _
      have e : mul n zer b i j = 0 := by
        unfold mul
        rw [sg_congr (g := fun _ => 0) fun k _ => by show 0 * b k j = 0; grind, sg_none]
      rw [e, scal_mul n 1 _ hi]; grind
    have s2 : dt n (plus (mul n (ngm b) a) (mul n (scal x) (scal 1))) = dt n (chm (mul n b a) x) := dt_congr n fun i j hi hj => by
      show mul n (ngm b) a i j + mul n (scal x) (scal 1) i j = _
      rw [mul_scal n 1 _ hj, ngm_mul]
      unfold chm scal; split <;> grind
    rw [p1, s1, d1] at m1
    rw [p2, s2, d1] at m2
    have hne := pw_ne h0 n
    rw [dt_scal] at m2
    have : pw x n * (dt n (chm (mul n a b) x) - dt n (chm (mul n b a) x)) = 0 := by grind
    rcases mul_zero_or this with e | e
    · exact absurd e hne
    · grind
/-- A product has the same factors the other way round. -/
theorem ch_both {n : Nat} (hn : n < 9973) (a b : Nat → Nat → F) : ∀ k, k ≤ n → ch n (mul n a b) k = ch n (mul n b a) k := ch_one hn fun x => chm_both n a b x

/-- The sum of factors times powers. -/
def csum (n : Nat) (c : Nat → F) (f : Nat → Nat → F) (m : Nat) : Nat → Nat → F := fun i j => sg (m + 1) fun k => c k * pwm n f k i j
theorem csum_succ (n : Nat) (c : Nat → F) (f : Nat → Nat → F) (m i j : Nat) : csum n c f (m + 1) i j = csum n c f m i j + c (m + 1) * pwm n f (m + 1) i j := sg_succ _ _
/-- What is beside the rows and columns of x times the one less a matrix, in powers of x. -/
theorem adj_pol (p : Nat) (f : Nat → Nat → F) (i j : Nat) : IsP p fun x => adj p (chm f x) i j := by
  obtain ⟨c, hc⟩ := (IsP.dt p (fun a b => -(f (sk j a) (sk i b))) (fun a b => if sk j a = sk i b then 1 else 0)).times (sgn (i + j))
  refine ⟨c, fun x => ?_⟩
  rw [← hc]
  show sgn (i + j) * dt p (wo (chm f x) j i) = _
  congr 1
  refine dt_congr p fun a b _ _ => ?_
  show (if sk j a = sk i b then x else 0) - f (sk j a) (sk i b) = _
  split <;> grind
/-- A matrix takes itself to noughts. -/
theorem cayley (p : Nat) (hp : p + 1 < 9973) (f : Nat → Nat → F) : Eqm (p + 1) (p + 1) (csum (p + 1) (ch (p + 1) f) f (p + 1)) zer := by
  obtain ⟨B, hB⟩ : ∃ B : Nat → Nat → Nat → F, ∀ i j x, adj p (chm f x) i j = vx p (B i j) x :=
    ⟨fun i j => Classical.choose (adj_pol p f i j), fun i j => Classical.choose_spec (adj_pol p f i j)⟩
  -- what stands with x to the power k on both sides
  have HC : ∀ i j, i < p + 1 → j < p + 1 → ∀ k, k ≤ p + 1 → (if k = 0 then 0 else B i j (k - 1)) + (-1) * (if k ≤ p then sg (p + 1) (fun t => f i t * B t j k) else 0) = if i = j then ch (p + 1) f k else 0 := by
    intro i j hi hj
    refine vx_eq hp fun x => ?_
    have h := adj_right p (chm f x) i j hi hj
    have hl : mul (p + 1) (chm f x) (adj p (chm f x)) i j = x * vx p (B i j) x + (-1) * vx p (fun k => sg (p + 1) fun t => f i t * B t j k) x := by
      have e1 : mul (p + 1) (chm f x) (adj p (chm f x)) i j = (sg (p + 1) fun t => (if i = t then x else 0) * vx p (B t j) x) + (-1) * sg (p + 1) fun t => f i t * vx p (B t j) x := by
        unfold mul
        rw [← sg_times, ← sg_add]
        exact sg_congr fun t _ => by rw [hB]; unfold chm; grind
      have e2 : (sg (p + 1) fun t => (if i = t then x else 0) * vx p (B t j) x) = x * vx p (B i j) x := by
        rw [sg_one hi fun t _ ht => by rw [if_neg fun e => ht e.symm]; grind, if_pos rfl]
      have e3 : (sg (p + 1) fun t => f i t * vx p (B t j) x) = vx p (fun k => sg (p + 1) fun t => f i t * B t j k) x := by
        unfold vx
        rw [sg_congr (g := fun t => sg (p + 1) fun k => f i t * B t j k * pw x k) fun t _ => by rw [← sg_times]; exact sg_congr fun k _ => by grind, sg_swap]
        exact sg_congr fun k _ => by rw [sg_by]
      rw [e1, e2, e3]
    rw [hl, vx_shift, ← vx_up (Nat.le_succ p) (fun k => sg (p + 1) fun t => f i t * B t j k), vx_times, vx_add] at h
    rw [h]
    unfold scal
    by_cases e : i = j
    · rw [if_pos e, ch_is]
      exact vx_congr (fun k _ => by rw [if_pos e]) x
    · rw [if_neg e]
      rw [vx_congr (e := fun _ => 0) (fun k _ => by rw [if_neg e]) x]
      unfold vx
      rw [sg_congr (g := fun _ => 0) fun k _ => by grind, sg_none]
  let Bm : Nat → Nat → Nat → F := fun k i j => B i j k
  have S : ∀ m, m ≤ p → Eqm (p + 1) (p + 1) (csum (p + 1) (ch (p + 1) f) f m) (ngm (mul (p + 1) (pwm (p + 1) f (m + 1)) (Bm m))) := by
    intro m
    induction m with
    | zero =>
      intro _ i j hi hj
      have h := HC i j hi hj 0 (by omega)
      rw [if_pos rfl, if_pos (Nat.zero_le p)] at h
      have e := Eqm.mul (pwm_one (p + 1) f) (Eqm.rfl' (p + 1) (p + 1) (Bm 0)) i j hi hj
      show csum (p + 1) _ f 0 i j = -(mul (p + 1) (pwm (p + 1) f (0 + 1)) (Bm 0) i j)
      rw [e]
      show (sg (0 + 1) fun k => ch (p + 1) f k * pwm (p + 1) f k i j) = -(sg (p + 1) fun t => f i t * B t j 0)
      rw [sg_succ, sg_zero]
      show 0 + ch (p + 1) f 0 * (if i = j then 1 else 0) = _
      by_cases e2 : i = j
      · rw [if_pos e2] at h ⊢; grind
      · rw [if_neg e2] at h ⊢; grind
    | succ m ih =>
      intro hm i j hi hj
      have h0 := ih (by omega) i j hi hj
      rw [csum_succ, h0]
      -- B of m is the factor's one and what the matrix does to the next B
      have e1 : mul (p + 1) (pwm (p + 1) f (m + 1)) (Bm m) i j = mul (p + 1) (pwm (p + 1) f (m + 1)) (plus (scal (ch (p + 1) f (m + 1))) (mul (p + 1) f (Bm (m + 1)))) i j :=
        Eqm.mul (Eqm.rfl' (p + 1) (p + 1) _) (fun a b ha hb => by
          have h := HC a b ha hb (m + 1) (by omega)
          rw [if_neg (by omega), if_pos (by omega), show m + 1 - 1 = m from rfl] at h
          show B a b m = (if a = b then ch (p + 1) f (m + 1) else 0) + sg (p + 1) fun t => f a t * B t b (m + 1)
          rw [← h]; grind) i j hi hj
      have e2 : mul (p + 1) (pwm (p + 1) f (m + 1)) (mul (p + 1) f (Bm (m + 1))) i j = mul (p + 1) (pwm (p + 1) f (m + 1 + 1)) (Bm (m + 1)) i j := by
        rw [← mul_assoc]
        exact Eqm.mul (pwm_snoc (p + 1) f (m + 1)) (Eqm.rfl' (p + 1) (p + 1) _) i j hi hj
      show -(mul (p + 1) (pwm (p + 1) f (m + 1)) (Bm m) i j) + _ = -(mul (p + 1) (pwm (p + 1) f (m + 1 + 1)) (Bm (m + 1)) i j)
      rw [e1, mul_plus, ← e2]
      show -(mul (p + 1) (pwm (p + 1) f (m + 1)) (scal (ch (p + 1) f (m + 1))) i j + mul (p + 1) (pwm (p + 1) f (m + 1)) (mul (p + 1) f (Bm (m + 1))) i j) + _ = _
      rw [mul_scal (p + 1) _ _ hj]; grind
  intro i j hi hj
  have h := S p (Nat.le_refl p) i j hi hj
  rw [csum_succ, h]
  have e1 : mul (p + 1) (pwm (p + 1) f (p + 1)) (Bm p) i j = mul (p + 1) (pwm (p + 1) f (p + 1)) (scal (ch (p + 1) f (p + 1))) i j :=
    Eqm.mul (Eqm.rfl' (p + 1) (p + 1) _) (fun a b ha hb => by
      have h := HC a b ha hb (p + 1) (Nat.le_refl _)
      rw [if_neg (by omega), if_neg (by omega), show p + 1 - 1 = p from rfl] at h
      show B a b p = if a = b then ch (p + 1) f (p + 1) else 0
      rw [← h]; grind) i j hi hj
  show -(mul (p + 1) (pwm (p + 1) f (p + 1)) (Bm p) i j) + _ = 0
  rw [e1, mul_scal (p + 1) _ _ hj]; grind

theorem mul_sum (n m : Nat) (t : Nat → Nat → F) (c : Nat → F) (g : Nat → Nat → Nat → F) (i j : Nat) : mul n t (fun a b => sg m fun q => c q * g q a b) i j = sg m fun q => c q * mul n t (g q) i j := by
  unfold mul
  rw [sg_congr (g := fun k => sg m fun q => c q * (t i k * g q k j)) fun k _ => by rw [← sg_times]; exact sg_congr fun q _ => by grind, sg_swap]
  exact sg_congr fun q _ => by rw [sg_times]
/-- What undoes a matrix is made of its powers. -/
theorem undo_pol (p : Nat) (hp : p + 1 < 9973) {f t : Nat → Nat → F} (ht : Eqm (p + 1) (p + 1) (mul (p + 1) t f) one) {k : F} (hk : k * ch (p + 1) f 0 = -1) :
    Eqm (p + 1) (p + 1) t fun i j => sg (p + 1) fun q => ch (p + 1) f (q + 1) * k * pwm (p + 1) f q i j := fun i j hi hj => by
  have h := (Eqm.rfl' (p + 1) (p + 1) t).mul (cayley p hp f) i j hi hj
  have hz : mul (p + 1) t zer i j = 0 := by
    unfold mul
    rw [sg_congr (g := fun _ => 0) fun a _ => by show t i a * 0 = 0; grind, sg_none]
  rw [hz] at h
  have h1 : mul (p + 1) t (csum (p + 1) (ch (p + 1) f) f (p + 1)) i j = sg (p + 1 + 1) fun q => ch (p + 1) f q * mul (p + 1) t (pwm (p + 1) f q) i j := mul_sum _ _ _ _ _ _ _
  rw [h1, sg_first] at h
  have h2 : mul (p + 1) t (pwm (p + 1) f 0) i j = t i j := mul_one (p + 1) (p + 1) t i j hi hj
  have h3 : (sg (p + 1) fun q => ch (p + 1) f (q + 1) * mul (p + 1) t (pwm (p + 1) f (q + 1)) i j) = sg (p + 1) fun q => ch (p + 1) f (q + 1) * pwm (p + 1) f q i j := sg_congr fun q _ => by
    have e : mul (p + 1) t (pwm (p + 1) f (q + 1)) i j = pwm (p + 1) f q i j := by
      show mul (p + 1) t (mul (p + 1) f (pwm (p + 1) f q)) i j = _
      rw [← mul_assoc, Eqm.mul ht (Eqm.rfl' (p + 1) (p + 1) (pwm (p + 1) f q)) i j hi hj, one_mul (p + 1) (p + 1) _ i j hi hj]
    rw [e]
  rw [h2, h3] at h
  have h4 : (sg (p + 1) fun q => ch (p + 1) f (q + 1) * k * pwm (p + 1) f q i j) = k * sg (p + 1) fun q => ch (p + 1) f (q + 1) * pwm (p + 1) f q i j := by
    rw [← sg_times]; exact sg_congr fun q _ => by grind
  dsimp only
  rw [h4]
  grind

end Go.Proofs.Ytldkamhknaflbaa.Mx

/- Plain facts on rows that go on by factors: the row, its step as a matrix, and that matrix's factors. No program is named here. -/
namespace Go.Proofs.Ytldkamhknaflbaa.Mx
open Fp
set_option linter.unusedVariables false

/-- x goes on by n factors. -/
def Goes (n : Nat) (c x : Nat → F) : Prop := ∀ i, n ≤ i → x i = sg n fun k => c k * x (i - 1 - k)
/-- The first numbers of the row that begins with s and goes on by c. -/
def sql (n : Nat) (c s : Nat → F) : Nat → List F
  | 0 => []
  | i + 1 => sql n c s i ++ [if i < n then s i else sg n fun k => c k * (sql n c s i).getD (i - 1 - k) 0]
def sq (n : Nat) (c s : Nat → F) (i : Nat) : F := (sql n c s (i + 1)).getD i 0
theorem sql_len (n : Nat) (c s : Nat → F) : ∀ i, (sql n c s i).length = i
  | 0 => rfl
  | i + 1 => by rw [sql, List.length_append, sql_len n c s i]; rfl
theorem sql_at (n : Nat) (c s : Nat → F) (j : Nat) : ∀ i, j < i → (sql n c s i).getD j 0 = sq n c s j
  | 0, h => absurd h (by omega)
  | i + 1, h => by
    by_cases e : j = i
    · rw [e]; rfl
    · rw [sql, List.getD_eq_getElem?_getD, List.getElem?_append_left (by rw [sql_len]; omega), ← List.getD_eq_getElem?_getD, sql_at n c s j i (by omega)]
theorem sq_val (n : Nat) (c s : Nat → F) (i : Nat) : sq n c s i = if i < n then s i else sg n fun k => c k * (sql n c s i).getD (i - 1 - k) 0 := by
  unfold sq
  rw [sql, List.getD_eq_getElem?_getD, List.getElem?_append_right (by rw [sql_len]; omega), sql_len, Nat.sub_self]; rfl
theorem sq_start (n : Nat) (c s : Nat → F) {i : Nat} (h : i < n) : sq n c s i = s i := by rw [sq_val, if_pos h]
theorem sq_goes (n : Nat) (c s : Nat → F) (hn : 0 < n) : Goes n c (sq n c s) := fun i h => by
  rw [sq_val, if_neg (by omega)]
  exact sg_congr fun k hk => by rw [sql_at n c s _ i (by omega)]
/-- There is but one such row. -/
theorem Goes.one {n : Nat} {c x y : Nat → F} (hx : Goes n c x) (hy : Goes n c y) (h : ∀ i, i < n → x i = y i) : ∀ i, x i = y i := fun i => by
  induction i using Nat.strongRecOn with
  | _ i ih =>
    by_cases hi : i < n
    · exact h i hi
    · rw [hx i (by omega), hy i (by omega)]
      exact sg_congr fun k hk => by rw [ih (i - 1 - k) (by omega)]
theorem Goes.is {n : Nat} (hn : 0 < n) {c x : Nat → F} (hx : Goes n c x) : ∀ i, x i = sq n c x i := hx.one (sq_goes n c x hn) fun i hi => (sq_start n c x hi).symm
theorem Goes.plus {n : Nat} {c x y : Nat → F} (hx : Goes n c x) (hy : Goes n c y) : Goes n c fun i => x i + y i := fun i hi => by
  dsimp only
  rw [hx i hi, hy i hi, ← sg_add]
  exact sg_congr fun k _ => by grind
theorem Goes.later {n : Nat} {c x : Nat → F} (hx : Goes n c x) (j : Nat) : Goes n c fun i => x (i + j) := fun i hi => by
  dsimp only
  rw [hx (i + j) (by omega)]
  exact sg_congr fun k hk => by rw [show i + j - 1 - k = i - 1 - k + j by omega]

/-- The step of a row as a matrix: the newest number first. -/
def cmp (n : Nat) (c : Nat → F) : Nat → Nat → F := fun i j => if i = 0 then c j else if j + 1 = i then 1 else 0
theorem cmp_step {n : Nat} {c x : Nat → F} (hx : Goes n c x) (i : Nat) {a : Nat} (ha : a < n) : (sg n fun b => cmp n c a b * x (i + (n - 1 - b))) = x (i + 1 + (n - 1 - a)) := by
  rcases a with _ | a
  · rw [hx (i + 1 + (n - 1 - 0)) (by omega)]
    exact sg_congr fun k hk => by
      unfold cmp; rw [if_pos rfl, show i + 1 + (n - 1 - 0) - 1 - k = i + (n - 1 - k) by omega]
  · rw [sg_one (k := a) (by omega) fun j hj hne => by unfold cmp; rw [if_neg (by omega), if_neg (by omega)]; grind]
    unfold cmp
    rw [if_neg (by omega), if_pos rfl, show i + (n - 1 - a) = i + 1 + (n - 1 - (a + 1)) by omega]; grind
/-- Its powers tell the row. -/
theorem cmp_pow {n : Nat} {c x : Nat → F} (hx : Goes n c x) : ∀ (k i a : Nat), a < n → (sg n fun b => pwm n (cmp n c) k a b * x (i + (n - 1 - b))) = x (i + k + (n - 1 - a))
  | 0, i, a, ha => by
    rw [sg_one ha fun j hj hne => by
      show (if a = j then (1 : F) else 0) * _ = 0
      rw [if_neg fun e => hne e.symm]; grind]
    show (if a = a then (1 : F) else 0) * _ = _
    rw [if_pos rfl, Nat.add_zero]; grind
  | k + 1, i, a, ha => by
    have h1 : (sg n fun b => pwm n (cmp n c) (k + 1) a b * x (i + (n - 1 - b))) = sg n fun b => mul n (pwm n (cmp n c) k) (cmp n c) a b * x (i + (n - 1 - b)) := sg_congr fun b hb => by
      rw [← pwm_snoc n (cmp n c) k a b ha hb]
    have h2 : (sg n fun b => mul n (pwm n (cmp n c) k) (cmp n c) a b * x (i + (n - 1 - b))) = sg n fun t => pwm n (cmp n c) k a t * sg n fun b => cmp n c t b * x (i + (n - 1 - b)) := by
      rw [sg_congr (g := fun b => sg n fun t => pwm n (cmp n c) k a t * (cmp n c t b * x (i + (n - 1 - b)))) fun b _ => by
        unfold mul; rw [← sg_by]; exact sg_congr fun t _ => by grind, sg_swap]
      exact sg_congr fun t _ => by rw [sg_times]
    rw [h1, h2, sg_congr (g := fun t => pwm n (cmp n c) k a t * x (i + 1 + (n - 1 - t))) fun t ht => by rw [cmp_step hx i ht], cmp_pow hx k (i + 1) a ha]
    congr 1; omega

/-- Noughts above the middle, -1 in it. -/
theorem dt_mid (d : F) : ∀ (n : Nat) (g : Nat → Nat → F), (∀ i j, i < n → j < n → i < j → g i j = 0) → (∀ i, i < n → g i i = d) → dt n g = pw d n
  | 0, g, _, _ => rfl
  | n + 1, g, h, hd => by
    have e := dt_right 1 n g fun i j hi hj hj2 => h i j (by omega) (by omega) (by omega)
    rw [Nat.add_comm 1 n] at e
    rw [e, dt_mid d n (fun i j => g (1 + i) (1 + j)) (fun i j hi hj hij => h _ _ (by omega) (by omega) (by omega)) (fun i hi => hd _ (by omega)), dt_succ, sg_succ, sg_zero, hd 0 (by omega), show sgn 0 = 1 from rfl, pw_succ]
    show (0 + 1 * d * 1) * pw d n = _
    grind
/-- x times the one, less the step. -/
theorem cmp_dt (c : Nat → F) (x : F) : ∀ n, dt (n + 1) (chm (cmp (n + 1) c) x) = pw x (n + 1) - sg (n + 1) fun k => c k * pw x (n - k)
  | 0 => by
    rw [dt_succ, sg_succ, sg_zero, sg_succ, sg_zero, pw_one, show sgn 0 = 1 from rfl]
    show 0 + 1 * (x - c 0) * 1 = x - (0 + c 0 * 1)
    grind
  | n + 1 => by
    have ih := cmp_dt c x n
    -- by the last row of what is flipped: the last column
    rw [← dt_flip, ← laplace (n + 1) (n + 1) _ (Nat.le_refl _)]
    have hz : ∀ j, j < n + 1 + 1 → j ≠ 0 → j ≠ n + 1 → sgn (n + 1 + j) * flip (chm (cmp (n + 1 + 1) c) x) (n + 1) j * dt (n + 1) (wo (flip (chm (cmp (n + 1 + 1) c) x)) (n + 1) j) = 0 := fun j hj h0 h1 => by
      have : flip (chm (cmp (n + 1 + 1) c) x) (n + 1) j = 0 := by
        show (if j = n + 1 then x else 0) - cmp (n + 1 + 1) c j (n + 1) = 0
        unfold cmp
        rw [if_neg h1, if_neg h0, if_neg (by omega)]; grind
      rw [this]; grind
    rw [sg_two (k := 0) (l := n + 1) (by omega) (by omega) (by omega) (fun j hj h0 h1 => hz j hj h0 h1)]
    have v0 : flip (chm (cmp (n + 1 + 1) c) x) (n + 1) 0 = -(c (n + 1)) := by
      show (if 0 = n + 1 then x else 0) - cmp (n + 1 + 1) c 0 (n + 1) = _
      unfold cmp
      rw [if_neg (by omega), if_pos rfl]; grind
    have v1 : flip (chm (cmp (n + 1 + 1) c) x) (n + 1) (n + 1) = x := by
      show (if n + 1 = n + 1 then x else 0) - cmp (n + 1 + 1) c (n + 1) (n + 1) = _
      unfold cmp
      rw [if_pos rfl, if_neg (by omega), if_neg (by omega)]; grind
    have w0 : dt (n + 1) (wo (flip (chm (cmp (n + 1 + 1) c) x)) (n + 1) 0) = pw (-1) (n + 1) := by
      refine dt_mid (-1) (n + 1) _ (fun i j hi hj hij => ?_) (fun i hi => ?_)
      · show (if sk 0 j = sk (n + 1) i then x else 0) - cmp (n + 1 + 1) c (sk 0 j) (sk (n + 1) i) = 0
        rw [sk_zero, show sk (n + 1) i = i by unfold sk; rw [if_pos hi]]
        unfold cmp
        rw [if_neg (by omega), if_neg (by omega), if_neg (by omega)]; grind
      · show (if sk 0 i = sk (n + 1) i then x else 0) - cmp (n + 1 + 1) c (sk 0 i) (sk (n + 1) i) = -1
        rw [sk_zero, show sk (n + 1) i = i by unfold sk; rw [if_pos hi]]
        unfold cmp
        rw [if_neg (by omega), if_neg (by omega), if_pos rfl]; grind
    have w1 : dt (n + 1) (wo (flip (chm (cmp (n + 1 + 1) c) x)) (n + 1) (n + 1)) = dt (n + 1) (chm (cmp (n + 1) c) x) := by
      rw [← dt_flip (n + 1) (chm (cmp (n + 1) c) x)]
      refine dt_congr _ fun i j hi hj => ?_
      show (if sk (n + 1) j = sk (n + 1) i then x else 0) - cmp (n + 1 + 1) c (sk (n + 1) j) (sk (n + 1) i) = (if j = i then x else 0) - cmp (n + 1) c j i
      rw [show sk (n + 1) i = i by unfold sk; rw [if_pos hi], show sk (n + 1) j = j by unfold sk; rw [if_pos hj]]; rfl
    have sp : sgn (n + 1 + 0) * pw (-1) (n + 1) = 1 := by
      have : ∀ k, sgn k * pw (-1) k = 1 := fun k => by
        induction k with
        | zero => rfl
        | succ k ih => rw [sgn_succ, pw_succ]; grind
      exact this (n + 1)
    rw [v0, v1, w0, w1, ih, show sgn (n + 1 + (n + 1)) = 1 by rw [sgn_add, sgn_two], sg_succ (n + 1) fun k => c k * pw x (n + 1 - k), Nat.sub_self, pw_zero]
    have e : (sg (n + 1) fun k => c k * pw x (n + 1 - k)) = x * sg (n + 1) fun k => c k * pw x (n - k) := by
      rw [← sg_times]
      exact sg_congr fun k hk => by rw [show n + 1 - k = (n - k) + 1 by omega, pw_succ]; grind
    rw [e, pw_succ x (n + 1)]
    grind
/-- The factors of the step are those of the row. -/
theorem cmp_ch {n : Nat} (hn : n + 1 < 9973) (c : Nat → F) : ∀ k, k ≤ n → ch (n + 1) (cmp (n + 1) c) (n - k) = -(c k) := fun k hk => by
  have h := vx_eq (d := n + 1) hn (c := ch (n + 1) (cmp (n + 1) c)) (e := fun j => if j = n + 1 then 1 else -(c (n - j))) (fun x => by
    rw [← ch_is, cmp_dt]
    rw [vx_succ]
    rw [if_pos rfl]
    have : (vx n (fun j => if j = n + 1 then 1 else -(c (n - j))) x) = -(sg (n + 1) fun k => c k * pw x (n - k)) := by
      unfold vx
      have e1 : (sg (n + 1) fun j => (if j = n + 1 then 1 else -(c (n - j))) * pw x j) = sg (n + 1) fun j => -(c (n - j)) * pw x j := sg_congr fun j hj => by rw [if_neg (by omega)]
      have e2 : ∀ m, m ≤ n + 1 → ∀ g : Nat → F, (sg m fun j => g (m - 1 - j)) = sg m g := by
        intro m
        induction m with
        | zero => intros; rfl
        | succ m ih =>
          intro hm g
          rw [sg_first, sg_succ m g]
          have := ih (by omega) g
          rw [← this]
          have e3 : (sg m fun i => g (m + 1 - 1 - (i + 1))) = sg m fun j => g (m - 1 - j) := sg_congr fun i hi => by congr 1; omega
          rw [e3]
          show g (m + 1 - 1 - 0) + _ = _ + g m
          rw [show m + 1 - 1 - 0 = m by omega]; grind
      have e4 := e2 (n + 1) (Nat.le_refl _) (fun k => c k * pw x (n - k))
      rw [e1, ← e4]
      have e5 : -(sg (n + 1) fun j => c (n + 1 - 1 - j) * pw x (n - (n + 1 - 1 - j))) = (-1) * sg (n + 1) fun j => c (n + 1 - 1 - j) * pw x (n - (n + 1 - 1 - j)) := by grind
      rw [e5, ← sg_times]
      exact sg_congr fun j hj => by
        rw [show n - (n + 1 - 1 - j) = j by omega, show n + 1 - 1 - j = n - j by omega]; grind
    rw [this]; grind) (n - k) (by omega)
  rw [h]
  rw [if_neg (by omega), show n - (n - k) = k by omega]

end Go.Proofs.Ytldkamhknaflbaa.Mx

/- The heads of r rows, of which the first k are made. For all packages. -/
namespace Go.Proofs.Ytldkamhknaflbaa
open Go.ChangeShapes Go.WideShapes Go.ChangeAt Go.RowKit
set_option linter.unusedVariables false

/-- Of a matrix that is made row by row the first k rows. -/
structure PartF (w : World) (g : Nat) (G : Nat → Nat) (r c k : Nat) (f : Nat → Nat → Int) : Prop where
  head : w.heap[g]? = some (.cells ((List.range r).map fun i => if i < k then Value.slice (some ⟨G i, 0, none⟩) c c else .slice none 0 0).toArray 22 (0, 0))
  row : ∀ i, i < k → Row w (G i) (Mx.row c (f i))
  after : ∀ i, i < k → g < G i
  apart : ∀ i j, i < k → j < k → i ≠ j → G i ≠ G j
theorem PartF.lt {w : World} {g : Nat} {G : Nat → Nat} {r c k : Nat} {f : Nat → Nat → Int} (h : PartF w g G r c k f) : g < w.heap.size := by
  rcases Nat.lt_or_ge g w.heap.size with h' | h'
  · exact h'
  · have := h.head; rw [Array.getElem?_eq_none h'] at this; cases this
theorem PartF.keep {w w' : World} {g : Nat} {G : Nat → Nat} {r c k : Nat} {f : Nat → Nat → Int} (h : PartF w g G r c k f) (hk : Kp w w') : PartF w' g G r c k f :=
  ⟨by rw [hk.block g h.lt]; exact h.head, fun i hi => (h.row i hi).keep hk, h.after, h.apart⟩
theorem PartF.cell {w : World} {g : Nat} {G : Nat → Nat} {r c k : Nat} {f : Nat → Nat → Int} (h : PartF w g G r c k f) {i : Nat} (hi : k ≤ i) (hr : i < r) : w.cell? ⟨g, i, none⟩ = some (.slice none 0 0) := by
  rw [cell_of_row _ _ i _ _ (0, 0) h.head]; simp [hr]; omega
theorem PartF.free {w : World} {g : Nat} {G : Nat → Nat} {r c k : Nat} {f : Nat → Nat → Int} (h : PartF w g G r c k f) (i : Nat) : w.frozen? ⟨g, i, none⟩ = false := frozen_of_row w g i _ _ h.head
theorem PartF.start {w : World} {base g r c : Nat} (f : Nat → Nat → Int) (h : w.ownsRow base 22 1 (.slice (some ⟨g, 0, none⟩) r r) r (madeCells #[.slice none 0 0] (r * 1)).toList) : PartF w g (fun _ => 0) r c 0 f :=
  ⟨(Part.start (c := c) h).head, fun i hi => absurd hi (by omega), fun i hi => absurd hi (by omega), fun i j hi => absurd hi (by omega)⟩
theorem PartF.step {w w1 w2 : World} {g : Nat} {G : Nat → Nat} {r c k : Nat} {f : Nat → Nat → Int} (h : PartF w g G r c k f) (hk : k < r) (hkp : Kp w w1) (h2 : Row w2 w.heap.size (Mx.row c (f k)))
    (hb : ∀ b, b ≠ w.heap.size → w2.heap[b]? = (w1.setCell ⟨g, k, none⟩ (.slice (some ⟨w.heap.size, 0, none⟩) c c)).heap[b]?) :
    PartF w2 g (fun i => if i = k then w.heap.size else G i) r c (k + 1) f := by
  have hlt := h.lt
  have h1 := h.keep hkp
  refine ⟨?_, fun i hi => ?_, fun i hi => ?_, fun i j hi hj hne => ?_⟩
  · rw [hb g (by omega), heap_setCell_same w1 g k _ _ _ h1.head]
    congr 2
    refine Array.toList_inj.1 (List.ext_getElem (by simp) fun i h2 h3 => ?_)
    simp only [Array.toList_setIfInBounds, List.getElem_set, List.getElem_map, List.getElem_range]
    rcases Nat.lt_trichotomy i k with e | e | e
    · simp [show ¬ k = i by omega, show i < k from e, show i < k + 1 by omega, show ¬ i = k by omega]
    · subst e; simp
    · simp [show ¬ k = i by omega, show ¬ i < k by omega, show ¬ i < k + 1 by omega]
  · by_cases e : i = k
    · subst e
      rw [if_pos rfl]; exact h2
    · rw [if_neg e]
      have hi' : i < k := by omega
      have := (h.row i hi').lt
      have h3 : Row (w1.setCell ⟨g, k, none⟩ (.slice (some ⟨w.heap.size, 0, none⟩) c c)) (G i) (Mx.row c (f i)) := (h1.row i hi').far (by show G i ≠ g; have := h.after i hi'; omega) _
      unfold Row at h3 ⊢
      rw [hb (G i) (by omega)]; exact h3
  · by_cases e : i = k
    · rw [if_pos e]; exact hlt
    · rw [if_neg e]; exact h.after i (by omega)
  · have hG : ∀ a, a < k → G a < w.heap.size := fun a ha => (h.row a ha).lt
    by_cases e : i = k
    · rw [if_pos e, if_neg (by omega)]
      have := hG j (by omega); omega
    · rw [if_neg e]
      by_cases e2 : j = k
      · rw [if_pos e2]; have := hG i (by omega); omega
      · rw [if_neg e2]; exact h.apart i j (by omega) (by omega) hne
theorem PartF.done {w : World} {g : Nat} {G : Nat → Nat} {r c : Nat} {f : Nat → Nat → Int} (h : PartF w g G r c r f) : Grid w g G r c f := by
  refine ⟨?_, fun i hi => h.row i hi, h.after, h.apart⟩
  rw [h.head]
  congr 2
  refine Array.toList_inj.1 (List.ext_getElem (by simp) fun i h2 h3 => ?_)
  simp only [List.getElem_map, List.getElem_range]
  rw [if_pos (by simpa using h3)]

theorem PartF.ext {w : World} {g : Nat} {G : Nat → Nat} {r c k : Nat} {f f' : Nat → Nat → Int} (h : PartF w g G r c k f) (e : ∀ i j, i < k → j < c → f i j = f' i j) : PartF w g G r c k f' :=
  ⟨h.head, fun i hi => by rw [← Mx.row_ext (fun j hj => e i j hi hj)]; exact h.row i hi, h.after, h.apart⟩
theorem PartF.cellOf {w : World} {g : Nat} {G : Nat → Nat} {r c k : Nat} {f : Nat → Nat → Int} (h : PartF w g G r c k f) {i : Nat} (hi : i < k) (hr : i < r) : w.cell? ⟨g, i, none⟩ = some (.slice (some ⟨G i, 0, none⟩) c c) := by
  rw [cell_of_row _ _ i _ _ (0, 0) h.head]; simp [hr, hi]
theorem PartF.el {w : World} {g : Nat} {G : Nat → Nat} {r c k : Nat} {f : Nat → Nat → Int} (h : PartF w g G r c k f) {i j : Nat} (hi : i < k) (hj : j < c) : w.cell? ⟨G i, j, none⟩ = some (.int .i64 (f i j)) := by
  have := (h.row i hi).cell j (by rw [Mx.len_row]; exact hj)
  rwa [Mx.row_at _ _ _ hj] at this
theorem PartF.freeOf {w : World} {g : Nat} {G : Nat → Nat} {r c k : Nat} {f : Nat → Nat → Int} (h : PartF w g G r c k f) {i : Nat} (hi : i < k) (j : Nat) : w.frozen? ⟨G i, j, none⟩ = false := (h.row i hi).free j
theorem PartF.put {w : World} {g : Nat} {G : Nat → Nat} {r c k : Nat} {f : Nat → Nat → Int} (h : PartF w g G r c k f) {i : Nat} (hi : i < k) (j : Nat) (x : Int) :
    PartF (w.setCell ⟨G i, j, none⟩ (.int .i64 x)) g G r c k (fun a b => if a = i ∧ b = j then x else f a b) := by
  refine ⟨?_, fun a ha => ?_, h.after, h.apart⟩
  · rw [heap_setCell_other w _ g _ (by show g ≠ G i; have := h.after i hi; omega)]; exact h.head
  · by_cases e : a = i
    · subst e
      have := (h.row a hi).put j x
      rw [Mx.row_set] at this
      rw [show (fun b => if a = a ∧ b = j then x else f a b) = fun b => if b = j then x else f a b by funext b; simp]
      exact this
    · rw [show (fun b => if a = i ∧ b = j then x else f a b) = f a by funext b; simp [e]]
      exact (h.row a ha).far (by show G a ≠ G i; exact h.apart a i ha hi e) _

end Go.Proofs.Ytldkamhknaflbaa

/- Matrices of the call's own, row by row: what append leaves, and stores into their rows. For all packages. -/
namespace Go.Proofs.Ytldkamhknaflbaa
open Go.ChangeShapes Go.WideShapes Go.ChangeAt Go.RowKit
set_option linter.unusedVariables false

/-- The heads of the rows of m, row i in block G i with room for C i. -/
def heads (G C : Nat → Nat) (m : List (List Int)) : List Value := (List.range m.length).map fun i => Value.slice (some ⟨G i, 0, none⟩) (m.getD i []).length (C i)
/-- The slice value v is the call's own (from block B on) and holds the rows of m, each the call's own, each apart from the others. -/
structure OwnM (w : World) (B : Nat) (v : Value) (G C : Nat → Nat) (m : List (List Int)) : Prop where
  top : w.ownsRow B 22 1 v m.length (heads G C m)
  row : ∀ i, i < m.length → Own w B (.slice (some ⟨G i, 0, none⟩) (m.getD i []).length (C i)) (m.getD i [])
  apart : ∀ i j, i < m.length → j < m.length → i ≠ j → G i ≠ G j

theorem ownM_none (w : World) (B : Nat) (G C : Nat → Nat) : OwnM w B (.slice none 0 0) G C [] :=
  ⟨World.ownsRow_nil _ _ _ _, fun i hi => absurd hi (by simp), fun i j hi => absurd hi (by simp)⟩
theorem ownsRow_kp {w w' : World} {B n : Nat} {e : TypeId} {v : Value} {xs : List Value} (h : w.ownsRow B e 1 v n xs) (hk : Kp w w') : w'.ownsRow B e 1 v n xs := by
  obtain ⟨h1, h2⟩ := h
  refine ⟨h1, ?_⟩
  rcases h2 with h2 | ⟨g, cap, cur, hv, hg, hh, r⟩
  · exact .inl h2
  · refine .inr ⟨g, cap, cur, hv, hg, ?_, r⟩
    rw [hk.block g ?_]; exact hh
    rcases Nat.lt_or_ge g w.heap.size with hlt | hge
    · exact hlt
    · rw [Array.getElem?_eq_none hge] at hh; cases hh
theorem OwnM.kp {w w' : World} {B : Nat} {v : Value} {G C : Nat → Nat} {m : List (List Int)} (h : OwnM w B v G C m) (hk : Kp w w') : OwnM w' B v G C m :=
  ⟨ownsRow_kp h.top hk, fun i hi => (h.row i hi).kp hk, h.apart⟩
theorem OwnM.lt {w : World} {B : Nat} {v : Value} {G C : Nat → Nat} {m : List (List Int)} (h : OwnM w B v G C m) {i : Nat} (hi : i < m.length) : B ≤ G i ∧ G i < w.heap.size :=
  World.ownsRow.lt (h.row i hi) (G i) rfl
/-- The block of the heads is no row's. -/
theorem top_ne {w : World} {B B' n : Nat} {v : Value} {hs : List Value} {g d c : Nat} {l : List Int} (h : w.ownsRow B 22 1 v n hs) (hr : Own w B' (.slice (some ⟨g, 0, none⟩) d c) l) : (Value.slice (some ⟨g, 0, none⟩) d c).ownBlock ≠ v.ownBlock := fun e => by
  obtain ⟨cur, hh, _⟩ := own_row hr
  rcases h.2 with ⟨rfl, _⟩ | ⟨g', cap, cur', rfl, _, hh', _⟩
  · cases e
  · have e' : g = g' := Option.some.inj e
    subst e'
    rw [hh] at hh'
    cases hh'
theorem OwnM.lies {w : World} {B : Nat} {v : Value} {G C : Nat → Nat} {m : List (List Int)} (h : OwnM w B v G C m) : ∃ A c, v = .slice A m.length c ∧ LiesM w A m ∧ m.length ≤ c := by
  rcases h.top.2 with ⟨rfl, h0⟩ | ⟨g, cap, cur, hv, hg, hh, hc, hm, hs, ht⟩
  · obtain rfl : m = [] := List.eq_nil_of_length_eq_zero h0
    exact ⟨Option.none, 0, rfl, LiesM.empty _ _, Nat.le_refl _⟩
  · refine ⟨_, cap, hv, fun k hk => ?_, hc⟩
    refine ⟨_, some ⟨G k, 0, Option.none⟩, C k, rfl, ?_, ?_, ?_, ?_⟩
    · rcases Nat.lt_or_ge g w.heap.size with h' | h'
      · exact h'
      · rw [Array.getElem?_eq_none h'] at hh; cases hh
    · have ht' : cur.toList.take m.length = heads G C m := by simpa using ht
      rw [add_at, cell_of_row _ _ k _ _ (0, 0) hh, ← Array.getElem?_toList, ← List.getElem?_take_of_lt hk, ht']
      simp [heads, hk]
    · obtain ⟨A, c, e, _, hle⟩ := (h.row k hk).cap
      cases e; exact hle
    · obtain ⟨A, c, e, hl⟩ := (h.row k hk).lies
      cases e; exact hl
theorem heads_snoc (G C : Nat → Nat) (m : List (List Int)) (l : List Int) (g c : Nat) :
    heads (fun i => if i = m.length then g else G i) (fun i => if i = m.length then c else C i) (m ++ [l]) = heads G C m ++ [Value.slice (some ⟨g, 0, none⟩) l.length c] := by
  unfold heads
  rw [List.length_append, List.length_singleton, List.range_succ, List.map_append]
  congr 1
  · refine List.map_congr_left fun i hi => ?_
    have hi' := List.mem_range.1 hi
    have e1 : i ≠ m.length := by omega
    simp [e1, List.getElem?_append_left hi']
  · simp

section
variable {ops : Array Oper} {rest : List Oper} {o : Oper} {a : Act} {w : World} {K : Act → World → Prop} {Q : Exit → Act → World → Prop}
/-- out = append(out, row). -/
theorem wp_pushM (s x : Operand) (ho : o.op = .call { callee := .builtin .append, args := #[s, x], argTypes := #[24, 24] })
    (B : Nat) (v : Value) (G C : Nat → Nat) (m : List (List Int)) (l : List Int) (g n c gb cb : Nat) (hn : l.length = n) (hs : a.eval s = v) (hx : a.eval x = .slice (some ⟨gb, 0, none⟩) 1 cb) (hown : OwnM w B v G C m)
    (hcell : w.cell? ⟨gb, 0, none⟩ = some (.slice (some ⟨g, 0, none⟩) n c)) (hrow : Own w B (.slice (some ⟨g, 0, none⟩) n c) l) (hap : ∀ i, i < m.length → G i ≠ g) (hlen : m.length + 1 ≤ 1000000) (hB : B ≤ w.heap.size)
    (h : ∀ v' w' G' C', OwnM w' B v' G' C' (m ++ [l]) → w.grownBy w' v.ownBlock → K (a.put o.dst v') w') : o.wp Try.prog a w K Q := by
  subst hn
  obtain ⟨i0, hi, hz0, hz1, hz2⟩ := info_parts ints_info
  obtain ⟨v', w', hrun, h1, h2, _, h3⟩ := run_append_own_at (P := Try.prog) w B 24 o.type 22 i0 (.slice Option.none 0 0) 1 24 Try.underlying24 hi hz0 hz1 hz2 rfl (by decide) v m.length (heads G C m) hown.top ⟨gb, 0, Option.none⟩ 1 cb [.slice (some ⟨g, 0, Option.none⟩) l.length c] rfl
    (fun j u hj => by
      match j, hj with
      | 0, hj => simp at hj; subst hj; rw [add_at]; exact hcell) (fun u hu => by simp at hu; subst hu; rfl) (by unfold maxLen; omega) (by omega) hB
  unfold Oper.wp execOp
  simp only [ho, resolve, invoke, builtin, Sem.run_bind, Sem.run_pure, Result.andThen_ok, List.map_toArray, List.map_cons, List.map_nil, hs, hx, hrun]
  refine (h v' w' (fun i => if i = m.length then g else G i) (fun i => if i = m.length then c else C i) ⟨?_, fun i hi => ?_, fun i j hi hj hne => ?_⟩ h2)
  · rw [heads_snoc, List.length_append]; exact h1
  · rw [List.length_append, List.length_singleton] at hi
    by_cases e : i = m.length
    · subst e
      have e2 : (m ++ [l]).getD m.length [] = l := by simp
      simp only [e2, if_true]
      exact hrow.grown h2 (.inr (top_ne hown.top hrow))
    · have hi' : i < m.length := by omega
      have e2 : (m ++ [l]).getD i [] = m.getD i [] := by simp [List.getElem?_append_left hi']
      simp only [if_neg e, e2]
      exact (hown.row i hi').grown h2 (.inr (top_ne hown.top (hown.row i hi')))
  · rw [List.length_append, List.length_singleton] at hi hj
    by_cases e : i = m.length
    · rw [if_pos e, if_neg (by omega)]
      exact fun e' => hap j (by omega) e'.symm
    · rw [if_neg e]
      by_cases e2 : j = m.length
      · rw [if_pos e2]; exact hap i (by omega)
      · rw [if_neg e2]; exact hown.apart i j (by omega) (by omega) hne
theorem wpList_pushM (hgd : o.guard = Option.none) (s x : Operand) (ho : o.op = .call { callee := .builtin .append, args := #[s, x], argTypes := #[24, 24] })
    (B : Nat) (v : Value) (G C : Nat → Nat) (m : List (List Int)) (l : List Int) (g n c gb cb : Nat) (hn : l.length = n) (hs : a.eval s = v) (hx : a.eval x = .slice (some ⟨gb, 0, none⟩) 1 cb) (hown : OwnM w B v G C m)
    (hcell : w.cell? ⟨gb, 0, none⟩ = some (.slice (some ⟨g, 0, none⟩) n c)) (hrow : Own w B (.slice (some ⟨g, 0, none⟩) n c) l) (hap : ∀ i, i < m.length → G i ≠ g) (hlen : m.length + 1 ≤ 1000000) (hB : B ≤ w.heap.size)
    (h : ∀ v' w' G' C', OwnM w' B v' G' C' (m ++ [l]) → (∀ w0 : World, w0.heap.size ≤ B → Kp w0 w → Kp w0 w') → wpList Try.prog ops Q rest (a.put o.dst v') w') : wpList Try.prog ops Q (o :: rest) a w :=
  wpList_plain hgd fun _ hK => wp_pushM s x ho B v G C m l g n c gb cb hn hs hx hown hcell hrow hap hlen hB fun v' w' G' C' h1 h2 => hK _ _ (h v' w' G' C' h1 fun w0 hw0 hk0 => Below.grown hk0 h2 hk0.size fun k hk => Nat.le_trans hw0 (World.ownsRow.lt hown.top k hk).1)
end

theorem cell_made (w : World) (cs : Array Value) (e : TypeId) (g k : Nat) (h : g = w.heap.size) : (w.alloc (.cells cs e)).cell? ⟨g, k, none⟩ = cs[k]? := by
  subst h
  exact cell_of_row _ _ k _ e (0, 0) (heap_alloc_new w _)
theorem size_set (w : World) (a : Addr) (u : Value) : w.heap.size = (w.setCell a u).heap.size := by simp [World.setCell]
theorem Own.from {w : World} {B B' : Nat} {v : Value} {l : List Int} (h : Own w B v l) (hB : B' ≤ B) : Own w B' v l :=
  ⟨h.1, h.2.imp id fun ⟨g, cap, cur, e, hg, r⟩ => ⟨g, cap, cur, e, Nat.le_trans hB hg, r⟩⟩
/-- Cells of a row of such a matrix; a store into one. -/
theorem OwnM.head {w : World} {B : Nat} {G C : Nat → Nat} {m : List (List Int)} {g n cap : Nat} (h : OwnM w B (.slice (some ⟨g, 0, none⟩) n cap) G C m) {i : Nat} (hi : i < m.length) : w.cell? ⟨g, i, none⟩ = some (.slice (some ⟨G i, 0, none⟩) (m.getD i []).length (C i)) := by
  rcases h.top.2 with ⟨e, _⟩ | ⟨g', cap', cur, hv, hg, hh, hc, hm, hs, ht⟩
  · cases e
  · cases hv
    have ht' : cur.toList.take m.length = heads G C m := by simpa using ht
    rw [cell_of_row _ _ i _ _ (0, 0) hh, ← Array.getElem?_toList, ← List.getElem?_take_of_lt hi, ht']
    simp [heads, hi]
theorem OwnM.el {w : World} {B : Nat} {v : Value} {G C : Nat → Nat} {m : List (List Int)} (h : OwnM w B v G C m) {i : Nat} (hi : i < m.length) {j : Nat} (hj : j < (m.getD i []).length) : w.cell? ⟨G i, j, none⟩ = some (.int .i64 ((m.getD i []).getD j 0)) :=
  own_cell (h.row i hi) j hj
theorem OwnM.free {w : World} {B : Nat} {v : Value} {G C : Nat → Nat} {m : List (List Int)} (h : OwnM w B v G C m) {i : Nat} (hi : i < m.length) (j : Nat) : w.frozen? ⟨G i, j, none⟩ = false :=
  own_free (h.row i hi) j
theorem own_store {w : World} {B g n c : Nat} {l : List Int} (h : Own w B (.slice (some ⟨g, 0, none⟩) n c) l) {a : Addr} (ha : g ≠ a.block) (u : Value) : Own (w.setCell a u) B (.slice (some ⟨g, 0, none⟩) n c) l := by
  rcases h.2 with ⟨h0, _⟩ | ⟨g', cap, cur, e, hg, hh, r⟩
  · cases h0
  · cases e
    exact ⟨h.1, .inr ⟨g, c, cur, rfl, hg, by rw [heap_setCell_other w a g u ha]; exact hh, r⟩⟩
theorem OwnM.put {w : World} {B : Nat} {v : Value} {G C : Nat → Nat} {r c : Nat} {f : Nat → Nat → Int} (h : OwnM w B v G C (Mx.tab r c f)) {i : Nat} (hi : i < r) (j : Nat) (x : Int) :
    OwnM (w.setCell ⟨G i, j, none⟩ (.int .i64 x)) B v G C (Mx.tab r c fun a b => if a = i ∧ b = j then x else f a b) := by
  have hl := Mx.len_tab r c f
  have hl' := Mx.len_tab r c fun a b => if a = i ∧ b = j then x else f a b
  have hri := h.row i (by rw [hl]; exact hi)
  refine ⟨?_, fun k hk => ?_, fun a b ha hb => h.apart a b (by omega) (by omega)⟩
  · have hh : heads G C (Mx.tab r c fun a b => if a = i ∧ b = j then x else f a b) = heads G C (Mx.tab r c f) := by
      unfold heads
      rw [hl, hl']
      refine List.map_congr_left fun k hk => ?_
      have := List.mem_range.1 hk
      rw [Mx.tab_len _ _ _ _ this, Mx.tab_len _ _ _ _ this]
    rw [hh, hl']
    have ht := h.top
    have hne := top_ne h.top hri
    rw [hl] at ht
    rcases ht.2 with ⟨h1, h2⟩ | ⟨g, cap, cur, e, hg, hh, rr⟩
    · exact ⟨ht.1, .inl ⟨h1, h2⟩⟩
    · refine ⟨ht.1, .inr ⟨g, cap, cur, e, hg, ?_, rr⟩⟩
      rw [heap_setCell_other w _ g _ (by
        show g ≠ G i
        intro e2
        apply hne
        rw [e]
        show some (G i) = some g
        rw [e2])]
      exact hh
  · rw [hl'] at hk
    rw [Mx.tab_at _ _ _ _ hk, Mx.len_row]
    have hk0 := h.row k (by omega)
    rw [Mx.tab_at _ _ _ _ hk, Mx.len_row] at hk0
    by_cases e : k = i
    · subst e
      have := own_put hk0 j x
      rw [Mx.row_set] at this
      rw [show (fun b => if k = k ∧ b = j then x else f k b) = fun b => if b = j then x else f k b by funext b; simp]
      exact this
    · rw [show (fun b => if k = i ∧ b = j then x else f k b) = f k by funext b; simp [e]]
      exact own_store hk0 (by show G k ≠ G i; exact h.apart k i (by omega) (by omega) e) _
theorem OwnM.ext {w : World} {B : Nat} {v : Value} {G C : Nat → Nat} {r c : Nat} {f f' : Nat → Nat → Int} (h : OwnM w B v G C (Mx.tab r c f)) (e : ∀ i j, i < r → j < c → f i j = f' i j) : OwnM w B v G C (Mx.tab r c f') := by
  rw [← Mx.tab_ext e]; exact h
theorem OwnM.drewN {w : World} {B : Nat} {v : Value} {G C : Nat → Nat} {m : List (List Int)} (h : OwnM w B v G C m) (n : Nat) : OwnM (w.drewN n) B v G C m := h.kp ((Kp.rfl' w).drewN n)
theorem OwnM.new {w : World} {B : Nat} {v : Value} {G C : Nat → Nat} {m : List (List Int)} (h : OwnM w B v G C m) (o : Obj) : OwnM (w.alloc o) B v G C m := h.kp ((Kp.rfl' w).new o)
end Go.Proofs.Ytldkamhknaflbaa

/- More on matrices of the call's own: heads that change places, a row of numbers beside them, and what a store into their rows leaves. For all packages. -/
namespace Go.Proofs.Ytldkamhknaflbaa
open Go.ChangeShapes Go.WideShapes Go.ChangeAt Go.RowKit
set_option linter.unusedVariables false

/-- The heads of r rows of c numbers. -/
def hds (r c : Nat) (G C : Nat → Nat) : List Value := (List.range r).map fun i => Value.slice (some ⟨G i, 0, none⟩) c (C i)
theorem len_hds (r c : Nat) (G C : Nat → Nat) : (hds r c G C).length = r := by simp [hds]
theorem heads_tab (G C : Nat → Nat) (r c : Nat) (f : Nat → Nat → Int) : heads G C (Mx.tab r c f) = hds r c G C := by
  unfold heads hds
  rw [Mx.len_tab]
  refine List.map_congr_left fun i hi => ?_
  rw [Mx.tab_len _ _ _ _ (List.mem_range.1 hi)]
theorem hds_set (r c : Nat) (G C : Nat → Nat) (i x d : Nat) :
    (hds r c G C).set i (Value.slice (some ⟨x, 0, none⟩) c d) = hds r c (fun k => if k = i then x else G k) (fun k => if k = i then d else C k) := by
  refine List.ext_getElem (by simp [hds]) fun k h1 h2 => ?_
  simp only [hds, List.getElem_set, List.getElem_map, List.getElem_range]
  by_cases e : i = k
  · subst e; simp
  · rw [if_neg e, if_neg (fun e' => e e'.symm), if_neg (fun e' => e e'.symm)]

/-- As OwnM, but two heads may name the same row. -/
structure OwnH (w : World) (B : Nat) (v : Value) (G C : Nat → Nat) (r c : Nat) (f : Nat → Nat → Int) : Prop where
  top : w.ownsRow B 22 1 v r (hds r c G C)
  row : ∀ i, i < r → Own w B (.slice (some ⟨G i, 0, none⟩) c (C i)) (Mx.row c (f i))
theorem OwnM.weak {w : World} {B : Nat} {v : Value} {G C : Nat → Nat} {r c : Nat} {f : Nat → Nat → Int} (h : OwnM w B v G C (Mx.tab r c f)) : OwnH w B v G C r c f := by
  refine ⟨?_, fun i hi => ?_⟩
  · have := h.top
    rwa [heads_tab, Mx.len_tab] at this
  · have := h.row i (by rw [Mx.len_tab]; exact hi)
    rwa [Mx.tab_at _ _ _ _ hi, Mx.len_row] at this
theorem OwnH.strong {w : World} {B : Nat} {v : Value} {G C : Nat → Nat} {r c : Nat} {f : Nat → Nat → Int} (h : OwnH w B v G C r c f) (ha : ∀ i j, i < r → j < r → i ≠ j → G i ≠ G j) : OwnM w B v G C (Mx.tab r c f) := by
  refine ⟨?_, fun i hi => ?_, fun i j hi hj => ?_⟩
  · rw [heads_tab, Mx.len_tab]; exact h.top
  · rw [Mx.len_tab] at hi
    rw [Mx.tab_at _ _ _ _ hi, Mx.len_row]; exact h.row i hi
  · rw [Mx.len_tab] at hi hj; exact ha i j hi hj
theorem OwnH.kp {w w' : World} {B : Nat} {v : Value} {G C : Nat → Nat} {r c : Nat} {f : Nat → Nat → Int} (h : OwnH w B v G C r c f) (hk : Kp w w') : OwnH w' B v G C r c f :=
  ⟨ownsRow_kp h.top hk, fun i hi => (h.row i hi).kp hk⟩
theorem OwnH.ext {w : World} {B : Nat} {v : Value} {G C : Nat → Nat} {r c : Nat} {f f' : Nat → Nat → Int} (h : OwnH w B v G C r c f) (e : ∀ i j, i < r → j < c → f i j = f' i j) : OwnH w B v G C r c f' :=
  ⟨h.top, fun i hi => by rw [← Mx.row_ext (fun j hj => e i j hi hj)]; exact h.row i hi⟩
theorem OwnH.head {w : World} {B : Nat} {G C : Nat → Nat} {r c g n cap : Nat} {f : Nat → Nat → Int} (h : OwnH w B (.slice (some ⟨g, 0, none⟩) n cap) G C r c f) {i : Nat} (hi : i < r) :
    w.cell? ⟨g, i, none⟩ = some (.slice (some ⟨G i, 0, none⟩) c (C i)) := by
  rcases h.top.2 with ⟨e, _⟩ | ⟨g', cap', cur, hv, hg, hh, hc, hm, hs, ht⟩
  · cases e
  · cases hv
    have ht' : cur.toList.take r = hds r c G C := by simpa using ht
    rw [cell_of_row _ _ i _ _ (0, 0) hh, ← Array.getElem?_toList, ← List.getElem?_take_of_lt hi, ht']
    simp [hds, hi]
theorem OwnH.el {w : World} {B : Nat} {v : Value} {G C : Nat → Nat} {r c : Nat} {f : Nat → Nat → Int} (h : OwnH w B v G C r c f) {i j : Nat} (hi : i < r) (hj : j < c) : w.cell? ⟨G i, j, none⟩ = some (.int .i64 (f i j)) := by
  have := own_cell (h.row i hi) j (by rw [Mx.len_row]; exact hj)
  rwa [Mx.row_at _ _ _ hj] at this
theorem OwnH.free {w : World} {B : Nat} {v : Value} {G C : Nat → Nat} {r c : Nat} {f : Nat → Nat → Int} (h : OwnH w B v G C r c f) {i : Nat} (hi : i < r) (j : Nat) : w.frozen? ⟨G i, j, none⟩ = false := own_free (h.row i hi) j
theorem OwnH.topFree {w : World} {B : Nat} {G C : Nat → Nat} {r c g n cap : Nat} {f : Nat → Nat → Int} (h : OwnH w B (.slice (some ⟨g, 0, none⟩) n cap) G C r c f) (i : Nat) : w.frozen? ⟨g, i, none⟩ = false := by
  rcases h.top.2 with ⟨e, _⟩ | ⟨g', cap', cur, hv, hg, hh, hc, hm, hs, ht⟩
  · cases e
  · cases hv; exact frozen_of_row w g i _ _ hh
theorem OwnH.topLe {w : World} {B : Nat} {G C : Nat → Nat} {r c g n cap : Nat} {f : Nat → Nat → Int} (h : OwnH w B (.slice (some ⟨g, 0, none⟩) n cap) G C r c f) : B ≤ g ∧ g < w.heap.size := World.ownsRow.lt h.top g rfl
theorem OwnH.lt {w : World} {B : Nat} {v : Value} {G C : Nat → Nat} {r c : Nat} {f : Nat → Nat → Int} (h : OwnH w B v G C r c f) {i : Nat} (hi : i < r) : B ≤ G i ∧ G i < w.heap.size := World.ownsRow.lt (h.row i hi) (G i) rfl
theorem OwnH.apartTop {w : World} {B : Nat} {G C : Nat → Nat} {r c g n cap : Nat} {f : Nat → Nat → Int} (h : OwnH w B (.slice (some ⟨g, 0, none⟩) n cap) G C r c f) {i : Nat} (hi : i < r) : G i ≠ g := fun e => top_ne h.top (h.row i hi) (by show some (G i) = some g; rw [e])
/-- A head is set to another row of the call's own. -/
theorem OwnH.set {w : World} {B : Nat} {G C : Nat → Nat} {r c g n cap : Nat} {f : Nat → Nat → Int} (h : OwnH w B (.slice (some ⟨g, 0, none⟩) n cap) G C r c f) {i : Nat} (hi : i < r) {x d : Nat} {l : Nat → Int} (hx : Own w B (.slice (some ⟨x, 0, none⟩) c d) (Mx.row c l)) :
    OwnH (w.setCell ⟨g, i, none⟩ (.slice (some ⟨x, 0, none⟩) c d)) B (.slice (some ⟨g, 0, none⟩) n cap) (fun k => if k = i then x else G k) (fun k => if k = i then d else C k) r c (fun k => if k = i then l else f k) := by
  refine ⟨?_, fun k hk => ?_⟩
  · rcases h.top.2 with ⟨e, _⟩ | ⟨g', cap', cur, hv, hg, hh, hc, hm, hs, ht⟩
    · cases e
    · cases hv
      refine ⟨by rw [len_hds, Nat.mul_one], .inr ⟨g, cap, cur.setIfInBounds i (.slice (some ⟨x, 0, none⟩) c d), rfl, hg, heap_setCell_same w g i _ _ _ hh, hc, hm, by rw [Array.size_setIfInBounds]; exact hs, ?_⟩⟩
      rw [Array.toList_setIfInBounds, List.take_set, ht, hds_set]
  · by_cases e : k = i
    · subst e
      simp only [if_true]
      exact own_store hx (fun e' => top_ne h.top hx (by show some x = some g; rw [e'])) _
    · simp only [if_neg e]
      exact own_store (h.row k hk) (h.apartTop hk) _

/-- Nothing but what stands in the blocks of these rows has turned. -/
structure Only (G : Nat → Nat) (r : Nat) (w w' : World) : Prop where
  os : w'.os = w.os
  tape : w'.tape = w.tape
  output : w'.output = w.output
  size : w.heap.size ≤ w'.heap.size
  block : ∀ b, b < w.heap.size → (∀ i, i < r → b ≠ G i) → w'.heap[b]? = w.heap[b]?
theorem Only.of {G : Nat → Nat} {r : Nat} {w w' : World} (h : Kp w w') : Only G r w w' := ⟨h.os, h.tape, h.output, h.size, fun b hb _ => h.block b hb⟩
theorem Only.refl (G : Nat → Nat) (r : Nat) (w : World) : Only G r w w := Only.of (Kp.rfl' w)
theorem Only.trans {G : Nat → Nat} {r : Nat} {a b c : World} (h : Only G r a b) (k : Only G r b c) : Only G r a c :=
  ⟨k.os.trans h.os, k.tape.trans h.tape, k.output.trans h.output, Nat.le_trans h.size k.size, fun i hi hn => (k.block i (Nat.lt_of_lt_of_le hi h.size) hn).trans (h.block i hi hn)⟩
theorem Only.drewN {G : Nat → Nat} {r : Nat} {a b : World} (h : Only G r a b) (n : Nat) : Only G r a (b.drewN n) := h.trans (Only.of ((Kp.rfl' b).drewN n))
theorem Only.put {G : Nat → Nat} {r : Nat} {a b : World} (h : Only G r a b) {i : Nat} (hi : i < r) (j : Nat) (u : Value) : Only G r a (b.setCell ⟨G i, j, none⟩ u) :=
  h.trans ⟨rfl, rfl, rfl, by simp [World.setCell], fun k _ hn => Below.heap_setCell _ _ _ _ (hn i hi)⟩
theorem Only.below {G : Nat → Nat} {r B : Nat} {w0 w w' : World} (h : Only G r w w') (hb : Below B w0 w) (hB : B ≤ w.heap.size) (hG : ∀ i, i < r → B ≤ G i) : Below B w0 w' :=
  hb.trans ⟨h.os, h.tape, h.output, h.size, fun k hk => h.block k (by omega) fun i hi e => by have := hG i hi; omega⟩
theorem Own.only {G : Nat → Nat} {r B : Nat} {w w' : World} {u : Value} {l : List Int} (h : Own w B u l) (ho : Only G r w w') (hn : ∀ b, u.ownBlock = some b → ∀ i, i < r → G i ≠ b) : Own w' B u l := by
  obtain ⟨h1, h2⟩ := h
  refine ⟨h1, ?_⟩
  rcases h2 with h2 | ⟨g, cap, cur, rfl, hg, hh, r⟩
  · exact .inl h2
  · refine .inr ⟨g, cap, cur, rfl, hg, ?_, r⟩
    rw [ho.block g ?_ fun i hi e => hn g rfl i hi e.symm]; exact hh
    rcases Nat.lt_or_ge g w.heap.size with hlt | hge
    · exact hlt
    · rw [Array.getElem?_eq_none hge] at hh; cases hh
/-- A store to another block leaves a row. -/
theorem Own.far {w : World} {B : Nat} {u : Value} {l : List Int} (h : Own w B u l) {a : Addr} (ha : u.ownBlock ≠ some a.block) (x : Value) : Own (w.setCell a x) B u l := by
  obtain ⟨h1, h2⟩ := h
  refine ⟨h1, ?_⟩
  rcases h2 with h2 | ⟨g, cap, cur, rfl, hg, hh, r⟩
  · exact .inl h2
  · refine .inr ⟨g, cap, cur, rfl, hg, ?_, r⟩
    rw [heap_setCell_other w a g x (fun e => ha (by show some g = some a.block; rw [e]))]; exact hh

/-- An append to another row leaves the matrix. -/
theorem OwnM.grown {w w' : World} {B : Nat} {v u : Value} {G C : Nat → Nat} {m : List (List Int)} (h : OwnM w B v G C m) (hg : w.grownBy w' u.ownBlock) (h1 : v.ownBlock = none ∨ v.ownBlock ≠ u.ownBlock) (h2 : ∀ i, i < m.length → some (G i) ≠ u.ownBlock) : OwnM w' B v G C m :=
  ⟨World.ownsRow.kept h.top hg h1, fun i hi => (h.row i hi).grown hg (.inr (h2 i hi)), h.apart⟩

theorem OwnM.liesM {w : World} {B n cap : Nat} {A : Option Addr} {G C : Nat → Nat} {m : List (List Int)} (h : OwnM w B (.slice A n cap) G C m) : LiesM w A m := by
  obtain ⟨A', c', e, hl, _⟩ := h.lies
  cases e; exact hl

/-- A matrix of the call's own, and a row of numbers beside it. -/
structure MatRow (w : World) (B : Nat) (g cap : Nat) (G C : Nat → Nat) (r c : Nat) (f : Nat → Nat → Int) (u : Value) (l : List Int) : Prop where
  mat : OwnM w B (.slice (some ⟨g, 0, none⟩) r cap) G C (Mx.tab r c f)
  row : Own w B u l
  far : ∀ b, u.ownBlock = some b → b ≠ g
  apart : ∀ b, u.ownBlock = some b → ∀ i, i < r → G i ≠ b
theorem MatRow.kp {w w' : World} {B g cap : Nat} {G C : Nat → Nat} {r c : Nat} {f : Nat → Nat → Int} {u : Value} {l : List Int} (h : MatRow w B g cap G C r c f u l) (hk : Kp w w') : MatRow w' B g cap G C r c f u l := ⟨h.mat.kp hk, h.row.kp hk, h.far, h.apart⟩
theorem MatRow.drewN {w : World} {B g cap : Nat} {G C : Nat → Nat} {r c : Nat} {f : Nat → Nat → Int} {u : Value} {l : List Int} (h : MatRow w B g cap G C r c f u l) (n : Nat) : MatRow (w.drewN n) B g cap G C r c f u l := h.kp ((Kp.rfl' w).drewN n)
theorem MatRow.start {w : World} {B g cap : Nat} {G C : Nat → Nat} {r c : Nat} {f : Nat → Nat → Int} (h : OwnM w B (.slice (some ⟨g, 0, none⟩) r cap) G C (Mx.tab r c f)) : MatRow w B g cap G C r c f (.slice none 0 0) [] :=
  ⟨h, Own.none _ _, (fun b hb => by cases hb), (fun b hb => by cases hb)⟩
theorem MatRow.ext {w : World} {B g cap : Nat} {G C : Nat → Nat} {r c : Nat} {f f' : Nat → Nat → Int} {u : Value} {l : List Int} (h : MatRow w B g cap G C r c f u l) (e : ∀ i j, i < r → j < c → f i j = f' i j) : MatRow w B g cap G C r c f' u l := ⟨h.mat.ext e, h.row, h.far, h.apart⟩
theorem MatRow.only {w w' : World} {B g cap : Nat} {G C : Nat → Nat} {r c : Nat} {f f' : Nat → Nat → Int} {u : Value} {l : List Int} (h : MatRow w B g cap G C r c f u l) (ho : Only G r w w') (hm : OwnM w' B (.slice (some ⟨g, 0, none⟩) r cap) G C (Mx.tab r c f')) : MatRow w' B g cap G C r c f' u l :=
  ⟨hm, h.row.only ho h.apart, h.far, h.apart⟩
theorem MatRow.put {w : World} {B g cap : Nat} {G C : Nat → Nat} {r c : Nat} {f : Nat → Nat → Int} {u : Value} {l : List Int} (h : MatRow w B g cap G C r c f u l) {i : Nat} (hi : i < r) (j : Nat) (x : Int) :
    MatRow (w.setCell ⟨G i, j, none⟩ (.int .i64 x)) B g cap G C r c (fun a b => if a = i ∧ b = j then x else f a b) u l :=
  h.only ((Only.refl G r w).put hi j _) (h.mat.put hi j x)
/-- An append to the row beside it. -/
theorem MatRow.push {w w' : World} {B g cap : Nat} {G C : Nat → Nat} {r c : Nat} {f : Nat → Nat → Int} {u u' : Value} {l l' : List Int} (h : MatRow w B g cap G C r c f u l) (h1 : Own w' B u' l') (hg : w.grownBy w' u.ownBlock) (ha : At w u u') : MatRow w' B g cap G C r c f u' l' := by
  have hl := World.ownsRow.lt h.mat.top g rfl
  have hG : ∀ i, i < r → G i < w.heap.size := fun i hi => (h.mat.lt (by rw [Mx.len_tab]; exact hi)).2
  refine ⟨h.mat.grown hg ?_ fun i hi e => ?_, h1, fun b hb => ?_, fun b hb i hi => ?_⟩
  · cases hu : u.ownBlock with
    | none => exact .inr (by intro e; cases e)
    | some b => exact .inr fun e => h.far b hu (Option.some.inj e).symm
  · rw [Mx.len_tab] at hi
    exact h.apart _ e.symm i hi rfl
  · rcases ha with e | e
    · exact h.far b (by rw [← e]; exact hb)
    · rw [e] at hb; have := Option.some.inj hb; omega
  · rcases ha with e | e
    · exact h.apart b (by rw [← e]; exact hb) i hi
    · rw [e] at hb; have := Option.some.inj hb; have := hG i hi; omega
/-- Two heads change places. -/
theorem MatRow.swap {w : World} {B g cap : Nat} {G C : Nat → Nat} {r c : Nat} {f : Nat → Nat → Int} {u : Value} {l : List Int} (h : MatRow w B g cap G C r c f u l) {a b : Nat} (ha : a < r) (hb : b < r) :
    MatRow ((w.setCell ⟨g, a, none⟩ (.slice (some ⟨G b, 0, none⟩) c (C b))).setCell ⟨g, b, none⟩ (.slice (some ⟨G a, 0, none⟩) c (C a))) B g cap
      (fun i => if i = b then G a else if i = a then G b else G i) (fun i => if i = b then C a else if i = a then C b else C i) r c (fun i => if i = b then f a else if i = a then f b else f i) u l := by
  have hw := h.mat.weak
  have ap : ∀ i j, i < r → j < r → i ≠ j → G i ≠ G j := fun i j hi hj => h.mat.apart i j (by rw [Mx.len_tab]; exact hi) (by rw [Mx.len_tab]; exact hj)
  have h1 := hw.set ha (hw.row b hb)
  have ra := own_store (hw.row a ha) (a := ⟨g, a, none⟩) (hw.apartTop ha) (Value.slice (some ⟨G b, 0, none⟩) c (C b))
  have h2 := h1.set hb ra
  refine ⟨h2.strong fun i j hi hj hne => ?_, (h.row.far (a := ⟨g, a, none⟩) (fun e => h.far _ e rfl) _).far (a := ⟨g, b, none⟩) (fun e => h.far _ e rfl) _, h.far, fun k hk i hi => ?_⟩
  · split <;> split <;> (try split) <;> (try split) <;> apply ap <;> omega
  · split
    · exact h.apart k hk a ha
    · split
      · exact h.apart k hk b hb
      · exact h.apart k hk i hi

/-- Row p comes to row a's place, and a new row to row p's. -/
theorem MatRow.rehead {w w' : World} {B g cap : Nat} {G C : Nat → Nat} {r c : Nat} {f : Nat → Nat → Int} {u : Value} {l : List Int} (h : MatRow w B g cap G C r c f u l) {a p : Nat} (ha : a < r) (hp : p < r)
    (hk : Kp (w.setCell ⟨g, a, none⟩ (.slice (some ⟨G p, 0, none⟩) c (C p))) w') {go co : Nat} {h1 : Nat → Int} (ho : Own w' w.heap.size (.slice (some ⟨go, 0, none⟩) c co) (Mx.row c h1)) :
    MatRow (w'.setCell ⟨g, p, none⟩ (.slice (some ⟨go, 0, none⟩) c co)) B g cap (fun i => if i = p then go else if i = a then G p else G i) (fun i => if i = p then co else if i = a then C p else C i) r c
      (fun i => if i = p then h1 else if i = a then f p else f i) u l := by
  have hw := h.mat.weak
  have ap : ∀ i j, i < r → j < r → i ≠ j → G i ≠ G j := fun i j hi hj => h.mat.apart i j (by rw [Mx.len_tab]; exact hi) (by rw [Mx.len_tab]; exact hj)
  have hB := hw.topLe
  have hgo : w.heap.size ≤ go := (World.ownsRow.lt ho go rfl).1
  have h2 := ((hw.set ha (hw.row p hp)).kp hk).set hp (ho.from (B' := B) (by omega))
  refine ⟨h2.strong fun i j hi hj hne => ?_, ((h.row.far (a := ⟨g, a, none⟩) (fun e => h.far _ e rfl) _).kp hk).far (a := ⟨g, p, none⟩) (fun e => h.far _ e rfl) _, h.far, fun k hk' i hi => ?_⟩
  · have hG : ∀ i, i < r → G i ≠ go := fun i hi => by have := (hw.lt hi).2; omega
    split <;> split <;> (try split) <;> (try split) <;> first | omega | exact hG _ (by omega) | exact (hG _ (by omega)).symm | (apply ap <;> omega)
  · have hlt := (World.ownsRow.lt h.row k hk').2
    split
    · omega
    · split
      · exact h.apart k hk' p hp
      · exact h.apart k hk' i hi

/-- A matrix made by make is a matrix of the call's own. -/
theorem Row.own {w : World} {B g n : Nat} {l : List Int} (h : Row w g l) (hB : B ≤ g) (hn : l.length = n) (hm : n ≤ 17000000000000) : Own w B (.slice (some ⟨g, 0, none⟩) n n) l := by
  subst hn
  refine ⟨by simp, .inr ⟨g, l.length, (ints l).toArray, rfl, hB, h, Nat.le_refl _, by unfold maxLen; omega, by simp, by simp [List.take_of_length_le]⟩⟩
theorem Grid.own {w : World} {B g : Nat} {G : Nat → Nat} {r c : Nat} {f : Nat → Nat → Int} (h : Grid w g G r c f) (hB : B ≤ g) (hr : r ≤ 1000) (hc : c ≤ 1000) : OwnM w B (.slice (some ⟨g, 0, none⟩) r r) G (fun _ => c) (Mx.tab r c f) := by
  refine OwnH.strong ⟨⟨by rw [len_hds, Nat.mul_one], .inr ⟨g, r, _, rfl, hB, h.head, Nat.le_refl _, by unfold maxLen; omega, by simp, ?_⟩⟩, fun i hi => (h.row i hi).own (by have := h.after i hi; omega) (Mx.len_row _ _) (by omega)⟩ h.apart
  simp [hds, List.take_of_length_le]
end Go.Proofs.Ytldkamhknaflbaa

/- Contracts of package gauss, first part: subtract, below, clone. -/
namespace Go.Proofs.Ytldkamhknaflbaa
open Go.ChangeShapes Go.WideShapes Go.ChangeAt Go.RowKit
set_option linter.unusedVariables false

theorem gval (a : Fp.F) : 0 ≤ (a.val : Int) ∧ (a.val : Int) ≤ 9972 := by have := a.isLt; omega
theorem val_less (a x b : Fp.F) : ((a.val : Int) + (9973 - (x.val : Int)) * (b.val : Int)) % 9973 = ((a - x * b).val : Int) := by
  rw [← Fp.ofInt_val, Fp.ofInt_add, Fp.ofInt_mul, Fp.ofInt_self, Fp.ofInt_self]
  have h : Fp.ofInt (9973 - (x.val : Int)) + x = 0 := by
    have h2 := Fp.ofInt_add (9973 - (x.val : Int)) (x.val : Int)
    rw [Fp.ofInt_self, show (9973 - (x.val : Int)) + (x.val : Int) = 9973 by omega] at h2
    rw [← h2]; decide
  generalize Fp.ofInt (9973 - (x.val : Int)) = y at *
  have : a + y * b = a - x * b := by
    have e : y = -x := by grind
    rw [e]; grind
  rw [this]
theorem less_bound (x b : Fp.F) : 0 ≤ (9973 - (x.val : Int)) * (b.val : Int) ∧ (9973 - (x.val : Int)) * (b.val : Int) ≤ 99450756 := by
  have h1 := gval x
  have h2 := gval b
  exact ⟨Int.mul_nonneg (by omega) h2.1, Int.mul_le_mul (show 9973 - (x.val : Int) ≤ 9973 by omega) h2.2 h2.1 (by decide)⟩
theorem less_mod (a x b : Fp.F) : ((a.val : Int) + (9973 - (x.val : Int)) * (b.val : Int)).tmod 9973 = ((a - x * b).val : Int) := by
  have h := less_bound x b
  rw [Int.tmod_eq_emod_of_nonneg (by have := gval a; omega), val_less]
theorem times_mod (a b : Fp.F) : ((a.val : Int) * (b.val : Int)).tmod 9973 = ((a * b).val : Int) := by
  have h1 := gval a
  have h2 := gval b
  rw [Int.tmod_eq_emod_of_nonneg (Int.mul_nonneg h1.1 h2.1), Fp.mul_val]
theorem times_bound (a b : Fp.F) : 0 ≤ (a.val : Int) * (b.val : Int) ∧ (a.val : Int) * (b.val : Int) ≤ 99440784 := by
  have h1 := gval a
  have h2 := gval b
  exact ⟨Int.mul_nonneg h1.1 h2.1, Int.mul_le_mul h1.2 h2.2 h2.1 (by decide)⟩

set_option maxRecDepth 100000 in
set_option maxHeartbeats 1600000 in
theorem subtract_any {B g cap : Nat} {G C : Nat → Nat} {r c : Nat} {f : Nat → Nat → Fp.F} {a i : Nat} (ha : a < r) (hi : i < r) (hne : a ≠ i) (x : Fp.F) (w : World) (hc : c ≤ 1000)
    (h : OwnM w B (.slice (some ⟨g, 0, none⟩) r cap) G C (Mx.matl r c f)) :
    Calls Try.prog 61 #[.slice (some ⟨G a, 0, none⟩) c (C a), .slice (some ⟨G i, 0, none⟩) c (C i), .int .i64 (x.val : Int)] w fun e w' =>
      e = .returned (.tuple #[]) ∧ OwnM w' B (.slice (some ⟨g, 0, none⟩) r cap) G C (Mx.matl r c (less f a i x)) ∧ Only G r w w' := by
  have HO := Lib.hid h
  clear h
  obtain ⟨xv, hxv⟩ : ∃ xv, xv = (x.val : Int) := ⟨_, rfl⟩
  rw [← hxv]
  have HX := Lib.hid hxv
  have hxb : 0 ≤ xv ∧ xv ≤ 9972 := by rw [hxv]; exact gval x
  clear hxv
  go_enter Try.func61, Try.ntmps61
  go_wp2_with fail
  go_loopw [10] (fun u wr => ∃ k : Nat, k ≤ c ∧ u = .int .i64 (k : Int) ∧ OwnM wr B (.slice (some ⟨g, 0, none⟩) r cap) G C (Mx.tab r c fun p q => if p = a ∧ q < k then ((f a q - x * f i q).val : Int) else ((f p q).val : Int)) ∧ Only G r w wr) (fun u _ => c - (intOf u).toNat)
  case atStart => exact ⟨0, Nat.zero_le _, rfl, HO.out.ext (fun p q _ _ => by rw [if_neg (by omega)]), Only.refl _ _ _⟩
  case round =>
    obtain ⟨k, hk, rfl, ho, hon⟩ := hrel
    by_cases hlt : k < c
    · have y1 := ho.weak.el hi hlt
      have y2 := ho.weak.el ha hlt
      have y3 := ho.weak.free ha k
      rw [if_neg (by omega)] at y1
      rw [if_neg (by omega)] at y2
      have HP := Lib.hid ho
      have HN := Lib.hid hon
      have hm := less_mod (f a k) x (f i k)
      have hb := less_bound x (f i k)
      have hb2 := gval (f a k)
      rw [← HX.out] at hm hb
      obtain ⟨z, hz⟩ : ∃ z, z = ((f a k - x * f i k).val : Int) := ⟨_, rfl⟩
      rw [← hz] at hm
      have HZ := Lib.hid hz
      generalize ((f a k).val : Int) = u0 at *
      generalize ((f i k).val : Int) = v at *
      have hws : IntKind.i64.wrap (9973 - xv) = 9973 - xv := IntWalk.i64_in _ (by omega)
      have hwm : IntKind.i64.wrap ((9973 - xv) * v) = (9973 - xv) * v := IntWalk.i64_in _ (by omega)
      have hwa : IntKind.i64.wrap (u0 + (9973 - xv) * v) = u0 + (9973 - xv) * v := IntWalk.i64_in _ (by omega)
      clear ho hon hz hb hb2
      go_wp2_with fail
      go_roundw
      case rel =>
        refine ⟨k + 1, by omega, by go_num, (HP.out.put ha k z).ext (fun p q hp hq => ?_), HN.out.put ha k _⟩
        by_cases e : p = a ∧ q = k
        · rw [if_pos e, if_pos (by omega), HZ.out, e.2]
        · rw [if_neg e]
          by_cases e2 : p = a ∧ q < k
          · rw [if_pos e2, if_pos (by omega)]
          · rw [if_neg e2, if_neg (by omega)]
      case measure => simp [intOf]; omega
    · obtain rfl : k = c := by omega
      have HP := Lib.hid ho
      have HN := Lib.hid hon
      clear ho hon
      go_wp2_with fail
      go_end0
      refine ⟨rfl, HP.out.ext (fun p q hp hq => ?_), HN.out⟩
      unfold less
      by_cases e : p = a
      · rw [if_pos ⟨e, hq⟩, if_pos e]
      · rw [if_neg (fun h => e h.1), if_neg e]

set_option maxRecDepth 100000 in
set_option maxHeartbeats 1600000 in
theorem below_any (A : Option Addr) {r c d : Nat} {f : Nat → Nat → Fp.F} {i j : Nat} (hi : i ≤ r) (hj : j < c) (w : World) (hr : r ≤ 1000) (hc : c ≤ 1000)
    (h : LiesM w A (Mx.matl r c f)) :
    Calls Try.prog 48 #[.slice A r d, .int .i64 (i : Int), .int .i64 (j : Int)] w fun e w' =>
      ∃ k : Nat, First r f i j k ∧ e = .returned (.int .i64 (k : Int)) ∧ w = w' := by
  have HO := Lib.hid h
  clear h
  go_enter Try.func48, Try.ntmps48
  go_wp2_with fail
  go_loop [1] (fun u => ∃ k : Nat, i ≤ k ∧ k ≤ r ∧ u = .int .i64 (k : Int) ∧ ∀ t, i ≤ t → t < k → f t j = 0) (fun u => r - (intOf u).toNat)
  case atStart => exact ⟨i, Nat.le_refl _, hi, rfl, fun t h1 h2 => absurd h1 (by omega)⟩
  case round =>
    obtain ⟨k, hik, hk, rfl, hz⟩ := hrel
    have HZ := Lib.hid hz
    clear hz
    by_cases hlt : k < r
    · obtain ⟨ad, A1, d1, rfl, _, x1, _, l1⟩ := HO.out.row hlt
      obtain ⟨ad1, rfl, _, x2⟩ := l1.el hj
      clear l1
      by_cases h0 : f k j = 0
      · have HZ2 := Lib.hid (show ∀ t, i ≤ t → t < k + 1 → f t j = 0 from fun t h1 h2 => by
          by_cases e : t = k
          · rw [e]; exact h0
          · exact HZ.out t h1 (by omega))
        rw [h0, show (((0 : Fp.F).val : Nat) : Int) = 0 from rfl] at x2
        clear h0
        go_wp2_with fail
        go_round
        case rel => exact ⟨k + 1, by omega, by omega, by go_num, HZ2.out⟩
        case measure => simp [intOf]; omega
      · have HN := Lib.hid (show k < r → f k j ≠ 0 from fun _ => h0)
        have hv := Fp.ne_val h0
        have hv2 : (((f k j).val : Int) == 0) = false := by rw [beq_eq_false_iff_ne]; omega
        generalize ((f k j).val : Int) = z at *
        clear h0 hv
        go_wp2_with fail
        go_ret
        exact ⟨k, ⟨hik, hk, HZ.out, HN.out⟩, rfl, rfl⟩
    · obtain rfl : k = r := by omega
      go_wp2_with fail
      go_ret
      exact ⟨k, ⟨hik, hk, HZ.out, fun h => absurd h (by omega)⟩, rfl, rfl⟩

set_option maxRecDepth 100000 in
/-- copy(row, l): a row of noughts just made, and a slice of as many numbers. -/
theorem copy_row (w1 : World) (g n c : Nat) (A : Option Addr) (l : List Int) (ty : TypeId) (hr : Row w1 g (List.replicate n 0)) (hl : Lies w1 A l) (hn : n = l.length) :
    ∃ w2, (Builtin.copy_ #[22, 22] ty #[.slice (some ⟨g, 0, none⟩) n n, .slice A n c]).run Try.prog w1 = .ok (goInt n) w2 ∧
      Row w2 g l ∧ (∀ B w0, Below B w0 w1 → B ≤ g → Below B w0 w2) ∧ ∀ k, k ≠ g → w2.heap[k]? = w1.heap[k]? := by
  obtain ⟨i0, hi, hz0, hz1, hz2⟩ := info_parts int_info
  have hsz : (Try.prog.info? 3).map (·.size) = some 1 := by rw [hi]; simp [hz1]
  subst hn
  by_cases h0 : l.length = 0
  · obtain rfl : l = [] := List.eq_nil_of_length_eq_zero h0
    exact ⟨w1, run_copy_none w1 _ _ ty 3 _ A 0 0 0 c Try.underlying22 hsz (by simp), hr, fun _ _ h _ => h, fun _ _ => rfl⟩
  · obtain ⟨ad, rfl, _, _⟩ := hl 0 (by omega)
    have hlen : (ints l).length = l.length := by rw [ints, List.length_map]
    have hrun := run_copy_row (P := Try.prog) w1 22 22 ty 3 g 0 l.length l.length ad l.length c _ 3 (ints l) Try.underlying22 hsz hr (by rw [hlen]; exact (Nat.min_self _).symm)
      (fun j v hj => by
        have hj' : j < l.length := by
          rcases Nat.lt_or_ge j l.length with hlt | hge
          · exact hlt
          · rw [List.getElem?_eq_none (by simpa using hge)] at hj; cases hj
        obtain ⟨ad', e, _, hc⟩ := hl j hj'
        obtain rfl := Option.some.inj e
        rw [hc, ← hj]
        simp [hj']) (by rw [hlen]; simp) (fun v hv => by simp at hv; obtain ⟨y, _, rfl⟩ := hv; rfl)
    rw [hlen] at hrun
    refine ⟨_, hrun, ?_, fun B w0 hb hB => below_setRow hb hB _, fun k hk => setRow_other w1 g k _ hk⟩
    unfold Row
    rw [setRow_heap w1 g _ _ 3 (0, 0) hr]
    congr 3
    simp [ints]

set_option maxRecDepth 100000 in
set_option maxHeartbeats 1600000 in
theorem clone_any (A : Option Addr) (r c d : Nat) (f : Nat → Nat → Fp.F) (w : World) (hr : r ≤ 1000) (hc : c ≤ 1000) (h : LiesM w A (Mx.matl r c f)) :
    Calls Try.prog 47 #[.slice A r d] w fun e w' =>
      ∃ G, e = .returned (.slice (some ⟨w.heap.size, 0, none⟩) r r) ∧ Grid w' w.heap.size G r c (fun i j => ((f i j).val : Int)) ∧ Kp w w' := by
  have HA := Lib.hid h
  clear h
  obtain ⟨i0, hi, hz0, hz1, hz2⟩ := info_parts int_info
  obtain ⟨j0, hj, hy0, hy1, hy2⟩ := info_parts ints_info
  go_enter Try.func47, Try.ntmps47
  go_wp2_with (at_make; refine wpList_make_full _ rfl _ _ 24 rfl w.heap.size 22 j0 (.slice none 0 0) 1 Try.underlying24 hj hy0 hy1 _ _ _ _ r rfl rfl rfl rfl (by rw [hy2]; omega) (by unfold maxLen; omega) (Nat.le_refl _) ?_; intro w1 hown hgrow)
  have hpart : PartF w1 w.heap.size (fun _ => 0) r c 0 (fun i j => ((f i j).val : Int)) := PartF.start _ hown
  have hkp : Kp w w1 := (Kp.rfl' w).grown hgrow (by simp) (fun k hk => by cases hk)
  clear hown hgrow hj hy0 hy1 hy2
  obtain ⟨g, hg⟩ : ∃ g, g = w.heap.size := ⟨_, rfl⟩
  rw [← hg] at hpart ⊢
  have HG := Lib.hid hg
  clear hg
  go_loopw [11] (fun i wr => ∃ (k : Nat) (G : Nat → Nat), k ≤ r ∧ i = .int .i64 (k : Int) ∧ PartF wr g G r c k (fun i j => ((f i j).val : Int)) ∧ Kp w wr) (fun i _ => r - (intOf i).toNat)
  case atStart => exact ⟨0, _, Nat.zero_le _, rfl, hpart, hkp⟩
  case round =>
    clear hpart hkp
    obtain ⟨k, G, hk, rfl, hp, hkp⟩ := hrel
    by_cases hlt : k < r
    · have HP := Lib.hid hp
      have HK := Lib.hid hkp
      obtain ⟨ad, A1, d1, rfl, _, x1, _, l1⟩ := (HA.out.keep hkp).row hlt
      have L1 := Lib.hid l1
      clear hp hkp l1
      go_wp2_with (at_make; refine wpList_make_full _ rfl _ _ 22 rfl wr.heap.size 3 i0 (.int .i64 0) 1 Try.underlying22 hi hz0 hz1 _ _ _ _ c rfl rfl rfl rfl (by rw [hz2]; omega) (by unfold maxLen; omega) (Nat.le_refl _) ?_; intro w2 hown hgrow; have hkp2 : Kp wr w2 := (Kp.rfl' wr).grown hgrow (by simp) (fun k hk => by cases hk); have hcell := (HP.out.keep hkp2).cell (Nat.le_refl k) hlt; have hfree := (HP.out.keep hkp2).free k; have hcell3 : (w2.setCell ⟨g, k, none⟩ (.slice (some ⟨wr.heap.size, 0, none⟩) c c)).cell? ⟨g, k, none⟩ = some (.slice (some ⟨wr.heap.size, 0, none⟩) c c) := World.cell?_setCell_same' _ _ _ (by rw [hcell]; rfl))
      have HPL := HP.out.lt
      have hrow : Row (w2.setCell ⟨g, k, none⟩ (.slice (some ⟨wr.heap.size, 0, none⟩) c c)) wr.heap.size (List.replicate c 0) := (row_made hown).far (by show wr.heap.size ≠ g; omega) _
      have hl3 : Lies (w2.setCell ⟨g, k, none⟩ (.slice (some ⟨wr.heap.size, 0, none⟩) c c)) A1 (Mx.row c fun j => ((f k j).val : Int)) := by
        obtain ⟨_, A1', d1', e1, _, x1', _, l1'⟩ := (HA.out.keep (((HK.out.trans hkp2)).put (p := ⟨g, k, none⟩) (by show w.heap.size ≤ g; rw [HG.out]; exact Nat.le_refl _) (.slice (some ⟨wr.heap.size, 0, none⟩) c c))).row hlt
        obtain rfl := Option.some.inj e1
        have hh := (((HK.out.trans hkp2)).put (p := ⟨g, k, none⟩) (by show w.heap.size ≤ g; rw [HG.out]; exact Nat.le_refl _) (.slice (some ⟨wr.heap.size, 0, none⟩) c c))
        obtain ⟨_, A0, d0, e0, hl0, x0, _, l0⟩ := HA.out.row hlt
        obtain rfl := Option.some.inj e0
        have c1 := (HK.out.cell (p := ad.add k) (by rw [block_add]; exact hl0)).symm.trans x1
        have c2 := (hh.cell (p := ad.add k) (by rw [block_add]; exact hl0)).symm.trans x1'
        rw [c1] at c2
        cases c2
        exact l1'
      obtain ⟨w3, hrun, hr3, hb3, hn3⟩ := copy_row _ wr.heap.size c d1 A1 _ 3 hrow hl3 (Mx.len_row _ _).symm
      rw [hrun]
      have HR3 := Lib.hid hr3
      have HN3 := Lib.hid hn3
      have HB3 := Lib.hid (hb3 _ _ (((HK.out.trans hkp2)).put (p := ⟨g, k, none⟩) (by show w.heap.size ≤ g; rw [HG.out]; exact Nat.le_refl _) (.slice (some ⟨wr.heap.size, 0, none⟩) c c)) HK.out.size)
      have HK2 := Lib.hid hkp2
      clear hrun hr3 hb3 hn3 hl3 hrow hkp2 hown hgrow hcell hfree hcell3
      go_wp2_with fail
      go_roundw
      case rel => exact ⟨k + 1, _, by omega, by go_num, HP.out.step hlt HK2.out HR3.out (fun b hb => HN3.out b hb), HB3.out⟩
      case measure => simp [intOf]; omega
    · obtain rfl : k = r := by omega
      have HP := Lib.hid hp
      have HK := Lib.hid hkp
      clear hp hkp
      obtain rfl := HG.out
      go_wp2_with fail
      go_ret
      exact ⟨rfl, ⟨_, HP.out.done⟩, HK.out⟩
end Go.Proofs.Ytldkamhknaflbaa

/- Contracts of package euclid: Gcd and Bezout within and outside of their bounds. -/
namespace Go.Proofs.Ytldkamhknaflbaa
open Go.ChangeShapes Go.WideShapes Go.ChangeAt Go.RowKit
set_option linter.unusedVariables false

/-- The error that the program gives for a number out of its range. -/
abbrev errRange : Value := .iface 56 (.int .i64 1)

set_option maxHeartbeats 800000 in
theorem gcd_in (a b : Int) (w : World) (h1 : -1000000 ≤ a) (h2 : a ≤ 1000000) (h3 : -1000000 ≤ b) (h4 : b ≤ 1000000) :
    Calls Try.prog 63 #[.int .i64 a, .int .i64 b] w fun e w' => e = .returned (.tuple #[.int .i64 (Int.gcd a b : Int), .nilIface]) ∧ Drew w w' := by
  go_enter Try.func63, Try.ntmps63
  go_wp2_with (first
    | (go_at_call 68; refine (allowed_yes _ _ (by omega) (by omega)).mono ?_; rintro e w' ⟨rfl, rfl⟩)
    | (go_at_call 67; refine (size_any _ _ (by omega) (by omega)).mono ?_; rintro e w' ⟨rfl, rfl⟩)
    | (go_at_call 69; refine (divisor_any _ _ _ (by omega) (by omega)).mono ?_; rintro e w' ⟨rfl, hd⟩))
  go_ret2
  exact ⟨rfl, hd⟩

set_option maxHeartbeats 800000 in
theorem gcd_out (a b : Int) (w : World) (h : ¬ (-1000000 ≤ a ∧ a ≤ 1000000 ∧ -1000000 ≤ b ∧ b ≤ 1000000)) :
    Calls Try.prog 63 #[.int .i64 a, .int .i64 b] w fun e w' => e = .returned (.tuple #[.int .i64 0, errRange]) ∧ Drew w w' := by
  by_cases ha : -1000000 ≤ a ∧ a ≤ 1000000
  · have hb : b < -1000000 ∨ 1000000 < b := by omega
    have H := Lib.hid hb
    clear h hb
    go_enter Try.func63, Try.ntmps63
    go_wp2_with fail
    refine (allowed_yes _ _ (by omega) (by omega)).mono ?_; rintro e w' ⟨rfl, rfl⟩
    go_wp2_with fail
    refine (allowed_no _ _ H.out).mono ?_; rintro e w' ⟨rfl, rfl⟩
    go_wp2_with fail
    go_ret2
    exact ⟨rfl, Drew.refl _⟩
  · have hb : a < -1000000 ∨ 1000000 < a := by omega
    have H := Lib.hid hb
    clear h hb ha
    go_enter Try.func63, Try.ntmps63
    go_wp2_with fail
    refine (allowed_no _ _ H.out).mono ?_; rintro e w' ⟨rfl, rfl⟩
    go_wp2_with fail
    go_ret2
    exact ⟨rfl, Drew.refl _⟩

/-- Bezout's answer: some x and y that are Bezout's numbers. -/
def SomeBez (a b : Int) (w : World) (e : Ending) (w' : World) : Prop :=
  ∃ x y : Int, Num.BezOk a b x y ∧ e = .returned (.tuple #[.int .i64 (Int.gcd a b : Int), .int .i64 x, .int .i64 y, .nilIface]) ∧ Drew w w'

set_option maxHeartbeats 800000 in
theorem bezout_out (a b : Int) (w : World) (h : ¬ (-1000000 ≤ a ∧ a ≤ 1000000 ∧ -1000000 ≤ b ∧ b ≤ 1000000)) :
    Calls Try.prog 59 #[.int .i64 a, .int .i64 b] w fun e w' => e = .returned (.tuple #[.int .i64 0, .int .i64 0, .int .i64 0, errRange]) ∧ Drew w w' := by
  have H := Lib.hid h
  clear h
  go_enter Try.func59, Try.ntmps59
  go_wp2_with fail
  refine (gcd_out _ _ _ H.out).mono ?_; rintro e w' ⟨rfl, hd⟩
  go_wp2_with fail
  refine bodyPost_ret (v := .tuple #[.int .i64 0, .int .i64 0, .int .i64 0, errRange]) (by simp [results, Try.results59, go_sem]) rfl ⟨rfl, hd⟩

set_option maxHeartbeats 800000 in
theorem bezout_zero (a : Int) (w : World) (h1 : -1000000 ≤ a) (h2 : a ≤ 1000000) :
    Calls Try.prog 59 #[.int .i64 a, .int .i64 0] w fun e w' => SomeBez a 0 w e w' := by
  go_enter Try.func59, Try.ntmps59
  go_wp2_with fail
  refine (gcd_in _ _ _ (by omega) (by omega) (by omega) (by omega)).mono ?_; rintro e w' ⟨rfl, hd⟩
  go_wp2_with fail
  refine (sign_any _ _).mono ?_; rintro e w'' ⟨rfl, rfl⟩
  go_wp2_with fail
  refine bodyPost_ret (v := .tuple #[.int .i64 (Int.gcd a 0 : Int), .int .i64 a.sign, .int .i64 0, .nilIface]) (by simp [results, Try.results59, go_sem]) rfl ⟨_, _, Num.bez_zero a, rfl, hd⟩

set_option maxHeartbeats 1600000 in
theorem bezout_in (a b : Int) (w : World) (h1 : -1000000 ≤ a) (h2 : a ≤ 1000000) (h3 : -1000000 ≤ b) (h4 : b ≤ 1000000) (h0 : b ≠ 0) :
    Calls Try.prog 59 #[.int .i64 a, .int .i64 b] w fun e w' => SomeBez a b w e w' := by
  have hne : (b == 0) = false := by rw [beq_eq_false_iff_ne]; exact h0
  have hgp := Num.gcd_pos a b h0
  have hgs := Num.gcd_small a b h0
  have hgd : Int.gcd a b ∣ b.natAbs := by rw [Int.gcd_eq_natAbs_gcd_natAbs]; exact Nat.gcd_dvd_right _ _
  have hms := Num.div_small b _ hgp hgd h0 h3 h4
  clear hgd
  go_enter Try.func59, Try.ntmps59
  go_wp2_with fail
  refine (gcd_in _ _ _ (by omega) (by omega) (by omega) (by omega)).mono ?_; rintro e w' ⟨rfl, hd⟩
  go_wp2_with fail
  refine (factor_any _ _ _ (by omega) (by omega) (by omega) (by omega) h0).mono ?_
  rintro e w1 ⟨x0, hx0, rfl, hd1⟩
  go_wp2_with fail
  refine (size_any _ _ (by omega) (by omega)).mono ?_; rintro e w'' ⟨rfl, rfl⟩
  go_wp2_with fail
  have hxb := hx0.2
  refine (residue_any _ _ _ (by omega) (by omega) (by omega) (by omega)).mono ?_; rintro e w'' ⟨rfl, rfl⟩
  have y0 := Int.emod_nonneg x0 (show (b.natAbs : Int) / (Int.gcd a b : Int) ≠ 0 by omega)
  have y1 := Int.emod_lt_of_pos x0 (show 0 < (b.natAbs : Int) / (Int.gcd a b : Int) by omega)
  generalize hx : x0 % ((b.natAbs : Int) / (Int.gcd a b : Int)) = x at *
  have HX := Lib.hid hx
  have HB := Lib.hid (Num.bez_of a b x0 h0 hx0)
  obtain ⟨s1, s2⟩ := Num.bez_small a b x (Int.gcd a b) h1 h2 (by omega) y0 (by omega)
  clear hx hxb hx0
  go_wp2_with fail
  go_quiet (fail)
  go_wp2_with fail
  refine bodyPost_ret (v := .tuple #[.int .i64 (Int.gcd a b : Int), .int .i64 x, .int .i64 (((Int.gcd a b : Int) - a * x).tdiv b), .nilIface]) (by simp [results, Try.results59, go_sem]) rfl ⟨x, _, HB.out x _ (by rw [← HX.out]; simp) rfl, rfl, (hd.trans hd1).more _⟩

theorem bezout_any (a b : Int) (w : World) (h1 : -1000000 ≤ a) (h2 : a ≤ 1000000) (h3 : -1000000 ≤ b) (h4 : b ≤ 1000000) :
    Calls Try.prog 59 #[.int .i64 a, .int .i64 b] w fun e w' => SomeBez a b w e w' := by
  by_cases h : b = 0
  · subst h; exact bezout_zero a w h1 h2
  · exact bezout_in a b w h1 h2 h3 h4 h

end Go.Proofs.Ytldkamhknaflbaa

/- Contracts of package field: element, times, Add, Mul, Div, Pow, within and outside of their bounds. -/
namespace Go.Proofs.Ytldkamhknaflbaa
open Go.ChangeShapes Go.WideShapes Go.ChangeAt Go.RowKit
set_option linter.unusedVariables false

/-- The error that the program gives where there is none. -/
abbrev errNone : Value := .iface 56 (.int .i64 5)

/-- An element of the field as the program has it. -/
abbrev el (a : Fp.F) : Value := .int .i64 (a.val : Int)

theorem element_any (n : Int) (w : World) (b : Bool) (hb : (decide (0 ≤ n) && decide (n ≤ 9972)) = b) :
    Calls Try.prog 58 #[.int .i64 n] w fun e w' => e = .returned (.bool b) ∧ w = w' := by
  have H := Lib.hid hb
  clear hb
  by_cases h1 : 0 ≤ n
  · go_enter Try.func58, Try.ntmps58
    go_wp2
    go_ret
    exact ⟨ret_bool (by rw [← H.out, decide_eq_true h1, Bool.true_and]; exact decide_eq_decide.2 (by omega)), rfl⟩
  · go_enter Try.func58, Try.ntmps58
    go_wp2
    go_ret
    exact ⟨ret_bool (by rw [← H.out, decide_eq_false (show ¬ 0 ≤ n by omega), Bool.false_and]), rfl⟩

theorem element_el (a : Fp.F) (w : World) :
    Calls Try.prog 58 #[el a] w fun e w' => e = .returned (.bool true) ∧ w = w' :=
  element_any _ w true (by have := Fp.val_bound a; simp; omega)

theorem prod_bound (a b : Fp.F) : 0 ≤ (a.val : Int) * (b.val : Int) ∧ (a.val : Int) * (b.val : Int) ≤ 99440784 := by
  have h1 := Fp.val_bound a
  have h2 := Fp.val_bound b
  have := Int.mul_le_mul h1.2 h2.2 h2.1 (by omega)
  exact ⟨Int.mul_nonneg h1.1 h2.1, by omega⟩

theorem times_el (a b : Fp.F) (w : World) :
    Calls Try.prog 60 #[el a, el b] w fun e w' => e = .returned (el (a * b)) ∧ w = w' := by
  have E := Lib.hid (Fp.mul_val a b)
  obtain ⟨p1, p2⟩ := prod_bound a b
  have h1 := Fp.val_bound a
  have h2 := Fp.val_bound b
  unfold el
  generalize (a.val : Int) = x at *
  generalize (b.val : Int) = y at *
  go_enter Try.func60, Try.ntmps60
  go_wp2
  go_ret
  exact ⟨ret_int (by rw [E.out]), rfl⟩

/-- Both are elements, or one is none. -/
abbrev Both (a b : Int) : Prop := (0 ≤ a ∧ a ≤ 9972) ∧ (0 ≤ b ∧ b ≤ 9972)



theorem inv_unique {b x : Fp.F} (hb : b ≠ 0) (h : x * b = 1) : x = Fp.inv b := by
  have h2 := Fp.inv_mul hb
  generalize Fp.inv b = i at *
  exact Fp.mul_cancel hb (h.trans h2.symm)

/-- Bezout's number of an element and the prime is what undoes the element. -/
theorem bez_inv (b : Fp.F) (hb : b ≠ 0) (x y : Int) (h : Num.BezOk (b.val : Int) 9973 x y) : x = ((Fp.inv b).val : Int) := by
  obtain ⟨e, k, _⟩ := h
  have hg : Int.gcd (b.val : Int) 9973 = 1 := Fp.coprime b.val (Fp.ne_val hb) b.isLt
  have k := k (by decide)
  rw [hg] at e k
  have k2 : x < 9973 := by
    have : (((9973 : Int).natAbs / 1 : Nat) : Int) = 9973 := rfl
    omega
  have hx := Fp.ofInt_of x (by omega) (by omega)
  have hm : Fp.ofInt x * b = 1 := by
    refine Fp.val_inj ?_
    rw [Fp.mul_val, hx]
    have : (((1 : Fp.F).val : Nat) : Int) = 1 := rfl
    rw [this, Int.mul_comm]
    omega
  rw [← hx, inv_unique hb hm]

theorem div_el (a b : Fp.F) (w : World) (hb : b ≠ 0) :
    Calls Try.prog 44 #[el a, el b] w fun e w' => e = .returned (.tuple #[el (a * Fp.inv b), .nilIface]) ∧ Drew w w' := by
  have H1 := Lib.hid (element_el a)
  have H2 := Lib.hid (element_el b)
  have H3 := Lib.hid (times_el a (Fp.inv b))
  have hv := Fp.ne_val hb
  have h0 : (b.val : Int) ≠ 0 := by omega
  have hl := Fp.val_bound b
  have hne : ((b.val : Int) == 0) = false := by rw [beq_eq_false_iff_ne]; exact h0
  have HB := Lib.hid (bez_inv b hb)
  have HG := Lib.hid (show Int.gcd (b.val : Int) 9973 = 1 from Fp.coprime b.val hv b.isLt)
  clear hv
  unfold el at *
  generalize ((a * Fp.inv b).val : Int) = z at *
  generalize ((Fp.inv b).val : Int) = i at *
  generalize (a.val : Int) = x at *
  generalize (b.val : Int) = y at *
  go_enter Try.func44, Try.ntmps44
  go_wp2_with fail
  refine (H1.out _).mono ?_; rintro e w' ⟨rfl, rfl⟩
  go_wp2_with fail
  refine (H2.out _).mono ?_; rintro e w' ⟨rfl, rfl⟩
  go_wp2_with fail
  refine (bezout_any _ _ _ (by omega) (by omega) (by omega) (by omega)).mono ?_
  rintro e w1 ⟨x', y', hxy, rfl, hd⟩
  obtain rfl := HB.out _ _ hxy
  clear hxy
  go_wp2_with fail
  refine (H3.out _).mono ?_; rintro e w' ⟨rfl, rfl⟩
  go_wp2_with fail
  go_ret2
  exact ⟨rfl, hd⟩

theorem div_zero (a : Fp.F) (w : World) :
    Calls Try.prog 44 #[el a, .int .i64 0] w fun e w' => e = .returned (.tuple #[.int .i64 0, errNone]) ∧ w = w' := by
  have H1 := Lib.hid (element_el a)
  unfold el at *
  generalize (a.val : Int) = x at *
  go_enter Try.func44, Try.ntmps44
  go_wp2_with fail
  refine (H1.out _).mono ?_; rintro e w' ⟨rfl, rfl⟩
  go_wp2_with fail
  refine (element_any 0 _ true (by decide)).mono ?_; rintro e w' ⟨rfl, rfl⟩
  go_wp2_with fail
  go_ret2
  exact ⟨rfl, rfl⟩

theorem div_out (a b : Int) (w : World) (h : ¬ Both a b) :
    Calls Try.prog 44 #[.int .i64 a, .int .i64 b] w fun e w' => e = .returned (.tuple #[.int .i64 0, errRange]) ∧ w = w' := by
  by_cases ha : 0 ≤ a ∧ a ≤ 9972
  · have HA := Lib.hid (show (decide (0 ≤ a) && decide (a ≤ 9972)) = true by simp; omega)
    have HB := Lib.hid (show (decide (0 ≤ b) && decide (b ≤ 9972)) = false by simp; omega)
    clear h ha
    go_enter Try.func44, Try.ntmps44
    go_wp2_with fail
    refine (element_any _ _ _ HA.out).mono ?_; rintro e w' ⟨rfl, rfl⟩
    go_wp2_with fail
    refine (element_any _ _ _ HB.out).mono ?_; rintro e w' ⟨rfl, rfl⟩
    go_wp2_with fail
    go_ret2
    exact ⟨rfl, rfl⟩
  · have HA := Lib.hid (show (decide (0 ≤ a) && decide (a ≤ 9972)) = false by simp; omega)
    clear h ha
    go_enter Try.func44, Try.ntmps44
    go_wp2_with fail
    refine (element_any _ _ _ HA.out).mono ?_; rintro e w' ⟨rfl, rfl⟩
    go_wp2_with fail
    go_ret2
    exact ⟨rfl, rfl⟩


end Go.Proofs.Ytldkamhknaflbaa

/- Contracts of package gauss, second part: clean. -/
namespace Go.Proofs.Ytldkamhknaflbaa
open Go.ChangeShapes Go.WideShapes Go.ChangeAt Go.RowKit
set_option linter.unusedVariables false

set_option maxRecDepth 100000 in
set_option maxHeartbeats 3200000 in
theorem clean_any {B g cap : Nat} {G C : Nat → Nat} {r c : Nat} {f : Nat → Nat → Fp.F} {i j : Nat} (hi : i < r) (hj : j < c) (h0 : f i j ≠ 0) (w : World) (hr : r ≤ 1000) (hc : c ≤ 1000)
    (h : OwnM w B (.slice (some ⟨g, 0, none⟩) r cap) G C (Mx.matl r c f)) :
    Calls Try.prog 49 #[.slice (some ⟨g, 0, none⟩) r cap, .int .i64 (i : Int), .int .i64 (j : Int)] w fun e w' =>
      e = .returned .nilIface ∧ OwnM w' B (.slice (some ⟨g, 0, none⟩) r cap) G C (Mx.matl r c (cln f i j)) ∧ Only G r w w' := by
  have y1 := h.weak.head hi
  have y2 := h.weak.el hi hj
  have DV := Lib.hid (div_el 1 (f i j) w h0)
  have HO := Lib.hid h
  unfold el at DV
  rw [show (1 : Fp.F) * Fp.inv (f i j) = Fp.inv (f i j) by grind, show (((1 : Fp.F).val : Nat) : Int) = 1 from rfl] at DV
  obtain ⟨iv, hiv⟩ : ∃ iv, iv = ((Fp.inv (f i j)).val : Int) := ⟨_, rfl⟩
  rw [← hiv] at DV
  have HIV := Lib.hid hiv
  generalize ((f i j).val : Int) = pv at *
  clear h hiv
  go_enter Try.func49, Try.ntmps49
  go_wp2_with fail
  refine (DV.out).mono ?_; rintro e w1 ⟨rfl, hd⟩
  have HO1 := Lib.hid (HO.out.kp hd.kp)
  have HN1 := Lib.hid (Only.of (G := G) (r := r) hd.kp)
  have y3 := HO1.out.weak.head hi
  clear hd y1 y2
  go_wp2_with fail
  go_loopw [31] (fun u wr => ∃ k : Nat, k ≤ c ∧ u = .int .i64 (k : Int) ∧ OwnM wr B (.slice (some ⟨g, 0, none⟩) r cap) G C (Mx.tab r c fun p q => if p = i ∧ q < k then ((f i q * Fp.inv (f i j)).val : Int) else ((f p q).val : Int)) ∧ Only G r w wr) (fun u _ => c - (intOf u).toNat)
  case atStart => exact ⟨0, Nat.zero_le _, rfl, HO1.out.ext (fun p q _ _ => by rw [if_neg (by omega)]), HN1.out⟩
  case round =>
    obtain ⟨k, hk, rfl, ho, hon⟩ := hrel
    by_cases hlt : k < c
    · have z1 := ho.weak.head hi
      have z2 := ho.weak.el hi hlt
      have z3 := ho.weak.free hi k
      rw [if_neg (by omega)] at z2
      have HP := Lib.hid ho
      have HN := Lib.hid hon
      have hm := times_mod (f i k) (Fp.inv (f i j))
      have hb := times_bound (f i k) (Fp.inv (f i j))
      rw [← HIV.out] at hm hb
      obtain ⟨z, hz⟩ : ∃ z, z = ((f i k * Fp.inv (f i j)).val : Int) := ⟨_, rfl⟩
      rw [← hz] at hm
      have HZ := Lib.hid hz
      generalize ((f i k).val : Int) = v at *
      have hwm : IntKind.i64.wrap (v * iv) = v * iv := IntWalk.i64_in _ (by omega)
      clear ho hon hz hb y3
      go_wp2_with fail
      go_still_tail 16, (by kernel_rfl)
      change wpList _ _ _ _ _ wr.drew
      go_wp2_with fail
      go_roundw
      case rel =>
        refine ⟨k + 1, by omega, by go_num, ((HP.out.drewN 1).put hi k z).ext (fun p q hp hq => ?_), (HN.out.drewN 1).put hi k _⟩
        by_cases e : p = i ∧ q = k
        · rw [if_pos e, if_pos (by omega), HZ.out, e.2]
        · rw [if_neg e]
          by_cases e2 : p = i ∧ q < k
          · rw [if_pos e2, if_pos (by omega)]
          · rw [if_neg e2, if_neg (by omega)]
      case measure => simp [intOf]; omega
    · obtain rfl : k = c := by omega
      have HP := Lib.hid (ho.ext (f' := fun p q => ((clnTo f i j 0 p q).val : Int)) (fun p q hp hq => by
        unfold clnTo
        by_cases e : p = i
        · rw [if_pos ⟨e, hq⟩, if_pos e]
        · rw [if_neg (fun h => e h.1), if_neg e, if_neg (by omega)]))
      have HN := Lib.hid hon
      clear ho hon y3
      go_wp2_with fail
      go_loopw [53] (fun u wr => ∃ k' : Nat, k' ≤ r ∧ u = .int .i64 (k' : Int) ∧ OwnM wr B (.slice (some ⟨g, 0, none⟩) r cap) G C (Mx.matl r k (clnTo f i j k')) ∧ Only G r w wr) (fun u _ => r - (intOf u).toNat)
      case atStart => exact ⟨0, Nat.zero_le _, rfl, HP.out, HN.out⟩
      case round =>
        obtain ⟨t, ht, rfl, ho, hon⟩ := hrel
        obtain ⟨wo, hwo⟩ : ∃ x, x = wr := ⟨_, rfl⟩
        subst hwo
        by_cases hlt2 : t < r
        · have z1 := ho.weak.head hlt2
          have z2 := ho.weak.head hi
          by_cases hti : t = i
          · subst hti
            have e1 : ((t : Int) != (t : Int)) = false := by simp
            have HP := Lib.hid ho
            have HN := Lib.hid hon
            clear ho hon
            go_wp2_with fail
            go_roundw
            case rel => exact ⟨t + 1, by omega, by go_num, HP.out.ext (fun p q _ _ => by rw [clnTo_same]), HN.out⟩
            case measure => simp [intOf]; omega
          · have e1 : ((t : Int) != (i : Int)) = true := by rw [bne_iff_ne]; omega
            have z3 := ho.weak.el hlt2 hj
            rw [show clnTo f i j t t j = f t j by unfold clnTo; rw [if_neg hti, if_neg (by omega)]] at z3
            have SU := Lib.hid (fun w => subtract_any (B := B) (g := g) (cap := cap) (G := G) (C := C) hlt2 hi hti (f t j) w hc (f := clnTo f i j t))
            generalize ((f t j).val : Int) = v at *
            have HP := Lib.hid ho
            have HN := Lib.hid hon
            have HTI := Lib.hid hti
            clear ho hon hti
            go_wp2_with fail
            go_still_tail 9, (by kernel_rfl)
            change wpList _ _ _ _ _ wo.drew
            go_wp2_with fail
            refine (SU.out _ (HP.out.drewN 1)).mono ?_; rintro e w2 ⟨rfl, ho2, hon2⟩
            have HP2 := Lib.hid ho2
            have HN2 := Lib.hid ((HN.out.drewN 1).trans hon2)
            clear ho2 hon2
            go_wp2_with fail
            go_roundw
            case rel => exact ⟨t + 1, by omega, by go_num, HP2.out.ext (fun p q _ _ => by rw [clnTo_next f HTI.out]), HN2.out⟩
            case measure => simp [intOf]; omega
        · obtain rfl : t = r := by omega
          have HP := Lib.hid ho
          have HN := Lib.hid hon
          clear ho hon
          go_wp2_with fail
          go_ret
          refine ⟨rfl, HP.out.ext (fun p q hp hq => ?_), HN.out⟩
          unfold clnTo cln
          by_cases e : p = i
          · rw [if_pos e, if_pos e]
          · rw [if_neg e, if_neg e, if_pos hp]
end Go.Proofs.Ytldkamhknaflbaa

/- Contracts of package mat, first part: zero, identity, checkRow, Check, checkBoth. -/
namespace Go.Proofs.Ytldkamhknaflbaa
open Go.ChangeShapes Go.WideShapes Go.ChangeAt Go.RowKit
set_option linter.unusedVariables false



set_option maxRecDepth 100000 in
set_option maxHeartbeats 800000 in
theorem checkRow_any (A : Option Addr) (l : List Int) (n d c : Nat) (w : World) (ha : Lies w A l) (hn : l.length = n) (hb : c ≤ 1000) :
    Calls Try.prog 55 #[.slice A n d, .int .i64 (c : Int)] w fun e w' => e = .returned (errOf (Mx.rcode 0 9972 c l)) ∧ w = w' := by
  have HA := Lib.hid ha
  have HN := Lib.hid hn
  obtain ⟨v, hv⟩ : ∃ v, v = Mx.rcode 0 9972 c l := ⟨_, rfl⟩
  by_cases hc : n = c
  · subst hc
    have RNG := Lib.hid (fun (k : Nat) (hk : k < n) h2 => hv.trans (Mx.rcode_bad hn (k := k) (by omega) h2))
    have OKS := Lib.hid (fun h2 => hv.trans (Mx.rcode_ok (lo := 0) (hi := 9972) hn h2))
    rw [← hv]
    have e1 : ((n : Int) != (n : Int)) = false := by simp
    clear ha hn hv
    go_enter Try.func55, Try.ntmps55
    go_wp2_with fail
    go_loop [14] (fun i => ∃ k : Nat, k ≤ n ∧ i = .int .i64 (k : Int) ∧ ∀ j, j < k → 0 ≤ l.getD j 0 ∧ l.getD j 0 ≤ 9972) (fun i => n - (intOf i).toNat)
    case atStart => exact ⟨0, Nat.zero_le _, rfl, fun j hj => absurd hj (by omega)⟩
    case round =>
      obtain ⟨k, hk, rfl, hg⟩ := hrel
      have HG := Lib.hid hg
      clear hg
      by_cases hlt : k < n
      · obtain ⟨ad, rfl, _, hcx⟩ := HA.out k (by have := HN.out; omega)
        obtain ⟨x, hx⟩ : ∃ x, x = l.getD k 0 := ⟨_, rfl⟩
        rw [← hx] at hcx
        by_cases x0 : x < 0
        · have E := Lib.hid (RNG.out k hlt (by rw [← hx]; omega))
          clear hx
          go_wp2_with fail
          go_ret
          exact ⟨by rw [E.out]; rfl, rfl⟩
        · by_cases x1 : 9973 ≤ x
          · have E := Lib.hid (RNG.out k hlt (by rw [← hx]; omega))
            clear hx
            go_wp2_with fail
            go_ret
            exact ⟨by rw [E.out]; rfl, rfl⟩
          · have GG := Lib.hid (show ∀ j, j < k + 1 → 0 ≤ l.getD j 0 ∧ l.getD j 0 ≤ 9972 from fun j hj => by
              by_cases e : j = k
              · subst e; rw [← hx]; omega
              · exact HG.out j (by omega))
            clear hx
            go_wp2_with fail
            go_round
            case rel => exact ⟨k + 1, by omega, by go_num, GG.out⟩
            case measure => simp [intOf]; omega
      · have E := Lib.hid (OKS.out (fun j hj => HG.out j (by have := HN.out; omega)))
        go_wp2_with fail
        go_ret
        exact ⟨by rw [E.out]; rfl, rfl⟩
  · have E := Lib.hid (hv.trans (Mx.rcode_len (lo := 0) (hi := 9972) (by omega : l.length ≠ c)))
    rw [← hv]
    have e1 : ((n : Int) != (c : Int)) = true := by rw [bne_iff_ne]; omega
    clear ha hn hv hc
    go_enter Try.func55, Try.ntmps55
    go_wp2_with fail
    go_ret
    exact ⟨by rw [E.out]; rfl, rfl⟩

/-- The first k rows have no fault. -/
def rowsGo (lo hi : Int) (m : List (List Int)) (k : Nat) : Prop := Mx.rows lo hi (m.getD 0 []).length m = Mx.rows lo hi (m.getD 0 []).length (m.drop k)
theorem rows_go {lo hi : Int} {m : List (List Int)} {k : Nat} (hk : k < m.length) (h : rowsGo lo hi m k) (h0 : Mx.rcode lo hi (m.getD 0 []).length (m.getD k []) = 0) : rowsGo lo hi m (k + 1) := by
  unfold rowsGo at *
  rw [h, Mx.rows_drop hk, if_pos h0]

set_option maxRecDepth 100000 in
set_option maxHeartbeats 1600000 in
theorem Check_main (A : Option Addr) (m : List (List Int)) (n d q : Nat) (w : World) (ha : LiesM w A m) (hn : m.length = n) (hq : (m.getD 0 []).length = q) (h1 : 0 < n) (h2 : n ≤ 5) (h3 : 0 < q) (h4 : q ≤ 5) :
    Calls Try.prog 40 #[.slice A n d] w fun e w' => e = .returned (errOf (Mx.mcode 5 0 9972 m)) ∧ w = w' := by
  have hm : Mx.mcode 5 0 9972 m = Mx.rows 0 9972 (m.getD 0 []).length m := by
    unfold Mx.mcode
    rw [if_neg (by omega), if_neg (by omega)]
  rw [hm]
  obtain ⟨v, hv⟩ : ∃ v, v = Mx.rows 0 9972 (m.getD 0 []).length m := ⟨_, rfl⟩
  have hg0 : rowsGo 0 9972 m 0 := by unfold rowsGo; rw [List.drop_zero]
  have RNG := Lib.hid (fun (k : Nat) (hk : k < n) (hg : rowsGo 0 9972 m k) (h0 : Mx.rcode 0 9972 q (m.getD k []) ≠ 0) => show v = Mx.rcode 0 9972 q (m.getD k []) by
    unfold rowsGo at hg
    rw [hv, hg, Mx.rows_drop (by omega), hq, if_neg h0])
  have OKS := Lib.hid (fun (hg : rowsGo 0 9972 m n) => show v = 0 by
    unfold rowsGo at hg
    rw [hv, hg, Mx.rows_end (by omega)])
  have STP := Lib.hid (fun (k : Nat) (hk : k < n) (hg : rowsGo 0 9972 m k) (h0 : Mx.rcode 0 9972 q (m.getD k []) = 0) => rows_go (by omega) hg (by rw [hq]; exact h0))
  rw [← hv]
  obtain ⟨ad, A0, d0, rfl, _, hc0, _, hr0⟩ := ha 0 (by omega)
  rw [hq] at hc0
  rw [add_zero'] at hc0
  have HA := Lib.hid ha
  have HN := Lib.hid hn
  have G0 := Lib.hid hg0
  have e0 : ((n : Int) == 0) = false := by rw [beq_eq_false_iff_ne]; omega
  have e1 : ((q : Int) == 0) = false := by rw [beq_eq_false_iff_ne]; omega
  have e2 : ¬ (5 : Int) < n := by omega
  have e3 : ¬ (5 : Int) < q := by omega
  clear ha hn hg0 hm hv hq hr0
  go_enter Try.func40, Try.ntmps40
  go_wp2_with fail
  go_loop [30] (fun i => ∃ k : Nat, k ≤ n ∧ i = .int .i64 (k : Int) ∧ rowsGo 0 9972 m k) (fun i => n - (intOf i).toNat)
  case atStart => exact ⟨0, Nat.zero_le _, rfl, G0.out⟩
  case round =>
    obtain ⟨k, hk, rfl, hg⟩ := hrel
    have HG := Lib.hid hg
    clear hg
    by_cases hlt : k < n
    · obtain ⟨ad', A1, d1, ea, _, hc1, _, hr1⟩ := HA.out k (by have := HN.out; omega)
      obtain rfl := Option.some.inj ea
      have CR := Lib.hid (checkRow_any A1 (m.getD k []) _ d1 q w hr1 rfl (by omega))
      obtain ⟨p, hp⟩ : ∃ p, p = (m.getD k []).length := ⟨_, rfl⟩
      rw [← hp] at hc1 CR
      by_cases h0 : Mx.rcode 0 9972 q (m.getD k []) = 0
      · have ST := Lib.hid (STP.out k hlt HG.out h0)
        rw [h0] at CR
        clear hr1 hp h0
        go_wp2_with fail
        refine (CR.out).mono ?_; rintro e w' ⟨rfl, rfl⟩
        rw [errOf_zero]
        go_wp2_with fail
        go_round
        case rel => exact ⟨k + 1, by omega, by go_num, ST.out⟩
        case measure => simp [intOf]; omega
      · have E := Lib.hid (RNG.out k hlt HG.out h0)
        rw [errOf_ne _ h0] at CR
        have E2 := Lib.hid (show errOf v = .iface 56 (.int .i64 ((Mx.rcode 0 9972 q (m.getD k []) : Nat) : Int)) by rw [E.out, errOf_ne _ h0])
        generalize Mx.rcode 0 9972 q (m.getD k []) = z at *
        clear hr1 hp h0
        go_wp2_with fail
        refine (CR.out).mono ?_; rintro e w' ⟨rfl, rfl⟩
        go_wp2_with fail
        go_ret
        exact ⟨by rw [E2.out]; rfl, rfl⟩
    · have E := Lib.hid (OKS.out (by have h : k = n := by omega
                                     rw [← h]; exact HG.out))
      go_wp2_with fail
      go_ret
      exact ⟨by rw [E.out]; rfl, rfl⟩

set_option maxHeartbeats 800000 in
theorem Check_any (A : Option Addr) (m : List (List Int)) (n d : Nat) (w : World) (ha : LiesM w A m) (hn : m.length = n) :
    Calls Try.prog 40 #[.slice A n d] w fun e w' => e = .returned (errOf (Mx.mcode 5 0 9972 m)) ∧ w = w' := by
  by_cases h1 : n = 0
  · have hm : Mx.mcode 5 0 9972 m = 5 := by unfold Mx.mcode; rw [if_pos (by omega)]
    rw [hm]
    subst h1
    clear hm ha hn
    go_enter Try.func40, Try.ntmps40
    go_wp2
    go_ret
    exact ⟨rfl, rfl⟩
  obtain ⟨ad, A0, d0, rfl, _, hc0, _, hr0⟩ := ha 0 (by omega)
  rw [add_zero'] at hc0
  obtain ⟨q, hq⟩ : ∃ q, q = (m.getD 0 []).length := ⟨_, rfl⟩
  rw [← hq] at hc0
  have e0 : ((n : Int) == 0) = false := by rw [beq_eq_false_iff_ne]; omega
  have hn0 : (0 : Int) < n := by omega
  by_cases h2 : q = 0
  · have hm : Mx.mcode 5 0 9972 m = 5 := by unfold Mx.mcode; rw [if_pos (by omega)]
    rw [hm]
    subst h2
    clear hm ha hn hr0 h1 hq
    go_enter Try.func40, Try.ntmps40
    go_wp2
    go_ret
    exact ⟨rfl, rfl⟩
  have e1 : ((q : Int) == 0) = false := by rw [beq_eq_false_iff_ne]; omega
  by_cases h3 : 5 < n
  · have hm : Mx.mcode 5 0 9972 m = 4 := by unfold Mx.mcode; rw [if_neg (by omega), if_pos (by omega)]
    rw [hm]
    have e3 : (5 : Int) < n := by omega
    clear hm ha hn hr0 h1 hq h2 h3
    go_enter Try.func40, Try.ntmps40
    go_wp2
    go_ret
    exact ⟨rfl, rfl⟩
  by_cases h4 : 5 < q
  · have hm : Mx.mcode 5 0 9972 m = 4 := by unfold Mx.mcode; rw [if_neg (by omega), if_pos (by omega)]
    rw [hm]
    have e3 : ¬ (5 : Int) < n := by omega
    have e4 : (5 : Int) < q := by omega
    clear hm ha hn hr0 h1 hq h2 h3 h4
    go_enter Try.func40, Try.ntmps40
    go_wp2
    go_ret
    exact ⟨rfl, rfl⟩
  exact Check_main (some ad) m n d q w ha hn hq.symm (by omega) (by omega) (by omega) (by omega)

/-- What is wrong with two matrices: the first one's fault, else the second one's. -/
def mcode2 (a b : List (List Int)) : Nat := if Mx.mcode 5 0 9972 a = 0 then Mx.mcode 5 0 9972 b else Mx.mcode 5 0 9972 a
theorem mcode2_zero {a b : List (List Int)} (h : mcode2 a b = 0) : Mx.mcode 5 0 9972 a = 0 ∧ Mx.mcode 5 0 9972 b = 0 := by
  unfold mcode2 at h
  by_cases h0 : Mx.mcode 5 0 9972 a = 0
  · rw [if_pos h0] at h; exact ⟨h0, h⟩
  · rw [if_neg h0] at h; exact absurd h h0

end Go.Proofs.Ytldkamhknaflbaa

/- Contracts of package gauss, third part: Steps, Rank. -/
namespace Go.Proofs.Ytldkamhknaflbaa
open Go.ChangeShapes Go.WideShapes Go.ChangeAt Go.RowKit
set_option linter.unusedVariables false

/-- The matrix in steps, and the columns of its pivots. -/
def GotSteps (r c : Nat) (f : Nat → Nat → Fp.F) (w : World) (e : Ending) (w' : World) : Prop :=
  ∃ b g A d A' d', Stair r c c f b g ∧ e = .returned (.tuple #[.slice A r d, .slice A' b.length d', .nilIface]) ∧ LiesM w' A (Mx.matl r c g) ∧ Lies w' A' (cols b) ∧ Kp w w'
/-- No matrix, no columns, an error. -/
def FailsSteps (c : Nat) (w : World) (e : Ending) (w' : World) : Prop := e = .returned (.tuple #[.slice none 0 0, .slice none 0 0, errOf c]) ∧ Kp w w'

set_option maxRecDepth 100000 in
set_option maxHeartbeats 1600000 in
theorem Steps_bad (A : Option Addr) (m : List (List Int)) (n d : Nat) (w : World) (ha : LiesM w A m) (hn : m.length = n) (h : Mx.mcode 5 0 9972 m ≠ 0) :
    Calls Try.prog 33 #[.slice A n d] w fun e w' => FailsSteps (Mx.mcode 5 0 9972 m) w e w' := by
  have C := Lib.hid (Check_any A m n d w ha hn)
  unfold FailsSteps
  rw [errOf_ne _ h] at C ⊢
  generalize Mx.mcode 5 0 9972 m = z at *
  clear ha hn h
  go_enter Try.func33, Try.ntmps33
  go_wp2_with fail
  refine (C.out).mono ?_; rintro e w' ⟨rfl, rfl⟩
  go_wp2_with fail
  go_ret3
  exact ⟨rfl, Kp.rfl' _⟩

set_option maxRecDepth 100000 in
set_option maxHeartbeats 6400000 in
theorem Steps_ok (A : Option Addr) (f : Nat → Nat → Fp.F) (r c d : Nat) (w : World) (ha : LiesM w A (Mx.matl r c f)) (hr0 : 0 < r) (hr : r ≤ 5) (hc0 : 0 < c) (hc : c ≤ 5) :
    Calls Try.prog 33 #[.slice A r d] w fun e w' => GotSteps r c f w e w' := by
  have CK := Lib.hid (Check_any A (Mx.matl r c f) r d w ha (Mx.len_matl _ _ _))
  rw [Mx.mcode_matl f hr0 hr hc0 hc, errOf_zero] at CK
  have CL := Lib.hid (clone_any A r c d f w (by omega) (by omega) ha)
  clear ha
  obtain ⟨i0, hi, hz0, hz1, hz2⟩ := info_parts int_info
  go_enter Try.func33, Try.ntmps33
  go_wp2_with fail
  refine (CK.out).mono ?_; rintro e w' ⟨rfl, rfl⟩
  go_wp2_with fail
  refine (CL.out).mono ?_; rintro e w1 ⟨G0, rfl, hg, hk⟩
  obtain ⟨g, hg'⟩ : ∃ g, g = w.heap.size := ⟨_, rfl⟩
  have hB : w.heap.size ≤ g := by omega
  rw [← hg'] at hg ⊢
  clear hg'
  have ho := hg.own (B := w.heap.size) hB (by omega) (by omega)
  have hcell := ho.weak.head hr0
  have HO := Lib.hid ho
  have HK := Lib.hid hk
  clear ho hk hg hB
  go_wp2_with fail
  go_loopw [7, 23] (fun u i wr => ∃ (k : Nat) (b : List Nat) (h : Nat → Nat → Fp.F) (G C : Nat → Nat), k ≤ c ∧ i = .int .i64 (k : Int) ∧ Stair r c k f b h ∧ MatRow wr w.heap.size g r G C r c (fun i j => ((h i j).val : Int)) u (cols b) ∧ Kp w wr) (fun _ i _ => c - (intOf i).toNat)
  case atStart => exact ⟨0, [], f, G0, _, Nat.zero_le _, rfl, Stair.start r c f, MatRow.start HO.out, HK.out⟩
  case round =>
    clear hcell
    obtain ⟨k, b, h, G, C, hk, rfl, hst, hmr, hkp⟩ := hrel
    obtain ⟨Au, du, rfl, hlu, _⟩ := hmr.row.cap
    obtain ⟨p, hp⟩ : ∃ p, p = b.length := ⟨_, rfl⟩
    have hpr : p ≤ r := by rw [hp]; exact hst.steps.le
    rw [len_cols, ← hp] at hmr ⊢
    have HM := Lib.hid hmr
    have HS := Lib.hid hst
    have HK := Lib.hid hkp
    have HL := Lib.hid hlu
    have HP := Lib.hid hp
    clear hmr hst hkp hlu hp
    by_cases hlt : k < c
    · have BE := Lib.hid (below_any (some ⟨g, 0, none⟩) (d := r) hpr hlt wr (by omega) (by omega) HM.out.mat.liesM)
      go_wp2_with fail
      refine (BE.out).mono ?_; rintro e w' ⟨a, hf, rfl, rfl⟩
      have HF := Lib.hid hf
      have ha1 : p ≤ a := hf.1
      have ha2 : a ≤ r := hf.2.1
      clear hf
      by_cases har : a = r
      · have e1 : ((a : Int) == (r : Int)) = true := by rw [har]; simp
        have HS2 := Lib.hid (HS.out.skip fun i h1 h2 => HF.out.2.2.1 i (by rw [HP.out]; exact h1) (by omega))
        clear har ha1 ha2
        go_wp2_with fail
        go_roundw
        case rel => exact ⟨k + 1, b, h, G, C, by omega, by go_num, HS2.out, HM.out, HK.out⟩
        case measure => simp [intOf]; omega
      · have e1 : ((a : Int) == (r : Int)) = false := by rw [beq_eq_false_iff_ne]; omega
        have har' : a < r := by omega
        have hpr' : p < r := by omega
        have h0 := HF.out.2.2.2 har'
        have y1 := HM.out.mat.weak.head har'
        have y2 := HM.out.mat.weak.head hpr'
        have y3 := HM.out.mat.weak.topFree a
        have y4 := HM.out.mat.weak.topFree p
        have y5 : (wr.setCell ⟨g, p, none⟩ (.slice (some ⟨G a, 0, none⟩) c (C a))).cell? ⟨g, a, none⟩ = some (.slice (some ⟨G a, 0, none⟩) c (C a)) := by
          by_cases e : a = p
          · subst e; exact World.cell?_setCell_same' _ _ _ (by rw [y1]; rfl)
          · have hne : (⟨g, p, none⟩ : Addr) ≠ ⟨g, a, none⟩ := fun e' => e (by cases e'; rfl)
            rw [World.cell?_setCell_other (w := wr) (v := .slice (some ⟨G a, 0, none⟩) c (C a)) (h := hne)]; exact y1
        have y6 : (wr.setCell ⟨g, p, none⟩ (.slice (some ⟨G a, 0, none⟩) c (C a))).frozen? ⟨g, a, none⟩ = false := (HM.out.mat.weak.set hpr' (HM.out.mat.weak.row a har')).topFree a
        have hBg := HM.out.mat.weak.topLe.1
        obtain ⟨H, hH⟩ : ∃ H : Nat → Nat → Fp.F, H = fun i => if i = a then h p else if i = p then h a else h i := ⟨_, rfl⟩
        obtain ⟨G', hG'⟩ : ∃ G' : Nat → Nat, G' = fun i => if i = a then G p else if i = p then G a else G i := ⟨_, rfl⟩
        obtain ⟨C', hC'⟩ : ∃ C' : Nat → Nat, C' = fun i => if i = a then C p else if i = p then C a else C i := ⟨_, rfl⟩
        have SW := HM.out.swap hpr' har'
        rw [← hG', ← hC'] at SW
        have SW := Lib.hid (SW.ext (f' := fun i j => ((H i j).val : Int)) fun i j _ _ => by
          rw [hH]
          by_cases e1 : i = a
          · simp only [if_pos e1]
          · by_cases e2 : i = p
            · simp only [if_neg e1, if_pos e2]
            · simp only [if_neg e1, if_neg e2])
        have hHp : H p k = h a k := by
          rw [hH]
          show (if p = a then h p else if p = p then h a else h p) k = h a k
          by_cases e : p = a
          · rw [if_pos e, e]
          · rw [if_neg e, if_pos rfl]
        have CLN := Lib.hid (fun w' hh => clean_any (B := w.heap.size) (g := g) (cap := r) (G := G') (C := C') (f := H) hpr' hlt (by rw [hHp]; exact h0) w' (by omega) (by omega) hh)
        have HS2 := HS.out.next (a := a) (by rw [← HP.out]; exact ha1) har' h0
        rw [← HP.out, ← cln_nxt, ← hH] at HS2
        have HS2 := Lib.hid HS2
        have HK1 := Lib.hid (((HK.out.put (p := ⟨g, p, none⟩) hBg (.slice (some ⟨G a, 0, none⟩) c (C a))).put (p := ⟨g, a, none⟩) hBg (.slice (some ⟨G p, 0, none⟩) c (C p))).drewN 1)
        have HGL := Lib.hid (show ∀ i, i < r → w.heap.size ≤ G' i from fun i hi => (SW.out.mat.weak.lt hi).1)
        have HSN := Lib.hid (cols_snoc b k)
        have hlen : (cols b).length + 1 ≤ 17000000000000 := by rw [len_cols, ← HP.out]; omega
        clear har ha2 ha1 hH hG' hC' hHp h0 hBg HF
        go_wp2_with fail
        go_region_law (fail)
        all_goals
          go_wp2_with fail
          refine (CLN.out _ (SW.out.drewN 1).mat).mono ?_; rintro e w2 ⟨rfl, ho2, hon2⟩
          have HM2 := Lib.hid ((SW.out.drewN 1).only hon2 ho2)
          have HK2 := Lib.hid (show Kp w w2 from hon2.below HK1.out HK1.out.size HGL.out)
          clear ho2 hon2 y1 y2 y3 y4 y5 y6
          have hsz := HK2.out.size
          go_wp2_with (at_builtin; refine wpList_push rfl _ _ rfl w.heap.size _ (cols b) (k : Int) w2.heap.size 1 rfl rfl (HM2.out.row.new _) (by simp; done) hlen (Nat.le_trans hsz ((Kp.rfl' _).new _).size) ?_; intro v' w3 h1 h2 h3)
          have HM3 := Lib.hid ((HM2.out.kp ((Kp.rfl' _).new _)).push h1 h2 h3)
          have HK3 := Lib.hid (own_below (HM2.out.row.new _) (HK2.out.new _) (Nat.le_trans hsz ((Kp.rfl' _).new _).size) h2)
          clear h1 h2 h3
          go_wp2_with fail
          go_roundw
          case rel => exact ⟨k + 1, b ++ [k], cln H p k, G', C', by omega, by go_num, HS2.out, by rw [HSN.out]; exact HM3.out, HK3.out⟩
          case measure => simp [intOf]; omega
    · obtain rfl : k = c := by omega
      have HL2 := Lib.hid (HM.out.mat.liesM)
      go_wp2_with fail
      go_ret3
      exact ⟨b, h, some ⟨g, 0, none⟩, r, Au, du, HS.out, by rw [← HP.out]; rfl, HL2.out, HL.out, HK.out⟩

end Go.Proofs.Ytldkamhknaflbaa

/- Plain facts for systems of equations over F: what is taken to noughts, the one answer that is nought at the free columns, step by step. No program is named here. -/
namespace Go.Proofs.Ytldkamhknaflbaa.Mx
open Fp
set_option linter.unusedVariables false

/-- Where a matrix takes a row. -/
def tov (c : Nat) (f : Nat → Nat → F) (v : Nat → F) : Nat → F := fun i => sg c fun j => f i j * v j
theorem tov_congr {c : Nat} {f g : Nat → Nat → F} {v w : Nat → F} {i : Nat} (h : ∀ j, j < c → f i j = g i j) (h' : ∀ j, j < c → v j = w j) : tov c f v i = tov c g w i :=
  sg_congr fun j hj => by rw [h j hj, h' j hj]
theorem tov_more (c : Nat) (f : Nat → Nat → F) (v w : Nat → F) (a : F) (i : Nat) : tov c f (fun j => v j + a * w j) i = tov c f v i + a * tov c f w i := by
  unfold tov
  rw [← sg_times, ← sg_add]
  exact sg_congr fun j _ => by grind
theorem tov_less (c : Nat) (f : Nat → Nat → F) (v w : Nat → F) (i : Nat) : tov c f (fun j => v j - w j) i = tov c f v i - tov c f w i := by
  have h := tov_more c f v w (-1) i
  have e : (fun j => v j - w j) = fun j => v j + -1 * w j := by funext j; grind
  rw [e, h]; grind
theorem tov_none (c : Nat) (f : Nat → Nat → F) (i : Nat) : tov c f (fun _ => 0) i = 0 := by
  unfold tov
  rw [sg_congr (g := fun _ => 0) fun j _ => by grind, sg_none]
theorem tov_mul (r c : Nat) (s g : Nat → Nat → F) (v : Nat → F) (i : Nat) : tov c (mul r s g) v i = sg r fun x => s i x * tov c g v x :=
  congrFun (congrFun (mul_assoc r c s g (fun j _ => v j)) i) 0
/-- What comes of rows that are taken alike is taken alike. -/
theorem tov_come {r c : Nat} {f g : Nat → Nat → F} (h : ∃ s, Eqm r c f (mul r s g)) {v w : Nat → F} (e : ∀ x, x < r → tov c g v x = tov c g w x) {i : Nat} (hi : i < r) : tov c f v i = tov c f w i := by
  obtain ⟨s, hs⟩ := h
  rw [tov_congr (g := mul r s g) (fun j hj => hs i j hi hj) (fun _ _ => rfl), tov_congr (v := w) (g := mul r s g) (fun j hj => hs i j hi hj) (fun _ _ => rfl), tov_mul, tov_mul]
  exact sg_congr fun x hx => by rw [e x hx]

/-- The columns in which no row begins. -/
def fr (b : List Nat) (c : Nat) : List Nat := (List.range c).filter fun k => decide (k ∉ b)
theorem fr_zero (b : List Nat) : fr b 0 = [] := rfl
theorem fr_yes {b : List Nat} {k : Nat} (h : k ∈ b) : fr b (k + 1) = fr b k := by simp [fr, List.range_succ, h]
theorem fr_no {b : List Nat} {k : Nat} (h : k ∉ b) : fr b (k + 1) = fr b k ++ [k] := by simp [fr, List.range_succ, h]
theorem fr_mem {b : List Nat} {c k : Nat} : k ∈ fr b c ↔ k < c ∧ k ∉ b := by simp [fr]
theorem fr_le (b : List Nat) (c : Nat) : (fr b c).length ≤ c := by
  have := List.length_filter_le (fun k => decide (k ∉ b)) (List.range c)
  rwa [List.length_range] at this
theorem fr_pairs (b : List Nat) (c : Nat) : (fr b c).Pairwise (· < ·) := List.Pairwise.filter _ List.pairwise_lt_range
theorem count_not (p : Nat → Bool) : ∀ l : List Nat, (l.filter p).length + (l.filter fun k => !p k).length = l.length
  | [] => rfl
  | x :: l => by
    have := count_not p l
    by_cases h : p x = true
    · simp [h]; omega
    · simp [h]; omega
theorem Steps.count {r c : Nat} {b : List Nat} {g : Nat → Nat → F} (h : Steps r c b g) : b.length + (fr b c).length = c := by
  have e : b = (List.range c).filter fun k => decide (k ∈ b) := inc_same _ _ h.pairs (List.Pairwise.filter _ List.pairwise_lt_range) fun x => by
    simp only [List.mem_filter, List.mem_range, decide_eq_true_eq]
    exact ⟨fun hx => ⟨by obtain ⟨t, ht, rfl⟩ := h.mem hx; exact h.lt t ht, hx⟩, fun hx => hx.2⟩
  have := count_not (fun k => decide (k ∈ b)) (List.range c)
  rw [← e, List.length_range] at this
  have e2 : (List.range c).filter (fun k => !decide (k ∈ b)) = fr b c := by
    unfold fr; congr 1; funext k; simp
  rw [e2] at this
  exact this
theorem pv_mem {b : List Nat} {t : Nat} (ht : t < b.length) : pv b t ∈ b := by
  show b.getD t 0 ∈ b
  rw [List.getD_eq_getElem?_getD, List.getElem?_eq_getElem ht]; exact List.getElem_mem ht
theorem Steps.inj {r c : Nat} {b : List Nat} {g : Nat → Nat → F} (h : Steps r c b g) {s t : Nat} (hs : s < b.length) (ht : t < b.length) (e : pv b s = pv b t) : s = t := by
  rcases Nat.lt_trichotomy s t with hlt | he | hlt
  · have := h.inc s t hlt ht; omega
  · exact he
  · have := h.inc t s hlt hs; omega

/-- The row that is taken to noughts and is 1 at the free column k, nought at the other free ones: as far as the first t rows tell. -/
def nv (b : List Nat) (g : Nat → Nat → F) (k : Nat) : Nat → Nat → F
  | 0 => fun j => if j = k then 1 else 0
  | t + 1 => fun j => if j = pv b t then -(g t k) else nv b g k t j
theorem nv_off (b : List Nat) (g : Nat → Nat → F) (k : Nat) {j : Nat} : ∀ t, (∀ s, s < t → j ≠ pv b s) → nv b g k t j = if j = k then 1 else 0
  | 0, _ => rfl
  | t + 1, h => by
    show (if j = pv b t then _ else nv b g k t j) = _
    rw [if_neg (h t (Nat.lt_succ_self t)), nv_off b g k t fun s hs => h s (by omega)]
theorem nv_free (b : List Nat) (g : Nat → Nat → F) (k : Nat) {j : Nat} (h : j ∉ b) {t : Nat} (ht : t ≤ b.length) : nv b g k t j = if j = k then 1 else 0 :=
  nv_off b g k t fun s hs e => h (by rw [e]; exact pv_mem (by omega))
theorem Steps.nv_piv {r c : Nat} {b : List Nat} {g : Nat → Nat → F} (h : Steps r c b g) (k : Nat) : ∀ (t : Nat), t ≤ b.length → ∀ s, s < t → nv b g k t (pv b s) = -(g s k)
  | 0, _, s, hs => absurd hs (by omega)
  | t + 1, ht, s, hs => by
    show (if pv b s = pv b t then _ else nv b g k t (pv b s)) = _
    by_cases e : s = t
    · rw [e, if_pos rfl]
    · rw [if_neg fun e' => e (h.inj (by omega) (by omega) e'), h.nv_piv k t (by omega) s (by omega)]
theorem nv_congr {b : List Nat} {g g' : Nat → Nat → F} {k : Nat} : ∀ (t : Nat), (∀ s, s < t → g s k = g' s k) → nv b g k t = nv b g' k t
  | 0, _ => rfl
  | t + 1, h => by
    show (fun j => if j = pv b t then -(g t k) else nv b g k t j) = fun j => if j = pv b t then -(g' t k) else nv b g' k t j
    rw [h t (Nat.lt_succ_self t), nv_congr t fun s hs => h s (by omega)]
/-- It is taken to noughts. -/
theorem Steps.nv_zero {r c : Nat} {b : List Nat} {f g : Nat → Nat → F} (h : Steps r c b g) (e : Req r c f g) {k : Nat} (hk : k < c) (hkb : k ∉ b) {i : Nat} (hi : i < r) : tov c f (nv b g k b.length) i = 0 := by
  have hg : ∀ x, x < r → tov c g (nv b g k b.length) x = tov c g (fun _ => 0) x := fun x hx => by
    rw [tov_none]
    unfold tov
    by_cases hl : x < b.length
    · have hne : k ≠ pv b x := fun e => hkb (by rw [e]; exact pv_mem hl)
      rw [sg_two hk (h.lt x hl) hne fun j hj h1 h2 => ?_]
      · rw [nv_free b g k hkb (Nat.le_refl _), if_pos rfl, h.nv_piv k _ (Nat.le_refl _) x hl, h.piv x hl x hx, if_pos rfl]; grind
      · by_cases hjb : j ∈ b
        · obtain ⟨t, ht, rfl⟩ := h.mem hjb
          rw [h.piv t ht x hx, if_neg fun e => h2 (by rw [e])]; grind
        · rw [nv_free b g k hjb (Nat.le_refl _), if_neg h1]; grind
    · rw [sg_congr (g := fun _ => 0) fun j hj => by rw [h.zero x (by omega) hx j hj]; grind, sg_none]
  rw [tov_come e.1 hg hi, tov_none]

/-- Nought at the free columns. -/
def Off (b : List Nat) (c : Nat) (v : Nat → F) : Prop := ∀ j, j < c → j ∉ b → v j = 0
theorem Off.more {b : List Nat} {c : Nat} {v w : Nat → F} (h : Off b c v) (h' : Off b c w) (a : F) : Off b c (fun j => v j + a * w j) := fun j hj hb => by
  show v j + a * w j = 0
  rw [h j hj hb, h' j hj hb]; grind
theorem Off.less {b : List Nat} {c : Nat} {v w : Nat → F} (h : Off b c v) (h' : Off b c w) : Off b c (fun j => v j - w j) := fun j hj hb => by
  show v j - w j = 0
  rw [h j hj hb, h' j hj hb]; grind
/-- Taken to noughts, and nought at the free columns: nought. -/
theorem Steps.off_zero {r c : Nat} {b : List Nat} {f g : Nat → Nat → F} (h : Steps r c b g) (e : Req r c f g) {v : Nat → F} (ho : Off b c v) (hz : ∀ i, i < r → tov c f v i = 0) : ∀ j, j < c → v j = 0 := fun j hj => by
  by_cases hb : j ∈ b
  · obtain ⟨t, ht, rfl⟩ := h.mem hb
    have htr : t < r := Nat.lt_of_lt_of_le ht h.le
    have h1 : tov c g v t = 0 := by
      have := tov_come e.2 (v := v) (w := fun _ => 0) (fun x hx => by rw [hz x hx, tov_none]) htr
      rw [this, tov_none]
    unfold tov at h1
    rw [sg_one hj fun s hs hne => ?_, h.piv t ht t htr, if_pos rfl] at h1
    · rw [← h1]; grind
    · by_cases hsb : s ∈ b
      · obtain ⟨q, hq, rfl⟩ := h.mem hsb
        rw [h.piv q hq t htr, if_neg fun e => hne (by rw [e])]; grind
      · rw [ho s hs hsb]; grind
  · exact ho j hj hb
theorem Steps.off_one {r c : Nat} {b : List Nat} {f g : Nat → Nat → F} (h : Steps r c b g) (e : Req r c f g) {v w : Nat → F} (ho : Off b c v) (ho' : Off b c w) (hz : ∀ i, i < r → tov c f v i = tov c f w i) : ∀ j, j < c → v j = w j := fun j hj => by
  have := h.off_zero e (ho.less ho') (fun i hi => by rw [tov_less, hz i hi]; grind) j hj
  grind
/-- What is taken somewhere: something that is nought at the free columns is taken there. -/
theorem Steps.off_some {r c : Nat} {b : List Nat} {f g : Nat → Nat → F} (h : Steps r c b g) (e : Req r c f g) (z : Nat → F) : ∃ y, Off b c y ∧ ∀ i, i < r → tov c f y i = tov c f z i := by
  refine ⟨fun j => sg b.length fun t => if j = pv b t then tov c g z t else 0, fun j _ hb => ?_, fun i hi => tov_come e.1 (fun x hx => ?_) hi⟩
  · dsimp only
    rw [sg_congr (g := fun _ => 0) fun t ht => by rw [if_neg fun e => hb (by rw [e]; exact pv_mem ht)], sg_none]
  · by_cases hl : x < b.length
    · have hy : ∀ t, t < b.length → (sg b.length fun s => if pv b t = pv b s then tov c g z s else 0) = tov c g z t := fun t ht => by
        rw [sg_one ht fun s hs hne => by rw [if_neg fun e => hne (h.inj hs ht e.symm)], if_pos rfl]
      show sg c (fun j => g x j * sg b.length fun s => if j = pv b s then tov c g z s else 0) = _
      rw [sg_one (h.lt x hl) fun j hj hne => ?_, hy x hl, h.piv x hl x hx, if_pos rfl]
      · grind
      · by_cases hjb : j ∈ b
        · obtain ⟨t, ht, rfl⟩ := h.mem hjb
          rw [h.piv t ht x hx, if_neg fun e => hne (by rw [e])]; grind
        · rw [sg_congr (g := fun _ => 0) fun t ht => by rw [if_neg fun e => hjb (by rw [e]; exact pv_mem ht)], sg_none]; grind
    · have hz : ∀ v : Nat → F, tov c g v x = 0 := fun v => by
        unfold tov
        rw [sg_congr (g := fun _ => 0) fun j hj => by rw [h.zero x (by omega) hx j hj]; grind, sg_none]
      rw [hz, hz]

/-- THE answer of a system: nought at the free columns. -/
structure Ans (r c : Nat) (f : Nat → Nat → F) (tt0 : Nat → F) (b : List Nat) (x : Nat → F) : Prop where
  off : Off b c x
  sol : ∀ i, i < r → tov c f x i = tt0 i
/-- There is none at all. -/
def NoAns (r c : Nat) (f : Nat → Nat → F) (tt0 : Nat → F) : Prop := ¬ ∃ z : Nat → F, ∀ i, i < r → tov c f z i = tt0 i
theorem Ans.one {r c : Nat} {f g : Nat → Nat → F} {tt0 : Nat → F} {b : List Nat} {x y : Nat → F} (h : Steps r c b g) (e : Req r c f g) (hx : Ans r c f tt0 b x) (hy : Ans r c f tt0 b y) : ∀ j, j < c → x j = y j :=
  h.off_one e hx.off hy.off fun i hi => by rw [hx.sol i hi, hy.sol i hi]

/-- What comes of some rows. -/
def Comb (c : Nat) : List (Nat → F) → (Nat → F) → Prop
  | [], v => ∀ j, j < c → v j = 0
  | w :: ws, v => ∃ a, Comb c ws fun j => v j - a * w j
theorem Comb.congr {c : Nat} : ∀ {ws : List (Nat → F)} {u v : Nat → F}, Comb c ws u → (∀ j, j < c → u j = v j) → Comb c ws v
  | [], u, v, h, e => fun j hj => by rw [← e j hj]; exact h j hj
  | w :: ws, u, v, ⟨a, h⟩, e => ⟨a, h.congr fun j hj => by rw [e j hj]⟩
theorem Comb.less {c : Nat} (w : Nat → F) (a : F) : ∀ {ws : List (Nat → F)} {v : Nat → F}, Comb c ws v → (k : Nat) → (hk : k < ws.length) → (he : ws[k] = w) → Comb c ws fun j => v j - a * w j
  | [], v, h, k, hk, he => absurd hk (by simp)
  | w' :: ws, v, ⟨d, h⟩, 0, hk, he => by
    simp at he; subst he
    exact ⟨d - a, h.congr fun j _ => by grind⟩
  | w' :: ws, v, ⟨d, h⟩, k + 1, hk, he => by
    refine ⟨d, ?_⟩
    refine (Comb.less w a h k (by simpa using hk) (by simpa using he)).congr fun j _ => ?_
    grind
/-- Row i of f is where the k-th way moves. -/
theorem Comb.take {c : Nat} : ∀ {ws : List (Nat → F)} {v : Nat → F}, Comb c ws v → (k : Nat) → (hk : k < ws.length) → ∃ a, Comb c (ws.eraseIdx k) fun j => v j - a * ws[k] j
  | [], v, h, k, hk => absurd hk (by simp)
  | w :: ws, v, ⟨d, h⟩, 0, hk => ⟨d, by simpa using h⟩
  | w :: ws, v, ⟨d, h⟩, k + 1, hk => by
    obtain ⟨a, h2⟩ := h.take k (by simpa using hk)
    refine ⟨a, ?_⟩
    rw [List.eraseIdx_cons_succ]
    refine ⟨d, h2.congr fun j _ => ?_⟩
    simp only [List.getElem_cons_succ]
    grind
/-- Each of the rows moved along one: the same, but for so many times that one. -/
theorem Comb.moved {c : Nat} (w : Nat → F) (m : (Nat → F) → F) : ∀ {ws : List (Nat → F)} {v : Nat → F}, Comb c ws v → ∃ a, Comb c (ws.map fun u j => u j + m u * w j) fun j => v j - a * w j
  | [], v, h => ⟨0, fun j hj => by show v j - 0 * w j = 0; rw [h j hj]; grind⟩
  | u :: ws, v, ⟨d, h⟩ => by
    obtain ⟨a, h2⟩ := Comb.moved w m h
    exact ⟨a - d * m u, d, h2.congr fun j _ => by dsimp only; grind⟩
/-- What all ways take to nought, all that comes of them does. -/
theorem Comb.still {c : Nat} {f : Nat → Nat → F} {i : Nat} : ∀ {ws : List (Nat → F)} {v : Nat → F}, Comb c ws v → (∀ w, w ∈ ws → tov c f w i = 0) → tov c f v i = 0
  | [], v, h, _ => by rw [tov_congr (w := fun _ => 0) (fun _ _ => rfl) h, tov_none]
  | w :: ws, v, ⟨a, h⟩, h0 => by
    have h1 := h.still fun u hu => h0 u (List.mem_cons_of_mem _ hu)
    have h2 := tov_more c f v w (-a) i
    have e : (fun j => v j - a * w j) = fun j => v j + -a * w j := by funext j; grind
    rw [e, h2, h0 w (List.mem_cons_self ..)] at h1
    rw [← h1]; grind

/-- A way moved along another one until row i takes it where it should go. -/
def mv (c : Nat) (f : Nat → Nat → F) (i : Nat) (want : F) (w u : Nat → F) : Nat → F := fun j => u j + ((want - tov c f u i) * Fp.inv (tov c f w i)) * w j
theorem mv_there {c : Nat} {f : Nat → Nat → F} {i : Nat} {want : F} {w u : Nat → F} (h0 : tov c f w i ≠ 0) : tov c f (mv c f i want w u) i = want := by
  show tov c f (fun j => u j + ((want - tov c f u i) * Fp.inv (tov c f w i)) * w j) i = want
  rw [tov_more]
  have h1 := inv_mul h0
  generalize Fp.inv (tov c f w i) = v at *
  generalize tov c f w i = t at *
  have : (want - tov c f u i) * v * t = (want - tov c f u i) * (v * t) := by grind
  rw [this, h1]; grind
theorem mv_still {c : Nat} {f : Nat → Nat → F} {i s : Nat} {want : F} {w u : Nat → F} (h0 : tov c f w s = 0) : tov c f (mv c f i want w u) s = tov c f u s := by
  show tov c f (fun j => u j + ((want - tov c f u i) * Fp.inv (tov c f w i)) * w j) s = _
  rw [tov_more, h0]; grind
theorem mv_off {c : Nat} {f : Nat → Nat → F} {i : Nat} {want : F} {w u : Nat → F} {b : List Nat} (hw : Off b c w) (hu : Off b c u) : Off b c (mv c f i want w u) := hu.more hw _

/-- The first i rows are met by x and by what comes of x and the ways, and by nothing else that is nought at the free columns. -/
structure Srch (c : Nat) (f : Nat → Nat → F) (tt0 : Nat → F) (b : List Nat) (i : Nat) (x : Nat → F) (ws : List (Nat → F)) : Prop where
  offx : Off b c x
  offw : ∀ w, w ∈ ws → Off b c w
  solx : ∀ s, s < i → tov c f x s = tt0 s
  solw : ∀ w, w ∈ ws → ∀ s, s < i → tov c f w s = 0
  all : ∀ y, Off b c y → (∀ s, s < i → tov c f y s = tt0 s) → Comb c ws fun j => y j - x j

theorem comb_units (c : Nat) : ∀ (b : List Nat) (y : Nat → F), Off b c y → Comb c (b.map fun k j => if j = k then 1 else 0) y
  | [], y, h => fun j hj => h j hj (by simp)
  | k :: b, y, h => by
    refine ⟨y k, comb_units c b _ fun j hj hb => ?_⟩
    show y j - y k * (if j = k then 1 else 0) = 0
    by_cases e : j = k
    · rw [if_pos e, e]; grind
    · rw [if_neg e, h j hj (by simp [e, hb])]; grind
theorem Srch.start (c : Nat) (f : Nat → Nat → F) (tt0 : Nat → F) (b : List Nat) : Srch c f tt0 b 0 (fun _ => 0) (b.map fun k j => if j = k then 1 else 0) := by
  refine ⟨fun _ _ _ => rfl, fun w hw j hj hb => ?_, fun s hs => absurd hs (by omega), fun w _ s hs => absurd hs (by omega), fun y hy _ => (comb_units c b y hy).congr fun j _ => by grind⟩
  obtain ⟨k, hk, rfl⟩ := List.mem_map.1 hw
  show (if j = k then (1 : F) else 0) = 0
  rw [if_neg fun e => hb (by rw [e]; exact hk)]
theorem Srch.keep {c : Nat} {f : Nat → Nat → F} {tt0 : Nat → F} {b : List Nat} {i : Nat} {x : Nat → F} {ws : List (Nat → F)} (h : Srch c f tt0 b i x ws) (h0 : ∀ w, w ∈ ws → tov c f w i = 0) (hx : tov c f x i = tt0 i) : Srch c f tt0 b (i + 1) x ws :=
  ⟨h.offx, h.offw, fun s hs => by
    by_cases e : s = i
    · rw [e, hx]
    · exact h.solx s (by omega), fun w hw s hs => by
    by_cases e : s = i
    · rw [e, h0 w hw]
    · exact h.solw w hw s (by omega), fun y hy hs => h.all y hy fun s h' => hs s (by omega)⟩
theorem Srch.fail {r c : Nat} {f g : Nat → Nat → F} {tt0 : Nat → F} {b : List Nat} {i : Nat} {x : Nat → F} {ws : List (Nat → F)} (h : Srch c f tt0 b i x ws) (st : Steps r c b g) (e : Req r c f g) (hi : i < r) (h0 : ∀ w, w ∈ ws → tov c f w i = 0) (hx : tov c f x i ≠ tt0 i) : NoAns r c f tt0 := by
  rintro ⟨z, hz⟩
  obtain ⟨y, hy, hyz⟩ := st.off_some e z
  have h1 := (h.all y hy fun s hs => by rw [hyz s (by omega), hz s (by omega)]).still h0
  rw [tov_less, hyz i hi, hz i hi] at h1
  exact hx (by grind)
theorem Srch.move {c : Nat} {f : Nat → Nat → F} {tt0 : Nat → F} {b : List Nat} {i : Nat} {x : Nat → F} {ws : List (Nat → F)} (h : Srch c f tt0 b i x ws) (k : Nat) (hk : k < ws.length) (h0 : tov c f ws[k] i ≠ 0) :
    Srch c f tt0 b (i + 1) (mv c f i (tt0 i) ws[k] x) ((ws.eraseIdx k).map (mv c f i 0 ws[k])) := by
  have hw : ws[k] ∈ ws := List.getElem_mem hk
  have he : ∀ u, u ∈ ws.eraseIdx k → u ∈ ws := fun u hu => (List.eraseIdx_sublist ws k).subset hu
  refine ⟨mv_off (h.offw _ hw) h.offx, fun v hv => ?_, fun s hs => ?_, fun v hv s hs => ?_, fun y hy hs => ?_⟩
  · obtain ⟨u, hu, rfl⟩ := List.mem_map.1 hv
    exact mv_off (h.offw _ hw) (h.offw u (he u hu))
  · by_cases e : s = i
    · rw [e, mv_there h0]
    · rw [mv_still (h.solw _ hw s (by omega)), h.solx s (by omega)]
  · obtain ⟨u, hu, rfl⟩ := List.mem_map.1 hv
    by_cases e : s = i
    · rw [e, mv_there h0]
    · rw [mv_still (h.solw _ hw s (by omega)), h.solw u (he u hu) s (by omega)]
  · obtain ⟨a, h1⟩ := (h.all y hy fun s h' => hs s (by omega)).take k hk
    obtain ⟨d, h2⟩ := Comb.moved ws[k] (fun u => (0 - tov c f u i) * Fp.inv (tov c f ws[k] i)) h1
    have h3 : Comb c ((ws.eraseIdx k).map (mv c f i 0 ws[k])) fun j => (y j - mv c f i (tt0 i) ws[k] x j) + (-(a + d - (tt0 i - tov c f x i) * Fp.inv (tov c f ws[k] i))) * ws[k] j :=
      Comb.congr (c := c) h2 fun j _ => by
        show y j - x j - a * ws[k] j - d * ws[k] j = y j - (x j + ((tt0 i - tov c f x i) * Fp.inv (tov c f ws[k] i)) * ws[k] j) + _
        generalize (tt0 i - tov c f x i) * Fp.inv (tov c f ws[k] i) = q
        generalize ws[k] j = z
        generalize x j = z2
        generalize y j = z3
        grind
    have h4 := h3.still (f := f) (i := i) fun w hw' => by
      obtain ⟨u, hu, rfl⟩ := List.mem_map.1 hw'
      exact mv_there h0
    rw [tov_more, tov_less, mv_there h0, hs i (Nat.lt_succ_self i)] at h4
    have h5 : a + d - (tt0 i - tov c f x i) * Fp.inv (tov c f ws[k] i) = 0 := by
      generalize a + d - (tt0 i - tov c f x i) * Fp.inv (tov c f ws[k] i) = q at *
      generalize tov c f ws[k] i = t at *
      rcases Fp.mul_zero_or (a := q) (b := t) (by grind) with e | e
      · exact e
      · exact absurd e h0
    rw [h5] at h3
    exact h3.congr fun j _ => by grind
theorem Srch.done {r c : Nat} {f : Nat → Nat → F} {tt0 : Nat → F} {b : List Nat} {x : Nat → F} {ws : List (Nat → F)} (h : Srch c f tt0 b r x ws) : Ans r c f tt0 b x := ⟨h.offx, h.solx⟩

/-- The ways as rows of a matrix. -/
def wl (n : Nat) (w : Nat → Nat → F) : List (Nat → F) := (List.range n).map w
theorem len_wl (n : Nat) (w : Nat → Nat → F) : (wl n w).length = n := by simp [wl]
theorem wl_at (n : Nat) (w : Nat → Nat → F) {k : Nat} (hk : k < (wl n w).length) : (wl n w)[k] = w k := by simp [wl]
theorem wl_mem {n : Nat} {w : Nat → Nat → F} {v : Nat → F} : v ∈ wl n w ↔ ∃ k, k < n ∧ w k = v := by simp [wl]
theorem wl_erase (n : Nat) (w : Nat → Nat → F) (k : Nat) (hk : k < n + 1) : (wl (n + 1) w).eraseIdx k = wl n fun i => w (sk k i) := by
  refine List.ext_getElem (by simp [wl, List.length_eraseIdx, hk]) fun i h1 h2 => ?_
  rw [List.getElem_eraseIdx]
  have h3 : i < n := by simpa [wl] using h2
  by_cases e : i < k
  · simp [wl, e, sk]
  · simp [wl, e, sk]
theorem wl_map (n : Nat) (w : Nat → Nat → F) (m : (Nat → F) → Nat → F) : (wl n w).map m = wl n fun i => m (w i) := by simp [wl]
theorem wl_units (b : List Nat) : (b.map fun k j => if j = k then (1 : F) else 0) = wl b.length fun t j => if j = pv b t then 1 else 0 := by
  refine List.ext_getElem (by simp [wl]) fun i h1 h2 => ?_
  have : i < b.length := by simpa using h1
  simp [wl, pv, this]

/-- With one more column. -/
def aug (c : Nat) (f : Nat → Nat → F) (tt0 : Nat → F) : Nat → Nat → F := fun i j => if j = c then tt0 i else f i j
theorem Req.less {r c d : Nat} {f g : Nat → Nat → F} (h : Req r c f g) (hd : d ≤ c) : Req r d f g := by
  obtain ⟨⟨s, hs⟩, ⟨t, ht⟩⟩ := h
  exact ⟨⟨s, fun i j hi hj => hs i j hi (by omega)⟩, ⟨t, fun i j hi hj => ht i j hi (by omega)⟩⟩
theorem aug_less (r c : Nat) (f : Nat → Nat → F) (tt0 : Nat → F) : Eqm r c f (aug c f tt0) := fun i j _ hj => by
  show f i j = if j = c then tt0 i else f i j
  rw [if_neg (by omega)]
theorem aug_tov (c : Nat) (f : Nat → Nat → F) (tt0 : Nat → F) (y : Nat → F) (i : Nat) : tov (c + 1) (aug c f tt0) (fun j => if j = c then -1 else y j) i = tov c f y i - tt0 i := by
  show sg c _ + aug c f tt0 i c * (if c = c then -1 else y c) = _
  rw [if_pos rfl, show aug c f tt0 i c = tt0 i from if_pos rfl]
  have : sg c (fun j => aug c f tt0 i j * (if j = c then -1 else y j)) = tov c f y i := sg_congr fun j hj => by
    rw [if_neg (by omega), show aug c f tt0 i j = f i j from if_neg (by omega)]
  rw [this]; grind
/-- What f takes to to, its steps take to what stands behind them. -/
theorem aug_same {r c : Nat} {f a : Nat → Nat → F} {tt0 : Nat → F} (e : Req r (c + 1) (aug c f tt0) a) (y : Nat → F) : (∀ i, i < r → tov c f y i = tt0 i) ↔ ∀ i, i < r → tov c a y i = a i c := by
  have ha : ∀ i, tov (c + 1) a (fun j => if j = c then -1 else y j) i = tov c a y i - a i c := fun i => by
    have := aug_tov c a (fun i => a i c) y i
    rw [← this]
    refine tov_congr (fun j _ => ?_) fun _ _ => rfl
    show a i j = if j = c then a i c else a i j
    by_cases e : j = c
    · rw [if_pos e, e]
    · rw [if_neg e]
  constructor
  · intro h i hi
    have := tov_come e.2 (v := fun j => if j = c then -1 else y j) (w := fun _ => 0) (fun x hx => by rw [aug_tov, h x hx, tov_none]; grind) hi
    rw [ha, tov_none] at this; grind
  · intro h i hi
    have := tov_come e.1 (v := fun j => if j = c then -1 else y j) (w := fun _ => 0) (fun x hx => by rw [ha, h x hx, tov_none]; grind) hi
    rw [aug_tov, tov_none] at this; grind
/-- The answer read off. -/
def ov (b : List Nat) (a : Nat → Nat → F) (c : Nat) : Nat → Nat → F
  | 0 => fun _ => 0
  | t + 1 => fun j => if j = pv b t then a t c else ov b a c t j
theorem ov_off {b : List Nat} {a : Nat → Nat → F} {c j : Nat} : ∀ t, (∀ s, s < t → j ≠ pv b s) → ov b a c t j = 0
  | 0, _ => rfl
  | t + 1, h => by
    show (if j = pv b t then _ else ov b a c t j) = _
    rw [if_neg (h t (Nat.lt_succ_self t)), ov_off t fun s hs => h s (by omega)]
theorem Steps.ov_piv {r k c : Nat} {b : List Nat} {g a : Nat → Nat → F} (h : Steps r k b g) : ∀ (t : Nat), t ≤ b.length → ∀ s, s < t → ov b a c t (pv b s) = a s c
  | 0, _, s, hs => absurd hs (by omega)
  | t + 1, ht, s, hs => by
    show (if pv b s = pv b t then _ else ov b a c t (pv b s)) = _
    by_cases e : s = t
    · rw [e, if_pos rfl]
    · rw [if_neg fun e' => e (h.inj (by omega) (by omega) e'), h.ov_piv t (by omega) s (by omega)]
theorem aug_ans {r c : Nat} {f a : Nat → Nat → F} {tt0 : Nat → F} {b : List Nat} (h : Steps r c b a) (e : Req r (c + 1) (aug c f tt0) a) (h0 : ∀ i, b.length ≤ i → i < r → a i c = 0) : Ans r c f tt0 b (ov b a c b.length) := by
  have hoff : Off b c (ov b a c b.length) := fun j hj hb => ov_off _ fun s hs e => hb (by rw [e]; exact pv_mem hs)
  refine ⟨hoff, (aug_same e _).2 fun i hi => ?_⟩
  unfold tov
  by_cases hl : i < b.length
  · rw [sg_one (h.lt i hl) fun j hj hne => ?_, h.ov_piv _ (Nat.le_refl _) i hl, h.piv i hl i hi, if_pos rfl]
    · grind
    · by_cases hjb : j ∈ b
      · obtain ⟨t, ht, rfl⟩ := h.mem hjb
        rw [h.piv t ht i hi, if_neg fun e => hne (by rw [e])]; grind
      · rw [hoff j hj hjb]; grind
  · rw [sg_congr (g := fun _ => 0) fun j hj => by rw [h.zero i (by omega) hi j hj]; grind, sg_none, h0 i (by omega) hi]
theorem aug_not {r c : Nat} {f a : Nat → Nat → F} {tt0 : Nat → F} {b : List Nat} (h : Steps r c b a) (e : Req r (c + 1) (aug c f tt0) a) {i : Nat} (hb : b.length ≤ i) (hi : i < r) (h0 : a i c ≠ 0) : NoAns r c f tt0 := by
  rintro ⟨z, hz⟩
  have := (aug_same e z).1 hz i hi
  unfold tov at this
  rw [sg_congr (g := fun _ => 0) fun j hj => by rw [h.zero i hb hi j hj]; grind, sg_none] at this
  exact h0 this.symm
/-- How many steps there are with one more column. -/
theorem aug_rank {r c : Nat} {f g h : Nat → Nat → F} {tt0 : Nat → F} {b d : List Nat} (s : Stair r c c f b g) (t : Stair r (c + 1) (c + 1) (aug c f tt0) d h) :
    ((∃ z : Nat → F, ∀ i, i < r → tov c f z i = tt0 i) → d.length = b.length) ∧ (NoAns r c f tt0 → d.length = b.length + 1) := by
  obtain ⟨b2, a, hs, hr⟩ := steps_some r (c + 1) (aug c f tt0) c (by omega)
  have hfa : Req r c f a := (Req.of r c (aug_less r c f tt0)).trans (hr.less (by omega))
  obtain ⟨rfl, _⟩ := s.steps.unique hs (s.req.symm.trans hfa)
  by_cases h0 : ∀ i, b.length ≤ i → i < r → a i c = 0
  · have hs2 := hs.skip h0
    obtain ⟨rfl, _⟩ := t.steps.unique hs2 (t.req.symm.trans hr)
    exact ⟨fun _ => rfl, fun hn => absurd ⟨_, (aug_ans hs hr h0).sol⟩ hn⟩
  · have : ∃ i, b.length ≤ i ∧ i < r ∧ a i c ≠ 0 := Classical.byContradiction fun hn => h0 fun i h1 h2 => Classical.byContradiction fun h3 => hn ⟨i, h1, h2, h3⟩
    obtain ⟨i, h1, h2, h3⟩ := this
    have hs2 := hs.next h1 h2 h3
    have hle := hs.le
    obtain ⟨rfl, _⟩ := t.steps.unique hs2 ((t.req.symm.trans hr).trans (req_next a (by omega) h2 h3))
    refine ⟨fun hz => absurd hz (aug_not hs hr h1 h2 h3), fun _ => by simp⟩

/-- The rows that are taken to noughts, one behind the other. -/
def nm (b : List Nat) (g : Nat → Nat → F) (c : Nat) : Nat → Nat → F := fun i => nv b g (pv (fr b c) i) b.length
theorem fr_at {b : List Nat} {c i : Nat} (hi : i < (fr b c).length) : pv (fr b c) i < c ∧ pv (fr b c) i ∉ b := fr_mem.1 (pv_mem hi)
theorem fr_inj {b : List Nat} {c i j : Nat} (hi : i < (fr b c).length) (hj : j < (fr b c).length) (e : pv (fr b c) i = pv (fr b c) j) : i = j := by
  have hp := List.pairwise_iff_getElem.1 (fr_pairs b c)
  have e1 : (fr b c)[i] = (fr b c)[j] := by simpa [pv, hi, hj] using e
  rcases Nat.lt_trichotomy i j with h | h | h
  · have := hp i j hi hj h; omega
  · exact h
  · have := hp j i hj hi h; omega
/-- No one of them is made of the others. -/
theorem nm_rank {r c : Nat} {b d : List Nat} {g h : Nat → Nat → F} (s : Stair (fr b c).length c c (nm b g c) d h) : d.length = (fr b c).length := by
  refine Nat.le_antisymm s.le (sees_thru (p := (fr b c).length) ⟨one, fun j i => if j = pv (fr b c) i then 1 else 0, ?_⟩ s.thru)
  refine (one_mul _ _ _).trans fun i j hi hj => ?_
  show sg c (fun x => nm b g c i x * (if x = pv (fr b c) j then 1 else 0)) = one i j
  rw [sg_one (fr_at hj).1 fun x _ hne => by rw [if_neg hne]; grind, if_pos rfl]
  show nv b g (pv (fr b c) i) b.length (pv (fr b c) j) * 1 = _
  rw [nv_free b g _ (fr_at hj).2 (Nat.le_refl _)]
  unfold one
  by_cases e : i = j
  · rw [e, if_pos rfl, if_pos rfl]; grind
  · rw [if_neg fun e' => e (fr_inj hj hi e').symm, if_neg e]; grind
theorem fr_next {b : List Nat} {c k : Nat} (hk : k < c) (hkb : k ∉ b) : (fr b k).length < (fr b c).length ∧ pv (fr b c) (fr b k).length = k := by
  have h : ∀ n, ∃ l, fr b (k + 1 + n) = fr b k ++ k :: l := by
    intro n
    induction n with
    | zero => exact ⟨[], by rw [Nat.add_zero, fr_no hkb]⟩
    | succ n ih =>
      obtain ⟨l, hl⟩ := ih
      by_cases e : k + 1 + n ∈ b
      · exact ⟨l, by rw [← Nat.add_assoc, fr_yes e, hl]⟩
      · exact ⟨l ++ [k + 1 + n], by rw [← Nat.add_assoc, fr_no e, hl]; simp⟩
  obtain ⟨l, hl⟩ := h (c - (k + 1))
  rw [show k + 1 + (c - (k + 1)) = c by omega] at hl
  rw [hl]
  exact ⟨by simp, by simp [pv]⟩

/-- One answer, and so many times what is taken to noughts. -/
def tot (b : List Nat) (g : Nat → Nat → F) (x y : Nat → F) : Nat → Nat → F
  | 0 => y
  | k + 1 => if k ∈ b then tot b g x y k else fun j => tot b g x y k j + x k * nv b g k b.length j
theorem tot_free {b : List Nat} {g : Nat → Nat → F} {x y : Nat → F} {j : Nat} (hj : j ∉ b) : ∀ k, tot b g x y k j = y j + if j < k then x j else 0
  | 0 => by show y j = _; rw [if_neg (by omega)]; grind
  | k + 1 => by
    show (if k ∈ b then tot b g x y k else fun j => tot b g x y k j + x k * nv b g k b.length j) j = _
    by_cases hk : k ∈ b
    · rw [if_pos hk, tot_free hj k]
      have : j ≠ k := fun e => hj (by rw [e]; exact hk)
      by_cases h : j < k
      · rw [if_pos h, if_pos (by omega)]
      · rw [if_neg h, if_neg (by omega)]
    · rw [if_neg hk]
      show tot b g x y k j + x k * nv b g k b.length j = _
      rw [tot_free hj k, nv_free b g k hj (Nat.le_refl _)]
      by_cases e : j = k
      · rw [if_pos e, if_neg (by omega), if_pos (by omega), e]; grind
      · rw [if_neg e]
        by_cases h : j < k
        · rw [if_pos h, if_pos (by omega)]; grind
        · rw [if_neg h, if_neg (by omega)]; grind
theorem tot_sol {r c : Nat} {b : List Nat} {f g : Nat → Nat → F} {x y : Nat → F} (h : Steps r c b g) (e : Req r c f g) {i : Nat} (hi : i < r) : ∀ k, k ≤ c → tov c f (tot b g x y k) i = tov c f y i
  | 0, _ => rfl
  | k + 1, hk => by
    show tov c f (if k ∈ b then tot b g x y k else fun j => tot b g x y k j + x k * nv b g k b.length j) i = _
    by_cases hkb : k ∈ b
    · rw [if_pos hkb, tot_sol h e hi k (by omega)]
    · rw [if_neg hkb, tov_more, tot_sol h e hi k (by omega), h.nv_zero e (by omega) hkb hi]; grind
theorem tot_all {r c : Nat} {b : List Nat} {f g : Nat → Nat → F} {x y : Nat → F} (s : Stair r c c f b g) (hy : Ans r c f (tov c f x) b y) : ∀ j, j < c → tot b g x y c j = x j := fun j hj => by
  have h := s.steps.off_zero s.req (v := fun j => tot b g x y c j - x j) (fun j hj hb => by
    show tot b g x y c j - x j = 0
    rw [tot_free hb, hy.off j hj hb, if_pos hj]; grind) (fun i hi => by rw [tov_less, tot_sol s.steps s.req hi c (Nat.le_refl _), hy.sol i hi]; grind) j hj
  have h : tot b g x y c j - x j = 0 := h
  grind
end Go.Proofs.Ytldkamhknaflbaa.Mx

/- Contracts of package solve, first part: what keeps what, unit, checkSide, the function that valueOf makes. -/
namespace Go.Proofs.Ytldkamhknaflbaa
open Go.ChangeShapes Go.WideShapes Go.ChangeAt Go.RowKit
set_option linter.unusedVariables false

/-- Nothing but what stands in some blocks has turned. -/
structure Save (S : Nat → Prop) (w w' : World) : Prop where
  os : w'.os = w.os
  tape : w'.tape = w.tape
  output : w'.output = w.output
  size : w.heap.size ≤ w'.heap.size
  block : ∀ b, b < w.heap.size → ¬ S b → w'.heap[b]? = w.heap[b]?
theorem Save.of {S : Nat → Prop} {w w' : World} (h : Kp w w') : Save S w w' := ⟨h.os, h.tape, h.output, h.size, fun b hb _ => h.block b hb⟩
theorem Save.refl (S : Nat → Prop) (w : World) : Save S w w := Save.of (Kp.rfl' w)
theorem Save.trans {S : Nat → Prop} {a b c : World} (h : Save S a b) (k : Save S b c) : Save S a c :=
  ⟨k.os.trans h.os, k.tape.trans h.tape, k.output.trans h.output, Nat.le_trans h.size k.size, fun i hi hn => (k.block i (Nat.lt_of_lt_of_le hi h.size) hn).trans (h.block i hi hn)⟩
theorem Save.drewN {S : Nat → Prop} {a b : World} (h : Save S a b) (n : Nat) : Save S a (b.drewN n) := h.trans (Save.of ((Kp.rfl' b).drewN n))
theorem Save.put {S : Nat → Prop} {a b : World} (h : Save S a b) {p : Addr} (hp : S p.block) (u : Value) : Save S a (b.setCell p u) :=
  h.trans ⟨rfl, rfl, rfl, by simp [World.setCell], fun k _ hn => Below.heap_setCell _ _ _ _ (fun e => hn (by rw [e]; exact hp))⟩
theorem Save.below {S : Nat → Prop} {B : Nat} {w0 w w' : World} (h : Save S w w') (hb : Below B w0 w) (hB : B ≤ w.heap.size) (hS : ∀ b, S b → B ≤ b) : Below B w0 w' :=
  hb.trans ⟨h.os, h.tape, h.output, h.size, fun k hk => h.block k (by omega) fun e => by have := hS k e; omega⟩
theorem Save.cell {S : Nat → Prop} {w w' : World} (h : Save S w w') {a : Addr} {v : Value} (hc : w.cell? a = some v) (hn : ¬ S a.block) : w'.cell? a = some v :=
  (World.cell?_of_block (w := w) (h.block a.block (cell_lt hc) hn)).trans hc
theorem ownsRow_save {S : Nat → Prop} {w w' : World} {B n : Nat} {e : TypeId} {v : Value} {xs : List Value} (h : w.ownsRow B e 1 v n xs) (hk : Save S w w') (hn : ∀ b, v.ownBlock = some b → ¬ S b) : w'.ownsRow B e 1 v n xs := by
  obtain ⟨h1, h2⟩ := h
  refine ⟨h1, ?_⟩
  rcases h2 with h2 | ⟨g, cap, cur, rfl, hg, hh, r⟩
  · exact .inl h2
  · refine .inr ⟨g, cap, cur, rfl, hg, ?_, r⟩
    rw [hk.block g ?_ (hn g rfl)]; exact hh
    rcases Nat.lt_or_ge g w.heap.size with hlt | hge
    · exact hlt
    · rw [Array.getElem?_eq_none hge] at hh; cases hh
theorem Own.save {S : Nat → Prop} {w w' : World} {B : Nat} {v : Value} {l : List Int} (h : Own w B v l) (hk : Save S w w') (hn : ∀ b, v.ownBlock = some b → ¬ S b) : Own w' B v l := ownsRow_save h hk hn
theorem OwnM.save {S : Nat → Prop} {w w' : World} {B : Nat} {v : Value} {G C : Nat → Nat} {m : List (List Int)} (h : OwnM w B v G C m) (hk : Save S w w') (hn : ∀ b, v.ownBlock = Option.some b → ¬ S b) (hr : ∀ i, i < m.length → ¬ S (G i)) : OwnM w' B v G C m :=
  ⟨ownsRow_save h.top hk hn, fun i hi => (h.row i hi).save hk fun b hb => by
    have : G i = b := Option.some.inj hb
    rw [← this]; exact hr i hi, h.apart⟩

/-- A row of numbers of the field. -/
abbrev rowF (c : Nat) (u : Nat → Fp.F) : List Int := Mx.row c fun j => ((u j).val : Int)
theorem matl_row {n c : Nat} (W : Nat → Nat → Fp.F) {k : Nat} (hk : k < n) : (Mx.matl n c W).getD k [] = rowF c (W k) := Mx.tab_at _ _ _ _ hk

theorem more_mod (s a b : Fp.F) : ((s.val : Int) + (a.val : Int) * (b.val : Int)).tmod 9973 = ((s + a * b).val : Int) := by
  have h := times_bound a b
  rw [Int.tmod_eq_emod_of_nonneg (by have := gval s; omega), Mx.val_more]
theorem sub_mod (a b : Fp.F) : ((a.val : Int) - (b.val : Int) + 9973).tmod 9973 = ((a - b).val : Int) := by
  have h1 := gval a
  have h2 := gval b
  rw [Int.tmod_eq_emod_of_nonneg (by omega), ← Fp.ofInt_val]
  have h : Fp.ofInt ((a.val : Int) - (b.val : Int) + 9973) + b = a := by
    have := Fp.ofInt_add ((a.val : Int) - (b.val : Int) + 9973) (b.val : Int)
    rw [Fp.ofInt_self, show (a.val : Int) - (b.val : Int) + 9973 + (b.val : Int) = (a.val : Int) + 9973 by omega, Fp.ofInt_add, Fp.ofInt_self, show Fp.ofInt 9973 = 0 from rfl] at this
    rw [← this]; grind
  have : Fp.ofInt ((a.val : Int) - (b.val : Int) + 9973) = a - b := by rw [← h]; grind
  rw [this]

/-- The function that valueOf made stands over row i of f: its box names the row, which lies in what was there. -/
structure Val (w : World) (gp B0 c : Nat) (f : Nat → Nat → Fp.F) (i : Nat) : Prop where
  ex : ∃ A1 d1, w.cell? ⟨gp, 0, none⟩ = some (.slice A1 c d1) ∧ LiesIn w B0 A1 (rowF c (f i))
theorem Val.save {S : Nat → Prop} {w w' : World} {gp B0 c : Nat} {f : Nat → Nat → Fp.F} {i : Nat} (h : Val w gp B0 c f i) (hk : Save S w w') (hg : ¬ S gp) (hS : ∀ b, S b → B0 ≤ b) (hB : B0 ≤ w.heap.size) : Val w' gp B0 c f i := by
  obtain ⟨A1, d1, h1, h2⟩ := h.ex
  exact ⟨A1, d1, hk.cell h1 hg, h2.below (hk.below (Below.refl B0 w) hB hS)⟩
theorem Val.keep {w w' : World} {gp B0 c : Nat} {f : Nat → Nat → Fp.F} {i : Nat} (h : Val w gp B0 c f i) (hk : Kp w w') (hB : B0 ≤ w.heap.size) : Val w' gp B0 c f i :=
  h.save (Save.of (S := fun _ => False) hk) (fun h => h) (fun _ h => h.elim) hB

set_option maxRecDepth 100000 in
theorem valueOf_any (A1 : Option Addr) (c d1 : Nat) (w : World) :
    Calls Try.prog 37 #[.slice A1 c d1] w fun e w' =>
      e = .returned (.func (.func 54) #[] #[.pointer (some ⟨w.heap.size, 0, none⟩)]) ∧ w'.cell? ⟨w.heap.size, 0, none⟩ = some (.slice A1 c d1) ∧ Kp w w' := by
  go_enter Try.func37, Try.ntmps37
  go_wp2_with fail
  go_ret
  exact ⟨rfl, cell_made w _ _ _ 0 rfl, (Kp.rfl' w).new _⟩

set_option maxRecDepth 100000 in
set_option maxHeartbeats 1600000 in
theorem value_any (A : Option Addr) (gp B0 c d i : Nat) (f : Nat → Nat → Fp.F) (u : Nat → Fp.F) (w : World) (hc : c ≤ 1000) (h : Val w gp B0 c f i) (hB : B0 ≤ w.heap.size) (hu : Lies w A (rowF c u)) :
    Calls Try.prog 54 #[.slice A c d, .pointer (some ⟨gp, 0, none⟩)] w fun e w' => e = .returned (.int .i64 ((Mx.tov c f u i).val : Int)) ∧ w = w' := by
  obtain ⟨A1, d1, y1, hl⟩ := h.ex
  have HR := Lib.hid (hl.lies hB)
  have HU := Lib.hid hu
  have HT := Lib.hid (show Mx.tov c f u i = Mx.sg c fun j => f i j * u j from rfl)
  clear h hl hu hB
  generalize Mx.tov c f u i = tt at *
  go_enter Try.func54, Try.ntmps54
  go_wp2_with fail
  go_loop [4, 9] (fun s j => ∃ k : Nat, k ≤ c ∧ j = .int .i64 (k : Int) ∧ s = .int .i64 ((Mx.sg k fun j => f i j * u j).val : Int)) (fun _ j => c - (intOf j).toNat)
  case atStart => exact ⟨0, Nat.zero_le _, rfl, rfl⟩
  case round =>
    obtain ⟨k, hk, rfl, rfl⟩ := hrel
    by_cases hlt : k < c
    · obtain ⟨ad1, rfl, _, x1⟩ := HR.out.el hlt
      obtain ⟨ad2, rfl, _, x2⟩ := HU.out.el hlt
      have hm := more_mod (Mx.sg k fun j => f i j * u j) (f i k) (u k)
      have hb := times_bound (f i k) (u k)
      have hs := gval (Mx.sg k fun j => f i j * u j)
      obtain ⟨z, hz⟩ : ∃ z, z = (((Mx.sg k fun j => f i j * u j) + f i k * u k : Fp.F).val : Int) := ⟨_, rfl⟩
      rw [← hz] at hm
      have HZ := Lib.hid (show z = ((Mx.sg (k + 1) fun j => f i j * u j).val : Int) from hz)
      clear hz
      generalize ((Mx.sg k fun j => f i j * u j).val : Int) = s at *
      generalize ((f i k).val : Int) = a at *
      generalize ((u k).val : Int) = b at *
      have hwm : IntKind.i64.wrap (a * b) = a * b := IntWalk.i64_in _ (by omega)
      have hwa : IntKind.i64.wrap (s + a * b) = s + a * b := IntWalk.i64_in _ (by omega)
      go_wp2_with fail
      go_round
      case rel => exact ⟨k + 1, by omega, by go_num, by rw [HZ.out]⟩
      case measure => simp [intOf]; omega
    · obtain rfl : k = c := by omega
      rw [← HT.out]
      go_wp2_with fail
      go_ret
      exact ⟨rfl, rfl⟩

set_option maxRecDepth 100000 in
theorem moves_any (A : Option Addr) (gb gp B0 c d i : Nat) (f : Nat → Nat → Fp.F) (u : Nat → Fp.F) (w : World) (hc : c ≤ 1000) (hb : w.cell? ⟨gb, 0, none⟩ = some (.func (.func 54) #[] #[.pointer (some ⟨gp, 0, none⟩)]))
    (h : Val w gp B0 c f i) (hB : B0 ≤ w.heap.size) (hu : Lies w A (rowF c u)) :
    Calls Try.prog 51 #[.slice A c d, .pointer (some ⟨gb, 0, none⟩)] w fun e w' => e = .returned (.bool (((Mx.tov c f u i).val : Int) != 0)) ∧ w = w' := by
  have V := Lib.hid (value_any A gp B0 c d i f u w hc h hB hu)
  clear h hu hB
  generalize ((Mx.tov c f u i).val : Int) = z at *
  go_enter Try.func51, Try.ntmps51
  go_wp2_with fail
  refine (V.out).mono ?_; rintro e w' ⟨rfl, rfl⟩
  go_wp2_with fail
  go_ret
  exact ⟨rfl, rfl⟩

set_option maxRecDepth 100000 in
set_option maxHeartbeats 1600000 in
/-- The first way that moves. -/
theorem ways_any (A : Option Addr) (gb gp B0 n c d i : Nat) (f W : Nat → Nat → Fp.F) (w : World) (hc : c ≤ 1000) (hn : n ≤ 1000) (hb : w.cell? ⟨gb, 0, none⟩ = some (.func (.func 54) #[] #[.pointer (some ⟨gp, 0, none⟩)]))
    (h : Val w gp B0 c f i) (hB : B0 ≤ w.heap.size) (hw : LiesM w A (Mx.matl n c W)) :
    Calls Try.prog 50 #[.slice A n d, .func (.func 51) #[] #[.pointer (some ⟨gb, 0, none⟩)]] w fun e w' =>
      ((∃ k : Nat, k < n ∧ Mx.tov c f (W k) i ≠ 0 ∧ e = .returned (.int .i64 (k : Int))) ∨ ((∀ k, k < n → Mx.tov c f (W k) i = 0) ∧ e = .returned (.int .i64 (-1)))) ∧ w = w' := by
  have MV := Lib.hid (fun (A : Option Addr) (d : Nat) (u : Nat → Fp.F) (hu : Lies w A (rowF c u)) => moves_any A gb gp B0 c d i f u w hc hb h hB hu)
  have HW := Lib.hid hw
  clear hb h hB hw
  go_enter Try.func50, Try.ntmps50
  go_wp2_with fail
  go_loop [8] (fun j => ∃ k : Nat, k ≤ n ∧ j = .int .i64 (k : Int) ∧ ∀ t, t < k → Mx.tov c f (W t) i = 0) (fun j => n - (intOf j).toNat)
  case atStart => exact ⟨0, Nat.zero_le _, rfl, fun t ht => absurd ht (by omega)⟩
  case round =>
    obtain ⟨k, hk, rfl, hz⟩ := hrel
    have HZ := Lib.hid hz
    clear hz
    by_cases hlt : k < n
    · obtain ⟨ad, A1, d1, rfl, _, x1, _, l1⟩ := HW.out.row hlt
      have M := Lib.hid (MV.out A1 d1 (W k) l1)
      clear l1
      by_cases h0 : Mx.tov c f (W k) i = 0
      · rw [h0, show ((((0 : Fp.F).val : Nat) : Int) != 0) = false from rfl] at M
        have HZ2 := Lib.hid (show ∀ t, t < k + 1 → Mx.tov c f (W t) i = 0 from fun t ht => by
          by_cases e : t = k
          · rw [e]; exact h0
          · exact HZ.out t (by omega))
        clear h0
        go_wp2_with fail
        refine (M.out).mono ?_; rintro e w' ⟨rfl, rfl⟩
        go_wp2_with fail
        go_round
        case rel => exact ⟨k + 1, by omega, by go_num, HZ2.out⟩
        case measure => simp [intOf]; omega
      · have HN := Lib.hid h0
        have hv := Fp.ne_val h0
        rw [show (((Mx.tov c f (W k) i).val : Int) != 0) = true by rw [bne_iff_ne]; omega] at M
        clear h0 hv
        go_wp2_with fail
        refine (M.out).mono ?_; rintro e w' ⟨rfl, rfl⟩
        go_wp2_with fail
        go_ret
        exact ⟨.inl ⟨k, hlt, HN.out, rfl⟩, rfl⟩
    · obtain rfl : k = n := by omega
      go_wp2_with fail
      go_ret
      exact ⟨.inr ⟨HZ.out, rfl⟩, rfl⟩

set_option maxRecDepth 100000 in
set_option maxHeartbeats 1600000 in
theorem unit_any (c j : Nat) (w : World) (hc : c ≤ 1000) (hj : j < c) :
    Calls Try.prog 35 #[.int .i64 (c : Int), .int .i64 (j : Int)] w fun e w' =>
      ∃ g, e = .returned (.slice (some ⟨g, 0, none⟩) c c) ∧ w.heap.size ≤ g ∧ Row w' g (rowF c fun k => if k = j then 1 else 0) ∧ Kp w w' := by
  obtain ⟨i0, hi, hz0, hz1, hz2⟩ := info_parts int_info
  go_enter Try.func35, Try.ntmps35
  go_wp2_with (at_make; refine wpList_make_full _ rfl _ _ 22 rfl w.heap.size 3 i0 (.int .i64 0) 1 Try.underlying22 hi hz0 hz1 _ _ _ _ c rfl rfl rfl rfl (by rw [hz2]; omega) (by unfold maxLen; omega) (Nat.le_refl _) ?_; intro w2 hown hgrow; have hkp2 : Kp w w2 := (Kp.rfl' w).grown hgrow (by simp) (fun k hk => by cases hk); have hrow := row_made hown; have hcell := hrow.cell j (by rw [List.length_replicate]; exact hj); have hfree := hrow.free j)
  go_ret
  refine ⟨w.heap.size, rfl, Nat.le_refl _, ?_, hkp2.put (p := ⟨w.heap.size, j, none⟩) (Nat.le_refl _) _⟩
  have := hrow.put j 1
  rw [Mx.row_rep, Mx.row_set] at this
  rw [show rowF c (fun k => if k = j then 1 else 0) = Mx.row c fun k => if k = j then 1 else 0 from Mx.row_ext fun k _ => by
    by_cases e : k = j
    · simp only [if_pos e]; rfl
    · simp only [if_neg e]; rfl]
  exact this

set_option maxRecDepth 100000 in
set_option maxHeartbeats 800000 in
theorem checkSide_any (A : Option Addr) (l : List Int) (n d c : Nat) (w : World) (ha : Lies w A l) (hn : l.length = n) (hb : c ≤ 1000) :
    Calls Try.prog 34 #[.slice A n d, .int .i64 (c : Int)] w fun e w' => e = .returned (errOf (Mx.rcode 0 9972 c l)) ∧ w = w' := by
  have HA := Lib.hid ha
  have HN := Lib.hid hn
  obtain ⟨v, hv⟩ : ∃ v, v = Mx.rcode 0 9972 c l := ⟨_, rfl⟩
  by_cases hc : n = c
  · subst hc
    have RNG := Lib.hid (fun (k : Nat) (hk : k < n) h2 => hv.trans (Mx.rcode_bad hn (k := k) (by omega) h2))
    have OKS := Lib.hid (fun h2 => hv.trans (Mx.rcode_ok (lo := 0) (hi := 9972) hn h2))
    rw [← hv]
    have e1 : ((n : Int) != (n : Int)) = false := by simp
    clear ha hn hv
    go_enter Try.func34, Try.ntmps34
    go_wp2_with fail
    go_loop [14] (fun i => ∃ k : Nat, k ≤ n ∧ i = .int .i64 (k : Int) ∧ ∀ j, j < k → 0 ≤ l.getD j 0 ∧ l.getD j 0 ≤ 9972) (fun i => n - (intOf i).toNat)
    case atStart => exact ⟨0, Nat.zero_le _, rfl, fun j hj => absurd hj (by omega)⟩
    case round =>
      obtain ⟨k, hk, rfl, hg⟩ := hrel
      have HG := Lib.hid hg
      clear hg
      by_cases hlt : k < n
      · obtain ⟨ad, rfl, _, hcx⟩ := HA.out k (by have := HN.out; omega)
        obtain ⟨x, hx⟩ : ∃ x, x = l.getD k 0 := ⟨_, rfl⟩
        rw [← hx] at hcx
        by_cases x0 : x < 0
        · have E := Lib.hid (RNG.out k hlt (by rw [← hx]; omega))
          clear hx
          go_wp2_with fail
          go_ret
          exact ⟨by rw [E.out]; rfl, rfl⟩
        · by_cases x1 : 9973 ≤ x
          · have E := Lib.hid (RNG.out k hlt (by rw [← hx]; omega))
            clear hx
            go_wp2_with fail
            go_ret
            exact ⟨by rw [E.out]; rfl, rfl⟩
          · have GG := Lib.hid (show ∀ j, j < k + 1 → 0 ≤ l.getD j 0 ∧ l.getD j 0 ≤ 9972 from fun j hj => by
              by_cases e : j = k
              · subst e; rw [← hx]; omega
              · exact HG.out j (by omega))
            clear hx
            go_wp2_with fail
            go_round
            case rel => exact ⟨k + 1, by omega, by go_num, GG.out⟩
            case measure => simp [intOf]; omega
      · have E := Lib.hid (OKS.out (fun j hj => HG.out j (by have := HN.out; omega)))
        go_wp2_with fail
        go_ret
        exact ⟨by rw [E.out]; rfl, rfl⟩
  · have E := Lib.hid (hv.trans (Mx.rcode_len (lo := 0) (hi := 9972) (by omega : l.length ≠ c)))
    rw [← hv]
    have e1 : ((n : Int) != (c : Int)) = true := by rw [bne_iff_ne]; omega
    clear ha hn hv hc
    go_enter Try.func34, Try.ntmps34
    go_wp2_with fail
    go_ret
    exact ⟨by rw [E.out]; rfl, rfl⟩
end Go.Proofs.Ytldkamhknaflbaa

/- Plain facts on rows that go on by factors: the step as a matrix that moves the numbers on by one place, its powers, rows written as far as a place. No program is named here. -/
namespace Go.Proofs.Ytldkamhknaflbaa
open Fp
set_option linter.unusedVariables false

namespace Mx
/-- Turned round, a sum is the same. -/
theorem sg_back : ∀ (n : Nat) (g : Nat → F), (sg n fun j => g (n - 1 - j)) = sg n g
  | 0, _ => rfl
  | n + 1, g => by
    rw [sg_first]
    have h := sg_back n g
    rw [sg_succ, ← h, show n + 1 - 1 - 0 = n by omega, sg_congr (g := fun j => g (n - 1 - j)) fun j hj => by rw [show n + 1 - 1 - (j + 1) = n - 1 - j by omega]]
    grind
/-- The step that moves the numbers on by one place. -/
def stp (n : Nat) (c : Nat → F) : Nat → Nat → F := fun i j => if i + 1 = n then c (n - 1 - j) else if j = i + 1 then 1 else 0
theorem stp_step {n : Nat} {c x : Nat → F} (hx : Goes n c x) (i : Nat) {a : Nat} (ha : a < n) : (sg n fun b => stp n c a b * x (i + b)) = x (i + 1 + a) := by
  by_cases e : a + 1 = n
  · rw [hx (i + 1 + a) (by omega), ← sg_back n fun k => c k * x (i + 1 + a - 1 - k)]
    exact sg_congr fun k hk => by
      unfold stp; rw [if_pos e, show i + 1 + a - 1 - (n - 1 - k) = i + k by omega]
  · rw [sg_one (k := a + 1) (by omega) fun j hj hne => by unfold stp; rw [if_neg e, if_neg hne]; grind]
    unfold stp
    rw [if_neg e, if_pos rfl, show i + (a + 1) = i + 1 + a by omega]; grind
/-- Its powers tell the row. -/
theorem stp_pow {n : Nat} {c x : Nat → F} (hx : Goes n c x) : ∀ (k i a : Nat), a < n → (sg n fun b => pwm n (stp n c) k a b * x (i + b)) = x (i + k + a)
  | 0, i, a, ha => by
    rw [sg_one ha fun j hj hne => by
      show (if a = j then (1 : F) else 0) * _ = 0
      rw [if_neg fun e => hne e.symm]; grind]
    show (if a = a then (1 : F) else 0) * _ = _
    rw [if_pos rfl, Nat.add_zero]; grind
  | k + 1, i, a, ha => by
    have h1 : (sg n fun b => pwm n (stp n c) (k + 1) a b * x (i + b)) = sg n fun b => mul n (pwm n (stp n c) k) (stp n c) a b * x (i + b) := sg_congr fun b hb => by
      rw [← pwm_snoc n (stp n c) k a b ha hb]
    have h2 : (sg n fun b => mul n (pwm n (stp n c) k) (stp n c) a b * x (i + b)) = sg n fun t => pwm n (stp n c) k a t * sg n fun b => stp n c t b * x (i + b) := by
      rw [sg_congr (g := fun b => sg n fun t => pwm n (stp n c) k a t * (stp n c t b * x (i + b))) fun b _ => by
        unfold mul; rw [← sg_by]; exact sg_congr fun t _ => by grind, sg_swap]
      exact sg_congr fun t _ => by rw [sg_times]
    rw [h1, h2, sg_congr (g := fun t => pwm n (stp n c) k a t * x (i + 1 + t)) fun t ht => by rw [stp_step hx i ht], stp_pow hx k (i + 1) a ha]
    congr 1; omega
/-- The number at a place is told by the first row of the step's power. -/
theorem stp_term {n : Nat} {c s : Nat → F} (hn : 0 < n) (k : Nat) : (sg n fun b => pwm n (stp n c) k 0 b * s b) = sq n c s k := by
  have h := stp_pow (sq_goes n c s hn) k 0 0 hn
  rw [show 0 + k + 0 = k by omega] at h
  rw [← h]
  exact sg_congr fun b hb => by rw [show 0 + b = b by omega, sq_start n c s hb]
end Mx

/-- The first i numbers of x, then noughts. -/
def far (x : Nat → Fp.F) (i : Nat) : Nat → Fp.F := fun j => if j < i then x j else 0
theorem far_step (x : Nat → Fp.F) {N i : Nat} (h : i < N) : (rowF N (far x i)).set i ((x i).val : Int) = rowF N (far x (i + 1)) := by
  unfold rowF
  rw [Mx.row_set]
  refine Mx.row_ext fun j hj => ?_
  unfold far
  by_cases e : j = i
  · subst e; rw [if_pos rfl, if_pos (by omega)]
  · rw [if_neg e]
    by_cases e2 : j < i
    · rw [if_pos e2, if_pos (by omega)]
    · rw [if_neg e2, if_neg (by omega)]
theorem far_all (x : Nat → Fp.F) (N : Nat) : rowF N (far x N) = rowF N x := Mx.row_ext fun j hj => by unfold far; rw [if_pos hj]
theorem far_take (x : Nat → Fp.F) {N i : Nat} (h : i ≤ N) : (rowF N (far x i)).take i = rowF i x := by
  refine List.ext_getElem (by rw [List.length_take, Mx.len_row, Mx.len_row]; omega) fun j h1 h2 => ?_
  rw [Mx.len_row] at h2
  simp [rowF, Mx.row, far, h2]
theorem far_start (s x : Nat → Fp.F) {N n m : Nat} (hm : m = min N n) (h : ∀ j, j < m → x j = s j) : (rowF n s).take m ++ List.replicate (N - m) 0 = rowF N (far x m) := by
  refine List.ext_getElem (by simp [rowF, Mx.row]; omega) fun j h1 h2 => ?_
  rw [Mx.len_row] at h2
  by_cases e : j < m
  · rw [List.getElem_append_left (by simp [rowF, Mx.row]; omega)]
    simp [rowF, Mx.row, far, e, h j e]
  · rw [List.getElem_append_right (by simp [rowF, Mx.row]; omega)]
    simp [rowF, Mx.row, far, e]

/-- What is wrong with factors and a beginning, as a number. -/
noncomputable def rcd (L S : List Int) : Nat :=
  open Classical in if L.length = 0 then 5 else if 5 < L.length then 4 else if S.length ≠ L.length then 3 else if ¬ (AllIn L 0 9972 ∧ AllIn S 0 9972) then 1 else 0
theorem rcd_none {L S : List Int} (h : L.length = 0) : rcd L S = 5 := by unfold rcd; rw [if_pos h]
theorem rcd_full {L S : List Int} (h : 5 < L.length) : rcd L S = 4 := by unfold rcd; rw [if_neg (by omega), if_pos h]
theorem rcd_shape {L S : List Int} (h0 : L.length ≠ 0) (h : ¬ 5 < L.length) (h1 : S.length ≠ L.length) : rcd L S = 3 := by unfold rcd; rw [if_neg h0, if_neg h, if_pos h1]
theorem rcd_range {L S : List Int} (h0 : L.length ≠ 0) (h : ¬ 5 < L.length) (h1 : S.length = L.length) (h3 : ¬ (AllIn L 0 9972 ∧ AllIn S 0 9972)) : rcd L S = 1 := by
  unfold rcd; rw [if_neg h0, if_neg h, if_neg (by omega), if_pos h3]
theorem rcd_ok {L S : List Int} (h0 : L.length ≠ 0) (h : ¬ 5 < L.length) (h1 : S.length = L.length) (h3 : AllIn L 0 9972) (h4 : AllIn S 0 9972) : rcd L S = 0 := by
  unfold rcd; rw [if_neg h0, if_neg h, if_neg (by omega), if_neg (fun e => e ⟨h3, h4⟩)]
theorem rcd_some (L S : List Int) : rcd L S = 0 ∨ rcd L S = 1 ∨ rcd L S = 3 ∨ rcd L S = 4 ∨ rcd L S = 5 := by
  unfold rcd; repeat' split
  all_goals simp
theorem rcd_zero {L S : List Int} (h : rcd L S = 0) : L.length ≠ 0 ∧ L.length ≤ 5 ∧ S.length = L.length ∧ AllIn L 0 9972 ∧ AllIn S 0 9972 := by
  by_cases h0 : L.length = 0
  · rw [rcd_none h0] at h; cases h
  · by_cases h1 : 5 < L.length
    · rw [rcd_full h1] at h; cases h
    · by_cases h2 : S.length = L.length
      · by_cases h3 : AllIn L 0 9972 ∧ AllIn S 0 9972
        · exact ⟨h0, by omega, h2, h3⟩
        · rw [rcd_range h0 h1 h2 h3] at h; cases h
      · rw [rcd_shape h0 h1 h2] at h; cases h

/-- Factors and a beginning, as many. -/
structure Rc (n : Nat) (c s : Nat → Fp.F) (L S : List Int) : Prop where
  fac : L = rowF n c
  beg : S = rowF n s
  pos : 0 < n
  le : n ≤ 5
theorem rrow_of {l : List Int} (h : AllIn l 0 9972) : ∃ t : Nat → Fp.F, l = rowF l.length t := by
  refine ⟨fun j => Fp.ofInt (l.getD j 0), ?_⟩
  refine (Mx.is_row l).trans (Mx.row_ext fun k hk => ?_)
  show l.getD k 0 = ((Fp.ofInt (l.getD k 0)).val : Int)
  rw [Fp.ofInt_val]
  have := h k hk
  omega
theorem rrow_in (q : Nat) (t : Nat → Fp.F) : AllIn (rowF q t) 0 9972 := fun k hk => by
  rw [Mx.len_row] at hk
  rw [Mx.row_at _ _ _ hk]
  exact Fp.val_bound (t k)
theorem rc_or (L S : List Int) : (∃ n c s, Rc n c s L S) ∨ rcd L S ≠ 0 := by
  by_cases h : rcd L S = 0
  · obtain ⟨h0, h1, h2, h3, h4⟩ := rcd_zero h
    obtain ⟨c, hc⟩ := rrow_of h3
    obtain ⟨s, hs⟩ := rrow_of h4
    rw [h2] at hs
    exact .inl ⟨L.length, c, s, hc, hs, by omega, h1⟩
  · exact .inr h
theorem Rc.code {n : Nat} {c s : Nat → Fp.F} {L S : List Int} (h : Rc n c s L S) : rcd L S = 0 := by
  have h1 := h.le
  have h2 := h.pos
  have e1 : L.length = n := by rw [h.fac, Mx.len_row]
  have e2 : S.length = n := by rw [h.beg, Mx.len_row]
  refine rcd_ok (by omega) (by omega) (by omega) ?_ ?_
  · rw [h.fac]; exact rrow_in _ _
  · rw [h.beg]; exact rrow_in _ _

end Go.Proofs.Ytldkamhknaflbaa

/- Plain facts on the numbers of a Vandermonde matrix: what is wrong with them as a number, the pairs of different places, the product of all differences as it is made pair by pair. No program is named here. -/
namespace Go.Proofs.Ytldkamhknaflbaa
open Fp
set_option linter.unusedVariables false

namespace Mx
/-- The first m places of row k behind the diagonal. -/
def urow (c k m : Nat) : List Nat := (List.range m).map fun t => k * c + (k + 1 + t)
/-- The places of the first k rows behind the diagonal. -/
def ups (c : Nat) : Nat → List Nat
  | 0 => []
  | k + 1 => ups c k ++ urow c k (c - (k + 1))
theorem urow_zero (c k : Nat) : urow c k 0 = [] := rfl
theorem urow_succ (c k m : Nat) : urow c k (m + 1) = urow c k m ++ [k * c + (k + 1 + m)] := by unfold urow; rw [List.range_succ, List.map_append]; rfl
theorem len_urow (c k m : Nat) : (urow c k m).length = m := by unfold urow; rw [List.length_map, List.length_range]
theorem len_ups (c : Nat) : ∀ k, (ups c k).length ≤ k * c
  | 0 => by simp [ups]
  | k + 1 => by
    have := len_ups c k
    show (ups c k ++ urow c k (c - (k + 1))).length ≤ _
    rw [List.length_append, len_urow, Nat.add_mul, Nat.one_mul]
    omega

/-- A product over a list of places. -/
def lpr (g : Nat → F) (l : List Nat) : F := l.foldl (fun s k => s * g k) 1
theorem lpr_nil (g : Nat → F) : lpr g [] = 1 := rfl
theorem lpr_snoc (g : Nat → F) (l : List Nat) (k : Nat) : lpr g (l ++ [k]) = lpr g l * g k := by unfold lpr; rw [List.foldl_append]; rfl
theorem lpr_urow (g : Nat → F) (l : List Nat) (c k : Nat) : ∀ m, lpr g (l ++ urow c k m) = lpr g l * pr m fun t => g (k * c + (k + 1 + t))
  | 0 => by rw [urow_zero, List.append_nil]; show _ = lpr g l * 1; grind
  | m + 1 => by
    rw [urow_succ, ← List.append_assoc, lpr_snoc, lpr_urow g l c k m, pr_last]
    grind
theorem lpr_ups (g : Nat → F) (c : Nat) : ∀ k, lpr g (ups c k) = pr k fun i => pr (c - (i + 1)) fun t => g (i * c + (i + 1 + t))
  | 0 => rfl
  | k + 1 => by
    show lpr g (ups c k ++ urow c k (c - (k + 1))) = _
    rw [lpr_urow, lpr_ups g c k, pr_last]
/-- The product of all differences, row by row. -/
theorem df_rows : ∀ (n : Nat) (X : Nat → F), df n X = pr n fun i => pr (n - (i + 1)) fun t => X (i + 1 + t) - X i
  | 0, _ => rfl
  | n + 1, X => by
    rw [df_front n X, df_rows n fun i => X (i + 1), pr_front n]
    have e1 : (pr (n + 1 - (0 + 1)) fun t => X (0 + 1 + t) - X 0) = pr n fun i => X (i + 1) - X 0 := by
      rw [show n + 1 - (0 + 1) = n by omega]
      exact pr_congr fun i _ => by rw [show 0 + 1 + i = i + 1 by omega]
    rw [e1]
    congr 1
    refine pr_congr fun i _ => ?_
    rw [show n + 1 - (i + 1 + 1) = n - (i + 1) by omega]
    exact pr_congr fun t _ => by rw [show i + 1 + t + 1 = i + 1 + 1 + t by omega]
/-- The product of all differences is nought just if two of the numbers are one. -/
theorem df_iff (n : Nat) (X : Nat → F) : df n X = 0 ↔ ∃ i j, i < j ∧ j < n ∧ X i = X j := by
  constructor
  · intro h
    exact Classical.byContradiction fun hn => df_ne (n := n) (X := X) (fun i j h1 h2 e => hn ⟨i, j, h1, h2, e⟩) h
  · rintro ⟨i, j, h1, h2, e⟩
    exact df_zero h1 h2 e
end Mx

/-- What is wrong with the numbers, as a number. -/
noncomputable def vcd (L : List Int) : Nat := open Classical in if L.length = 0 then 5 else if 5 < L.length then 4 else if ¬ AllIn L 0 9972 then 1 else 0
theorem vcd_none {L : List Int} (h : L.length = 0) : vcd L = 5 := by unfold vcd; rw [if_pos h]
theorem vcd_full {L : List Int} (h : 5 < L.length) : vcd L = 4 := by unfold vcd; rw [if_neg (by omega), if_pos h]
theorem vcd_range {L : List Int} (h0 : L.length ≠ 0) (h : ¬ 5 < L.length) (h2 : ¬ AllIn L 0 9972) : vcd L = 1 := by unfold vcd; rw [if_neg h0, if_neg h, if_pos h2]
theorem vcd_ok {L : List Int} (h0 : L.length ≠ 0) (h : ¬ 5 < L.length) (h2 : AllIn L 0 9972) : vcd L = 0 := by unfold vcd; rw [if_neg h0, if_neg h, if_neg fun e => e h2]
theorem vcd_some (L : List Int) : vcd L = 0 ∨ vcd L = 1 ∨ vcd L = 4 ∨ vcd L = 5 := by
  unfold vcd; repeat' split
  all_goals simp
theorem vcd_zero {L : List Int} (h : vcd L = 0) : L.length ≠ 0 ∧ L.length ≤ 5 ∧ AllIn L 0 9972 := by
  by_cases h0 : L.length = 0
  · rw [vcd_none h0] at h; cases h
  · by_cases h1 : 5 < L.length
    · rw [vcd_full h1] at h; cases h
    · by_cases h2 : AllIn L 0 9972
      · exact ⟨h0, by omega, h2⟩
      · rw [vcd_range h0 h1 h2] at h; cases h
/-- Numbers of which there is a matrix. -/
structure Vd (n : Nat) (X : Nat → Fp.F) (L : List Int) : Prop where
  row : L = rowF n X
  n0 : 0 < n
  n5 : n ≤ 5
theorem Vd.len {n : Nat} {X : Nat → Fp.F} {L : List Int} (h : Vd n X L) : L.length = n := by rw [h.row, Mx.len_row]
theorem Vd.code {n : Nat} {X : Nat → Fp.F} {L : List Int} (h : Vd n X L) : vcd L = 0 := by
  have h0 := h.n0
  have h5 := h.n5
  have hl := h.len
  exact vcd_ok (by omega) (by omega) (by rw [h.row]; exact rrow_in _ _)
theorem vd_of {L : List Int} (h : vcd L = 0) : ∃ X, Vd L.length X L := by
  obtain ⟨h0, h1, h2⟩ := vcd_zero h
  obtain ⟨x, hx⟩ := rrow_of h2
  exact ⟨x, hx, by omega, h1⟩
theorem vd_or (L : List Int) : (∃ n X, Vd n X L) ∨ vcd L ≠ 0 := by
  by_cases h : vcd L = 0
  · obtain ⟨x, hx⟩ := vd_of h
    exact .inl ⟨_, x, hx⟩
  · exact .inr h

end Go.Proofs.Ytldkamhknaflbaa

/- Contracts of package vander, first part: Check, powers, what slices.Collect makes of them. -/
namespace Go.Proofs.Ytldkamhknaflbaa
open Go.ChangeShapes Go.WideShapes Go.ChangeAt Go.RowKit Go.Shelf
set_option linter.unusedVariables false
attribute [local go_sem] Oper.semAt_some

theorem vval (a : Fp.F) : 0 ≤ (a.val : Int) ∧ (a.val : Int) ≤ 9972 := Fp.val_bound a
theorem vprod (a b : Fp.F) : 0 ≤ (a.val : Int) * (b.val : Int) ∧ (a.val : Int) * (b.val : Int) ≤ 100000000 := by
  have h1 := vval a
  have h2 := vval b
  refine ⟨Int.mul_nonneg h1.1 h2.1, ?_⟩
  have := Int.mul_le_mul h1.2 h2.2 h2.1 (by omega)
  omega

theorem vChk_none (A : Option Addr) (L : List Int) (c : Nat) (w : World) (h : L.length = 0) :
    Calls Try.prog 18 #[.slice A L.length c] w fun e w' => e = .returned (errOf (vcd L)) ∧ w = w' := by
  rw [vcd_none h, h]
  clear h
  go_enter Try.func18, Try.ntmps18
  go_wp2
  go_ret
  exact ⟨rfl, rfl⟩
theorem vChk_full (A : Option Addr) (L : List Int) (c : Nat) (w : World) (h : 5 < L.length) :
    Calls Try.prog 18 #[.slice A L.length c] w fun e w' => e = .returned (errOf (vcd L)) ∧ w = w' := by
  rw [vcd_full h]
  generalize L.length = n at *
  have h' : (5 : Int) < n := by omega
  have h0 : ((n : Int) == 0) = false := by rw [beq_eq_false_iff_ne]; omega
  clear h
  go_enter Try.func18, Try.ntmps18
  go_wp2
  go_ret
  exact ⟨rfl, rfl⟩

set_option maxHeartbeats 800000 in
theorem vChk_main (A : Option Addr) (l : List Int) (c : Nat) (w : World) (hl : Lies w A l) (h0 : l.length ≠ 0) (hn : l.length ≤ 5) :
    Calls Try.prog 18 #[.slice A l.length c] w fun e w' => e = .returned (errOf (vcd l)) ∧ w = w' := by
  have HL := Lib.hid hl
  have BAD := Lib.hid (fun h : ¬ AllIn l 0 9972 => vcd_range h0 (by omega) h)
  have OK := Lib.hid (fun h : AllIn l 0 9972 => vcd_ok h0 (by omega) h)
  obtain ⟨v, hv⟩ : ∃ v, v = vcd l := ⟨_, rfl⟩
  rw [← hv] at BAD OK ⊢
  obtain ⟨n, hn'⟩ : ∃ n, n = l.length := ⟨_, rfl⟩
  rw [← hn'] at h0 hn ⊢
  have HN := Lib.hid hn'
  have h16 : ¬ (5 : Int) < (n : Int) := by omega
  have e0 : ((n : Int) == 0) = false := by rw [beq_eq_false_iff_ne]; omega
  clear hl hn' hv h0
  go_enter Try.func18, Try.ntmps18
  go_wp2_with fail
  go_loop [15] (fun i => ∃ k : Nat, k ≤ n ∧ i = .int .i64 (k : Int) ∧ ∀ j, j < k → 0 ≤ l.getD j 0 ∧ l.getD j 0 ≤ 9972) (fun i => n - (intOf i).toNat)
  case atStart => exact ⟨0, Nat.zero_le _, rfl, fun j hj => absurd hj (by omega)⟩
  case round =>
    obtain ⟨k, hk, rfl, hg⟩ := hrel
    have HG := Lib.hid hg
    clear hg
    by_cases hlt : k < n
    · obtain ⟨ad, rfl, _, hc⟩ := HL.out k (by have := HN.out; omega)
      obtain ⟨m, hm⟩ : ∃ m, m = l.getD k 0 := ⟨_, rfl⟩
      rw [← hm] at hc
      by_cases h0 : m < 0
      · have E := Lib.hid (BAD.out fun hh => by have := hh k (by have := HN.out; omega); rw [← hm] at this; omega)
        clear hm
        go_wp2_with fail
        go_ret
        exact ⟨by rw [E.out]; rfl, rfl⟩
      · by_cases h1 : m ≤ 9972
        · have GG := Lib.hid (show ∀ j, j < k + 1 → 0 ≤ l.getD j 0 ∧ l.getD j 0 ≤ 9972 from fun j hj => by
            by_cases e : j = k
            · subst e; rw [← hm]; omega
            · exact HG.out j (by omega))
          have h2 : ¬ 9973 ≤ m := by omega
          clear hm
          go_wp2_with fail
          go_round
          case rel => exact ⟨k + 1, by omega, by go_num, GG.out⟩
          case measure => simp [intOf]; omega
        · have E := Lib.hid (BAD.out fun hh => by have := hh k (by have := HN.out; omega); rw [← hm] at this; omega)
          have h2 : 9973 ≤ m := by omega
          clear hm h1
          go_wp2_with fail
          go_ret
          exact ⟨by rw [E.out]; rfl, rfl⟩
    · have E := Lib.hid (OK.out (fun j hj => HG.out j (by have := HN.out; omega)))
      go_wp2_with fail
      go_ret
      exact ⟨by rw [E.out]; rfl, rfl⟩
theorem vChk_any (A : Option Addr) (L : List Int) (c : Nat) (w : World) (ha : Lies w A L) :
    Calls Try.prog 18 #[.slice A L.length c] w fun e w' => e = .returned (errOf (vcd L)) ∧ w = w' := by
  by_cases h0 : L.length = 0
  · exact vChk_none A L c w h0
  · by_cases h : 5 < L.length
    · exact vChk_full A L c w h
    · exact vChk_main A L c w ha h0 (by omega)
theorem vChk_good {n : Nat} {X : Nat → Fp.F} {L : List Int} (s : Vd n X L) (A : Option Addr) (c : Nat) (w : World) (ha : Lies w A L) :
    Calls Try.prog 18 #[.slice A n c] w fun e w' => e = .returned .nilIface ∧ w = w' := by
  have h := vChk_any A L c w ha
  rw [s.len, s.code] at h
  exact h

set_option maxHeartbeats 800000 in
theorem powers_any (x : Int) (c : Nat) (w : World) :
    Calls Try.prog 20 #[.int .i64 x, .int .i64 (c : Int)] w fun e w' =>
      e = .returned (.func (.func 39) #[] #[.pointer (some ⟨w.heap.size + 1, 0, none⟩), .pointer (some ⟨w.heap.size, 0, none⟩)]) ∧
        w' = (w.alloc (.cells #[.int .i64 x] 3)).alloc (.cells #[.int .i64 (c : Int)] 3) := by
  go_enter Try.func20, Try.ntmps20
  go_wp2
  go_ret
  exact ⟨rfl, rfl⟩

/-- The power at a place. -/
def powAt (x : Fp.F) (k : Nat) : Array Value := #[.int .i64 ((Fp.pw x k).val : Int)]
theorem pow_next (x : Fp.F) (k : Nat) : (((Fp.pw x k).val : Int) * (x.val : Int)) % 9973 = ((Fp.pw x (k + 1)).val : Int) := by
  rw [Fp.pw_succ, Fp.mul_val]

set_option maxRecDepth 100000 in
set_option maxHeartbeats 2000000 in
theorem powers_in (n : Nat) (hn : 1 ≤ n) (l B0 B1 n₀ c : Nat) (x : Fp.F) (hc : c ≤ 1000) (h0 : B0 < n₀) (h1 : B1 < n₀) (J Jx : List Nat → World → Prop)
    (hY : ∀ pre y W, J pre W → pre.length < c → YieldAt Fence.wide (n - 1) Try.prog l (powAt x y) W fun e W' =>
      (e = .returned (.bool true) ∧ J (pre ++ [y]) W' ∧ Below n₀ W W') ∨ (e = .returned (.bool false) ∧ Jx (pre ++ [y]) W'))
    (W : World) (hB0 : W.cell? ⟨B0, 0, none⟩ = some (.int .i64 (x.val : Int))) (hB1 : W.cell? ⟨B1, 0, none⟩ = some (.int .i64 (c : Int))) (hj : J [] W) :
    CallsIn Fence.wide n Try.prog 39 #[.func (.yield l) #[] #[], .pointer (some ⟨B1, 0, none⟩), .pointer (some ⟨B0, 0, none⟩)] W fun e W' => (∃ v, e = .returned v) ∧
      ((∃ ys, ys = List.range c ∧ J ys W') ∨ (∃ pre, True ∧ Jx pre W')) := by
  refine callsIn_of_wp Try.func39 rfl trivial ?_ rfl
  simp only [Try.ntmps39, List.size_toArray, List.length_cons, List.length_nil, Nat.reduceAdd, Nat.reduceSub, Array.replicate_succ, Array.replicate_zero, List.push_toArray, List.append_toArray, List.nil_append, List.cons_append]
  gi_wp2
  gi_loopw [4, 6] (fun p i wr => ∃ m : Nat, m ≤ c ∧ p = .int .i64 ((Fp.pw x m).val : Int) ∧ i = .int .i64 (m : Int) ∧ J (List.range m) wr ∧ Below n₀ W wr) (fun _ i _ => c - (intOf i).toNat)
  case atStart => exact ⟨0, Nat.zero_le _, rfl, rfl, hj, Below.refl _ _⟩
  case round =>
    obtain ⟨m, hm, rfl, rfl, hJs, hnx⟩ := hrel
    by_cases hlt : m < c
    · have hx0 : wr.cell? ⟨B0, 0, none⟩ = some (.int .i64 (x.val : Int)) := (hnx.cell (p := ⟨B0, 0, none⟩) h0).trans hB0
      obtain ⟨fn, tmps, assign, body, hy, hR⟩ := hY _ m _ hJs (by rw [List.length_range]; exact hlt)
      unfold powAt at hy
      have NX := Lib.hid hnx
      have RR := Lib.hid hR
      have PW := Lib.hid (pow_next x m)
      have hb := vprod (Fp.pw x m) x
      have hw : IntKind.i64.wrap (((Fp.pw x m).val : Int) * (x.val : Int)) = ((Fp.pw x m).val : Int) * (x.val : Int) := IntWalk.i64_in _ (by omega)
      generalize (Fp.pw x m).val = p at *
      clear hJs hnx hR
      gi_wp2
      refine (RR.out).mono ?_
      rintro e W3 (⟨rfl, hJ3, hk3⟩ | ⟨rfl, hJx3⟩)
      · have hx3 : W3.cell? ⟨B0, 0, none⟩ = some (.int .i64 (x.val : Int)) := (hk3.cell (p := ⟨B0, 0, none⟩) h0).trans hx0
        have J3 := Lib.hid hJ3
        have K3 := Lib.hid (NX.out.trans hk3)
        clear hJ3 hk3
        gi_wp2
        go_roundw
        case rel => exact ⟨m + 1, by omega, by rw [PW.out], by go_num, by rw [List.range_succ]; exact J3.out, K3.out⟩
        case measure => simp [intOf]; omega
      · gi_wp2
        refine bodyPost_ret (results_none rfl _ _ _) rfl ?_
        exact ⟨⟨_, rfl⟩, .inr ⟨_, trivial, hJx3⟩⟩
    · obtain rfl : m = c := by omega
      gi_wp2
      go_end0
      exact ⟨⟨_, rfl⟩, .inl ⟨_, rfl, hJs⟩⟩

theorem powers_stops (n : Nat) (hn : 1 ≤ n) (B0 B1 n₀ c : Nat) (x : Fp.F) (hc : c ≤ 1000) (h0 : B0 < n₀) (h1 : B1 < n₀) (w : World) (hn0 : n₀ ≤ w.heap.size)
    (hB0 : w.cell? ⟨B0, 0, none⟩ = some (.int .i64 (x.val : Int))) (hB1 : w.cell? ⟨B1, 0, none⟩ = some (.int .i64 (c : Int))) :
    SeqStopsK Fence.wide n Try.prog 39 #[.pointer (some ⟨B1, 0, none⟩), .pointer (some ⟨B0, 0, none⟩)] (powAt x) (Below n₀) (fun ys => ys = List.range c) (fun _ => True) c w := fun l J Jx W hW _ _ hY hj =>
  powers_in n hn l B0 B1 n₀ c x hc h0 h1 J Jx hY W ((hW.cell (p := ⟨B0, 0, none⟩) (by show B0 < _; omega)).trans hB0) ((hW.cell (p := ⟨B1, 0, none⟩) (by show B1 < _; omega)).trans hB1) hj

theorem row_pows (x : Fp.F) (c : Nat) : (List.range c).map (fun k => ((Fp.pw x k).val : Int)) = Mx.row c fun k => ((Fp.pw x k).val : Int) := rfl

set_option maxRecDepth 100000 in
set_option maxHeartbeats 2000000 in
/-- slices.AppendSeq(nil, powers(x, c)). -/
theorem appendPow_any (B0 B1 c : Nat) (x : Fp.F) (hc : c ≤ 1000) (w : World) (hB0 : w.cell? ⟨B0, 0, none⟩ = some (.int .i64 (x.val : Int))) (hB1 : w.cell? ⟨B1, 0, none⟩ = some (.int .i64 (c : Int))) :
    Calls Try.prog 38 #[.slice none 0 0, .func (.func 39) #[] #[.pointer (some ⟨B1, 0, none⟩), .pointer (some ⟨B0, 0, none⟩)]] w fun e w' =>
      ∃ v, e = .returned v ∧ Own w' w.heap.size v (Mx.row c fun k => ((Fp.pw x k).val : Int)) ∧ Kp w w' := by
  obtain ⟨i0, hi, hz0, hz1, hz2⟩ := info_parts int_info
  have b0 := cell_lt hB0
  have b1 := cell_lt hB1
  refine callsIn_wide.1 (callsIn_of_wp_marks (F := Fence.wide) (n := 9) Try.func38 rfl trivial ?_ rfl)
  simp only [Try.ntmps38, List.size_toArray, List.length_cons, List.length_nil, Nat.reduceAdd, Nat.reduceSub, Array.replicate_succ, Array.replicate_zero, List.push_toArray, List.append_toArray, List.nil_append, List.cons_append]
  gi_wp2
  have bO := Boxed.new w 22 (.slice none 0 0)
  obtain ⟨w1, hw1⟩ : ∃ x, x = w.alloc (.cells #[.slice none 0 0] 22) := ⟨_, rfl⟩
  rw [← hw1] at bO ⊢
  have s1 : w1.heap.size = w.heap.size + 1 := by rw [hw1]; simp
  have k1 : Kp w w1 := by rw [hw1]; exact (Kp.rfl' w).new _
  clear hw1
  refine wpIn_rangeFunc_ownG rfl (Nat.le_add_left 1 8) (gf := 39) (lb := #[.pointer (some ⟨B1, 0, none⟩), .pointer (some ⟨B0, 0, none⟩)]) rfl trivial (enters_of Try.func39 (by kernel_rfl) rfl)
    (powers_stops 8 (Nat.le_add_left 1 7) B0 B1 w.heap.size c x hc b0 b1 w1 (by omega) ((k1.cell (p := ⟨B0, 0, none⟩) b0).trans hB0) ((k1.cell (p := ⟨B1, 0, none⟩) b1).trans hB1))
    belowK_t (belowK_b (by omega)) (Below.refl _ _) (fun _ => rfl)
    (fun pre W => (∃ v, Boxed W w.heap.size 22 v ∧ W.ownsRow w.heap.size 3 1 v pre.length (ints (pre.map fun k => ((Fp.pw x k).val : Int))) ∧ True) ∧ Below w.heap.size w W)
    (fun _ _ _ => False)
    (OwnFrom.and (Go.Own.from (holdsRow_own w.heap.size w.heap.size 22 3 1 (fun (pre : List Nat) => pre.length) (fun pre => ints (pre.map fun k => ((Fp.pw x k).val : Int))) (fun _ _ => True)) _) (ownFrom_below (Nat.le_refl _) (by omega)))
    (fun _ _ _ _ _ hs _ _ => hs)
    ⟨⟨_, bO, World.ownsRow_nil _ _ _ _, trivial⟩, k1⟩
    (fun k => { tmps := #[.slice none 0 0, .func (.func 39) #[] #[.pointer (some ⟨B1, 0, none⟩), .pointer (some ⟨B0, 0, none⟩)], .pointer (some ⟨w.heap.size, 0, none⟩), undef, .slice none 0 0, .int .i64 ((Fp.pw x k).val : Int), .func (.func 39) #[] #[.pointer (some ⟨B1, 0, none⟩), .pointer (some ⟨B0, 0, none⟩)], .int .i64 ((Fp.pw x k).val : Int), undef, undef, undef, undef, undef], defers := [] }) ?assign ?body ?done ?stop
  case assign =>
    intro l k W K hK
    unfold powAt
    gi_wp2
    exact hK
  case body =>
    rintro l pre k W ⟨⟨v, hv, hrow, _⟩, hB⟩ hlt
    have hcb := hv.cell
    have hlen : pre.length ≤ 1000 := by omega
    have hsn : (pre ++ [k]).map (fun k => ((Fp.pw x k).val : Int)) = pre.map (fun k => ((Fp.pw x k).val : Int)) ++ [((Fp.pw x k).val : Int)] := by rw [List.map_append, List.map_singleton]
    gi_wp2_with (gi_at_builtin; refine wpListIn_append_own _ rfl _ _ 22 rfl w.heap.size 3 i0 (.int .i64 0) 1 8 Try.underlying22 hi hz0 hz1 hz2 rfl (by decide) _ _ _ rfl (hrow.alloc _) ⟨W.heap.size, 0, none⟩ 1 1 [.int .i64 ((Fp.pw x k).val : Int)] rfl rfl (cell_one_new _ _ _) (by simp [Value.oneCell']) (by unfold maxLen; omega) (by omega) (by have := hB.size; simp; omega) ?_; intro v' w2 hown' hgrow _; obtain ⟨g', cap', rfl⟩ := ownsRow_succ hown'; obtain ⟨hv1, hv2, hr2, hk2, hb2⟩ := hv.appended (by decide) hrow hB.size (Nat.le_refl _) hown' hgrow; have hc1 := hv1.cell; have hf1 := hv1.frozen)
    refine ⟨hk2.from _, hb2, ⟨_, hv2, ?_, trivial⟩, hB.trans hb2⟩
    rw [List.length_append, List.length_singleton, hsn, ints, List.map_append, List.map_singleton]
    exact hr2
  case done =>
    rintro D ys W hD rfl ⟨⟨v, hv, hrow, _⟩, hB⟩ hK
    have hcb := hv.cell
    gi_wp2
    refine ⟨by simp, .inl ⟨_, _, rfl, run_takeDeferred hK, ?_⟩⟩
    refine ⟨_, results_tmp rfl _ _ _, v, rfl, ?_, hB.trans (belowK_b (w := w) (Nat.le_refl _) W D _ _ (by omega) hK rfl rfl)⟩
    have hrow2 := ownsRow_putObj hrow (.deferred none) hK rfl
    rw [← row_pows]
    unfold Own
    rw [List.length_map]
    exact hrow2
  case stop =>
    rintro D c pre W _ _ h _
    exact h.elim

set_option maxHeartbeats 800000 in
/-- slices.Collect(powers(x, c)). -/
theorem collectPow_any (B0 B1 c : Nat) (x : Fp.F) (hc : c ≤ 1000) (w : World) (hB0 : w.cell? ⟨B0, 0, none⟩ = some (.int .i64 (x.val : Int))) (hB1 : w.cell? ⟨B1, 0, none⟩ = some (.int .i64 (c : Int))) :
    Calls Try.prog 19 #[.func (.func 39) #[] #[.pointer (some ⟨B1, 0, none⟩), .pointer (some ⟨B0, 0, none⟩)]] w fun e w' =>
      ∃ v, e = .returned v ∧ Own w' w.heap.size v (Mx.row c fun k => ((Fp.pw x k).val : Int)) ∧ Kp w w' := by
  have AP := Lib.hid (appendPow_any B0 B1 c x hc w hB0 hB1)
  clear hB0 hB1
  go_enter Try.func19, Try.ntmps19
  go_wp2_with fail
  refine (AP.out).mono ?_; rintro e w1 ⟨v, rfl, ho, hk1⟩
  have HO := Lib.hid ho
  have HK := Lib.hid hk1
  clear ho hk1
  go_wp2_with fail
  go_ret
  exact ⟨v, rfl, HO.out, HK.out⟩

end Go.Proofs.Ytldkamhknaflbaa

/- Heads of n rows of n numbers, written one by one, of rows that came of elsewhere; a matrix made. For all packages. -/
namespace Go.Proofs.Ytldkamhknaflbaa
open Go.ChangeShapes Go.WideShapes Go.ChangeAt Go.RowKit
set_option linter.unusedVariables false

theorem Lies.off {w : World} {b : Nat} {l : List Int} (h : Lies w (some ⟨b, 0, none⟩) l) {a : Addr} (ha : b ≠ a.block) (u : Value) : Lies (w.setCell a u) (some ⟨b, 0, none⟩) l := fun k hk => by
  obtain ⟨ad, e, hl, hc⟩ := h k hk
  obtain rfl := Option.some.inj e
  refine ⟨_, rfl, by simpa [World.setCell] using hl, ?_⟩
  rw [add_at] at hc ⊢
  exact (World.cell?_of_block (w := w) (heap_setCell_other w a b u ha)).trans hc
/-- The heads of n rows of n numbers, the first k of them made. -/
structure HdP (w : World) (g : Nat) (G C : Nat → Nat) (n k : Nat) (f : Nat → Nat → Int) : Prop where
  head : w.heap[g]? = some (.cells ((List.range n).map fun i => if i < k then Value.slice (some ⟨G i, 0, none⟩) n (C i) else .slice none 0 0).toArray 22 (0, 0))
  row : ∀ i, i < k → Lies w (some ⟨G i, 0, none⟩) (Mx.row n (f i))
  cap : ∀ i, i < k → n ≤ C i
  apart : ∀ i, i < k → G i ≠ g
section
variable {w w' : World} {g : Nat} {G C : Nat → Nat} {n k : Nat} {f : Nat → Nat → Int}
theorem HdP.lt (h : HdP w g G C n k f) : g < w.heap.size := by
  rcases Nat.lt_or_ge g w.heap.size with h' | h'
  · exact h'
  · have := h.head; rw [Array.getElem?_eq_none h'] at this; cases this
theorem HdP.keep (h : HdP w g G C n k f) (hk : Kp w w') : HdP w' g G C n k f := ⟨by rw [hk.block g h.lt]; exact h.head, fun i hi => (h.row i hi).keep hk, h.cap, h.apart⟩
theorem HdP.cell (h : HdP w g G C n k f) {i : Nat} (hi : k ≤ i) (hr : i < n) : w.cell? ⟨g, i, none⟩ = some (.slice none 0 0) := by
  rw [cell_of_row _ _ i _ _ (0, 0) h.head]; simp [hr]; omega
theorem HdP.free (h : HdP w g G C n k f) (i : Nat) : w.frozen? ⟨g, i, none⟩ = false := frozen_of_row w g i _ _ h.head
theorem HdP.start {base : Nat} (f : Nat → Nat → Int) (h : w.ownsRow base 22 1 (.slice (some ⟨g, 0, none⟩) n n) n (madeCells #[.slice none 0 0] (n * 1)).toList) : HdP w g (fun _ => 0) (fun _ => 0) n 0 f :=
  ⟨by have := (PartF.start (c := 0) f h).head; simpa using this, fun i hi => absurd hi (by omega), fun i hi => absurd hi (by omega), fun i hi => absurd hi (by omega)⟩
theorem HdP.step (h : HdP w g G C n k f) (hk : k < n) {z cz : Nat} (hz : Lies w (some ⟨z, 0, none⟩) (Mx.row n (f k))) (hc : n ≤ cz) (hne : z ≠ g) :
    HdP (w.setCell ⟨g, k, none⟩ (.slice (some ⟨z, 0, none⟩) n cz)) g (fun i => if i = k then z else G i) (fun i => if i = k then cz else C i) n (k + 1) f := by
  refine ⟨?_, fun i hi => ?_, fun i hi => ?_, fun i hi => ?_⟩
  · rw [heap_setCell_same w g k _ _ _ h.head]
    congr 2
    refine Array.toList_inj.1 (List.ext_getElem (by simp) fun i h2 h3 => ?_)
    simp only [Array.toList_setIfInBounds, List.getElem_set, List.getElem_map, List.getElem_range]
    rcases Nat.lt_trichotomy i k with e | e | e
    · simp [show ¬ k = i by omega, show i < k from e, show i < k + 1 by omega, show ¬ i = k by omega]
    · subst e; simp
    · simp [show ¬ k = i by omega, show ¬ i < k by omega, show ¬ i < k + 1 by omega]
  · by_cases e : i = k
    · subst e
      rw [if_pos rfl]; exact hz.off hne _
    · rw [if_neg e]; exact (h.row i (by omega)).off (h.apart i (by omega)) _
  · by_cases e : i = k
    · rw [if_pos e]; exact hc
    · rw [if_neg e]; exact h.cap i (by omega)
  · by_cases e : i = k
    · rw [if_pos e]; exact hne
    · rw [if_neg e]; exact h.apart i (by omega)
theorem HdP.lies {f : Nat → Nat → Fp.F} (h : HdP w g G C n n fun i j => ((f i j).val : Int)) : LiesM w (some ⟨g, 0, none⟩) (Mx.matl n n f) := fun i hi => by
  rw [Mx.len_matl] at hi
  rw [matl_row f hi, Mx.len_row]
  refine ⟨_, some ⟨G i, 0, none⟩, C i, rfl, h.lt, ?_, h.cap i hi, h.row i hi⟩
  rw [add_at, cell_of_row _ _ i _ _ (0, 0) h.head]; simp [hi]
end

/-- A matrix made. -/
def MadeM (n : Nat) (f : Nat → Nat → Fp.F) (w : World) (e : Ending) (w' : World) : Prop := ∃ A d, e = .returned (.tuple #[.slice A n d, .nilIface]) ∧ n ≤ d ∧ LiesM w' A (Mx.matl n n f) ∧ Kp w w'

end Go.Proofs.Ytldkamhknaflbaa
