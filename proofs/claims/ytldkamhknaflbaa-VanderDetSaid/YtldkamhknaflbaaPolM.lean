/- Plain facts on polynomials over the field: lists of coefficients, values, products, division, Euclid's steps. No program is named here. -/
import Derived.Test.YtldkamhknaflbaaFp
namespace Go.Proofs.Ytldkamhknaflbaa.Pol
open Fp
set_option linter.unusedVariables false

/-- The value at x. -/
def ev : List F → F → F
  | [], _ => 0
  | a :: p, x => a + x * ev p x
/-- The coefficient of a power; 0 behind all. -/
def co (p : List F) (k : Nat) : F := p.getD k 0

theorem ev_nil (x : F) : ev [] x = 0 := rfl
theorem ev_cons (a : F) (p : List F) (x : F) : ev (a :: p) x = a + x * ev p x := rfl
theorem co_nil (k : Nat) : co [] k = 0 := by simp [co]
theorem co_zero (a : F) (p : List F) : co (a :: p) 0 = a := by simp [co]
theorem co_succ (a : F) (p : List F) (k : Nat) : co (a :: p) (k + 1) = co p k := by simp [co]
theorem co_out (p : List F) (k : Nat) (h : p.length ≤ k) : co p k = 0 := by simp [co, List.getElem?_eq_none h]

theorem pw_comm (x : F) (n : Nat) : pw x (n + 1) = x * pw x n := by rw [pw_succ, Fin.mul_comm]

theorem ev_append (p q : List F) (x : F) : ev (p ++ q) x = ev p x + pw x p.length * ev q x := by
  induction p with
  | nil => rw [List.nil_append, ev_nil, List.length_nil, pw_zero]; grind
  | cons a p ih => rw [List.cons_append, ev_cons, ev_cons, ih, List.length_cons, pw_comm]; grind

theorem ev_one (a x : F) : ev [a] x = a := by rw [ev_cons, ev_nil]; grind
theorem ev_snoc (p : List F) (a x : F) : ev (p ++ [a]) x = ev p x + a * pw x p.length := by rw [ev_append, ev_one]; grind

theorem ev_set (p : List F) (k : Nat) (c x : F) (h : k < p.length) : ev (p.set k c) x = ev p x + (c - co p k) * pw x k := by
  induction p generalizing k with
  | nil => simp at h
  | cons a p ih =>
    cases k with
    | zero => rw [List.set_cons_zero, ev_cons, ev_cons, co_zero, pw_zero]; grind
    | succ k =>
      rw [List.set_cons_succ, ev_cons, ev_cons, co_succ, ih k (by simpa using h), pw_comm]; grind

theorem ev_zeros (n : Nat) (x : F) : ev (List.replicate n 0) x = 0 := by
  induction n with
  | zero => rfl
  | succ n ih => rw [List.replicate_succ, ev_cons, ih]; grind

theorem ev_all_zero (p : List F) (h : ∀ b ∈ p, b = 0) (x : F) : ev p x = 0 := by
  induction p with
  | nil => rfl
  | cons a p ih => rw [ev_cons, ih fun b hb => h b (List.mem_cons_of_mem _ hb), h a (List.mem_cons_self ..)]; grind

theorem take_succ (p : List F) (k : Nat) (h : k < p.length) : p.take (k + 1) = p.take k ++ [co p k] := by
  rw [List.take_succ_eq_append_getElem h, co, List.getD_eq_getElem?_getD, List.getElem?_eq_getElem h]; rfl

theorem ev_take_succ (p : List F) (k : Nat) (h : k < p.length) (x : F) : ev (p.take (k + 1)) x = ev (p.take k) x + co p k * pw x k := by
  rw [take_succ p k h, ev_snoc, List.length_take, Nat.min_eq_left (Nat.le_of_lt h)]

/-- Behind a place: what Horner's rule keeps. -/
theorem drop_eq (p : List F) (k : Nat) (h : k < p.length) : p.drop k = co p k :: p.drop (k + 1) := by
  rw [List.drop_eq_getElem_cons h, co, List.getD_eq_getElem?_getD, List.getElem?_eq_getElem h]; rfl
theorem ev_drop (p : List F) (k : Nat) (h : k < p.length) (x : F) : ev (p.drop k) x = co p k + x * ev (p.drop (k + 1)) x := by
  rw [drop_eq p k h, ev_cons]

/-- A root can be taken out. -/
theorem synth (p : List F) (r : F) (hp : p ≠ []) :
    ∃ q : List F, q.length + 1 = p.length ∧ (∀ x, ev p x = (x - r) * ev q x + ev p r) ∧ ((∀ b ∈ q, b = 0) → ev p r = 0 → ∀ b ∈ p, b = 0) := by
  induction p with
  | nil => exact absurd rfl hp
  | cons a p ih =>
    by_cases h0 : p = []
    · subst h0
      refine ⟨[], rfl, fun x => by rw [ev_one, ev_one, ev_nil]; grind, fun _ h b hb => ?_⟩
      rw [ev_one] at h
      rw [List.mem_singleton] at hb
      rw [hb, h]
    · obtain ⟨q, h1, h2, h3⟩ := ih h0
      refine ⟨ev p r :: q, by simp [h1], fun x => ?_, fun hq hr b hb => ?_⟩
      · have := h2 x
        rw [ev_cons, ev_cons, ev_cons, this]; grind
      · have z := hq (ev p r) (List.mem_cons_self ..)
        have hq' : ∀ b ∈ p, b = 0 := h3 (fun b hb => hq b (List.mem_cons_of_mem _ hb)) z
        rw [ev_cons, z] at hr
        rcases List.mem_cons.1 hb with rfl | hb
        · grind
        · exact hq' b hb

theorem zero_below (n : Nat) : ∀ p : List F, p.length ≤ n → n ≤ 9973 → (∀ x : F, x.val < n → ev p x = 0) → ∀ b ∈ p, b = 0 := by
  induction n with
  | zero =>
    intro p hp _ _ b hb
    have : p = [] := List.eq_nil_of_length_eq_zero (by omega)
    subst this; simp at hb
  | succ n ih =>
    intro p hp hn hz
    by_cases h0 : p = []
    · subst h0; intro b hb; simp at hb
    · obtain ⟨q, h1, h2, h3⟩ := synth p ⟨n, by omega⟩ h0
      have hr : ev p ⟨n, by omega⟩ = 0 := hz _ (by show n < n + 1; omega)
      refine h3 (ih q (by omega) (by omega) fun x hx => ?_) hr
      have e := h2 x
      rw [hr, hz x (by omega)] at e
      have e2 : (x - ⟨n, by omega⟩) * ev q x = 0 := by grind
      rcases mul_zero_or e2 with h | h
      · exfalso
        have : x = ⟨n, by omega⟩ := by grind
        rw [this] at hx
        exact Nat.lt_irrefl _ hx
      · exact h

theorem zero_all (p : List F) (hp : p.length ≤ 9973) (hz : ∀ x, ev p x = 0) : ∀ b ∈ p, b = 0 :=
  zero_below 9973 p hp (Nat.le_refl _) fun x _ => hz x

/-- The sum. -/
def padd : List F → List F → List F
  | [], q => q
  | a :: p, [] => a :: p
  | a :: p, b :: q => (a + b) :: padd p q
theorem padd_nil (p : List F) : padd p [] = p := by cases p <;> rfl
theorem ev_padd (p q : List F) (x : F) : ev (padd p q) x = ev p x + ev q x := by
  induction p generalizing q with
  | nil => rw [padd, ev_nil]; grind
  | cons a p ih =>
    cases q with
    | nil => rw [padd, ev_nil]; grind
    | cons b q => rw [padd, ev_cons, ev_cons, ev_cons, ih]; grind
theorem co_padd (p q : List F) (k : Nat) : co (padd p q) k = co p k + co q k := by
  induction p generalizing q k with
  | nil => rw [padd, co_nil]; grind
  | cons a p ih =>
    cases q with
    | nil => rw [padd, co_nil]; grind
    | cons b q =>
      rw [padd]
      cases k with
      | zero => rw [co_zero, co_zero, co_zero]
      | succ k => rw [co_succ, co_succ, co_succ, ih]
theorem len_padd (p q : List F) : (padd p q).length = max p.length q.length := by
  induction p generalizing q with
  | nil => rw [padd, List.length_nil]; omega
  | cons a p ih =>
    cases q with
    | nil => rw [padd, List.length_nil]; omega
    | cons b q => rw [padd, List.length_cons, List.length_cons, List.length_cons, ih]; omega

/-- So many times. -/
def times (c : F) (p : List F) : List F := p.map fun a => c * a
theorem ev_times (c : F) (p : List F) (x : F) : ev (times c p) x = c * ev p x := by
  induction p with
  | nil => rw [times, List.map_nil, ev_nil]; grind
  | cons a p ih => rw [times] at *; rw [List.map_cons, ev_cons, ev_cons, ih]; grind
theorem co_times (c : F) (p : List F) (k : Nat) : co (times c p) k = c * co p k := by
  induction p generalizing k with
  | nil => rw [times, List.map_nil, co_nil]; grind
  | cons a p ih =>
    rw [times] at *
    rw [List.map_cons]
    cases k with
    | zero => rw [co_zero, co_zero]
    | succ k => rw [co_succ, co_succ, ih]
theorem len_times (c : F) (p : List F) : (times c p).length = p.length := by rw [times, List.length_map]

/-- The product. -/
def pmul : List F → List F → List F
  | [], _ => []
  | a :: p, q => padd (times a q) (0 :: pmul p q)
theorem ev_pmul (p q : List F) (x : F) : ev (pmul p q) x = ev p x * ev q x := by
  induction p with
  | nil => rw [pmul, ev_nil]; grind
  | cons a p ih => rw [pmul, ev_padd, ev_times, ev_cons, ev_cons, ih]; grind
theorem len_pmul (p q : List F) (hp : p ≠ []) (hq : q ≠ []) : (pmul p q).length + 1 = p.length + q.length := by
  have hq' := List.length_pos_iff.2 hq
  induction p with
  | nil => exact absurd rfl hp
  | cons a p ih =>
    rw [pmul, len_padd, len_times, List.length_cons, List.length_cons]
    by_cases h : p = []
    · subst h; rw [pmul, List.length_nil]; omega
    · have := ih h; omega
theorem co_pmul (p q : List F) (n m : Nat) (hp : p.length ≤ n + 1) (hq : q.length ≤ m + 1) : co (pmul p q) (n + m) = co p n * co q m := by
  induction p generalizing n with
  | nil => rw [pmul, co_nil, co_nil]; grind
  | cons a p ih =>
    rw [pmul, co_padd, co_times]
    cases n with
    | zero =>
      have : p = [] := by simpa using hp
      subst this
      rw [pmul, co_zero, Nat.zero_add]
      cases m with
      | zero => rw [co_zero]; grind
      | succ m => rw [co_succ, co_nil]; grind
    | succ n =>
      have e : n + 1 + m = (n + m) + 1 := by omega
      rw [e, co_succ, co_succ, ih n (by simpa using hp), co_out q (n + m + 1) (by omega)]; grind

/-- It has no nought at its end. -/
def Tr (p : List F) : Prop := p ≠ [] → co p (p.length - 1) ≠ 0
theorem tr_nil : Tr [] := fun h => absurd rfl h
theorem snoc_of (p : List F) (h : p ≠ []) : ∃ q, p = q ++ [co p (p.length - 1)] ∧ q.length + 1 = p.length := by
  have hl := List.length_pos_iff.2 h
  refine ⟨p.take (p.length - 1), ?_, by rw [List.length_take]; omega⟩
  have := take_succ p (p.length - 1) (by omega)
  rw [Nat.sub_add_cancel (by omega), List.take_length] at this
  exact this
theorem co_snoc (p : List F) (a : F) : co (p ++ [a]) p.length = a := by simp [co]
theorem tr_snoc (p : List F) (a : F) (h : a ≠ 0) : Tr (p ++ [a]) := by
  intro _
  rw [List.length_append, List.length_singleton, Nat.add_sub_cancel, co_snoc]
  exact h

/-- Without the noughts at its end. -/
def trim (p : List F) : List F := (p.reverse.dropWhile (fun a => a == 0)).reverse
theorem trim_nil : trim [] = [] := rfl
theorem trim_zero (p : List F) : trim (p ++ [0]) = trim p := by simp [trim]
theorem trim_not (p : List F) (a : F) (h : a ≠ 0) : trim (p ++ [a]) = p ++ [a] := by simp [trim, h]
theorem trim_tr (p : List F) (h : Tr p) : trim p = p := by
  by_cases h0 : p = []
  · subst h0; rfl
  · obtain ⟨q, e, _⟩ := snoc_of p h0
    have := h h0
    rw [e]
    exact trim_not _ _ this

theorem trim_ind (P : List F → Prop) (hz : ∀ p, P p → P (p ++ [0])) (hn : ∀ p, Tr p → P p) (p : List F) : P p := by
  obtain ⟨n, hl⟩ : ∃ n, n = p.length := ⟨_, rfl⟩
  induction n generalizing p with
  | zero =>
    have : p = [] := List.eq_nil_of_length_eq_zero hl.symm
    subst this; exact hn _ tr_nil
  | succ n ih =>
    have h0 : p ≠ [] := fun e => by subst e; simp at hl
    obtain ⟨q, e, hq⟩ := snoc_of p h0
    by_cases hc : co p (p.length - 1) = 0
    · rw [hc] at e
      rw [e]
      exact hz q (ih q (by omega))
    · exact hn p fun _ => hc

theorem tr_trim (p : List F) : Tr (trim p) := by
  refine trim_ind (fun p => Tr (trim p)) (fun p h => by rw [trim_zero]; exact h) (fun p h => by rw [trim_tr p h]; exact h) p
theorem ev_trim (p : List F) (x : F) : ev (trim p) x = ev p x := by
  refine trim_ind (fun p => ev (trim p) x = ev p x) (fun p h => by rw [trim_zero, h, ev_snoc]; grind) (fun p h => by rw [trim_tr p h]) p
theorem len_trim (p : List F) : (trim p).length ≤ p.length := by
  refine trim_ind (fun p => (trim p).length ≤ p.length) (fun p h => by rw [trim_zero, List.length_append]; omega) (fun p h => by rw [trim_tr p h]; exact Nat.le_refl _) p
theorem trim_take (p : List F) : trim p = p.take (trim p).length := by
  refine trim_ind (fun p => trim p = p.take (trim p).length) (fun p h => ?_) (fun p h => by rw [trim_tr p h, List.take_length]) p
  show trim (p ++ [0]) = (p ++ [0]).take (trim (p ++ [0])).length
  rw [trim_zero, List.take_append_of_le_length (len_trim p)]; exact h
theorem trim_trim (p : List F) : trim (trim p) = trim p := trim_tr _ (tr_trim p)
theorem trim_len_eq (p : List F) (h : (trim p).length = p.length) : trim p = p := by
  have := trim_take p
  rwa [h, List.take_length] at this
theorem co_trim (p : List F) (k : Nat) : co (trim p) k = co p k := by
  refine trim_ind (fun p => co (trim p) k = co p k) (fun p h => ?_) (fun p h => by rw [trim_tr p h]) p
  show co (trim (p ++ [0])) k = co (p ++ [0]) k
  rw [trim_zero, h]
  rcases Nat.lt_trichotomy k p.length with hk | hk | hk
  · simp [co, List.getElem?_append_left hk]
  · rw [hk, co_snoc, co_out p _ (Nat.le_refl _)]
  · rw [co_out p _ (by omega), co_out (p ++ [0]) _ (by simp; omega)]
/-- One that ends in noughts from place n on is no longer. -/
theorem trim_short (p : List F) (n : Nat) (h : ∀ k, n ≤ k → co p k = 0) : (trim p).length ≤ n := by
  refine Nat.le_of_not_lt fun hl => ?_
  have h0 : trim p ≠ [] := fun e => by rw [e] at hl; simp at hl
  refine tr_trim p h0 ?_
  rw [co_trim]
  exact h _ (by omega)

theorem list_ext (p q : List F) (h : p.length = q.length) (h2 : ∀ k, co p k = co q k) : p = q := by
  refine List.ext_getElem h fun k h3 h4 => ?_
  have := h2 k
  rwa [co, co, List.getD_eq_getElem?_getD, List.getD_eq_getElem?_getD, List.getElem?_eq_getElem h3, List.getElem?_eq_getElem h4] at this
theorem tr_le (p q : List F) (hp : Tr p) (h : ∀ k, co p k = co q k) : p.length ≤ q.length := by
  refine Nat.le_of_not_lt fun hl => ?_
  have h0 : p ≠ [] := fun e => by subst e; simp at hl
  refine hp h0 ?_
  rw [h, co_out q _ (by omega)]
theorem tr_ext (p q : List F) (hp : Tr p) (hq : Tr q) (h : ∀ k, co p k = co q k) : p = q :=
  list_ext p q (Nat.le_antisymm (tr_le p q hp h) (tr_le q p hq fun k => (h k).symm)) h

/-- Values say all of a short one. -/
theorem co_of_ev (p q : List F) (lp : p.length ≤ 9973) (lq : q.length ≤ 9973) (h : ∀ x, ev p x = ev q x) (k : Nat) : co p k = co q k := by
  have z := zero_all (padd p (times (-1) q)) (by rw [len_padd, len_times]; omega) fun x => by rw [ev_padd, ev_times, h]; grind
  have e : co (padd p (times (-1) q)) k = 0 := by
    rcases Nat.lt_or_ge k (padd p (times (-1) q)).length with hk | hk
    · rw [co, List.getD_eq_getElem?_getD, List.getElem?_eq_getElem hk]
      exact z _ (List.getElem_mem _)
    · exact co_out _ _ hk
  rw [co_padd, co_times] at e
  grind
theorem same (p q : List F) (hp : Tr p) (hq : Tr q) (lp : p.length ≤ 9973) (lq : q.length ≤ 9973) (h : ∀ x, ev p x = ev q x) : p = q :=
  tr_ext p q hp hq fun k => co_of_ev p q lp lq h k
theorem zero_of (p : List F) (hp : Tr p) (lp : p.length ≤ 9973) (h : ∀ x, ev p x = 0) : p = [] :=
  same p [] hp tr_nil lp (by simp) fun x => by rw [h, ev_nil]

theorem tr_pmul (p q : List F) (hp : Tr p) (hq : Tr q) (h2 : q ≠ []) : Tr (pmul p q) := by
  intro h0
  by_cases h1 : p = []
  · subst h1; exact absurd rfl h0
  have l1 := List.length_pos_iff.2 h1
  have l2 := List.length_pos_iff.2 h2
  have e := len_pmul p q h1 h2
  have : (pmul p q).length - 1 = (p.length - 1) + (q.length - 1) := by omega
  rw [this, co_pmul p q _ _ (by omega) (by omega)]
  intro h
  rcases mul_zero_or h with h | h
  · exact hp h1 h
  · exact hq h2 h
theorem pmul_ne (p q : List F) (h1 : p ≠ []) (h2 : q ≠ []) : pmul p q ≠ [] := by
  have l1 := List.length_pos_iff.2 h1
  have l2 := List.length_pos_iff.2 h2
  have e := len_pmul p q h1 h2
  intro h
  rw [h] at e
  simp at e
  omega
theorem len_pmul_le (p q : List F) : (pmul p q).length ≤ p.length + q.length := by
  induction p with
  | nil => rw [pmul]; simp
  | cons a p ih => rw [pmul, len_padd, len_times, List.length_cons, List.length_cons]; omega

/-- A product of a short one with something is something, and long. -/
theorem prod_len (p q r : List F) (hp : Tr p) (hq : Tr q) (hr : Tr r) (h1 : p ≠ []) (h2 : q ≠ []) (l : p.length + q.length ≤ 9973) (lr : r.length ≤ 9973)
    (h : ∀ x, ev r x = ev p x * ev q x) : r = pmul p q := by
  refine same r (pmul p q) hr (tr_pmul p q hp hq h2) lr (Nat.le_trans (len_pmul_le p q) l) fun x => ?_
  rw [h, ev_pmul]

/-- f is g so many times, and a rest with fewer factors. -/
structure Dv (f g q r : List F) : Prop where
  tq : Tr q
  tr : Tr r
  lt : r.length < g.length
  lq : q.length ≤ f.length
  eq : ∀ x, ev f x = ev g x * ev q x + ev r x

theorem Dv.one {f g q r q' r' : List F} (hg : Tr g) (lf : f.length ≤ 1000) (lg : g.length ≤ 1000) (h : Dv f g q r) (h' : Dv f g q' r') : q = q' ∧ r = r' := by
  have hlt := h.lt
  have hlt' := h'.lt
  have hlq := h.lq
  have hlq' := h'.lq
  have g0 : g ≠ [] := fun e => by rw [e] at hlt; simp at hlt
  have ed : ∀ x, ev g x * ev (trim (padd q (times (-1) q'))) x = ev (trim (padd r' (times (-1) r))) x := fun x => by
    have e1 := h.eq x
    have e2 := h'.eq x
    rw [ev_trim, ev_trim, ev_padd, ev_padd, ev_times, ev_times]; grind
  have ld := Nat.le_trans (len_trim (padd q (times (-1) q'))) (Nat.le_of_eq (len_padd _ _))
  have le := Nat.le_trans (len_trim (padd r' (times (-1) r))) (Nat.le_of_eq (len_padd _ _))
  rw [len_times] at ld le
  have d0 : trim (padd q (times (-1) q')) = [] := by
    refine Classical.byContradiction fun d0 => ?_
    have e := prod_len g _ (trim (padd r' (times (-1) r))) hg (tr_trim _) (tr_trim _) g0 d0 (by omega) (by omega) fun x => (ed x).symm
    have := len_pmul g _ g0 d0
    rw [← e] at this
    have := List.length_pos_iff.2 d0
    omega
  have eq : ∀ x, ev q x = ev q' x := fun x => by
    have : ev (trim (padd q (times (-1) q'))) x = 0 := by rw [d0]; rfl
    rw [ev_trim, ev_padd, ev_times] at this; grind
  refine ⟨same q q' h.tq h'.tq (by omega) (by omega) eq, same r r' h.tr h'.tr (by omega) (by omega) fun x => ?_⟩
  have e1 := h.eq x
  have e2 := h'.eq x
  rw [eq] at e1
  grind

/-- Lengths in a division. -/
theorem Dv.len {f g q r : List F} (hf : Tr f) (hg : Tr g) (lf : f.length ≤ 1000) (lg : g.length ≤ 1000) (h : Dv f g q r) :
    (q = [] ∧ f = r) ∨ (q ≠ [] ∧ q.length + g.length = f.length + 1) := by
  have hlt := h.lt
  have hlq := h.lq
  have g0 : g ≠ [] := fun e => by rw [e] at hlt; simp at hlt
  by_cases q0 : q = []
  · refine .inl ⟨q0, same f r hf h.tr (by omega) (by omega) fun x => ?_⟩
    rw [h.eq, q0, ev_nil]; grind
  · refine .inr ⟨q0, ?_⟩
    have l1 := List.length_pos_iff.2 q0
    have l := len_pmul g q g0 q0
    have t := tr_pmul g q hg h.tq q0
    have le : (padd (pmul g q) r).length = (pmul g q).length := by rw [len_padd]; omega
    have ts : Tr (padd (pmul g q) r) := fun _ => by
      rw [le, co_padd, co_out r _ (by omega)]
      have := t (pmul_ne g q g0 q0)
      grind
    have := same f _ hf ts (by omega) (by omega) fun x => by rw [h.eq, ev_padd, ev_pmul]
    rw [this, le]
    omega

/-- Of a row that runs to places that may be nought, the shortened one. -/
theorem Dv.of {f g q r : List F} (hf : Tr f) (hg : Tr g) (lf : f.length ≤ 1000) (lg : g.length ≤ 1000) (lq : q.length ≤ f.length) (hr : (trim r).length < g.length)
    (h : ∀ x, ev f x = ev g x * ev q x + ev r x) : Dv f g (trim q) (trim r) :=
  ⟨tr_trim q, tr_trim r, hr, Nat.le_trans (len_trim q) lq, fun x => by rw [h, ev_trim, ev_trim]⟩

/-- What is left by all that was made: quotient's row is as long as it may be. -/
theorem Dv.full {f g q r : List F} (hf : Tr f) (hg : Tr g) (lf : f.length ≤ 1000) (lg : g.length ≤ 1000) (g0 : g ≠ []) (lq : q.length = f.length - (g.length - 1)) (hr : (trim r).length < g.length)
    (h : ∀ x, ev f x = ev g x * ev q x + ev r x) : Dv f g q (trim r) := by
  have l1 := List.length_pos_iff.2 g0
  have d := Dv.of (q := q) hf hg lf lg (by omega) hr h
  have e : trim q = q := by
    refine trim_len_eq q ?_
    rcases d.len hf hg lf lg with ⟨e, e2⟩ | ⟨_, e⟩
    · have : q.length = 0 := by rw [lq]; rw [e2]; omega
      rw [e, this]; rfl
    · omega
  rwa [e] at d

end Go.Proofs.Ytldkamhknaflbaa.Pol
