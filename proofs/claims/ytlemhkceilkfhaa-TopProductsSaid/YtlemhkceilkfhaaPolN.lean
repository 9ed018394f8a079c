/- Plain facts on polynomials, second part: rows that are changed cell by cell, Euclid's steps, the monic one, and the numbers as the program has them. -/
import Derived.Test.YtlemhkceilkfhaaPolM
namespace Go.Proofs.Ytlemhkceilkfhaa.Pol
open Fp
set_option linter.unusedVariables false

theorem co_set (p : List F) (k m : Nat) (a : F) (h : k < p.length) : co (p.set k a) m = if m = k then a else co p m := by
  unfold co
  rw [List.getD_eq_getElem?_getD, List.getD_eq_getElem?_getD, List.getElem?_set]
  by_cases e : k = m
  · subst e; simp [h]
  · rw [if_neg e, if_neg (fun h => e h.symm)]

theorem ev_take_more (p : List F) (k : Nat) (x : F) : ev (p.take (k + 1)) x = ev (p.take k) x + co p k * pw x k := by
  rcases Nat.lt_or_ge k p.length with h | h
  · exact ev_take_succ p k h x
  · rw [List.take_of_length_le h, List.take_of_length_le (by omega), co_out p k h]; grind

/-- To R from place i on c times the first j of g are added. -/
def addAt (R : List F) (c : F) (g : List F) (i : Nat) : Nat → List F
  | 0 => R
  | j + 1 => (addAt R c g i j).set (i + j) (co (addAt R c g i j) (i + j) + c * co g j)
theorem len_addAt (R : List F) (c : F) (g : List F) (i j : Nat) : (addAt R c g i j).length = R.length := by
  induction j with
  | zero => rfl
  | succ j ih => rw [addAt, List.length_set, ih]
theorem ev_addAt (R : List F) (c : F) (g : List F) (i j : Nat) (h : i + j ≤ R.length) (x : F) : ev (addAt R c g i j) x = ev R x + c * pw x i * ev (g.take j) x := by
  induction j with
  | zero => rw [addAt, List.take_zero, ev_nil]; grind
  | succ j ih => rw [addAt, ev_set _ _ _ _ (by rw [len_addAt]; omega), ih (by omega), ev_take_more, pw_add]; grind
theorem co_addAt_far (R : List F) (c : F) (g : List F) (i j k : Nat) (h : i + j ≤ R.length) (hk : i + j ≤ k) : co (addAt R c g i j) k = co R k := by
  induction j with
  | zero => rfl
  | succ j ih => rw [addAt, co_set _ _ _ _ (by rw [len_addAt]; omega), if_neg (by omega), ih (by omega) (by omega)]
theorem co_addAt_top (R : List F) (c : F) (g : List F) (i m : Nat) (h : i + m < R.length) : co (addAt R c g i (m + 1)) (i + m) = co R (i + m) + c * co g m := by
  rw [addAt, co_set _ _ _ _ (by rw [len_addAt]; exact h), if_pos rfl, co_addAt_far R c g i m _ (by omega) (Nat.le_refl _)]

/-- The rows of a product, one after another. -/
def mulRows (f g : List F) : Nat → List F
  | 0 => List.replicate (f.length + g.length) 0
  | i + 1 => addAt (mulRows f g i) (co f i) g i g.length
theorem len_mulRows (f g : List F) (i : Nat) : (mulRows f g i).length = f.length + g.length := by
  induction i with
  | zero => rw [mulRows, List.length_replicate]
  | succ i ih => rw [mulRows, len_addAt, ih]
theorem ev_mulRows (f g : List F) (i : Nat) (h : i ≤ f.length) (x : F) : ev (mulRows f g i) x = ev (f.take i) x * ev g x := by
  induction i with
  | zero => rw [mulRows, ev_zeros, List.take_zero, ev_nil]; grind
  | succ i ih => rw [mulRows, ev_addAt _ _ _ _ _ (by rw [len_mulRows]; omega), List.take_length, ih (by omega), ev_take_more]; grind

/-- The sum, without noughts at its end. -/
def add (f g : List F) : List F := trim (padd f g)
/-- The product, without noughts at its end. -/
def mul (f g : List F) : List F := trim (pmul f g)
theorem ev_add (f g : List F) (x : F) : ev (add f g) x = ev f x + ev g x := by rw [add, ev_trim, ev_padd]
theorem ev_mul (f g : List F) (x : F) : ev (mul f g) x = ev f x * ev g x := by rw [mul, ev_trim, ev_pmul]
theorem tr_add (f g : List F) : Tr (add f g) := tr_trim _
theorem tr_mul (f g : List F) : Tr (mul f g) := tr_trim _
theorem len_add (f g : List F) : (add f g).length ≤ max f.length g.length := Nat.le_trans (len_trim _) (Nat.le_of_eq (len_padd _ _))
theorem len_mul (f g : List F) : (mul f g).length ≤ f.length + g.length := Nat.le_trans (len_trim _) (len_pmul_le _ _)
theorem len_mul' (f g : List F) (h : f.length + g.length ≤ 9973) : (mul f g).length ≤ f.length + g.length - 1 := by
  by_cases h1 : f = []
  · subst h1; rw [mul, pmul, trim_nil]; simp
  · by_cases h2 : g = []
    · have : mul f g = [] := zero_of _ (tr_mul f g) (Nat.le_trans (len_mul f g) h) fun x => by rw [ev_mul, h2, ev_nil]; grind
      rw [this]; simp
    · have := len_pmul f g h1 h2
      have := len_trim (pmul f g)
      rw [mul]; omega
theorem is_add (f g r : List F) (lf : f.length ≤ 1000) (lg : g.length ≤ 1000) (lr : r.length ≤ 1000) (h : ∀ x, ev r x = ev f x + ev g x) : trim r = add f g := by
  have := len_add f g
  have := len_trim r
  exact same _ _ (tr_trim r) (tr_add f g) (by omega) (by omega) fun x => by rw [ev_trim, h, ev_add]
theorem is_mul (f g r : List F) (lf : f.length ≤ 1000) (lg : g.length ≤ 1000) (lr : r.length ≤ 2000) (h : ∀ x, ev r x = ev f x * ev g x) : trim r = mul f g := by
  have := len_mul f g
  have := len_trim r
  exact same _ _ (tr_trim r) (tr_mul f g) (by omega) (by omega) fun x => by rw [ev_trim, h, ev_mul]
theorem rows_mul (f g : List F) (lf : f.length ≤ 1000) (lg : g.length ≤ 1000) : trim (mulRows f g f.length) = mul f g :=
  is_mul f g _ lf lg (by rw [len_mulRows]; omega) fun x => by rw [ev_mulRows f g _ (Nat.le_refl _), List.take_length]
/-- The sum's row: f, noughts behind it, g added. -/
theorem row_add (f g : List F) (lf : f.length ≤ 1000) (lg : g.length ≤ 1000) :
    trim (addAt (f ++ List.replicate (max f.length g.length - f.length) 0) 1 g 0 g.length) = add f g :=
  is_add f g _ lf lg (by rw [len_addAt, List.length_append, List.length_replicate]; omega) fun x => by
    rw [ev_addAt _ _ _ _ _ (by rw [List.length_append, List.length_replicate]; omega), ev_append, ev_zeros, List.take_length, pw_zero]; grind

theorem mul_of (f g : List F) (lf : f.length ≤ 1000) (lg : g.length ≤ 1000) (h : trim g ≠ []) : mul f g = pmul (trim f) (trim g) := by
  have := len_mul f g
  have := len_trim f
  have := len_trim g
  have := len_pmul_le (trim f) (trim g)
  exact same _ _ (tr_mul f g) (tr_pmul _ _ (tr_trim f) (tr_trim g) h) (by omega) (by omega) fun x => by rw [ev_mul, ev_pmul, ev_trim, ev_trim]

/-- EUCLID's steps: from f and g they come to c. -/
inductive Gc : List F → List F → List F → Prop
  | done (f : List F) : Gc f [] f
  | step {f g q r c : List F} (d : Dv f g q r) (h : Gc g r c) : Gc f g c

theorem Dv.ne {f g q r : List F} (h : Dv f g q r) : g ≠ [] := fun e => by
  have := h.lt
  rw [e] at this; simp at this

theorem Gc.one {f g c : List F} (h : Gc f g c) : ∀ {c' : List F}, Tr g → f.length ≤ 1000 → g.length ≤ 1000 → Gc f g c' → c = c' := by
  induction h with
  | done f =>
    intro c' _ _ _ h'
    cases h' with
    | done => rfl
    | step d _ => exact absurd rfl d.ne
  | step d h ih =>
    intro c' hg lf lg h'
    cases h' with
    | done => exact absurd rfl d.ne
    | step d' h' =>
      obtain ⟨rfl, rfl⟩ := d.one hg lf lg d'
      have := d.lt
      exact ih d.tr lg (by omega) h'

theorem Gc.facts {f g c : List F} (h : Gc f g c) : Tr f → Tr g → f.length ≤ 1000 → g.length ≤ 1000 → Tr c ∧ c.length ≤ 1000 ∧ (c = [] ↔ f = [] ∧ g = []) ∧
    ∃ a b, Tr a ∧ Tr b ∧ a.length ≤ f.length ∧ b.length ≤ g.length ∧ (∀ x, ev f x = ev c x * ev a x) ∧ (∀ x, ev g x = ev c x * ev b x) := by
  induction h with
  | done f =>
    intro hf _ lf _
    refine ⟨hf, lf, ⟨fun h => ⟨h, rfl⟩, fun h => h.1⟩, ?_⟩
    by_cases h0 : f = []
    · subst h0
      exact ⟨[], [], tr_nil, tr_nil, Nat.le_refl _, Nat.le_refl _, fun x => by rw [ev_nil]; grind, fun x => by rw [ev_nil]; grind⟩
    · have := List.length_pos_iff.2 h0
      exact ⟨[1], [], fun _ => by simp [co], tr_nil, by simp; omega, Nat.le_refl _, fun x => by rw [ev_one]; grind, fun x => by rw [ev_nil]; grind⟩
  | @step f g q r c d h ih =>
    intro hf hg lf lg
    have hlt := d.lt
    have hlq := d.lq
    obtain ⟨tc, lc, hz, a, b, ta, tb, la, lb, ea, eb⟩ := ih hg d.tr lg (by omega)
    have c0 : c ≠ [] := fun e => d.ne (hz.1 e).1
    refine ⟨tc, lc, ⟨fun e => absurd e c0, fun e => absurd e.2 d.ne⟩, trim (padd (pmul a q) b), a, tr_trim _, ta, ?_, la, fun x => ?_, ea⟩
    · by_cases z : trim (padd (pmul a q) b) = []
      · rw [z]; simp
      · have e1 := len_trim (padd (pmul a q) b)
        rw [len_padd] at e1
        have e2 := len_pmul_le a q
        have e := prod_len c _ f tc (tr_trim _) hf c0 z (by omega) (by omega) fun x => by
          rw [ev_trim, ev_padd, ev_pmul, d.eq, ea, eb]; grind
        have l := len_pmul c _ c0 z
        rw [← e] at l
        have := List.length_pos_iff.2 c0
        omega
    · rw [ev_trim, ev_padd, ev_pmul, d.eq, ea, eb]; grind

theorem Dv.scale {f g q r h : List F} (d : Dv f g q r) (hh : Tr h) (h0 : h ≠ []) : Dv (pmul f h) (pmul g h) q (pmul r h) := by
  have g0 := d.ne
  have lg := len_pmul g h g0 h0
  have lh := List.length_pos_iff.2 h0
  have lgp := List.length_pos_iff.2 g0
  have hlt := d.lt
  have hlq := d.lq
  refine ⟨d.tq, tr_pmul r h d.tr hh h0, ?_, ?_, fun x => by rw [ev_pmul, ev_pmul, ev_pmul, d.eq]; grind⟩
  · by_cases r0 : r = []
    · rw [r0, pmul]; simp; omega
    · have := len_pmul r h r0 h0; omega
  · by_cases f0 : f = []
    · rw [f0] at hlq; simp at hlq; rw [hlq]; simp
    · have := len_pmul f h f0 h0; omega
theorem Gc.scale {f g c h : List F} (d : Gc f g c) (hh : Tr h) (h0 : h ≠ []) : Gc (pmul f h) (pmul g h) (pmul c h) := by
  induction d with
  | done f => exact .done _
  | step d _ ih => exact .step (d.scale hh h0) ih

theorem swap (a b i : F) (h : i * (a * b) = 1) : (i * b) * a = 1 := by rw [Fin.mul_assoc, Fin.mul_comm b, h]
theorem cancel (a b i : F) (h : i * b = 1) : a + -(a * i) * b = 0 := by
  have : (a * i) * b = a := by rw [Fin.mul_assoc, h, Fin.mul_one]
  have e : -(a * i) * b = -((a * i) * b) := by grind
  rw [e, this]; grind
/-- The greatest factor. -/
def top (p : List F) : F := co p (p.length - 1)
theorem top_ne {p : List F} (h : Tr p) (h0 : p ≠ []) : top p ≠ 0 := h h0
/-- Made monic. -/
def mon (p : List F) : List F := times (inv (top p)) p
theorem mon_nil : mon [] = [] := rfl
theorem len_mon (p : List F) : (mon p).length = p.length := len_times _ _
theorem mon_ne {p : List F} (h0 : p ≠ []) : mon p ≠ [] := fun e => h0 (List.eq_nil_of_length_eq_zero (by rw [← len_mon, e]; rfl))
theorem ev_mon (p : List F) (x : F) : ev (mon p) x = inv (top p) * ev p x := ev_times _ _ _
theorem top_mon {p : List F} (h : Tr p) (h0 : p ≠ []) : top (mon p) = 1 := by
  rw [top, len_mon, mon, co_times]
  exact inv_mul (top_ne h h0)
theorem tr_mon {p : List F} (h : Tr p) : Tr (mon p) := fun h1 => by
  have h0 : p ≠ [] := fun e => h1 (by rw [e]; rfl)
  have := top_mon h h0
  rw [top] at this
  rw [this]; exact one_ne
theorem inv_ne {a : F} (h : a ≠ 0) : inv a ≠ 0 := fun e => by
  have := inv_mul h
  rw [e] at this
  exact one_ne (by rw [← this]; grind)
theorem tr_times {c : F} {p : List F} (hc : c ≠ 0) (h : Tr p) : Tr (times c p) := fun h1 => by
  have h0 : p ≠ [] := fun e => h1 (by rw [e]; rfl)
  rw [len_times, co_times]
  intro e
  rcases mul_zero_or e with e | e
  · exact hc e
  · exact h h0 e

/-- What is divided by its greatest factor alone. -/
theorem mon_dv {p q r : List F} (h : Tr p) (h0 : p ≠ []) (lp : p.length ≤ 1000) (d : Dv p [top p] q r) : q = mon p := by
  have t := top_ne h h0
  have t1 : Tr [top p] := fun _ => t
  refine (d.one t1 lp (by simp) ⟨tr_mon h, tr_nil, by simp, by rw [len_mon]; exact Nat.le_refl _, fun x => ?_⟩).1
  rw [ev_one, ev_mon, ev_nil]
  have := mul_inv t
  grind

/-- c divides f, and so does it made monic. -/
theorem mon_divides {f c a : List F} (hc : Tr c) (h0 : c ≠ []) (ha : Tr a) (la : a.length ≤ f.length) (h : ∀ x, ev f x = ev c x * ev a x) : Dv f (mon c) (times (top c) a) [] := by
  have t := top_ne hc h0
  have := List.length_pos_iff.2 h0
  refine ⟨tr_times t ha, tr_nil, by rw [len_mon]; simpa using this, by rw [len_times]; exact la, fun x => ?_⟩
  rw [ev_mon, ev_times, ev_nil, h]
  have := inv_mul t
  grind

theorem top_pmul {p q : List F} (h1 : p ≠ []) (h2 : q ≠ []) : top (pmul p q) = top p * top q := by
  have l1 := List.length_pos_iff.2 h1
  have l2 := List.length_pos_iff.2 h2
  have e := len_pmul p q h1 h2
  rw [top, show (pmul p q).length - 1 = (p.length - 1) + (q.length - 1) by omega]
  exact co_pmul p q _ _ (by omega) (by omega)

/-- The monic divisor so many times, by the monic divisor of what is so many times: a number. -/
theorem mon_scale {c h : List F} (hc : Tr c) (hh : Tr h) (c0 : c ≠ []) (h0 : h ≠ []) : Dv (pmul (mon c) h) (mon (pmul c h)) [top h] [] := by
  have tc := top_ne hc c0
  have th := top_ne hh h0
  have l := List.length_pos_iff.2 (pmul_ne c h c0 h0)
  have l2 := List.length_pos_iff.2 (pmul_ne (mon c) h (mon_ne c0) h0)
  refine ⟨fun _ => th, tr_nil, by rw [len_mon]; simpa using l, by simp; omega, fun x => ?_⟩
  rw [ev_pmul, ev_mon, ev_mon, ev_pmul, ev_one, ev_nil, top_pmul c0 h0]
  have e1 := inv_mul tc
  have e2 := inv_mul th
  have e3 : inv (top c * top h) * (top c * top h) = 1 := inv_mul fun e => by
    rcases mul_zero_or e with e | e
    · exact tc e
    · exact th e
  have e4 : inv (top c * top h) * top h = inv (top c) := by
    have : (inv (top c * top h) * top h) * top c = inv (top c) * top c := by rw [e1]; exact swap _ _ _ e3
    exact mul_cancel tc this
  rw [← e4]; grind

/-- The same one, so many times and shifted, added: as the document's answer does it. -/
def shift (t : F) (up : Nat) (g : List F) : List F := List.replicate up 0 ++ times t g
theorem ev_shift (t : F) (up : Nat) (g : List F) (x : F) : ev (shift t up g) x = t * pw x up * ev g x := by
  rw [shift, ev_append, ev_zeros, ev_times, List.length_replicate]; grind
theorem len_shift (t : F) (up : Nat) (g : List F) : (shift t up g).length = up + g.length := by rw [shift, List.length_append, List.length_replicate, len_times]
theorem co_shift_low (t : F) (up : Nat) (g : List F) (k : Nat) (h : k < up) : co (shift t up g) k = 0 := by
  rw [shift, co, List.getD_eq_getElem?_getD, List.getElem?_append_left (by simpa using h)]
  simp [h]
theorem co_shift (t : F) (up : Nat) (g : List F) (k : Nat) (h : up ≤ k) : co (shift t up g) k = t * co g (k - up) := by
  rw [← co_times, shift, co, List.getD_eq_getElem?_getD, List.getElem?_append_right (by simpa using h), List.length_replicate, co, List.getD_eq_getElem?_getD]
def plus (f g : List F) (t : F) (up : Nat) : List F := trim (padd f (shift t up g))
theorem ev_plus (f g : List F) (t : F) (up : Nat) (x : F) : ev (plus f g t up) x = ev f x + t * pw x up * ev g x := by rw [plus, ev_trim, ev_padd, ev_shift]
theorem tr_plus (f g : List F) (t : F) (up : Nat) : Tr (plus f g t up) := tr_trim _
theorem len_plus (f g : List F) (t : F) (up : Nat) : (plus f g t up).length ≤ max f.length (up + g.length) := by
  have := len_trim (padd f (shift t up g))
  rw [len_padd, len_shift] at this
  exact this
/-- The row of the first k of a sum. -/
def plusRow (f g : List F) (t : F) (up : Nat) : Nat → List F
  | 0 => []
  | k + 1 => plusRow f g t up k ++ [co f k + co (shift t up g) k]
theorem len_plusRow (f g : List F) (t : F) (up k : Nat) : (plusRow f g t up k).length = k := by
  induction k with
  | zero => rfl
  | succ k ih => rw [plusRow, List.length_append, ih]; rfl
theorem ev_plusRow (f g : List F) (t : F) (up k : Nat) (x : F) : ev (plusRow f g t up k) x = ev (f.take k) x + ev ((shift t up g).take k) x := by
  induction k with
  | zero => rw [plusRow, List.take_zero, List.take_zero, ev_nil]; grind
  | succ k ih => rw [plusRow, ev_snoc, len_plusRow, ih, ev_take_more, ev_take_more]; grind
theorem row_plus (f g : List F) (t : F) (up k : Nat) (h1 : f.length ≤ k) (h2 : up + g.length ≤ k) (hk : k ≤ 1000) : trim (plusRow f g t up k) = plus f g t up := by
  have := len_trim (plusRow f g t up k)
  have e := len_plusRow f g t up k
  have := len_plus f g t up
  refine same _ _ (tr_trim _) (tr_plus f g t up) (by omega) (by omega) fun x => ?_
  rw [ev_trim, ev_plusRow, ev_plus, List.take_of_length_le h1, List.take_of_length_le (by rw [len_shift]; exact h2), ev_shift]

/-- One step of dividing takes the greatest factor away. -/
theorem plus_less (f g : List F) (hf : f ≠ []) (hg : Tr g) (g0 : g ≠ []) (hl : g.length ≤ f.length) :
    (plus f g (-(top f * inv (top g))) (f.length - g.length)).length < f.length := by
  have l1 := List.length_pos_iff.2 hf
  have l2 := List.length_pos_iff.2 g0
  have t := top_ne hg g0
  have : (plus f g (-(top f * inv (top g))) (f.length - g.length)).length ≤ f.length - 1 := trim_short _ _ fun k hk => by
    rw [co_padd, co_shift _ _ _ _ (by omega)]
    by_cases e : k = f.length - 1
    · have e2 : k - (f.length - g.length) = g.length - 1 := by omega
      have e3 : co f k = top f := by rw [e]; rfl
      have e4 : co g (g.length - 1) = top g := rfl
      rw [e2, e3, e4]
      exact cancel _ _ _ (inv_mul t)
    · rw [co_out f k (by omega), co_out g _ (by omega), Fin.mul_zero, Fin.add_zero]
  omega

/-- The numbers of a row as the program has them. -/
def vals (p : List F) : List Int := p.map fun a => (a.val : Int)
theorem len_vals (p : List F) : (vals p).length = p.length := List.length_map ..
theorem vals_at (p : List F) (k : Nat) : (vals p).getD k 0 = ((co p k).val : Int) := by
  unfold vals co
  rw [List.getD_eq_getElem?_getD, List.getD_eq_getElem?_getD, List.getElem?_map]
  cases p[k]? <;> rfl
theorem vals_set (p : List F) (k : Nat) (a : F) : vals (p.set k a) = (vals p).set k (a.val : Int) := List.map_set ..
theorem vals_take (p : List F) (k : Nat) : vals (p.take k) = (vals p).take k := List.map_take ..
theorem vals_append (p q : List F) : vals (p ++ q) = vals p ++ vals q := List.map_append ..
theorem vals_inj {p q : List F} (h : vals p = vals q) : p = q := by
  refine list_ext p q (by rw [← len_vals p, h, len_vals]) fun k => ?_
  have := vals_at p k
  rw [h, vals_at] at this
  exact (val_inj this).symm
theorem vals_zeros (n : Nat) : vals (List.replicate n 0) = List.replicate n 0 := List.map_replicate ..

/-- What is wrong with a row of numbers, as a number. -/
def code (l : List Int) : Nat := if 12 < l.length then 4 else if ∀ n ∈ l, 0 ≤ n ∧ n ≤ 9972 then 0 else 1
theorem code_zero {l : List Int} (h : code l = 0) : ∃ p : List F, l = vals p ∧ p.length ≤ 12 := by
  unfold code at h
  split at h
  · cases h
  · split at h
    · rename_i h1 h2
      refine ⟨l.map ofInt, ?_, by simpa using h1⟩
      unfold vals
      rw [List.map_map]
      conv => lhs; rw [← List.map_id l]
      exact List.map_congr_left fun n hn => (ofInt_of n (h2 n hn).1 (h2 n hn).2).symm
    · cases h
theorem code_vals (p : List F) (h : p.length ≤ 12) : code (vals p) = 0 := by
  unfold code
  rw [if_neg (by rw [len_vals]; omega), if_pos]
  intro n hn
  obtain ⟨a, _, rfl⟩ := List.mem_map.1 hn
  exact val_bound a
theorem code_some (l : List Int) : code l = 0 ∨ code l = 1 ∨ code l = 4 := by
  unfold code
  split
  · exact .inr (.inr rfl)
  · split
    · exact .inl rfl
    · exact .inr (.inl rfl)
theorem code_full {l : List Int} (h : 12 < l.length) : code l = 4 := by unfold code; rw [if_pos h]
theorem code_range {l : List Int} (h : ¬ 12 < l.length) {k : Nat} (hk : k < l.length) (hn : ¬ (0 ≤ l.getD k 0 ∧ l.getD k 0 ≤ 9972)) : code l = 1 := by
  unfold code
  rw [if_neg h, if_neg]
  intro f
  refine hn ?_
  rw [List.getD_eq_getElem?_getD, List.getElem?_eq_getElem hk]
  exact f _ (List.getElem_mem _)
theorem code_ok {l : List Int} (h : ¬ 12 < l.length) (hn : ∀ k, k < l.length → 0 ≤ l.getD k 0 ∧ l.getD k 0 ≤ 9972) : code l = 0 := by
  unfold code
  rw [if_neg h, if_pos]
  intro n hm
  obtain ⟨k, hk, rfl⟩ := List.mem_iff_getElem.1 hm
  have := hn k hk
  rwa [List.getD_eq_getElem?_getD, List.getElem?_eq_getElem hk] at this
theorem code_zero_iff (l : List Int) : code l = 0 ↔ l.length ≤ 12 ∧ ∀ k, k < l.length → 0 ≤ l.getD k 0 ∧ l.getD k 0 ≤ 9972 := by
  constructor
  · intro h
    obtain ⟨p, rfl, hp⟩ := code_zero h
    refine ⟨by rw [len_vals]; exact hp, fun k _ => ?_⟩
    rw [vals_at]; exact val_bound _
  · rintro ⟨h1, h2⟩
    exact code_ok (by omega) h2

/-- The error of two rows, as a number. -/
def code2 (l m : List Int) : Nat := if code l = 0 then code m else code l
theorem code2_zero {l m : List Int} (h : code2 l m = 0) : code l = 0 ∧ code m = 0 := by
  unfold code2 at h
  split at h
  · exact ⟨by assumption, h⟩
  · contradiction

/-- Sums and products as the program has them. -/
theorem val_madd (s a b : F) : ((s.val : Int) + (a.val : Int) * (b.val : Int)) % 9973 = ((s + a * b).val : Int) := by
  rw [add_val, mul_val, Int.add_emod_emod]
theorem val_msub (s t c : F) : ((s.val : Int) + (9973 - (t.val : Int)) * (c.val : Int)) % 9973 = ((s + -t * c).val : Int) := by
  have e : ofInt (9973 - (t.val : Int)) = -t := by
    have : ofInt (9973 - (t.val : Int)) + ofInt (t.val : Int) = 0 := by
      rw [← ofInt_add, show 9973 - (t.val : Int) + (t.val : Int) = 9973 by omega]; rfl
    rw [ofInt_self] at this; grind
  have h := ofInt_val ((s.val : Int) + (9973 - (t.val : Int)) * (c.val : Int))
  rw [ofInt_add, ofInt_mul, e, ofInt_self, ofInt_self] at h
  exact h.symm
theorem val_horner (v x a : F) : ((v.val : Int) * (x.val : Int) + (a.val : Int)) % 9973 = ((a + x * v).val : Int) := by
  rw [add_val, mul_val, Int.add_emod_emod]
  congr 1
  rw [Int.mul_comm (x.val : Int)]; omega

end Go.Proofs.Ytlemhkceilkfhaa.Pol
