/- Plain facts on polynomials through given points: there is one, divided differences make it, and so does Lagrange's sum. -/
import Derived.Test.YteaonlmiifpjfaaDoorPolN
namespace Go.Proofs.YteaonlmiifpjfaaDoor.Pol
open Fp
set_option linter.unusedVariables false

/-- The first n points have different places. -/
def Apart (X : Nat → F) (n : Nat) : Prop := ∀ i j, i < j → j < n → X i ≠ X j
theorem Apart.le {X : Nat → F} {n m : Nat} (h : Apart X n) (hm : m ≤ n) : Apart X m := fun i j h1 h2 => h i j h1 (by omega)
theorem Apart.ne {X : Nat → F} {n i j : Nat} (h : Apart X n) (hi : i < n) (hj : j < n) (e : i ≠ j) : X i ≠ X j := by
  rcases Nat.lt_or_ge i j with l | l
  · exact h i j l hj
  · exact fun e2 => h j i (by omega) hi e2.symm
/-- p has at most n factors and goes through the first n points. -/
def Th (X Y : Nat → F) (n : Nat) (p : List F) : Prop := p.length ≤ n ∧ ∀ i, i < n → ev p (X i) = Y i

theorem sub_ne {a b : F} (h : a ≠ b) : a - b ≠ 0 := fun e => h (by grind)

theorem zero_dots (n : Nat) : ∀ (X : Nat → F) (p : List F), p.length ≤ n → Apart X n → (∀ i, i < n → ev p (X i) = 0) → ∀ b ∈ p, b = 0 := by
  induction n with
  | zero =>
    intro X p hp _ _ b hb
    have : p = [] := List.eq_nil_of_length_eq_zero (by omega)
    subst this; simp at hb
  | succ n ih =>
    intro X p hp hX hz
    by_cases h0 : p = []
    · subst h0; intro b hb; simp at hb
    · obtain ⟨q, h1, h2, h3⟩ := synth p (X n) h0
      have hr := hz n (by omega)
      refine h3 (ih X q (by omega) (hX.le (by omega)) fun i hi => ?_) hr
      have e := h2 (X i)
      rw [hr, hz i (by omega)] at e
      have e2 : (X i - X n) * ev q (X i) = 0 := by grind
      rcases mul_zero_or e2 with h | h
      · exact absurd h (sub_ne (hX i n hi (by omega)))
      · exact h

theorem co_mem_zero {p : List F} (h : ∀ b ∈ p, b = 0) (k : Nat) : co p k = 0 := by
  rcases Nat.lt_or_ge k p.length with l | l
  · have : co p k ∈ p := by
      unfold co; rw [List.getD_eq_getElem?_getD, List.getElem?_eq_getElem l]; exact List.getElem_mem l
    exact h _ this
  · exact co_out p k l

theorem Th.one {X Y : Nat → F} {n : Nat} {p q : List F} (hX : Apart X n) (hp : Th X Y n p) (hq : Th X Y n q) (k : Nat) : co p k = co q k := by
  have h := zero_dots n X (padd p (times (-1) q)) (by have h1 := hp.1; have h2 := hq.1; rw [len_padd, len_times]; omega) hX fun i hi => by
    rw [ev_padd, ev_times, hp.2 i hi, hq.2 i hi]; grind
  have := co_mem_zero h k
  rw [co_padd, co_times] at this
  grind
theorem ev_of_co {p q : List F} (h : ∀ k, co p k = co q k) (x : F) : ev p x = ev q x := by
  have e : trim p = trim q := tr_ext _ _ (tr_trim p) (tr_trim q) fun k => by rw [co_trim, co_trim, h]
  rw [← ev_trim p, e, ev_trim]
theorem Th.ev {X Y : Nat → F} {n : Nat} {p q : List F} (hX : Apart X n) (hp : Th X Y n p) (hq : Th X Y n q) (x : F) : Pol.ev p x = Pol.ev q x := ev_of_co (hp.one hX hq) x
theorem Th.same {X Y : Nat → F} {n : Nat} {p q : List F} (hX : Apart X n) (hp : Th X Y n p) (hq : Th X Y n q) (tp : Tr p) (tq : Tr q) : p = q := tr_ext _ _ tp tq (hp.one hX hq)
theorem Th.trim {X Y : Nat → F} {n : Nat} {p : List F} (hp : Th X Y n p) : Th X Y n (Pol.trim p) :=
  ⟨Nat.le_trans (len_trim p) hp.1, fun i hi => by rw [ev_trim]; exact hp.2 i hi⟩

/-- Divided differences: of the points j to j + k. -/
def dd (X Y : Nat → F) : Nat → Nat → F
  | 0, j => Y j
  | k + 1, j => (dd X Y k (j + 1) - dd X Y k j) * inv (X (j + k + 1) - X j)

theorem co_lin (a b : F) (p : List F) (k : Nat) : co (pmul [a, b] p) (k + 1) = a * co p (k + 1) + b * co p k := by
  simp only [pmul]
  rw [co_padd, co_times, co_succ, co_padd, co_times]
  have : co (0 :: []) k = (0 : F) := by cases k <;> simp [co]
  rw [this]; grind
theorem ev_lin (a b : F) (p : List F) (x : F) : Pol.ev (pmul [a, b] p) x = (a + b * x) * Pol.ev p x := by
  rw [ev_pmul, ev_cons, ev_one]; grind

/-- AITKEN: what goes through the points j to j + k, and its greatest factor is the divided difference. -/
theorem dd_is (X Y : Nat → F) (k : Nat) : ∀ j, Apart X (j + k + 1) → ∃ p : List F, p.length ≤ k + 1 ∧ (∀ i, j ≤ i → i ≤ j + k → Pol.ev p (X i) = Y i) ∧ co p k = dd X Y k j := by
  induction k with
  | zero =>
    intro j _
    refine ⟨[Y j], by simp, fun i h1 h2 => ?_, by simp [co, dd]⟩
    rw [show i = j by omega, ev_one]
  | succ k ih =>
    intro j hX
    obtain ⟨p, lp, ep, cp⟩ := ih j (hX.le (by omega))
    obtain ⟨q, lq, eq, cq⟩ := ih (j + 1) (by rw [show j + 1 + k + 1 = j + (k + 1) + 1 by omega]; exact hX)
    have ne : X (j + k + 1) - X j ≠ 0 := sub_ne (hX.ne (by omega) (by omega) (by omega))
    have hi := inv_mul ne
    refine ⟨trim (times (inv (X (j + k + 1) - X j)) (padd (pmul [-(X j), 1] q) (pmul [X (j + k + 1), -1] p))), trim_short _ _ fun m hm => ?_, fun i h1 h2 => ?_, ?_⟩
    · obtain ⟨m, rfl⟩ : ∃ t, m = t + 1 := ⟨m - 1, by omega⟩
      rw [co_times, co_padd, co_lin, co_lin, co_out q (m + 1) (by omega), co_out p (m + 1) (by omega), co_out q m (by omega), co_out p m (by omega)]; grind
    · rw [ev_trim, ev_times, ev_padd, ev_lin, ev_lin]
      by_cases a : i = j
      · subst a
        rw [ep i (by omega) (by omega)]; grind
      · by_cases b : i = j + k + 1
        · subst b
          rw [eq (j + k + 1) (by omega) (by omega)]; grind
        · rw [ep i (by omega) (by omega), eq i (by omega) (by omega)]; grind
    · rw [co_trim, co_times, co_padd, co_lin, co_lin, co_out q (k + 1) (by omega), co_out p (k + 1) (by omega), cp, cq, dd]; grind

/-- The divided difference is the factor of the k-th power of what goes through the points 0 to k. -/
theorem dd_top {X Y : Nat → F} {k : Nat} {p : List F} (hX : Apart X (k + 1)) (hp : Th X Y (k + 1) p) : co p k = dd X Y k 0 := by
  obtain ⟨q, lq, eq, cq⟩ := dd_is X Y k 0 (by rw [Nat.zero_add]; exact hX)
  rw [← cq]
  exact hp.one hX ⟨lq, fun i hi => eq i (Nat.zero_le _) (by omega)⟩ k

/-- Some polynomial goes through the points. -/
theorem th_some (X Y : Nat → F) (n : Nat) (hX : Apart X n) : ∃ p, Th X Y n p := by
  cases n with
  | zero => exact ⟨[], Nat.le_refl _, fun i hi => by omega⟩
  | succ n =>
    obtain ⟨p, lp, ep, _⟩ := dd_is X Y n 0 (by rw [Nat.zero_add]; exact hX)
    exact ⟨p, lp, fun i hi => ep i (Nat.zero_le _) (by omega)⟩

/-- (x - x0) .. (x - xk): the polynomial. -/
def way (X : Nat → F) : Nat → List F
  | 0 => [1]
  | k + 1 => mul (way X k) [-(X k), 1]
theorem len_way (X : Nat → F) (k : Nat) (hk : k ≤ 100) : (way X k).length ≤ k + 1 := by
  induction k with
  | zero => exact Nat.le_refl _
  | succ k ih =>
    have h := ih (by omega)
    have := len_mul' (way X k) [-(X k), 1] (by simp; omega)
    simp at this
    rw [way]; omega
theorem tr_way (X : Nat → F) (k : Nat) : Tr (way X k) := by
  cases k with
  | zero => exact fun _ => one_ne
  | succ k => exact tr_mul _ _
theorem ev_way_zero (X : Nat → F) (k i : Nat) (h : i < k) : Pol.ev (way X k) (X i) = 0 := by
  induction k with
  | zero => omega
  | succ k ih =>
    rw [way, ev_mul, ev_cons, ev_one]
    by_cases e : i = k
    · subst e; grind
    · rw [ih (by omega)]; grind
/-- The factor of the greatest power is one. -/
theorem co_way (X : Nat → F) (k : Nat) (hk : k ≤ 100) : co (way X k) k = 1 := by
  induction k with
  | zero => rfl
  | succ k ih =>
    have h := ih (by omega)
    have l := len_way X k (by omega)
    rw [way, mul, co_trim]
    have := co_pmul (way X k) [-(X k), 1] k 1 l (by simp)
    rw [this, h]; simp [co]

/-- NEWTON's sum: of the first m steps. -/
def nsum (X S : Nat → F) : Nat → List F
  | 0 => []
  | m + 1 => plus (nsum X S m) (way X m) (S m) 0
theorem tr_nsum (X S : Nat → F) (m : Nat) : Tr (nsum X S m) := by
  cases m with
  | zero => exact tr_nil
  | succ m => exact tr_plus _ _ _ _
theorem len_nsum (X S : Nat → F) (m : Nat) (hm : m ≤ 100) : (nsum X S m).length ≤ m := by
  induction m with
  | zero => exact Nat.le_refl _
  | succ m ih =>
    have h := ih (by omega)
    have l := len_way X m (by omega)
    have := len_plus (nsum X S m) (way X m) (S m) 0
    rw [nsum]; omega
theorem th_nsum (X Y : Nat → F) (m : Nat) (hm : m ≤ 100) (hX : Apart X m) : Th X Y m (nsum X (fun k => dd X Y k 0) m) := by
  induction m with
  | zero => exact ⟨Nat.le_refl _, fun i hi => by omega⟩
  | succ m ih =>
    have h := ih (by omega) (hX.le (by omega))
    obtain ⟨p, hp⟩ := th_some X Y (m + 1) hX
    have c := dd_top hX hp
    have l := len_way X m (by omega)
    -- p without its greatest factor times the way
    have hq : Th X Y m (trim (padd p (times (-(dd X Y m 0)) (way X m)))) := by
      refine ⟨trim_short _ _ fun k hk => ?_, fun i hi => ?_⟩
      · rw [co_padd, co_times]
        by_cases e : k = m
        · subst e; rw [c, co_way X k (by omega)]; grind
        · rw [co_out p k (by have := hp.1; omega), co_out _ k (by omega)]; grind
      · rw [ev_trim, ev_padd, ev_times, ev_way_zero X m i hi, hp.2 i (by omega)]; grind
    refine ⟨len_nsum X _ (m + 1) hm, fun i hi => ?_⟩
    have e := h.ev (hX.le (by omega)) hq (X i)
    rw [nsum, ev_plus, e, ev_trim, ev_padd, ev_times, pw_zero, hp.2 i hi]; grind

/-- From the end on: what the last n - i steps make. -/
def hor (X S : Nat → F) (n : Nat) : Nat → List F
  | 0 => []
  | m + 1 => add (mul (hor X S n m) [-(X (n - (m + 1))), 1]) [S (n - (m + 1))]
theorem len_hor (X S : Nat → F) (n m : Nat) (hm : m ≤ 100) : (hor X S n m).length ≤ m := by
  induction m with
  | zero => exact Nat.le_refl _
  | succ m ih =>
    have h := ih (by omega)
    have l := len_mul' (hor X S n m) [-(X (n - (m + 1))), 1] (by simp; omega)
    have := len_add (mul (hor X S n m) [-(X (n - (m + 1))), 1]) [S (n - (m + 1))]
    simp at l this
    rw [hor]; omega
theorem tr_hor (X S : Nat → F) (n m : Nat) : Tr (hor X S n m) := by
  cases m with
  | zero => exact tr_nil
  | succ m => exact tr_add _ _
theorem ev_hor (X S : Nat → F) (n m : Nat) (hm : m ≤ n) (x : F) : Pol.ev (nsum X S n) x = Pol.ev (nsum X S (n - m)) x + Pol.ev (way X (n - m)) x * Pol.ev (hor X S n m) x := by
  induction m with
  | zero => rw [hor, ev_nil, Nat.sub_zero]; grind
  | succ m ih =>
    have e : n - m = (n - (m + 1)) + 1 := by omega
    rw [ih (by omega), e, nsum, ev_plus, way, ev_mul, hor, ev_add, ev_mul, ev_one, ev_cons, ev_one, pw_zero]; grind
theorem hor_nsum (X S : Nat → F) (n : Nat) (hn : n ≤ 100) : hor X S n n = nsum X S n := by
  refine Pol.same _ _ (tr_hor X S n n) (tr_nsum X S n) (by have := len_hor X S n n hn; omega) (by have := len_nsum X S n hn; omega) fun x => ?_
  have := ev_hor X S n n (Nat.le_refl _) x
  rw [Nat.sub_self] at this
  rw [this]; show _ = 0 + _ * _; rw [show Pol.ev (way X 0) x = 1 from ev_one 1 x]; grind

/-- The one that goes through the points, without noughts at its end. -/
def thr (X Y : Nat → F) (n : Nat) : List F := hor X (fun k => dd X Y k 0) n n
theorem thr_nsum (X Y : Nat → F) (n : Nat) (hn : n ≤ 100) : thr X Y n = nsum X (fun k => dd X Y k 0) n := hor_nsum X _ n hn
theorem th_thr (X Y : Nat → F) (n : Nat) (hn : n ≤ 100) (hX : Apart X n) : Th X Y n (thr X Y n) := by
  rw [thr_nsum X Y n hn]; exact th_nsum X Y n hn hX
theorem tr_thr (X Y : Nat → F) (n : Nat) : Tr (thr X Y n) := tr_hor _ _ _ _
theorem len_thr (X Y : Nat → F) (n : Nat) (hn : n ≤ 100) : (thr X Y n).length ≤ n := len_hor _ _ _ _ hn
theorem thr_of {X Y : Nat → F} {n : Nat} {p : List F} (hn : n ≤ 100) (hX : Apart X n) (h : Th X Y n p) (tp : Tr p) : p = thr X Y n :=
  h.same hX (th_thr X Y n hn hX) tp (tr_thr X Y n)
theorem co_thr {X Y : Nat → F} {k : Nat} (hk : k < 100) (hX : Apart X (k + 1)) : co (thr X Y (k + 1)) k = dd X Y k 0 := dd_top hX (th_thr X Y (k + 1) (by omega) hX)

/-- LAGRANGE: the one that is y at place i and nought at the others, of the first k. -/
def lag (X : Nat → F) (y : F) (i : Nat) : Nat → List F
  | 0 => [y]
  | k + 1 => if k = i then lag X y i k else mul (lag X y i k) [-(X k) * inv (X i - X k), inv (X i - X k)]
theorem len_lag (X : Nat → F) (y : F) (i k : Nat) (hk : k ≤ 100) : (lag X y i k).length ≤ k + 1 ∧ (i < k → (lag X y i k).length ≤ k) := by
  induction k with
  | zero => exact ⟨by simp [lag], fun h => by omega⟩
  | succ k ih =>
    have h := ih (by omega)
    rw [lag]
    by_cases e : k = i
    · rw [if_pos e]; exact ⟨by omega, fun _ => by omega⟩
    · rw [if_neg e]
      have l := len_mul' (lag X y i k) [-(X k) * inv (X i - X k), inv (X i - X k)] (by simp; omega)
      simp at l
      exact ⟨by omega, fun hi => by have := h.2 (by omega); omega⟩
theorem lag_one (a b i y : F) (h : i * (a - b) = 1) : y * (-b * i + a * i) = y := by
  have : -b * i + a * i = i * (a - b) := by grind
  rw [this, h, Fin.mul_one]
theorem lag_zero (a i y : F) : y * (-a * i + a * i) = 0 := by grind
theorem ev_lag_at (X : Nat → F) (y : F) (n i k : Nat) (hX : Apart X n) (hi : i < n) (hk : k ≤ n) : Pol.ev (lag X y i k) (X i) = y := by
  induction k with
  | zero => rw [lag, ev_one]
  | succ k ih =>
    rw [lag]
    by_cases e : k = i
    · rw [if_pos e]; exact ih (by omega)
    · rw [if_neg e, ev_mul, ih (by omega), ev_cons, ev_one]
      exact lag_one _ _ _ _ (inv_mul (sub_ne (hX.ne hi (show k < n by omega) (fun h => e h.symm))))
theorem ev_lag_no (X : Nat → F) (y : F) (i k j : Nat) (hj : j < k) (h : j ≠ i) : Pol.ev (lag X y i k) (X j) = 0 := by
  induction k with
  | zero => omega
  | succ k ih =>
    rw [lag]
    by_cases e : k = i
    · rw [if_pos e]; exact ih (by omega)
    · rw [if_neg e, ev_mul, ev_cons, ev_one]
      by_cases e2 : j = k
      · subst e2; exact lag_zero _ _ _
      · rw [ih (by omega), Fin.zero_mul]
/-- LAGRANGE's sum of the first m. -/
def lsum (X Y : Nat → F) (n : Nat) : Nat → List F
  | 0 => []
  | m + 1 => plus (lsum X Y n m) (lag X (Y m) m n) 1 0
theorem len_lsum (X Y : Nat → F) (n m : Nat) (hn : n ≤ 100) (hm : m ≤ n) : (lsum X Y n m).length ≤ n := by
  induction m with
  | zero => exact Nat.zero_le _
  | succ m ih =>
    have h := ih (by omega)
    have l := (len_lag X (Y m) m n hn).2 (by omega)
    have := len_plus (lsum X Y n m) (lag X (Y m) m n) 1 0
    rw [lsum]; omega
theorem ev_lsum (X Y : Nat → F) (n m j : Nat) (hX : Apart X n) (hm : m ≤ n) (hj : j < n) : Pol.ev (lsum X Y n m) (X j) = if j < m then Y j else 0 := by
  induction m with
  | zero => rw [lsum, ev_nil, if_neg (by omega)]
  | succ m ih =>
    rw [lsum, ev_plus, ih (by omega), pw_zero]
    by_cases e : j = m
    · subst e
      rw [if_neg (by omega), if_pos (by omega), ev_lag_at X (Y j) n j n hX hj (Nat.le_refl _)]; grind
    · rw [ev_lag_no X (Y m) m n j hj e]
      by_cases l : j < m
      · rw [if_pos l, if_pos (by omega)]; grind
      · rw [if_neg l, if_neg (by omega)]; grind
theorem lsum_thr (X Y : Nat → F) (n : Nat) (hn : n ≤ 100) (hX : Apart X n) : lsum X Y n n = thr X Y n := by
  refine thr_of hn hX ⟨len_lsum X Y n n hn (Nat.le_refl _), fun i hi => ?_⟩ ?_
  · rw [ev_lsum X Y n n i hX (Nat.le_refl _) hi, if_pos hi]
  · cases n with
    | zero => exact tr_nil
    | succ n => exact tr_plus _ _ _ _

/-- The points from the end on. -/
theorem thr_turned (X Y X' Y' : Nat → F) (n : Nat) (hn : n ≤ 100) (hX : Apart X n) (hx : ∀ i, i < n → X' i = X (n - 1 - i)) (hy : ∀ i, i < n → Y' i = Y (n - 1 - i)) :
    Apart X' n ∧ thr X' Y' n = thr X Y n := by
  have hA : Apart X' n := fun i j h1 h2 => by
    rw [hx i (by omega), hx j h2]
    exact hX.ne (by omega) (by omega) (by omega)
  refine ⟨hA, thr_of hn hX ⟨len_thr X' Y' n hn, fun i hi => ?_⟩ (tr_thr X' Y' n)⟩
  have h := (th_thr X' Y' n hn hA).2 (n - 1 - i) (by omega)
  rw [hx _ (by omega), hy _ (by omega), show n - 1 - (n - 1 - i) = i by omega] at h
  exact h
theorem thr_congr {X Y X' Y' : Nat → F} {n : Nat} (hn : n ≤ 100) (hX : Apart X n) (hx : ∀ i, i < n → X' i = X i) (hy : ∀ i, i < n → Y' i = Y i) : Apart X' n ∧ thr X' Y' n = thr X Y n := by
  have hA : Apart X' n := fun i j h1 h2 => by rw [hx i (by omega), hx j h2]; exact hX i j h1 h2
  refine ⟨hA, thr_of hn hX ⟨len_thr X' Y' n hn, fun i hi => ?_⟩ (tr_thr X' Y' n)⟩
  have h := (th_thr X' Y' n hn hA).2 i hi
  rw [hx i hi, hy i hi] at h
  exact h
/-- What goes through sums is the sum. -/
theorem thr_sum (X Y Z : Nat → F) (n : Nat) (hn : n ≤ 100) (hX : Apart X n) : thr X (fun i => Y i + Z i) n = add (thr X Y n) (thr X Z n) := by
  refine (thr_of hn hX ⟨?_, fun i hi => ?_⟩ (tr_add _ _)).symm
  · have := len_add (thr X Y n) (thr X Z n)
    have := len_thr X Y n hn
    have := len_thr X Z n hn
    omega
  · rw [ev_add, (th_thr X Y n hn hX).2 i hi, (th_thr X Z n hn hX).2 i hi]

/-- The table of the divided differences: cell k after the orders up to o. -/
def tab (X Y : Nat → F) (o k : Nat) : F := dd X Y (min k o) (k - min k o)
theorem tab_zero (X Y : Nat → F) (k : Nat) : tab X Y 0 k = Y k := by rw [tab, Nat.min_zero]; rfl
theorem tab_low (X Y : Nat → F) (o k : Nat) (h : k ≤ o) : tab X Y o k = dd X Y k 0 := by rw [tab, Nat.min_eq_left h, Nat.sub_self]
theorem tab_keep (X Y : Nat → F) (o k : Nat) (h : k ≤ o) : tab X Y (o + 1) k = tab X Y o k := by rw [tab_low X Y o k h, tab_low X Y (o + 1) k (by omega)]
theorem tab_step (X Y : Nat → F) (o k : Nat) (h : o + 1 ≤ k) : tab X Y (o + 1) k = (tab X Y o k - tab X Y o (k - 1)) * inv (X k - X (k - (o + 1))) := by
  obtain ⟨j, rfl⟩ : ∃ j, k = j + (o + 1) := ⟨k - (o + 1), by omega⟩
  rw [tab, Nat.min_eq_right h, Nat.add_sub_cancel, dd, tab, Nat.min_eq_right (by omega), tab, Nat.min_eq_right (by omega)]
  rw [show j + (o + 1) - o = j + 1 by omega, show j + (o + 1) - 1 - o = j by omega, show j + o + 1 = j + (o + 1) by omega]
/-- While order o + 1 is made: the cells from i on have it. -/
def mid (X Y : Nat → F) (o i k : Nat) : F := if i < k then tab X Y (o + 1) k else tab X Y o k
/-- A row from a rule. -/
def row (n : Nat) (g : Nat → F) : List F := (List.range n).map g
theorem len_row (n : Nat) (g : Nat → F) : (row n g).length = n := by simp [row]
theorem co_row (n : Nat) (g : Nat → F) (k : Nat) (h : k < n) : co (row n g) k = g k := by
  unfold co row
  rw [List.getD_eq_getElem?_getD, List.getElem?_map, List.getElem?_range h]; rfl
theorem row_ext (n : Nat) (g h : Nat → F) (e : ∀ k, k < n → g k = h k) : row n g = row n h :=
  List.map_congr_left fun k hk => e k (List.mem_range.1 hk)
theorem row_self (p : List F) : row p.length (co p) = p := by
  refine list_ext _ _ (len_row _ _) fun k => ?_
  rcases Nat.lt_or_ge k p.length with h | h
  · exact co_row _ _ k h
  · rw [co_out _ k (by rw [len_row]; exact h), co_out _ k h]
theorem row_set (n : Nat) (g h : Nat → F) (i : Nat) (hi : i < n) (e : ∀ k, k < n → h k = if k = i then h i else g k) : (row n g).set i (h i) = row n h := by
  refine list_ext _ _ (by rw [List.length_set, len_row, len_row]) fun k => ?_
  rcases Nat.lt_or_ge k n with l | l
  · rw [co_set _ _ _ _ (by rw [len_row]; exact hi), co_row n h k l, e k l, co_row n g k l]
  · rw [co_out _ k (by rw [List.length_set, len_row]; exact l), co_out _ k (by rw [len_row]; exact l)]
theorem row_mid (X Y : Nat → F) (n o i : Nat) (hi : i < n) (ho : o + 1 ≤ i) :
    (row n (mid X Y o i)).set i (tab X Y (o + 1) i) = row n (mid X Y o (i - 1)) := by
  have e : mid X Y o (i - 1) i = tab X Y (o + 1) i := by rw [mid, if_pos (by omega)]
  rw [← e]
  refine row_set n _ _ i hi fun k hk => ?_
  by_cases h : k = i
  · subst h; rw [if_pos rfl]
  · rw [if_neg h, mid, mid]
    by_cases h2 : i < k
    · rw [if_pos h2, if_pos (by omega)]
    · rw [if_neg h2, if_neg (by omega)]
theorem mid_start (X Y : Nat → F) (n o : Nat) : row n (mid X Y o (n - 1)) = row n (tab X Y o) := row_ext _ _ _ fun k hk => by rw [mid, if_neg (by omega)]
theorem mid_end (X Y : Nat → F) (n o : Nat) : row n (mid X Y o o) = row n (tab X Y (o + 1)) := row_ext _ _ _ fun k hk => by
  rw [mid]
  by_cases h : o < k
  · rw [if_pos h]
  · rw [if_neg h, tab_keep X Y o k (by omega)]
theorem tab_end (X Y : Nat → F) (n o : Nat) (h : n ≤ o + 1) : row n (tab X Y o) = row n (fun k => dd X Y k 0) := row_ext _ _ _ fun k hk => tab_low X Y o k (by omega)

end Go.Proofs.YteaonlmiifpjfaaDoor.Pol
