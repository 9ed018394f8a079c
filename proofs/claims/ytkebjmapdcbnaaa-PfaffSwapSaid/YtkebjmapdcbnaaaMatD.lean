/- Plain facts on determinants over the field, by the first row: linear in each column, nought with two equal columns, the sign with two exchanged; which matrices can be undone. No program is named here. -/
import Derived.Test.YtkebjmapdcbnaaaMatE
namespace Go.Proofs.Ytkebjmapdcbnaaa.Mx
open Fp
set_option linter.unusedVariables false

/-- The sign of a place. -/
def sgn (j : Nat) : F := if j % 2 = 0 then 1 else -1
theorem sgn_succ (j : Nat) : sgn (j + 1) = -(sgn j) := by
  unfold sgn
  by_cases h : j % 2 = 0
  · rw [if_pos h, if_neg (by omega)]
  · rw [if_neg h, if_pos (by omega)]; grind
/-- Without the first row and column j. -/
def del (j : Nat) (f : Nat → Nat → F) : Nat → Nat → F := fun a b => f (a + 1) (sk j b)
/-- The determinant, by the first row. -/
def dt : Nat → (Nat → Nat → F) → F
  | 0, _ => 1
  | n + 1, f => sg (n + 1) fun j => sgn j * f 0 j * dt n (del j f)
theorem dt_succ (n : Nat) (f : Nat → Nat → F) : dt (n + 1) f = sg (n + 1) fun j => sgn j * f 0 j * dt n (del j f) := rfl
theorem dt_congr : ∀ (n : Nat) {f g : Nat → Nat → F}, Eqm n n f g → dt n f = dt n g
  | 0, _, _, _ => rfl
  | n + 1, f, g, h => sg_congr fun j hj => by
    have e : dt n (del j f) = dt n (del j g) := dt_congr n fun a b ha hb => h (a + 1) (sk j b) (by omega) (sk_lt hb)
    rw [h 0 j (Nat.succ_pos n) hj, e]

/-- Column c in the place of its own. -/
def setc (c : Nat) (u : Nat → F) (f : Nat → Nat → F) : Nat → Nat → F := fun i j => if j = c then u i else f i j
/-- Where a column comes to stand when column j is gone. -/
def un (j c : Nat) : Nat := if c < j then c else c - 1
theorem sk_un {j c : Nat} (h : j ≠ c) : sk j (un j c) = c := by
  unfold un
  by_cases e : c < j
  · rw [if_pos e]; unfold sk; rw [if_pos e]
  · rw [if_neg e]; unfold sk; rw [if_neg (by omega)]; omega
theorem un_lt {j c n : Nat} (h : j ≠ c) (hc : c < n + 1) (hj : j < n + 1) : un j c < n := by unfold un; split <;> omega
theorem sk_eq {j c b : Nat} (h : j ≠ c) : sk j b = c ↔ b = un j c := ⟨fun e => sk_inj (e.trans (sk_un h).symm), fun e => by rw [e, sk_un h]⟩
theorem del_same (c : Nat) (u : Nat → F) (f : Nat → Nat → F) : del c (setc c u f) = del c f := by
  funext a b
  show (if sk c b = c then u (a + 1) else f (a + 1) (sk c b)) = _
  rw [if_neg (sk_ne c b)]; rfl
theorem del_other {j c : Nat} (h : j ≠ c) (u : Nat → F) (f : Nat → Nat → F) : del j (setc c u f) = setc (un j c) (fun a => u (a + 1)) (del j f) := by
  funext a b
  show (if sk j b = c then u (a + 1) else f (a + 1) (sk j b)) = if b = un j c then u (a + 1) else f (a + 1) (sk j b)
  by_cases e : b = un j c
  · rw [if_pos e, if_pos ((sk_eq h).2 e)]
  · rw [if_neg e, if_neg fun e' => e ((sk_eq h).1 e')]
theorem dt_lin : ∀ (n c : Nat) (hc : c < n) (a b : F) (u w : Nat → F) (f : Nat → Nat → F),
    dt n (setc c (fun i => a * u i + b * w i) f) = a * dt n (setc c u f) + b * dt n (setc c w f)
  | 0, c, hc, _, _, _, _, _ => absurd hc (by omega)
  | n + 1, c, hc, a, b, u, w, f => by
    rw [dt_succ, dt_succ, dt_succ, ← sg_times, ← sg_times, ← sg_add]
    refine sg_congr fun j hj => ?_
    by_cases h : j = c
    · subst h
      rw [del_same, del_same, del_same]
      show sgn j * (if j = j then a * u 0 + b * w 0 else f 0 j) * dt n (del j f) = a * (sgn j * (if j = j then u 0 else f 0 j) * dt n (del j f)) + b * (sgn j * (if j = j then w 0 else f 0 j) * dt n (del j f))
      rw [if_pos rfl, if_pos rfl, if_pos rfl]; grind
    · rw [del_other h, del_other h, del_other h, dt_lin n (un j c) (un_lt h hc hj) a b (fun i => u (i + 1)) (fun i => w (i + 1))]
      show sgn j * (if j = c then a * u 0 + b * w 0 else f 0 j) * _ = a * (sgn j * (if j = c then u 0 else f 0 j) * _) + b * (sgn j * (if j = c then w 0 else f 0 j) * _)
      rw [if_neg h, if_neg h, if_neg h]; grind
theorem setc_self (c : Nat) (f : Nat → Nat → F) : setc c (fun i => f i c) f = f := by
  funext i j
  show (if j = c then f i c else f i j) = f i j
  by_cases h : j = c
  · rw [if_pos h, h]
  · rw [if_neg h]
theorem setc_setc (c : Nat) (u w : Nat → F) (f : Nat → Nat → F) : setc c u (setc c w f) = setc c u f := by
  funext i j
  show (if j = c then u i else if j = c then w i else f i j) = if j = c then u i else f i j
  by_cases h : j = c
  · rw [if_pos h, if_pos h]
  · rw [if_neg h, if_neg h, if_neg h]
theorem setc_comm {c d : Nat} (h : c ≠ d) (u w : Nat → F) (f : Nat → Nat → F) : setc c u (setc d w f) = setc d w (setc c u f) := by
  funext i j
  show (if j = c then u i else if j = d then w i else f i j) = if j = d then w i else if j = c then u i else f i j
  by_cases h1 : j = c
  · rw [if_pos h1, if_neg (by omega), if_pos h1]
  · rw [if_neg h1, if_neg h1]
theorem dt_plus (n c : Nat) (hc : c < n) (u w : Nat → F) (f : Nat → Nat → F) : dt n (setc c (fun i => u i + w i) f) = dt n (setc c u f) + dt n (setc c w f) := by
  have := dt_lin n c hc 1 1 u w f
  rw [show (fun i => (1 : F) * u i + 1 * w i) = fun i => u i + w i by funext i; grind] at this
  rw [this]; grind
theorem dt_times (n c : Nat) (hc : c < n) (a : F) (u : Nat → F) (f : Nat → Nat → F) : dt n (setc c (fun i => a * u i) f) = a * dt n (setc c u f) := by
  have := dt_lin n c hc a 0 u u f
  rw [show (fun i => a * u i + 0 * u i) = fun i => a * u i by funext i; grind] at this
  rw [this]; grind
theorem dt_sum (n c : Nat) (hc : c < n) (f : Nat → Nat → F) (a : Nat → F) (u : Nat → Nat → F) : ∀ m, dt n (setc c (fun i => sg m fun t => a t * u t i) f) = sg m fun t => a t * dt n (setc c (u t) f)
  | 0 => by
    have := dt_times n c hc 0 (fun _ => 0) f
    rw [show (fun i => (0 : F) * (fun _ => 0) i) = fun _ => (0 : F) by funext i; grind] at this
    show dt n (setc c (fun _ => 0) f) = 0
    rw [this]; grind
  | m + 1 => by
    have := dt_plus n c hc (fun i => sg m fun t => a t * u t i) (fun i => a m * u m i) f
    rw [dt_times n c hc, dt_sum n c hc f a u m] at this
    exact this

/-- A sum with two terms that are not nought. -/
theorem sg_two {n : Nat} {f : Nat → F} {k l : Nat} (hk : k < n) (hl : l < n) (hne : k ≠ l) (h : ∀ i, i < n → i ≠ k → i ≠ l → f i = 0) : sg n f = f k + f l := by
  have e : sg n f = sg n (fun i => if i = k then f k else 0) + sg n (fun i => if i = l then f l else 0) := by
    rw [← sg_add]
    refine sg_congr fun i hi => ?_
    by_cases h1 : i = k
    · subst h1; rw [if_pos rfl, if_neg hne]; grind
    · by_cases h2 : i = l
      · subst h2; rw [if_neg h1, if_pos rfl]; grind
      · rw [h i hi h1 h2, if_neg h1, if_neg h2]; grind
  rw [e, sg_one hk fun i _ h1 => by rw [if_neg h1], sg_one hl fun i _ h1 => by rw [if_neg h1], if_pos rfl, if_pos rfl]
/-- Two equal columns side by side. -/
theorem dt_next : ∀ (n c : Nat) (hc : c + 1 < n) (f : Nat → Nat → F), (∀ i, i < n → f i c = f i (c + 1)) → dt n f = 0
  | 0, c, hc, _, _ => absurd hc (by omega)
  | n + 1, c, hc, f, h => by
    rw [dt_succ, sg_two (k := c) (l := c + 1) (by omega) hc (by omega) fun j hj h1 h2 => ?_]
    · have e : dt n (del c f) = dt n (del (c + 1) f) := dt_congr n fun a b ha hb => by
        show f (a + 1) (sk c b) = f (a + 1) (sk (c + 1) b)
        by_cases e : b = c
        · have e1 : sk c b = c + 1 := by unfold sk; rw [if_neg (by omega), e]
          have e2 : sk (c + 1) b = c := by unfold sk; rw [if_pos (by omega), e]
          rw [e1, e2]; exact (h (a + 1) (by omega)).symm
        · have e1 : sk c b = sk (c + 1) b := by unfold sk; split <;> split <;> omega
          rw [e1]
      rw [e, sgn_succ, h 0 (by omega)]; grind
    · have : dt n (del j f) = 0 := by
        rcases Nat.lt_or_ge j c with hlt | hge
        · refine dt_next n (c - 1) (by omega) (del j f) fun a ha => ?_
          show f (a + 1) (sk j (c - 1)) = f (a + 1) (sk j (c - 1 + 1))
          have e1 : sk j (c - 1) = c := by unfold sk; rw [if_neg (by omega)]; omega
          have e2 : sk j (c - 1 + 1) = c + 1 := by unfold sk; rw [if_neg (by omega)]; omega
          rw [e1, e2]; exact h (a + 1) (by omega)
        · refine dt_next n c (by omega) (del j f) fun a ha => ?_
          show f (a + 1) (sk j c) = f (a + 1) (sk j (c + 1))
          have e1 : sk j c = c := by unfold sk; rw [if_pos (by omega)]
          have e2 : sk j (c + 1) = c + 1 := by unfold sk; rw [if_pos (by omega)]
          rw [e1, e2]; exact h (a + 1) (by omega)
      rw [this]; grind
/-- From nought with two equal columns: the sign turns when they change places. -/
theorem dt_anti {n c d : Nat} (hc : c < n) (hd : d < n) (hne : c ≠ d) (hz : ∀ (w : Nat → F) (g : Nat → Nat → F), dt n (setc c w (setc d w g)) = 0) (u w : Nat → F) (f : Nat → Nat → F) :
    dt n (setc c u (setc d w f)) = -(dt n (setc c w (setc d u f))) := by
  have h := hz (fun i => u i + w i) f
  rw [dt_plus n c hc, setc_comm hne u, setc_comm hne w, dt_plus n d hd, dt_plus n d hd, ← setc_comm hne, ← setc_comm hne, ← setc_comm hne, ← setc_comm hne, hz u, hz w] at h
  grind
theorem next_zero {n c : Nat} (hc : c + 1 < n) (w : Nat → F) (g : Nat → Nat → F) : dt n (setc c w (setc (c + 1) w g)) = 0 := dt_next n c hc _ fun i _ => by
  show (if c = c then w i else _) = if c + 1 = c then w i else if c + 1 = c + 1 then w i else _
  rw [if_pos rfl, if_neg (by omega), if_pos rfl]
/-- Two equal columns, wherever they stand. -/
theorem both_zero {n c : Nat} : ∀ (d : Nat), c + d + 1 < n → ∀ (w : Nat → F) (g : Nat → Nat → F), dt n (setc c w (setc (c + d + 1) w g)) = 0
  | 0, h, w, g => next_zero h w g
  | d + 1, h, w, g => by
    -- columns c + d + 1 and c + d + 2 change places
    have h1 : dt n (setc c w (setc (c + (d + 1) + 1) w g)) = dt n (setc (c + d + 1) (fun i => g i (c + d + 1)) (setc (c + d + 1 + 1) w (setc c w g))) := by
      refine dt_congr n fun i j _ _ => ?_
      show (if j = c then w i else if j = c + (d + 1) + 1 then w i else g i j) = if j = c + d + 1 then g i (c + d + 1) else if j = c + d + 1 + 1 then w i else if j = c then w i else g i j
      by_cases e1 : j = c
      · rw [if_pos e1, if_neg (by omega), if_neg (by omega), if_pos e1]
      · by_cases e2 : j = c + (d + 1) + 1
        · rw [if_neg e1, if_pos e2, if_neg (by omega), if_pos (by omega)]
        · by_cases e3 : j = c + d + 1
          · rw [if_neg e1, if_neg e2, if_pos e3, e3]
          · rw [if_neg e1, if_neg e2, if_neg e3, if_neg (by omega), if_neg e1]
    rw [h1, dt_anti (by omega) (by omega) (by omega) (fun w g => next_zero (by omega) w g)]
    have h2 : setc (c + d + 1) w (setc (c + d + 1 + 1) (fun i => g i (c + d + 1)) (setc c w g)) = setc c w (setc (c + d + 1) w (setc (c + d + 1 + 1) (fun i => g i (c + d + 1)) g)) := by
      rw [setc_comm (show c + d + 1 + 1 ≠ c by omega), setc_comm (show c + d + 1 ≠ c by omega)]
    rw [h2, both_zero d (by omega)]; grind
theorem dt_equal {n c d : Nat} (hc : c < n) (hd : d < n) (hne : c ≠ d) (w : Nat → F) (g : Nat → Nat → F) : dt n (setc c w (setc d w g)) = 0 := by
  rcases Nat.lt_or_ge c d with h | h
  · have := both_zero (n := n) (c := c) (d - c - 1) (by omega) w g
    rw [show c + (d - c - 1) + 1 = d by omega] at this
    exact this
  · have := both_zero (n := n) (c := d) (c - d - 1) (by omega) w g
    rw [show d + (c - d - 1) + 1 = c by omega] at this
    rw [setc_comm hne]; exact this
/-- Column d in the place of column c: nought. -/
theorem dt_copy {n c d : Nat} (hc : c < n) (hd : d < n) (hne : c ≠ d) (f : Nat → Nat → F) : dt n (setc c (fun i => f i d) f) = 0 := by
  have := dt_equal hc hd hne (fun i => f i d) f
  rw [setc_self] at this
  exact this
theorem dt_swap {n c d : Nat} (hc : c < n) (hd : d < n) (hne : c ≠ d) (f : Nat → Nat → F) : dt n (setc c (fun i => f i d) (setc d (fun i => f i c) f)) = -(dt n f) := by
  rw [dt_anti hc hd hne (fun w g => dt_equal hc hd hne w g)]
  have : setc c (fun i => f i c) (setc d (fun i => f i d) f) = f := by rw [setc_self d, setc_self c]
  rw [this]
/-- What is taken to noughts by something that is not has no determinant. -/
theorem dt_null {n : Nat} {f : Nat → Nat → F} {y : Nat → F} {c : Nat} (hc : c < n) (h1 : y c ≠ 0) (h : ∀ i, i < n → sg n (fun j => f i j * y j) = 0) : dt n f = 0 := by
  -- the determinant with the sum of all columns, each so many times, in the place of column c
  have e1 : dt n (setc c (fun i => sg n fun t => y t * f i t) f) = 0 := by
    have : dt n (setc c (fun i => sg n fun t => y t * f i t) f) = dt n (setc c (fun i => (0 : F) * f i c) f) := dt_congr n fun i j hi _ => by
      show (if j = c then sg n (fun t => y t * f i t) else f i j) = if j = c then (0 : F) * f i c else f i j
      rw [show sg n (fun t => y t * f i t) = (0 : F) * f i c by
        rw [sg_congr (g := fun j => f i j * y j) fun t _ => by grind, h i hi]; grind]
    rw [this, dt_times n c hc]; grind
  have e2 := dt_sum n c hc f y (fun t i => f i t) n
  rw [e1, sg_one hc fun t ht hne => by rw [dt_copy hc ht (fun e => hne e.symm)]; grind, setc_self] at e2
  exact (mul_zero_or e2.symm).resolve_left h1

/-- Of any matrix there is the form in steps. -/
theorem steps_some (r c : Nat) (f : Nat → Nat → F) : ∀ k, k ≤ c → ∃ b g, Steps r k b g ∧ Req r c f g
  | 0, _ => ⟨[], f, steps_none r f, Req.refl r c f⟩
  | k + 1, hk => by
    obtain ⟨b, g, hs, hr⟩ := steps_some r c f k (by omega)
    by_cases h0 : ∀ i, b.length ≤ i → i < r → g i k = 0
    · exact ⟨b, g, hs.skip h0, hr⟩
    · obtain ⟨a, hn⟩ := Classical.not_forall.1 h0
      obtain ⟨ha, hn⟩ := Classical.not_imp.1 hn
      obtain ⟨har, hne⟩ := Classical.not_imp.1 hn
      exact ⟨b ++ [k], nxt b.length a k g, hs.next ha har hne, hr.trans (req_next g (by omega) har hne)⟩
/-- As many steps as columns: they begin one behind the other. -/
theorem Steps.full {n : Nat} {b : List Nat} {g : Nat → Nat → F} (h : Steps n n b g) (hl : b.length = n) : Eqm n n g one := by
  have hp : ∀ t, t < n → t ≤ pv b t := fun t => by
    induction t with
    | zero => intro _; omega
    | succ t ih => intro ht; have := ih (by omega); have := h.inc t (t + 1) (by omega) (by omega); omega
  have hq : ∀ d t, t + d + 1 = n → pv b t ≤ t := fun d => by
    induction d with
    | zero => intro t ht; have := h.lt t (by omega); omega
    | succ d ih => intro t ht; have := ih (t + 1) (by omega); have := h.inc t (t + 1) (by omega) (by omega); omega
  intro i j hi hj
  have e : pv b j = j := by have := hp j hj; have := hq (n - j - 1) j (by omega); omega
  have := h.piv j (by omega) i hi
  rw [e] at this
  exact this
/-- Fewer steps than columns: something that is not nought is taken to noughts. -/
theorem Steps.null {r c : Nat} {b : List Nat} {f g : Nat → Nat → F} (h : Steps r c b g) (e : Req r c f g) (hl : b.length < c) : ∃ (y : Nat → F) (k : Nat), k < c ∧ y k ≠ 0 ∧ ∀ i, i < r → sg c (fun j => f i j * y j) = 0 := by
  -- a column in which no row begins
  have free : ∃ k, k < c ∧ k ∉ b := by
    refine Classical.byContradiction fun hn => ?_
    have all : ∀ k, k < c → k ∈ b := fun k hk => Classical.byContradiction fun hk' => hn ⟨k, hk, hk'⟩
    have hs : b = List.range c := inc_same b (List.range c) h.pairs List.pairwise_lt_range fun x => by
      rw [List.mem_range]
      exact ⟨fun hx => by obtain ⟨t, ht, rfl⟩ := h.mem hx; exact h.lt t ht, all x⟩
    rw [hs, List.length_range] at hl
    omega
  obtain ⟨k, hk, hkb⟩ := free
  have hne : ∀ t, t < b.length → pv b t ≠ k := fun t ht e => hkb (by rw [← e]; show b.getD t 0 ∈ b; rw [List.getD_eq_getElem?_getD, List.getElem?_eq_getElem ht]; exact List.getElem_mem ht)
  refine ⟨fun j => (if j = k then 1 else 0) + sg b.length (fun t => if j = pv b t then -(g t k) else 0), k, hk, ?_, ?_⟩
  · dsimp only
    rw [if_pos rfl, sg_congr (g := fun _ => 0) fun t ht => by rw [if_neg fun e => hne t ht e.symm], sg_none]
    intro e; exact one_ne (by grind)
  · -- it is so for g, whose rows tell those of f
    have hg : ∀ i, i < r → sg c (fun j => g i j * ((if j = k then 1 else 0) + sg b.length (fun t => if j = pv b t then -(g t k) else 0))) = 0 := fun i hi => by
      have s1 : sg c (fun j => g i j * ((if j = k then 1 else 0) + sg b.length (fun t => if j = pv b t then -(g t k) else 0))) =
          sg c (fun j => g i j * (if j = k then 1 else 0)) + sg c (fun j => sg b.length (fun t => g i j * (if j = pv b t then -(g t k) else 0))) := by
        rw [← sg_add]
        refine sg_congr fun j _ => ?_
        rw [sg_times]; grind
      rw [s1, sg_one hk fun j _ hne => by rw [if_neg hne]; grind, if_pos rfl, sg_swap]
      have s2 : sg b.length (fun t => sg c (fun j => g i j * (if j = pv b t then -(g t k) else 0))) = sg b.length (fun t => (if i = t then (1 : F) else 0) * -(g t k)) := sg_congr fun t ht => by
        rw [sg_one (h.lt t ht) fun j _ hne => by rw [if_neg hne]; grind, if_pos rfl, h.piv t ht i hi]
      rw [s2]
      by_cases hib : i < b.length
      · rw [sg_one hib fun t _ hne => by rw [if_neg fun e => hne e.symm]; grind, if_pos rfl]; grind
      · rw [sg_congr (g := fun _ => 0) fun t ht => by rw [if_neg (by omega)]; grind, sg_none, h.zero i (by omega) hi k hk]; grind
    obtain ⟨⟨s, hs⟩, _⟩ := e
    intro i hi
    rw [sg_congr (g := fun j => mul r s g i j * ((if j = k then 1 else 0) + sg b.length (fun t => if j = pv b t then -(g t k) else 0))) fun j hj => by rw [hs i j hi hj]]
    have := congrFun (congrFun (mul_assoc r c s g (fun j _ => (if j = k then 1 else 0) + sg b.length (fun t => if j = pv b t then -(g t k) else 0))) i) 0
    refine this.trans ?_
    show sg r (fun x => s i x * sg c (fun j => g x j * ((if j = k then 1 else 0) + sg b.length (fun t => if j = pv b t then -(g t k) else 0)))) = 0
    rw [sg_congr (g := fun _ => 0) fun x hx => by rw [hg x hx]; grind, sg_none]
/-- What has a determinant can be undone. -/
theorem undo {n : Nat} {f : Nat → Nat → F} (h : dt n f ≠ 0) : ∃ t, Eqm n n (mul n t f) one := by
  obtain ⟨b, g, hs, hr⟩ := steps_some n n f n (Nat.le_refl _)
  by_cases hl : b.length = n
  · obtain ⟨_, ⟨t, ht⟩⟩ := hr
    exact ⟨t, ht.symm.trans (hs.full hl)⟩
  · obtain ⟨y, k, hk, hy, hz⟩ := hs.null hr (by have := hs.le; omega)
    exact absurd (dt_null hk hy hz) h
/-- Rows of what can be undone, done to a matrix: the same rows. -/
theorem req_undo {n c : Nat} {t k : Nat → Nat → F} (h : Eqm n n (mul n t k) one) (f : Nat → Nat → F) : Req n c f (mul n k f) := by
  refine ⟨⟨t, ?_⟩, ⟨k, Eqm.rfl' _ _ _⟩⟩
  rw [← mul_assoc]
  exact ((h.mul (Eqm.rfl' n c f)).trans (one_mul n c f)).symm

end Go.Proofs.Ytkebjmapdcbnaaa.Mx
