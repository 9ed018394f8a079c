/- The mathematics of determinants once more, over the whole numbers. No program is named here. -/
import Derived.Test.YtkebjmapdcbnaaaMatL
namespace Go.Proofs.Ytkebjmapdcbnaaa.Zx
set_option linter.unusedVariables false

/-- The sum of the first n values. -/
def sg : Nat → (Nat → Int) → Int
  | 0, _ => 0
  | n + 1, f => sg n f + f n
theorem sg_zero (f : Nat → Int) : sg 0 f = 0 := rfl
theorem sg_succ (n : Nat) (f : Nat → Int) : sg (n + 1) f = sg n f + f n := rfl
theorem sg_congr {n : Nat} {f g : Nat → Int} (h : ∀ i, i < n → f i = g i) : sg n f = sg n g := by
  induction n with
  | zero => rfl
  | succ n ih => rw [sg, sg, ih fun i hi => h i (by omega), h n (by omega)]
theorem sg_none (n : Nat) : sg n (fun _ => 0) = 0 := by
  induction n with
  | zero => rfl
  | succ n ih => rw [sg, ih]; grind
theorem sg_add (n : Nat) (f g : Nat → Int) : sg n (fun i => f i + g i) = sg n f + sg n g := by
  induction n with
  | zero => simp only [sg]; grind
  | succ n ih => rw [sg, sg, sg, ih]; grind
theorem sg_times (n : Nat) (a : Int) (f : Nat → Int) : sg n (fun i => a * f i) = a * sg n f := by
  induction n with
  | zero => simp only [sg]; grind
  | succ n ih => rw [sg, sg, ih]; grind
theorem sg_by (n : Nat) (a : Int) (f : Nat → Int) : sg n (fun i => f i * a) = sg n f * a := by
  induction n with
  | zero => simp only [sg]; grind
  | succ n ih => rw [sg, sg, ih]; grind
theorem sg_swap (n m : Nat) (f : Nat → Nat → Int) : sg n (fun i => sg m (f i)) = sg m (fun j => sg n (fun i => f i j)) := by
  induction n with
  | zero => simp only [sg]; exact (sg_none m).symm
  | succ n ih => rw [sg, ih, ← sg_add]; rfl
/-- A sum in which one term alone is not nought. -/
theorem sg_one {n : Nat} {f : Nat → Int} {k : Nat} (hk : k < n) (h : ∀ i, i < n → i ≠ k → f i = 0) : sg n f = f k := by
  induction n with
  | zero => omega
  | succ n ih =>
    rw [sg]
    by_cases e : k = n
    · subst e
      rw [sg_congr (g := fun _ => 0) fun i hi => h i (by omega) (by omega), sg_none]; grind
    · rw [ih (by omega) fun i hi => h i (by omega), h n (by omega) (fun e' => e e'.symm)]; grind
/-- Products, the one that changes nothing, powers, turned. -/
def mul (k : Nat) (f g : Nat → Nat → Int) : Nat → Nat → Int := fun i j => sg k fun x => f i x * g x j
def plus (f g : Nat → Nat → Int) : Nat → Nat → Int := fun i j => f i j + g i j
def one : Nat → Nat → Int := fun i j => if i = j then 1 else 0
def flip (f : Nat → Nat → Int) : Nat → Nat → Int := fun i j => f j i
/-- Alike on the first rows and columns. -/
def Eqm (r c : Nat) (f g : Nat → Nat → Int) : Prop := ∀ i j, i < r → j < c → f i j = g i j
theorem Eqm.rfl' (r c : Nat) (f : Nat → Nat → Int) : Eqm r c f f := fun _ _ _ _ => rfl
theorem Eqm.symm {r c : Nat} {f g : Nat → Nat → Int} (h : Eqm r c f g) : Eqm r c g f := fun i j hi hj => (h i j hi hj).symm
theorem Eqm.trans {r c : Nat} {f g k : Nat → Nat → Int} (h : Eqm r c f g) (h' : Eqm r c g k) : Eqm r c f k := fun i j hi hj => (h i j hi hj).trans (h' i j hi hj)
theorem Eqm.mul {r k c : Nat} {f f' g g' : Nat → Nat → Int} (h : Eqm r k f f') (h' : Eqm k c g g') : Eqm r c (Zx.mul k f g) (Zx.mul k f' g') := fun i j hi hj =>
  sg_congr fun x hx => by rw [h i x hi hx, h' x j hx hj]
theorem Eqm.plus {r c : Nat} {f f' g g' : Nat → Nat → Int} (h : Eqm r c f f') (h' : Eqm r c g g') : Eqm r c (Zx.plus f g) (Zx.plus f' g') := fun i j hi hj => by
  show f i j + g i j = f' i j + g' i j
  rw [h i j hi hj, h' i j hi hj]

theorem mul_assoc (m n : Nat) (f g h : Nat → Nat → Int) : mul n (mul m f g) h = mul m f (mul n g h) := by
  funext i j
  show sg n (fun y => sg m (fun x => f i x * g x y) * h y j) = sg m fun x => f i x * sg n fun y => g x y * h y j
  have e1 : (fun y => sg m (fun x => f i x * g x y) * h y j) = fun y => sg m fun x => f i x * (g x y * h y j) := by
    funext y
    rw [← sg_by]
    exact sg_congr fun x _ => by grind
  have e2 : (fun x => f i x * sg n fun y => g x y * h y j) = fun x => sg n fun y => f i x * (g x y * h y j) := by
    funext x
    rw [← sg_times]
  rw [e1, e2, sg_swap]
theorem mul_plus (n : Nat) (f g h : Nat → Nat → Int) : mul n f (plus g h) = plus (mul n f g) (mul n f h) := by
  funext i j
  show sg n (fun x => f i x * (g x j + h x j)) = sg n (fun x => f i x * g x j) + sg n fun x => f i x * h x j
  rw [← sg_add]
  exact sg_congr fun x _ => by grind
theorem plus_mul (n : Nat) (f g h : Nat → Nat → Int) : mul n (plus f g) h = plus (mul n f h) (mul n g h) := by
  funext i j
  show sg n (fun x => (f i x + g i x) * h x j) = sg n (fun x => f i x * h x j) + sg n fun x => g i x * h x j
  rw [← sg_add]
  exact sg_congr fun x _ => by grind
theorem one_mul (r c : Nat) (f : Nat → Nat → Int) : Eqm r c (mul r one f) f := fun i j hi hj => by
  show sg r (fun x => (if i = x then (1 : Int) else 0) * f x j) = f i j
  rw [sg_one hi fun x _ hne => by rw [if_neg fun e => hne e.symm]; grind]
  rw [if_pos rfl]; grind
theorem mul_one (r c : Nat) (f : Nat → Nat → Int) : Eqm r c (mul c f one) f := fun i j hi hj => by
  show sg c (fun x => f i x * (if x = j then (1 : Int) else 0)) = f i j
  rw [sg_one hj fun x _ hne => by rw [if_neg hne]; grind]
  rw [if_pos rfl]; grind
theorem flip_mul (k : Nat) (f g : Nat → Nat → Int) : flip (mul k f g) = mul k (flip g) (flip f) := by
  funext i j
  exact sg_congr fun x _ => by show f j x * g x i = g x i * f j x; grind
theorem flip_flip (f : Nat → Nat → Int) : flip (flip f) = f := rfl

theorem sg_split (n m : Nat) (f : Nat → Int) : sg (n + m) f = sg n f + sg m (fun i => f (n + i)) := by
  induction m with
  | zero => rw [Nat.add_zero, sg_zero]; grind
  | succ m ih => rw [← Nat.add_assoc, sg_succ, sg_succ, ih]; grind
/-- Terms of nought behind the first n. -/
theorem sg_less {n m : Nat} {f : Nat → Int} (h : n ≤ m) (h0 : ∀ i, n ≤ i → i < m → f i = 0) : sg m f = sg n f := by
  obtain ⟨d, rfl⟩ := Nat.exists_eq_add_of_le h
  rw [sg_split, sg_congr (g := fun _ => 0) fun i hi => h0 (n + i) (by omega) (by omega), sg_none]; grind
/-- A sum that is not nought has a term that is not. -/
theorem sg_ne {n : Nat} {f : Nat → Int} (h : sg n f ≠ 0) : ∃ i, i < n ∧ f i ≠ 0 := by
  refine Classical.byContradiction fun hn => h ?_
  rw [sg_congr (g := fun _ => 0) fun i hi => Classical.byContradiction fun he => hn ⟨i, hi, he⟩, sg_none]

open Mx (sk sk_lt sk_ne sk_inj un sk_un un_lt sk_eq sk_zero tau tau_zero tau_next sw sw_left sw_right sw_none sw_sw sw_lt sw_inj onto into by_swaps perm_of turn turn_next)
/-- Without row a and column b. -/
def wo (f : Nat → Nat → Int) (a b : Nat) : Nat → Nat → Int := fun i j => f (sk a i) (sk b j)
theorem one_sk (a i j : Nat) : one (sk a i) (sk a j) = one i j := by
  unfold one
  by_cases h : i = j
  · rw [if_pos h, if_pos (by rw [h])]
  · rw [if_neg h, if_neg (fun e => h (sk_inj e))]
/-- The sign of a place. -/
def sgn (j : Nat) : Int := if j % 2 = 0 then 1 else -1
theorem sgn_succ (j : Nat) : sgn (j + 1) = -(sgn j) := by
  unfold sgn
  by_cases h : j % 2 = 0
  · rw [if_pos h, if_neg (by omega)]
  · rw [if_neg h, if_pos (by omega)]; grind
/-- Without the first row and column j. -/
def del (j : Nat) (f : Nat → Nat → Int) : Nat → Nat → Int := fun a b => f (a + 1) (sk j b)
/-- The determinant, by the first row. -/
def dt : Nat → (Nat → Nat → Int) → Int
  | 0, _ => 1
  | n + 1, f => sg (n + 1) fun j => sgn j * f 0 j * dt n (del j f)
theorem dt_succ (n : Nat) (f : Nat → Nat → Int) : dt (n + 1) f = sg (n + 1) fun j => sgn j * f 0 j * dt n (del j f) := rfl
theorem dt_congr : ∀ (n : Nat) {f g : Nat → Nat → Int}, Eqm n n f g → dt n f = dt n g
  | 0, _, _, _ => rfl
  | n + 1, f, g, h => sg_congr fun j hj => by
    have e : dt n (del j f) = dt n (del j g) := dt_congr n fun a b ha hb => h (a + 1) (sk j b) (by omega) (sk_lt hb)
    rw [h 0 j (Nat.succ_pos n) hj, e]

/-- Column c in the place of its own. -/
def setc (c : Nat) (u : Nat → Int) (f : Nat → Nat → Int) : Nat → Nat → Int := fun i j => if j = c then u i else f i j
theorem del_same (c : Nat) (u : Nat → Int) (f : Nat → Nat → Int) : del c (setc c u f) = del c f := by
  funext a b
  show (if sk c b = c then u (a + 1) else f (a + 1) (sk c b)) = _
  rw [if_neg (sk_ne c b)]; rfl
theorem del_other {j c : Nat} (h : j ≠ c) (u : Nat → Int) (f : Nat → Nat → Int) : del j (setc c u f) = setc (un j c) (fun a => u (a + 1)) (del j f) := by
  funext a b
  show (if sk j b = c then u (a + 1) else f (a + 1) (sk j b)) = if b = un j c then u (a + 1) else f (a + 1) (sk j b)
  by_cases e : b = un j c
  · rw [if_pos e, if_pos ((sk_eq h).2 e)]
  · rw [if_neg e, if_neg fun e' => e ((sk_eq h).1 e')]
theorem dt_lin : ∀ (n c : Nat) (hc : c < n) (a b : Int) (u w : Nat → Int) (f : Nat → Nat → Int),
    dt n (setc c (fun i => a * u i + b * w i) f) = a * dt n (setc c u f) + b * dt n (setc c w f)
  | 0, c, hc, _, _, _, _, _ => absurd hc (by omega)
  | n + 1, c, hc, a, b, u, w, f => by
    rw [dt_succ, dt_succ, dt_succ, ← sg_times, ← sg_times, ← sg_add]
    refine sg_congr fun j hj => ?_
    by_cases h : j = c
    · subst h
      rw [del_same, del_same, del_same]
      show sgn j * (if j = j then a * u 0 + b * w 0 else f 0 j) * dt n (del j f) = a * (sgn j * (if j = j then u 0 else f 0 j) * dt n (del j f)) + b * (sgn j * (if j = j then w 0 else f 0 j) * dt n (del j f))
      rw [if_pos rfl, if_pos rfl, if_pos rfl]; grind
    · rw [del_other h, del_other h, del_other h, dt_lin n (un j c) (un_lt h hc hj) a b (fun i => u (i + 1)) (fun i => w (i + 1))]
      show sgn j * (if j = c then a * u 0 + b * w 0 else f 0 j) * _ = a * (sgn j * (if j = c then u 0 else f 0 j) * _) + b * (sgn j * (if j = c then w 0 else f 0 j) * _)
      rw [if_neg h, if_neg h, if_neg h]; grind
theorem setc_self (c : Nat) (f : Nat → Nat → Int) : setc c (fun i => f i c) f = f := by
  funext i j
  show (if j = c then f i c else f i j) = f i j
  by_cases h : j = c
  · rw [if_pos h, h]
  · rw [if_neg h]
theorem setc_setc (c : Nat) (u w : Nat → Int) (f : Nat → Nat → Int) : setc c u (setc c w f) = setc c u f := by
  funext i j
  show (if j = c then u i else if j = c then w i else f i j) = if j = c then u i else f i j
  by_cases h : j = c
  · rw [if_pos h, if_pos h]
  · rw [if_neg h, if_neg h, if_neg h]
theorem setc_comm {c d : Nat} (h : c ≠ d) (u w : Nat → Int) (f : Nat → Nat → Int) : setc c u (setc d w f) = setc d w (setc c u f) := by
  funext i j
  show (if j = c then u i else if j = d then w i else f i j) = if j = d then w i else if j = c then u i else f i j
  by_cases h1 : j = c
  · rw [if_pos h1, if_neg (by omega), if_pos h1]
  · rw [if_neg h1, if_neg h1]
theorem dt_plus (n c : Nat) (hc : c < n) (u w : Nat → Int) (f : Nat → Nat → Int) : dt n (setc c (fun i => u i + w i) f) = dt n (setc c u f) + dt n (setc c w f) := by
  have := dt_lin n c hc 1 1 u w f
  rw [show (fun i => (1 : Int) * u i + 1 * w i) = fun i => u i + w i by funext i; grind] at this
  rw [this]; grind
theorem dt_times (n c : Nat) (hc : c < n) (a : Int) (u : Nat → Int) (f : Nat → Nat → Int) : dt n (setc c (fun i => a * u i) f) = a * dt n (setc c u f) := by
  have := dt_lin n c hc a 0 u u f
  rw [show (fun i => a * u i + 0 * u i) = fun i => a * u i by funext i; grind] at this
  rw [this]; grind
theorem dt_sum (n c : Nat) (hc : c < n) (f : Nat → Nat → Int) (a : Nat → Int) (u : Nat → Nat → Int) : ∀ m, dt n (setc c (fun i => sg m fun t => a t * u t i) f) = sg m fun t => a t * dt n (setc c (u t) f)
  | 0 => by
    have := dt_times n c hc 0 (fun _ => 0) f
    rw [show (fun i => (0 : Int) * (fun _ => 0) i) = fun _ => (0 : Int) by funext i; grind] at this
    show dt n (setc c (fun _ => 0) f) = 0
    rw [this]; grind
  | m + 1 => by
    have := dt_plus n c hc (fun i => sg m fun t => a t * u t i) (fun i => a m * u m i) f
    rw [dt_times n c hc, dt_sum n c hc f a u m] at this
    exact this

/-- A sum with two terms that are not nought. -/
theorem sg_two {n : Nat} {f : Nat → Int} {k l : Nat} (hk : k < n) (hl : l < n) (hne : k ≠ l) (h : ∀ i, i < n → i ≠ k → i ≠ l → f i = 0) : sg n f = f k + f l := by
  have e : sg n f = sg n (fun i => if i = k then f k else 0) + sg n (fun i => if i = l then f l else 0) := by
    rw [← sg_add]
    refine sg_congr fun i hi => ?_
    by_cases h1 : i = k
    · subst h1; rw [if_pos rfl, if_neg hne]; grind
    · by_cases h2 : i = l
      · subst h2; rw [if_neg h1, if_pos rfl]; grind
      · rw [h i hi h1 h2, if_neg h1, if_neg h2]; grind
  rw [e, sg_one hk fun i _ h1 => by rw [if_neg h1], sg_one hl fun i _ h1 => by rw [if_neg h1], if_pos rfl, if_pos rfl]
/-- Two equal columns side by side. -/
theorem dt_next : ∀ (n c : Nat) (hc : c + 1 < n) (f : Nat → Nat → Int), (∀ i, i < n → f i c = f i (c + 1)) → dt n f = 0
  | 0, c, hc, _, _ => absurd hc (by omega)
  | n + 1, c, hc, f, h => by
    rw [dt_succ, sg_two (k := c) (l := c + 1) (by omega) hc (by omega) fun j hj h1 h2 => ?_]
    · have e : dt n (del c f) = dt n (del (c + 1) f) := dt_congr n fun a b ha hb => by
        show f (a + 1) (sk c b) = f (a + 1) (sk (c + 1) b)
        by_cases e : b = c
        · have e1 : sk c b = c + 1 := by unfold sk; rw [if_neg (by omega), e]
          have e2 : sk (c + 1) b = c := by unfold sk; rw [if_pos (by omega), e]
          rw [e1, e2]; exact (h (a + 1) (by omega)).symm
        · have e1 : sk c b = sk (c + 1) b := by unfold sk; split <;> split <;> omega
          rw [e1]
      rw [e, sgn_succ, h 0 (by omega)]; grind
    · have : dt n (del j f) = 0 := by
        rcases Nat.lt_or_ge j c with hlt | hge
        · refine dt_next n (c - 1) (by omega) (del j f) fun a ha => ?_
          show f (a + 1) (sk j (c - 1)) = f (a + 1) (sk j (c - 1 + 1))
          have e1 : sk j (c - 1) = c := by unfold sk; rw [if_neg (by omega)]; omega
          have e2 : sk j (c - 1 + 1) = c + 1 := by unfold sk; rw [if_neg (by omega)]; omega
          rw [e1, e2]; exact h (a + 1) (by omega)
        · refine dt_next n c (by omega) (del j f) fun a ha => ?_
          show f (a + 1) (sk j c) = f (a + 1) (sk j (c + 1))
          have e1 : sk j c = c := by unfold sk; rw [if_pos (by omega)]
          have e2 : sk j (c + 1) = c + 1 := by unfold sk; rw [if_pos (by omega)]
          rw [e1, e2]; exact h (a + 1) (by omega)
      rw [this]; grind
/-- From nought with two equal columns: the sign turns when they change places. -/
theorem dt_anti {n c d : Nat} (hc : c < n) (hd : d < n) (hne : c ≠ d) (hz : ∀ (w : Nat → Int) (g : Nat → Nat → Int), dt n (setc c w (setc d w g)) = 0) (u w : Nat → Int) (f : Nat → Nat → Int) :
    dt n (setc c u (setc d w f)) = -(dt n (setc c w (setc d u f))) := by
  have h := hz (fun i => u i + w i) f
  rw [dt_plus n c hc, setc_comm hne u, setc_comm hne w, dt_plus n d hd, dt_plus n d hd, ← setc_comm hne, ← setc_comm hne, ← setc_comm hne, ← setc_comm hne, hz u, hz w] at h
  grind
theorem next_zero {n c : Nat} (hc : c + 1 < n) (w : Nat → Int) (g : Nat → Nat → Int) : dt n (setc c w (setc (c + 1) w g)) = 0 := dt_next n c hc _ fun i _ => by
  show (if c = c then w i else _) = if c + 1 = c then w i else if c + 1 = c + 1 then w i else _
  rw [if_pos rfl, if_neg (by omega), if_pos rfl]
/-- Two equal columns, wherever they stand. -/
theorem both_zero {n c : Nat} : ∀ (d : Nat), c + d + 1 < n → ∀ (w : Nat → Int) (g : Nat → Nat → Int), dt n (setc c w (setc (c + d + 1) w g)) = 0
  | 0, h, w, g => next_zero h w g
  | d + 1, h, w, g => by
    -- columns c + d + 1 and c + d + 2 change places
    have h1 : dt n (setc c w (setc (c + (d + 1) + 1) w g)) = dt n (setc (c + d + 1) (fun i => g i (c + d + 1)) (setc (c + d + 1 + 1) w (setc c w g))) := by
      refine dt_congr n fun i j _ _ => ?_
      show (if j = c then w i else if j = c + (d + 1) + 1 then w i else g i j) = if j = c + d + 1 then g i (c + d + 1) else if j = c + d + 1 + 1 then w i else if j = c then w i else g i j
      by_cases e1 : j = c
      · rw [if_pos e1, if_neg (by omega), if_neg (by omega), if_pos e1]
      · by_cases e2 : j = c + (d + 1) + 1
        · rw [if_neg e1, if_pos e2, if_neg (by omega), if_pos (by omega)]
        · by_cases e3 : j = c + d + 1
          · rw [if_neg e1, if_neg e2, if_pos e3, e3]
          · rw [if_neg e1, if_neg e2, if_neg e3, if_neg (by omega), if_neg e1]
    rw [h1, dt_anti (by omega) (by omega) (by omega) (fun w g => next_zero (by omega) w g)]
    have h2 : setc (c + d + 1) w (setc (c + d + 1 + 1) (fun i => g i (c + d + 1)) (setc c w g)) = setc c w (setc (c + d + 1) w (setc (c + d + 1 + 1) (fun i => g i (c + d + 1)) g)) := by
      rw [setc_comm (show c + d + 1 + 1 ≠ c by omega), setc_comm (show c + d + 1 ≠ c by omega)]
    rw [h2, both_zero d (by omega)]; grind
theorem dt_equal {n c d : Nat} (hc : c < n) (hd : d < n) (hne : c ≠ d) (w : Nat → Int) (g : Nat → Nat → Int) : dt n (setc c w (setc d w g)) = 0 := by
  rcases Nat.lt_or_ge c d with h | h
  · have := both_zero (n := n) (c := c) (d - c - 1) (by omega) w g
    rw [show c + (d - c - 1) + 1 = d by omega] at this
    exact this
  · have := both_zero (n := n) (c := d) (c - d - 1) (by omega) w g
    rw [show d + (c - d - 1) + 1 = c by omega] at this
    rw [setc_comm hne]; exact this
/-- Column d in the place of column c: nought. -/
theorem dt_copy {n c d : Nat} (hc : c < n) (hd : d < n) (hne : c ≠ d) (f : Nat → Nat → Int) : dt n (setc c (fun i => f i d) f) = 0 := by
  have := dt_equal hc hd hne (fun i => f i d) f
  rw [setc_self] at this
  exact this
theorem dt_swap {n c d : Nat} (hc : c < n) (hd : d < n) (hne : c ≠ d) (f : Nat → Nat → Int) : dt n (setc c (fun i => f i d) (setc d (fun i => f i c) f)) = -(dt n f) := by
  rw [dt_anti hc hd hne (fun w g => dt_equal hc hd hne w g)]
  have : setc c (fun i => f i c) (setc d (fun i => f i d) f) = f := by rw [setc_self d, setc_self c]
  rw [this]
/-- What is taken to noughts by something that is not has no determinant. -/
theorem dt_null {n : Nat} {f : Nat → Nat → Int} {y : Nat → Int} {c : Nat} (hc : c < n) (h1 : y c ≠ 0) (h : ∀ i, i < n → sg n (fun j => f i j * y j) = 0) : dt n f = 0 := by
  -- the determinant with the sum of all columns, each so many times, in the place of column c
  have e1 : dt n (setc c (fun i => sg n fun t => y t * f i t) f) = 0 := by
    have : dt n (setc c (fun i => sg n fun t => y t * f i t) f) = dt n (setc c (fun i => (0 : Int) * f i c) f) := dt_congr n fun i j hi _ => by
      show (if j = c then sg n (fun t => y t * f i t) else f i j) = if j = c then (0 : Int) * f i c else f i j
      rw [show sg n (fun t => y t * f i t) = (0 : Int) * f i c by
        rw [sg_congr (g := fun j => f i j * y j) fun t _ => by grind, h i hi]; grind]
    rw [this, dt_times n c hc]; grind
  have e2 := dt_sum n c hc f y (fun t i => f i t) n
  rw [e1, sg_one hc fun t ht hne => by rw [dt_copy hc ht (fun e => hne e.symm)]; grind, setc_self] at e2
  exact (Int.mul_eq_zero.1 e2.symm).resolve_left h1



/-- Linear in each column, and nought with two equal columns. -/
structure Alt (n : Nat) (M : (Nat → Nat → Int) → Int) : Prop where
  congr : ∀ f g, Eqm n n f g → M f = M g
  lin : ∀ c, c < n → ∀ (a b : Int) (u w : Nat → Int) (f : Nat → Nat → Int), M (setc c (fun i => a * u i + b * w i) f) = a * M (setc c u f) + b * M (setc c w f)
  zero : ∀ c d, c < n → d < n → c ≠ d → ∀ (w : Nat → Int) (f : Nat → Nat → Int), M (setc c w (setc d w f)) = 0
theorem Alt.plus {n : Nat} {M : (Nat → Nat → Int) → Int} (h : Alt n M) {c : Nat} (hc : c < n) (u w : Nat → Int) (f : Nat → Nat → Int) : M (setc c (fun i => u i + w i) f) = M (setc c u f) + M (setc c w f) := by
  have := h.lin c hc 1 1 u w f
  rw [show (fun i => (1 : Int) * u i + 1 * w i) = fun i => u i + w i by funext i; grind] at this
  rw [this]; grind
theorem Alt.times {n : Nat} {M : (Nat → Nat → Int) → Int} (h : Alt n M) {c : Nat} (hc : c < n) (a : Int) (u : Nat → Int) (f : Nat → Nat → Int) : M (setc c (fun i => a * u i) f) = a * M (setc c u f) := by
  have := h.lin c hc a 0 u u f
  rw [show (fun i => a * u i + 0 * u i) = fun i => a * u i by funext i; grind] at this
  rw [this]; grind
theorem Alt.sum {n : Nat} {M : (Nat → Nat → Int) → Int} (h : Alt n M) {c : Nat} (hc : c < n) (f : Nat → Nat → Int) (a : Nat → Int) (u : Nat → Nat → Int) : ∀ m, M (setc c (fun i => sg m fun t => a t * u t i) f) = sg m fun t => a t * M (setc c (u t) f)
  | 0 => by
    have := h.times hc 0 (fun _ => 0) f
    rw [show (fun i => (0 : Int) * (fun _ => 0) i) = fun _ => (0 : Int) by funext i; grind] at this
    show M (setc c (fun _ => 0) f) = 0
    rw [this]; grind
  | m + 1 => by
    have := h.plus hc (fun i => sg m fun t => a t * u t i) (fun i => a m * u m i) f
    rw [h.times hc, h.sum hc f a u m] at this
    exact this
theorem Alt.anti {n : Nat} {M : (Nat → Nat → Int) → Int} (h : Alt n M) {c d : Nat} (hc : c < n) (hd : d < n) (hne : c ≠ d) (u w : Nat → Int) (f : Nat → Nat → Int) :
    M (setc c u (setc d w f)) = -(M (setc c w (setc d u f))) := by
  have h0 := h.zero c d hc hd hne (fun i => u i + w i) f
  rw [h.plus hc, setc_comm hne u, setc_comm hne w, h.plus hd, h.plus hd, ← setc_comm hne, ← setc_comm hne, ← setc_comm hne, ← setc_comm hne, h.zero c d hc hd hne u, h.zero c d hc hd hne w] at h0
  grind
theorem dt_alt (n : Nat) : Alt n (dt n) := ⟨fun f g h => dt_congr n h, fun c hc a b u w f => dt_lin n c hc a b u w f, fun c d hc hd hne w f => dt_equal hc hd hne w f⟩

/-- Each column is one of those of the unit matrix. -/
def pick (s : Nat → Nat) : Nat → Nat → Int := fun i j => if i = s j then 1 else 0
theorem pick_sw (s : Nat → Nat) (a b : Nat) : pick (fun j => s (sw a b j)) = setc a (fun i => pick s i b) (setc b (fun i => pick s i a) (pick s)) := by
  funext i j
  show (if i = s (sw a b j) then (1 : Int) else 0) = if j = a then pick s i b else if j = b then pick s i a else pick s i j
  by_cases h1 : j = a
  · rw [if_pos h1, h1, sw_left]; rfl
  · rw [if_neg h1]
    by_cases h2 : j = b
    · rw [if_pos h2, h2, sw_right]; rfl
    · rw [if_neg h2, sw_none h1 h2]; rfl
theorem Alt.swap {n : Nat} {M : (Nat → Nat → Int) → Int} (h : Alt n M) {c d : Nat} (hc : c < n) (hd : d < n) (hne : c ≠ d) (f : Nat → Nat → Int) : M (setc c (fun i => f i d) (setc d (fun i => f i c) f)) = -(M f) := by
  rw [h.anti hc hd hne]
  have : setc c (fun i => f i c) (setc d (fun i => f i d) f) = f := by rw [setc_self d, setc_self c]
  rw [this]
theorem Alt.pick_swap {n : Nat} {M : (Nat → Nat → Int) → Int} (h : Alt n M) (s : Nat → Nat) {a b : Nat} (ha : a < n) (hb : b < n) (hne : a ≠ b) : M (pick (fun j => s (sw a b j))) = -(M (pick s)) := by
  rw [pick_sw, h.swap ha hb hne]
theorem Alt.same {n : Nat} {M : (Nat → Nat → Int) → Int} (h : Alt n M) (f : Nat → Nat → Int) {c d : Nat} (hc : c < n) (hd : d < n) (hne : c ≠ d) (e : ∀ i, f i c = f i d) : M f = 0 := by
  have h0 := h.zero c d hc hd hne (fun i => f i d) f
  rw [setc_self, show (fun i => f i d) = fun i => f i c from funext fun i => (e i).symm, setc_self] at h0
  exact h0
theorem sg_pick {n : Nat} (s : Nat → Nat) (j : Nat) (hs : s j < n) (a : Nat → Int) : sg n (fun t => a t * pick s t j) = a (s j) := by
  rw [sg_one hs fun t _ hne => by show a t * (if t = s j then (1 : Int) else 0) = 0; rw [if_neg hne]; grind]
  show a (s j) * (if s j = s j then (1 : Int) else 0) = a (s j)
  rw [if_pos rfl]; grind
theorem dt_one : ∀ n, dt n one = 1
  | 0 => rfl
  | n + 1 => by
    rw [dt_succ, sg_one (Nat.succ_pos n) fun j _ hne => by show sgn j * (if 0 = j then (1 : Int) else 0) * _ = 0; rw [if_neg (fun e => hne e.symm)]; grind]
    have : dt n (del 0 one) = dt n one := dt_congr n fun a b _ _ => by
      show (if a + 1 = sk 0 b then (1 : Int) else 0) = if a = b then (1 : Int) else 0
      rw [sk_zero]
      by_cases h : a = b
      · rw [if_pos h, if_pos (by omega)]
      · rw [if_neg h, if_neg (by omega)]
    rw [this, dt_one n]
    show sgn 0 * (if 0 = 0 then (1 : Int) else 0) * 1 = 1
    rw [if_pos rfl, show sgn 0 = 1 from rfl]; grind
/-- Of all columns that are columns of the unit matrix. -/
theorem Alt.picked {n : Nat} {M : (Nat → Nat → Int) → Int} (h : Alt n M) (s : Nat → Nat) (hs : ∀ i, i < n → s i < n) : M (pick s) = M one * dt n (pick s) := by
  by_cases hi : ∀ i j, i < n → j < n → s i = s j → i = j
  · refine by_swaps (P := fun s => M (pick s) = M one * dt n (pick s)) (fun s hf => ?_) (fun s a b ha hb hne _ _ e => ?_) n 0 s (by omega) hs hi (fun j hj => absurd hj (by omega))
    · have : Eqm n n (pick s) one := fun i j _ hj => by show (if i = s j then (1 : Int) else 0) = if i = j then 1 else 0; rw [hf j hj]
      rw [h.congr _ _ this, dt_congr n this, dt_one]; grind
    · rw [h.pick_swap s ha hb hne, (dt_alt n).pick_swap s ha hb hne] at e
      grind
  · obtain ⟨c, hn⟩ := Classical.not_forall.1 hi
    obtain ⟨d, hn⟩ := Classical.not_forall.1 hn
    obtain ⟨hc, hn⟩ := Classical.not_imp.1 hn
    obtain ⟨hd, hn⟩ := Classical.not_imp.1 hn
    obtain ⟨e, hne⟩ := Classical.not_imp.1 hn
    have e1 : ∀ i, pick s i c = pick s i d := fun i => by show (if i = s c then (1 : Int) else 0) = if i = s d then 1 else 0; rw [e]
    rw [h.same _ hc hd hne e1, (dt_alt n).same _ hc hd hne e1]; grind
/-- The first k columns are columns of the unit matrix, the others as they come. -/
def front (k : Nat) (s : Nat → Nat) (f : Nat → Nat → Int) : Nat → Nat → Int := fun i j => if j < k then pick s i j else f i j
theorem Alt.fronts {n : Nat} {M : (Nat → Nat → Int) → Int} (h : Alt n M) : ∀ (m k : Nat) (s : Nat → Nat) (f : Nat → Nat → Int), k + m = n → (∀ i, i < n → s i < n) → M (front k s f) = M one * dt n (front k s f)
  | 0, k, s, f, hm, hs => by
    have : Eqm n n (front k s f) (pick s) := fun i j _ hj => by unfold front; rw [if_pos (by omega)]
    rw [h.congr _ _ this, dt_congr n this]; exact h.picked s hs
  | m + 1, k, s, f, hm, hs => by
    have hk : k < n := by omega
    have e : Eqm n n (front k s f) (setc k (fun i => sg n fun t => f t k * one i t) (front k s f)) := fun i j hi hj => by
      show front k s f i j = if j = k then sg n (fun t => f t k * one i t) else front k s f i j
      by_cases hjk : j = k
      · rw [if_pos hjk, sg_one hi fun t _ hne => by show f t k * (if i = t then (1 : Int) else 0) = 0; rw [if_neg (fun e => hne e.symm)]; grind]
        show (if j < k then _ else f i j) = f i k * (if i = i then (1 : Int) else 0)
        rw [if_neg (by omega), if_pos rfl, hjk]; grind
      · rw [if_neg hjk]
    rw [h.congr _ _ e, dt_congr n e, h.sum hk, (dt_alt n).sum hk, ← sg_times]
    refine sg_congr fun t ht => ?_
    have e2 : setc k (fun i => one i t) (front k s f) = front (k + 1) (fun j => if j = k then t else s j) f := by
      funext i j
      show (if j = k then one i t else if j < k then pick s i j else f i j) = if j < k + 1 then (if i = (if j = k then t else s j) then (1 : Int) else 0) else f i j
      by_cases h1 : j = k
      · rw [if_pos h1, if_pos (by omega), if_pos h1]; rfl
      · rw [if_neg h1, if_neg h1]
        by_cases h2 : j < k
        · rw [if_pos h2, if_pos (by omega)]; rfl
        · rw [if_neg h2, if_neg (by omega)]
    rw [e2, h.fronts m (k + 1) _ f (by omega) fun i hi => by
      by_cases h1 : i = k
      · rw [if_pos h1]; exact ht
      · rw [if_neg h1]; exact hs i hi]
    grind
/-- There is one such rule, up to what it says of the unit matrix. -/
theorem Alt.is {n : Nat} {M : (Nat → Nat → Int) → Int} (h : Alt n M) (f : Nat → Nat → Int) : M f = M one * dt n f := by
  have := h.fronts n 0 (fun _ => 0) f (by omega)
  by_cases hn : n = 0
  · subst hn
    rw [h.congr f one fun i j hi => absurd hi (by omega)]
    show M one = M one * 1
    grind
  · have := this fun i hi => by omega
    exact this

theorem mul_setc (n c : Nat) (f : Nat → Nat → Int) (u : Nat → Int) (g : Nat → Nat → Int) : mul n f (setc c u g) = setc c (fun i => sg n fun x => f i x * u x) (mul n f g) := by
  funext i j
  show sg n (fun x => f i x * (if j = c then u x else g x j)) = if j = c then sg n (fun x => f i x * u x) else sg n (fun x => f i x * g x j)
  by_cases h : j = c
  · rw [if_pos h]; exact sg_congr fun x _ => by rw [if_pos h]
  · rw [if_neg h]; exact sg_congr fun x _ => by rw [if_neg h]
/-- Cauchy, Binet. -/
theorem dt_mul (n : Nat) (f g : Nat → Nat → Int) : dt n (mul n f g) = dt n f * dt n g := by
  have h : Alt n fun g => dt n (mul n f g) := by
    refine ⟨fun a b e => dt_congr n ((Eqm.rfl' n n f).mul e), fun c hc a b u w k => ?_, fun c d hc hd hne w k => ?_⟩
    · rw [mul_setc, mul_setc, mul_setc]
      have : (fun i => sg n fun x => f i x * (a * u x + b * w x)) = fun i => a * (sg n fun x => f i x * u x) + b * (sg n fun x => f i x * w x) := by
        funext i
        rw [← sg_times, ← sg_times, ← sg_add]
        exact sg_congr fun x _ => by grind
      rw [this]; exact dt_lin n c hc a b _ _ _
    · rw [mul_setc, mul_setc]; exact dt_equal hc hd hne _ _
  have := h.is g
  rw [this, show dt n (mul n f one) = dt n f from dt_congr n (mul_one n n f)]

/-- Row r in the place of its own. -/
def setr (r : Nat) (u : Nat → Int) (f : Nat → Nat → Int) : Nat → Nat → Int := fun i j => if i = r then u j else f i j
theorem setr_flip (r : Nat) (u : Nat → Int) (f : Nat → Nat → Int) : setr r u f = flip (setc r u (flip f)) := rfl
theorem del_setr_zero (j : Nat) (u : Nat → Int) (f : Nat → Nat → Int) : del j (setr 0 u f) = del j f := by
  funext a b
  show (if a + 1 = 0 then u (sk j b) else f (a + 1) (sk j b)) = f (a + 1) (sk j b)
  rw [if_neg (by omega)]
theorem del_setr (j r : Nat) (u : Nat → Int) (f : Nat → Nat → Int) : del j (setr (r + 1) u f) = setr r (fun b => u (sk j b)) (del j f) := by
  funext a b
  show (if a + 1 = r + 1 then u (sk j b) else f (a + 1) (sk j b)) = if a = r then u (sk j b) else f (a + 1) (sk j b)
  by_cases h : a = r
  · rw [if_pos h, if_pos (by omega)]
  · rw [if_neg h, if_neg (by omega)]
/-- Linear in each row. -/
theorem dt_rlin : ∀ (n r : Nat) (hr : r < n) (a b : Int) (u w : Nat → Int) (f : Nat → Nat → Int),
    dt n (setr r (fun j => a * u j + b * w j) f) = a * dt n (setr r u f) + b * dt n (setr r w f)
  | 0, r, hr, _, _, _, _, _ => absurd hr (by omega)
  | n + 1, 0, _, a, b, u, w, f => by
    rw [dt_succ, dt_succ, dt_succ, ← sg_times, ← sg_times, ← sg_add]
    refine sg_congr fun j hj => ?_
    rw [del_setr_zero, del_setr_zero, del_setr_zero]
    show sgn j * (a * u j + b * w j) * dt n (del j f) = a * (sgn j * u j * dt n (del j f)) + b * (sgn j * w j * dt n (del j f))
    grind
  | n + 1, r + 1, hr, a, b, u, w, f => by
    rw [dt_succ, dt_succ, dt_succ, ← sg_times, ← sg_times, ← sg_add]
    refine sg_congr fun j hj => ?_
    rw [del_setr, del_setr, del_setr, dt_rlin n r (by omega) a b (fun b => u (sk j b)) (fun b => w (sk j b))]
    have : ∀ v : Nat → Int, setr (r + 1) v f 0 j = f 0 j := fun v => by show (if 0 = r + 1 then v j else f 0 j) = f 0 j; rw [if_neg (by omega)]
    rw [this, this, this]; grind
/-- Two equal rows. -/
theorem dt_rows {n : Nat} {f : Nat → Nat → Int} {r s : Nat} (hr : r < n) (hs : s < n) (hne : r ≠ s) (e : ∀ j, j < n → f r j = f s j) : dt n f = 0 := by
  have h1 : Eqm n n (mul n (setr r (fun j => one s j) one) f) f := fun i j hi hj => by
    show sg n (fun x => (if i = r then one s x else one i x) * f x j) = f i j
    by_cases h : i = r
    · rw [sg_congr (g := fun x => one s x * f x j) fun x _ => by rw [if_pos h]]
      have := one_mul n n f s j hs hj
      exact this.trans (by rw [h, e j hj])
    · rw [sg_congr (g := fun x => one i x * f x j) fun x _ => by rw [if_neg h]]
      exact one_mul n n f i j hi hj
  have h2 : dt n (setr r (fun j => one s j) one) = 0 := by
    have : Eqm n n (setr r (fun j => one s j) one) (setc r (fun i => (0 : Int) * 0) (setr r (fun j => one s j) one)) := fun i j hi hj => by
      show (if i = r then one s j else one i j) = if j = r then (0 : Int) * 0 else if i = r then one s j else one i j
      by_cases hj : j = r
      · rw [if_pos hj]
        by_cases hi : i = r
        · rw [if_pos hi]; show (if s = j then (1 : Int) else 0) = 0 * 0; rw [if_neg (by omega)]; rfl
        · rw [if_neg hi]; show (if i = j then (1 : Int) else 0) = 0 * 0; rw [if_neg (by omega)]; rfl
      · rw [if_neg hj]
    rw [dt_congr n this, dt_times n r hr 0 (fun _ => 0)]; grind
  rw [← dt_congr n h1, dt_mul, h2]; grind
theorem dt_flip (n : Nat) (f : Nat → Nat → Int) : dt n (flip f) = dt n f := by
  have h : Alt n fun g => dt n (flip g) := by
    refine ⟨fun a b e => dt_congr n fun i j hi hj => e j i hj hi, fun c hc a b u w k => dt_rlin n c hc a b u w (flip k), fun c d hc hd hne w k => ?_⟩
    refine dt_rows hc hd hne fun j _ => ?_
    show (if c = c then w j else _) = if d = c then w j else if d = d then w j else _
    rw [if_pos rfl, if_neg (fun e => hne e.symm), if_pos rfl]
  have := h.is f
  rw [this, show dt n (flip one) = 1 from (dt_congr n fun i j _ _ => by show (if j = i then (1 : Int) else 0) = if i = j then 1 else 0; by_cases e : i = j <;> simp [e, eq_comm]).trans (dt_one n)]
  grind
/-- Two rows change places. -/
theorem dt_rswap {n : Nat} (f : Nat → Nat → Int) {a b : Nat} (ha : a < n) (hb : b < n) (hne : a ≠ b) : dt n (fun i j => f (sw a b i) j) = -(dt n f) := by
  rw [← dt_flip n f, ← dt_flip n fun i j => f (sw a b i) j, ← (dt_alt n).swap ha hb hne]
  congr 1
  funext i j
  show f (sw a b j) i = if j = a then f b i else if j = b then f a i else f j i
  by_cases h1 : j = a
  · rw [if_pos h1, h1, sw_left]
  · rw [if_neg h1]
    by_cases h2 : j = b
    · rw [if_pos h2, h2, sw_right]
    · rw [if_neg h2, sw_none h1 h2]
theorem dt_cswap {n : Nat} (f : Nat → Nat → Int) {a b : Nat} (ha : a < n) (hb : b < n) (hne : a ≠ b) : dt n (fun i j => f i (sw a b j)) = -(dt n f) := by
  rw [← dt_flip n f, ← dt_flip n fun i j => f i (sw a b j)]
  exact dt_rswap (flip f) ha hb hne
theorem setr_self (r : Nat) (f : Nat → Nat → Int) : setr r (fun j => f r j) f = f := by
  funext i j
  show (if i = r then f r j else f i j) = f i j
  by_cases h : i = r
  · rw [if_pos h, h]
  · rw [if_neg h]
/-- So many times one row added to another one. -/
theorem dt_add {n : Nat} (f : Nat → Nat → Int) {a b : Nat} (ha : a < n) (hb : b < n) (hne : a ≠ b) (k : Int) : dt n (setr a (fun j => f a j + k * f b j) f) = dt n f := by
  have h := dt_rlin n a ha 1 k (fun j => f a j) (fun j => f b j) f
  rw [show (fun j => (1 : Int) * f a j + k * f b j) = fun j => f a j + k * f b j by funext j; grind, setr_self] at h
  have h2 : dt n (setr a (fun j => f b j) f) = 0 := dt_rows ha hb hne fun j _ => by
    show (if a = a then f b j else f a j) = if b = a then f b j else f b j
    rw [if_pos rfl, if_neg (fun e => hne e.symm)]
  rw [h, h2]; grind
theorem dt_scale {n : Nat} (f : Nat → Nat → Int) {a : Nat} (ha : a < n) (k : Int) : dt n (setr a (fun j => k * f a j) f) = k * dt n f := by
  have h := dt_rlin n a ha k 0 (fun j => f a j) (fun j => f a j) f
  rw [show (fun j => k * f a j + (0 : Int) * f a j) = fun j => k * f a j by funext j; grind, setr_self] at h
  rw [h]; grind
theorem dt_rplus {n : Nat} (f : Nat → Nat → Int) {a : Nat} (ha : a < n) (u : Nat → Int) : dt n (setr a (fun j => f a j + u j) f) = dt n f + dt n (setr a u f) := by
  have h := dt_rlin n a ha 1 1 (fun j => f a j) u f
  rw [show (fun j => (1 : Int) * f a j + 1 * u j) = fun j => f a j + u j by funext j; grind, setr_self] at h
  rw [h]; grind

theorem dt_zrow {n : Nat} {f : Nat → Nat → Int} {k : Nat} (hk : k < n) (h : ∀ j, j < n → f k j = 0) : dt n f = 0 := by
  have h1 := dt_scale f hk 0
  rw [show (0 : Int) * dt n f = 0 by grind] at h1
  rw [← h1]
  refine dt_congr n fun i j hi hj => ?_
  show f i j = if i = k then (0 : Int) * f k j else f i j
  by_cases e : i = k
  · rw [if_pos e, e, h j hj]; grind
  · rw [if_neg e]
/-- The sign of an order of whole numbers: the determinant of its matrix. -/
def sp (n : Nat) (s : Nat → Int) : Int := dt n fun i j => if s i = (j : Int) then 1 else 0
theorem sp_congr {n : Nat} {s t : Nat → Int} (h : ∀ i, i < n → s i = t i) : sp n s = sp n t := dt_congr n fun i j hi _ => by rw [h i hi]
theorem sp_id {n : Nat} {s : Nat → Int} (h : ∀ i, i < n → s i = (i : Int)) : sp n s = 1 := by
  rw [← dt_one n]
  refine dt_congr n fun i j hi _ => ?_
  rw [h i hi]
  show (if (i : Int) = (j : Int) then (1 : Int) else 0) = if i = j then 1 else 0
  by_cases e : i = j
  · rw [if_pos e, if_pos (by omega)]
  · rw [if_neg e, if_neg (by omega)]
theorem sp_swap {n : Nat} (s : Nat → Int) {a b : Nat} (ha : a < n) (hb : b < n) (hne : a ≠ b) : sp n (fun i => s (sw a b i)) = -(sp n s) :=
  dt_rswap (fun i j => if s i = (j : Int) then 1 else 0) ha hb hne
theorem sp_out {n : Nat} {s : Nat → Int} {k : Nat} (hk : k < n) (h : s k < 0 ∨ (n : Int) ≤ s k) : sp n s = 0 := dt_zrow hk fun j hj => by rw [if_neg (by omega)]
theorem sp_twice {n : Nat} {s : Nat → Int} {a b : Nat} (ha : a < n) (hb : b < n) (hne : a ≠ b) (h : s a = s b) : sp n s = 0 := dt_rows ha hb hne fun j _ => by rw [h]
/-- Only of n numbers, each once, is there a sign. -/
theorem sp_miss {n : Nat} {s : Nat → Int} {k : Nat} (hk : k < n) (h : ∀ i, i < n → s i ≠ (k : Int)) : sp n s = 0 := by
  unfold sp
  have e : Eqm n n (fun i j => if s i = (j : Int) then (1 : Int) else 0) (setc k (fun i => (0 : Int) * 0) (fun i j => if s i = (j : Int) then (1 : Int) else 0)) := fun i j hi hj => by
    show (if s i = (j : Int) then (1 : Int) else 0) = if j = k then (0 : Int) * 0 else if s i = (j : Int) then 1 else 0
    by_cases e : j = k
    · rw [if_pos e, e, if_neg (h i hi)]; grind
    · rw [if_neg e]
  rw [dt_congr n e, dt_times n k hk 0 (fun _ => 0)]; grind

theorem dt_turn {m : Nat} (k : Nat → Nat → Int) (e : Nat) : ∀ t, t < e → t < m → dt m (fun i b => k i (turn e t b)) = sgn t * dt m (fun i b => k i (sk e b))
  | 0, h, hm => by
    have : (fun i b => k i (turn e 0 b)) = fun i b => k i (sk e b) := by
      funext i b
      congr 1
      unfold turn sk
      rw [if_neg (by omega)]
      by_cases h0 : b = 0
      · rw [if_pos h0, if_pos (by omega), h0]
      · rw [if_neg h0]
    rw [this, show sgn 0 = 1 from rfl]; grind
  | t + 1, h, hm => by
    have := dt_cswap (n := m) (fun i b => k i (turn e t b)) (a := t) (b := t + 1) (by omega) hm (by omega)
    rw [dt_turn k e t (by omega) (by omega)] at this
    have e1 : (fun i b => k i (turn e (t + 1) b)) = fun i b => k i (turn e t (sw t (t + 1) b)) := by
      funext i b
      exact congrArg (k i) (congrFun (turn_next e t h) b)
    rw [e1, this, sgn_succ]; grind

/-- The product of the first k. -/
def pr : Nat → (Nat → Int) → Int
  | 0, _ => 1
  | k + 1, g => pr k g * g k
theorem pr_congr {k : Nat} {g h : Nat → Int} (e : ∀ i, i < k → g i = h i) : pr k g = pr k h := by
  induction k with
  | zero => rfl
  | succ k ih => show pr k g * g k = pr k h * h k; rw [ih fun i hi => e i (by omega), e k (by omega)]
/-- What all orders that begin as s does (its first k places) add to the determinant. -/
def part' (n k : Nat) (f : Nat → Nat → Int) (s : Nat → Nat) : Int := sp n (fun i => (s i : Int)) * pr k (fun i => f i (s i)) * dt (n - k) (fun i j => f (k + i) (s (k + j)))
theorem part_end (n : Nat) (f : Nat → Nat → Int) (s : Nat → Nat) : part' n n f s = sp n (fun i => (s i : Int)) * pr n (fun i => f i (s i)) := by
  unfold part'
  rw [Nat.sub_self]
  show _ * 1 = _
  grind
theorem part_zero (n : Nat) (f : Nat → Nat → Int) {s : Nat → Nat} (hs : ∀ j, j < n → s j = j) : part' n 0 f s = dt n f := by
  unfold part'
  rw [sp_id fun i hi => by rw [hs i hi], Nat.sub_zero]
  have : dt n (fun i j => f (0 + i) (s (0 + j))) = dt n f := dt_congr n fun i j _ hj => by rw [Nat.zero_add, Nat.zero_add, hs j hj]
  rw [this]
  show 1 * 1 * _ = _
  grind
theorem part_next {n k : Nat} (f : Nat → Nat → Int) (s : Nat → Nat) (hk : k < n) : sg (n - k) (fun t => part' n (k + 1) f fun j => s (sw k (k + t) j)) = part' n k f s := by
  obtain ⟨m, hm⟩ : ∃ m, n - k = m + 1 := ⟨n - k - 1, by omega⟩
  unfold part'
  rw [hm, dt_succ, ← sg_times]
  refine sg_congr fun t ht => ?_
  have e1 : pr (k + 1) (fun i => f i (s (sw k (k + t) i))) = pr k (fun i => f i (s i)) * f k (s (k + t)) := by
    show pr k (fun i => f i (s (sw k (k + t) i))) * f k (s (sw k (k + t) k)) = _
    rw [sw_left, pr_congr (h := fun i => f i (s i)) fun i hi => by rw [sw_none (by omega) (by omega)]]
  have e0 : n - (k + 1) = m := by omega
  rw [e0, e1]
  show _ = sp n (fun i => (s i : Int)) * pr k (fun i => f i (s i)) * (sgn t * f (k + 0) (s (k + t)) * dt m (del t fun i j => f (k + i) (s (k + j))))
  rw [Nat.add_zero]
  cases t with
  | zero =>
    have e2 : (fun i => ((s (sw k (k + 0) i) : Nat) : Int)) = fun i => (s i : Int) := by
      funext i
      rw [Nat.add_zero]
      by_cases h : i = k
      · rw [h, sw_left]
      · rw [sw_none h h]
    have e3 : (fun i j => f (k + 1 + i) (s (sw k (k + 0) (k + 1 + j)))) = del 0 fun i j => f (k + i) (s (k + j)) := by
      funext i j
      show f (k + 1 + i) (s (sw k (k + 0) (k + 1 + j))) = f (k + (i + 1)) (s (k + sk 0 j))
      rw [sw_none (by omega) (by omega), sk_zero, show k + 1 + i = k + (i + 1) by omega, show k + 1 + j = k + (j + 1) by omega]
    rw [e2, e3, show sgn 0 = 1 from rfl]; grind
  | succ t =>
    have e2 : sp n (fun i => ((s (sw k (k + (t + 1)) i) : Nat) : Int)) = -(sp n fun i => (s i : Int)) := sp_swap (fun i => (s i : Int)) hk (by omega) (by omega)
    have e3 : dt m (fun i j => f (k + 1 + i) (s (sw k (k + (t + 1)) (k + 1 + j)))) = sgn t * dt m (del (t + 1) fun i j => f (k + i) (s (k + j))) := by
      refine Eq.trans (dt_congr m fun i j hi hj => ?_) (dt_turn (fun i b => f (k + (i + 1)) (s (k + b))) (t + 1) t (by omega) (by omega))
      show f (k + 1 + i) (s (sw k (k + (t + 1)) (k + 1 + j))) = f (k + (i + 1)) (s (k + turn (t + 1) t j))
      rw [show k + 1 + i = k + (i + 1) by omega]
      congr 2
      unfold turn
      by_cases h1 : j = t
      · rw [if_neg (by omega), if_pos h1, h1, show k + 1 + t = k + (t + 1) by omega, sw_right, Nat.add_zero]
      · rw [sw_none (by omega) (by omega)]
        by_cases h2 : j < t
        · rw [if_pos h2]; omega
        · rw [if_neg h2, if_neg h1]; unfold sk; rw [if_neg (by omega)]; omega
    rw [e2, e3, sgn_succ]; grind

/-- The document's sign: one exchange for each two of which the greater one comes first. -/
def e2 (a b : Int) : Int := if b < a then -1 else 1
def inv : Nat → (Nat → Int) → Int
  | 0, _ => 1
  | k + 1, s => inv k s * pr k (fun t => e2 (s t) (s k))
theorem e2_turn {a b : Int} (h : a ≠ b) : e2 b a = -(e2 a b) := by
  unfold e2
  rcases Int.lt_or_lt_of_ne h with h | h
  · rw [if_pos h, if_neg (by omega)]
  · rw [if_neg (by omega), if_pos h]; grind
theorem pr_next {c : Nat} (g : Nat → Int) : ∀ k, c + 1 < k → pr k (fun i => g (sw c (c + 1) i)) = pr k g
  | 0, h => absurd h (by omega)
  | k + 1, h => by
    show pr k (fun i => g (sw c (c + 1) i)) * g (sw c (c + 1) k) = pr k g * g k
    by_cases hk : c + 1 < k
    · rw [pr_next g k hk, sw_none (by omega) (by omega)]
    · obtain rfl : k = c + 1 := by omega
      show pr c (fun i => g (sw c (c + 1) i)) * g (sw c (c + 1) c) * g (sw c (c + 1) (c + 1)) = pr c g * g c * g (c + 1)
      rw [pr_congr (h := g) fun i hi => by rw [sw_none (by omega) (by omega)], sw_left, sw_right]; grind
theorem inv_congr {k : Nat} {s t : Nat → Int} (h : ∀ i, i < k → s i = t i) : inv k s = inv k t := by
  induction k with
  | zero => rfl
  | succ k ih =>
    show inv k s * pr k _ = inv k t * pr k _
    rw [ih fun i hi => h i (by omega), h k (by omega), pr_congr (h := fun x => e2 (t x) (t k)) fun i hi => by rw [h i (by omega)]]
theorem inv_next {c : Nat} (s : Nat → Int) (hne : s c ≠ s (c + 1)) : ∀ k, c + 1 < k → inv k (fun i => s (sw c (c + 1) i)) = -(inv k s)
  | 0, h => absurd h (by omega)
  | k + 1, h => by
    show inv k (fun i => s (sw c (c + 1) i)) * pr k (fun t => e2 (s (sw c (c + 1) t)) (s (sw c (c + 1) k))) = -(inv k s * pr k (fun t => e2 (s t) (s k)))
    by_cases hk : c + 1 < k
    · rw [inv_next s hne k hk, sw_none (j := k) (by omega) (by omega), pr_next (fun t => e2 (s t) (s k)) k hk]; grind
    · obtain rfl : k = c + 1 := by omega
      show inv c (fun i => s (sw c (c + 1) i)) * pr c (fun t => e2 (s (sw c (c + 1) t)) (s (sw c (c + 1) c))) * (pr c (fun t => e2 (s (sw c (c + 1) t)) (s (sw c (c + 1) (c + 1)))) * e2 (s (sw c (c + 1) c)) (s (sw c (c + 1) (c + 1)))) =
        -(inv c s * pr c (fun t => e2 (s t) (s c)) * (pr c (fun t => e2 (s t) (s (c + 1))) * e2 (s c) (s (c + 1))))
      rw [sw_left, sw_right, inv_congr (t := s) fun i hi => by rw [sw_none (by omega) (by omega)], pr_congr (g := fun t => e2 (s (sw c (c + 1) t)) (s (c + 1))) (h := fun t => e2 (s t) (s (c + 1))) fun i hi => by rw [sw_none (by omega) (by omega)],
        pr_congr (g := fun t => e2 (s (sw c (c + 1) t)) (s c)) (h := fun t => e2 (s t) (s c)) fun i hi => by rw [sw_none (by omega) (by omega)], e2_turn hne]
      grind
theorem sw_three {c p q : Nat} (h1 : c ≠ p) (h2 : p ≠ q) (h3 : c ≠ q) (i : Nat) : sw c q i = sw p q (sw c p (sw p q i)) := by
  by_cases e1 : i = c
  · rw [e1, sw_left, sw_none (j := c) h1 h3, sw_left, sw_left]
  · by_cases e2 : i = p
    · rw [e2, sw_left p q, sw_none (j := q) (fun e => h3 e.symm) (fun e => h2 e.symm), sw_right, sw_none (fun e => h1 e.symm) h2]
    · by_cases e3 : i = q
      · rw [e3, sw_right, sw_right, sw_right, sw_none (j := c) h1 h3]
      · rw [sw_none e1 e3, sw_none e2 e3, sw_none e1 e2, sw_none e2 e3]
theorem inv_far (c : Nat) : ∀ (d k : Nat) (s : Nat → Int), c + d + 1 < k → (∀ i j, i < k → j < k → s i = s j → i = j) → inv k (fun i => s (sw c (c + d + 1) i)) = -(inv k s)
  | 0, k, s, h, hi => inv_next s (fun e => by have := hi _ _ (by omega) (by omega) e; omega) k h
  | d + 1, k, s, h, hi => by
    have e : (fun i => s (sw c (c + (d + 1) + 1) i)) = fun i => s (sw (c + d + 1) (c + d + 1 + 1) (sw c (c + d + 1) (sw (c + d + 1) (c + d + 1 + 1) i))) := by
      funext i
      exact congrArg s (sw_three (by omega) (by omega) (by omega) i)
    have s1 : ∀ i j, i < k → j < k → s (sw (c + d + 1) (c + d + 1 + 1) i) = s (sw (c + d + 1) (c + d + 1 + 1) j) → i = j := fun i j h1 h2 e => sw_inj (hi _ _ (sw_lt (by omega) (by omega) h1) (sw_lt (by omega) (by omega) h2) e)
    have a1 := inv_next (c := c + d + 1) s (fun e => by have := hi _ _ (by omega) (by omega) e; omega) k (by omega)
    have a2 := inv_far c d k (fun i => s (sw (c + d + 1) (c + d + 1 + 1) i)) (by omega) s1
    have a3 := inv_next (c := c + d + 1) (fun i => s (sw (c + d + 1) (c + d + 1 + 1) (sw c (c + d + 1) i))) (fun e => by
      have := s1 _ _ (sw_lt (by omega) (by omega) (by omega)) (sw_lt (by omega) (by omega) (by omega)) e
      have := sw_inj this
      omega) k (by omega)
    rw [e, a3, a2, a1]; grind
theorem inv_swap {n : Nat} (s : Nat → Int) {a b : Nat} (ha : a < n) (hb : b < n) (hne : a ≠ b) (hi : ∀ i j, i < n → j < n → s i = s j → i = j) : inv n (fun i => s (sw a b i)) = -(inv n s) := by
  have sym : ∀ i, sw a b i = sw b a i := fun i => by
    unfold sw
    by_cases h1 : i = a
    · rw [if_pos h1, if_neg (by omega), if_pos h1]
    · rw [if_neg h1]
      by_cases h2 : i = b
      · rw [if_pos h2, if_pos h2]
      · rw [if_neg h2, if_neg h2, if_neg h1]
  rcases Nat.lt_or_ge a b with h | h
  · have := inv_far a (b - a - 1) n s (by omega) hi
    rw [show a + (b - a - 1) + 1 = b by omega] at this
    exact this
  · have := inv_far b (a - b - 1) n s (by omega) hi
    rw [show b + (a - b - 1) + 1 = a by omega] at this
    rw [show (fun i => s (sw a b i)) = fun i => s (sw b a i) by funext i; rw [sym]]
    exact this
theorem pr_ones {k : Nat} {g : Nat → Int} (h : ∀ i, i < k → g i = 1) : pr k g = 1 := by
  induction k with
  | zero => rfl
  | succ k ih => show pr k g * g k = 1; rw [ih fun i hi => h i (by omega), h k (by omega)]; rfl
theorem inv_id {s : Nat → Int} : ∀ n, (∀ i, i < n → s i = (i : Int)) → inv n s = 1
  | 0, _ => rfl
  | n + 1, h => by
    show inv n s * pr n _ = 1
    rw [inv_id n fun i hi => h i (by omega), pr_ones fun i hi => by unfold e2; rw [h i (by omega), h n (by omega), if_neg (by omega)]]; rfl
/-- Of an order both are one. -/
theorem inv_sp {n : Nat} {s : Nat → Int} (h : ∀ k : Nat, k < n → ∃ i, i < n ∧ s i = (k : Int)) : inv n s = sp n s := by
  have hN : ∀ k : Nat, k < n → ∃ i, i < n ∧ (s i).toNat = k := fun k hk => by
    obtain ⟨i, h1, h2⟩ := h k hk
    exact ⟨i, h1, by rw [h2]; rfl⟩
  obtain ⟨h1, h2⟩ := into hN
  -- the numbers are none below nought
  have hs : ∀ i, i < n → s i = (((s i).toNat : Nat) : Int) := fun i hi => by
    obtain ⟨j, hj, e⟩ := h _ (h1 i hi)
    have : i = j := h2 i j hi hj (by rw [e]; rfl)
    rw [this] at e ⊢
    exact e
  rw [inv_congr hs, sp_congr hs]
  refine by_swaps (n := n) (P := fun t => inv n (fun i => (t i : Int)) = sp n fun i => (t i : Int)) (fun t hf => ?_) (fun t a b ha hb hne _ hi e => ?_) n 0 (fun i => (s i).toNat) (by omega) h1 h2 (fun j hj => absurd hj (by omega))
  · rw [inv_id n fun i hi => by rw [hf i hi], sp_id fun i hi => by rw [hf i hi]]
  · have a1 := inv_swap (n := n) (fun i => (t i : Int)) ha hb hne fun i j h1 h2 e => hi i j h1 h2 (by omega)
    have a2 := sp_swap (n := n) (fun i => (t i : Int)) ha hb hne
    have e' : inv n (fun i => ((t (sw a b i) : Nat) : Int)) = sp n fun i => ((t (sw a b i) : Nat) : Int) := e
    rw [a1, a2] at e'
    grind

theorem dt_tau {n : Nat} : ∀ (i : Nat) (f : Nat → Nat → Int), i < n → dt n (fun a b => f (tau i a) b) = sgn i * dt n f
  | 0, f, _ => by
    rw [show (fun a b => f (tau 0 a) b) = f from funext fun a => by rw [tau_zero]]
    show _ = (if 0 % 2 = 0 then (1 : Int) else -1) * _
    rw [if_pos rfl]; grind
  | i + 1, f, h => by
    have h1 := dt_tau (n := n) i (fun r b => f (sw i (i + 1) r) b) (by omega)
    rw [show (fun a b => f (sw i (i + 1) (tau i a)) b) = fun a b => f (tau (i + 1) a) b from funext fun a => by rw [tau_next]] at h1
    rw [h1, dt_rswap f (a := i) (b := i + 1) (by omega) h (by omega), sgn_succ]
    grind
theorem sgn_two (i : Nat) : sgn i * sgn i = 1 := by unfold sgn; split <;> grind
theorem sgn_add (i j : Nat) : sgn (i + j) = sgn i * sgn j := by
  unfold sgn
  by_cases h1 : i % 2 = 0
  · by_cases h2 : j % 2 = 0
    · rw [if_pos h1, if_pos h2, if_pos (by omega)]; grind
    · rw [if_pos h1, if_neg h2, if_neg (by omega)]; grind
  · by_cases h2 : j % 2 = 0
    · rw [if_neg h1, if_pos h2, if_neg (by omega)]; grind
    · rw [if_neg h1, if_neg h2, if_pos (by omega)]; grind
/-- By row i. -/
theorem laplace (p i : Nat) (f : Nat → Nat → Int) (hi : i ≤ p) : (sg (p + 1) fun j => sgn (i + j) * f i j * dt p (wo f i j)) = dt (p + 1) f := by
  have h1 := dt_tau i f (Nat.lt_succ_of_le hi)
  rw [dt_succ] at h1
  have h2 : (sg (p + 1) fun j => sgn j * f (tau i 0) j * dt p (del j fun a b => f (tau i a) b)) = sg (p + 1) fun j => sgn j * f i j * dt p (wo f i j) := sg_congr fun j _ => by
    rw [show (del j fun a b => f (tau i a) b) = wo f i j from funext fun a => funext fun b => by
      show f (tau i (a + 1)) (sk j b) = f (sk i a) (sk j b)
      unfold tau
      rw [if_neg (Nat.succ_ne_zero a), Nat.add_sub_cancel]]
    show sgn j * f (if 0 = 0 then i else _) j * _ = _
    rw [if_pos rfl]
  rw [h2] at h1
  have h3 : (sg (p + 1) fun j => sgn (i + j) * f i j * dt p (wo f i j)) = sgn i * sg (p + 1) fun j => sgn j * f i j * dt p (wo f i j) := by
    rw [← sg_times]
    exact sg_congr fun j _ => by rw [sgn_add]; grind
  rw [h3, h1]
  have := sgn_two i
  grind
theorem wo_setr (i j : Nat) (u : Nat → Int) (f : Nat → Nat → Int) : wo (setr i u f) i j = wo f i j := by
  funext a b
  show (if sk i a = i then u (sk j b) else f (sk i a) (sk j b)) = _
  rw [if_neg (sk_ne i a)]; rfl
/-- With the numbers of another row in its place. -/
theorem laplace_row (p i : Nat) (u : Nat → Int) (f : Nat → Nat → Int) (hi : i ≤ p) : (sg (p + 1) fun j => sgn (i + j) * u j * dt p (wo f i j)) = dt (p + 1) (setr i u f) := by
  rw [← laplace p i (setr i u f) hi]
  exact sg_congr fun j _ => by
    rw [wo_setr]
    show _ = _ * (if i = i then u j else f i j) * _
    rw [if_pos rfl]
theorem laplace_other (p i k : Nat) (f : Nat → Nat → Int) (hi : i ≤ p) (hk : k ≤ p) : (sg (p + 1) fun j => sgn (i + j) * f k j * dt p (wo f i j)) = if i = k then dt (p + 1) f else 0 := by
  rw [laplace_row p i (fun j => f k j) f hi]
  by_cases h : i = k
  · rw [if_pos h, h, setr_self]
  · rw [if_neg h]
    refine dt_rows (r := i) (s := k) (by omega) (by omega) h fun j _ => ?_
    show (if i = i then f k j else f i j) = (if k = i then f k j else f k j)
    rw [if_pos rfl]; split <;> rfl

/-- The adjugate: at row i and column j what is left without row j and column i, with its sign. -/
def adj (p : Nat) (f : Nat → Nat → Int) : Nat → Nat → Int := fun i j => sgn (i + j) * dt p (wo f j i)
/-- So many times the one. -/
def scal (d : Int) : Nat → Nat → Int := fun i j => if i = j then d else 0
theorem adj_right (p : Nat) (f : Nat → Nat → Int) : Eqm (p + 1) (p + 1) (mul (p + 1) f (adj p f)) (scal (dt (p + 1) f)) := fun k i hk hi => by
  show (sg (p + 1) fun j => f k j * (sgn (j + i) * dt p (wo f i j))) = if k = i then _ else 0
  have := laplace_other p i k f (by omega) (by omega)
  rw [show (sg (p + 1) fun j => f k j * (sgn (j + i) * dt p (wo f i j))) = sg (p + 1) fun j => sgn (i + j) * f k j * dt p (wo f i j) from sg_congr fun j _ => by rw [Nat.add_comm i j]; grind, this]
  by_cases h : i = k
  · rw [if_pos h, if_pos h.symm]
  · rw [if_neg h, if_neg fun h' => h h'.symm]
theorem adj_flip (p : Nat) (f : Nat → Nat → Int) : adj p (flip f) = flip (adj p f) := by
  funext i j
  show sgn (i + j) * dt p (wo (flip f) j i) = sgn (j + i) * dt p (wo f i j)
  rw [Nat.add_comm i j, show wo (flip f) j i = flip (wo f i j) from rfl, dt_flip]
theorem adj_left (p : Nat) (f : Nat → Nat → Int) : Eqm (p + 1) (p + 1) (mul (p + 1) (adj p f) f) (scal (dt (p + 1) f)) := fun k i hk hi => by
  have h := adj_right p (flip f) i k hi hk
  rw [adj_flip, dt_flip] at h
  have e : mul (p + 1) (flip f) (flip (adj p f)) i k = mul (p + 1) (adj p f) f k i := sg_congr fun x _ => by
    show f x i * adj p f k x = adj p f k x * f x i
    grind
  rw [← e, h]
  show (if i = k then _ else _) = if k = i then _ else _
  by_cases h : i = k
  · rw [if_pos h, if_pos h.symm]
  · rw [if_neg h, if_neg fun h' => h h'.symm]
theorem dt_scal (d : Int) : ∀ n, dt n (scal d) = d ^ n
  | 0 => (Int.pow_zero d).symm
  | n + 1 => by
    rw [dt_succ, sg_one (Nat.succ_pos n) fun i hi hne => by
      show sgn i * (if 0 = i then d else 0) * _ = 0
      rw [if_neg fun h => hne h.symm]; grind]
    have e : del 0 (scal d) = scal d := by
      funext a b
      show (if a + 1 = sk 0 b then d else 0) = if a = b then d else 0
      rw [sk_zero]
      by_cases h : a = b
      · rw [if_pos h, if_pos (by omega)]
      · rw [if_neg h, if_neg (by omega)]
    rw [e, dt_scal d n]
    show (if 0 % 2 = 0 then (1 : Int) else -1) * (if 0 = 0 then d else 0) * d ^ n = d ^ (n + 1)
    rw [if_pos rfl, if_pos rfl, Int.pow_succ]; grind
/-- Cramer: with what a row comes to in the place of column j. -/
theorem cramer (n j : Nat) (f : Nat → Nat → Int) (x : Nat → Int) (hj : j < n) : dt n (setc j (fun i => sg n fun t => f i t * x t) f) = dt n f * x j := by
  have h := dt_sum n j hj f x (fun t i => f i t) n
  rw [show (fun i => sg n fun t => x t * f i t) = fun i => sg n fun t => f i t * x t from funext fun i => sg_congr fun t _ => by grind] at h
  rw [h, sg_one hj fun t ht hne => by rw [dt_copy hj ht (fun e => hne e.symm)]; grind, setc_self]
  grind


end Go.Proofs.Ytkebjmapdcbnaaa.Zx
