/- Several texts, one behind the other: MatZ, MatH, MatB, BaC1, Pf. -/
import Derived.Test.YtkebjmapdcbnaaaDoorPfaffSaysProofG1
import Derived.StillTailTactics

/- The mathematics of determinants once more, over the whole numbers. No program is named here. -/
namespace Go.Proofs.YtkebjmapdcbnaaaDoor.Zx
set_option linter.unusedVariables false

/-- The sum of the first n values. -/
def sg : Nat → (Nat → Int) → Int
  | 0, _ => 0
  | n + 1, f => sg n f + f n
theorem sg_zero (f : Nat → Int) : sg 0 f = 0 := rfl
theorem sg_succ (n : Nat) (f : Nat → Int) : sg (n + 1) f = sg n f + f n := rfl
theorem sg_congr {n : Nat} {f g : Nat → Int} (h : ∀ i, i < n → f i = g i) : sg n f = sg n g := by
  induction n with
  | zero => rfl
  | succ n ih => rw [sg, sg, ih fun i hi => h i (by omega), h n (by omega)]
theorem sg_none (n : Nat) : sg n (fun _ => 0) = 0 := by
  induction n with
  | zero => rfl
  | succ n ih => rw [sg, ih]; grind
theorem sg_add (n : Nat) (f g : Nat → Int) : sg n (fun i => f i + g i) = sg n f + sg n g := by
  induction n with
  | zero => simp only [sg]; grind
  | succ n ih => rw [sg, sg, sg, ih]; grind
theorem sg_times (n : Nat) (a : Int) (f : Nat → Int) : sg n (fun i => a * f i) = a * sg n f := by
  induction n with
  | zero => simp only [sg]; grind
  | succ n ih => rw [sg, sg, ih]; grind
theorem sg_by (n : Nat) (a : Int) (f : Nat → Int) : sg n (fun i => f i * a) = sg n f * a := by
  induction n with
  | zero => simp only [sg]; grind
  | succ n ih => rw [sg, sg, ih]; grind
theorem sg_swap (n m : Nat) (f : Nat → Nat → Int) : sg n (fun i => sg m (f i)) = sg m (fun j => sg n (fun i => f i j)) := by
  induction n with
  | zero => simp only [sg]; exact (sg_none m).symm
  | succ n ih => rw [sg, ih, ← sg_add]; rfl
/-- A sum in which one term alone is not nought. -/
theorem sg_one {n : Nat} {f : Nat → Int} {k : Nat} (hk : k < n) (h : ∀ i, i < n → i ≠ k → f i = 0) : sg n f = f k := by
  induction n with
  | zero => omega
  | succ n ih =>
    rw [sg]
    by_cases e : k = n
    · subst e
      rw [sg_congr (g := fun _ => 0) fun i hi => h i (by omega) (by omega), sg_none]; grind
    · rw [ih (by omega) fun i hi => h i (by omega), h n (by omega) (fun e' => e e'.symm)]; grind
/-- Products, the one that changes nothing, powers, turned. -/
def mul (k : Nat) (f g : Nat → Nat → Int) : Nat → Nat → Int := fun i j => sg k fun x => f i x * g x j
def plus (f g : Nat → Nat → Int) : Nat → Nat → Int := fun i j => f i j + g i j
def one : Nat → Nat → Int := fun i j => if i = j then 1 else 0
def flip (f : Nat → Nat → Int) : Nat → Nat → Int := fun i j => f j i
/-- Alike on the first rows and columns. -/
def Eqm (r c : Nat) (f g : Nat → Nat → Int) : Prop := ∀ i j, i < r → j < c → f i j = g i j
theorem Eqm.rfl' (r c : Nat) (f : Nat → Nat → Int) : Eqm r c f f := fun _ _ _ _ => rfl
theorem Eqm.symm {r c : Nat} {f g : Nat → Nat → Int} (h : Eqm r c f g) : Eqm r c g f := fun i j hi hj => (h i j hi hj).symm
theorem Eqm.trans {r c : Nat} {f g k : Nat → Nat → Int} (h : Eqm r c f g) (h' : Eqm r c g k) : Eqm r c f k := fun i j hi hj => (h i j hi hj).trans (h' i j hi hj)
theorem Eqm.mul {r k c : Nat} {f f' g g' : Nat → Nat → Int} (h : Eqm r k f f') (h' : Eqm k c g g') : Eqm r c (Zx.mul k f g) (Zx.mul k f' g') := fun i j hi hj =>
  sg_congr fun x hx => by rw [h i x hi hx, h' x j hx hj]
theorem Eqm.plus {r c : Nat} {f f' g g' : Nat → Nat → Int} (h : Eqm r c f f') (h' : Eqm r c g g') : Eqm r c (Zx.plus f g) (Zx.plus f' g') := fun i j hi hj => by
  show f i j + g i j = f' i j + g' i j
  rw [h i j hi hj, h' i j hi hj]

theorem mul_assoc (m n : Nat) (f g h : Nat → Nat → Int) : mul n (mul m f g) h = mul m f (mul n g h) := by
  funext i j
  show sg n (fun y => sg m (fun x => f i x * g x y) * h y j) = sg m fun x => f i x * sg n fun y => g x y * h y j
  have e1 : (fun y => sg m (fun x => f i x * g x y) * h y j) = fun y => sg m fun x => f i x * (g x y * h y j) := by
    funext y
    rw [← sg_by]
    exact sg_congr fun x _ => by grind
  have e2 : (fun x => f i x * sg n fun y => g x y * h y j) = fun x => sg n fun y => f i x * (g x y * h y j) := by
    funext x
    rw [← sg_times]
  rw [e1, e2, sg_swap]
theorem mul_plus (n : Nat) (f g h : Nat → Nat → Int) : mul n f (plus g h) = plus (mul n f g) (mul n f h) := by
  funext i j
  show sg n (fun x => f i x * (g x j + h x j)) = sg n (fun x => f i x * g x j) + sg n fun x => f i x * h x j
  rw [← sg_add]
  exact sg_congr fun x _ => by grind
theorem plus_mul (n : Nat) (f g h : Nat → Nat → Int) : mul n (plus f g) h = plus (mul n f h) (mul n g h) := by
  funext i j
  show sg n (fun x => (f i x + g i x) * h x j) = sg n (fun x => f i x * h x j) + sg n fun x => g i x * h x j
  rw [← sg_add]
  exact sg_congr fun x _ => by grind
theorem one_mul (r c : Nat) (f : Nat → Nat → Int) : Eqm r c (mul r one f) f := fun i j hi hj => by
  show sg r (fun x => (if i = x then (1 : Int) else 0) * f x j) = f i j
  rw [sg_one hi fun x _ hne => by rw [if_neg fun e => hne e.symm]; grind]
  rw [if_pos rfl]; grind
theorem mul_one (r c : Nat) (f : Nat → Nat → Int) : Eqm r c (mul c f one) f := fun i j hi hj => by
  show sg c (fun x => f i x * (if x = j then (1 : Int) else 0)) = f i j
  rw [sg_one hj fun x _ hne => by rw [if_neg hne]; grind]
  rw [if_pos rfl]; grind
theorem flip_mul (k : Nat) (f g : Nat → Nat → Int) : flip (mul k f g) = mul k (flip g) (flip f) := by
  funext i j
  exact sg_congr fun x _ => by show f j x * g x i = g x i * f j x; grind
theorem flip_flip (f : Nat → Nat → Int) : flip (flip f) = f := rfl

theorem sg_split (n m : Nat) (f : Nat → Int) : sg (n + m) f = sg n f + sg m (fun i => f (n + i)) := by
  induction m with
  | zero => rw [Nat.add_zero, sg_zero]; grind
  | succ m ih => rw [← Nat.add_assoc, sg_succ, sg_succ, ih]; grind
/-- Terms of nought behind the first n. -/
theorem sg_less {n m : Nat} {f : Nat → Int} (h : n ≤ m) (h0 : ∀ i, n ≤ i → i < m → f i = 0) : sg m f = sg n f := by
  obtain ⟨d, rfl⟩ := Nat.exists_eq_add_of_le h
  rw [sg_split, sg_congr (g := fun _ => 0) fun i hi => h0 (n + i) (by omega) (by omega), sg_none]; grind
/-- A sum that is not nought has a term that is not. -/
theorem sg_ne {n : Nat} {f : Nat → Int} (h : sg n f ≠ 0) : ∃ i, i < n ∧ f i ≠ 0 := by
  refine Classical.byContradiction fun hn => h ?_
  rw [sg_congr (g := fun _ => 0) fun i hi => Classical.byContradiction fun he => hn ⟨i, hi, he⟩, sg_none]

open Mx (sk sk_lt sk_ne sk_inj un sk_un un_lt sk_eq sk_zero tau tau_zero tau_next sw sw_left sw_right sw_none sw_sw sw_lt sw_inj onto into by_swaps perm_of turn turn_next)
/-- Without row a and column b. -/
def wo (f : Nat → Nat → Int) (a b : Nat) : Nat → Nat → Int := fun i j => f (sk a i) (sk b j)
theorem one_sk (a i j : Nat) : one (sk a i) (sk a j) = one i j := by
  unfold one
  by_cases h : i = j
  · rw [if_pos h, if_pos (by rw [h])]
  · rw [if_neg h, if_neg (fun e => h (sk_inj e))]
/-- The sign of a place. -/
def sgn (j : Nat) : Int := if j % 2 = 0 then 1 else -1
theorem sgn_succ (j : Nat) : sgn (j + 1) = -(sgn j) := by
  unfold sgn
  by_cases h : j % 2 = 0
  · rw [if_pos h, if_neg (by omega)]
  · rw [if_neg h, if_pos (by omega)]; grind
/-- Without the first row and column j. -/
def del (j : Nat) (f : Nat → Nat → Int) : Nat → Nat → Int := fun a b => f (a + 1) (sk j b)
/-- The determinant, by the first row. -/
def dt : Nat → (Nat → Nat → Int) → Int
  | 0, _ => 1
  | n + 1, f => sg (n + 1) fun j => sgn j * f 0 j * dt n (del j f)
theorem dt_succ (n : Nat) (f : Nat → Nat → Int) : dt (n + 1) f = sg (n + 1) fun j => sgn j * f 0 j * dt n (del j f) := rfl
theorem dt_congr : ∀ (n : Nat) {f g : Nat → Nat → Int}, Eqm n n f g → dt n f = dt n g
  | 0, _, _, _ => rfl
  | n + 1, f, g, h => sg_congr fun j hj => by
    have e : dt n (del j f) = dt n (del j g) := dt_congr n fun a b ha hb => h (a + 1) (sk j b) (by omega) (sk_lt hb)
    rw [h 0 j (Nat.succ_pos n) hj, e]

/-- Column c in the place of its own. -/
def setc (c : Nat) (u : Nat → Int) (f : Nat → Nat → Int) : Nat → Nat → Int := fun i j => if j = c then u i else f i j
theorem del_same (c : Nat) (u : Nat → Int) (f : Nat → Nat → Int) : del c (setc c u f) = del c f := by
  funext a b
  show (if sk c b = c then u (a + 1) else f (a + 1) (sk c b)) = _
  rw [if_neg (sk_ne c b)]; rfl
theorem del_other {j c : Nat} (h : j ≠ c) (u : Nat → Int) (f : Nat → Nat → Int) : del j (setc c u f) = setc (un j c) (fun a => u (a + 1)) (del j f) := by
  funext a b
  show (if sk j b = c then u (a + 1) else f (a + 1) (sk j b)) = if b = un j c then u (a + 1) else f (a + 1) (sk j b)
  by_cases e : b = un j c
  · rw [if_pos e, if_pos ((sk_eq h).2 e)]
  · rw [if_neg e, if_neg fun e' => e ((sk_eq h).1 e')]
theorem dt_lin : ∀ (n c : Nat) (hc : c < n) (a b : Int) (u w : Nat → Int) (f : Nat → Nat → Int),
    dt n (setc c (fun i => a * u i + b * w i) f) = a * dt n (setc c u f) + b * dt n (setc c w f)
  | 0, c, hc, _, _, _, _, _ => absurd hc (by omega)
  | n + 1, c, hc, a, b, u, w, f => by
    rw [dt_succ, dt_succ, dt_succ, ← sg_times, ← sg_times, ← sg_add]
    refine sg_congr fun j hj => ?_
    by_cases h : j = c
    · subst h
      rw [del_same, del_same, del_same]
      show sgn j * (if j = j then a * u 0 + b * w 0 else f 0 j) * dt n (del j f) = a * (sgn j * (if j = j then u 0 else f 0 j) * dt n (del j f)) + b * (sgn j * (if j = j then w 0 else f 0 j) * dt n (del j f))
      rw [if_pos rfl, if_pos rfl, if_pos rfl]; grind
    · rw [del_other h, del_other h, del_other h, dt_lin n (un j c) (un_lt h hc hj) a b (fun i => u (i + 1)) (fun i => w (i + 1))]
      show sgn j * (if j = c then a * u 0 + b * w 0 else f 0 j) * _ = a * (sgn j * (if j = c then u 0 else f 0 j) * _) + b * (sgn j * (if j = c then w 0 else f 0 j) * _)
      rw [if_neg h, if_neg h, if_neg h]; grind
theorem setc_self (c : Nat) (f : Nat → Nat → Int) : setc c (fun i => f i c) f = f := by
  funext i j
  show (if j = c then f i c else f i j) = f i j
  by_cases h : j = c
  · rw [if_pos h, h]
  · rw [if_neg h]
theorem setc_setc (c : Nat) (u w : Nat → Int) (f : Nat → Nat → Int) : setc c u (setc c w f) = setc c u f := by
  funext i j
  show (if j = c then u i else if j = c then w i else f i j) = if j = c then u i else f i j
  by_cases h : j = c
  · rw [if_pos h, if_pos h]
  · rw [if_neg h, if_neg h, if_neg h]
theorem setc_comm {c d : Nat} (h : c ≠ d) (u w : Nat → Int) (f : Nat → Nat → Int) : setc c u (setc d w f) = setc d w (setc c u f) := by
  funext i j
  show (if j = c then u i else if j = d then w i else f i j) = if j = d then w i else if j = c then u i else f i j
  by_cases h1 : j = c
  · rw [if_pos h1, if_neg (by omega), if_pos h1]
  · rw [if_neg h1, if_neg h1]
theorem dt_plus (n c : Nat) (hc : c < n) (u w : Nat → Int) (f : Nat → Nat → Int) : dt n (setc c (fun i => u i + w i) f) = dt n (setc c u f) + dt n (setc c w f) := by
  have := dt_lin n c hc 1 1 u w f
  rw [show (fun i => (1 : Int) * u i + 1 * w i) = fun i => u i + w i by funext i; grind] at this
  rw [this]; grind
theorem dt_times (n c : Nat) (hc : c < n) (a : Int) (u : Nat → Int) (f : Nat → Nat → Int) : dt n (setc c (fun i => a * u i) f) = a * dt n (setc c u f) := by
  have := dt_lin n c hc a 0 u u f
  rw [show (fun i => a * u i + 0 * u i) = fun i => a * u i by funext i; grind] at this
  rw [this]; grind
theorem dt_sum (n c : Nat) (hc : c < n) (f : Nat → Nat → Int) (a : Nat → Int) (u : Nat → Nat → Int) : ∀ m, dt n (setc c (fun i => sg m fun t => a t * u t i) f) = sg m fun t => a t * dt n (setc c (u t) f)
  | 0 => by
    have := dt_times n c hc 0 (fun _ => 0) f
    rw [show (fun i => (0 : Int) * (fun _ => 0) i) = fun _ => (0 : Int) by funext i; grind] at this
    show dt n (setc c (fun _ => 0) f) = 0
    rw [this]; grind
  | m + 1 => by
    have := dt_plus n c hc (fun i => sg m fun t => a t * u t i) (fun i => a m * u m i) f
    rw [dt_times n c hc, dt_sum n c hc f a u m] at this
    exact this

/-- A sum with two terms that are not nought. -/
theorem sg_two {n : Nat} {f : Nat → Int} {k l : Nat} (hk : k < n) (hl : l < n) (hne : k ≠ l) (h : ∀ i, i < n → i ≠ k → i ≠ l → f i = 0) : sg n f = f k + f l := by
  have e : sg n f = sg n (fun i => if i = k then f k else 0) + sg n (fun i => if i = l then f l else 0) := by
    rw [← sg_add]
    refine sg_congr fun i hi => ?_
    by_cases h1 : i = k
    · subst h1; rw [if_pos rfl, if_neg hne]; grind
    · by_cases h2 : i = l
      · subst h2; rw [if_neg h1, if_pos rfl]; grind
      · rw [h i hi h1 h2, if_neg h1, if_neg h2]; grind
  rw [e, sg_one hk fun i _ h1 => by rw [if_neg h1], sg_one hl fun i _ h1 => by rw [if_neg h1], if_pos rfl, if_pos rfl]
/-- Two equal columns side by side. -/
theorem dt_next : ∀ (n c : Nat) (hc : c + 1 < n) (f : Nat → Nat → Int), (∀ i, i < n → f i c = f i (c + 1)) → dt n f = 0
  | 0, c, hc, _, _ => absurd hc (by omega)
  | n + 1, c, hc, f, h => by
    rw [dt_succ, sg_two (k := c) (l := c + 1) (by omega) hc (by omega) fun j hj h1 h2 => ?_]
    · have e : dt n (del c f) = dt n (del (c + 1) f) := dt_congr n fun a b ha hb => by
        show f (a + 1) (sk c b) = f (a + 1) (sk (c + 1) b)
        by_cases e : b = c
        · have e1 : sk c b = c + 1 := by unfold sk; rw [if_neg (by omega), e]
          have e2 : sk (c + 1) b = c := by unfold sk; rw [if_pos (by omega), e]
          rw [e1, e2]; exact (h (a + 1) (by omega)).symm
        · have e1 : sk c b = sk (c + 1) b := by unfold sk; split <;> split <;> omega
          rw [e1]
      rw [e, sgn_succ, h 0 (by omega)]; grind
    · have : dt n (del j f) = 0 := by
        rcases Nat.lt_or_ge j c with hlt | hge
        · refine dt_next n (c - 1) (by omega) (del j f) fun a ha => ?_
          show f (a + 1) (sk j (c - 1)) = f (a + 1) (sk j (c - 1 + 1))
          have e1 : sk j (c - 1) = c := by unfold sk; rw [if_neg (by omega)]; omega
          have e2 : sk j (c - 1 + 1) = c + 1 := by unfold sk; rw [if_neg (by omega)]; omega
          rw [e1, e2]; exact h (a + 1) (by omega)
        · refine dt_next n c (by omega) (del j f) fun a ha => ?_
          show f (a + 1) (sk j c) = f (a + 1) (sk j (c + 1))
          have e1 : sk j c = c := by unfold sk; rw [if_pos (by omega)]
          have e2 : sk j (c + 1) = c + 1 := by unfold sk; rw [if_pos (by omega)]
          rw [e1, e2]; exact h (a + 1) (by omega)
      rw [this]; grind
/-- From nought with two equal columns: the sign turns when they change places. -/
theorem dt_anti {n c d : Nat} (hc : c < n) (hd : d < n) (hne : c ≠ d) (hz : ∀ (w : Nat → Int) (g : Nat → Nat → Int), dt n (setc c w (setc d w g)) = 0) (u w : Nat → Int) (f : Nat → Nat → Int) :
    dt n (setc c u (setc d w f)) = -(dt n (setc c w (setc d u f))) := by
  have h := hz (fun i => u i + w i) f
  rw [dt_plus n c hc, setc_comm hne u, setc_comm hne w, dt_plus n d hd, dt_plus n d hd, ← setc_comm hne, ← setc_comm hne, ← setc_comm hne, ← setc_comm hne, hz u, hz w] at h
  grind
theorem next_zero {n c : Nat} (hc : c + 1 < n) (w : Nat → Int) (g : Nat → Nat → Int) : dt n (setc c w (setc (c + 1) w g)) = 0 := dt_next n c hc _ fun i _ => by
  show (if c = c then w i else _) = if c + 1 = c then w i else if c + 1 = c + 1 then w i else _
  rw [if_pos rfl, if_neg (by omega), if_pos rfl]
/-- Two equal columns, wherever they stand. -/
theorem both_zero {n c : Nat} : ∀ (d : Nat), c + d + 1 < n → ∀ (w : Nat → Int) (g : Nat → Nat → Int), dt n (setc c w (setc (c + d + 1) w g)) = 0
  | 0, h, w, g => next_zero h w g
  | d + 1, h, w, g => by
    -- columns c + d + 1 and c + d + 2 change places
    have h1 : dt n (setc c w (setc (c + (d + 1) + 1) w g)) = dt n (setc (c + d + 1) (fun i => g i (c + d + 1)) (setc (c + d + 1 + 1) w (setc c w g))) := by
      refine dt_congr n fun i j _ _ => ?_
      show (if j = c then w i else if j = c + (d + 1) + 1 then w i else g i j) = if j = c + d + 1 then g i (c + d + 1) else if j = c + d + 1 + 1 then w i else if j = c then w i else g i j
      by_cases e1 : j = c
      · rw [if_pos e1, if_neg (by omega), if_neg (by omega), if_pos e1]
      · by_cases e2 : j = c + (d + 1) + 1
        · rw [if_neg e1, if_pos e2, if_neg (by omega), if_pos (by omega)]
        · by_cases e3 : j = c + d + 1
          · rw [if_neg e1, if_neg e2, if_pos e3, e3]
          · rw [if_neg e1, if_neg e2, if_neg e3, if_neg (by omega), if_neg e1]
    rw [h1, dt_anti (by omega) (by omega) (by omega) (fun w g => next_zero (by omega) w g)]
    have h2 : setc (c + d + 1) w (setc (c + d + 1 + 1) (fun i => g i (c + d + 1)) (setc c w g)) = setc c w (setc (c + d + 1) w (setc (c + d + 1 + 1) (fun i => g i (c + d + 1)) g)) := by
      rw [setc_comm (show c + d + 1 + 1 ≠ c by omega), setc_comm (show c + d + 1 ≠ c by omega)]
    rw [h2, both_zero d (by omega)]; grind
theorem dt_equal {n c d : Nat} (hc : c < n) (hd : d < n) (hne : c ≠ d) (w : Nat → Int) (g : Nat → Nat → Int) : dt n (setc c w (setc d w g)) = 0 := by
  rcases Nat.lt_or_ge c d with h | h
  · have := both_zero (n := n) (c := c) (d - c - 1) (by omega) w g
    rw [show c + (d - c - 1) + 1 = d by omega] at this
    exact this
  · have := both_zero (n := n) (c := d) (c - d - 1) (by omega) w g
    rw [show d + (c - d - 1) + 1 = c by omega] at this
    rw [setc_comm hne]; exact this
/-- Column d in the place of column c: nought. -/
theorem dt_copy {n c d : Nat} (hc : c < n) (hd : d < n) (hne : c ≠ d) (f : Nat → Nat → Int) : dt n (setc c (fun i => f i d) f) = 0 := by
  have := dt_equal hc hd hne (fun i => f i d) f
  rw [setc_self] at this
  exact this
theorem dt_swap {n c d : Nat} (hc : c < n) (hd : d < n) (hne : c ≠ d) (f : Nat → Nat → Int) : dt n (setc c (fun i => f i d) (setc d (fun i => f i c) f)) = -(dt n f) := by
  rw [dt_anti hc hd hne (fun w g => dt_equal hc hd hne w g)]
  have : setc c (fun i => f i c) (setc d (fun i => f i d) f) = f := by rw [setc_self d, setc_self c]
  rw [this]
/-- What is taken to noughts by something that is not has no determinant. -/
theorem dt_null {n : Nat} {f : Nat → Nat → Int} {y : Nat → Int} {c : Nat} (hc : c < n) (h1 : y c ≠ 0) (h : ∀ i, i < n → sg n (fun j => f i j * y j) = 0) : dt n f = 0 := by
  -- the determinant with the sum of all columns, each so many times, in the place of column c
  have e1 : dt n (setc c (fun i => sg n fun t => y t * f i t) f) = 0 := by
    have : dt n (setc c (fun i => sg n fun t => y t * f i t) f) = dt n (setc c (fun i => (0 : Int) * f i c) f) := dt_congr n fun i j hi _ => by
      show (if j = c then sg n (fun t => y t * f i t) else f i j) = if j = c then (0 : Int) * f i c else f i j
      rw [show sg n (fun t => y t * f i t) = (0 : Int) * f i c by
        rw [sg_congr (g := fun j => f i j * y j) fun t _ => by grind, h i hi]; grind]
    rw [this, dt_times n c hc]; grind
  have e2 := dt_sum n c hc f y (fun t i => f i t) n
  rw [e1, sg_one hc fun t ht hne => by rw [dt_copy hc ht (fun e => hne e.symm)]; grind, setc_self] at e2
  exact (Int.mul_eq_zero.1 e2.symm).resolve_left h1



/-- Linear in each column, and nought with two equal columns. -/
structure Alt (n : Nat) (M : (Nat → Nat → Int) → Int) : Prop where
  congr : ∀ f g, Eqm n n f g → M f = M g
  lin : ∀ c, c < n → ∀ (a b : Int) (u w : Nat → Int) (f : Nat → Nat → Int), M (setc c (fun i => a * u i + b * w i) f) = a * M (setc c u f) + b * M (setc c w f)
  zero : ∀ c d, c < n → d < n → c ≠ d → ∀ (w : Nat → Int) (f : Nat → Nat → Int), M (setc c w (setc d w f)) = 0
theorem Alt.plus {n : Nat} {M : (Nat → Nat → Int) → Int} (h : Alt n M) {c : Nat} (hc : c < n) (u w : Nat → Int) (f : Nat → Nat → Int) : M (setc c (fun i => u i + w i) f) = M (setc c u f) + M (setc c w f) := by
  have := h.lin c hc 1 1 u w f
  rw [show (fun i => (1 : Int) * u i + 1 * w i) = fun i => u i + w i by funext i; grind] at this
  rw [this]; grind
theorem Alt.times {n : Nat} {M : (Nat → Nat → Int) → Int} (h : Alt n M) {c : Nat} (hc : c < n) (a : Int) (u : Nat → Int) (f : Nat → Nat → Int) : M (setc c (fun i => a * u i) f) = a * M (setc c u f) := by
  have := h.lin c hc a 0 u u f
  rw [show (fun i => a * u i + 0 * u i) = fun i => a * u i by funext i; grind] at this
  rw [this]; grind
theorem Alt.sum {n : Nat} {M : (Nat → Nat → Int) → Int} (h : Alt n M) {c : Nat} (hc : c < n) (f : Nat → Nat → Int) (a : Nat → Int) (u : Nat → Nat → Int) : ∀ m, M (setc c (fun i => sg m fun t => a t * u t i) f) = sg m fun t => a t * M (setc c (u t) f)
  | 0 => by
    have := h.times hc 0 (fun _ => 0) f
    rw [show (fun i => (0 : Int) * (fun _ => 0) i) = fun _ => (0 : Int) by funext i; grind] at this
    show M (setc c (fun _ => 0) f) = 0
    rw [this]; grind
  | m + 1 => by
    have := h.plus hc (fun i => sg m fun t => a t * u t i) (fun i => a m * u m i) f
    rw [h.times hc, h.sum hc f a u m] at this
    exact this
theorem Alt.anti {n : Nat} {M : (Nat → Nat → Int) → Int} (h : Alt n M) {c d : Nat} (hc : c < n) (hd : d < n) (hne : c ≠ d) (u w : Nat → Int) (f : Nat → Nat → Int) :
    M (setc c u (setc d w f)) = -(M (setc c w (setc d u f))) := by
  have h0 := h.zero c d hc hd hne (fun i => u i + w i) f
  rw [h.plus hc, setc_comm hne u, setc_comm hne w, h.plus hd, h.plus hd, ← setc_comm hne, ← setc_comm hne, ← setc_comm hne, ← setc_comm hne, h.zero c d hc hd hne u, h.zero c d hc hd hne w] at h0
  grind
theorem dt_alt (n : Nat) : Alt n (dt n) := ⟨fun f g h => dt_congr n h, fun c hc a b u w f => dt_lin n c hc a b u w f, fun c d hc hd hne w f => dt_equal hc hd hne w f⟩

/-- Each column is one of those of the unit matrix. -/
def pick (s : Nat → Nat) : Nat → Nat → Int := fun i j => if i = s j then 1 else 0
theorem pick_sw (s : Nat → Nat) (a b : Nat) : pick (fun j => s (sw a b j)) = setc a (fun i => pick s i b) (setc b (fun i => pick s i a) (pick s)) := by
  funext i j
  show (if i = s (sw a b j) then (1 : Int) else 0) = if j = a then pick s i b else if j = b then pick s i a else pick s i j
  by_cases h1 : j = a
  · rw [if_pos h1, h1, sw_left]; rfl
  · rw [if_neg h1]
    by_cases h2 : j = b
    · rw [if_pos h2, h2, sw_right]; rfl
    · rw [if_neg h2, sw_none h1 h2]; rfl
theorem Alt.swap {n : Nat} {M : (Nat → Nat → Int) → Int} (h : Alt n M) {c d : Nat} (hc : c < n) (hd : d < n) (hne : c ≠ d) (f : Nat → Nat → Int) : M (setc c (fun i => f i d) (setc d (fun i => f i c) f)) = -(M f) := by
  rw [h.anti hc hd hne]
  have : setc c (fun i => f i c) (setc d (fun i => f i d) f) = f := by rw [setc_self d, setc_self c]
  rw [this]
theorem Alt.pick_swap {n : Nat} {M : (Nat → Nat → Int) → Int} (h : Alt n M) (s : Nat → Nat) {a b : Nat} (ha : a < n) (hb : b < n) (hne : a ≠ b) : M (pick (fun j => s (sw a b j))) = -(M (pick s)) := by
  rw [pick_sw, h.swap ha hb hne]
theorem Alt.same {n : Nat} {M : (Nat → Nat → Int) → Int} (h : Alt n M) (f : Nat → Nat → Int) {c d : Nat} (hc : c < n) (hd : d < n) (hne : c ≠ d) (e : ∀ i, f i c = f i d) : M f = 0 := by
  have h0 := h.zero c d hc hd hne (fun i => f i d) f
  rw [setc_self, show (fun i => f i d) = fun i => f i c from funext fun i => (e i).symm, setc_self] at h0
  exact h0
theorem sg_pick {n : Nat} (s : Nat → Nat) (j : Nat) (hs : s j < n) (a : Nat → Int) : sg n (fun t => a t * pick s t j) = a (s j) := by
  rw [sg_one hs fun t _ hne => by show a t * (if t = s j then (1 : Int) else 0) = 0; rw [if_neg hne]; grind]
  show a (s j) * (if s j = s j then (1 : Int) else 0) = a (s j)
  rw [if_pos rfl]; grind
theorem dt_one : ∀ n, dt n one = 1
  | 0 => rfl
  | n + 1 => by
    rw [dt_succ, sg_one (Nat.succ_pos n) fun j _ hne => by show sgn j * (if 0 = j then (1 : Int) else 0) * _ = 0; rw [if_neg (fun e => hne e.symm)]; grind]
    have : dt n (del 0 one) = dt n one := dt_congr n fun a b _ _ => by
      show (if a + 1 = sk 0 b then (1 : Int) else 0) = if a = b then (1 : Int) else 0
      rw [sk_zero]
      by_cases h : a = b
      · rw [if_pos h, if_pos (by omega)]
      · rw [if_neg h, if_neg (by omega)]
    rw [this, dt_one n]
    show sgn 0 * (if 0 = 0 then (1 : Int) else 0) * 1 = 1
    rw [if_pos rfl, show sgn 0 = 1 from rfl]; grind
/-- Of all columns that are columns of the unit matrix. -/
theorem Alt.picked {n : Nat} {M : (Nat → Nat → Int) → Int} (h : Alt n M) (s : Nat → Nat) (hs : ∀ i, i < n → s i < n) : M (pick s) = M one * dt n (pick s) := by
  by_cases hi : ∀ i j, i < n → j < n → s i = s j → i = j
  · refine by_swaps (P := fun s => M (pick s) = M one * dt n (pick s)) (fun s hf => ?_) (fun s a b ha hb hne _ _ e => ?_) n 0 s (by omega) hs hi (fun j hj => absurd hj (by omega))
    · have : Eqm n n (pick s) one := fun i j _ hj => by show (if i = s j then (1 : Int) else 0) = if i = j then 1 else 0; rw [hf j hj]
      rw [h.congr _ _ this, dt_congr n this, dt_one]; grind
    · rw [h.pick_swap s ha hb hne, (dt_alt n).pick_swap s ha hb hne] at e
      grind
  · obtain ⟨c, hn⟩ := Classical.not_forall.1 hi
    obtain ⟨d, hn⟩ := Classical.not_forall.1 hn
    obtain ⟨hc, hn⟩ := Classical.not_imp.1 hn
    obtain ⟨hd, hn⟩ := Classical.not_imp.1 hn
    obtain ⟨e, hne⟩ := Classical.not_imp.1 hn
    have e1 : ∀ i, pick s i c = pick s i d := fun i => by show (if i = s c then (1 : Int) else 0) = if i = s d then 1 else 0; rw [e]
    rw [h.same _ hc hd hne e1, (dt_alt n).same _ hc hd hne e1]; grind
/-- The first k columns are columns of the unit matrix, the others as they come. -/
def front (k : Nat) (s : Nat → Nat) (f : Nat → Nat → Int) : Nat → Nat → Int := fun i j => if j < k then pick s i j else f i j
theorem Alt.fronts {n : Nat} {M : (Nat → Nat → Int) → Int} (h : Alt n M) : ∀ (m k : Nat) (s : Nat → Nat) (f : Nat → Nat → Int), k + m = n → (∀ i, i < n → s i < n) → M (front k s f) = M one * dt n (front k s f)
  | 0, k, s, f, hm, hs => by
    have : Eqm n n (front k s f) (pick s) := fun i j _ hj => by unfold front; rw [if_pos (by omega)]
    rw [h.congr _ _ this, dt_congr n this]; exact h.picked s hs
  | m + 1, k, s, f, hm, hs => by
    have hk : k < n := by omega
    have e : Eqm n n (front k s f) (setc k (fun i => sg n fun t => f t k * one i t) (front k s f)) := fun i j hi hj => by
      show front k s f i j = if j = k then sg n (fun t => f t k * one i t) else front k s f i j
      by_cases hjk : j = k
      · rw [if_pos hjk, sg_one hi fun t _ hne => by show f t k * (if i = t then (1 : Int) else 0) = 0; rw [if_neg (fun e => hne e.symm)]; grind]
        show (if j < k then _ else f i j) = f i k * (if i = i then (1 : Int) else 0)
        rw [if_neg (by omega), if_pos rfl, hjk]; grind
      · rw [if_neg hjk]
    rw [h.congr _ _ e, dt_congr n e, h.sum hk, (dt_alt n).sum hk, ← sg_times]
    refine sg_congr fun t ht => ?_
    have e2 : setc k (fun i => one i t) (front k s f) = front (k + 1) (fun j => if j = k then t else s j) f := by
      funext i j
      show (if j = k then one i t else if j < k then pick s i j else f i j) = if j < k + 1 then (if i = (if j = k then t else s j) then (1 : Int) else 0) else f i j
      by_cases h1 : j = k
      · rw [if_pos h1, if_pos (by omega), if_pos h1]; rfl
      · rw [if_neg h1, if_neg h1]
        by_cases h2 : j < k
        · rw [if_pos h2, if_pos (by omega)]; rfl
        · rw [if_neg h2, if_neg (by omega)]
    rw [e2, h.fronts m (k + 1) _ f (by omega) fun i hi => by
      by_cases h1 : i = k
      · rw [if_pos h1]; exact ht
      · rw [if_neg h1]; exact hs i hi]
    grind
/-- There is one such rule, up to what it says of the unit matrix. -/
theorem Alt.is {n : Nat} {M : (Nat → Nat → Int) → Int} (h : Alt n M) (f : Nat → Nat → Int) : M f = M one * dt n f := by
  have := h.fronts n 0 (fun _ => 0) f (by omega)
  by_cases hn : n = 0
  · subst hn
    rw [h.congr f one fun i j hi => absurd hi (by omega)]
    show M one = M one * 1
    grind
  · have := this fun i hi => by omega
    exact this

theorem mul_setc (n c : Nat) (f : Nat → Nat → Int) (u : Nat → Int) (g : Nat → Nat → Int) : mul n f (setc c u g) = setc c (fun i => sg n fun x => f i x * u x) (mul n f g) := by
  funext i j
  show sg n (fun x => f i x * (if j = c then u x else g x j)) = if j = c then sg n (fun x => f i x * u x) else sg n (fun x => f i x * g x j)
  by_cases h : j = c
  · rw [if_pos h]; exact sg_congr fun x _ => by rw [if_pos h]
  · rw [if_neg h]; exact sg_congr fun x _ => by rw [if_neg h]
/-- Cauchy, Binet. -/
theorem dt_mul (n : Nat) (f g : Nat → Nat → Int) : dt n (mul n f g) = dt n f * dt n g := by
  have h : Alt n fun g => dt n (mul n f g) := by
    refine ⟨fun a b e => dt_congr n ((Eqm.rfl' n n f).mul e), fun c hc a b u w k => ?_, fun c d hc hd hne w k => ?_⟩
    · rw [mul_setc, mul_setc, mul_setc]
      have : (fun i => sg n fun x => f i x * (a * u x + b * w x)) = fun i => a * (sg n fun x => f i x * u x) + b * (sg n fun x => f i x * w x) := by
        funext i
        rw [← sg_times, ← sg_times, ← sg_add]
        exact sg_congr fun x _ => by grind
      rw [this]; exact dt_lin n c hc a b _ _ _
    · rw [mul_setc, mul_setc]; exact dt_equal hc hd hne _ _
  have := h.is g
  rw [this, show dt n (mul n f one) = dt n f from dt_congr n (mul_one n n f)]

/-- Row r in the place of its own. -/
def setr (r : Nat) (u : Nat → Int) (f : Nat → Nat → Int) : Nat → Nat → Int := fun i j => if i = r then u j else f i j
theorem setr_flip (r : Nat) (u : Nat → Int) (f : Nat → Nat → Int) : setr r u f = flip (setc r u (flip f)) := rfl
theorem del_setr_zero (j : Nat) (u : Nat → Int) (f : Nat → Nat → Int) : del j (setr 0 u f) = del j f := by
  funext a b
  show (if a + 1 = 0 then u (sk j b) else f (a + 1) (sk j b)) = f (a + 1) (sk j b)
  rw [if_neg (by omega)]
theorem del_setr (j r : Nat) (u : Nat → Int) (f : Nat → Nat → Int) : del j (setr (r + 1) u f) = setr r (fun b => u (sk j b)) (del j f) := by
  funext a b
  show (if a + 1 = r + 1 then u (sk j b) else f (a + 1) (sk j b)) = if a = r then u (sk j b) else f (a + 1) (sk j b)
  by_cases h : a = r
  · rw [if_pos h, if_pos (by omega)]
  · rw [if_neg h, if_neg (by omega)]
/-- Linear in each row. -/
theorem dt_rlin : ∀ (n r : Nat) (hr : r < n) (a b : Int) (u w : Nat → Int) (f : Nat → Nat → Int),
    dt n (setr r (fun j => a * u j + b * w j) f) = a * dt n (setr r u f) + b * dt n (setr r w f)
  | 0, r, hr, _, _, _, _, _ => absurd hr (by omega)
  | n + 1, 0, _, a, b, u, w, f => by
    rw [dt_succ, dt_succ, dt_succ, ← sg_times, ← sg_times, ← sg_add]
    refine sg_congr fun j hj => ?_
    rw [del_setr_zero, del_setr_zero, del_setr_zero]
    show sgn j * (a * u j + b * w j) * dt n (del j f) = a * (sgn j * u j * dt n (del j f)) + b * (sgn j * w j * dt n (del j f))
    grind
  | n + 1, r + 1, hr, a, b, u, w, f => by
    rw [dt_succ, dt_succ, dt_succ, ← sg_times, ← sg_times, ← sg_add]
    refine sg_congr fun j hj => ?_
    rw [del_setr, del_setr, del_setr, dt_rlin n r (by omega) a b (fun b => u (sk j b)) (fun b => w (sk j b))]
    have : ∀ v : Nat → Int, setr (r + 1) v f 0 j = f 0 j := fun v => by show (if 0 = r + 1 then v j else f 0 j) = f 0 j; rw [if_neg (by omega)]
    rw [this, this, this]; grind
/-- Two equal rows. -/
theorem dt_rows {n : Nat} {f : Nat → Nat → Int} {r s : Nat} (hr : r < n) (hs : s < n) (hne : r ≠ s) (e : ∀ j, j < n → f r j = f s j) : dt n f = 0 := by
  have h1 : Eqm n n (mul n (setr r (fun j => one s j) one) f) f := fun i j hi hj => by
    show sg n (fun x => (if i = r then one s x else one i x) * f x j) = f i j
    by_cases h : i = r
    · rw [sg_congr (g := fun x => one s x * f x j) fun x _ => by rw [if_pos h]]
      have := one_mul n n f s j hs hj
      exact this.trans (by rw [h, e j hj])
    · rw [sg_congr (g := fun x => one i x * f x j) fun x _ => by rw [if_neg h]]
      exact one_mul n n f i j hi hj
  have h2 : dt n (setr r (fun j => one s j) one) = 0 := by
    have : Eqm n n (setr r (fun j => one s j) one) (setc r (fun i => (0 : Int) * 0) (setr r (fun j => one s j) one)) := fun i j hi hj => by
      show (if i = r then one s j else one i j) = if j = r then (0 : Int) * 0 else if i = r then one s j else one i j
      by_cases hj : j = r
      · rw [if_pos hj]
        by_cases hi : i = r
        · rw [if_pos hi]; show (if s = j then (1 : Int) else 0) = 0 * 0; rw [if_neg (by omega)]; rfl
        · rw [if_neg hi]; show (if i = j then (1 : Int) else 0) = 0 * 0; rw [if_neg (by omega)]; rfl
      · rw [if_neg hj]
    rw [dt_congr n this, dt_times n r hr 0 (fun _ => 0)]; grind
  rw [← dt_congr n h1, dt_mul, h2]; grind
theorem dt_flip (n : Nat) (f : Nat → Nat → Int) : dt n (flip f) = dt n f := by
  have h : Alt n fun g => dt n (flip g) := by
    refine ⟨fun a b e => dt_congr n fun i j hi hj => e j i hj hi, fun c hc a b u w k => dt_rlin n c hc a b u w (flip k), fun c d hc hd hne w k => ?_⟩
    refine dt_rows hc hd hne fun j _ => ?_
    show (if c = c then w j else _) = if d = c then w j else if d = d then w j else _
    rw [if_pos rfl, if_neg (fun e => hne e.symm), if_pos rfl]
  have := h.is f
  rw [this, show dt n (flip one) = 1 from (dt_congr n fun i j _ _ => by show (if j = i then (1 : Int) else 0) = if i = j then 1 else 0; by_cases e : i = j <;> simp [e, eq_comm]).trans (dt_one n)]
  grind
/-- Two rows change places. -/
theorem dt_rswap {n : Nat} (f : Nat → Nat → Int) {a b : Nat} (ha : a < n) (hb : b < n) (hne : a ≠ b) : dt n (fun i j => f (sw a b i) j) = -(dt n f) := by
  rw [← dt_flip n f, ← dt_flip n fun i j => f (sw a b i) j, ← (dt_alt n).swap ha hb hne]
  congr 1
  funext i j
  show f (sw a b j) i = if j = a then f b i else if j = b then f a i else f j i
  by_cases h1 : j = a
  · rw [if_pos h1, h1, sw_left]
  · rw [if_neg h1]
    by_cases h2 : j = b
    · rw [if_pos h2, h2, sw_right]
    · rw [if_neg h2, sw_none h1 h2]
theorem dt_cswap {n : Nat} (f : Nat → Nat → Int) {a b : Nat} (ha : a < n) (hb : b < n) (hne : a ≠ b) : dt n (fun i j => f i (sw a b j)) = -(dt n f) := by
  rw [← dt_flip n f, ← dt_flip n fun i j => f i (sw a b j)]
  exact dt_rswap (flip f) ha hb hne
theorem setr_self (r : Nat) (f : Nat → Nat → Int) : setr r (fun j => f r j) f = f := by
  funext i j
  show (if i = r then f r j else f i j) = f i j
  by_cases h : i = r
  · rw [if_pos h, h]
  · rw [if_neg h]
/-- So many times one row added to another one. -/
theorem dt_add {n : Nat} (f : Nat → Nat → Int) {a b : Nat} (ha : a < n) (hb : b < n) (hne : a ≠ b) (k : Int) : dt n (setr a (fun j => f a j + k * f b j) f) = dt n f := by
  have h := dt_rlin n a ha 1 k (fun j => f a j) (fun j => f b j) f
  rw [show (fun j => (1 : Int) * f a j + k * f b j) = fun j => f a j + k * f b j by funext j; grind, setr_self] at h
  have h2 : dt n (setr a (fun j => f b j) f) = 0 := dt_rows ha hb hne fun j _ => by
    show (if a = a then f b j else f a j) = if b = a then f b j else f b j
    rw [if_pos rfl, if_neg (fun e => hne e.symm)]
  rw [h, h2]; grind
theorem dt_scale {n : Nat} (f : Nat → Nat → Int) {a : Nat} (ha : a < n) (k : Int) : dt n (setr a (fun j => k * f a j) f) = k * dt n f := by
  have h := dt_rlin n a ha k 0 (fun j => f a j) (fun j => f a j) f
  rw [show (fun j => k * f a j + (0 : Int) * f a j) = fun j => k * f a j by funext j; grind, setr_self] at h
  rw [h]; grind
theorem dt_rplus {n : Nat} (f : Nat → Nat → Int) {a : Nat} (ha : a < n) (u : Nat → Int) : dt n (setr a (fun j => f a j + u j) f) = dt n f + dt n (setr a u f) := by
  have h := dt_rlin n a ha 1 1 (fun j => f a j) u f
  rw [show (fun j => (1 : Int) * f a j + 1 * u j) = fun j => f a j + u j by funext j; grind, setr_self] at h
  rw [h]; grind

theorem dt_zrow {n : Nat} {f : Nat → Nat → Int} {k : Nat} (hk : k < n) (h : ∀ j, j < n → f k j = 0) : dt n f = 0 := by
  have h1 := dt_scale f hk 0
  rw [show (0 : Int) * dt n f = 0 by grind] at h1
  rw [← h1]
  refine dt_congr n fun i j hi hj => ?_
  show f i j = if i = k then (0 : Int) * f k j else f i j
  by_cases e : i = k
  · rw [if_pos e, e, h j hj]; grind
  · rw [if_neg e]
/-- The sign of an order of whole numbers: the determinant of its matrix. -/
def sp (n : Nat) (s : Nat → Int) : Int := dt n fun i j => if s i = (j : Int) then 1 else 0
theorem sp_congr {n : Nat} {s t : Nat → Int} (h : ∀ i, i < n → s i = t i) : sp n s = sp n t := dt_congr n fun i j hi _ => by rw [h i hi]
theorem sp_id {n : Nat} {s : Nat → Int} (h : ∀ i, i < n → s i = (i : Int)) : sp n s = 1 := by
  rw [← dt_one n]
  refine dt_congr n fun i j hi _ => ?_
  rw [h i hi]
  show (if (i : Int) = (j : Int) then (1 : Int) else 0) = if i = j then 1 else 0
  by_cases e : i = j
  · rw [if_pos e, if_pos (by omega)]
  · rw [if_neg e, if_neg (by omega)]
theorem sp_swap {n : Nat} (s : Nat → Int) {a b : Nat} (ha : a < n) (hb : b < n) (hne : a ≠ b) : sp n (fun i => s (sw a b i)) = -(sp n s) :=
  dt_rswap (fun i j => if s i = (j : Int) then 1 else 0) ha hb hne
theorem sp_out {n : Nat} {s : Nat → Int} {k : Nat} (hk : k < n) (h : s k < 0 ∨ (n : Int) ≤ s k) : sp n s = 0 := dt_zrow hk fun j hj => by rw [if_neg (by omega)]
theorem sp_twice {n : Nat} {s : Nat → Int} {a b : Nat} (ha : a < n) (hb : b < n) (hne : a ≠ b) (h : s a = s b) : sp n s = 0 := dt_rows ha hb hne fun j _ => by rw [h]
/-- Only of n numbers, each once, is there a sign. -/
theorem sp_miss {n : Nat} {s : Nat → Int} {k : Nat} (hk : k < n) (h : ∀ i, i < n → s i ≠ (k : Int)) : sp n s = 0 := by
  unfold sp
  have e : Eqm n n (fun i j => if s i = (j : Int) then (1 : Int) else 0) (setc k (fun i => (0 : Int) * 0) (fun i j => if s i = (j : Int) then (1 : Int) else 0)) := fun i j hi hj => by
    show (if s i = (j : Int) then (1 : Int) else 0) = if j = k then (0 : Int) * 0 else if s i = (j : Int) then 1 else 0
    by_cases e : j = k
    · rw [if_pos e, e, if_neg (h i hi)]; grind
    · rw [if_neg e]
  rw [dt_congr n e, dt_times n k hk 0 (fun _ => 0)]; grind

theorem dt_turn {m : Nat} (k : Nat → Nat → Int) (e : Nat) : ∀ t, t < e → t < m → dt m (fun i b => k i (turn e t b)) = sgn t * dt m (fun i b => k i (sk e b))
  | 0, h, hm => by
    have : (fun i b => k i (turn e 0 b)) = fun i b => k i (sk e b) := by
      funext i b
      congr 1
      unfold turn sk
      rw [if_neg (by omega)]
      by_cases h0 : b = 0
      · rw [if_pos h0, if_pos (by omega), h0]
      · rw [if_neg h0]
    rw [this, show sgn 0 = 1 from rfl]; grind
  | t + 1, h, hm => by
    have := dt_cswap (n := m) (fun i b => k i (turn e t b)) (a := t) (b := t + 1) (by omega) hm (by omega)
    rw [dt_turn k e t (by omega) (by omega)] at this
    have e1 : (fun i b => k i (turn e (t + 1) b)) = fun i b => k i (turn e t (sw t (t + 1) b)) := by
      funext i b
      exact congrArg (k i) (congrFun (turn_next e t h) b)
    rw [e1, this, sgn_succ]; grind

/-- The product of the first k. -/
def pr : Nat → (Nat → Int) → Int
  | 0, _ => 1
  | k + 1, g => pr k g * g k
theorem pr_congr {k : Nat} {g h : Nat → Int} (e : ∀ i, i < k → g i = h i) : pr k g = pr k h := by
  induction k with
  | zero => rfl
  | succ k ih => show pr k g * g k = pr k h * h k; rw [ih fun i hi => e i (by omega), e k (by omega)]
/-- What all orders that begin as s does (its first k places) add to the determinant. -/
def part' (n k : Nat) (f : Nat → Nat → Int) (s : Nat → Nat) : Int := sp n (fun i => (s i : Int)) * pr k (fun i => f i (s i)) * dt (n - k) (fun i j => f (k + i) (s (k + j)))
theorem part_end (n : Nat) (f : Nat → Nat → Int) (s : Nat → Nat) : part' n n f s = sp n (fun i => (s i : Int)) * pr n (fun i => f i (s i)) := by
  unfold part'
  rw [Nat.sub_self]
  show _ * 1 = _
  grind
theorem part_zero (n : Nat) (f : Nat → Nat → Int) {s : Nat → Nat} (hs : ∀ j, j < n → s j = j) : part' n 0 f s = dt n f := by
  unfold part'
  rw [sp_id fun i hi => by rw [hs i hi], Nat.sub_zero]
  have : dt n (fun i j => f (0 + i) (s (0 + j))) = dt n f := dt_congr n fun i j _ hj => by rw [Nat.zero_add, Nat.zero_add, hs j hj]
  rw [this]
  show 1 * 1 * _ = _
  grind
theorem part_next {n k : Nat} (f : Nat → Nat → Int) (s : Nat → Nat) (hk : k < n) : sg (n - k) (fun t => part' n (k + 1) f fun j => s (sw k (k + t) j)) = part' n k f s := by
  obtain ⟨m, hm⟩ : ∃ m, n - k = m + 1 := ⟨n - k - 1, by omega⟩
  unfold part'
  rw [hm, dt_succ, ← sg_times]
  refine sg_congr fun t ht => ?_
  have e1 : pr (k + 1) (fun i => f i (s (sw k (k + t) i))) = pr k (fun i => f i (s i)) * f k (s (k + t)) := by
    show pr k (fun i => f i (s (sw k (k + t) i))) * f k (s (sw k (k + t) k)) = _
    rw [sw_left, pr_congr (h := fun i => f i (s i)) fun i hi => by rw [sw_none (by omega) (by omega)]]
  have e0 : n - (k + 1) = m := by omega
  rw [e0, e1]
  show _ = sp n (fun i => (s i : Int)) * pr k (fun i => f i (s i)) * (sgn t * f (k + 0) (s (k + t)) * dt m (del t fun i j => f (k + i) (s (k + j))))
  rw [Nat.add_zero]
  cases t with
  | zero =>
    have e2 : (fun i => ((s (sw k (k + 0) i) : Nat) : Int)) = fun i => (s i : Int) := by
      funext i
      rw [Nat.add_zero]
      by_cases h : i = k
      · rw [h, sw_left]
      · rw [sw_none h h]
    have e3 : (fun i j => f (k + 1 + i) (s (sw k (k + 0) (k + 1 + j)))) = del 0 fun i j => f (k + i) (s (k + j)) := by
      funext i j
      show f (k + 1 + i) (s (sw k (k + 0) (k + 1 + j))) = f (k + (i + 1)) (s (k + sk 0 j))
      rw [sw_none (by omega) (by omega), sk_zero, show k + 1 + i = k + (i + 1) by omega, show k + 1 + j = k + (j + 1) by omega]
    rw [e2, e3, show sgn 0 = 1 from rfl]; grind
  | succ t =>
    have e2 : sp n (fun i => ((s (sw k (k + (t + 1)) i) : Nat) : Int)) = -(sp n fun i => (s i : Int)) := sp_swap (fun i => (s i : Int)) hk (by omega) (by omega)
    have e3 : dt m (fun i j => f (k + 1 + i) (s (sw k (k + (t + 1)) (k + 1 + j)))) = sgn t * dt m (del (t + 1) fun i j => f (k + i) (s (k + j))) := by
      refine Eq.trans (dt_congr m fun i j hi hj => ?_) (dt_turn (fun i b => f (k + (i + 1)) (s (k + b))) (t + 1) t (by omega) (by omega))
      show f (k + 1 + i) (s (sw k (k + (t + 1)) (k + 1 + j))) = f (k + (i + 1)) (s (k + turn (t + 1) t j))
      rw [show k + 1 + i = k + (i + 1) by omega]
      congr 2
      unfold turn
      by_cases h1 : j = t
      · rw [if_neg (by omega), if_pos h1, h1, show k + 1 + t = k + (t + 1) by omega, sw_right, Nat.add_zero]
      · rw [sw_none (by omega) (by omega)]
        by_cases h2 : j < t
        · rw [if_pos h2]; omega
        · rw [if_neg h2, if_neg h1]; unfold sk; rw [if_neg (by omega)]; omega
    rw [e2, e3, sgn_succ]; grind

/-- The document's sign: one exchange for each two of which the greater one comes first. -/
def e2 (a b : Int) : Int := if b < a then -1 else 1
def inv : Nat → (Nat → Int) → Int
  | 0, _ => 1
  | k + 1, s => inv k s * pr k (fun t => e2 (s t) (s k))
theorem e2_turn {a b : Int} (h : a ≠ b) : e2 b a = -(e2 a b) := by
  unfold e2
  rcases Int.lt_or_lt_of_ne h with h | h
  · rw [if_pos h, if_neg (by omega)]
  · rw [if_neg (by omega), if_pos h]; grind
theorem pr_next {c : Nat} (g : Nat → Int) : ∀ k, c + 1 < k → pr k (fun i => g (sw c (c + 1) i)) = pr k g
  | 0, h => absurd h (by omega)
  | k + 1, h => by
    show pr k (fun i => g (sw c (c + 1) i)) * g (sw c (c + 1) k) = pr k g * g k
    by_cases hk : c + 1 < k
    · rw [pr_next g k hk, sw_none (by omega) (by omega)]
    · obtain rfl : k = c + 1 := by omega
      show pr c (fun i => g (sw c (c + 1) i)) * g (sw c (c + 1) c) * g (sw c (c + 1) (c + 1)) = pr c g * g c * g (c + 1)
      rw [pr_congr (h := g) fun i hi => by rw [sw_none (by omega) (by omega)], sw_left, sw_right]; grind
theorem inv_congr {k : Nat} {s t : Nat → Int} (h : ∀ i, i < k → s i = t i) : inv k s = inv k t := by
  induction k with
  | zero => rfl
  | succ k ih =>
    show inv k s * pr k _ = inv k t * pr k _
    rw [ih fun i hi => h i (by omega), h k (by omega), pr_congr (h := fun x => e2 (t x) (t k)) fun i hi => by rw [h i (by omega)]]
theorem inv_next {c : Nat} (s : Nat → Int) (hne : s c ≠ s (c + 1)) : ∀ k, c + 1 < k → inv k (fun i => s (sw c (c + 1) i)) = -(inv k s)
  | 0, h => absurd h (by omega)
  | k + 1, h => by
    show inv k (fun i => s (sw c (c + 1) i)) * pr k (fun t => e2 (s (sw c (c + 1) t)) (s (sw c (c + 1) k))) = -(inv k s * pr k (fun t => e2 (s t) (s k)))
    by_cases hk : c + 1 < k
    · rw [inv_next s hne k hk, sw_none (j := k) (by omega) (by omega), pr_next (fun t => e2 (s t) (s k)) k hk]; grind
    · obtain rfl : k = c + 1 := by omega
      show inv c (fun i => s (sw c (c + 1) i)) * pr c (fun t => e2 (s (sw c (c + 1) t)) (s (sw c (c + 1) c))) * (pr c (fun t => e2 (s (sw c (c + 1) t)) (s (sw c (c + 1) (c + 1)))) * e2 (s (sw c (c + 1) c)) (s (sw c (c + 1) (c + 1)))) =
        -(inv c s * pr c (fun t => e2 (s t) (s c)) * (pr c (fun t => e2 (s t) (s (c + 1))) * e2 (s c) (s (c + 1))))
      rw [sw_left, sw_right, inv_congr (t := s) fun i hi => by rw [sw_none (by omega) (by omega)], pr_congr (g := fun t => e2 (s (sw c (c + 1) t)) (s (c + 1))) (h := fun t => e2 (s t) (s (c + 1))) fun i hi => by rw [sw_none (by omega) (by omega)],
        pr_congr (g := fun t => e2 (s (sw c (c + 1) t)) (s c)) (h := fun t => e2 (s t) (s c)) fun i hi => by rw [sw_none (by omega) (by omega)], e2_turn hne]
      grind
theorem sw_three {c p q : Nat} (h1 : c ≠ p) (h2 : p ≠ q) (h3 : c ≠ q) (i : Nat) : sw c q i = sw p q (sw c p (sw p q i)) := by
  by_cases e1 : i = c
  · rw [e1, sw_left, sw_none (j := c) h1 h3, sw_left, sw_left]
  · by_cases e2 : i = p
    · rw [e2, sw_left p q, sw_none (j := q) (fun e => h3 e.symm) (fun e => h2 e.symm), sw_right, sw_none (fun e => h1 e.symm) h2]
    · by_cases e3 : i = q
      · rw [e3, sw_right, sw_right, sw_right, sw_none (j := c) h1 h3]
      · rw [sw_none e1 e3, sw_none e2 e3, sw_none e1 e2, sw_none e2 e3]
theorem inv_far (c : Nat) : ∀ (d k : Nat) (s : Nat → Int), c + d + 1 < k → (∀ i j, i < k → j < k → s i = s j → i = j) → inv k (fun i => s (sw c (c + d + 1) i)) = -(inv k s)
  | 0, k, s, h, hi => inv_next s (fun e => by have := hi _ _ (by omega) (by omega) e; omega) k h
  | d + 1, k, s, h, hi => by
    have e : (fun i => s (sw c (c + (d + 1) + 1) i)) = fun i => s (sw (c + d + 1) (c + d + 1 + 1) (sw c (c + d + 1) (sw (c + d + 1) (c + d + 1 + 1) i))) := by
      funext i
      exact congrArg s (sw_three (by omega) (by omega) (by omega) i)
    have s1 : ∀ i j, i < k → j < k → s (sw (c + d + 1) (c + d + 1 + 1) i) = s (sw (c + d + 1) (c + d + 1 + 1) j) → i = j := fun i j h1 h2 e => sw_inj (hi _ _ (sw_lt (by omega) (by omega) h1) (sw_lt (by omega) (by omega) h2) e)
    have a1 := inv_next (c := c + d + 1) s (fun e => by have := hi _ _ (by omega) (by omega) e; omega) k (by omega)
    have a2 := inv_far c d k (fun i => s (sw (c + d + 1) (c + d + 1 + 1) i)) (by omega) s1
    have a3 := inv_next (c := c + d + 1) (fun i => s (sw (c + d + 1) (c + d + 1 + 1) (sw c (c + d + 1) i))) (fun e => by
      have := s1 _ _ (sw_lt (by omega) (by omega) (by omega)) (sw_lt (by omega) (by omega) (by omega)) e
      have := sw_inj this
      omega) k (by omega)
    rw [e, a3, a2, a1]; grind
theorem inv_swap {n : Nat} (s : Nat → Int) {a b : Nat} (ha : a < n) (hb : b < n) (hne : a ≠ b) (hi : ∀ i j, i < n → j < n → s i = s j → i = j) : inv n (fun i => s (sw a b i)) = -(inv n s) := by
  have sym : ∀ i, sw a b i = sw b a i := fun i => by
    unfold sw
    by_cases h1 : i = a
    · rw [if_pos h1, if_neg (by omega), if_pos h1]
    · rw [if_neg h1]
      by_cases h2 : i = b
      · rw [if_pos h2, if_pos h2]
      · rw [if_neg h2, if_neg h2, if_neg h1]
  rcases Nat.lt_or_ge a b with h | h
  · have := inv_far a (b - a - 1) n s (by omega) hi
    rw [show a + (b - a - 1) + 1 = b by omega] at this
    exact this
  · have := inv_far b (a - b - 1) n s (by omega) hi
    rw [show b + (a - b - 1) + 1 = a by omega] at this
    rw [show (fun i => s (sw a b i)) = fun i => s (sw b a i) by funext i; rw [sym]]
    exact this
theorem pr_ones {k : Nat} {g : Nat → Int} (h : ∀ i, i < k → g i = 1) : pr k g = 1 := by
  induction k with
  | zero => rfl
  | succ k ih => show pr k g * g k = 1; rw [ih fun i hi => h i (by omega), h k (by omega)]; rfl
theorem inv_id {s : Nat → Int} : ∀ n, (∀ i, i < n → s i = (i : Int)) → inv n s = 1
  | 0, _ => rfl
  | n + 1, h => by
    show inv n s * pr n _ = 1
    rw [inv_id n fun i hi => h i (by omega), pr_ones fun i hi => by unfold e2; rw [h i (by omega), h n (by omega), if_neg (by omega)]]; rfl
/-- Of an order both are one. -/
theorem inv_sp {n : Nat} {s : Nat → Int} (h : ∀ k : Nat, k < n → ∃ i, i < n ∧ s i = (k : Int)) : inv n s = sp n s := by
  have hN : ∀ k : Nat, k < n → ∃ i, i < n ∧ (s i).toNat = k := fun k hk => by
    obtain ⟨i, h1, h2⟩ := h k hk
    exact ⟨i, h1, by rw [h2]; rfl⟩
  obtain ⟨h1, h2⟩ := into hN
  -- the numbers are none below nought
  have hs : ∀ i, i < n → s i = (((s i).toNat : Nat) : Int) := fun i hi => by
    obtain ⟨j, hj, e⟩ := h _ (h1 i hi)
    have : i = j := h2 i j hi hj (by rw [e]; rfl)
    rw [this] at e ⊢
    exact e
  rw [inv_congr hs, sp_congr hs]
  refine by_swaps (n := n) (P := fun t => inv n (fun i => (t i : Int)) = sp n fun i => (t i : Int)) (fun t hf => ?_) (fun t a b ha hb hne _ hi e => ?_) n 0 (fun i => (s i).toNat) (by omega) h1 h2 (fun j hj => absurd hj (by omega))
  · rw [inv_id n fun i hi => by rw [hf i hi], sp_id fun i hi => by rw [hf i hi]]
  · have a1 := inv_swap (n := n) (fun i => (t i : Int)) ha hb hne fun i j h1 h2 e => hi i j h1 h2 (by omega)
    have a2 := sp_swap (n := n) (fun i => (t i : Int)) ha hb hne
    have e' : inv n (fun i => ((t (sw a b i) : Nat) : Int)) = sp n fun i => ((t (sw a b i) : Nat) : Int) := e
    rw [a1, a2] at e'
    grind

theorem dt_tau {n : Nat} : ∀ (i : Nat) (f : Nat → Nat → Int), i < n → dt n (fun a b => f (tau i a) b) = sgn i * dt n f
  | 0, f, _ => by
    rw [show (fun a b => f (tau 0 a) b) = f from funext fun a => by rw [tau_zero]]
    show _ = (if 0 % 2 = 0 then (1 : Int) else -1) * _
    rw [if_pos rfl]; grind
  | i + 1, f, h => by
    have h1 := dt_tau (n := n) i (fun r b => f (sw i (i + 1) r) b) (by omega)
    rw [show (fun a b => f (sw i (i + 1) (tau i a)) b) = fun a b => f (tau (i + 1) a) b from funext fun a => by rw [tau_next]] at h1
    rw [h1, dt_rswap f (a := i) (b := i + 1) (by omega) h (by omega), sgn_succ]
    grind
theorem sgn_two (i : Nat) : sgn i * sgn i = 1 := by unfold sgn; split <;> grind
theorem sgn_add (i j : Nat) : sgn (i + j) = sgn i * sgn j := by
  unfold sgn
  by_cases h1 : i % 2 = 0
  · by_cases h2 : j % 2 = 0
    · rw [if_pos h1, if_pos h2, if_pos (by omega)]; grind
    · rw [if_pos h1, if_neg h2, if_neg (by omega)]; grind
  · by_cases h2 : j % 2 = 0
    · rw [if_neg h1, if_pos h2, if_neg (by omega)]; grind
    · rw [if_neg h1, if_neg h2, if_pos (by omega)]; grind
/-- By row i. -/
theorem laplace (p i : Nat) (f : Nat → Nat → Int) (hi : i ≤ p) : (sg (p + 1) fun j => sgn (i + j) * f i j * dt p (wo f i j)) = dt (p + 1) f := by
  have h1 := dt_tau i f (Nat.lt_succ_of_le hi)
  rw [dt_succ] at h1
  have h2 : (sg (p + 1) fun j => sgn j * f (tau i 0) j * dt p (del j fun a b => f (tau i a) b)) = sg (p + 1) fun j => sgn j * f i j * dt p (wo f i j) := sg_congr fun j _ => by
    rw [show (del j fun a b => f (tau i a) b) = wo f i j from funext fun a => funext fun b => by
      show f (tau i (a + 1)) (sk j b) = f (sk i a) (sk j b)
      unfold tau
      rw [if_neg (Nat.succ_ne_zero a), Nat.add_sub_cancel]]
    show sgn j * f (if 0 = 0 then i else _) j * _ = _
    rw [if_pos rfl]
  rw [h2] at h1
  have h3 : (sg (p + 1) fun j => sgn (i + j) * f i j * dt p (wo f i j)) = sgn i * sg (p + 1) fun j => sgn j * f i j * dt p (wo f i j) := by
    rw [← sg_times]
    exact sg_congr fun j _ => by rw [sgn_add]; grind
  rw [h3, h1]
  have := sgn_two i
  grind
theorem wo_setr (i j : Nat) (u : Nat → Int) (f : Nat → Nat → Int) : wo (setr i u f) i j = wo f i j := by
  funext a b
  show (if sk i a = i then u (sk j b) else f (sk i a) (sk j b)) = _
  rw [if_neg (sk_ne i a)]; rfl
/-- With the numbers of another row in its place. -/
theorem laplace_row (p i : Nat) (u : Nat → Int) (f : Nat → Nat → Int) (hi : i ≤ p) : (sg (p + 1) fun j => sgn (i + j) * u j * dt p (wo f i j)) = dt (p + 1) (setr i u f) := by
  rw [← laplace p i (setr i u f) hi]
  exact sg_congr fun j _ => by
    rw [wo_setr]
    show _ = _ * (if i = i then u j else f i j) * _
    rw [if_pos rfl]
theorem laplace_other (p i k : Nat) (f : Nat → Nat → Int) (hi : i ≤ p) (hk : k ≤ p) : (sg (p + 1) fun j => sgn (i + j) * f k j * dt p (wo f i j)) = if i = k then dt (p + 1) f else 0 := by
  rw [laplace_row p i (fun j => f k j) f hi]
  by_cases h : i = k
  · rw [if_pos h, h, setr_self]
  · rw [if_neg h]
    refine dt_rows (r := i) (s := k) (by omega) (by omega) h fun j _ => ?_
    show (if i = i then f k j else f i j) = (if k = i then f k j else f k j)
    rw [if_pos rfl]; split <;> rfl

/-- The adjugate: at row i and column j what is left without row j and column i, with its sign. -/
def adj (p : Nat) (f : Nat → Nat → Int) : Nat → Nat → Int := fun i j => sgn (i + j) * dt p (wo f j i)
/-- So many times the one. -/
def scal (d : Int) : Nat → Nat → Int := fun i j => if i = j then d else 0
theorem adj_right (p : Nat) (f : Nat → Nat → Int) : Eqm (p + 1) (p + 1) (mul (p + 1) f (adj p f)) (scal (dt (p + 1) f)) := fun k i hk hi => by
  show (sg (p + 1) fun j => f k j * (sgn (j + i) * dt p (wo f i j))) = if k = i then _ else 0
  have := laplace_other p i k f (by omega) (by omega)
  rw [show (sg (p + 1) fun j => f k j * (sgn (j + i) * dt p (wo f i j))) = sg (p + 1) fun j => sgn (i + j) * f k j * dt p (wo f i j) from sg_congr fun j _ => by rw [Nat.add_comm i j]; grind, this]
  by_cases h : i = k
  · rw [if_pos h, if_pos h.symm]
  · rw [if_neg h, if_neg fun h' => h h'.symm]
theorem adj_flip (p : Nat) (f : Nat → Nat → Int) : adj p (flip f) = flip (adj p f) := by
  funext i j
  show sgn (i + j) * dt p (wo (flip f) j i) = sgn (j + i) * dt p (wo f i j)
  rw [Nat.add_comm i j, show wo (flip f) j i = flip (wo f i j) from rfl, dt_flip]
theorem adj_left (p : Nat) (f : Nat → Nat → Int) : Eqm (p + 1) (p + 1) (mul (p + 1) (adj p f) f) (scal (dt (p + 1) f)) := fun k i hk hi => by
  have h := adj_right p (flip f) i k hi hk
  rw [adj_flip, dt_flip] at h
  have e : mul (p + 1) (flip f) (flip (adj p f)) i k = mul (p + 1) (adj p f) f k i := sg_congr fun x _ => by
    show f x i * adj p f k x = adj p f k x * f x i
    grind
  rw [← e, h]
  show (if i = k then _ else _) = if k = i then _ else _
  by_cases h : i = k
  · rw [if_pos h, if_pos h.symm]
  · rw [if_neg h, if_neg fun h' => h h'.symm]
theorem dt_scal (d : Int) : ∀ n, dt n (scal d) = d ^ n
  | 0 => (Int.pow_zero d).symm
  | n + 1 => by
    rw [dt_succ, sg_one (Nat.succ_pos n) fun i hi hne => by
      show sgn i * (if 0 = i then d else 0) * _ = 0
      rw [if_neg fun h => hne h.symm]; grind]
    have e : del 0 (scal d) = scal d := by
      funext a b
      show (if a + 1 = sk 0 b then d else 0) = if a = b then d else 0
      rw [sk_zero]
      by_cases h : a = b
      · rw [if_pos h, if_pos (by omega)]
      · rw [if_neg h, if_neg (by omega)]
    rw [e, dt_scal d n]
    show (if 0 % 2 = 0 then (1 : Int) else -1) * (if 0 = 0 then d else 0) * d ^ n = d ^ (n + 1)
    rw [if_pos rfl, if_pos rfl, Int.pow_succ]; grind
/-- Cramer: with what a row comes to in the place of column j. -/
theorem cramer (n j : Nat) (f : Nat → Nat → Int) (x : Nat → Int) (hj : j < n) : dt n (setc j (fun i => sg n fun t => f i t * x t) f) = dt n f * x j := by
  have h := dt_sum n j hj f x (fun t i => f i t) n
  rw [show (fun i => sg n fun t => x t * f i t) = fun i => sg n fun t => f i t * x t from funext fun i => sg_congr fun t _ => by grind] at h
  rw [h, sg_one hj fun t ht hne => by rw [dt_copy hj ht (fun e => hne e.symm)]; grind, setc_self]
  grind


end Go.Proofs.YtkebjmapdcbnaaaDoor.Zx

/- Determinants of whole numbers: what is left by the prime, how great they may be, elimination without division, a middle that outweighs its row (Levy, Desplanques), Hadamard. No program is named here. -/
namespace Go.Proofs.YtkebjmapdcbnaaaDoor.Zx
open Mx (sk sk_lt sk_zero)
set_option linter.unusedVariables false

theorem sg_ofInt (n : Nat) (f : Nat → Int) : Fp.ofInt (sg n f) = Mx.sg n fun i => Fp.ofInt (f i) := by
  induction n with
  | zero => rfl
  | succ n ih => rw [sg_succ, Fp.ofInt_add, ih]; rfl
theorem sgn_ofInt (j : Nat) : Fp.ofInt (sgn j) = Mx.sgn j := by
  unfold sgn Mx.sgn
  split <;> decide
/-- What the prime leaves of a determinant is that of what it leaves. -/
theorem dt_ofInt : ∀ (n : Nat) (f : Nat → Nat → Int), Fp.ofInt (dt n f) = Mx.dt n fun i j => Fp.ofInt (f i j)
  | 0, _ => rfl
  | n + 1, f => by
    rw [dt_succ, sg_ofInt, Mx.dt_succ]
    exact Mx.sg_congr fun j _ => by rw [Fp.ofInt_mul, Fp.ofInt_mul, sgn_ofInt, dt_ofInt n]; rfl

/-- Sizes. -/
def ab (x : Int) : Int := (x.natAbs : Int)
theorem ab_pos (x : Int) : 0 ≤ ab x := by unfold ab; omega
theorem ab_mul (x y : Int) : ab (x * y) = ab x * ab y := by unfold ab; rw [Int.natAbs_mul]; simp
theorem ab_sub (x y : Int) : ab (x - y) ≤ ab x + ab y := by unfold ab; omega
theorem ab_sub' (x y : Int) : ab x - ab y ≤ ab (x - y) := by unfold ab; omega
theorem ab_zero {x : Int} (h : ab x = 0) : x = 0 := by unfold ab at h; omega
theorem sg_le {n : Nat} {f g : Nat → Int} (h : ∀ i, i < n → f i ≤ g i) : sg n f ≤ sg n g := by
  induction n with
  | zero => exact Int.le_refl _
  | succ n ih => rw [sg_succ, sg_succ]; have := ih fun i hi => h i (by omega); have := h n (by omega); omega
theorem sg_nonneg {n : Nat} {f : Nat → Int} (h : ∀ i, i < n → 0 ≤ f i) : 0 ≤ sg n f := by
  induction n with
  | zero => exact Int.le_refl _
  | succ n ih => rw [sg_succ]; have := ih fun i hi => h i (by omega); have := h n (by omega); omega
theorem sg_shift (n : Nat) (f : Nat → Int) : sg (n + 1) f = f 0 + sg n fun i => f (i + 1) := by
  induction n with
  | zero => show 0 + f 0 = f 0 + 0; omega
  | succ n ih => rw [sg_succ, ih, sg_succ]; omega
/-- One term more. -/
theorem sg_extra {n k : Nat} (hk : k < n) (f : Nat → Int) (x : Int) : (sg n fun i => f i + if i = k then x else 0) = sg n f + x := by
  rw [sg_add, sg_one (k := k) hk fun i _ h => if_neg h, if_pos rfl]
def fb (M : Int) : Nat → Int
  | 0 => 1
  | n + 1 => (n + 1 : Nat) * (M * fb M n)
theorem fb_pos {M : Int} (h : 0 ≤ M) : ∀ n, 0 ≤ fb M n
  | 0 => by show (0 : Int) ≤ 1; omega
  | n + 1 => Int.mul_nonneg (by omega) (Int.mul_nonneg h (fb_pos h n))
theorem sg_ab {n : Nat} {f : Nat → Int} {B : Int} (h : ∀ i, i < n → ab (f i) ≤ B) : ab (sg n f) ≤ (n : Int) * B := by
  induction n with
  | zero => show ab 0 ≤ _; rw [show ((0 : Nat) : Int) * B = 0 by simp]; decide
  | succ n ih =>
    have h1 := ih fun i hi => h i (by omega)
    have h2 := h n (by omega)
    have h3 : ((n + 1 : Nat) : Int) * B = n * B + B := by rw [Int.natCast_add, Int.add_mul]; simp
    rw [sg_succ, h3]
    unfold ab at *
    omega
theorem sgn_ab (j : Nat) : ab (sgn j) = 1 := by unfold sgn; split <;> decide
/-- How great a determinant may be. -/
theorem dt_ab {M : Int} (hM : 0 ≤ M) : ∀ (n : Nat) (f : Nat → Nat → Int), (∀ i j, i < n → j < n → ab (f i j) ≤ M) → ab (dt n f) ≤ fb M n
  | 0, _, _ => by show ab 1 ≤ 1; decide
  | n + 1, f, h => by
    rw [dt_succ]
    refine sg_ab fun j hj => ?_
    have h1 := dt_ab hM n (del j f) fun a b ha hb => h (a + 1) (sk j b) (by omega) (sk_lt hb)
    rw [ab_mul, ab_mul, sgn_ab, Int.one_mul]
    exact Int.mul_le_mul (h 0 j (by omega) hj) h1 (ab_pos _) hM

/-- The first row, or the first column, has noughts behind its first number. -/
theorem dt_first (n : Nat) (f : Nat → Nat → Int) (h : ∀ j, 0 < j → j < n + 1 → f 0 j = 0) : dt (n + 1) f = f 0 0 * dt n fun i j => f (i + 1) (j + 1) := by
  rw [dt_succ, sg_one (Nat.succ_pos n) fun i hi hne => by rw [h i (by omega) hi]; grind]
  have e : del 0 f = fun i j => f (i + 1) (j + 1) := funext fun a => funext fun b => by show f (a + 1) (sk 0 b) = _; rw [sk_zero]
  rw [e]
  show (if 0 % 2 = 0 then (1 : Int) else -1) * f 0 0 * _ = _
  rw [if_pos rfl, Int.one_mul]
theorem dt_firstc (n : Nat) (f : Nat → Nat → Int) (h : ∀ i, 0 < i → i < n + 1 → f i 0 = 0) : dt (n + 1) f = f 0 0 * dt n fun i j => f (i + 1) (j + 1) := by
  rw [← dt_flip (n + 1) f, dt_first n (flip f) h, ← dt_flip n fun i j => f (i + 1) (j + 1)]
  rfl
/-- What is left when the first column is taken away, without division. -/
def schur (f : Nat → Nat → Int) : Nat → Nat → Int := fun i j => f 0 0 * f (i + 1) (j + 1) - f (i + 1) 0 * f 0 (j + 1)
def lowm (f : Nat → Nat → Int) : Nat → Nat → Int := fun i j => if i = 0 then (if j = 0 then 1 else 0) else if j = 0 then -(f i 0) else if i = j then f 0 0 else 0
theorem lowm_mul (n : Nat) (f : Nat → Nat → Int) {i : Nat} (hi : i < n) (j : Nat) : mul (n + 1) (lowm f) f (i + 1) j = f 0 0 * f (i + 1) j - f (i + 1) 0 * f 0 j := by
  show (sg (n + 1) fun x => (if i + 1 = 0 then (if x = 0 then (1 : Int) else 0) else if x = 0 then -(f (i + 1) 0) else if i + 1 = x then f 0 0 else 0) * f x j) = _
  rw [sg_two (k := 0) (l := i + 1) (by omega) (by omega) (by omega) fun x hx h1 h2 => by
    rw [if_neg (by omega), if_neg h1, if_neg (fun e => h2 e.symm)]; grind]
  rw [if_neg (by omega), if_pos rfl, if_neg (by omega), if_pos rfl]
  grind
theorem lowm_top (n : Nat) (f : Nat → Nat → Int) (j : Nat) : mul (n + 1) (lowm f) f 0 j = f 0 j := by
  show (sg (n + 1) fun x => (if 0 = 0 then (if x = 0 then (1 : Int) else 0) else if x = 0 then -(f 0 0) else if 0 = x then f 0 0 else 0) * f x j) = _
  rw [sg_one (k := 0) (by omega) fun x hx h1 => by rw [if_pos rfl, if_neg h1]; grind]
  rw [if_pos rfl, if_pos rfl]; grind
theorem elim (n : Nat) (f : Nat → Nat → Int) : f 0 0 ^ n * dt (n + 1) f = f 0 0 * dt n (schur f) := by
  have h1 : dt (n + 1) (lowm f) = f 0 0 ^ n := by
    rw [dt_first n (lowm f) fun j h _ => by show (if 0 = 0 then (if j = 0 then (1 : Int) else 0) else _) = 0; rw [if_pos rfl, if_neg (by omega)]]
    have e : (fun i j => lowm f (i + 1) (j + 1)) = scal (f 0 0) := funext fun i => funext fun j => by
      show (if i + 1 = 0 then (if j + 1 = 0 then (1 : Int) else 0) else if j + 1 = 0 then -(f (i + 1) 0) else if i + 1 = j + 1 then f 0 0 else 0) = if i = j then f 0 0 else 0
      rw [if_neg (by omega), if_neg (by omega)]
      by_cases h : i = j
      · rw [if_pos h, if_pos (by omega)]
      · rw [if_neg h, if_neg (by omega)]
    rw [e, dt_scal]
    show (if 0 = 0 then (if 0 = 0 then (1 : Int) else 0) else _) * _ = _
    rw [if_pos rfl, if_pos rfl, Int.one_mul]
  rw [← h1, ← dt_mul, dt_firstc n (mul (n + 1) (lowm f) f) fun i h hi => by
    obtain ⟨k, rfl⟩ : ∃ k, i = k + 1 := ⟨i - 1, by omega⟩
    rw [lowm_mul n f (by omega)]; grind]
  rw [lowm_top]
  congr 1
  exact dt_congr n fun i j hi hj => by rw [lowm_mul n f hi]; rfl

/-- In each row the number in the middle is more than all others together. -/
def Heavy (n : Nat) (f : Nat → Nat → Int) : Prop := ∀ i, i < n → (sg n fun j => ab (f i j)) < 2 * ab (f i i)
theorem Heavy.next {n : Nat} {f : Nat → Nat → Int} (h : Heavy (n + 1) f) : f 0 0 ≠ 0 ∧ Heavy n (schur f) := by
  have h0 := h 0 (by omega)
  rw [sg_shift] at h0
  have hR : 0 ≤ sg n fun j => ab (f 0 (j + 1)) := sg_nonneg fun j _ => ab_pos _
  have ha := ab_pos (f 0 0)
  refine ⟨fun e => ?_, fun i hi => ?_⟩
  · rw [e] at h0
    have : ab 0 = 0 := rfl
    omega
  · have h1 := h (i + 1) (by omega)
    rw [sg_shift] at h1
    have hc := ab_pos (f (i + 1) 0)
    have hB := ab_sub' (f 0 0 * f (i + 1) (i + 1)) (f (i + 1) 0 * f 0 (i + 1))
    rw [ab_mul, ab_mul] at hB
    have hS : (sg n fun j => ab (schur f i j)) ≤ sg n fun j => (ab (f 0 0) * ab (f (i + 1) (j + 1)) + ab (f (i + 1) 0) * ab (f 0 (j + 1))) + if j = i then ab (schur f i i) - (ab (f 0 0) * ab (f (i + 1) (i + 1)) + ab (f (i + 1) 0) * ab (f 0 (i + 1))) else 0 := sg_le fun j hj => by
      by_cases e : j = i
      · rw [if_pos e, e]; omega
      · rw [if_neg e]
        have := ab_sub (f 0 0 * f (i + 1) (j + 1)) (f (i + 1) 0 * f 0 (j + 1))
        rw [ab_mul, ab_mul] at this
        show ab (f 0 0 * f (i + 1) (j + 1) - f (i + 1) 0 * f 0 (j + 1)) ≤ _
        omega
    rw [sg_extra hi, sg_add, sg_times, sg_times] at hS
    have hB' : ab (f 0 0) * ab (f (i + 1) (i + 1)) - ab (f (i + 1) 0) * ab (f 0 (i + 1)) ≤ ab (schur f i i) := hB
    generalize ab (schur f i i) = y at *
    generalize (sg n fun j => ab (schur f i j)) = z at *
    generalize (sg n fun j => ab (f (i + 1) (j + 1))) = S at *
    generalize (sg n fun j => ab (f 0 (j + 1))) = R at *
    generalize ab (f (i + 1) (i + 1)) = d at *
    generalize ab (f 0 (i + 1)) = r at *
    generalize ab (f (i + 1) 0) = c at *
    generalize ab (f 0 0) = α at *
    have e1 : α * (S + c + 1) ≤ α * (2 * d) := Int.mul_le_mul_of_nonneg_left (by omega) ha
    have e2 : c * R ≤ c * α := Int.mul_le_mul_of_nonneg_left (by omega) hc
    have e3 : α * (S + c + 1) = α * S + c * α + α := by grind
    have e4 : α * (2 * d) = 2 * (α * d) := by grind
    rw [e3, e4] at e1
    omega
/-- Levy, Desplanques. -/
theorem heavy : ∀ (n : Nat) (f : Nat → Nat → Int), Heavy n f → dt n f ≠ 0
  | 0, _, _ => by show (1 : Int) ≠ 0; omega
  | n + 1, f, h => by
    obtain ⟨h1, h2⟩ := h.next
    intro e
    have := elim n f
    rw [e, Int.mul_zero] at this
    rcases Int.mul_eq_zero.1 this.symm with h3 | h3
    · exact h1 h3
    · exact heavy n _ h2 h3

/-- Sums of squares and products of rows. -/
def gm (m : Nat) (v : Nat → Nat → Int) : Nat → Nat → Int := fun i j => sg m fun x => v i x * v j x
theorem sq_pos (x : Int) : 0 ≤ x * x := by
  rcases Int.le_total 0 x with h | h
  · exact Int.mul_nonneg h h
  · have := Int.mul_nonneg (show 0 ≤ -x by omega) (show 0 ≤ -x by omega)
    rwa [Int.neg_mul_neg] at this
theorem gm_pos (m : Nat) (v : Nat → Nat → Int) (i : Nat) : 0 ≤ gm m v i i := sg_nonneg fun x _ => sq_pos _
theorem gm_comm (m : Nat) (v : Nat → Nat → Int) (i j : Nat) : gm m v i j = gm m v j i := sg_congr fun x _ => Int.mul_comm _ _
theorem sq_none {n : Nat} {f : Nat → Int} (h : (sg n fun x => f x * f x) = 0) : ∀ x, x < n → f x = 0 := by
  induction n with
  | zero => exact fun x hx => absurd hx (by omega)
  | succ n ih =>
    rw [sg_succ] at h
    have h1 : 0 ≤ sg n fun x => f x * f x := sg_nonneg fun x _ => sq_pos _
    have h2 := sq_pos (f n)
    intro x hx
    by_cases e : x = n
    · subst e
      rcases Int.mul_eq_zero.1 (show f x * f x = 0 by omega) with h | h <;> exact h
    · exact ih (by omega) x (by omega)
theorem pr_shift (n : Nat) (g : Nat → Int) : pr (n + 1) g = g 0 * pr n fun i => g (i + 1) := by
  induction n with
  | zero => show _ = _; simp only [pr]; grind
  | succ n ih => rw [pr, ih, pr]; grind
theorem pr_times (n : Nat) (a : Int) (g : Nat → Int) : (pr n fun i => a * g i) = a ^ n * pr n g := by
  induction n with
  | zero => simp only [pr, Int.pow_zero]; grind
  | succ n ih => rw [pr, ih, pr, Int.pow_succ]; grind
theorem pr_pos {n : Nat} {g : Nat → Int} (h : ∀ i, i < n → 0 ≤ g i) : 0 ≤ pr n g := by
  induction n with
  | zero => show (0 : Int) ≤ 1; omega
  | succ n ih => rw [pr]; exact Int.mul_nonneg (by first | exact ih (fun i hi => h i (by omega)) | exact h n (by omega)) (by first | exact h n (by omega) | exact ih (fun i hi => h i (by omega)))
theorem pr_le {n : Nat} {g k : Nat → Int} (h0 : ∀ i, i < n → 0 ≤ g i) (h : ∀ i, i < n → g i ≤ k i) : pr n g ≤ pr n k := by
  induction n with
  | zero => exact Int.le_refl _
  | succ n ih =>
    have h1 := ih (fun i hi => h0 i (by omega)) (fun i hi => h i (by omega))
    have h2 := pr_pos (n := n) fun i hi => h0 i (by omega)
    have h3 := h0 n (by omega)
    have h4 := h n (by omega)
    rw [pr, pr]
    first
      | exact Int.mul_le_mul h1 h4 h3 (by omega)
      | exact Int.mul_le_mul h4 h1 h2 (by omega)
theorem dt_times_all (n : Nat) (a : Int) (f : Nat → Nat → Int) : (dt n fun i j => a * f i j) = a ^ n * dt n f := by
  rw [← dt_scal, ← dt_mul]
  exact dt_congr n fun i j hi _ => by
    show a * f i j = sg n fun x => (if i = x then a else 0) * f x j
    rw [sg_one hi fun x _ h => by rw [if_neg fun e => h e.symm]; grind, if_pos rfl]
/-- The rows without what they have of the first one, without division. -/
def away (m : Nat) (v : Nat → Nat → Int) : Nat → Nat → Int := fun i x => gm m v 0 0 * v (i + 1) x - gm m v (i + 1) 0 * v 0 x
theorem away_gm (m : Nat) (v : Nat → Nat → Int) (i j : Nat) : gm m (away m v) i j = gm m v 0 0 * schur (gm m v) i j := by
  have e : gm m (away m v) i j = gm m v 0 0 * gm m v 0 0 * gm m v (i + 1) (j + 1) + -(gm m v 0 0 * gm m v (j + 1) 0) * gm m v (i + 1) 0 + (-(gm m v 0 0 * gm m v (i + 1) 0) * gm m v 0 (j + 1) + gm m v (i + 1) 0 * gm m v (j + 1) 0 * gm m v 0 0) := by
    conv => rhs; unfold gm
    rw [← sg_times m (_ * _), ← sg_times m (-(_)), ← sg_times m (-(_)), ← sg_times m (_ * _), ← sg_add, ← sg_add, ← sg_add]
    exact sg_congr fun x _ => by unfold away gm; grind
  rw [e]
  unfold schur
  rw [gm_comm m v 0 (j + 1)]
  grind
theorem hadamard_gm : ∀ (n m : Nat) (v : Nat → Nat → Int), dt n (gm m v) ≤ pr n fun i => gm m v i i
  | 0, _, _ => Int.le_refl _
  | n + 1, m, v => by
    have ha := gm_pos m v 0
    rcases Int.lt_or_eq_of_le ha with ha | ha
    · have ih := hadamard_gm n m (away m v)
      rw [show gm m (away m v) = fun i j => gm m v 0 0 * schur (gm m v) i j from funext fun i => funext fun j => away_gm m v i j, dt_times_all, pr_times] at ih
      have hp : 0 < gm m v 0 0 ^ n := Int.pow_pos ha
      have h1 : dt n (schur (gm m v)) ≤ pr n fun i => schur (gm m v) i i := Int.le_of_mul_le_mul_left ih hp
      have hB0 : ∀ i, i < n → 0 ≤ schur (gm m v) i i := fun i _ => by
        have h2 := gm_pos m (away m v) i
        rw [away_gm] at h2
        rcases (show schur (gm m v) i i < 0 ∨ 0 ≤ schur (gm m v) i i by omega) with h3 | h3
        · have := Int.mul_neg_of_pos_of_neg ha h3
          omega
        · exact h3
      have hB1 : ∀ i, i < n → schur (gm m v) i i ≤ gm m v 0 0 * gm m v (i + 1) (i + 1) := fun i _ => by
        have h2 := sq_pos (gm m v (i + 1) 0)
        unfold schur
        rw [gm_comm m v 0 (i + 1)]
        omega
      have h2 := pr_le hB0 hB1
      rw [pr_times] at h2
      have h3 := elim n (gm m v)
      have h4 : gm m v 0 0 * dt n (schur (gm m v)) ≤ gm m v 0 0 * (gm m v 0 0 ^ n * pr n fun i => gm m v (i + 1) (i + 1)) := Int.mul_le_mul_of_nonneg_left (Int.le_trans h1 h2) (by omega)
      rw [← h3, show gm m v 0 0 * (gm m v 0 0 ^ n * pr n fun i => gm m v (i + 1) (i + 1)) = gm m v 0 0 ^ n * (gm m v 0 0 * pr n fun i => gm m v (i + 1) (i + 1)) by grind] at h4
      rw [pr_shift]
      exact Int.le_of_mul_le_mul_left h4 hp
    · have hz : ∀ x, x < m → v 0 x = 0 := sq_none (n := m) (f := v 0) ha.symm
      rw [dt_zrow (k := 0) (by omega) fun j _ => show gm m v 0 j = 0 from by
        unfold gm
        rw [sg_congr (g := fun _ => 0) fun x hx => by rw [hz x hx]; grind, sg_none]]
      exact pr_pos fun i _ => gm_pos m v i
/-- Hadamard. -/
theorem hadamard (n : Nat) (f : Nat → Nat → Int) : dt n f * dt n f ≤ pr n fun i => sg n fun j => f i j * f i j := by
  have h := hadamard_gm n n f
  have e : dt n (gm n f) = dt n f * dt n f := by
    have := dt_mul n f (flip f)
    rw [dt_flip] at this
    exact this
  rw [e] at h
  exact h

end Go.Proofs.YtkebjmapdcbnaaaDoor.Zx

/- Elimination of whole numbers row by row, each row with a column of its own: what stands after each step is a determinant (Sylvester), and how the determinants of the first rows and columns come of it. No program is named here. -/
namespace Go.Proofs.YtkebjmapdcbnaaaDoor.Zx
open Mx (sk sk_lt sk_zero)
set_option linter.unusedVariables false

/-- The first t rows and row k; the columns taken and column j. -/
def bk (t k : Nat) : Nat → Nat := fun a => if a < t then a else k
def bj (t : Nat) (p : Nat → Nat) (j : Nat) : Nat → Nat := fun b => if b < t then p b else j
/-- What stands at (k, j) after t steps. -/
def bd (f : Nat → Nat → Int) (p : Nat → Nat) (t k j : Nat) : Int := dt (t + 1) fun a b => f (bk t k a) (bj t p j b)
/-- The number that step t took, 1 before the first. -/
def lp (f : Nat → Nat → Int) (p : Nat → Nat) : Nat → Int
  | 0 => 1
  | t + 1 => bd f p t t (p t)
theorem dt_single (f : Nat → Nat → Int) : dt 1 f = f 0 0 := by
  rw [dt_succ, sg_succ, sg_zero]
  show 0 + sgn 0 * f 0 0 * 1 = f 0 0
  rw [show sgn 0 = 1 from rfl]; grind
theorem dt_pair (f : Nat → Nat → Int) : dt 2 f = f 0 0 * f 1 1 - f 0 1 * f 1 0 := by
  rw [dt_succ, sg_succ, sg_succ, sg_zero]
  simp only [dt_single]
  show 0 + sgn 0 * f 0 0 * f 1 1 + sgn 1 * f 0 1 * f 1 0 = _
  rw [show sgn 0 = 1 from rfl, show sgn 1 = -1 from rfl]; grind
theorem bd_zero (f : Nat → Nat → Int) (p : Nat → Nat) (k j : Nat) : bd f p 0 k j = f k j := by unfold bd; rw [dt_single]; rfl

def Sylv (f : Nat → Nat → Int) (p : Nat → Nat) (t : Nat) : Prop :=
  ∀ (s : Nat) (K J : Nat → Nat), (∀ a, a < t → K a = a) → (∀ b, b < t → J b = p b) →
    lp f p t ^ s * dt (t + (s + 1)) (fun a b => f (K a) (J b)) = dt (s + 1) fun a b => bd f p t (K (t + a)) (J (t + b))
theorem Sylv.rec' {f : Nat → Nat → Int} {p : Nat → Nat} {t : Nat} (h : Sylv f p t) (k j : Nat) :
    lp f p t * bd f p (t + 1) k j = bd f p t t (p t) * bd f p t k j - bd f p t t j * bd f p t k (p t) := by
  have e := h 1 (bk (t + 1) k) (bj (t + 1) p j) (fun a ha => by unfold bk; rw [if_pos (by omega)]) (fun b hb => by unfold bj; rw [if_pos (by omega)])
  rw [Int.pow_succ, Int.pow_zero, Int.one_mul] at e
  have e2 : dt (t + (1 + 1)) (fun a b => f (bk (t + 1) k a) (bj (t + 1) p j b)) = bd f p (t + 1) k j := rfl
  rw [e2] at e
  rw [e]
  show dt 2 _ = _
  rw [dt_pair]
  have k0 : bk (t + 1) k (t + 0) = t := by unfold bk; rw [if_pos (by omega)]; rfl
  have k1 : bk (t + 1) k (t + 1) = k := by unfold bk; rw [if_neg (by omega)]
  have j0 : bj (t + 1) p j (t + 0) = p t := by unfold bj; rw [if_pos (by omega)]; rfl
  have j1 : bj (t + 1) p j (t + 1) = j := by unfold bj; rw [if_neg (by omega)]
  rw [k0, k1, j0, j1]
theorem sylv (f : Nat → Nat → Int) (p : Nat → Nat) : ∀ t, (∀ i, i < t → lp f p (i + 1) ≠ 0) → Sylv f p t
  | 0, _ => fun s K J _ _ => by
    show (1 : Int) ^ s * _ = _
    rw [Int.one_pow, Int.one_mul, show 0 + (s + 1) = s + 1 by omega]
    exact dt_congr _ fun a b _ _ => by rw [bd_zero, show 0 + a = a by omega, show 0 + b = b by omega]
  | t + 1, hz => fun s K J hK hJ => by
    have S := sylv f p t fun i hi => hz i (by omega)
    have IH := S (s + 1) K J (fun a ha => hK a (by omega)) (fun b hb => hJ b (by omega))
    have q0 := hz t (by omega)
    have l0 : lp f p t ≠ 0 := by
      rcases t with _ | t
      · show (1 : Int) ≠ 0; decide
      · exact hz t (by omega)
    obtain ⟨G, hG⟩ : ∃ G, G = fun a b => bd f p t (K (t + a)) (J (t + b)) := ⟨_, rfl⟩
    have g00 : G 0 0 = lp f p (t + 1) := by
      rw [hG]
      show bd f p t (K t) (J t) = bd f p t t (p t)
      rw [hK t (by omega), hJ t (by omega)]
    have el := elim (s + 1) G
    have sc : dt (s + 1) (schur G) = lp f p t ^ (s + 1) * dt (s + 1) fun a b => bd f p (t + 1) (K (t + 1 + a)) (J (t + 1 + b)) := by
      rw [← dt_times_all]
      refine dt_congr _ fun a b _ _ => ?_
      rw [S.rec']
      unfold schur
      rw [g00, hG]
      show lp f p (t + 1) * bd f p t (K (t + (a + 1))) (J (t + (b + 1))) - bd f p t (K (t + (a + 1))) (J t) * bd f p t (K t) (J (t + (b + 1))) = _
      rw [hK t (by omega), hJ t (by omega), show t + (a + 1) = t + 1 + a by omega, show t + (b + 1) = t + 1 + b by omega]
      show bd f p t t (p t) * _ - _ = _
      grind
    rw [← hG] at IH
    rw [sc, ← IH, g00] at el
    have hp : lp f p t ^ (s + 1) ≠ 0 := Int.pow_ne_zero l0
    rw [show t + (s + 1 + 1) = t + 1 + (s + 1) by omega, Int.pow_succ (lp f p (t + 1)) s] at el
    have el2 : (lp f p (t + 1) * lp f p t ^ (s + 1)) * (lp f p (t + 1) ^ s * dt (t + 1 + (s + 1)) fun a b => f (K a) (J b)) = (lp f p (t + 1) * lp f p t ^ (s + 1)) * dt (s + 1) fun a b => bd f p (t + 1) (K (t + 1 + a)) (J (t + 1 + b)) := by grind
    exact Int.eq_of_mul_eq_mul_left (Int.mul_ne_zero q0 hp) el2

/-- A step: what it divides by goes in. -/
theorem step_bd {f : Nat → Nat → Int} {p : Nat → Nat} {t : Nat} (hz : ∀ i, i < t → lp f p (i + 1) ≠ 0) (k j : Nat) :
    (bd f p t k j * lp f p (t + 1) - bd f p t k (p t) * bd f p t t j).tdiv (lp f p t) = bd f p (t + 1) k j := by
  have l0 : lp f p t ≠ 0 := by
    rcases t with _ | t
    · show (1 : Int) ≠ 0; decide
    · exact hz t (by omega)
  have := (sylv f p t hz).rec' k j
  rw [show bd f p t k j * lp f p (t + 1) - bd f p t k (p t) * bd f p t t j = lp f p t * bd f p (t + 1) k j by
    rw [this]; show bd f p t k j * bd f p t t (p t) - _ = _; grind]
  exact Int.mul_tdiv_cancel_left _ l0

theorem lp_dt (f : Nat → Nat → Int) (p : Nat → Nat) (t : Nat) : lp f p t = dt t fun a b => f a (p b) := by
  rcases t with _ | t
  · rfl
  · show dt (t + 1) (fun a b => f (bk t t a) (bj t p (p t) b)) = _
    refine dt_congr _ fun a b ha hb => ?_
    have e1 : bk t t a = a := by unfold bk; split <;> omega
    have e2 : bj t p (p t) b = p b := by
      unfold bj
      by_cases h : b < t
      · rw [if_pos h]
      · rw [if_neg h, show b = t by omega]
    rw [e1, e2]

/-- A row of which nothing is left in the first q columns: the first q rows and columns have no determinant. -/
theorem bd_null {f : Nat → Nat → Int} {p : Nat → Nat} {t q : Nat} (ht : t < q) (h0 : lp f p t ≠ 0) (h : ∀ j, j < q → bd f p t t j = 0) : dt q f = 0 := by
  obtain ⟨c, hc⟩ : ∃ c : Nat → Int, c = fun a => if a < t + 1 then sgn (t + a) * dt t (fun i b => f (sk a b) (p i)) else 0 := ⟨_, rfl⟩
  rw [← dt_flip]
  refine dt_null (y := c) (c := t) ht ?_ fun j hj => ?_
  · rw [hc]
    show (if t < t + 1 then sgn (t + t) * dt t (fun i b => f (sk t b) (p i)) else 0) ≠ 0
    rw [if_pos (by omega), show sgn (t + t) = 1 by unfold sgn; rw [if_pos (by omega)], Int.one_mul]
    rw [lp_dt, ← dt_flip] at h0
    rw [dt_congr t (g := flip fun a b => f a (p b)) fun i b hi hb => by show f (sk t b) (p i) = f b (p i); rw [show sk t b = b by unfold sk; rw [if_pos hb]]]
    exact h0
  · have e := h j hj
    unfold bd at e
    rw [← dt_flip, ← laplace t t _ (Nat.le_refl _)] at e
    rw [← e, sg_less (n := t + 1) (by omega) fun i h1 h2 => by rw [hc]; show flip f j i * (if i < t + 1 then _ else 0) = 0; rw [if_neg (by omega), Int.mul_zero]]
    refine sg_congr fun a ha => ?_
    rw [hc]
    show f a j * (if a < t + 1 then sgn (t + a) * dt t (fun i b => f (sk a b) (p i)) else 0) = sgn (t + a) * f (bk t t a) (bj t p j t) * dt t _
    rw [if_pos ha, show bk t t a = a by unfold bk; split <;> omega, show bj t p j t = j by unfold bj; rw [if_neg (by omega)]]
    rw [dt_congr t (f := wo _ t a) (g := fun i b => f (sk a b) (p i)) fun i b hi hb => by
      show f (bk t t (sk a b)) (bj t p j (sk t i)) = f (sk a b) (p i)
      have e3 : sk a b ≤ b + 1 := by unfold sk; split <;> omega
      rw [show sk t i = i by unfold sk; rw [if_pos hi], show bj t p j i = p i by unfold bj; rw [if_pos hi], show bk t t (sk a b) = sk a b by unfold bk; split <;> omega]]
    grind

theorem sp_sq {n : Nat} (s : Nat → Int) : sp n s = 0 ∨ sp n s * sp n s = 1 := by
  by_cases ho : ∃ k, k < n ∧ (s k < 0 ∨ (n : Int) ≤ s k)
  · obtain ⟨k, hk, h⟩ := ho
    exact .inl (sp_out hk h)
  · by_cases ht : ∃ a b, a < n ∧ b < n ∧ a ≠ b ∧ s a = s b
    · obtain ⟨a, b, ha, hb, hne, e⟩ := ht
      exact .inl (sp_twice ha hb hne e)
    · right
      have : sp n s * sp n s = dt n (mul n (fun i j => if s i = (j : Int) then 1 else 0) (flip fun i j => if s i = (j : Int) then 1 else 0)) := by
        rw [dt_mul, dt_flip]; rfl
      rw [this]
      refine Eq.trans ?_ (dt_one n)
      refine dt_congr n fun i k hi hk => ?_
      show (sg n fun x => (if s i = (x : Int) then (1 : Int) else 0) * (if s k = (x : Int) then 1 else 0)) = if i = k then 1 else 0
      have hb : 0 ≤ s i ∧ s i < n := by
        have : ¬ (s i < 0 ∨ (n : Int) ≤ s i) := fun h => ho ⟨i, hi, h⟩
        omega
      rw [sg_one (k := (s i).toNat) (by omega) fun x hx hne => by rw [if_neg (by omega), Int.zero_mul], if_pos (by omega), Int.one_mul]
      by_cases e : i = k
      · rw [if_pos e, if_pos (by rw [← e]; omega)]
      · rw [if_neg e, if_neg fun e2 => ht ⟨i, k, hi, hk, e, by omega⟩]
theorem sp_some {n : Nat} (s : Nat → Int) : sp n s = 1 ∨ sp n s = -1 ∨ sp n s = 0 := by
  rcases sp_sq (n := n) s with h | h
  · exact .inr (.inr h)
  · have : (sp n s - 1) * (sp n s + 1) = 0 := by grind
    rcases Int.mul_eq_zero.1 this with h | h
    · left; omega
    · right; left; omega

/-- The first q rows and columns, of the number that the last step took. -/
theorem lead_lp {f : Nat → Nat → Int} {p : Nat → Nat} {q : Nat} (hz : ∀ i, i < q → lp f p (i + 1) ≠ 0) (hf : ∀ i, i < q → ∀ j, j < p i → bd f p i i j = 0) :
    sp q (fun i => (p i : Int)) * lp f p q = dt q f := by
  by_cases ho : ∃ i, i < q ∧ q ≤ p i
  · obtain ⟨i, hi, h⟩ := ho
    rw [sp_out hi (.inr (by omega)), Int.zero_mul]
    refine (bd_null hi ?_ fun j hj => hf i hi j (by omega)).symm
    rcases i with _ | i
    · show (1 : Int) ≠ 0; decide
    · exact hz i (by omega)
  · have hp : ∀ i, i < q → p i < q := fun i hi => by
      rcases Nat.lt_or_ge (p i) q with h | h
      · exact h
      · exact absurd ⟨i, hi, h⟩ ho
    have e : lp f p q = dt q f * sp q (fun i => (p i : Int)) := by
      rw [lp_dt]
      have : sp q (fun i => (p i : Int)) = dt q (flip fun i j => if (p i : Int) = (j : Int) then 1 else 0) := by rw [dt_flip]; rfl
      rw [this, ← dt_mul]
      refine dt_congr q fun a b ha hb => ?_
      show f a (p b) = sg q fun x => f a x * (if (p b : Int) = (x : Int) then 1 else 0)
      rw [sg_one (k := p b) (hp b hb) fun x hx hne => by rw [if_neg (by omega), Int.mul_zero], if_pos rfl, Int.mul_one]
    have h0 : lp f p q ≠ 0 := by
      rcases q with _ | q
      · show (1 : Int) ≠ 0; decide
      · exact hz q (by omega)
    rcases sp_sq (n := q) (fun i => (p i : Int)) with h | h
    · rw [h, Int.mul_zero] at e; exact absurd e h0
    · rw [e]; grind

theorem bd_ab {f : Nat → Nat → Int} {p : Nat → Nat} {t k : Nat} {M : Int} {r c : Nat} (hM : 0 ≤ M) (h : ∀ i j, i < r → j < c → ab (f i j) ≤ M) (ht : t ≤ k) (hk : k < r) (hp : ∀ i, i < t → p i < c) {j : Nat} (hj : j < c) : ab (bd f p t k j) ≤ fb M (t + 1) := by
  refine dt_ab hM _ _ fun a b ha hb => h _ _ ?_ ?_
  · unfold bk; split <;> omega
  · unfold bj
    by_cases e : b < t
    · rw [if_pos e]; exact hp b e
    · rw [if_neg e]; exact hj
theorem fb_nine {n : Nat} (h : n ≤ 5) : fb 9 n ≤ 7085880 := by
  have : n = 0 ∨ n = 1 ∨ n = 2 ∨ n = 3 ∨ n = 4 ∨ n = 5 := by omega
  rcases this with e | e | e | e | e | e <;> rw [e] <;> decide +kernel
/-- Only the pivots so far count. -/
theorem bd_congr {f : Nat → Nat → Int} {p p' : Nat → Nat} {t : Nat} (h : ∀ i, i < t → p i = p' i) (k j : Nat) : bd f p t k j = bd f p' t k j := by
  unfold bd
  refine dt_congr _ fun a b ha hb => ?_
  have : bj t p j b = bj t p' j b := by
    unfold bj
    by_cases e : b < t
    · rw [if_pos e, if_pos e, h b e]
    · rw [if_neg e, if_neg e]
  rw [this]
theorem lp_congr {f : Nat → Nat → Int} {p p' : Nat → Nat} {t : Nat} (h : ∀ i, i < t → p i = p' i) : lp f p t = lp f p' t := by
  rcases t with _ | t
  · rfl
  · show bd f p t t (p t) = bd f p' t t (p' t)
    rw [bd_congr (fun i hi => h i (by omega)), h t (by omega)]

def upd (p : Nat → Nat) (k q : Nat) : Nat → Nat := fun i => if i = k then q else p i
theorem upd_lt {p : Nat → Nat} {k q i : Nat} (h : i < k) : upd p k q i = p i := by unfold upd; rw [if_neg (by omega)]
theorem upd_self (p : Nat → Nat) (k q : Nat) : upd p k q k = q := by unfold upd; rw [if_pos rfl]
theorem bd_upd {f : Nat → Nat → Int} {p : Nat → Nat} {k q t : Nat} (h : t ≤ k) (r j : Nat) : bd f (upd p k q) t r j = bd f p t r j := bd_congr (fun i hi => upd_lt (by omega)) r j
theorem lp_upd {f : Nat → Nat → Int} {p : Nat → Nat} {k q t : Nat} (h : t ≤ k) : lp f (upd p k q) t = lp f p t := lp_congr fun i hi => upd_lt (by omega)
theorem lp_next (f : Nat → Nat → Int) (p : Nat → Nat) (k q : Nat) : lp f (upd p k q) (k + 1) = bd f p k k q := by
  show bd f (upd p k q) k k (upd p k q k) = _
  rw [bd_upd (Nat.le_refl k), upd_self]
/-- The first k steps: the column that each took, the first that has not 0. -/
structure El (n : Nat) (x : Nat → Nat → Int) (p : Nat → Nat) (k : Nat) : Prop where
  lt : ∀ i, i < k → p i < n
  nz : ∀ i, i < k → lp x p (i + 1) ≠ 0
  first : ∀ i, i < k → ∀ j, j < p i → bd x p i i j = 0
theorem El.start (n : Nat) (x : Nat → Nat → Int) (p : Nat → Nat) : El n x p 0 := ⟨fun i hi => absurd hi (by omega), fun i hi => absurd hi (by omega), fun i hi => absurd hi (by omega)⟩
theorem El.next {n : Nat} {x : Nat → Nat → Int} {p : Nat → Nat} {k q : Nat} (h : El n x p k) (hq : q < n) (h1 : bd x p k k q ≠ 0) (h2 : ∀ j, j < q → bd x p k k j = 0) : El n x (upd p k q) (k + 1) := by
  refine ⟨fun i hi => ?_, fun i hi => ?_, fun i hi j hj => ?_⟩
  · by_cases e : i = k
    · rw [e, upd_self]; exact hq
    · rw [upd_lt (by omega)]; exact h.lt i (by omega)
  · by_cases e : i = k
    · rw [e, lp_next]; exact h1
    · rw [lp_upd (by omega)]; exact h.nz i (by omega)
  · by_cases e : i = k
    · rw [e, bd_upd (Nat.le_refl k)]
      rw [e, upd_self] at hj
      exact h2 j hj
    · rw [bd_upd (by omega)]
      rw [upd_lt (by omega)] at hj
      exact h.first i (by omega) j hj
theorem El.ne {n : Nat} {x : Nat → Nat → Int} {p : Nat → Nat} {k : Nat} (h : El n x p k) {t : Nat} (ht : t ≤ k) : lp x p t ≠ 0 := by
  rcases t with _ | t
  · show (1 : Int) ≠ 0; decide
  · exact h.nz t (by omega)
theorem El.lead {n : Nat} {x : Nat → Nat → Int} {p : Nat → Nat} {k : Nat} (h : El n x p k) : sp k (fun i => (p i : Int)) * lp x p k = dt k x := lead_lp h.nz h.first
theorem El.null {n : Nat} {x : Nat → Nat → Int} {p : Nat → Nat} {k : Nat} (h : El n x p k) (hz : ∀ j, j < n → bd x p k k j = 0) {q : Nat} (hk : k < q) (hq : q ≤ n) : dt q x = 0 :=
  bd_null hk (h.ne (Nat.le_refl k)) fun j hj => hz j (by omega)
theorem El.step {n : Nat} {x : Nat → Nat → Int} {p : Nat → Nat} {k : Nat} (h : El n x p k) {t : Nat} (ht : t < k) (r j : Nat) :
    (bd x p t r j * bd x p t t (p t) - bd x p t r (p t) * bd x p t t j).tdiv (lp x p t) = bd x p (t + 1) r j := step_bd (fun i hi => h.nz i (by omega)) r j
theorem El.bound {n : Nat} {x : Nat → Nat → Int} {p : Nat → Nat} {k : Nat} (h : El n x p k) (h5 : n ≤ 5) (hx : ∀ i j, i < n → j < n → ab (x i j) ≤ 9) {t r : Nat} (ht : t ≤ k) (hr : t ≤ r) (hr2 : r < n) {j : Nat} (hj : j < n) : -7085880 ≤ bd x p t r j ∧ bd x p t r j ≤ 7085880 := by
  have h1 := bd_ab (f := x) (p := p) (t := t) (k := r) (M := 9) (by omega) hx hr hr2 (fun i hi => h.lt i (by omega)) hj
  have h2 := fb_nine (n := t + 1) (by omega)
  unfold ab at h1
  omega
theorem dt_bound {n : Nat} {x : Nat → Nat → Int} (h5 : n ≤ 5) (hx : ∀ i j, i < n → j < n → ab (x i j) ≤ 9) {q : Nat} (hq : q ≤ n) : -7085880 ≤ dt q x ∧ dt q x ≤ 7085880 := by
  have h1 := dt_ab (M := 9) (by omega) q x fun i j hi hj => hx i j (by omega) (by omega)
  have h2 := fb_nine (n := q) (by omega)
  unfold ab at h1
  omega

end Go.Proofs.YtkebjmapdcbnaaaDoor.Zx

/- Contracts of package bareiss, first part: checkRow, Check; good matrices of whole numbers. -/
namespace Go.Proofs.YtkebjmapdcbnaaaDoor
open Go.ChangeShapes Go.WideShapes Go.ChangeAt Go.RowKit
set_option linter.unusedVariables false

theorem qcode_is {most c : Nat} {lo hi : Int} {m : List (List Int)} (h : Mx.mcode most lo hi m = c) (hc : c ≠ 0) : qcode most lo hi m = c := by
  rw [qcode_bad (by omega), h]

/-- A square matrix of small whole numbers. -/
structure Shz (n : Nat) (x : Nat → Nat → Int) (m : List (List Int)) : Prop where
  eq : m = Mx.tab n n x
  n0 : 0 < n
  n5 : n ≤ 5
  ab : ∀ i j, i < n → j < n → -9 ≤ x i j ∧ x i j ≤ 9
theorem Shz.len {n : Nat} {x : Nat → Nat → Int} {m : List (List Int)} (h : Shz n x m) : m.length = n := by rw [h.eq, Mx.len_tab]
theorem shz_or (m : List (List Int)) {n : Nat} (hn : m.length = n) : (∃ x, Shz n x m) ∨ qcode 5 (-9) 9 m ≠ 0 := by
  by_cases h : qcode 5 (-9) 9 m = 0
  · left
    have hm : Mx.mcode 5 (-9) 9 m = 0 ∧ m.length = (m.getD 0 []).length := by
      unfold qcode at h
      by_cases h0 : Mx.mcode 5 (-9) 9 m = 0 ∧ m.length ≠ (m.getD 0 []).length
      · rw [if_pos h0] at h; cases h
      · rw [if_neg h0] at h
        exact ⟨h, Classical.byContradiction fun e => h0 ⟨h, e⟩⟩
    obtain ⟨h1, h2⟩ := hm
    unfold Mx.mcode at h1
    by_cases c1 : m.length = 0 ∨ (m.getD 0 []).length = 0
    · rw [if_pos c1] at h1; cases h1
    rw [if_neg c1] at h1
    by_cases c2 : 5 < m.length ∨ 5 < (m.getD 0 []).length
    · rw [if_pos c2] at h1; cases h1
    rw [if_neg c2] at h1
    have hr := Mx.rows_zero h1
    have hl : ∀ i, i < m.length → (m.getD i []).length = n := fun i hi => by rw [(Mx.rcode_zero (hr i hi)).1, ← h2, hn]
    refine ⟨fun i j => (m.getD i []).getD j 0, ⟨?_, by omega, by omega, fun i j hi hj => ?_⟩⟩
    · have := Mx.is_tab hl
      rw [hn] at this
      exact this
    · exact (Mx.rcode_zero (hr i (by omega))).2 j (by rw [hl i (by omega)]; exact hj)
  · exact .inr h
theorem Shz.code {n : Nat} {x : Nat → Nat → Int} {m : List (List Int)} (h : Shz n x m) : qcode 5 (-9) 9 m = 0 := by
  obtain ⟨rfl, h0, h5, hab⟩ := h
  have e0 : ((Mx.tab n n x).getD 0 []).length = n := Mx.tab_len n n x 0 h0
  have hm : Mx.mcode 5 (-9) 9 (Mx.tab n n x) = 0 := by
    unfold Mx.mcode
    rw [Mx.len_tab, e0, if_neg (by omega), if_neg (by omega)]
    refine Mx.rows_ok fun i hi => ?_
    rw [Mx.len_tab] at hi
    refine Mx.rcode_ok (Mx.tab_len n n x i hi) fun k hk => ?_
    rw [Mx.tab_len n n x i hi] at hk
    rw [Mx.tab_el n n x i k hi hk]
    exact hab i k hi hk
  unfold qcode
  rw [if_neg (fun h => h.2 (by rw [Mx.len_tab, e0])), hm]
theorem Shz.nine {n : Nat} {x : Nat → Nat → Int} {m : List (List Int)} (h : Shz n x m) : ∀ i j, i < n → j < n → Zx.ab (x i j) ≤ 9 := fun i j hi hj => by
  have := h.ab i j hi hj
  unfold Zx.ab; omega

/-- The first k rows have no fault. -/
def rowsZ (lo hi : Int) (m : List (List Int)) (k : Nat) : Prop := Mx.rows lo hi (m.getD 0 []).length m = Mx.rows lo hi (m.getD 0 []).length (m.drop k)
theorem rowsZ_go {lo hi : Int} {m : List (List Int)} {k : Nat} (hk : k < m.length) (h : rowsZ lo hi m k) (h0 : Mx.rcode lo hi (m.getD 0 []).length (m.getD k []) = 0) : rowsZ lo hi m (k + 1) := by
  unfold rowsZ at *
  rw [h, Mx.rows_drop hk, if_pos h0]


end Go.Proofs.YtkebjmapdcbnaaaDoor

/- Plain facts on Pfaffians of at most six rows: made by wip/tools/gen_Pf.py. No program is named here. -/
namespace Go.Proofs.YtkebjmapdcbnaaaDoor.Zx
set_option linter.unusedVariables false
open Mx (sk sw)

/-- Without the first and the one behind j. -/
def pk (j b : Nat) : Nat := sk j b + 1
/-- The Pfaffian, by the first row. -/
def pf : Nat → (Nat → Nat → Int) → Int
  | 0, _ => 1
  | 1, _ => 0
  | n + 2, f => sg (n + 1) fun j => sgn j * f 0 (j + 1) * pf n (fun a b => f (pk j a) (pk j b))
theorem pf_succ (n : Nat) (f : Nat → Nat → Int) : pf (n + 2) f = sg (n + 1) fun j => sgn j * f 0 (j + 1) * pf n (fun a b => f (pk j a) (pk j b)) := rfl
def Skw (f : Nat → Nat → Int) : Prop := ∀ a b, f a b = -(f b a)
theorem Skw.diag {f : Nat → Nat → Int} (h : Skw f) (a : Nat) : f a a = 0 := by have := h a a; omega
/-- The skew matrix of what stands above. -/
def skw (x : Nat → Nat → Int) : Nat → Nat → Int := fun i j => if i < j then x i j else if j < i then -(x j i) else 0
theorem Skw.is {f : Nat → Nat → Int} (h : Skw f) : skw f = f := by
  funext i j
  unfold skw
  by_cases h1 : i < j
  · rw [if_pos h1]
  · rw [if_neg h1]
    by_cases h2 : j < i
    · rw [if_pos h2]; exact (h i j).symm
    · rw [if_neg h2, show i = j by omega]; exact (h.diag j).symm
theorem sw_flip (i j a : Nat) : sw i j a = sw j i a := by unfold sw; split <;> split <;> omega

def P2 (x01 : Int) : Int := x01
theorem pf_two (f : Nat → Nat → Int) : pf 2 f = P2 (f 0 1) := by
  show (0 + 1 * f 0 1 * 1) = _
  unfold P2
  grind
def P4 (x01 x02 x03 x12 x13 x23 : Int) : Int := x01 * (x23) - x02 * (x13) + x03 * (x12)
theorem pf_four (f : Nat → Nat → Int) : pf 4 f = P4 (f 0 1) (f 0 2) (f 0 3) (f 1 2) (f 1 3) (f 2 3) := by
  show (((0 + 1 * f 0 1 * (0 + 1 * f 2 3 * 1)) + (-1) * f 0 2 * (0 + 1 * f 1 3 * 1)) + 1 * f 0 3 * (0 + 1 * f 1 2 * 1)) = _
  unfold P4
  grind
def P6 (x01 x02 x03 x04 x05 x12 x13 x14 x15 x23 x24 x25 x34 x35 x45 : Int) : Int := x01 * (x23 * (x45) - x24 * (x35) + x25 * (x34)) - x02 * (x13 * (x45) - x14 * (x35) + x15 * (x34)) + x03 * (x12 * (x45) - x14 * (x25) + x15 * (x24)) - x04 * (x12 * (x35) - x13 * (x25) + x15 * (x23)) + x05 * (x12 * (x34) - x13 * (x24) + x14 * (x23))
theorem pf_six (f : Nat → Nat → Int) : pf 6 f = P6 (f 0 1) (f 0 2) (f 0 3) (f 0 4) (f 0 5) (f 1 2) (f 1 3) (f 1 4) (f 1 5) (f 2 3) (f 2 4) (f 2 5) (f 3 4) (f 3 5) (f 4 5) := by
  show (((((0 + 1 * f 0 1 * (((0 + 1 * f 2 3 * (0 + 1 * f 4 5 * 1)) + (-1) * f 2 4 * (0 + 1 * f 3 5 * 1)) + 1 * f 2 5 * (0 + 1 * f 3 4 * 1))) + (-1) * f 0 2 * (((0 + 1 * f 1 3 * (0 + 1 * f 4 5 * 1)) + (-1) * f 1 4 * (0 + 1 * f 3 5 * 1)) + 1 * f 1 5 * (0 + 1 * f 3 4 * 1))) + 1 * f 0 3 * (((0 + 1 * f 1 2 * (0 + 1 * f 4 5 * 1)) + (-1) * f 1 4 * (0 + 1 * f 2 5 * 1)) + 1 * f 1 5 * (0 + 1 * f 2 4 * 1))) + (-1) * f 0 4 * (((0 + 1 * f 1 2 * (0 + 1 * f 3 5 * 1)) + (-1) * f 1 3 * (0 + 1 * f 2 5 * 1)) + 1 * f 1 5 * (0 + 1 * f 2 3 * 1))) + 1 * f 0 5 * (((0 + 1 * f 1 2 * (0 + 1 * f 3 4 * 1)) + (-1) * f 1 3 * (0 + 1 * f 2 4 * 1)) + 1 * f 1 4 * (0 + 1 * f 2 3 * 1))) = _
  unfold P6
  grind
theorem pf_odd : ∀ (n : Nat) (f : Nat → Nat → Int), n % 2 = 1 → pf n f = 0
  | 0, _, h => absurd h (by decide)
  | 1, _, _ => rfl
  | n + 2, f, h => by
    rw [pf_succ, sg_congr (g := fun _ => 0) fun j _ => by rw [pf_odd n _ (by omega)]; grind]
    exact sg_none _

def M1 : Nat → Nat → Int := fun _ _ => 0
theorem dt_M1 : dt 1 M1 = 0 := by
  show (0 + 1 * 0 * 1) = _
  skip
  grind
def M2 (x01 : Int) : Nat → Nat → Int := fun a b => match a, b with | 0, 1 => x01 | 1, 0 => (-x01) | _, _ => 0
theorem dt_M2 (x01 : Int) : dt 2 (M2 x01) = P2 x01 * P2 x01 := by
  show ((0 + 1 * 0 * (0 + 1 * 0 * 1)) + (-1) * x01 * (0 + 1 * (-x01) * 1)) = _
  unfold P2
  grind
def M3 (x01 x02 x12 : Int) : Nat → Nat → Int := fun a b => match a, b with | 0, 1 => x01 | 0, 2 => x02 | 1, 0 => (-x01) | 1, 2 => x12 | 2, 0 => (-x02) | 2, 1 => (-x12) | _, _ => 0
theorem dt_M3 (x01 x02 x12 : Int) : dt 3 (M3 x01 x02 x12) = 0 := by
  show (((0 + 1 * 0 * ((0 + 1 * 0 * (0 + 1 * 0 * 1)) + (-1) * x12 * (0 + 1 * (-x12) * 1))) + (-1) * x01 * ((0 + 1 * (-x01) * (0 + 1 * 0 * 1)) + (-1) * x12 * (0 + 1 * (-x02) * 1))) + 1 * x02 * ((0 + 1 * (-x01) * (0 + 1 * (-x12) * 1)) + (-1) * 0 * (0 + 1 * (-x02) * 1))) = _
  skip
  grind
def M4 (x01 x02 x03 x12 x13 x23 : Int) : Nat → Nat → Int := fun a b => match a, b with | 0, 1 => x01 | 0, 2 => x02 | 0, 3 => x03 | 1, 0 => (-x01) | 1, 2 => x12 | 1, 3 => x13 | 2, 0 => (-x02) | 2, 1 => (-x12) | 2, 3 => x23 | 3, 0 => (-x03) | 3, 1 => (-x13) | 3, 2 => (-x23) | _, _ => 0
theorem dt_M4 (x01 x02 x03 x12 x13 x23 : Int) : dt 4 (M4 x01 x02 x03 x12 x13 x23) = P4 x01 x02 x03 x12 x13 x23 * P4 x01 x02 x03 x12 x13 x23 := by
  show ((((0 + 1 * 0 * (((0 + 1 * 0 * ((0 + 1 * 0 * (0 + 1 * 0 * 1)) + (-1) * x23 * (0 + 1 * (-x23) * 1))) + (-1) * x12 * ((0 + 1 * (-x12) * (0 + 1 * 0 * 1)) + (-1) * x23 * (0 + 1 * (-x13) * 1))) + 1 * x13 * ((0 + 1 * (-x12) * (0 + 1 * (-x23) * 1)) + (-1) * 0 * (0 + 1 * (-x13) * 1)))) + (-1) * x01 * (((0 + 1 * (-x01) * ((0 + 1 * 0 * (0 + 1 * 0 * 1)) + (-1) * x23 * (0 + 1 * (-x23) * 1))) + (-1) * x12 * ((0 + 1 * (-x02) * (0 + 1 * 0 * 1)) + (-1) * x23 * (0 + 1 * (-x03) * 1))) + 1 * x13 * ((0 + 1 * (-x02) * (0 + 1 * (-x23) * 1)) + (-1) * 0 * (0 + 1 * (-x03) * 1)))) + 1 * x02 * (((0 + 1 * (-x01) * ((0 + 1 * (-x12) * (0 + 1 * 0 * 1)) + (-1) * x23 * (0 + 1 * (-x13) * 1))) + (-1) * 0 * ((0 + 1 * (-x02) * (0 + 1 * 0 * 1)) + (-1) * x23 * (0 + 1 * (-x03) * 1))) + 1 * x13 * ((0 + 1 * (-x02) * (0 + 1 * (-x13) * 1)) + (-1) * (-x12) * (0 + 1 * (-x03) * 1)))) + (-1) * x03 * (((0 + 1 * (-x01) * ((0 + 1 * (-x12) * (0 + 1 * (-x23) * 1)) + (-1) * 0 * (0 + 1 * (-x13) * 1))) + (-1) * 0 * ((0 + 1 * (-x02) * (0 + 1 * (-x23) * 1)) + (-1) * 0 * (0 + 1 * (-x03) * 1))) + 1 * x12 * ((0 + 1 * (-x02) * (0 + 1 * (-x13) * 1)) + (-1) * (-x12) * (0 + 1 * (-x03) * 1)))) = _
  unfold P4
  grind
def M5 (x01 x02 x03 x04 x12 x13 x14 x23 x24 x34 : Int) : Nat → Nat → Int := fun a b => match a, b with | 0, 1 => x01 | 0, 2 => x02 | 0, 3 => x03 | 0, 4 => x04 | 1, 0 => (-x01) | 1, 2 => x12 | 1, 3 => x13 | 1, 4 => x14 | 2, 0 => (-x02) | 2, 1 => (-x12) | 2, 3 => x23 | 2, 4 => x24 | 3, 0 => (-x03) | 3, 1 => (-x13) | 3, 2 => (-x23) | 3, 4 => x34 | 4, 0 => (-x04) | 4, 1 => (-x14) | 4, 2 => (-x24) | 4, 3 => (-x34) | _, _ => 0
theorem dt_M5 (x01 x02 x03 x04 x12 x13 x14 x23 x24 x34 : Int) : dt 5 (M5 x01 x02 x03 x04 x12 x13 x14 x23 x24 x34) = 0 := by
  show (((((0 + 1 * 0 * ((((0 + 1 * 0 * (((0 + 1 * 0 * ((0 + 1 * 0 * (0 + 1 * 0 * 1)) + (-1) * x34 * (0 + 1 * (-x34) * 1))) + (-1) * x23 * ((0 + 1 * (-x23) * (0 + 1 * 0 * 1)) + (-1) * x34 * (0 + 1 * (-x24) * 1))) + 1 * x24 * ((0 + 1 * (-x23) * (0 + 1 * (-x34) * 1)) + (-1) * 0 * (0 + 1 * (-x24) * 1)))) + (-1) * x12 * (((0 + 1 * (-x12) * ((0 + 1 * 0 * (0 + 1 * 0 * 1)) + (-1) * x34 * (0 + 1 * (-x34) * 1))) + (-1) * x23 * ((0 + 1 * (-x13) * (0 + 1 * 0 * 1)) + (-1) * x34 * (0 + 1 * (-x14) * 1))) + 1 * x24 * ((0 + 1 * (-x13) * (0 + 1 * (-x34) * 1)) + (-1) * 0 * (0 + 1 * (-x14) * 1)))) + 1 * x13 * (((0 + 1 * (-x12) * ((0 + 1 * (-x23) * (0 + 1 * 0 * 1)) + (-1) * x34 * (0 + 1 * (-x24) * 1))) + (-1) * 0 * ((0 + 1 * (-x13) * (0 + 1 * 0 * 1)) + (-1) * x34 * (0 + 1 * (-x14) * 1))) + 1 * x24 * ((0 + 1 * (-x13) * (0 + 1 * (-x24) * 1)) + (-1) * (-x23) * (0 + 1 * (-x14) * 1)))) + (-1) * x14 * (((0 + 1 * (-x12) * ((0 + 1 * (-x23) * (0 + 1 * (-x34) * 1)) + (-1) * 0 * (0 + 1 * (-x24) * 1))) + (-1) * 0 * ((0 + 1 * (-x13) * (0 + 1 * (-x34) * 1)) + (-1) * 0 * (0 + 1 * (-x14) * 1))) + 1 * x23 * ((0 + 1 * (-x13) * (0 + 1 * (-x24) * 1)) + (-1) * (-x23) * (0 + 1 * (-x14) * 1))))) + (-1) * x01 * ((((0 + 1 * (-x01) * (((0 + 1 * 0 * ((0 + 1 * 0 * (0 + 1 * 0 * 1)) + (-1) * x34 * (0 + 1 * (-x34) * 1))) + (-1) * x23 * ((0 + 1 * (-x23) * (0 + 1 * 0 * 1)) + (-1) * x34 * (0 + 1 * (-x24) * 1))) + 1 * x24 * ((0 + 1 * (-x23) * (0 + 1 * (-x34) * 1)) + (-1) * 0 * (0 + 1 * (-x24) * 1)))) + (-1) * x12 * (((0 + 1 * (-x02) * ((0 + 1 * 0 * (0 + 1 * 0 * 1)) + (-1) * x34 * (0 + 1 * (-x34) * 1))) + (-1) * x23 * ((0 + 1 * (-x03) * (0 + 1 * 0 * 1)) + (-1) * x34 * (0 + 1 * (-x04) * 1))) + 1 * x24 * ((0 + 1 * (-x03) * (0 + 1 * (-x34) * 1)) + (-1) * 0 * (0 + 1 * (-x04) * 1)))) + 1 * x13 * (((0 + 1 * (-x02) * ((0 + 1 * (-x23) * (0 + 1 * 0 * 1)) + (-1) * x34 * (0 + 1 * (-x24) * 1))) + (-1) * 0 * ((0 + 1 * (-x03) * (0 + 1 * 0 * 1)) + (-1) * x34 * (0 + 1 * (-x04) * 1))) + 1 * x24 * ((0 + 1 * (-x03) * (0 + 1 * (-x24) * 1)) + (-1) * (-x23) * (0 + 1 * (-x04) * 1)))) + (-1) * x14 * (((0 + 1 * (-x02) * ((0 + 1 * (-x23) * (0 + 1 * (-x34) * 1)) + (-1) * 0 * (0 + 1 * (-x24) * 1))) + (-1) * 0 * ((0 + 1 * (-x03) * (0 + 1 * (-x34) * 1)) + (-1) * 0 * (0 + 1 * (-x04) * 1))) + 1 * x23 * ((0 + 1 * (-x03) * (0 + 1 * (-x24) * 1)) + (-1) * (-x23) * (0 + 1 * (-x04) * 1))))) + 1 * x02 * ((((0 + 1 * (-x01) * (((0 + 1 * (-x12) * ((0 + 1 * 0 * (0 + 1 * 0 * 1)) + (-1) * x34 * (0 + 1 * (-x34) * 1))) + (-1) * x23 * ((0 + 1 * (-x13) * (0 + 1 * 0 * 1)) + (-1) * x34 * (0 + 1 * (-x14) * 1))) + 1 * x24 * ((0 + 1 * (-x13) * (0 + 1 * (-x34) * 1)) + (-1) * 0 * (0 + 1 * (-x14) * 1)))) + (-1) * 0 * (((0 + 1 * (-x02) * ((0 + 1 * 0 * (0 + 1 * 0 * 1)) + (-1) * x34 * (0 + 1 * (-x34) * 1))) + (-1) * x23 * ((0 + 1 * (-x03) * (0 + 1 * 0 * 1)) + (-1) * x34 * (0 + 1 * (-x04) * 1))) + 1 * x24 * ((0 + 1 * (-x03) * (0 + 1 * (-x34) * 1)) + (-1) * 0 * (0 + 1 * (-x04) * 1)))) + 1 * x13 * (((0 + 1 * (-x02) * ((0 + 1 * (-x13) * (0 + 1 * 0 * 1)) + (-1) * x34 * (0 + 1 * (-x14) * 1))) + (-1) * (-x12) * ((0 + 1 * (-x03) * (0 + 1 * 0 * 1)) + (-1) * x34 * (0 + 1 * (-x04) * 1))) + 1 * x24 * ((0 + 1 * (-x03) * (0 + 1 * (-x14) * 1)) + (-1) * (-x13) * (0 + 1 * (-x04) * 1)))) + (-1) * x14 * (((0 + 1 * (-x02) * ((0 + 1 * (-x13) * (0 + 1 * (-x34) * 1)) + (-1) * 0 * (0 + 1 * (-x14) * 1))) + (-1) * (-x12) * ((0 + 1 * (-x03) * (0 + 1 * (-x34) * 1)) + (-1) * 0 * (0 + 1 * (-x04) * 1))) + 1 * x23 * ((0 + 1 * (-x03) * (0 + 1 * (-x14) * 1)) + (-1) * (-x13) * (0 + 1 * (-x04) * 1))))) + (-1) * x03 * ((((0 + 1 * (-x01) * (((0 + 1 * (-x12) * ((0 + 1 * (-x23) * (0 + 1 * 0 * 1)) + (-1) * x34 * (0 + 1 * (-x24) * 1))) + (-1) * 0 * ((0 + 1 * (-x13) * (0 + 1 * 0 * 1)) + (-1) * x34 * (0 + 1 * (-x14) * 1))) + 1 * x24 * ((0 + 1 * (-x13) * (0 + 1 * (-x24) * 1)) + (-1) * (-x23) * (0 + 1 * (-x14) * 1)))) + (-1) * 0 * (((0 + 1 * (-x02) * ((0 + 1 * (-x23) * (0 + 1 * 0 * 1)) + (-1) * x34 * (0 + 1 * (-x24) * 1))) + (-1) * 0 * ((0 + 1 * (-x03) * (0 + 1 * 0 * 1)) + (-1) * x34 * (0 + 1 * (-x04) * 1))) + 1 * x24 * ((0 + 1 * (-x03) * (0 + 1 * (-x24) * 1)) + (-1) * (-x23) * (0 + 1 * (-x04) * 1)))) + 1 * x12 * (((0 + 1 * (-x02) * ((0 + 1 * (-x13) * (0 + 1 * 0 * 1)) + (-1) * x34 * (0 + 1 * (-x14) * 1))) + (-1) * (-x12) * ((0 + 1 * (-x03) * (0 + 1 * 0 * 1)) + (-1) * x34 * (0 + 1 * (-x04) * 1))) + 1 * x24 * ((0 + 1 * (-x03) * (0 + 1 * (-x14) * 1)) + (-1) * (-x13) * (0 + 1 * (-x04) * 1)))) + (-1) * x14 * (((0 + 1 * (-x02) * ((0 + 1 * (-x13) * (0 + 1 * (-x24) * 1)) + (-1) * (-x23) * (0 + 1 * (-x14) * 1))) + (-1) * (-x12) * ((0 + 1 * (-x03) * (0 + 1 * (-x24) * 1)) + (-1) * (-x23) * (0 + 1 * (-x04) * 1))) + 1 * 0 * ((0 + 1 * (-x03) * (0 + 1 * (-x14) * 1)) + (-1) * (-x13) * (0 + 1 * (-x04) * 1))))) + 1 * x04 * ((((0 + 1 * (-x01) * (((0 + 1 * (-x12) * ((0 + 1 * (-x23) * (0 + 1 * (-x34) * 1)) + (-1) * 0 * (0 + 1 * (-x24) * 1))) + (-1) * 0 * ((0 + 1 * (-x13) * (0 + 1 * (-x34) * 1)) + (-1) * 0 * (0 + 1 * (-x14) * 1))) + 1 * x23 * ((0 + 1 * (-x13) * (0 + 1 * (-x24) * 1)) + (-1) * (-x23) * (0 + 1 * (-x14) * 1)))) + (-1) * 0 * (((0 + 1 * (-x02) * ((0 + 1 * (-x23) * (0 + 1 * (-x34) * 1)) + (-1) * 0 * (0 + 1 * (-x24) * 1))) + (-1) * 0 * ((0 + 1 * (-x03) * (0 + 1 * (-x34) * 1)) + (-1) * 0 * (0 + 1 * (-x04) * 1))) + 1 * x23 * ((0 + 1 * (-x03) * (0 + 1 * (-x24) * 1)) + (-1) * (-x23) * (0 + 1 * (-x04) * 1)))) + 1 * x12 * (((0 + 1 * (-x02) * ((0 + 1 * (-x13) * (0 + 1 * (-x34) * 1)) + (-1) * 0 * (0 + 1 * (-x14) * 1))) + (-1) * (-x12) * ((0 + 1 * (-x03) * (0 + 1 * (-x34) * 1)) + (-1) * 0 * (0 + 1 * (-x04) * 1))) + 1 * x23 * ((0 + 1 * (-x03) * (0 + 1 * (-x14) * 1)) + (-1) * (-x13) * (0 + 1 * (-x04) * 1)))) + (-1) * x13 * (((0 + 1 * (-x02) * ((0 + 1 * (-x13) * (0 + 1 * (-x24) * 1)) + (-1) * (-x23) * (0 + 1 * (-x14) * 1))) + (-1) * (-x12) * ((0 + 1 * (-x03) * (0 + 1 * (-x24) * 1)) + (-1) * (-x23) * (0 + 1 * (-x04) * 1))) + 1 * 0 * ((0 + 1 * (-x03) * (0 + 1 * (-x14) * 1)) + (-1) * (-x13) * (0 + 1 * (-x04) * 1))))) = _
  skip
  grind
def M6 (x01 x02 x03 x04 x05 x12 x13 x14 x15 x23 x24 x25 x34 x35 x45 : Int) : Nat → Nat → Int := fun a b => match a, b with | 0, 1 => x01 | 0, 2 => x02 | 0, 3 => x03 | 0, 4 => x04 | 0, 5 => x05 | 1, 0 => (-x01) | 1, 2 => x12 | 1, 3 => x13 | 1, 4 => x14 | 1, 5 => x15 | 2, 0 => (-x02) | 2, 1 => (-x12) | 2, 3 => x23 | 2, 4 => x24 | 2, 5 => x25 | 3, 0 => (-x03) | 3, 1 => (-x13) | 3, 2 => (-x23) | 3, 4 => x34 | 3, 5 => x35 | 4, 0 => (-x04) | 4, 1 => (-x14) | 4, 2 => (-x24) | 4, 3 => (-x34) | 4, 5 => x45 | 5, 0 => (-x05) | 5, 1 => (-x15) | 5, 2 => (-x25) | 5, 3 => (-x35) | 5, 4 => (-x45) | _, _ => 0
theorem dt_M6 (x01 x02 x03 x04 x05 x12 x13 x14 x15 x23 x24 x25 x34 x35 x45 : Int) : dt 6 (M6 x01 x02 x03 x04 x05 x12 x13 x14 x15 x23 x24 x25 x34 x35 x45) = P6 x01 x02 x03 x04 x05 x12 x13 x14 x15 x23 x24 x25 x34 x35 x45 * P6 x01 x02 x03 x04 x05 x12 x13 x14 x15 x23 x24 x25 x34 x35 x45 := by
  show ((((((0 + 1 * 0 * (((((0 + 1 * 0 * ((((0 + 1 * 0 * (((0 + 1 * 0 * ((0 + 1 * 0 * (0 + 1 * 0 * 1)) + (-1) * x45 * (0 + 1 * (-x45) * 1))) + (-1) * x34 * ((0 + 1 * (-x34) * (0 + 1 * 0 * 1)) + (-1) * x45 * (0 + 1 * (-x35) * 1))) + 1 * x35 * ((0 + 1 * (-x34) * (0 + 1 * (-x45) * 1)) + (-1) * 0 * (0 + 1 * (-x35) * 1)))) + (-1) * x23 * (((0 + 1 * (-x23) * ((0 + 1 * 0 * (0 + 1 * 0 * 1)) + (-1) * x45 * (0 + 1 * (-x45) * 1))) + (-1) * x34 * ((0 + 1 * (-x24) * (0 + 1 * 0 * 1)) + (-1) * x45 * (0 + 1 * (-x25) * 1))) + 1 * x35 * ((0 + 1 * (-x24) * (0 + 1 * (-x45) * 1)) + (-1) * 0 * (0 + 1 * (-x25) * 1)))) + 1 * x24 * (((0 + 1 * (-x23) * ((0 + 1 * (-x34) * (0 + 1 * 0 * 1)) + (-1) * x45 * (0 + 1 * (-x35) * 1))) + (-1) * 0 * ((0 + 1 * (-x24) * (0 + 1 * 0 * 1)) + (-1) * x45 * (0 + 1 * (-x25) * 1))) + 1 * x35 * ((0 + 1 * (-x24) * (0 + 1 * (-x35) * 1)) + (-1) * (-x34) * (0 + 1 * (-x25) * 1)))) + (-1) * x25 * (((0 + 1 * (-x23) * ((0 + 1 * (-x34) * (0 + 1 * (-x45) * 1)) + (-1) * 0 * (0 + 1 * (-x35) * 1))) + (-1) * 0 * ((0 + 1 * (-x24) * (0 + 1 * (-x45) * 1)) + (-1) * 0 * (0 + 1 * (-x25) * 1))) + 1 * x34 * ((0 + 1 * (-x24) * (0 + 1 * (-x35) * 1)) + (-1) * (-x34) * (0 + 1 * (-x25) * 1))))) + (-1) * x12 * ((((0 + 1 * (-x12) * (((0 + 1 * 0 * ((0 + 1 * 0 * (0 + 1 * 0 * 1)) + (-1) * x45 * (0 + 1 * (-x45) * 1))) + (-1) * x34 * ((0 + 1 * (-x34) * (0 + 1 * 0 * 1)) + (-1) * x45 * (0 + 1 * (-x35) * 1))) + 1 * x35 * ((0 + 1 * (-x34) * (0 + 1 * (-x45) * 1)) + (-1) * 0 * (0 + 1 * (-x35) * 1)))) + (-1) * x23 * (((0 + 1 * (-x13) * ((0 + 1 * 0 * (0 + 1 * 0 * 1)) + (-1) * x45 * (0 + 1 * (-x45) * 1))) + (-1) * x34 * ((0 + 1 * (-x14) * (0 + 1 * 0 * 1)) + (-1) * x45 * (0 + 1 * (-x15) * 1))) + 1 * x35 * ((0 + 1 * (-x14) * (0 + 1 * (-x45) * 1)) + (-1) * 0 * (0 + 1 * (-x15) * 1)))) + 1 * x24 * (((0 + 1 * (-x13) * ((0 + 1 * (-x34) * (0 + 1 * 0 * 1)) + (-1) * x45 * (0 + 1 * (-x35) * 1))) + (-1) * 0 * ((0 + 1 * (-x14) * (0 + 1 * 0 * 1)) + (-1) * x45 * (0 + 1 * (-x15) * 1))) + 1 * x35 * ((0 + 1 * (-x14) * (0 + 1 * (-x35) * 1)) + (-1) * (-x34) * (0 + 1 * (-x15) * 1)))) + (-1) * x25 * (((0 + 1 * (-x13) * ((0 + 1 * (-x34) * (0 + 1 * (-x45) * 1)) + (-1) * 0 * (0 + 1 * (-x35) * 1))) + (-1) * 0 * ((0 + 1 * (-x14) * (0 + 1 * (-x45) * 1)) + (-1) * 0 * (0 + 1 * (-x15) * 1))) + 1 * x34 * ((0 + 1 * (-x14) * (0 + 1 * (-x35) * 1)) + (-1) * (-x34) * (0 + 1 * (-x15) * 1))))) + 1 * x13 * ((((0 + 1 * (-x12) * (((0 + 1 * (-x23) * ((0 + 1 * 0 * (0 + 1 * 0 * 1)) + (-1) * x45 * (0 + 1 * (-x45) * 1))) + (-1) * x34 * ((0 + 1 * (-x24) * (0 + 1 * 0 * 1)) + (-1) * x45 * (0 + 1 * (-x25) * 1))) + 1 * x35 * ((0 + 1 * (-x24) * (0 + 1 * (-x45) * 1)) + (-1) * 0 * (0 + 1 * (-x25) * 1)))) + (-1) * 0 * (((0 + 1 * (-x13) * ((0 + 1 * 0 * (0 + 1 * 0 * 1)) + (-1) * x45 * (0 + 1 * (-x45) * 1))) + (-1) * x34 * ((0 + 1 * (-x14) * (0 + 1 * 0 * 1)) + (-1) * x45 * (0 + 1 * (-x15) * 1))) + 1 * x35 * ((0 + 1 * (-x14) * (0 + 1 * (-x45) * 1)) + (-1) * 0 * (0 + 1 * (-x15) * 1)))) + 1 * x24 * (((0 + 1 * (-x13) * ((0 + 1 * (-x24) * (0 + 1 * 0 * 1)) + (-1) * x45 * (0 + 1 * (-x25) * 1))) + (-1) * (-x23) * ((0 + 1 * (-x14) * (0 + 1 * 0 * 1)) + (-1) * x45 * (0 + 1 * (-x15) * 1))) + 1 * x35 * ((0 + 1 * (-x14) * (0 + 1 * (-x25) * 1)) + (-1) * (-x24) * (0 + 1 * (-x15) * 1)))) + (-1) * x25 * (((0 + 1 * (-x13) * ((0 + 1 * (-x24) * (0 + 1 * (-x45) * 1)) + (-1) * 0 * (0 + 1 * (-x25) * 1))) + (-1) * (-x23) * ((0 + 1 * (-x14) * (0 + 1 * (-x45) * 1)) + (-1) * 0 * (0 + 1 * (-x15) * 1))) + 1 * x34 * ((0 + 1 * (-x14) * (0 + 1 * (-x25) * 1)) + (-1) * (-x24) * (0 + 1 * (-x15) * 1))))) + (-1) * x14 * ((((0 + 1 * (-x12) * (((0 + 1 * (-x23) * ((0 + 1 * (-x34) * (0 + 1 * 0 * 1)) + (-1) * x45 * (0 + 1 * (-x35) * 1))) + (-1) * 0 * ((0 + 1 * (-x24) * (0 + 1 * 0 * 1)) + (-1) * x45 * (0 + 1 * (-x25) * 1))) + 1 * x35 * ((0 + 1 * (-x24) * (0 + 1 * (-x35) * 1)) + (-1) * (-x34) * (0 + 1 * (-x25) * 1)))) + (-1) * 0 * (((0 + 1 * (-x13) * ((0 + 1 * (-x34) * (0 + 1 * 0 * 1)) + (-1) * x45 * (0 + 1 * (-x35) * 1))) + (-1) * 0 * ((0 + 1 * (-x14) * (0 + 1 * 0 * 1)) + (-1) * x45 * (0 + 1 * (-x15) * 1))) + 1 * x35 * ((0 + 1 * (-x14) * (0 + 1 * (-x35) * 1)) + (-1) * (-x34) * (0 + 1 * (-x15) * 1)))) + 1 * x23 * (((0 + 1 * (-x13) * ((0 + 1 * (-x24) * (0 + 1 * 0 * 1)) + (-1) * x45 * (0 + 1 * (-x25) * 1))) + (-1) * (-x23) * ((0 + 1 * (-x14) * (0 + 1 * 0 * 1)) + (-1) * x45 * (0 + 1 * (-x15) * 1))) + 1 * x35 * ((0 + 1 * (-x14) * (0 + 1 * (-x25) * 1)) + (-1) * (-x24) * (0 + 1 * (-x15) * 1)))) + (-1) * x25 * (((0 + 1 * (-x13) * ((0 + 1 * (-x24) * (0 + 1 * (-x35) * 1)) + (-1) * (-x34) * (0 + 1 * (-x25) * 1))) + (-1) * (-x23) * ((0 + 1 * (-x14) * (0 + 1 * (-x35) * 1)) + (-1) * (-x34) * (0 + 1 * (-x15) * 1))) + 1 * 0 * ((0 + 1 * (-x14) * (0 + 1 * (-x25) * 1)) + (-1) * (-x24) * (0 + 1 * (-x15) * 1))))) + 1 * x15 * ((((0 + 1 * (-x12) * (((0 + 1 * (-x23) * ((0 + 1 * (-x34) * (0 + 1 * (-x45) * 1)) + (-1) * 0 * (0 + 1 * (-x35) * 1))) + (-1) * 0 * ((0 + 1 * (-x24) * (0 + 1 * (-x45) * 1)) + (-1) * 0 * (0 + 1 * (-x25) * 1))) + 1 * x34 * ((0 + 1 * (-x24) * (0 + 1 * (-x35) * 1)) + (-1) * (-x34) * (0 + 1 * (-x25) * 1)))) + (-1) * 0 * (((0 + 1 * (-x13) * ((0 + 1 * (-x34) * (0 + 1 * (-x45) * 1)) + (-1) * 0 * (0 + 1 * (-x35) * 1))) + (-1) * 0 * ((0 + 1 * (-x14) * (0 + 1 * (-x45) * 1)) + (-1) * 0 * (0 + 1 * (-x15) * 1))) + 1 * x34 * ((0 + 1 * (-x14) * (0 + 1 * (-x35) * 1)) + (-1) * (-x34) * (0 + 1 * (-x15) * 1)))) + 1 * x23 * (((0 + 1 * (-x13) * ((0 + 1 * (-x24) * (0 + 1 * (-x45) * 1)) + (-1) * 0 * (0 + 1 * (-x25) * 1))) + (-1) * (-x23) * ((0 + 1 * (-x14) * (0 + 1 * (-x45) * 1)) + (-1) * 0 * (0 + 1 * (-x15) * 1))) + 1 * x34 * ((0 + 1 * (-x14) * (0 + 1 * (-x25) * 1)) + (-1) * (-x24) * (0 + 1 * (-x15) * 1)))) + (-1) * x24 * (((0 + 1 * (-x13) * ((0 + 1 * (-x24) * (0 + 1 * (-x35) * 1)) + (-1) * (-x34) * (0 + 1 * (-x25) * 1))) + (-1) * (-x23) * ((0 + 1 * (-x14) * (0 + 1 * (-x35) * 1)) + (-1) * (-x34) * (0 + 1 * (-x15) * 1))) + 1 * 0 * ((0 + 1 * (-x14) * (0 + 1 * (-x25) * 1)) + (-1) * (-x24) * (0 + 1 * (-x15) * 1)))))) + (-1) * x01 * (((((0 + 1 * (-x01) * ((((0 + 1 * 0 * (((0 + 1 * 0 * ((0 + 1 * 0 * (0 + 1 * 0 * 1)) + (-1) * x45 * (0 + 1 * (-x45) * 1))) + (-1) * x34 * ((0 + 1 * (-x34) * (0 + 1 * 0 * 1)) + (-1) * x45 * (0 + 1 * (-x35) * 1))) + 1 * x35 * ((0 + 1 * (-x34) * (0 + 1 * (-x45) * 1)) + (-1) * 0 * (0 + 1 * (-x35) * 1)))) + (-1) * x23 * (((0 + 1 * (-x23) * ((0 + 1 * 0 * (0 + 1 * 0 * 1)) + (-1) * x45 * (0 + 1 * (-x45) * 1))) + (-1) * x34 * ((0 + 1 * (-x24) * (0 + 1 * 0 * 1)) + (-1) * x45 * (0 + 1 * (-x25) * 1))) + 1 * x35 * ((0 + 1 * (-x24) * (0 + 1 * (-x45) * 1)) + (-1) * 0 * (0 + 1 * (-x25) * 1)))) + 1 * x24 * (((0 + 1 * (-x23) * ((0 + 1 * (-x34) * (0 + 1 * 0 * 1)) + (-1) * x45 * (0 + 1 * (-x35) * 1))) + (-1) * 0 * ((0 + 1 * (-x24) * (0 + 1 * 0 * 1)) + (-1) * x45 * (0 + 1 * (-x25) * 1))) + 1 * x35 * ((0 + 1 * (-x24) * (0 + 1 * (-x35) * 1)) + (-1) * (-x34) * (0 + 1 * (-x25) * 1)))) + (-1) * x25 * (((0 + 1 * (-x23) * ((0 + 1 * (-x34) * (0 + 1 * (-x45) * 1)) + (-1) * 0 * (0 + 1 * (-x35) * 1))) + (-1) * 0 * ((0 + 1 * (-x24) * (0 + 1 * (-x45) * 1)) + (-1) * 0 * (0 + 1 * (-x25) * 1))) + 1 * x34 * ((0 + 1 * (-x24) * (0 + 1 * (-x35) * 1)) + (-1) * (-x34) * (0 + 1 * (-x25) * 1))))) + (-1) * x12 * ((((0 + 1 * (-x02) * (((0 + 1 * 0 * ((0 + 1 * 0 * (0 + 1 * 0 * 1)) + (-1) * x45 * (0 + 1 * (-x45) * 1))) + (-1) * x34 * ((0 + 1 * (-x34) * (0 + 1 * 0 * 1)) + (-1) * x45 * (0 + 1 * (-x35) * 1))) + 1 * x35 * ((0 + 1 * (-x34) * (0 + 1 * (-x45) * 1)) + (-1) * 0 * (0 + 1 * (-x35) * 1)))) + (-1) * x23 * (((0 + 1 * (-x03) * ((0 + 1 * 0 * (0 + 1 * 0 * 1)) + (-1) * x45 * (0 + 1 * (-x45) * 1))) + (-1) * x34 * ((0 + 1 * (-x04) * (0 + 1 * 0 * 1)) + (-1) * x45 * (0 + 1 * (-x05) * 1))) + 1 * x35 * ((0 + 1 * (-x04) * (0 + 1 * (-x45) * 1)) + (-1) * 0 * (0 + 1 * (-x05) * 1)))) + 1 * x24 * (((0 + 1 * (-x03) * ((0 + 1 * (-x34) * (0 + 1 * 0 * 1)) + (-1) * x45 * (0 + 1 * (-x35) * 1))) + (-1) * 0 * ((0 + 1 * (-x04) * (0 + 1 * 0 * 1)) + (-1) * x45 * (0 + 1 * (-x05) * 1))) + 1 * x35 * ((0 + 1 * (-x04) * (0 + 1 * (-x35) * 1)) + (-1) * (-x34) * (0 + 1 * (-x05) * 1)))) + (-1) * x25 * (((0 + 1 * (-x03) * ((0 + 1 * (-x34) * (0 + 1 * (-x45) * 1)) + (-1) * 0 * (0 + 1 * (-x35) * 1))) + (-1) * 0 * ((0 + 1 * (-x04) * (0 + 1 * (-x45) * 1)) + (-1) * 0 * (0 + 1 * (-x05) * 1))) + 1 * x34 * ((0 + 1 * (-x04) * (0 + 1 * (-x35) * 1)) + (-1) * (-x34) * (0 + 1 * (-x05) * 1))))) + 1 * x13 * ((((0 + 1 * (-x02) * (((0 + 1 * (-x23) * ((0 + 1 * 0 * (0 + 1 * 0 * 1)) + (-1) * x45 * (0 + 1 * (-x45) * 1))) + (-1) * x34 * ((0 + 1 * (-x24) * (0 + 1 * 0 * 1)) + (-1) * x45 * (0 + 1 * (-x25) * 1))) + 1 * x35 * ((0 + 1 * (-x24) * (0 + 1 * (-x45) * 1)) + (-1) * 0 * (0 + 1 * (-x25) * 1)))) + (-1) * 0 * (((0 + 1 * (-x03) * ((0 + 1 * 0 * (0 + 1 * 0 * 1)) + (-1) * x45 * (0 + 1 * (-x45) * 1))) + (-1) * x34 * ((0 + 1 * (-x04) * (0 + 1 * 0 * 1)) + (-1) * x45 * (0 + 1 * (-x05) * 1))) + 1 * x35 * ((0 + 1 * (-x04) * (0 + 1 * (-x45) * 1)) + (-1) * 0 * (0 + 1 * (-x05) * 1)))) + 1 * x24 * (((0 + 1 * (-x03) * ((0 + 1 * (-x24) * (0 + 1 * 0 * 1)) + (-1) * x45 * (0 + 1 * (-x25) * 1))) + (-1) * (-x23) * ((0 + 1 * (-x04) * (0 + 1 * 0 * 1)) + (-1) * x45 * (0 + 1 * (-x05) * 1))) + 1 * x35 * ((0 + 1 * (-x04) * (0 + 1 * (-x25) * 1)) + (-1) * (-x24) * (0 + 1 * (-x05) * 1)))) + (-1) * x25 * (((0 + 1 * (-x03) * ((0 + 1 * (-x24) * (0 + 1 * (-x45) * 1)) + (-1) * 0 * (0 + 1 * (-x25) * 1))) + (-1) * (-x23) * ((0 + 1 * (-x04) * (0 + 1 * (-x45) * 1)) + (-1) * 0 * (0 + 1 * (-x05) * 1))) + 1 * x34 * ((0 + 1 * (-x04) * (0 + 1 * (-x25) * 1)) + (-1) * (-x24) * (0 + 1 * (-x05) * 1))))) + (-1) * x14 * ((((0 + 1 * (-x02) * (((0 + 1 * (-x23) * ((0 + 1 * (-x34) * (0 + 1 * 0 * 1)) + (-1) * x45 * (0 + 1 * (-x35) * 1))) + (-1) * 0 * ((0 + 1 * (-x24) * (0 + 1 * 0 * 1)) + (-1) * x45 * (0 + 1 * (-x25) * 1))) + 1 * x35 * ((0 + 1 * (-x24) * (0 + 1 * (-x35) * 1)) + (-1) * (-x34) * (0 + 1 * (-x25) * 1)))) + (-1) * 0 * (((0 + 1 * (-x03) * ((0 + 1 * (-x34) * (0 + 1 * 0 * 1)) + (-1) * x45 * (0 + 1 * (-x35) * 1))) + (-1) * 0 * ((0 + 1 * (-x04) * (0 + 1 * 0 * 1)) + (-1) * x45 * (0 + 1 * (-x05) * 1))) + 1 * x35 * ((0 + 1 * (-x04) * (0 + 1 * (-x35) * 1)) + (-1) * (-x34) * (0 + 1 * (-x05) * 1)))) + 1 * x23 * (((0 + 1 * (-x03) * ((0 + 1 * (-x24) * (0 + 1 * 0 * 1)) + (-1) * x45 * (0 + 1 * (-x25) * 1))) + (-1) * (-x23) * ((0 + 1 * (-x04) * (0 + 1 * 0 * 1)) + (-1) * x45 * (0 + 1 * (-x05) * 1))) + 1 * x35 * ((0 + 1 * (-x04) * (0 + 1 * (-x25) * 1)) + (-1) * (-x24) * (0 + 1 * (-x05) * 1)))) + (-1) * x25 * (((0 + 1 * (-x03) * ((0 + 1 * (-x24) * (0 + 1 * (-x35) * 1)) + (-1) * (-x34) * (0 + 1 * (-x25) * 1))) + (-1) * (-x23) * ((0 + 1 * (-x04) * (0 + 1 * (-x35) * 1)) + (-1) * (-x34) * (0 + 1 * (-x05) * 1))) + 1 * 0 * ((0 + 1 * (-x04) * (0 + 1 * (-x25) * 1)) + (-1) * (-x24) * (0 + 1 * (-x05) * 1))))) + 1 * x15 * ((((0 + 1 * (-x02) * (((0 + 1 * (-x23) * ((0 + 1 * (-x34) * (0 + 1 * (-x45) * 1)) + (-1) * 0 * (0 + 1 * (-x35) * 1))) + (-1) * 0 * ((0 + 1 * (-x24) * (0 + 1 * (-x45) * 1)) + (-1) * 0 * (0 + 1 * (-x25) * 1))) + 1 * x34 * ((0 + 1 * (-x24) * (0 + 1 * (-x35) * 1)) + (-1) * (-x34) * (0 + 1 * (-x25) * 1)))) + (-1) * 0 * (((0 + 1 * (-x03) * ((0 + 1 * (-x34) * (0 + 1 * (-x45) * 1)) + (-1) * 0 * (0 + 1 * (-x35) * 1))) + (-1) * 0 * ((0 + 1 * (-x04) * (0 + 1 * (-x45) * 1)) + (-1) * 0 * (0 + 1 * (-x05) * 1))) + 1 * x34 * ((0 + 1 * (-x04) * (0 + 1 * (-x35) * 1)) + (-1) * (-x34) * (0 + 1 * (-x05) * 1)))) + 1 * x23 * (((0 + 1 * (-x03) * ((0 + 1 * (-x24) * (0 + 1 * (-x45) * 1)) + (-1) * 0 * (0 + 1 * (-x25) * 1))) + (-1) * (-x23) * ((0 + 1 * (-x04) * (0 + 1 * (-x45) * 1)) + (-1) * 0 * (0 + 1 * (-x05) * 1))) + 1 * x34 * ((0 + 1 * (-x04) * (0 + 1 * (-x25) * 1)) + (-1) * (-x24) * (0 + 1 * (-x05) * 1)))) + (-1) * x24 * (((0 + 1 * (-x03) * ((0 + 1 * (-x24) * (0 + 1 * (-x35) * 1)) + (-1) * (-x34) * (0 + 1 * (-x25) * 1))) + (-1) * (-x23) * ((0 + 1 * (-x04) * (0 + 1 * (-x35) * 1)) + (-1) * (-x34) * (0 + 1 * (-x05) * 1))) + 1 * 0 * ((0 + 1 * (-x04) * (0 + 1 * (-x25) * 1)) + (-1) * (-x24) * (0 + 1 * (-x05) * 1)))))) + 1 * x02 * (((((0 + 1 * (-x01) * ((((0 + 1 * (-x12) * (((0 + 1 * 0 * ((0 + 1 * 0 * (0 + 1 * 0 * 1)) + (-1) * x45 * (0 + 1 * (-x45) * 1))) + (-1) * x34 * ((0 + 1 * (-x34) * (0 + 1 * 0 * 1)) + (-1) * x45 * (0 + 1 * (-x35) * 1))) + 1 * x35 * ((0 + 1 * (-x34) * (0 + 1 * (-x45) * 1)) + (-1) * 0 * (0 + 1 * (-x35) * 1)))) + (-1) * x23 * (((0 + 1 * (-x13) * ((0 + 1 * 0 * (0 + 1 * 0 * 1)) + (-1) * x45 * (0 + 1 * (-x45) * 1))) + (-1) * x34 * ((0 + 1 * (-x14) * (0 + 1 * 0 * 1)) + (-1) * x45 * (0 + 1 * (-x15) * 1))) + 1 * x35 * ((0 + 1 * (-x14) * (0 + 1 * (-x45) * 1)) + (-1) * 0 * (0 + 1 * (-x15) * 1)))) + 1 * x24 * (((0 + 1 * (-x13) * ((0 + 1 * (-x34) * (0 + 1 * 0 * 1)) + (-1) * x45 * (0 + 1 * (-x35) * 1))) + (-1) * 0 * ((0 + 1 * (-x14) * (0 + 1 * 0 * 1)) + (-1) * x45 * (0 + 1 * (-x15) * 1))) + 1 * x35 * ((0 + 1 * (-x14) * (0 + 1 * (-x35) * 1)) + (-1) * (-x34) * (0 + 1 * (-x15) * 1)))) + (-1) * x25 * (((0 + 1 * (-x13) * ((0 + 1 * (-x34) * (0 + 1 * (-x45) * 1)) + (-1) * 0 * (0 + 1 * (-x35) * 1))) + (-1) * 0 * ((0 + 1 * (-x14) * (0 + 1 * (-x45) * 1)) + (-1) * 0 * (0 + 1 * (-x15) * 1))) + 1 * x34 * ((0 + 1 * (-x14) * (0 + 1 * (-x35) * 1)) + (-1) * (-x34) * (0 + 1 * (-x15) * 1))))) + (-1) * 0 * ((((0 + 1 * (-x02) * (((0 + 1 * 0 * ((0 + 1 * 0 * (0 + 1 * 0 * 1)) + (-1) * x45 * (0 + 1 * (-x45) * 1))) + (-1) * x34 * ((0 + 1 * (-x34) * (0 + 1 * 0 * 1)) + (-1) * x45 * (0 + 1 * (-x35) * 1))) + 1 * x35 * ((0 + 1 * (-x34) * (0 + 1 * (-x45) * 1)) + (-1) * 0 * (0 + 1 * (-x35) * 1)))) + (-1) * x23 * (((0 + 1 * (-x03) * ((0 + 1 * 0 * (0 + 1 * 0 * 1)) + (-1) * x45 * (0 + 1 * (-x45) * 1))) + (-1) * x34 * ((0 + 1 * (-x04) * (0 + 1 * 0 * 1)) + (-1) * x45 * (0 + 1 * (-x05) * 1))) + 1 * x35 * ((0 + 1 * (-x04) * (0 + 1 * (-x45) * 1)) + (-1) * 0 * (0 + 1 * (-x05) * 1)))) + 1 * x24 * (((0 + 1 * (-x03) * ((0 + 1 * (-x34) * (0 + 1 * 0 * 1)) + (-1) * x45 * (0 + 1 * (-x35) * 1))) + (-1) * 0 * ((0 + 1 * (-x04) * (0 + 1 * 0 * 1)) + (-1) * x45 * (0 + 1 * (-x05) * 1))) + 1 * x35 * ((0 + 1 * (-x04) * (0 + 1 * (-x35) * 1)) + (-1) * (-x34) * (0 + 1 * (-x05) * 1)))) + (-1) * x25 * (((0 + 1 * (-x03) * ((0 + 1 * (-x34) * (0 + 1 * (-x45) * 1)) + (-1) * 0 * (0 + 1 * (-x35) * 1))) + (-1) * 0 * ((0 + 1 * (-x04) * (0 + 1 * (-x45) * 1)) + (-1) * 0 * (0 + 1 * (-x05) * 1))) + 1 * x34 * ((0 + 1 * (-x04) * (0 + 1 * (-x35) * 1)) + (-1) * (-x34) * (0 + 1 * (-x05) * 1))))) + 1 * x13 * ((((0 + 1 * (-x02) * (((0 + 1 * (-x13) * ((0 + 1 * 0 * (0 + 1 * 0 * 1)) + (-1) * x45 * (0 + 1 * (-x45) * 1))) + (-1) * x34 * ((0 + 1 * (-x14) * (0 + 1 * 0 * 1)) + (-1) * x45 * (0 + 1 * (-x15) * 1))) + 1 * x35 * ((0 + 1 * (-x14) * (0 + 1 * (-x45) * 1)) + (-1) * 0 * (0 + 1 * (-x15) * 1)))) + (-1) * (-x12) * (((0 + 1 * (-x03) * ((0 + 1 * 0 * (0 + 1 * 0 * 1)) + (-1) * x45 * (0 + 1 * (-x45) * 1))) + (-1) * x34 * ((0 + 1 * (-x04) * (0 + 1 * 0 * 1)) + (-1) * x45 * (0 + 1 * (-x05) * 1))) + 1 * x35 * ((0 + 1 * (-x04) * (0 + 1 * (-x45) * 1)) + (-1) * 0 * (0 + 1 * (-x05) * 1)))) + 1 * x24 * (((0 + 1 * (-x03) * ((0 + 1 * (-x14) * (0 + 1 * 0 * 1)) + (-1) * x45 * (0 + 1 * (-x15) * 1))) + (-1) * (-x13) * ((0 + 1 * (-x04) * (0 + 1 * 0 * 1)) + (-1) * x45 * (0 + 1 * (-x05) * 1))) + 1 * x35 * ((0 + 1 * (-x04) * (0 + 1 * (-x15) * 1)) + (-1) * (-x14) * (0 + 1 * (-x05) * 1)))) + (-1) * x25 * (((0 + 1 * (-x03) * ((0 + 1 * (-x14) * (0 + 1 * (-x45) * 1)) + (-1) * 0 * (0 + 1 * (-x15) * 1))) + (-1) * (-x13) * ((0 + 1 * (-x04) * (0 + 1 * (-x45) * 1)) + (-1) * 0 * (0 + 1 * (-x05) * 1))) + 1 * x34 * ((0 + 1 * (-x04) * (0 + 1 * (-x15) * 1)) + (-1) * (-x14) * (0 + 1 * (-x05) * 1))))) + (-1) * x14 * ((((0 + 1 * (-x02) * (((0 + 1 * (-x13) * ((0 + 1 * (-x34) * (0 + 1 * 0 * 1)) + (-1) * x45 * (0 + 1 * (-x35) * 1))) + (-1) * 0 * ((0 + 1 * (-x14) * (0 + 1 * 0 * 1)) + (-1) * x45 * (0 + 1 * (-x15) * 1))) + 1 * x35 * ((0 + 1 * (-x14) * (0 + 1 * (-x35) * 1)) + (-1) * (-x34) * (0 + 1 * (-x15) * 1)))) + (-1) * (-x12) * (((0 + 1 * (-x03) * ((0 + 1 * (-x34) * (0 + 1 * 0 * 1)) + (-1) * x45 * (0 + 1 * (-x35) * 1))) + (-1) * 0 * ((0 + 1 * (-x04) * (0 + 1 * 0 * 1)) + (-1) * x45 * (0 + 1 * (-x05) * 1))) + 1 * x35 * ((0 + 1 * (-x04) * (0 + 1 * (-x35) * 1)) + (-1) * (-x34) * (0 + 1 * (-x05) * 1)))) + 1 * x23 * (((0 + 1 * (-x03) * ((0 + 1 * (-x14) * (0 + 1 * 0 * 1)) + (-1) * x45 * (0 + 1 * (-x15) * 1))) + (-1) * (-x13) * ((0 + 1 * (-x04) * (0 + 1 * 0 * 1)) + (-1) * x45 * (0 + 1 * (-x05) * 1))) + 1 * x35 * ((0 + 1 * (-x04) * (0 + 1 * (-x15) * 1)) + (-1) * (-x14) * (0 + 1 * (-x05) * 1)))) + (-1) * x25 * (((0 + 1 * (-x03) * ((0 + 1 * (-x14) * (0 + 1 * (-x35) * 1)) + (-1) * (-x34) * (0 + 1 * (-x15) * 1))) + (-1) * (-x13) * ((0 + 1 * (-x04) * (0 + 1 * (-x35) * 1)) + (-1) * (-x34) * (0 + 1 * (-x05) * 1))) + 1 * 0 * ((0 + 1 * (-x04) * (0 + 1 * (-x15) * 1)) + (-1) * (-x14) * (0 + 1 * (-x05) * 1))))) + 1 * x15 * ((((0 + 1 * (-x02) * (((0 + 1 * (-x13) * ((0 + 1 * (-x34) * (0 + 1 * (-x45) * 1)) + (-1) * 0 * (0 + 1 * (-x35) * 1))) + (-1) * 0 * ((0 + 1 * (-x14) * (0 + 1 * (-x45) * 1)) + (-1) * 0 * (0 + 1 * (-x15) * 1))) + 1 * x34 * ((0 + 1 * (-x14) * (0 + 1 * (-x35) * 1)) + (-1) * (-x34) * (0 + 1 * (-x15) * 1)))) + (-1) * (-x12) * (((0 + 1 * (-x03) * ((0 + 1 * (-x34) * (0 + 1 * (-x45) * 1)) + (-1) * 0 * (0 + 1 * (-x35) * 1))) + (-1) * 0 * ((0 + 1 * (-x04) * (0 + 1 * (-x45) * 1)) + (-1) * 0 * (0 + 1 * (-x05) * 1))) + 1 * x34 * ((0 + 1 * (-x04) * (0 + 1 * (-x35) * 1)) + (-1) * (-x34) * (0 + 1 * (-x05) * 1)))) + 1 * x23 * (((0 + 1 * (-x03) * ((0 + 1 * (-x14) * (0 + 1 * (-x45) * 1)) + (-1) * 0 * (0 + 1 * (-x15) * 1))) + (-1) * (-x13) * ((0 + 1 * (-x04) * (0 + 1 * (-x45) * 1)) + (-1) * 0 * (0 + 1 * (-x05) * 1))) + 1 * x34 * ((0 + 1 * (-x04) * (0 + 1 * (-x15) * 1)) + (-1) * (-x14) * (0 + 1 * (-x05) * 1)))) + (-1) * x24 * (((0 + 1 * (-x03) * ((0 + 1 * (-x14) * (0 + 1 * (-x35) * 1)) + (-1) * (-x34) * (0 + 1 * (-x15) * 1))) + (-1) * (-x13) * ((0 + 1 * (-x04) * (0 + 1 * (-x35) * 1)) + (-1) * (-x34) * (0 + 1 * (-x05) * 1))) + 1 * 0 * ((0 + 1 * (-x04) * (0 + 1 * (-x15) * 1)) + (-1) * (-x14) * (0 + 1 * (-x05) * 1)))))) + (-1) * x03 * (((((0 + 1 * (-x01) * ((((0 + 1 * (-x12) * (((0 + 1 * (-x23) * ((0 + 1 * 0 * (0 + 1 * 0 * 1)) + (-1) * x45 * (0 + 1 * (-x45) * 1))) + (-1) * x34 * ((0 + 1 * (-x24) * (0 + 1 * 0 * 1)) + (-1) * x45 * (0 + 1 * (-x25) * 1))) + 1 * x35 * ((0 + 1 * (-x24) * (0 + 1 * (-x45) * 1)) + (-1) * 0 * (0 + 1 * (-x25) * 1)))) + (-1) * 0 * (((0 + 1 * (-x13) * ((0 + 1 * 0 * (0 + 1 * 0 * 1)) + (-1) * x45 * (0 + 1 * (-x45) * 1))) + (-1) * x34 * ((0 + 1 * (-x14) * (0 + 1 * 0 * 1)) + (-1) * x45 * (0 + 1 * (-x15) * 1))) + 1 * x35 * ((0 + 1 * (-x14) * (0 + 1 * (-x45) * 1)) + (-1) * 0 * (0 + 1 * (-x15) * 1)))) + 1 * x24 * (((0 + 1 * (-x13) * ((0 + 1 * (-x24) * (0 + 1 * 0 * 1)) + (-1) * x45 * (0 + 1 * (-x25) * 1))) + (-1) * (-x23) * ((0 + 1 * (-x14) * (0 + 1 * 0 * 1)) + (-1) * x45 * (0 + 1 * (-x15) * 1))) + 1 * x35 * ((0 + 1 * (-x14) * (0 + 1 * (-x25) * 1)) + (-1) * (-x24) * (0 + 1 * (-x15) * 1)))) + (-1) * x25 * (((0 + 1 * (-x13) * ((0 + 1 * (-x24) * (0 + 1 * (-x45) * 1)) + (-1) * 0 * (0 + 1 * (-x25) * 1))) + (-1) * (-x23) * ((0 + 1 * (-x14) * (0 + 1 * (-x45) * 1)) + (-1) * 0 * (0 + 1 * (-x15) * 1))) + 1 * x34 * ((0 + 1 * (-x14) * (0 + 1 * (-x25) * 1)) + (-1) * (-x24) * (0 + 1 * (-x15) * 1))))) + (-1) * 0 * ((((0 + 1 * (-x02) * (((0 + 1 * (-x23) * ((0 + 1 * 0 * (0 + 1 * 0 * 1)) + (-1) * x45 * (0 + 1 * (-x45) * 1))) + (-1) * x34 * ((0 + 1 * (-x24) * (0 + 1 * 0 * 1)) + (-1) * x45 * (0 + 1 * (-x25) * 1))) + 1 * x35 * ((0 + 1 * (-x24) * (0 + 1 * (-x45) * 1)) + (-1) * 0 * (0 + 1 * (-x25) * 1)))) + (-1) * 0 * (((0 + 1 * (-x03) * ((0 + 1 * 0 * (0 + 1 * 0 * 1)) + (-1) * x45 * (0 + 1 * (-x45) * 1))) + (-1) * x34 * ((0 + 1 * (-x04) * (0 + 1 * 0 * 1)) + (-1) * x45 * (0 + 1 * (-x05) * 1))) + 1 * x35 * ((0 + 1 * (-x04) * (0 + 1 * (-x45) * 1)) + (-1) * 0 * (0 + 1 * (-x05) * 1)))) + 1 * x24 * (((0 + 1 * (-x03) * ((0 + 1 * (-x24) * (0 + 1 * 0 * 1)) + (-1) * x45 * (0 + 1 * (-x25) * 1))) + (-1) * (-x23) * ((0 + 1 * (-x04) * (0 + 1 * 0 * 1)) + (-1) * x45 * (0 + 1 * (-x05) * 1))) + 1 * x35 * ((0 + 1 * (-x04) * (0 + 1 * (-x25) * 1)) + (-1) * (-x24) * (0 + 1 * (-x05) * 1)))) + (-1) * x25 * (((0 + 1 * (-x03) * ((0 + 1 * (-x24) * (0 + 1 * (-x45) * 1)) + (-1) * 0 * (0 + 1 * (-x25) * 1))) + (-1) * (-x23) * ((0 + 1 * (-x04) * (0 + 1 * (-x45) * 1)) + (-1) * 0 * (0 + 1 * (-x05) * 1))) + 1 * x34 * ((0 + 1 * (-x04) * (0 + 1 * (-x25) * 1)) + (-1) * (-x24) * (0 + 1 * (-x05) * 1))))) + 1 * x12 * ((((0 + 1 * (-x02) * (((0 + 1 * (-x13) * ((0 + 1 * 0 * (0 + 1 * 0 * 1)) + (-1) * x45 * (0 + 1 * (-x45) * 1))) + (-1) * x34 * ((0 + 1 * (-x14) * (0 + 1 * 0 * 1)) + (-1) * x45 * (0 + 1 * (-x15) * 1))) + 1 * x35 * ((0 + 1 * (-x14) * (0 + 1 * (-x45) * 1)) + (-1) * 0 * (0 + 1 * (-x15) * 1)))) + (-1) * (-x12) * (((0 + 1 * (-x03) * ((0 + 1 * 0 * (0 + 1 * 0 * 1)) + (-1) * x45 * (0 + 1 * (-x45) * 1))) + (-1) * x34 * ((0 + 1 * (-x04) * (0 + 1 * 0 * 1)) + (-1) * x45 * (0 + 1 * (-x05) * 1))) + 1 * x35 * ((0 + 1 * (-x04) * (0 + 1 * (-x45) * 1)) + (-1) * 0 * (0 + 1 * (-x05) * 1)))) + 1 * x24 * (((0 + 1 * (-x03) * ((0 + 1 * (-x14) * (0 + 1 * 0 * 1)) + (-1) * x45 * (0 + 1 * (-x15) * 1))) + (-1) * (-x13) * ((0 + 1 * (-x04) * (0 + 1 * 0 * 1)) + (-1) * x45 * (0 + 1 * (-x05) * 1))) + 1 * x35 * ((0 + 1 * (-x04) * (0 + 1 * (-x15) * 1)) + (-1) * (-x14) * (0 + 1 * (-x05) * 1)))) + (-1) * x25 * (((0 + 1 * (-x03) * ((0 + 1 * (-x14) * (0 + 1 * (-x45) * 1)) + (-1) * 0 * (0 + 1 * (-x15) * 1))) + (-1) * (-x13) * ((0 + 1 * (-x04) * (0 + 1 * (-x45) * 1)) + (-1) * 0 * (0 + 1 * (-x05) * 1))) + 1 * x34 * ((0 + 1 * (-x04) * (0 + 1 * (-x15) * 1)) + (-1) * (-x14) * (0 + 1 * (-x05) * 1))))) + (-1) * x14 * ((((0 + 1 * (-x02) * (((0 + 1 * (-x13) * ((0 + 1 * (-x24) * (0 + 1 * 0 * 1)) + (-1) * x45 * (0 + 1 * (-x25) * 1))) + (-1) * (-x23) * ((0 + 1 * (-x14) * (0 + 1 * 0 * 1)) + (-1) * x45 * (0 + 1 * (-x15) * 1))) + 1 * x35 * ((0 + 1 * (-x14) * (0 + 1 * (-x25) * 1)) + (-1) * (-x24) * (0 + 1 * (-x15) * 1)))) + (-1) * (-x12) * (((0 + 1 * (-x03) * ((0 + 1 * (-x24) * (0 + 1 * 0 * 1)) + (-1) * x45 * (0 + 1 * (-x25) * 1))) + (-1) * (-x23) * ((0 + 1 * (-x04) * (0 + 1 * 0 * 1)) + (-1) * x45 * (0 + 1 * (-x05) * 1))) + 1 * x35 * ((0 + 1 * (-x04) * (0 + 1 * (-x25) * 1)) + (-1) * (-x24) * (0 + 1 * (-x05) * 1)))) + 1 * 0 * (((0 + 1 * (-x03) * ((0 + 1 * (-x14) * (0 + 1 * 0 * 1)) + (-1) * x45 * (0 + 1 * (-x15) * 1))) + (-1) * (-x13) * ((0 + 1 * (-x04) * (0 + 1 * 0 * 1)) + (-1) * x45 * (0 + 1 * (-x05) * 1))) + 1 * x35 * ((0 + 1 * (-x04) * (0 + 1 * (-x15) * 1)) + (-1) * (-x14) * (0 + 1 * (-x05) * 1)))) + (-1) * x25 * (((0 + 1 * (-x03) * ((0 + 1 * (-x14) * (0 + 1 * (-x25) * 1)) + (-1) * (-x24) * (0 + 1 * (-x15) * 1))) + (-1) * (-x13) * ((0 + 1 * (-x04) * (0 + 1 * (-x25) * 1)) + (-1) * (-x24) * (0 + 1 * (-x05) * 1))) + 1 * (-x23) * ((0 + 1 * (-x04) * (0 + 1 * (-x15) * 1)) + (-1) * (-x14) * (0 + 1 * (-x05) * 1))))) + 1 * x15 * ((((0 + 1 * (-x02) * (((0 + 1 * (-x13) * ((0 + 1 * (-x24) * (0 + 1 * (-x45) * 1)) + (-1) * 0 * (0 + 1 * (-x25) * 1))) + (-1) * (-x23) * ((0 + 1 * (-x14) * (0 + 1 * (-x45) * 1)) + (-1) * 0 * (0 + 1 * (-x15) * 1))) + 1 * x34 * ((0 + 1 * (-x14) * (0 + 1 * (-x25) * 1)) + (-1) * (-x24) * (0 + 1 * (-x15) * 1)))) + (-1) * (-x12) * (((0 + 1 * (-x03) * ((0 + 1 * (-x24) * (0 + 1 * (-x45) * 1)) + (-1) * 0 * (0 + 1 * (-x25) * 1))) + (-1) * (-x23) * ((0 + 1 * (-x04) * (0 + 1 * (-x45) * 1)) + (-1) * 0 * (0 + 1 * (-x05) * 1))) + 1 * x34 * ((0 + 1 * (-x04) * (0 + 1 * (-x25) * 1)) + (-1) * (-x24) * (0 + 1 * (-x05) * 1)))) + 1 * 0 * (((0 + 1 * (-x03) * ((0 + 1 * (-x14) * (0 + 1 * (-x45) * 1)) + (-1) * 0 * (0 + 1 * (-x15) * 1))) + (-1) * (-x13) * ((0 + 1 * (-x04) * (0 + 1 * (-x45) * 1)) + (-1) * 0 * (0 + 1 * (-x05) * 1))) + 1 * x34 * ((0 + 1 * (-x04) * (0 + 1 * (-x15) * 1)) + (-1) * (-x14) * (0 + 1 * (-x05) * 1)))) + (-1) * x24 * (((0 + 1 * (-x03) * ((0 + 1 * (-x14) * (0 + 1 * (-x25) * 1)) + (-1) * (-x24) * (0 + 1 * (-x15) * 1))) + (-1) * (-x13) * ((0 + 1 * (-x04) * (0 + 1 * (-x25) * 1)) + (-1) * (-x24) * (0 + 1 * (-x05) * 1))) + 1 * (-x23) * ((0 + 1 * (-x04) * (0 + 1 * (-x15) * 1)) + (-1) * (-x14) * (0 + 1 * (-x05) * 1)))))) + 1 * x04 * (((((0 + 1 * (-x01) * ((((0 + 1 * (-x12) * (((0 + 1 * (-x23) * ((0 + 1 * (-x34) * (0 + 1 * 0 * 1)) + (-1) * x45 * (0 + 1 * (-x35) * 1))) + (-1) * 0 * ((0 + 1 * (-x24) * (0 + 1 * 0 * 1)) + (-1) * x45 * (0 + 1 * (-x25) * 1))) + 1 * x35 * ((0 + 1 * (-x24) * (0 + 1 * (-x35) * 1)) + (-1) * (-x34) * (0 + 1 * (-x25) * 1)))) + (-1) * 0 * (((0 + 1 * (-x13) * ((0 + 1 * (-x34) * (0 + 1 * 0 * 1)) + (-1) * x45 * (0 + 1 * (-x35) * 1))) + (-1) * 0 * ((0 + 1 * (-x14) * (0 + 1 * 0 * 1)) + (-1) * x45 * (0 + 1 * (-x15) * 1))) + 1 * x35 * ((0 + 1 * (-x14) * (0 + 1 * (-x35) * 1)) + (-1) * (-x34) * (0 + 1 * (-x15) * 1)))) + 1 * x23 * (((0 + 1 * (-x13) * ((0 + 1 * (-x24) * (0 + 1 * 0 * 1)) + (-1) * x45 * (0 + 1 * (-x25) * 1))) + (-1) * (-x23) * ((0 + 1 * (-x14) * (0 + 1 * 0 * 1)) + (-1) * x45 * (0 + 1 * (-x15) * 1))) + 1 * x35 * ((0 + 1 * (-x14) * (0 + 1 * (-x25) * 1)) + (-1) * (-x24) * (0 + 1 * (-x15) * 1)))) + (-1) * x25 * (((0 + 1 * (-x13) * ((0 + 1 * (-x24) * (0 + 1 * (-x35) * 1)) + (-1) * (-x34) * (0 + 1 * (-x25) * 1))) + (-1) * (-x23) * ((0 + 1 * (-x14) * (0 + 1 * (-x35) * 1)) + (-1) * (-x34) * (0 + 1 * (-x15) * 1))) + 1 * 0 * ((0 + 1 * (-x14) * (0 + 1 * (-x25) * 1)) + (-1) * (-x24) * (0 + 1 * (-x15) * 1))))) + (-1) * 0 * ((((0 + 1 * (-x02) * (((0 + 1 * (-x23) * ((0 + 1 * (-x34) * (0 + 1 * 0 * 1)) + (-1) * x45 * (0 + 1 * (-x35) * 1))) + (-1) * 0 * ((0 + 1 * (-x24) * (0 + 1 * 0 * 1)) + (-1) * x45 * (0 + 1 * (-x25) * 1))) + 1 * x35 * ((0 + 1 * (-x24) * (0 + 1 * (-x35) * 1)) + (-1) * (-x34) * (0 + 1 * (-x25) * 1)))) + (-1) * 0 * (((0 + 1 * (-x03) * ((0 + 1 * (-x34) * (0 + 1 * 0 * 1)) + (-1) * x45 * (0 + 1 * (-x35) * 1))) + (-1) * 0 * ((0 + 1 * (-x04) * (0 + 1 * 0 * 1)) + (-1) * x45 * (0 + 1 * (-x05) * 1))) + 1 * x35 * ((0 + 1 * (-x04) * (0 + 1 * (-x35) * 1)) + (-1) * (-x34) * (0 + 1 * (-x05) * 1)))) + 1 * x23 * (((0 + 1 * (-x03) * ((0 + 1 * (-x24) * (0 + 1 * 0 * 1)) + (-1) * x45 * (0 + 1 * (-x25) * 1))) + (-1) * (-x23) * ((0 + 1 * (-x04) * (0 + 1 * 0 * 1)) + (-1) * x45 * (0 + 1 * (-x05) * 1))) + 1 * x35 * ((0 + 1 * (-x04) * (0 + 1 * (-x25) * 1)) + (-1) * (-x24) * (0 + 1 * (-x05) * 1)))) + (-1) * x25 * (((0 + 1 * (-x03) * ((0 + 1 * (-x24) * (0 + 1 * (-x35) * 1)) + (-1) * (-x34) * (0 + 1 * (-x25) * 1))) + (-1) * (-x23) * ((0 + 1 * (-x04) * (0 + 1 * (-x35) * 1)) + (-1) * (-x34) * (0 + 1 * (-x05) * 1))) + 1 * 0 * ((0 + 1 * (-x04) * (0 + 1 * (-x25) * 1)) + (-1) * (-x24) * (0 + 1 * (-x05) * 1))))) + 1 * x12 * ((((0 + 1 * (-x02) * (((0 + 1 * (-x13) * ((0 + 1 * (-x34) * (0 + 1 * 0 * 1)) + (-1) * x45 * (0 + 1 * (-x35) * 1))) + (-1) * 0 * ((0 + 1 * (-x14) * (0 + 1 * 0 * 1)) + (-1) * x45 * (0 + 1 * (-x15) * 1))) + 1 * x35 * ((0 + 1 * (-x14) * (0 + 1 * (-x35) * 1)) + (-1) * (-x34) * (0 + 1 * (-x15) * 1)))) + (-1) * (-x12) * (((0 + 1 * (-x03) * ((0 + 1 * (-x34) * (0 + 1 * 0 * 1)) + (-1) * x45 * (0 + 1 * (-x35) * 1))) + (-1) * 0 * ((0 + 1 * (-x04) * (0 + 1 * 0 * 1)) + (-1) * x45 * (0 + 1 * (-x05) * 1))) + 1 * x35 * ((0 + 1 * (-x04) * (0 + 1 * (-x35) * 1)) + (-1) * (-x34) * (0 + 1 * (-x05) * 1)))) + 1 * x23 * (((0 + 1 * (-x03) * ((0 + 1 * (-x14) * (0 + 1 * 0 * 1)) + (-1) * x45 * (0 + 1 * (-x15) * 1))) + (-1) * (-x13) * ((0 + 1 * (-x04) * (0 + 1 * 0 * 1)) + (-1) * x45 * (0 + 1 * (-x05) * 1))) + 1 * x35 * ((0 + 1 * (-x04) * (0 + 1 * (-x15) * 1)) + (-1) * (-x14) * (0 + 1 * (-x05) * 1)))) + (-1) * x25 * (((0 + 1 * (-x03) * ((0 + 1 * (-x14) * (0 + 1 * (-x35) * 1)) + (-1) * (-x34) * (0 + 1 * (-x15) * 1))) + (-1) * (-x13) * ((0 + 1 * (-x04) * (0 + 1 * (-x35) * 1)) + (-1) * (-x34) * (0 + 1 * (-x05) * 1))) + 1 * 0 * ((0 + 1 * (-x04) * (0 + 1 * (-x15) * 1)) + (-1) * (-x14) * (0 + 1 * (-x05) * 1))))) + (-1) * x13 * ((((0 + 1 * (-x02) * (((0 + 1 * (-x13) * ((0 + 1 * (-x24) * (0 + 1 * 0 * 1)) + (-1) * x45 * (0 + 1 * (-x25) * 1))) + (-1) * (-x23) * ((0 + 1 * (-x14) * (0 + 1 * 0 * 1)) + (-1) * x45 * (0 + 1 * (-x15) * 1))) + 1 * x35 * ((0 + 1 * (-x14) * (0 + 1 * (-x25) * 1)) + (-1) * (-x24) * (0 + 1 * (-x15) * 1)))) + (-1) * (-x12) * (((0 + 1 * (-x03) * ((0 + 1 * (-x24) * (0 + 1 * 0 * 1)) + (-1) * x45 * (0 + 1 * (-x25) * 1))) + (-1) * (-x23) * ((0 + 1 * (-x04) * (0 + 1 * 0 * 1)) + (-1) * x45 * (0 + 1 * (-x05) * 1))) + 1 * x35 * ((0 + 1 * (-x04) * (0 + 1 * (-x25) * 1)) + (-1) * (-x24) * (0 + 1 * (-x05) * 1)))) + 1 * 0 * (((0 + 1 * (-x03) * ((0 + 1 * (-x14) * (0 + 1 * 0 * 1)) + (-1) * x45 * (0 + 1 * (-x15) * 1))) + (-1) * (-x13) * ((0 + 1 * (-x04) * (0 + 1 * 0 * 1)) + (-1) * x45 * (0 + 1 * (-x05) * 1))) + 1 * x35 * ((0 + 1 * (-x04) * (0 + 1 * (-x15) * 1)) + (-1) * (-x14) * (0 + 1 * (-x05) * 1)))) + (-1) * x25 * (((0 + 1 * (-x03) * ((0 + 1 * (-x14) * (0 + 1 * (-x25) * 1)) + (-1) * (-x24) * (0 + 1 * (-x15) * 1))) + (-1) * (-x13) * ((0 + 1 * (-x04) * (0 + 1 * (-x25) * 1)) + (-1) * (-x24) * (0 + 1 * (-x05) * 1))) + 1 * (-x23) * ((0 + 1 * (-x04) * (0 + 1 * (-x15) * 1)) + (-1) * (-x14) * (0 + 1 * (-x05) * 1))))) + 1 * x15 * ((((0 + 1 * (-x02) * (((0 + 1 * (-x13) * ((0 + 1 * (-x24) * (0 + 1 * (-x35) * 1)) + (-1) * (-x34) * (0 + 1 * (-x25) * 1))) + (-1) * (-x23) * ((0 + 1 * (-x14) * (0 + 1 * (-x35) * 1)) + (-1) * (-x34) * (0 + 1 * (-x15) * 1))) + 1 * 0 * ((0 + 1 * (-x14) * (0 + 1 * (-x25) * 1)) + (-1) * (-x24) * (0 + 1 * (-x15) * 1)))) + (-1) * (-x12) * (((0 + 1 * (-x03) * ((0 + 1 * (-x24) * (0 + 1 * (-x35) * 1)) + (-1) * (-x34) * (0 + 1 * (-x25) * 1))) + (-1) * (-x23) * ((0 + 1 * (-x04) * (0 + 1 * (-x35) * 1)) + (-1) * (-x34) * (0 + 1 * (-x05) * 1))) + 1 * 0 * ((0 + 1 * (-x04) * (0 + 1 * (-x25) * 1)) + (-1) * (-x24) * (0 + 1 * (-x05) * 1)))) + 1 * 0 * (((0 + 1 * (-x03) * ((0 + 1 * (-x14) * (0 + 1 * (-x35) * 1)) + (-1) * (-x34) * (0 + 1 * (-x15) * 1))) + (-1) * (-x13) * ((0 + 1 * (-x04) * (0 + 1 * (-x35) * 1)) + (-1) * (-x34) * (0 + 1 * (-x05) * 1))) + 1 * 0 * ((0 + 1 * (-x04) * (0 + 1 * (-x15) * 1)) + (-1) * (-x14) * (0 + 1 * (-x05) * 1)))) + (-1) * x23 * (((0 + 1 * (-x03) * ((0 + 1 * (-x14) * (0 + 1 * (-x25) * 1)) + (-1) * (-x24) * (0 + 1 * (-x15) * 1))) + (-1) * (-x13) * ((0 + 1 * (-x04) * (0 + 1 * (-x25) * 1)) + (-1) * (-x24) * (0 + 1 * (-x05) * 1))) + 1 * (-x23) * ((0 + 1 * (-x04) * (0 + 1 * (-x15) * 1)) + (-1) * (-x14) * (0 + 1 * (-x05) * 1)))))) + (-1) * x05 * (((((0 + 1 * (-x01) * ((((0 + 1 * (-x12) * (((0 + 1 * (-x23) * ((0 + 1 * (-x34) * (0 + 1 * (-x45) * 1)) + (-1) * 0 * (0 + 1 * (-x35) * 1))) + (-1) * 0 * ((0 + 1 * (-x24) * (0 + 1 * (-x45) * 1)) + (-1) * 0 * (0 + 1 * (-x25) * 1))) + 1 * x34 * ((0 + 1 * (-x24) * (0 + 1 * (-x35) * 1)) + (-1) * (-x34) * (0 + 1 * (-x25) * 1)))) + (-1) * 0 * (((0 + 1 * (-x13) * ((0 + 1 * (-x34) * (0 + 1 * (-x45) * 1)) + (-1) * 0 * (0 + 1 * (-x35) * 1))) + (-1) * 0 * ((0 + 1 * (-x14) * (0 + 1 * (-x45) * 1)) + (-1) * 0 * (0 + 1 * (-x15) * 1))) + 1 * x34 * ((0 + 1 * (-x14) * (0 + 1 * (-x35) * 1)) + (-1) * (-x34) * (0 + 1 * (-x15) * 1)))) + 1 * x23 * (((0 + 1 * (-x13) * ((0 + 1 * (-x24) * (0 + 1 * (-x45) * 1)) + (-1) * 0 * (0 + 1 * (-x25) * 1))) + (-1) * (-x23) * ((0 + 1 * (-x14) * (0 + 1 * (-x45) * 1)) + (-1) * 0 * (0 + 1 * (-x15) * 1))) + 1 * x34 * ((0 + 1 * (-x14) * (0 + 1 * (-x25) * 1)) + (-1) * (-x24) * (0 + 1 * (-x15) * 1)))) + (-1) * x24 * (((0 + 1 * (-x13) * ((0 + 1 * (-x24) * (0 + 1 * (-x35) * 1)) + (-1) * (-x34) * (0 + 1 * (-x25) * 1))) + (-1) * (-x23) * ((0 + 1 * (-x14) * (0 + 1 * (-x35) * 1)) + (-1) * (-x34) * (0 + 1 * (-x15) * 1))) + 1 * 0 * ((0 + 1 * (-x14) * (0 + 1 * (-x25) * 1)) + (-1) * (-x24) * (0 + 1 * (-x15) * 1))))) + (-1) * 0 * ((((0 + 1 * (-x02) * (((0 + 1 * (-x23) * ((0 + 1 * (-x34) * (0 + 1 * (-x45) * 1)) + (-1) * 0 * (0 + 1 * (-x35) * 1))) + (-1) * 0 * ((0 + 1 * (-x24) * (0 + 1 * (-x45) * 1)) + (-1) * 0 * (0 + 1 * (-x25) * 1))) + 1 * x34 * ((0 + 1 * (-x24) * (0 + 1 * (-x35) * 1)) + (-1) * (-x34) * (0 + 1 * (-x25) * 1)))) + (-1) * 0 * (((0 + 1 * (-x03) * ((0 + 1 * (-x34) * (0 + 1 * (-x45) * 1)) + (-1) * 0 * (0 + 1 * (-x35) * 1))) + (-1) * 0 * ((0 + 1 * (-x04) * (0 + 1 * (-x45) * 1)) + (-1) * 0 * (0 + 1 * (-x05) * 1))) + 1 * x34 * ((0 + 1 * (-x04) * (0 + 1 * (-x35) * 1)) + (-1) * (-x34) * (0 + 1 * (-x05) * 1)))) + 1 * x23 * (((0 + 1 * (-x03) * ((0 + 1 * (-x24) * (0 + 1 * (-x45) * 1)) + (-1) * 0 * (0 + 1 * (-x25) * 1))) + (-1) * (-x23) * ((0 + 1 * (-x04) * (0 + 1 * (-x45) * 1)) + (-1) * 0 * (0 + 1 * (-x05) * 1))) + 1 * x34 * ((0 + 1 * (-x04) * (0 + 1 * (-x25) * 1)) + (-1) * (-x24) * (0 + 1 * (-x05) * 1)))) + (-1) * x24 * (((0 + 1 * (-x03) * ((0 + 1 * (-x24) * (0 + 1 * (-x35) * 1)) + (-1) * (-x34) * (0 + 1 * (-x25) * 1))) + (-1) * (-x23) * ((0 + 1 * (-x04) * (0 + 1 * (-x35) * 1)) + (-1) * (-x34) * (0 + 1 * (-x05) * 1))) + 1 * 0 * ((0 + 1 * (-x04) * (0 + 1 * (-x25) * 1)) + (-1) * (-x24) * (0 + 1 * (-x05) * 1))))) + 1 * x12 * ((((0 + 1 * (-x02) * (((0 + 1 * (-x13) * ((0 + 1 * (-x34) * (0 + 1 * (-x45) * 1)) + (-1) * 0 * (0 + 1 * (-x35) * 1))) + (-1) * 0 * ((0 + 1 * (-x14) * (0 + 1 * (-x45) * 1)) + (-1) * 0 * (0 + 1 * (-x15) * 1))) + 1 * x34 * ((0 + 1 * (-x14) * (0 + 1 * (-x35) * 1)) + (-1) * (-x34) * (0 + 1 * (-x15) * 1)))) + (-1) * (-x12) * (((0 + 1 * (-x03) * ((0 + 1 * (-x34) * (0 + 1 * (-x45) * 1)) + (-1) * 0 * (0 + 1 * (-x35) * 1))) + (-1) * 0 * ((0 + 1 * (-x04) * (0 + 1 * (-x45) * 1)) + (-1) * 0 * (0 + 1 * (-x05) * 1))) + 1 * x34 * ((0 + 1 * (-x04) * (0 + 1 * (-x35) * 1)) + (-1) * (-x34) * (0 + 1 * (-x05) * 1)))) + 1 * x23 * (((0 + 1 * (-x03) * ((0 + 1 * (-x14) * (0 + 1 * (-x45) * 1)) + (-1) * 0 * (0 + 1 * (-x15) * 1))) + (-1) * (-x13) * ((0 + 1 * (-x04) * (0 + 1 * (-x45) * 1)) + (-1) * 0 * (0 + 1 * (-x05) * 1))) + 1 * x34 * ((0 + 1 * (-x04) * (0 + 1 * (-x15) * 1)) + (-1) * (-x14) * (0 + 1 * (-x05) * 1)))) + (-1) * x24 * (((0 + 1 * (-x03) * ((0 + 1 * (-x14) * (0 + 1 * (-x35) * 1)) + (-1) * (-x34) * (0 + 1 * (-x15) * 1))) + (-1) * (-x13) * ((0 + 1 * (-x04) * (0 + 1 * (-x35) * 1)) + (-1) * (-x34) * (0 + 1 * (-x05) * 1))) + 1 * 0 * ((0 + 1 * (-x04) * (0 + 1 * (-x15) * 1)) + (-1) * (-x14) * (0 + 1 * (-x05) * 1))))) + (-1) * x13 * ((((0 + 1 * (-x02) * (((0 + 1 * (-x13) * ((0 + 1 * (-x24) * (0 + 1 * (-x45) * 1)) + (-1) * 0 * (0 + 1 * (-x25) * 1))) + (-1) * (-x23) * ((0 + 1 * (-x14) * (0 + 1 * (-x45) * 1)) + (-1) * 0 * (0 + 1 * (-x15) * 1))) + 1 * x34 * ((0 + 1 * (-x14) * (0 + 1 * (-x25) * 1)) + (-1) * (-x24) * (0 + 1 * (-x15) * 1)))) + (-1) * (-x12) * (((0 + 1 * (-x03) * ((0 + 1 * (-x24) * (0 + 1 * (-x45) * 1)) + (-1) * 0 * (0 + 1 * (-x25) * 1))) + (-1) * (-x23) * ((0 + 1 * (-x04) * (0 + 1 * (-x45) * 1)) + (-1) * 0 * (0 + 1 * (-x05) * 1))) + 1 * x34 * ((0 + 1 * (-x04) * (0 + 1 * (-x25) * 1)) + (-1) * (-x24) * (0 + 1 * (-x05) * 1)))) + 1 * 0 * (((0 + 1 * (-x03) * ((0 + 1 * (-x14) * (0 + 1 * (-x45) * 1)) + (-1) * 0 * (0 + 1 * (-x15) * 1))) + (-1) * (-x13) * ((0 + 1 * (-x04) * (0 + 1 * (-x45) * 1)) + (-1) * 0 * (0 + 1 * (-x05) * 1))) + 1 * x34 * ((0 + 1 * (-x04) * (0 + 1 * (-x15) * 1)) + (-1) * (-x14) * (0 + 1 * (-x05) * 1)))) + (-1) * x24 * (((0 + 1 * (-x03) * ((0 + 1 * (-x14) * (0 + 1 * (-x25) * 1)) + (-1) * (-x24) * (0 + 1 * (-x15) * 1))) + (-1) * (-x13) * ((0 + 1 * (-x04) * (0 + 1 * (-x25) * 1)) + (-1) * (-x24) * (0 + 1 * (-x05) * 1))) + 1 * (-x23) * ((0 + 1 * (-x04) * (0 + 1 * (-x15) * 1)) + (-1) * (-x14) * (0 + 1 * (-x05) * 1))))) + 1 * x14 * ((((0 + 1 * (-x02) * (((0 + 1 * (-x13) * ((0 + 1 * (-x24) * (0 + 1 * (-x35) * 1)) + (-1) * (-x34) * (0 + 1 * (-x25) * 1))) + (-1) * (-x23) * ((0 + 1 * (-x14) * (0 + 1 * (-x35) * 1)) + (-1) * (-x34) * (0 + 1 * (-x15) * 1))) + 1 * 0 * ((0 + 1 * (-x14) * (0 + 1 * (-x25) * 1)) + (-1) * (-x24) * (0 + 1 * (-x15) * 1)))) + (-1) * (-x12) * (((0 + 1 * (-x03) * ((0 + 1 * (-x24) * (0 + 1 * (-x35) * 1)) + (-1) * (-x34) * (0 + 1 * (-x25) * 1))) + (-1) * (-x23) * ((0 + 1 * (-x04) * (0 + 1 * (-x35) * 1)) + (-1) * (-x34) * (0 + 1 * (-x05) * 1))) + 1 * 0 * ((0 + 1 * (-x04) * (0 + 1 * (-x25) * 1)) + (-1) * (-x24) * (0 + 1 * (-x05) * 1)))) + 1 * 0 * (((0 + 1 * (-x03) * ((0 + 1 * (-x14) * (0 + 1 * (-x35) * 1)) + (-1) * (-x34) * (0 + 1 * (-x15) * 1))) + (-1) * (-x13) * ((0 + 1 * (-x04) * (0 + 1 * (-x35) * 1)) + (-1) * (-x34) * (0 + 1 * (-x05) * 1))) + 1 * 0 * ((0 + 1 * (-x04) * (0 + 1 * (-x15) * 1)) + (-1) * (-x14) * (0 + 1 * (-x05) * 1)))) + (-1) * x23 * (((0 + 1 * (-x03) * ((0 + 1 * (-x14) * (0 + 1 * (-x25) * 1)) + (-1) * (-x24) * (0 + 1 * (-x15) * 1))) + (-1) * (-x13) * ((0 + 1 * (-x04) * (0 + 1 * (-x25) * 1)) + (-1) * (-x24) * (0 + 1 * (-x05) * 1))) + 1 * (-x23) * ((0 + 1 * (-x04) * (0 + 1 * (-x15) * 1)) + (-1) * (-x14) * (0 + 1 * (-x05) * 1)))))) = _
  unfold P6
  grind
theorem pf_sq1 {f : Nat → Nat → Int} (h : Skw f) : pf 1 f * pf 1 f = dt 1 f := by
  have e : dt 1 f = dt 1 M1 := dt_congr 1 fun a b ha hb => by
    have ca : a = 0 := by omega
    have cb : b = 0 := by omega
    rcases ca with rfl <;> rcases cb with rfl <;> first | rfl | exact h _ _ | exact h.diag _
  rw [e, dt_M1, pf_odd _ _ (by decide)]
  rfl
theorem pf_sq2 {f : Nat → Nat → Int} (h : Skw f) : pf 2 f * pf 2 f = dt 2 f := by
  have e : dt 2 f = dt 2 (M2 (f 0 1)) := dt_congr 2 fun a b ha hb => by
    have ca : a = 0 ∨ a = 1 := by omega
    have cb : b = 0 ∨ b = 1 := by omega
    rcases ca with rfl | rfl <;> rcases cb with rfl | rfl <;> first | rfl | exact h _ _ | exact h.diag _
  rw [e, dt_M2, pf_two]
theorem pf_sq3 {f : Nat → Nat → Int} (h : Skw f) : pf 3 f * pf 3 f = dt 3 f := by
  have e : dt 3 f = dt 3 (M3 (f 0 1) (f 0 2) (f 1 2)) := dt_congr 3 fun a b ha hb => by
    have ca : a = 0 ∨ a = 1 ∨ a = 2 := by omega
    have cb : b = 0 ∨ b = 1 ∨ b = 2 := by omega
    rcases ca with rfl | rfl | rfl <;> rcases cb with rfl | rfl | rfl <;> first | rfl | exact h _ _ | exact h.diag _
  rw [e, dt_M3, pf_odd _ _ (by decide)]
  rfl
theorem pf_sq4 {f : Nat → Nat → Int} (h : Skw f) : pf 4 f * pf 4 f = dt 4 f := by
  have e : dt 4 f = dt 4 (M4 (f 0 1) (f 0 2) (f 0 3) (f 1 2) (f 1 3) (f 2 3)) := dt_congr 4 fun a b ha hb => by
    have ca : a = 0 ∨ a = 1 ∨ a = 2 ∨ a = 3 := by omega
    have cb : b = 0 ∨ b = 1 ∨ b = 2 ∨ b = 3 := by omega
    rcases ca with rfl | rfl | rfl | rfl <;> rcases cb with rfl | rfl | rfl | rfl <;> first | rfl | exact h _ _ | exact h.diag _
  rw [e, dt_M4, pf_four]
theorem pf_sq5 {f : Nat → Nat → Int} (h : Skw f) : pf 5 f * pf 5 f = dt 5 f := by
  have e : dt 5 f = dt 5 (M5 (f 0 1) (f 0 2) (f 0 3) (f 0 4) (f 1 2) (f 1 3) (f 1 4) (f 2 3) (f 2 4) (f 3 4)) := dt_congr 5 fun a b ha hb => by
    have ca : a = 0 ∨ a = 1 ∨ a = 2 ∨ a = 3 ∨ a = 4 := by omega
    have cb : b = 0 ∨ b = 1 ∨ b = 2 ∨ b = 3 ∨ b = 4 := by omega
    rcases ca with rfl | rfl | rfl | rfl | rfl <;> rcases cb with rfl | rfl | rfl | rfl | rfl <;> first | rfl | exact h _ _ | exact h.diag _
  rw [e, dt_M5, pf_odd _ _ (by decide)]
  rfl
theorem pf_sq6 {f : Nat → Nat → Int} (h : Skw f) : pf 6 f * pf 6 f = dt 6 f := by
  have e : dt 6 f = dt 6 (M6 (f 0 1) (f 0 2) (f 0 3) (f 0 4) (f 0 5) (f 1 2) (f 1 3) (f 1 4) (f 1 5) (f 2 3) (f 2 4) (f 2 5) (f 3 4) (f 3 5) (f 4 5)) := dt_congr 6 fun a b ha hb => by
    have ca : a = 0 ∨ a = 1 ∨ a = 2 ∨ a = 3 ∨ a = 4 ∨ a = 5 := by omega
    have cb : b = 0 ∨ b = 1 ∨ b = 2 ∨ b = 3 ∨ b = 4 ∨ b = 5 := by omega
    rcases ca with rfl | rfl | rfl | rfl | rfl | rfl <;> rcases cb with rfl | rfl | rfl | rfl | rfl | rfl <;> first | rfl | exact h _ _ | exact h.diag _
  rw [e, dt_M6, pf_six]
/-- Cayley: its square is the determinant. -/
theorem pf_sq {n : Nat} (hn : n ≤ 6) {f : Nat → Nat → Int} (h : Skw f) : pf n f * pf n f = dt n f := by
  have c : n = 0 ∨ n = 1 ∨ n = 2 ∨ n = 3 ∨ n = 4 ∨ n = 5 ∨ n = 6 := by omega
  rcases c with rfl | rfl | rfl | rfl | rfl | rfl | rfl
  · rfl
  · exact pf_sq1 h
  · exact pf_sq2 h
  · exact pf_sq3 h
  · exact pf_sq4 h
  · exact pf_sq5 h
  · exact pf_sq6 h
theorem pf_sw2_01 {f : Nat → Nat → Int} (h : Skw f) : pf 2 (fun a b => f (sw 0 1 a) (sw 0 1 b)) = -(pf 2 f) := by
  rw [pf_two, pf_two]
  show P2 (f 1 0) = -(P2 (f 0 1))
  rw [h 1 0]
  unfold P2
  grind
theorem pf_tm2_0 {k : Int} {f g : Nat → Nat → Int} (hg : ∀ a b, a < b → b < 2 → g a b = if a = 0 ∨ b = 0 then k * f a b else f a b) : pf 2 g = k * pf 2 f := by
  have g01 : g 0 1 = k * f 0 1 := hg 0 1 (by decide) (by decide)
  rw [pf_two, pf_two, g01]
  unfold P2
  grind
theorem pf_tm2_1 {k : Int} {f g : Nat → Nat → Int} (hg : ∀ a b, a < b → b < 2 → g a b = if a = 1 ∨ b = 1 then k * f a b else f a b) : pf 2 g = k * pf 2 f := by
  have g01 : g 0 1 = k * f 0 1 := hg 0 1 (by decide) (by decide)
  rw [pf_two, pf_two, g01]
  unfold P2
  grind
theorem pf_ad2_01 {k : Int} {f g : Nat → Nat → Int} (h : Skw f) (hg : ∀ a b, a < b → b < 2 → g a b = if a = 0 then f a b + k * f 1 b else if b = 0 then f a b + k * f a 1 else f a b) : pf 2 g = pf 2 f := by
  have g01 : g 0 1 = f 0 1 + k * f 1 1 := hg 0 1 (by decide) (by decide)
  rw [pf_two, pf_two, g01, h.diag 1]
  unfold P2
  grind
theorem pf_ad2_10 {k : Int} {f g : Nat → Nat → Int} (h : Skw f) (hg : ∀ a b, a < b → b < 2 → g a b = if a = 1 then f a b + k * f 0 b else if b = 1 then f a b + k * f a 0 else f a b) : pf 2 g = pf 2 f := by
  have g01 : g 0 1 = f 0 1 + k * f 0 0 := hg 0 1 (by decide) (by decide)
  rw [pf_two, pf_two, g01, h.diag 0]
  unfold P2
  grind
theorem pf_sw4_01 {f : Nat → Nat → Int} (h : Skw f) : pf 4 (fun a b => f (sw 0 1 a) (sw 0 1 b)) = -(pf 4 f) := by
  rw [pf_four, pf_four]
  show P4 (f 1 0) (f 1 2) (f 1 3) (f 0 2) (f 0 3) (f 2 3) = -(P4 (f 0 1) (f 0 2) (f 0 3) (f 1 2) (f 1 3) (f 2 3))
  rw [h 1 0]
  unfold P4
  grind
theorem pf_sw4_02 {f : Nat → Nat → Int} (h : Skw f) : pf 4 (fun a b => f (sw 0 2 a) (sw 0 2 b)) = -(pf 4 f) := by
  rw [pf_four, pf_four]
  show P4 (f 2 1) (f 2 0) (f 2 3) (f 1 0) (f 1 3) (f 0 3) = -(P4 (f 0 1) (f 0 2) (f 0 3) (f 1 2) (f 1 3) (f 2 3))
  rw [h 2 1, h 2 0, h 1 0]
  unfold P4
  grind
theorem pf_sw4_03 {f : Nat → Nat → Int} (h : Skw f) : pf 4 (fun a b => f (sw 0 3 a) (sw 0 3 b)) = -(pf 4 f) := by
  rw [pf_four, pf_four]
  show P4 (f 3 1) (f 3 2) (f 3 0) (f 1 2) (f 1 0) (f 2 0) = -(P4 (f 0 1) (f 0 2) (f 0 3) (f 1 2) (f 1 3) (f 2 3))
  rw [h 3 1, h 3 2, h 3 0, h 1 0, h 2 0]
  unfold P4
  grind
theorem pf_sw4_12 {f : Nat → Nat → Int} (h : Skw f) : pf 4 (fun a b => f (sw 1 2 a) (sw 1 2 b)) = -(pf 4 f) := by
  rw [pf_four, pf_four]
  show P4 (f 0 2) (f 0 1) (f 0 3) (f 2 1) (f 2 3) (f 1 3) = -(P4 (f 0 1) (f 0 2) (f 0 3) (f 1 2) (f 1 3) (f 2 3))
  rw [h 2 1]
  unfold P4
  grind
theorem pf_sw4_13 {f : Nat → Nat → Int} (h : Skw f) : pf 4 (fun a b => f (sw 1 3 a) (sw 1 3 b)) = -(pf 4 f) := by
  rw [pf_four, pf_four]
  show P4 (f 0 3) (f 0 2) (f 0 1) (f 3 2) (f 3 1) (f 2 1) = -(P4 (f 0 1) (f 0 2) (f 0 3) (f 1 2) (f 1 3) (f 2 3))
  rw [h 3 2, h 3 1, h 2 1]
  unfold P4
  grind
theorem pf_sw4_23 {f : Nat → Nat → Int} (h : Skw f) : pf 4 (fun a b => f (sw 2 3 a) (sw 2 3 b)) = -(pf 4 f) := by
  rw [pf_four, pf_four]
  show P4 (f 0 1) (f 0 3) (f 0 2) (f 1 3) (f 1 2) (f 3 2) = -(P4 (f 0 1) (f 0 2) (f 0 3) (f 1 2) (f 1 3) (f 2 3))
  rw [h 3 2]
  unfold P4
  grind
theorem pf_tm4_0 {k : Int} {f g : Nat → Nat → Int} (hg : ∀ a b, a < b → b < 4 → g a b = if a = 0 ∨ b = 0 then k * f a b else f a b) : pf 4 g = k * pf 4 f := by
  have g01 : g 0 1 = k * f 0 1 := hg 0 1 (by decide) (by decide)
  have g02 : g 0 2 = k * f 0 2 := hg 0 2 (by decide) (by decide)
  have g03 : g 0 3 = k * f 0 3 := hg 0 3 (by decide) (by decide)
  have g12 : g 1 2 = f 1 2 := hg 1 2 (by decide) (by decide)
  have g13 : g 1 3 = f 1 3 := hg 1 3 (by decide) (by decide)
  have g23 : g 2 3 = f 2 3 := hg 2 3 (by decide) (by decide)
  rw [pf_four, pf_four, g01, g02, g03, g12, g13, g23]
  unfold P4
  grind
theorem pf_tm4_1 {k : Int} {f g : Nat → Nat → Int} (hg : ∀ a b, a < b → b < 4 → g a b = if a = 1 ∨ b = 1 then k * f a b else f a b) : pf 4 g = k * pf 4 f := by
  have g01 : g 0 1 = k * f 0 1 := hg 0 1 (by decide) (by decide)
  have g02 : g 0 2 = f 0 2 := hg 0 2 (by decide) (by decide)
  have g03 : g 0 3 = f 0 3 := hg 0 3 (by decide) (by decide)
  have g12 : g 1 2 = k * f 1 2 := hg 1 2 (by decide) (by decide)
  have g13 : g 1 3 = k * f 1 3 := hg 1 3 (by decide) (by decide)
  have g23 : g 2 3 = f 2 3 := hg 2 3 (by decide) (by decide)
  rw [pf_four, pf_four, g01, g02, g03, g12, g13, g23]
  unfold P4
  grind
theorem pf_tm4_2 {k : Int} {f g : Nat → Nat → Int} (hg : ∀ a b, a < b → b < 4 → g a b = if a = 2 ∨ b = 2 then k * f a b else f a b) : pf 4 g = k * pf 4 f := by
  have g01 : g 0 1 = f 0 1 := hg 0 1 (by decide) (by decide)
  have g02 : g 0 2 = k * f 0 2 := hg 0 2 (by decide) (by decide)
  have g03 : g 0 3 = f 0 3 := hg 0 3 (by decide) (by decide)
  have g12 : g 1 2 = k * f 1 2 := hg 1 2 (by decide) (by decide)
  have g13 : g 1 3 = f 1 3 := hg 1 3 (by decide) (by decide)
  have g23 : g 2 3 = k * f 2 3 := hg 2 3 (by decide) (by decide)
  rw [pf_four, pf_four, g01, g02, g03, g12, g13, g23]
  unfold P4
  grind
theorem pf_tm4_3 {k : Int} {f g : Nat → Nat → Int} (hg : ∀ a b, a < b → b < 4 → g a b = if a = 3 ∨ b = 3 then k * f a b else f a b) : pf 4 g = k * pf 4 f := by
  have g01 : g 0 1 = f 0 1 := hg 0 1 (by decide) (by decide)
  have g02 : g 0 2 = f 0 2 := hg 0 2 (by decide) (by decide)
  have g03 : g 0 3 = k * f 0 3 := hg 0 3 (by decide) (by decide)
  have g12 : g 1 2 = f 1 2 := hg 1 2 (by decide) (by decide)
  have g13 : g 1 3 = k * f 1 3 := hg 1 3 (by decide) (by decide)
  have g23 : g 2 3 = k * f 2 3 := hg 2 3 (by decide) (by decide)
  rw [pf_four, pf_four, g01, g02, g03, g12, g13, g23]
  unfold P4
  grind
theorem pf_ad4_01 {k : Int} {f g : Nat → Nat → Int} (h : Skw f) (hg : ∀ a b, a < b → b < 4 → g a b = if a = 0 then f a b + k * f 1 b else if b = 0 then f a b + k * f a 1 else f a b) : pf 4 g = pf 4 f := by
  have g01 : g 0 1 = f 0 1 + k * f 1 1 := hg 0 1 (by decide) (by decide)
  have g02 : g 0 2 = f 0 2 + k * f 1 2 := hg 0 2 (by decide) (by decide)
  have g03 : g 0 3 = f 0 3 + k * f 1 3 := hg 0 3 (by decide) (by decide)
  have g12 : g 1 2 = f 1 2 := hg 1 2 (by decide) (by decide)
  have g13 : g 1 3 = f 1 3 := hg 1 3 (by decide) (by decide)
  have g23 : g 2 3 = f 2 3 := hg 2 3 (by decide) (by decide)
  rw [pf_four, pf_four, g01, g02, g03, g12, g13, g23, h.diag 1]
  unfold P4
  grind
theorem pf_ad4_02 {k : Int} {f g : Nat → Nat → Int} (h : Skw f) (hg : ∀ a b, a < b → b < 4 → g a b = if a = 0 then f a b + k * f 2 b else if b = 0 then f a b + k * f a 2 else f a b) : pf 4 g = pf 4 f := by
  have g01 : g 0 1 = f 0 1 + k * f 2 1 := hg 0 1 (by decide) (by decide)
  have g02 : g 0 2 = f 0 2 + k * f 2 2 := hg 0 2 (by decide) (by decide)
  have g03 : g 0 3 = f 0 3 + k * f 2 3 := hg 0 3 (by decide) (by decide)
  have g12 : g 1 2 = f 1 2 := hg 1 2 (by decide) (by decide)
  have g13 : g 1 3 = f 1 3 := hg 1 3 (by decide) (by decide)
  have g23 : g 2 3 = f 2 3 := hg 2 3 (by decide) (by decide)
  rw [pf_four, pf_four, g01, g02, g03, g12, g13, g23, h 2 1, h.diag 2]
  unfold P4
  grind
theorem pf_ad4_03 {k : Int} {f g : Nat → Nat → Int} (h : Skw f) (hg : ∀ a b, a < b → b < 4 → g a b = if a = 0 then f a b + k * f 3 b else if b = 0 then f a b + k * f a 3 else f a b) : pf 4 g = pf 4 f := by
  have g01 : g 0 1 = f 0 1 + k * f 3 1 := hg 0 1 (by decide) (by decide)
  have g02 : g 0 2 = f 0 2 + k * f 3 2 := hg 0 2 (by decide) (by decide)
  have g03 : g 0 3 = f 0 3 + k * f 3 3 := hg 0 3 (by decide) (by decide)
  have g12 : g 1 2 = f 1 2 := hg 1 2 (by decide) (by decide)
  have g13 : g 1 3 = f 1 3 := hg 1 3 (by decide) (by decide)
  have g23 : g 2 3 = f 2 3 := hg 2 3 (by decide) (by decide)
  rw [pf_four, pf_four, g01, g02, g03, g12, g13, g23, h 3 1, h 3 2, h.diag 3]
  unfold P4
  grind
theorem pf_ad4_10 {k : Int} {f g : Nat → Nat → Int} (h : Skw f) (hg : ∀ a b, a < b → b < 4 → g a b = if a = 1 then f a b + k * f 0 b else if b = 1 then f a b + k * f a 0 else f a b) : pf 4 g = pf 4 f := by
  have g01 : g 0 1 = f 0 1 + k * f 0 0 := hg 0 1 (by decide) (by decide)
  have g02 : g 0 2 = f 0 2 := hg 0 2 (by decide) (by decide)
  have g03 : g 0 3 = f 0 3 := hg 0 3 (by decide) (by decide)
  have g12 : g 1 2 = f 1 2 + k * f 0 2 := hg 1 2 (by decide) (by decide)
  have g13 : g 1 3 = f 1 3 + k * f 0 3 := hg 1 3 (by decide) (by decide)
  have g23 : g 2 3 = f 2 3 := hg 2 3 (by decide) (by decide)
  rw [pf_four, pf_four, g01, g02, g03, g12, g13, g23, h.diag 0]
  unfold P4
  grind
theorem pf_ad4_12 {k : Int} {f g : Nat → Nat → Int} (h : Skw f) (hg : ∀ a b, a < b → b < 4 → g a b = if a = 1 then f a b + k * f 2 b else if b = 1 then f a b + k * f a 2 else f a b) : pf 4 g = pf 4 f := by
  have g01 : g 0 1 = f 0 1 + k * f 0 2 := hg 0 1 (by decide) (by decide)
  have g02 : g 0 2 = f 0 2 := hg 0 2 (by decide) (by decide)
  have g03 : g 0 3 = f 0 3 := hg 0 3 (by decide) (by decide)
  have g12 : g 1 2 = f 1 2 + k * f 2 2 := hg 1 2 (by decide) (by decide)
  have g13 : g 1 3 = f 1 3 + k * f 2 3 := hg 1 3 (by decide) (by decide)
  have g23 : g 2 3 = f 2 3 := hg 2 3 (by decide) (by decide)
  rw [pf_four, pf_four, g01, g02, g03, g12, g13, g23, h.diag 2]
  unfold P4
  grind
theorem pf_ad4_13 {k : Int} {f g : Nat → Nat → Int} (h : Skw f) (hg : ∀ a b, a < b → b < 4 → g a b = if a = 1 then f a b + k * f 3 b else if b = 1 then f a b + k * f a 3 else f a b) : pf 4 g = pf 4 f := by
  have g01 : g 0 1 = f 0 1 + k * f 0 3 := hg 0 1 (by decide) (by decide)
  have g02 : g 0 2 = f 0 2 := hg 0 2 (by decide) (by decide)
  have g03 : g 0 3 = f 0 3 := hg 0 3 (by decide) (by decide)
  have g12 : g 1 2 = f 1 2 + k * f 3 2 := hg 1 2 (by decide) (by decide)
  have g13 : g 1 3 = f 1 3 + k * f 3 3 := hg 1 3 (by decide) (by decide)
  have g23 : g 2 3 = f 2 3 := hg 2 3 (by decide) (by decide)
  rw [pf_four, pf_four, g01, g02, g03, g12, g13, g23, h 3 2, h.diag 3]
  unfold P4
  grind
theorem pf_ad4_20 {k : Int} {f g : Nat → Nat → Int} (h : Skw f) (hg : ∀ a b, a < b → b < 4 → g a b = if a = 2 then f a b + k * f 0 b else if b = 2 then f a b + k * f a 0 else f a b) : pf 4 g = pf 4 f := by
  have g01 : g 0 1 = f 0 1 := hg 0 1 (by decide) (by decide)
  have g02 : g 0 2 = f 0 2 + k * f 0 0 := hg 0 2 (by decide) (by decide)
  have g03 : g 0 3 = f 0 3 := hg 0 3 (by decide) (by decide)
  have g12 : g 1 2 = f 1 2 + k * f 1 0 := hg 1 2 (by decide) (by decide)
  have g13 : g 1 3 = f 1 3 := hg 1 3 (by decide) (by decide)
  have g23 : g 2 3 = f 2 3 + k * f 0 3 := hg 2 3 (by decide) (by decide)
  rw [pf_four, pf_four, g01, g02, g03, g12, g13, g23, h.diag 0, h 1 0]
  unfold P4
  grind
theorem pf_ad4_21 {k : Int} {f g : Nat → Nat → Int} (h : Skw f) (hg : ∀ a b, a < b → b < 4 → g a b = if a = 2 then f a b + k * f 1 b else if b = 2 then f a b + k * f a 1 else f a b) : pf 4 g = pf 4 f := by
  have g01 : g 0 1 = f 0 1 := hg 0 1 (by decide) (by decide)
  have g02 : g 0 2 = f 0 2 + k * f 0 1 := hg 0 2 (by decide) (by decide)
  have g03 : g 0 3 = f 0 3 := hg 0 3 (by decide) (by decide)
  have g12 : g 1 2 = f 1 2 + k * f 1 1 := hg 1 2 (by decide) (by decide)
  have g13 : g 1 3 = f 1 3 := hg 1 3 (by decide) (by decide)
  have g23 : g 2 3 = f 2 3 + k * f 1 3 := hg 2 3 (by decide) (by decide)
  rw [pf_four, pf_four, g01, g02, g03, g12, g13, g23, h.diag 1]
  unfold P4
  grind
theorem pf_ad4_23 {k : Int} {f g : Nat → Nat → Int} (h : Skw f) (hg : ∀ a b, a < b → b < 4 → g a b = if a = 2 then f a b + k * f 3 b else if b = 2 then f a b + k * f a 3 else f a b) : pf 4 g = pf 4 f := by
  have g01 : g 0 1 = f 0 1 := hg 0 1 (by decide) (by decide)
  have g02 : g 0 2 = f 0 2 + k * f 0 3 := hg 0 2 (by decide) (by decide)
  have g03 : g 0 3 = f 0 3 := hg 0 3 (by decide) (by decide)
  have g12 : g 1 2 = f 1 2 + k * f 1 3 := hg 1 2 (by decide) (by decide)
  have g13 : g 1 3 = f 1 3 := hg 1 3 (by decide) (by decide)
  have g23 : g 2 3 = f 2 3 + k * f 3 3 := hg 2 3 (by decide) (by decide)
  rw [pf_four, pf_four, g01, g02, g03, g12, g13, g23, h.diag 3]
  unfold P4
  grind
theorem pf_ad4_30 {k : Int} {f g : Nat → Nat → Int} (h : Skw f) (hg : ∀ a b, a < b → b < 4 → g a b = if a = 3 then f a b + k * f 0 b else if b = 3 then f a b + k * f a 0 else f a b) : pf 4 g = pf 4 f := by
  have g01 : g 0 1 = f 0 1 := hg 0 1 (by decide) (by decide)
  have g02 : g 0 2 = f 0 2 := hg 0 2 (by decide) (by decide)
  have g03 : g 0 3 = f 0 3 + k * f 0 0 := hg 0 3 (by decide) (by decide)
  have g12 : g 1 2 = f 1 2 := hg 1 2 (by decide) (by decide)
  have g13 : g 1 3 = f 1 3 + k * f 1 0 := hg 1 3 (by decide) (by decide)
  have g23 : g 2 3 = f 2 3 + k * f 2 0 := hg 2 3 (by decide) (by decide)
  rw [pf_four, pf_four, g01, g02, g03, g12, g13, g23, h.diag 0, h 1 0, h 2 0]
  unfold P4
  grind
theorem pf_ad4_31 {k : Int} {f g : Nat → Nat → Int} (h : Skw f) (hg : ∀ a b, a < b → b < 4 → g a b = if a = 3 then f a b + k * f 1 b else if b = 3 then f a b + k * f a 1 else f a b) : pf 4 g = pf 4 f := by
  have g01 : g 0 1 = f 0 1 := hg 0 1 (by decide) (by decide)
  have g02 : g 0 2 = f 0 2 := hg 0 2 (by decide) (by decide)
  have g03 : g 0 3 = f 0 3 + k * f 0 1 := hg 0 3 (by decide) (by decide)
  have g12 : g 1 2 = f 1 2 := hg 1 2 (by decide) (by decide)
  have g13 : g 1 3 = f 1 3 + k * f 1 1 := hg 1 3 (by decide) (by decide)
  have g23 : g 2 3 = f 2 3 + k * f 2 1 := hg 2 3 (by decide) (by decide)
  rw [pf_four, pf_four, g01, g02, g03, g12, g13, g23, h.diag 1, h 2 1]
  unfold P4
  grind
theorem pf_ad4_32 {k : Int} {f g : Nat → Nat → Int} (h : Skw f) (hg : ∀ a b, a < b → b < 4 → g a b = if a = 3 then f a b + k * f 2 b else if b = 3 then f a b + k * f a 2 else f a b) : pf 4 g = pf 4 f := by
  have g01 : g 0 1 = f 0 1 := hg 0 1 (by decide) (by decide)
  have g02 : g 0 2 = f 0 2 := hg 0 2 (by decide) (by decide)
  have g03 : g 0 3 = f 0 3 + k * f 0 2 := hg 0 3 (by decide) (by decide)
  have g12 : g 1 2 = f 1 2 := hg 1 2 (by decide) (by decide)
  have g13 : g 1 3 = f 1 3 + k * f 1 2 := hg 1 3 (by decide) (by decide)
  have g23 : g 2 3 = f 2 3 + k * f 2 2 := hg 2 3 (by decide) (by decide)
  rw [pf_four, pf_four, g01, g02, g03, g12, g13, g23, h.diag 2]
  unfold P4
  grind
theorem pf_sw6_01 {f : Nat → Nat → Int} (h : Skw f) : pf 6 (fun a b => f (sw 0 1 a) (sw 0 1 b)) = -(pf 6 f) := by
  rw [pf_six, pf_six]
  show P6 (f 1 0) (f 1 2) (f 1 3) (f 1 4) (f 1 5) (f 0 2) (f 0 3) (f 0 4) (f 0 5) (f 2 3) (f 2 4) (f 2 5) (f 3 4) (f 3 5) (f 4 5) = -(P6 (f 0 1) (f 0 2) (f 0 3) (f 0 4) (f 0 5) (f 1 2) (f 1 3) (f 1 4) (f 1 5) (f 2 3) (f 2 4) (f 2 5) (f 3 4) (f 3 5) (f 4 5))
  rw [h 1 0]
  unfold P6
  grind
theorem pf_sw6_02 {f : Nat → Nat → Int} (h : Skw f) : pf 6 (fun a b => f (sw 0 2 a) (sw 0 2 b)) = -(pf 6 f) := by
  rw [pf_six, pf_six]
  show P6 (f 2 1) (f 2 0) (f 2 3) (f 2 4) (f 2 5) (f 1 0) (f 1 3) (f 1 4) (f 1 5) (f 0 3) (f 0 4) (f 0 5) (f 3 4) (f 3 5) (f 4 5) = -(P6 (f 0 1) (f 0 2) (f 0 3) (f 0 4) (f 0 5) (f 1 2) (f 1 3) (f 1 4) (f 1 5) (f 2 3) (f 2 4) (f 2 5) (f 3 4) (f 3 5) (f 4 5))
  rw [h 2 1, h 2 0, h 1 0]
  unfold P6
  grind
theorem pf_sw6_03 {f : Nat → Nat → Int} (h : Skw f) : pf 6 (fun a b => f (sw 0 3 a) (sw 0 3 b)) = -(pf 6 f) := by
  rw [pf_six, pf_six]
  show P6 (f 3 1) (f 3 2) (f 3 0) (f 3 4) (f 3 5) (f 1 2) (f 1 0) (f 1 4) (f 1 5) (f 2 0) (f 2 4) (f 2 5) (f 0 4) (f 0 5) (f 4 5) = -(P6 (f 0 1) (f 0 2) (f 0 3) (f 0 4) (f 0 5) (f 1 2) (f 1 3) (f 1 4) (f 1 5) (f 2 3) (f 2 4) (f 2 5) (f 3 4) (f 3 5) (f 4 5))
  rw [h 3 1, h 3 2, h 3 0, h 1 0, h 2 0]
  unfold P6
  grind
theorem pf_sw6_04 {f : Nat → Nat → Int} (h : Skw f) : pf 6 (fun a b => f (sw 0 4 a) (sw 0 4 b)) = -(pf 6 f) := by
  rw [pf_six, pf_six]
  show P6 (f 4 1) (f 4 2) (f 4 3) (f 4 0) (f 4 5) (f 1 2) (f 1 3) (f 1 0) (f 1 5) (f 2 3) (f 2 0) (f 2 5) (f 3 0) (f 3 5) (f 0 5) = -(P6 (f 0 1) (f 0 2) (f 0 3) (f 0 4) (f 0 5) (f 1 2) (f 1 3) (f 1 4) (f 1 5) (f 2 3) (f 2 4) (f 2 5) (f 3 4) (f 3 5) (f 4 5))
  rw [h 4 1, h 4 2, h 4 3, h 4 0, h 1 0, h 2 0, h 3 0]
  unfold P6
  grind
theorem pf_sw6_05 {f : Nat → Nat → Int} (h : Skw f) : pf 6 (fun a b => f (sw 0 5 a) (sw 0 5 b)) = -(pf 6 f) := by
  rw [pf_six, pf_six]
  show P6 (f 5 1) (f 5 2) (f 5 3) (f 5 4) (f 5 0) (f 1 2) (f 1 3) (f 1 4) (f 1 0) (f 2 3) (f 2 4) (f 2 0) (f 3 4) (f 3 0) (f 4 0) = -(P6 (f 0 1) (f 0 2) (f 0 3) (f 0 4) (f 0 5) (f 1 2) (f 1 3) (f 1 4) (f 1 5) (f 2 3) (f 2 4) (f 2 5) (f 3 4) (f 3 5) (f 4 5))
  rw [h 5 1, h 5 2, h 5 3, h 5 4, h 5 0, h 1 0, h 2 0, h 3 0, h 4 0]
  unfold P6
  grind
theorem pf_sw6_12 {f : Nat → Nat → Int} (h : Skw f) : pf 6 (fun a b => f (sw 1 2 a) (sw 1 2 b)) = -(pf 6 f) := by
  rw [pf_six, pf_six]
  show P6 (f 0 2) (f 0 1) (f 0 3) (f 0 4) (f 0 5) (f 2 1) (f 2 3) (f 2 4) (f 2 5) (f 1 3) (f 1 4) (f 1 5) (f 3 4) (f 3 5) (f 4 5) = -(P6 (f 0 1) (f 0 2) (f 0 3) (f 0 4) (f 0 5) (f 1 2) (f 1 3) (f 1 4) (f 1 5) (f 2 3) (f 2 4) (f 2 5) (f 3 4) (f 3 5) (f 4 5))
  rw [h 2 1]
  unfold P6
  grind
theorem pf_sw6_13 {f : Nat → Nat → Int} (h : Skw f) : pf 6 (fun a b => f (sw 1 3 a) (sw 1 3 b)) = -(pf 6 f) := by
  rw [pf_six, pf_six]
  show P6 (f 0 3) (f 0 2) (f 0 1) (f 0 4) (f 0 5) (f 3 2) (f 3 1) (f 3 4) (f 3 5) (f 2 1) (f 2 4) (f 2 5) (f 1 4) (f 1 5) (f 4 5) = -(P6 (f 0 1) (f 0 2) (f 0 3) (f 0 4) (f 0 5) (f 1 2) (f 1 3) (f 1 4) (f 1 5) (f 2 3) (f 2 4) (f 2 5) (f 3 4) (f 3 5) (f 4 5))
  rw [h 3 2, h 3 1, h 2 1]
  unfold P6
  grind
theorem pf_sw6_14 {f : Nat → Nat → Int} (h : Skw f) : pf 6 (fun a b => f (sw 1 4 a) (sw 1 4 b)) = -(pf 6 f) := by
  rw [pf_six, pf_six]
  show P6 (f 0 4) (f 0 2) (f 0 3) (f 0 1) (f 0 5) (f 4 2) (f 4 3) (f 4 1) (f 4 5) (f 2 3) (f 2 1) (f 2 5) (f 3 1) (f 3 5) (f 1 5) = -(P6 (f 0 1) (f 0 2) (f 0 3) (f 0 4) (f 0 5) (f 1 2) (f 1 3) (f 1 4) (f 1 5) (f 2 3) (f 2 4) (f 2 5) (f 3 4) (f 3 5) (f 4 5))
  rw [h 4 2, h 4 3, h 4 1, h 2 1, h 3 1]
  unfold P6
  grind
theorem pf_sw6_15 {f : Nat → Nat → Int} (h : Skw f) : pf 6 (fun a b => f (sw 1 5 a) (sw 1 5 b)) = -(pf 6 f) := by
  rw [pf_six, pf_six]
  show P6 (f 0 5) (f 0 2) (f 0 3) (f 0 4) (f 0 1) (f 5 2) (f 5 3) (f 5 4) (f 5 1) (f 2 3) (f 2 4) (f 2 1) (f 3 4) (f 3 1) (f 4 1) = -(P6 (f 0 1) (f 0 2) (f 0 3) (f 0 4) (f 0 5) (f 1 2) (f 1 3) (f 1 4) (f 1 5) (f 2 3) (f 2 4) (f 2 5) (f 3 4) (f 3 5) (f 4 5))
  rw [h 5 2, h 5 3, h 5 4, h 5 1, h 2 1, h 3 1, h 4 1]
  unfold P6
  grind
theorem pf_sw6_23 {f : Nat → Nat → Int} (h : Skw f) : pf 6 (fun a b => f (sw 2 3 a) (sw 2 3 b)) = -(pf 6 f) := by
  rw [pf_six, pf_six]
  show P6 (f 0 1) (f 0 3) (f 0 2) (f 0 4) (f 0 5) (f 1 3) (f 1 2) (f 1 4) (f 1 5) (f 3 2) (f 3 4) (f 3 5) (f 2 4) (f 2 5) (f 4 5) = -(P6 (f 0 1) (f 0 2) (f 0 3) (f 0 4) (f 0 5) (f 1 2) (f 1 3) (f 1 4) (f 1 5) (f 2 3) (f 2 4) (f 2 5) (f 3 4) (f 3 5) (f 4 5))
  rw [h 3 2]
  unfold P6
  grind
theorem pf_sw6_24 {f : Nat → Nat → Int} (h : Skw f) : pf 6 (fun a b => f (sw 2 4 a) (sw 2 4 b)) = -(pf 6 f) := by
  rw [pf_six, pf_six]
  show P6 (f 0 1) (f 0 4) (f 0 3) (f 0 2) (f 0 5) (f 1 4) (f 1 3) (f 1 2) (f 1 5) (f 4 3) (f 4 2) (f 4 5) (f 3 2) (f 3 5) (f 2 5) = -(P6 (f 0 1) (f 0 2) (f 0 3) (f 0 4) (f 0 5) (f 1 2) (f 1 3) (f 1 4) (f 1 5) (f 2 3) (f 2 4) (f 2 5) (f 3 4) (f 3 5) (f 4 5))
  rw [h 4 3, h 4 2, h 3 2]
  unfold P6
  grind
theorem pf_sw6_25 {f : Nat → Nat → Int} (h : Skw f) : pf 6 (fun a b => f (sw 2 5 a) (sw 2 5 b)) = -(pf 6 f) := by
  rw [pf_six, pf_six]
  show P6 (f 0 1) (f 0 5) (f 0 3) (f 0 4) (f 0 2) (f 1 5) (f 1 3) (f 1 4) (f 1 2) (f 5 3) (f 5 4) (f 5 2) (f 3 4) (f 3 2) (f 4 2) = -(P6 (f 0 1) (f 0 2) (f 0 3) (f 0 4) (f 0 5) (f 1 2) (f 1 3) (f 1 4) (f 1 5) (f 2 3) (f 2 4) (f 2 5) (f 3 4) (f 3 5) (f 4 5))
  rw [h 5 3, h 5 4, h 5 2, h 3 2, h 4 2]
  unfold P6
  grind
theorem pf_sw6_34 {f : Nat → Nat → Int} (h : Skw f) : pf 6 (fun a b => f (sw 3 4 a) (sw 3 4 b)) = -(pf 6 f) := by
  rw [pf_six, pf_six]
  show P6 (f 0 1) (f 0 2) (f 0 4) (f 0 3) (f 0 5) (f 1 2) (f 1 4) (f 1 3) (f 1 5) (f 2 4) (f 2 3) (f 2 5) (f 4 3) (f 4 5) (f 3 5) = -(P6 (f 0 1) (f 0 2) (f 0 3) (f 0 4) (f 0 5) (f 1 2) (f 1 3) (f 1 4) (f 1 5) (f 2 3) (f 2 4) (f 2 5) (f 3 4) (f 3 5) (f 4 5))
  rw [h 4 3]
  unfold P6
  grind
theorem pf_sw6_35 {f : Nat → Nat → Int} (h : Skw f) : pf 6 (fun a b => f (sw 3 5 a) (sw 3 5 b)) = -(pf 6 f) := by
  rw [pf_six, pf_six]
  show P6 (f 0 1) (f 0 2) (f 0 5) (f 0 4) (f 0 3) (f 1 2) (f 1 5) (f 1 4) (f 1 3) (f 2 5) (f 2 4) (f 2 3) (f 5 4) (f 5 3) (f 4 3) = -(P6 (f 0 1) (f 0 2) (f 0 3) (f 0 4) (f 0 5) (f 1 2) (f 1 3) (f 1 4) (f 1 5) (f 2 3) (f 2 4) (f 2 5) (f 3 4) (f 3 5) (f 4 5))
  rw [h 5 4, h 5 3, h 4 3]
  unfold P6
  grind
theorem pf_sw6_45 {f : Nat → Nat → Int} (h : Skw f) : pf 6 (fun a b => f (sw 4 5 a) (sw 4 5 b)) = -(pf 6 f) := by
  rw [pf_six, pf_six]
  show P6 (f 0 1) (f 0 2) (f 0 3) (f 0 5) (f 0 4) (f 1 2) (f 1 3) (f 1 5) (f 1 4) (f 2 3) (f 2 5) (f 2 4) (f 3 5) (f 3 4) (f 5 4) = -(P6 (f 0 1) (f 0 2) (f 0 3) (f 0 4) (f 0 5) (f 1 2) (f 1 3) (f 1 4) (f 1 5) (f 2 3) (f 2 4) (f 2 5) (f 3 4) (f 3 5) (f 4 5))
  rw [h 5 4]
  unfold P6
  grind
theorem pf_tm6_0 {k : Int} {f g : Nat → Nat → Int} (hg : ∀ a b, a < b → b < 6 → g a b = if a = 0 ∨ b = 0 then k * f a b else f a b) : pf 6 g = k * pf 6 f := by
  have g01 : g 0 1 = k * f 0 1 := hg 0 1 (by decide) (by decide)
  have g02 : g 0 2 = k * f 0 2 := hg 0 2 (by decide) (by decide)
  have g03 : g 0 3 = k * f 0 3 := hg 0 3 (by decide) (by decide)
  have g04 : g 0 4 = k * f 0 4 := hg 0 4 (by decide) (by decide)
  have g05 : g 0 5 = k * f 0 5 := hg 0 5 (by decide) (by decide)
  have g12 : g 1 2 = f 1 2 := hg 1 2 (by decide) (by decide)
  have g13 : g 1 3 = f 1 3 := hg 1 3 (by decide) (by decide)
  have g14 : g 1 4 = f 1 4 := hg 1 4 (by decide) (by decide)
  have g15 : g 1 5 = f 1 5 := hg 1 5 (by decide) (by decide)
  have g23 : g 2 3 = f 2 3 := hg 2 3 (by decide) (by decide)
  have g24 : g 2 4 = f 2 4 := hg 2 4 (by decide) (by decide)
  have g25 : g 2 5 = f 2 5 := hg 2 5 (by decide) (by decide)
  have g34 : g 3 4 = f 3 4 := hg 3 4 (by decide) (by decide)
  have g35 : g 3 5 = f 3 5 := hg 3 5 (by decide) (by decide)
  have g45 : g 4 5 = f 4 5 := hg 4 5 (by decide) (by decide)
  rw [pf_six, pf_six, g01, g02, g03, g04, g05, g12, g13, g14, g15, g23, g24, g25, g34, g35, g45]
  unfold P6
  grind
theorem pf_tm6_1 {k : Int} {f g : Nat → Nat → Int} (hg : ∀ a b, a < b → b < 6 → g a b = if a = 1 ∨ b = 1 then k * f a b else f a b) : pf 6 g = k * pf 6 f := by
  have g01 : g 0 1 = k * f 0 1 := hg 0 1 (by decide) (by decide)
  have g02 : g 0 2 = f 0 2 := hg 0 2 (by decide) (by decide)
  have g03 : g 0 3 = f 0 3 := hg 0 3 (by decide) (by decide)
  have g04 : g 0 4 = f 0 4 := hg 0 4 (by decide) (by decide)
  have g05 : g 0 5 = f 0 5 := hg 0 5 (by decide) (by decide)
  have g12 : g 1 2 = k * f 1 2 := hg 1 2 (by decide) (by decide)
  have g13 : g 1 3 = k * f 1 3 := hg 1 3 (by decide) (by decide)
  have g14 : g 1 4 = k * f 1 4 := hg 1 4 (by decide) (by decide)
  have g15 : g 1 5 = k * f 1 5 := hg 1 5 (by decide) (by decide)
  have g23 : g 2 3 = f 2 3 := hg 2 3 (by decide) (by decide)
  have g24 : g 2 4 = f 2 4 := hg 2 4 (by decide) (by decide)
  have g25 : g 2 5 = f 2 5 := hg 2 5 (by decide) (by decide)
  have g34 : g 3 4 = f 3 4 := hg 3 4 (by decide) (by decide)
  have g35 : g 3 5 = f 3 5 := hg 3 5 (by decide) (by decide)
  have g45 : g 4 5 = f 4 5 := hg 4 5 (by decide) (by decide)
  rw [pf_six, pf_six, g01, g02, g03, g04, g05, g12, g13, g14, g15, g23, g24, g25, g34, g35, g45]
  unfold P6
  grind
theorem pf_tm6_2 {k : Int} {f g : Nat → Nat → Int} (hg : ∀ a b, a < b → b < 6 → g a b = if a = 2 ∨ b = 2 then k * f a b else f a b) : pf 6 g = k * pf 6 f := by
  have g01 : g 0 1 = f 0 1 := hg 0 1 (by decide) (by decide)
  have g02 : g 0 2 = k * f 0 2 := hg 0 2 (by decide) (by decide)
  have g03 : g 0 3 = f 0 3 := hg 0 3 (by decide) (by decide)
  have g04 : g 0 4 = f 0 4 := hg 0 4 (by decide) (by decide)
  have g05 : g 0 5 = f 0 5 := hg 0 5 (by decide) (by decide)
  have g12 : g 1 2 = k * f 1 2 := hg 1 2 (by decide) (by decide)
  have g13 : g 1 3 = f 1 3 := hg 1 3 (by decide) (by decide)
  have g14 : g 1 4 = f 1 4 := hg 1 4 (by decide) (by decide)
  have g15 : g 1 5 = f 1 5 := hg 1 5 (by decide) (by decide)
  have g23 : g 2 3 = k * f 2 3 := hg 2 3 (by decide) (by decide)
  have g24 : g 2 4 = k * f 2 4 := hg 2 4 (by decide) (by decide)
  have g25 : g 2 5 = k * f 2 5 := hg 2 5 (by decide) (by decide)
  have g34 : g 3 4 = f 3 4 := hg 3 4 (by decide) (by decide)
  have g35 : g 3 5 = f 3 5 := hg 3 5 (by decide) (by decide)
  have g45 : g 4 5 = f 4 5 := hg 4 5 (by decide) (by decide)
  rw [pf_six, pf_six, g01, g02, g03, g04, g05, g12, g13, g14, g15, g23, g24, g25, g34, g35, g45]
  unfold P6
  grind
theorem pf_tm6_3 {k : Int} {f g : Nat → Nat → Int} (hg : ∀ a b, a < b → b < 6 → g a b = if a = 3 ∨ b = 3 then k * f a b else f a b) : pf 6 g = k * pf 6 f := by
  have g01 : g 0 1 = f 0 1 := hg 0 1 (by decide) (by decide)
  have g02 : g 0 2 = f 0 2 := hg 0 2 (by decide) (by decide)
  have g03 : g 0 3 = k * f 0 3 := hg 0 3 (by decide) (by decide)
  have g04 : g 0 4 = f 0 4 := hg 0 4 (by decide) (by decide)
  have g05 : g 0 5 = f 0 5 := hg 0 5 (by decide) (by decide)
  have g12 : g 1 2 = f 1 2 := hg 1 2 (by decide) (by decide)
  have g13 : g 1 3 = k * f 1 3 := hg 1 3 (by decide) (by decide)
  have g14 : g 1 4 = f 1 4 := hg 1 4 (by decide) (by decide)
  have g15 : g 1 5 = f 1 5 := hg 1 5 (by decide) (by decide)
  have g23 : g 2 3 = k * f 2 3 := hg 2 3 (by decide) (by decide)
  have g24 : g 2 4 = f 2 4 := hg 2 4 (by decide) (by decide)
  have g25 : g 2 5 = f 2 5 := hg 2 5 (by decide) (by decide)
  have g34 : g 3 4 = k * f 3 4 := hg 3 4 (by decide) (by decide)
  have g35 : g 3 5 = k * f 3 5 := hg 3 5 (by decide) (by decide)
  have g45 : g 4 5 = f 4 5 := hg 4 5 (by decide) (by decide)
  rw [pf_six, pf_six, g01, g02, g03, g04, g05, g12, g13, g14, g15, g23, g24, g25, g34, g35, g45]
  unfold P6
  grind
theorem pf_tm6_4 {k : Int} {f g : Nat → Nat → Int} (hg : ∀ a b, a < b → b < 6 → g a b = if a = 4 ∨ b = 4 then k * f a b else f a b) : pf 6 g = k * pf 6 f := by
  have g01 : g 0 1 = f 0 1 := hg 0 1 (by decide) (by decide)
  have g02 : g 0 2 = f 0 2 := hg 0 2 (by decide) (by decide)
  have g03 : g 0 3 = f 0 3 := hg 0 3 (by decide) (by decide)
  have g04 : g 0 4 = k * f 0 4 := hg 0 4 (by decide) (by decide)
  have g05 : g 0 5 = f 0 5 := hg 0 5 (by decide) (by decide)
  have g12 : g 1 2 = f 1 2 := hg 1 2 (by decide) (by decide)
  have g13 : g 1 3 = f 1 3 := hg 1 3 (by decide) (by decide)
  have g14 : g 1 4 = k * f 1 4 := hg 1 4 (by decide) (by decide)
  have g15 : g 1 5 = f 1 5 := hg 1 5 (by decide) (by decide)
  have g23 : g 2 3 = f 2 3 := hg 2 3 (by decide) (by decide)
  have g24 : g 2 4 = k * f 2 4 := hg 2 4 (by decide) (by decide)
  have g25 : g 2 5 = f 2 5 := hg 2 5 (by decide) (by decide)
  have g34 : g 3 4 = k * f 3 4 := hg 3 4 (by decide) (by decide)
  have g35 : g 3 5 = f 3 5 := hg 3 5 (by decide) (by decide)
  have g45 : g 4 5 = k * f 4 5 := hg 4 5 (by decide) (by decide)
  rw [pf_six, pf_six, g01, g02, g03, g04, g05, g12, g13, g14, g15, g23, g24, g25, g34, g35, g45]
  unfold P6
  grind
theorem pf_tm6_5 {k : Int} {f g : Nat → Nat → Int} (hg : ∀ a b, a < b → b < 6 → g a b = if a = 5 ∨ b = 5 then k * f a b else f a b) : pf 6 g = k * pf 6 f := by
  have g01 : g 0 1 = f 0 1 := hg 0 1 (by decide) (by decide)
  have g02 : g 0 2 = f 0 2 := hg 0 2 (by decide) (by decide)
  have g03 : g 0 3 = f 0 3 := hg 0 3 (by decide) (by decide)
  have g04 : g 0 4 = f 0 4 := hg 0 4 (by decide) (by decide)
  have g05 : g 0 5 = k * f 0 5 := hg 0 5 (by decide) (by decide)
  have g12 : g 1 2 = f 1 2 := hg 1 2 (by decide) (by decide)
  have g13 : g 1 3 = f 1 3 := hg 1 3 (by decide) (by decide)
  have g14 : g 1 4 = f 1 4 := hg 1 4 (by decide) (by decide)
  have g15 : g 1 5 = k * f 1 5 := hg 1 5 (by decide) (by decide)
  have g23 : g 2 3 = f 2 3 := hg 2 3 (by decide) (by decide)
  have g24 : g 2 4 = f 2 4 := hg 2 4 (by decide) (by decide)
  have g25 : g 2 5 = k * f 2 5 := hg 2 5 (by decide) (by decide)
  have g34 : g 3 4 = f 3 4 := hg 3 4 (by decide) (by decide)
  have g35 : g 3 5 = k * f 3 5 := hg 3 5 (by decide) (by decide)
  have g45 : g 4 5 = k * f 4 5 := hg 4 5 (by decide) (by decide)
  rw [pf_six, pf_six, g01, g02, g03, g04, g05, g12, g13, g14, g15, g23, g24, g25, g34, g35, g45]
  unfold P6
  grind
theorem pf_ad6_01 {k : Int} {f g : Nat → Nat → Int} (h : Skw f) (hg : ∀ a b, a < b → b < 6 → g a b = if a = 0 then f a b + k * f 1 b else if b = 0 then f a b + k * f a 1 else f a b) : pf 6 g = pf 6 f := by
  have g01 : g 0 1 = f 0 1 + k * f 1 1 := hg 0 1 (by decide) (by decide)
  have g02 : g 0 2 = f 0 2 + k * f 1 2 := hg 0 2 (by decide) (by decide)
  have g03 : g 0 3 = f 0 3 + k * f 1 3 := hg 0 3 (by decide) (by decide)
  have g04 : g 0 4 = f 0 4 + k * f 1 4 := hg 0 4 (by decide) (by decide)
  have g05 : g 0 5 = f 0 5 + k * f 1 5 := hg 0 5 (by decide) (by decide)
  have g12 : g 1 2 = f 1 2 := hg 1 2 (by decide) (by decide)
  have g13 : g 1 3 = f 1 3 := hg 1 3 (by decide) (by decide)
  have g14 : g 1 4 = f 1 4 := hg 1 4 (by decide) (by decide)
  have g15 : g 1 5 = f 1 5 := hg 1 5 (by decide) (by decide)
  have g23 : g 2 3 = f 2 3 := hg 2 3 (by decide) (by decide)
  have g24 : g 2 4 = f 2 4 := hg 2 4 (by decide) (by decide)
  have g25 : g 2 5 = f 2 5 := hg 2 5 (by decide) (by decide)
  have g34 : g 3 4 = f 3 4 := hg 3 4 (by decide) (by decide)
  have g35 : g 3 5 = f 3 5 := hg 3 5 (by decide) (by decide)
  have g45 : g 4 5 = f 4 5 := hg 4 5 (by decide) (by decide)
  rw [pf_six, pf_six, g01, g02, g03, g04, g05, g12, g13, g14, g15, g23, g24, g25, g34, g35, g45, h.diag 1]
  unfold P6
  grind
theorem pf_ad6_02 {k : Int} {f g : Nat → Nat → Int} (h : Skw f) (hg : ∀ a b, a < b → b < 6 → g a b = if a = 0 then f a b + k * f 2 b else if b = 0 then f a b + k * f a 2 else f a b) : pf 6 g = pf 6 f := by
  have g01 : g 0 1 = f 0 1 + k * f 2 1 := hg 0 1 (by decide) (by decide)
  have g02 : g 0 2 = f 0 2 + k * f 2 2 := hg 0 2 (by decide) (by decide)
  have g03 : g 0 3 = f 0 3 + k * f 2 3 := hg 0 3 (by decide) (by decide)
  have g04 : g 0 4 = f 0 4 + k * f 2 4 := hg 0 4 (by decide) (by decide)
  have g05 : g 0 5 = f 0 5 + k * f 2 5 := hg 0 5 (by decide) (by decide)
  have g12 : g 1 2 = f 1 2 := hg 1 2 (by decide) (by decide)
  have g13 : g 1 3 = f 1 3 := hg 1 3 (by decide) (by decide)
  have g14 : g 1 4 = f 1 4 := hg 1 4 (by decide) (by decide)
  have g15 : g 1 5 = f 1 5 := hg 1 5 (by decide) (by decide)
  have g23 : g 2 3 = f 2 3 := hg 2 3 (by decide) (by decide)
  have g24 : g 2 4 = f 2 4 := hg 2 4 (by decide) (by decide)
  have g25 : g 2 5 = f 2 5 := hg 2 5 (by decide) (by decide)
  have g34 : g 3 4 = f 3 4 := hg 3 4 (by decide) (by decide)
  have g35 : g 3 5 = f 3 5 := hg 3 5 (by decide) (by decide)
  have g45 : g 4 5 = f 4 5 := hg 4 5 (by decide) (by decide)
  rw [pf_six, pf_six, g01, g02, g03, g04, g05, g12, g13, g14, g15, g23, g24, g25, g34, g35, g45, h 2 1, h.diag 2]
  unfold P6
  grind
theorem pf_ad6_03 {k : Int} {f g : Nat → Nat → Int} (h : Skw f) (hg : ∀ a b, a < b → b < 6 → g a b = if a = 0 then f a b + k * f 3 b else if b = 0 then f a b + k * f a 3 else f a b) : pf 6 g = pf 6 f := by
  have g01 : g 0 1 = f 0 1 + k * f 3 1 := hg 0 1 (by decide) (by decide)
  have g02 : g 0 2 = f 0 2 + k * f 3 2 := hg 0 2 (by decide) (by decide)
  have g03 : g 0 3 = f 0 3 + k * f 3 3 := hg 0 3 (by decide) (by decide)
  have g04 : g 0 4 = f 0 4 + k * f 3 4 := hg 0 4 (by decide) (by decide)
  have g05 : g 0 5 = f 0 5 + k * f 3 5 := hg 0 5 (by decide) (by decide)
  have g12 : g 1 2 = f 1 2 := hg 1 2 (by decide) (by decide)
  have g13 : g 1 3 = f 1 3 := hg 1 3 (by decide) (by decide)
  have g14 : g 1 4 = f 1 4 := hg 1 4 (by decide) (by decide)
  have g15 : g 1 5 = f 1 5 := hg 1 5 (by decide) (by decide)
  have g23 : g 2 3 = f 2 3 := hg 2 3 (by decide) (by decide)
  have g24 : g 2 4 = f 2 4 := hg 2 4 (by decide) (by decide)
  have g25 : g 2 5 = f 2 5 := hg 2 5 (by decide) (by decide)
  have g34 : g 3 4 = f 3 4 := hg 3 4 (by decide) (by decide)
  have g35 : g 3 5 = f 3 5 := hg 3 5 (by decide) (by decide)
  have g45 : g 4 5 = f 4 5 := hg 4 5 (by decide) (by decide)
  rw [pf_six, pf_six, g01, g02, g03, g04, g05, g12, g13, g14, g15, g23, g24, g25, g34, g35, g45, h 3 1, h 3 2, h.diag 3]
  unfold P6
  grind
theorem pf_ad6_04 {k : Int} {f g : Nat → Nat → Int} (h : Skw f) (hg : ∀ a b, a < b → b < 6 → g a b = if a = 0 then f a b + k * f 4 b else if b = 0 then f a b + k * f a 4 else f a b) : pf 6 g = pf 6 f := by
  have g01 : g 0 1 = f 0 1 + k * f 4 1 := hg 0 1 (by decide) (by decide)
  have g02 : g 0 2 = f 0 2 + k * f 4 2 := hg 0 2 (by decide) (by decide)
  have g03 : g 0 3 = f 0 3 + k * f 4 3 := hg 0 3 (by decide) (by decide)
  have g04 : g 0 4 = f 0 4 + k * f 4 4 := hg 0 4 (by decide) (by decide)
  have g05 : g 0 5 = f 0 5 + k * f 4 5 := hg 0 5 (by decide) (by decide)
  have g12 : g 1 2 = f 1 2 := hg 1 2 (by decide) (by decide)
  have g13 : g 1 3 = f 1 3 := hg 1 3 (by decide) (by decide)
  have g14 : g 1 4 = f 1 4 := hg 1 4 (by decide) (by decide)
  have g15 : g 1 5 = f 1 5 := hg 1 5 (by decide) (by decide)
  have g23 : g 2 3 = f 2 3 := hg 2 3 (by decide) (by decide)
  have g24 : g 2 4 = f 2 4 := hg 2 4 (by decide) (by decide)
  have g25 : g 2 5 = f 2 5 := hg 2 5 (by decide) (by decide)
  have g34 : g 3 4 = f 3 4 := hg 3 4 (by decide) (by decide)
  have g35 : g 3 5 = f 3 5 := hg 3 5 (by decide) (by decide)
  have g45 : g 4 5 = f 4 5 := hg 4 5 (by decide) (by decide)
  rw [pf_six, pf_six, g01, g02, g03, g04, g05, g12, g13, g14, g15, g23, g24, g25, g34, g35, g45, h 4 1, h 4 2, h 4 3, h.diag 4]
  unfold P6
  grind
theorem pf_ad6_05 {k : Int} {f g : Nat → Nat → Int} (h : Skw f) (hg : ∀ a b, a < b → b < 6 → g a b = if a = 0 then f a b + k * f 5 b else if b = 0 then f a b + k * f a 5 else f a b) : pf 6 g = pf 6 f := by
  have g01 : g 0 1 = f 0 1 + k * f 5 1 := hg 0 1 (by decide) (by decide)
  have g02 : g 0 2 = f 0 2 + k * f 5 2 := hg 0 2 (by decide) (by decide)
  have g03 : g 0 3 = f 0 3 + k * f 5 3 := hg 0 3 (by decide) (by decide)
  have g04 : g 0 4 = f 0 4 + k * f 5 4 := hg 0 4 (by decide) (by decide)
  have g05 : g 0 5 = f 0 5 + k * f 5 5 := hg 0 5 (by decide) (by decide)
  have g12 : g 1 2 = f 1 2 := hg 1 2 (by decide) (by decide)
  have g13 : g 1 3 = f 1 3 := hg 1 3 (by decide) (by decide)
  have g14 : g 1 4 = f 1 4 := hg 1 4 (by decide) (by decide)
  have g15 : g 1 5 = f 1 5 := hg 1 5 (by decide) (by decide)
  have g23 : g 2 3 = f 2 3 := hg 2 3 (by decide) (by decide)
  have g24 : g 2 4 = f 2 4 := hg 2 4 (by decide) (by decide)
  have g25 : g 2 5 = f 2 5 := hg 2 5 (by decide) (by decide)
  have g34 : g 3 4 = f 3 4 := hg 3 4 (by decide) (by decide)
  have g35 : g 3 5 = f 3 5 := hg 3 5 (by decide) (by decide)
  have g45 : g 4 5 = f 4 5 := hg 4 5 (by decide) (by decide)
  rw [pf_six, pf_six, g01, g02, g03, g04, g05, g12, g13, g14, g15, g23, g24, g25, g34, g35, g45, h 5 1, h 5 2, h 5 3, h 5 4, h.diag 5]
  unfold P6
  grind
theorem pf_ad6_10 {k : Int} {f g : Nat → Nat → Int} (h : Skw f) (hg : ∀ a b, a < b → b < 6 → g a b = if a = 1 then f a b + k * f 0 b else if b = 1 then f a b + k * f a 0 else f a b) : pf 6 g = pf 6 f := by
  have g01 : g 0 1 = f 0 1 + k * f 0 0 := hg 0 1 (by decide) (by decide)
  have g02 : g 0 2 = f 0 2 := hg 0 2 (by decide) (by decide)
  have g03 : g 0 3 = f 0 3 := hg 0 3 (by decide) (by decide)
  have g04 : g 0 4 = f 0 4 := hg 0 4 (by decide) (by decide)
  have g05 : g 0 5 = f 0 5 := hg 0 5 (by decide) (by decide)
  have g12 : g 1 2 = f 1 2 + k * f 0 2 := hg 1 2 (by decide) (by decide)
  have g13 : g 1 3 = f 1 3 + k * f 0 3 := hg 1 3 (by decide) (by decide)
  have g14 : g 1 4 = f 1 4 + k * f 0 4 := hg 1 4 (by decide) (by decide)
  have g15 : g 1 5 = f 1 5 + k * f 0 5 := hg 1 5 (by decide) (by decide)
  have g23 : g 2 3 = f 2 3 := hg 2 3 (by decide) (by decide)
  have g24 : g 2 4 = f 2 4 := hg 2 4 (by decide) (by decide)
  have g25 : g 2 5 = f 2 5 := hg 2 5 (by decide) (by decide)
  have g34 : g 3 4 = f 3 4 := hg 3 4 (by decide) (by decide)
  have g35 : g 3 5 = f 3 5 := hg 3 5 (by decide) (by decide)
  have g45 : g 4 5 = f 4 5 := hg 4 5 (by decide) (by decide)
  rw [pf_six, pf_six, g01, g02, g03, g04, g05, g12, g13, g14, g15, g23, g24, g25, g34, g35, g45, h.diag 0]
  unfold P6
  grind
theorem pf_ad6_12 {k : Int} {f g : Nat → Nat → Int} (h : Skw f) (hg : ∀ a b, a < b → b < 6 → g a b = if a = 1 then f a b + k * f 2 b else if b = 1 then f a b + k * f a 2 else f a b) : pf 6 g = pf 6 f := by
  have g01 : g 0 1 = f 0 1 + k * f 0 2 := hg 0 1 (by decide) (by decide)
  have g02 : g 0 2 = f 0 2 := hg 0 2 (by decide) (by decide)
  have g03 : g 0 3 = f 0 3 := hg 0 3 (by decide) (by decide)
  have g04 : g 0 4 = f 0 4 := hg 0 4 (by decide) (by decide)
  have g05 : g 0 5 = f 0 5 := hg 0 5 (by decide) (by decide)
  have g12 : g 1 2 = f 1 2 + k * f 2 2 := hg 1 2 (by decide) (by decide)
  have g13 : g 1 3 = f 1 3 + k * f 2 3 := hg 1 3 (by decide) (by decide)
  have g14 : g 1 4 = f 1 4 + k * f 2 4 := hg 1 4 (by decide) (by decide)
  have g15 : g 1 5 = f 1 5 + k * f 2 5 := hg 1 5 (by decide) (by decide)
  have g23 : g 2 3 = f 2 3 := hg 2 3 (by decide) (by decide)
  have g24 : g 2 4 = f 2 4 := hg 2 4 (by decide) (by decide)
  have g25 : g 2 5 = f 2 5 := hg 2 5 (by decide) (by decide)
  have g34 : g 3 4 = f 3 4 := hg 3 4 (by decide) (by decide)
  have g35 : g 3 5 = f 3 5 := hg 3 5 (by decide) (by decide)
  have g45 : g 4 5 = f 4 5 := hg 4 5 (by decide) (by decide)
  rw [pf_six, pf_six, g01, g02, g03, g04, g05, g12, g13, g14, g15, g23, g24, g25, g34, g35, g45, h.diag 2]
  unfold P6
  grind
theorem pf_ad6_13 {k : Int} {f g : Nat → Nat → Int} (h : Skw f) (hg : ∀ a b, a < b → b < 6 → g a b = if a = 1 then f a b + k * f 3 b else if b = 1 then f a b + k * f a 3 else f a b) : pf 6 g = pf 6 f := by
  have g01 : g 0 1 = f 0 1 + k * f 0 3 := hg 0 1 (by decide) (by decide)
  have g02 : g 0 2 = f 0 2 := hg 0 2 (by decide) (by decide)
  have g03 : g 0 3 = f 0 3 := hg 0 3 (by decide) (by decide)
  have g04 : g 0 4 = f 0 4 := hg 0 4 (by decide) (by decide)
  have g05 : g 0 5 = f 0 5 := hg 0 5 (by decide) (by decide)
  have g12 : g 1 2 = f 1 2 + k * f 3 2 := hg 1 2 (by decide) (by decide)
  have g13 : g 1 3 = f 1 3 + k * f 3 3 := hg 1 3 (by decide) (by decide)
  have g14 : g 1 4 = f 1 4 + k * f 3 4 := hg 1 4 (by decide) (by decide)
  have g15 : g 1 5 = f 1 5 + k * f 3 5 := hg 1 5 (by decide) (by decide)
  have g23 : g 2 3 = f 2 3 := hg 2 3 (by decide) (by decide)
  have g24 : g 2 4 = f 2 4 := hg 2 4 (by decide) (by decide)
  have g25 : g 2 5 = f 2 5 := hg 2 5 (by decide) (by decide)
  have g34 : g 3 4 = f 3 4 := hg 3 4 (by decide) (by decide)
  have g35 : g 3 5 = f 3 5 := hg 3 5 (by decide) (by decide)
  have g45 : g 4 5 = f 4 5 := hg 4 5 (by decide) (by decide)
  rw [pf_six, pf_six, g01, g02, g03, g04, g05, g12, g13, g14, g15, g23, g24, g25, g34, g35, g45, h 3 2, h.diag 3]
  unfold P6
  grind
theorem pf_ad6_14 {k : Int} {f g : Nat → Nat → Int} (h : Skw f) (hg : ∀ a b, a < b → b < 6 → g a b = if a = 1 then f a b + k * f 4 b else if b = 1 then f a b + k * f a 4 else f a b) : pf 6 g = pf 6 f := by
  have g01 : g 0 1 = f 0 1 + k * f 0 4 := hg 0 1 (by decide) (by decide)
  have g02 : g 0 2 = f 0 2 := hg 0 2 (by decide) (by decide)
  have g03 : g 0 3 = f 0 3 := hg 0 3 (by decide) (by decide)
  have g04 : g 0 4 = f 0 4 := hg 0 4 (by decide) (by decide)
  have g05 : g 0 5 = f 0 5 := hg 0 5 (by decide) (by decide)
  have g12 : g 1 2 = f 1 2 + k * f 4 2 := hg 1 2 (by decide) (by decide)
  have g13 : g 1 3 = f 1 3 + k * f 4 3 := hg 1 3 (by decide) (by decide)
  have g14 : g 1 4 = f 1 4 + k * f 4 4 := hg 1 4 (by decide) (by decide)
  have g15 : g 1 5 = f 1 5 + k * f 4 5 := hg 1 5 (by decide) (by decide)
  have g23 : g 2 3 = f 2 3 := hg 2 3 (by decide) (by decide)
  have g24 : g 2 4 = f 2 4 := hg 2 4 (by decide) (by decide)
  have g25 : g 2 5 = f 2 5 := hg 2 5 (by decide) (by decide)
  have g34 : g 3 4 = f 3 4 := hg 3 4 (by decide) (by decide)
  have g35 : g 3 5 = f 3 5 := hg 3 5 (by decide) (by decide)
  have g45 : g 4 5 = f 4 5 := hg 4 5 (by decide) (by decide)
  rw [pf_six, pf_six, g01, g02, g03, g04, g05, g12, g13, g14, g15, g23, g24, g25, g34, g35, g45, h 4 2, h 4 3, h.diag 4]
  unfold P6
  grind
theorem pf_ad6_15 {k : Int} {f g : Nat → Nat → Int} (h : Skw f) (hg : ∀ a b, a < b → b < 6 → g a b = if a = 1 then f a b + k * f 5 b else if b = 1 then f a b + k * f a 5 else f a b) : pf 6 g = pf 6 f := by
  have g01 : g 0 1 = f 0 1 + k * f 0 5 := hg 0 1 (by decide) (by decide)
  have g02 : g 0 2 = f 0 2 := hg 0 2 (by decide) (by decide)
  have g03 : g 0 3 = f 0 3 := hg 0 3 (by decide) (by decide)
  have g04 : g 0 4 = f 0 4 := hg 0 4 (by decide) (by decide)
  have g05 : g 0 5 = f 0 5 := hg 0 5 (by decide) (by decide)
  have g12 : g 1 2 = f 1 2 + k * f 5 2 := hg 1 2 (by decide) (by decide)
  have g13 : g 1 3 = f 1 3 + k * f 5 3 := hg 1 3 (by decide) (by decide)
  have g14 : g 1 4 = f 1 4 + k * f 5 4 := hg 1 4 (by decide) (by decide)
  have g15 : g 1 5 = f 1 5 + k * f 5 5 := hg 1 5 (by decide) (by decide)
  have g23 : g 2 3 = f 2 3 := hg 2 3 (by decide) (by decide)
  have g24 : g 2 4 = f 2 4 := hg 2 4 (by decide) (by decide)
  have g25 : g 2 5 = f 2 5 := hg 2 5 (by decide) (by decide)
  have g34 : g 3 4 = f 3 4 := hg 3 4 (by decide) (by decide)
  have g35 : g 3 5 = f 3 5 := hg 3 5 (by decide) (by decide)
  have g45 : g 4 5 = f 4 5 := hg 4 5 (by decide) (by decide)
  rw [pf_six, pf_six, g01, g02, g03, g04, g05, g12, g13, g14, g15, g23, g24, g25, g34, g35, g45, h 5 2, h 5 3, h 5 4, h.diag 5]
  unfold P6
  grind
theorem pf_ad6_20 {k : Int} {f g : Nat → Nat → Int} (h : Skw f) (hg : ∀ a b, a < b → b < 6 → g a b = if a = 2 then f a b + k * f 0 b else if b = 2 then f a b + k * f a 0 else f a b) : pf 6 g = pf 6 f := by
  have g01 : g 0 1 = f 0 1 := hg 0 1 (by decide) (by decide)
  have g02 : g 0 2 = f 0 2 + k * f 0 0 := hg 0 2 (by decide) (by decide)
  have g03 : g 0 3 = f 0 3 := hg 0 3 (by decide) (by decide)
  have g04 : g 0 4 = f 0 4 := hg 0 4 (by decide) (by decide)
  have g05 : g 0 5 = f 0 5 := hg 0 5 (by decide) (by decide)
  have g12 : g 1 2 = f 1 2 + k * f 1 0 := hg 1 2 (by decide) (by decide)
  have g13 : g 1 3 = f 1 3 := hg 1 3 (by decide) (by decide)
  have g14 : g 1 4 = f 1 4 := hg 1 4 (by decide) (by decide)
  have g15 : g 1 5 = f 1 5 := hg 1 5 (by decide) (by decide)
  have g23 : g 2 3 = f 2 3 + k * f 0 3 := hg 2 3 (by decide) (by decide)
  have g24 : g 2 4 = f 2 4 + k * f 0 4 := hg 2 4 (by decide) (by decide)
  have g25 : g 2 5 = f 2 5 + k * f 0 5 := hg 2 5 (by decide) (by decide)
  have g34 : g 3 4 = f 3 4 := hg 3 4 (by decide) (by decide)
  have g35 : g 3 5 = f 3 5 := hg 3 5 (by decide) (by decide)
  have g45 : g 4 5 = f 4 5 := hg 4 5 (by decide) (by decide)
  rw [pf_six, pf_six, g01, g02, g03, g04, g05, g12, g13, g14, g15, g23, g24, g25, g34, g35, g45, h.diag 0, h 1 0]
  unfold P6
  grind
theorem pf_ad6_21 {k : Int} {f g : Nat → Nat → Int} (h : Skw f) (hg : ∀ a b, a < b → b < 6 → g a b = if a = 2 then f a b + k * f 1 b else if b = 2 then f a b + k * f a 1 else f a b) : pf 6 g = pf 6 f := by
  have g01 : g 0 1 = f 0 1 := hg 0 1 (by decide) (by decide)
  have g02 : g 0 2 = f 0 2 + k * f 0 1 := hg 0 2 (by decide) (by decide)
  have g03 : g 0 3 = f 0 3 := hg 0 3 (by decide) (by decide)
  have g04 : g 0 4 = f 0 4 := hg 0 4 (by decide) (by decide)
  have g05 : g 0 5 = f 0 5 := hg 0 5 (by decide) (by decide)
  have g12 : g 1 2 = f 1 2 + k * f 1 1 := hg 1 2 (by decide) (by decide)
  have g13 : g 1 3 = f 1 3 := hg 1 3 (by decide) (by decide)
  have g14 : g 1 4 = f 1 4 := hg 1 4 (by decide) (by decide)
  have g15 : g 1 5 = f 1 5 := hg 1 5 (by decide) (by decide)
  have g23 : g 2 3 = f 2 3 + k * f 1 3 := hg 2 3 (by decide) (by decide)
  have g24 : g 2 4 = f 2 4 + k * f 1 4 := hg 2 4 (by decide) (by decide)
  have g25 : g 2 5 = f 2 5 + k * f 1 5 := hg 2 5 (by decide) (by decide)
  have g34 : g 3 4 = f 3 4 := hg 3 4 (by decide) (by decide)
  have g35 : g 3 5 = f 3 5 := hg 3 5 (by decide) (by decide)
  have g45 : g 4 5 = f 4 5 := hg 4 5 (by decide) (by decide)
  rw [pf_six, pf_six, g01, g02, g03, g04, g05, g12, g13, g14, g15, g23, g24, g25, g34, g35, g45, h.diag 1]
  unfold P6
  grind
theorem pf_ad6_23 {k : Int} {f g : Nat → Nat → Int} (h : Skw f) (hg : ∀ a b, a < b → b < 6 → g a b = if a = 2 then f a b + k * f 3 b else if b = 2 then f a b + k * f a 3 else f a b) : pf 6 g = pf 6 f := by
  have g01 : g 0 1 = f 0 1 := hg 0 1 (by decide) (by decide)
  have g02 : g 0 2 = f 0 2 + k * f 0 3 := hg 0 2 (by decide) (by decide)
  have g03 : g 0 3 = f 0 3 := hg 0 3 (by decide) (by decide)
  have g04 : g 0 4 = f 0 4 := hg 0 4 (by decide) (by decide)
  have g05 : g 0 5 = f 0 5 := hg 0 5 (by decide) (by decide)
  have g12 : g 1 2 = f 1 2 + k * f 1 3 := hg 1 2 (by decide) (by decide)
  have g13 : g 1 3 = f 1 3 := hg 1 3 (by decide) (by decide)
  have g14 : g 1 4 = f 1 4 := hg 1 4 (by decide) (by decide)
  have g15 : g 1 5 = f 1 5 := hg 1 5 (by decide) (by decide)
  have g23 : g 2 3 = f 2 3 + k * f 3 3 := hg 2 3 (by decide) (by decide)
  have g24 : g 2 4 = f 2 4 + k * f 3 4 := hg 2 4 (by decide) (by decide)
  have g25 : g 2 5 = f 2 5 + k * f 3 5 := hg 2 5 (by decide) (by decide)
  have g34 : g 3 4 = f 3 4 := hg 3 4 (by decide) (by decide)
  have g35 : g 3 5 = f 3 5 := hg 3 5 (by decide) (by decide)
  have g45 : g 4 5 = f 4 5 := hg 4 5 (by decide) (by decide)
  rw [pf_six, pf_six, g01, g02, g03, g04, g05, g12, g13, g14, g15, g23, g24, g25, g34, g35, g45, h.diag 3]
  unfold P6
  grind
theorem pf_ad6_24 {k : Int} {f g : Nat → Nat → Int} (h : Skw f) (hg : ∀ a b, a < b → b < 6 → g a b = if a = 2 then f a b + k * f 4 b else if b = 2 then f a b + k * f a 4 else f a b) : pf 6 g = pf 6 f := by
  have g01 : g 0 1 = f 0 1 := hg 0 1 (by decide) (by decide)
  have g02 : g 0 2 = f 0 2 + k * f 0 4 := hg 0 2 (by decide) (by decide)
  have g03 : g 0 3 = f 0 3 := hg 0 3 (by decide) (by decide)
  have g04 : g 0 4 = f 0 4 := hg 0 4 (by decide) (by decide)
  have g05 : g 0 5 = f 0 5 := hg 0 5 (by decide) (by decide)
  have g12 : g 1 2 = f 1 2 + k * f 1 4 := hg 1 2 (by decide) (by decide)
  have g13 : g 1 3 = f 1 3 := hg 1 3 (by decide) (by decide)
  have g14 : g 1 4 = f 1 4 := hg 1 4 (by decide) (by decide)
  have g15 : g 1 5 = f 1 5 := hg 1 5 (by decide) (by decide)
  have g23 : g 2 3 = f 2 3 + k * f 4 3 := hg 2 3 (by decide) (by decide)
  have g24 : g 2 4 = f 2 4 + k * f 4 4 := hg 2 4 (by decide) (by decide)
  have g25 : g 2 5 = f 2 5 + k * f 4 5 := hg 2 5 (by decide) (by decide)
  have g34 : g 3 4 = f 3 4 := hg 3 4 (by decide) (by decide)
  have g35 : g 3 5 = f 3 5 := hg 3 5 (by decide) (by decide)
  have g45 : g 4 5 = f 4 5 := hg 4 5 (by decide) (by decide)
  rw [pf_six, pf_six, g01, g02, g03, g04, g05, g12, g13, g14, g15, g23, g24, g25, g34, g35, g45, h 4 3, h.diag 4]
  unfold P6
  grind
theorem pf_ad6_25 {k : Int} {f g : Nat → Nat → Int} (h : Skw f) (hg : ∀ a b, a < b → b < 6 → g a b = if a = 2 then f a b + k * f 5 b else if b = 2 then f a b + k * f a 5 else f a b) : pf 6 g = pf 6 f := by
  have g01 : g 0 1 = f 0 1 := hg 0 1 (by decide) (by decide)
  have g02 : g 0 2 = f 0 2 + k * f 0 5 := hg 0 2 (by decide) (by decide)
  have g03 : g 0 3 = f 0 3 := hg 0 3 (by decide) (by decide)
  have g04 : g 0 4 = f 0 4 := hg 0 4 (by decide) (by decide)
  have g05 : g 0 5 = f 0 5 := hg 0 5 (by decide) (by decide)
  have g12 : g 1 2 = f 1 2 + k * f 1 5 := hg 1 2 (by decide) (by decide)
  have g13 : g 1 3 = f 1 3 := hg 1 3 (by decide) (by decide)
  have g14 : g 1 4 = f 1 4 := hg 1 4 (by decide) (by decide)
  have g15 : g 1 5 = f 1 5 := hg 1 5 (by decide) (by decide)
  have g23 : g 2 3 = f 2 3 + k * f 5 3 := hg 2 3 (by decide) (by decide)
  have g24 : g 2 4 = f 2 4 + k * f 5 4 := hg 2 4 (by decide) (by decide)
  have g25 : g 2 5 = f 2 5 + k * f 5 5 := hg 2 5 (by decide) (by decide)
  have g34 : g 3 4 = f 3 4 := hg 3 4 (by decide) (by decide)
  have g35 : g 3 5 = f 3 5 := hg 3 5 (by decide) (by decide)
  have g45 : g 4 5 = f 4 5 := hg 4 5 (by decide) (by decide)
  rw [pf_six, pf_six, g01, g02, g03, g04, g05, g12, g13, g14, g15, g23, g24, g25, g34, g35, g45, h 5 3, h 5 4, h.diag 5]
  unfold P6
  grind
theorem pf_ad6_30 {k : Int} {f g : Nat → Nat → Int} (h : Skw f) (hg : ∀ a b, a < b → b < 6 → g a b = if a = 3 then f a b + k * f 0 b else if b = 3 then f a b + k * f a 0 else f a b) : pf 6 g = pf 6 f := by
  have g01 : g 0 1 = f 0 1 := hg 0 1 (by decide) (by decide)
  have g02 : g 0 2 = f 0 2 := hg 0 2 (by decide) (by decide)
  have g03 : g 0 3 = f 0 3 + k * f 0 0 := hg 0 3 (by decide) (by decide)
  have g04 : g 0 4 = f 0 4 := hg 0 4 (by decide) (by decide)
  have g05 : g 0 5 = f 0 5 := hg 0 5 (by decide) (by decide)
  have g12 : g 1 2 = f 1 2 := hg 1 2 (by decide) (by decide)
  have g13 : g 1 3 = f 1 3 + k * f 1 0 := hg 1 3 (by decide) (by decide)
  have g14 : g 1 4 = f 1 4 := hg 1 4 (by decide) (by decide)
  have g15 : g 1 5 = f 1 5 := hg 1 5 (by decide) (by decide)
  have g23 : g 2 3 = f 2 3 + k * f 2 0 := hg 2 3 (by decide) (by decide)
  have g24 : g 2 4 = f 2 4 := hg 2 4 (by decide) (by decide)
  have g25 : g 2 5 = f 2 5 := hg 2 5 (by decide) (by decide)
  have g34 : g 3 4 = f 3 4 + k * f 0 4 := hg 3 4 (by decide) (by decide)
  have g35 : g 3 5 = f 3 5 + k * f 0 5 := hg 3 5 (by decide) (by decide)
  have g45 : g 4 5 = f 4 5 := hg 4 5 (by decide) (by decide)
  rw [pf_six, pf_six, g01, g02, g03, g04, g05, g12, g13, g14, g15, g23, g24, g25, g34, g35, g45, h.diag 0, h 1 0, h 2 0]
  unfold P6
  grind
theorem pf_ad6_31 {k : Int} {f g : Nat → Nat → Int} (h : Skw f) (hg : ∀ a b, a < b → b < 6 → g a b = if a = 3 then f a b + k * f 1 b else if b = 3 then f a b + k * f a 1 else f a b) : pf 6 g = pf 6 f := by
  have g01 : g 0 1 = f 0 1 := hg 0 1 (by decide) (by decide)
  have g02 : g 0 2 = f 0 2 := hg 0 2 (by decide) (by decide)
  have g03 : g 0 3 = f 0 3 + k * f 0 1 := hg 0 3 (by decide) (by decide)
  have g04 : g 0 4 = f 0 4 := hg 0 4 (by decide) (by decide)
  have g05 : g 0 5 = f 0 5 := hg 0 5 (by decide) (by decide)
  have g12 : g 1 2 = f 1 2 := hg 1 2 (by decide) (by decide)
  have g13 : g 1 3 = f 1 3 + k * f 1 1 := hg 1 3 (by decide) (by decide)
  have g14 : g 1 4 = f 1 4 := hg 1 4 (by decide) (by decide)
  have g15 : g 1 5 = f 1 5 := hg 1 5 (by decide) (by decide)
  have g23 : g 2 3 = f 2 3 + k * f 2 1 := hg 2 3 (by decide) (by decide)
  have g24 : g 2 4 = f 2 4 := hg 2 4 (by decide) (by decide)
  have g25 : g 2 5 = f 2 5 := hg 2 5 (by decide) (by decide)
  have g34 : g 3 4 = f 3 4 + k * f 1 4 := hg 3 4 (by decide) (by decide)
  have g35 : g 3 5 = f 3 5 + k * f 1 5 := hg 3 5 (by decide) (by decide)
  have g45 : g 4 5 = f 4 5 := hg 4 5 (by decide) (by decide)
  rw [pf_six, pf_six, g01, g02, g03, g04, g05, g12, g13, g14, g15, g23, g24, g25, g34, g35, g45, h.diag 1, h 2 1]
  unfold P6
  grind
theorem pf_ad6_32 {k : Int} {f g : Nat → Nat → Int} (h : Skw f) (hg : ∀ a b, a < b → b < 6 → g a b = if a = 3 then f a b + k * f 2 b else if b = 3 then f a b + k * f a 2 else f a b) : pf 6 g = pf 6 f := by
  have g01 : g 0 1 = f 0 1 := hg 0 1 (by decide) (by decide)
  have g02 : g 0 2 = f 0 2 := hg 0 2 (by decide) (by decide)
  have g03 : g 0 3 = f 0 3 + k * f 0 2 := hg 0 3 (by decide) (by decide)
  have g04 : g 0 4 = f 0 4 := hg 0 4 (by decide) (by decide)
  have g05 : g 0 5 = f 0 5 := hg 0 5 (by decide) (by decide)
  have g12 : g 1 2 = f 1 2 := hg 1 2 (by decide) (by decide)
  have g13 : g 1 3 = f 1 3 + k * f 1 2 := hg 1 3 (by decide) (by decide)
  have g14 : g 1 4 = f 1 4 := hg 1 4 (by decide) (by decide)
  have g15 : g 1 5 = f 1 5 := hg 1 5 (by decide) (by decide)
  have g23 : g 2 3 = f 2 3 + k * f 2 2 := hg 2 3 (by decide) (by decide)
  have g24 : g 2 4 = f 2 4 := hg 2 4 (by decide) (by decide)
  have g25 : g 2 5 = f 2 5 := hg 2 5 (by decide) (by decide)
  have g34 : g 3 4 = f 3 4 + k * f 2 4 := hg 3 4 (by decide) (by decide)
  have g35 : g 3 5 = f 3 5 + k * f 2 5 := hg 3 5 (by decide) (by decide)
  have g45 : g 4 5 = f 4 5 := hg 4 5 (by decide) (by decide)
  rw [pf_six, pf_six, g01, g02, g03, g04, g05, g12, g13, g14, g15, g23, g24, g25, g34, g35, g45, h.diag 2]
  unfold P6
  grind
theorem pf_ad6_34 {k : Int} {f g : Nat → Nat → Int} (h : Skw f) (hg : ∀ a b, a < b → b < 6 → g a b = if a = 3 then f a b + k * f 4 b else if b = 3 then f a b + k * f a 4 else f a b) : pf 6 g = pf 6 f := by
  have g01 : g 0 1 = f 0 1 := hg 0 1 (by decide) (by decide)
  have g02 : g 0 2 = f 0 2 := hg 0 2 (by decide) (by decide)
  have g03 : g 0 3 = f 0 3 + k * f 0 4 := hg 0 3 (by decide) (by decide)
  have g04 : g 0 4 = f 0 4 := hg 0 4 (by decide) (by decide)
  have g05 : g 0 5 = f 0 5 := hg 0 5 (by decide) (by decide)
  have g12 : g 1 2 = f 1 2 := hg 1 2 (by decide) (by decide)
  have g13 : g 1 3 = f 1 3 + k * f 1 4 := hg 1 3 (by decide) (by decide)
  have g14 : g 1 4 = f 1 4 := hg 1 4 (by decide) (by decide)
  have g15 : g 1 5 = f 1 5 := hg 1 5 (by decide) (by decide)
  have g23 : g 2 3 = f 2 3 + k * f 2 4 := hg 2 3 (by decide) (by decide)
  have g24 : g 2 4 = f 2 4 := hg 2 4 (by decide) (by decide)
  have g25 : g 2 5 = f 2 5 := hg 2 5 (by decide) (by decide)
  have g34 : g 3 4 = f 3 4 + k * f 4 4 := hg 3 4 (by decide) (by decide)
  have g35 : g 3 5 = f 3 5 + k * f 4 5 := hg 3 5 (by decide) (by decide)
  have g45 : g 4 5 = f 4 5 := hg 4 5 (by decide) (by decide)
  rw [pf_six, pf_six, g01, g02, g03, g04, g05, g12, g13, g14, g15, g23, g24, g25, g34, g35, g45, h.diag 4]
  unfold P6
  grind
theorem pf_ad6_35 {k : Int} {f g : Nat → Nat → Int} (h : Skw f) (hg : ∀ a b, a < b → b < 6 → g a b = if a = 3 then f a b + k * f 5 b else if b = 3 then f a b + k * f a 5 else f a b) : pf 6 g = pf 6 f := by
  have g01 : g 0 1 = f 0 1 := hg 0 1 (by decide) (by decide)
  have g02 : g 0 2 = f 0 2 := hg 0 2 (by decide) (by decide)
  have g03 : g 0 3 = f 0 3 + k * f 0 5 := hg 0 3 (by decide) (by decide)
  have g04 : g 0 4 = f 0 4 := hg 0 4 (by decide) (by decide)
  have g05 : g 0 5 = f 0 5 := hg 0 5 (by decide) (by decide)
  have g12 : g 1 2 = f 1 2 := hg 1 2 (by decide) (by decide)
  have g13 : g 1 3 = f 1 3 + k * f 1 5 := hg 1 3 (by decide) (by decide)
  have g14 : g 1 4 = f 1 4 := hg 1 4 (by decide) (by decide)
  have g15 : g 1 5 = f 1 5 := hg 1 5 (by decide) (by decide)
  have g23 : g 2 3 = f 2 3 + k * f 2 5 := hg 2 3 (by decide) (by decide)
  have g24 : g 2 4 = f 2 4 := hg 2 4 (by decide) (by decide)
  have g25 : g 2 5 = f 2 5 := hg 2 5 (by decide) (by decide)
  have g34 : g 3 4 = f 3 4 + k * f 5 4 := hg 3 4 (by decide) (by decide)
  have g35 : g 3 5 = f 3 5 + k * f 5 5 := hg 3 5 (by decide) (by decide)
  have g45 : g 4 5 = f 4 5 := hg 4 5 (by decide) (by decide)
  rw [pf_six, pf_six, g01, g02, g03, g04, g05, g12, g13, g14, g15, g23, g24, g25, g34, g35, g45, h 5 4, h.diag 5]
  unfold P6
  grind
theorem pf_ad6_40 {k : Int} {f g : Nat → Nat → Int} (h : Skw f) (hg : ∀ a b, a < b → b < 6 → g a b = if a = 4 then f a b + k * f 0 b else if b = 4 then f a b + k * f a 0 else f a b) : pf 6 g = pf 6 f := by
  have g01 : g 0 1 = f 0 1 := hg 0 1 (by decide) (by decide)
  have g02 : g 0 2 = f 0 2 := hg 0 2 (by decide) (by decide)
  have g03 : g 0 3 = f 0 3 := hg 0 3 (by decide) (by decide)
  have g04 : g 0 4 = f 0 4 + k * f 0 0 := hg 0 4 (by decide) (by decide)
  have g05 : g 0 5 = f 0 5 := hg 0 5 (by decide) (by decide)
  have g12 : g 1 2 = f 1 2 := hg 1 2 (by decide) (by decide)
  have g13 : g 1 3 = f 1 3 := hg 1 3 (by decide) (by decide)
  have g14 : g 1 4 = f 1 4 + k * f 1 0 := hg 1 4 (by decide) (by decide)
  have g15 : g 1 5 = f 1 5 := hg 1 5 (by decide) (by decide)
  have g23 : g 2 3 = f 2 3 := hg 2 3 (by decide) (by decide)
  have g24 : g 2 4 = f 2 4 + k * f 2 0 := hg 2 4 (by decide) (by decide)
  have g25 : g 2 5 = f 2 5 := hg 2 5 (by decide) (by decide)
  have g34 : g 3 4 = f 3 4 + k * f 3 0 := hg 3 4 (by decide) (by decide)
  have g35 : g 3 5 = f 3 5 := hg 3 5 (by decide) (by decide)
  have g45 : g 4 5 = f 4 5 + k * f 0 5 := hg 4 5 (by decide) (by decide)
  rw [pf_six, pf_six, g01, g02, g03, g04, g05, g12, g13, g14, g15, g23, g24, g25, g34, g35, g45, h.diag 0, h 1 0, h 2 0, h 3 0]
  unfold P6
  grind
theorem pf_ad6_41 {k : Int} {f g : Nat → Nat → Int} (h : Skw f) (hg : ∀ a b, a < b → b < 6 → g a b = if a = 4 then f a b + k * f 1 b else if b = 4 then f a b + k * f a 1 else f a b) : pf 6 g = pf 6 f := by
  have g01 : g 0 1 = f 0 1 := hg 0 1 (by decide) (by decide)
  have g02 : g 0 2 = f 0 2 := hg 0 2 (by decide) (by decide)
  have g03 : g 0 3 = f 0 3 := hg 0 3 (by decide) (by decide)
  have g04 : g 0 4 = f 0 4 + k * f 0 1 := hg 0 4 (by decide) (by decide)
  have g05 : g 0 5 = f 0 5 := hg 0 5 (by decide) (by decide)
  have g12 : g 1 2 = f 1 2 := hg 1 2 (by decide) (by decide)
  have g13 : g 1 3 = f 1 3 := hg 1 3 (by decide) (by decide)
  have g14 : g 1 4 = f 1 4 + k * f 1 1 := hg 1 4 (by decide) (by decide)
  have g15 : g 1 5 = f 1 5 := hg 1 5 (by decide) (by decide)
  have g23 : g 2 3 = f 2 3 := hg 2 3 (by decide) (by decide)
  have g24 : g 2 4 = f 2 4 + k * f 2 1 := hg 2 4 (by decide) (by decide)
  have g25 : g 2 5 = f 2 5 := hg 2 5 (by decide) (by decide)
  have g34 : g 3 4 = f 3 4 + k * f 3 1 := hg 3 4 (by decide) (by decide)
  have g35 : g 3 5 = f 3 5 := hg 3 5 (by decide) (by decide)
  have g45 : g 4 5 = f 4 5 + k * f 1 5 := hg 4 5 (by decide) (by decide)
  rw [pf_six, pf_six, g01, g02, g03, g04, g05, g12, g13, g14, g15, g23, g24, g25, g34, g35, g45, h.diag 1, h 2 1, h 3 1]
  unfold P6
  grind
theorem pf_ad6_42 {k : Int} {f g : Nat → Nat → Int} (h : Skw f) (hg : ∀ a b, a < b → b < 6 → g a b = if a = 4 then f a b + k * f 2 b else if b = 4 then f a b + k * f a 2 else f a b) : pf 6 g = pf 6 f := by
  have g01 : g 0 1 = f 0 1 := hg 0 1 (by decide) (by decide)
  have g02 : g 0 2 = f 0 2 := hg 0 2 (by decide) (by decide)
  have g03 : g 0 3 = f 0 3 := hg 0 3 (by decide) (by decide)
  have g04 : g 0 4 = f 0 4 + k * f 0 2 := hg 0 4 (by decide) (by decide)
  have g05 : g 0 5 = f 0 5 := hg 0 5 (by decide) (by decide)
  have g12 : g 1 2 = f 1 2 := hg 1 2 (by decide) (by decide)
  have g13 : g 1 3 = f 1 3 := hg 1 3 (by decide) (by decide)
  have g14 : g 1 4 = f 1 4 + k * f 1 2 := hg 1 4 (by decide) (by decide)
  have g15 : g 1 5 = f 1 5 := hg 1 5 (by decide) (by decide)
  have g23 : g 2 3 = f 2 3 := hg 2 3 (by decide) (by decide)
  have g24 : g 2 4 = f 2 4 + k * f 2 2 := hg 2 4 (by decide) (by decide)
  have g25 : g 2 5 = f 2 5 := hg 2 5 (by decide) (by decide)
  have g34 : g 3 4 = f 3 4 + k * f 3 2 := hg 3 4 (by decide) (by decide)
  have g35 : g 3 5 = f 3 5 := hg 3 5 (by decide) (by decide)
  have g45 : g 4 5 = f 4 5 + k * f 2 5 := hg 4 5 (by decide) (by decide)
  rw [pf_six, pf_six, g01, g02, g03, g04, g05, g12, g13, g14, g15, g23, g24, g25, g34, g35, g45, h.diag 2, h 3 2]
  unfold P6
  grind
theorem pf_ad6_43 {k : Int} {f g : Nat → Nat → Int} (h : Skw f) (hg : ∀ a b, a < b → b < 6 → g a b = if a = 4 then f a b + k * f 3 b else if b = 4 then f a b + k * f a 3 else f a b) : pf 6 g = pf 6 f := by
  have g01 : g 0 1 = f 0 1 := hg 0 1 (by decide) (by decide)
  have g02 : g 0 2 = f 0 2 := hg 0 2 (by decide) (by decide)
  have g03 : g 0 3 = f 0 3 := hg 0 3 (by decide) (by decide)
  have g04 : g 0 4 = f 0 4 + k * f 0 3 := hg 0 4 (by decide) (by decide)
  have g05 : g 0 5 = f 0 5 := hg 0 5 (by decide) (by decide)
  have g12 : g 1 2 = f 1 2 := hg 1 2 (by decide) (by decide)
  have g13 : g 1 3 = f 1 3 := hg 1 3 (by decide) (by decide)
  have g14 : g 1 4 = f 1 4 + k * f 1 3 := hg 1 4 (by decide) (by decide)
  have g15 : g 1 5 = f 1 5 := hg 1 5 (by decide) (by decide)
  have g23 : g 2 3 = f 2 3 := hg 2 3 (by decide) (by decide)
  have g24 : g 2 4 = f 2 4 + k * f 2 3 := hg 2 4 (by decide) (by decide)
  have g25 : g 2 5 = f 2 5 := hg 2 5 (by decide) (by decide)
  have g34 : g 3 4 = f 3 4 + k * f 3 3 := hg 3 4 (by decide) (by decide)
  have g35 : g 3 5 = f 3 5 := hg 3 5 (by decide) (by decide)
  have g45 : g 4 5 = f 4 5 + k * f 3 5 := hg 4 5 (by decide) (by decide)
  rw [pf_six, pf_six, g01, g02, g03, g04, g05, g12, g13, g14, g15, g23, g24, g25, g34, g35, g45, h.diag 3]
  unfold P6
  grind
theorem pf_ad6_45 {k : Int} {f g : Nat → Nat → Int} (h : Skw f) (hg : ∀ a b, a < b → b < 6 → g a b = if a = 4 then f a b + k * f 5 b else if b = 4 then f a b + k * f a 5 else f a b) : pf 6 g = pf 6 f := by
  have g01 : g 0 1 = f 0 1 := hg 0 1 (by decide) (by decide)
  have g02 : g 0 2 = f 0 2 := hg 0 2 (by decide) (by decide)
  have g03 : g 0 3 = f 0 3 := hg 0 3 (by decide) (by decide)
  have g04 : g 0 4 = f 0 4 + k * f 0 5 := hg 0 4 (by decide) (by decide)
  have g05 : g 0 5 = f 0 5 := hg 0 5 (by decide) (by decide)
  have g12 : g 1 2 = f 1 2 := hg 1 2 (by decide) (by decide)
  have g13 : g 1 3 = f 1 3 := hg 1 3 (by decide) (by decide)
  have g14 : g 1 4 = f 1 4 + k * f 1 5 := hg 1 4 (by decide) (by decide)
  have g15 : g 1 5 = f 1 5 := hg 1 5 (by decide) (by decide)
  have g23 : g 2 3 = f 2 3 := hg 2 3 (by decide) (by decide)
  have g24 : g 2 4 = f 2 4 + k * f 2 5 := hg 2 4 (by decide) (by decide)
  have g25 : g 2 5 = f 2 5 := hg 2 5 (by decide) (by decide)
  have g34 : g 3 4 = f 3 4 + k * f 3 5 := hg 3 4 (by decide) (by decide)
  have g35 : g 3 5 = f 3 5 := hg 3 5 (by decide) (by decide)
  have g45 : g 4 5 = f 4 5 + k * f 5 5 := hg 4 5 (by decide) (by decide)
  rw [pf_six, pf_six, g01, g02, g03, g04, g05, g12, g13, g14, g15, g23, g24, g25, g34, g35, g45, h.diag 5]
  unfold P6
  grind
theorem pf_ad6_50 {k : Int} {f g : Nat → Nat → Int} (h : Skw f) (hg : ∀ a b, a < b → b < 6 → g a b = if a = 5 then f a b + k * f 0 b else if b = 5 then f a b + k * f a 0 else f a b) : pf 6 g = pf 6 f := by
  have g01 : g 0 1 = f 0 1 := hg 0 1 (by decide) (by decide)
  have g02 : g 0 2 = f 0 2 := hg 0 2 (by decide) (by decide)
  have g03 : g 0 3 = f 0 3 := hg 0 3 (by decide) (by decide)
  have g04 : g 0 4 = f 0 4 := hg 0 4 (by decide) (by decide)
  have g05 : g 0 5 = f 0 5 + k * f 0 0 := hg 0 5 (by decide) (by decide)
  have g12 : g 1 2 = f 1 2 := hg 1 2 (by decide) (by decide)
  have g13 : g 1 3 = f 1 3 := hg 1 3 (by decide) (by decide)
  have g14 : g 1 4 = f 1 4 := hg 1 4 (by decide) (by decide)
  have g15 : g 1 5 = f 1 5 + k * f 1 0 := hg 1 5 (by decide) (by decide)
  have g23 : g 2 3 = f 2 3 := hg 2 3 (by decide) (by decide)
  have g24 : g 2 4 = f 2 4 := hg 2 4 (by decide) (by decide)
  have g25 : g 2 5 = f 2 5 + k * f 2 0 := hg 2 5 (by decide) (by decide)
  have g34 : g 3 4 = f 3 4 := hg 3 4 (by decide) (by decide)
  have g35 : g 3 5 = f 3 5 + k * f 3 0 := hg 3 5 (by decide) (by decide)
  have g45 : g 4 5 = f 4 5 + k * f 4 0 := hg 4 5 (by decide) (by decide)
  rw [pf_six, pf_six, g01, g02, g03, g04, g05, g12, g13, g14, g15, g23, g24, g25, g34, g35, g45, h.diag 0, h 1 0, h 2 0, h 3 0, h 4 0]
  unfold P6
  grind
theorem pf_ad6_51 {k : Int} {f g : Nat → Nat → Int} (h : Skw f) (hg : ∀ a b, a < b → b < 6 → g a b = if a = 5 then f a b + k * f 1 b else if b = 5 then f a b + k * f a 1 else f a b) : pf 6 g = pf 6 f := by
  have g01 : g 0 1 = f 0 1 := hg 0 1 (by decide) (by decide)
  have g02 : g 0 2 = f 0 2 := hg 0 2 (by decide) (by decide)
  have g03 : g 0 3 = f 0 3 := hg 0 3 (by decide) (by decide)
  have g04 : g 0 4 = f 0 4 := hg 0 4 (by decide) (by decide)
  have g05 : g 0 5 = f 0 5 + k * f 0 1 := hg 0 5 (by decide) (by decide)
  have g12 : g 1 2 = f 1 2 := hg 1 2 (by decide) (by decide)
  have g13 : g 1 3 = f 1 3 := hg 1 3 (by decide) (by decide)
  have g14 : g 1 4 = f 1 4 := hg 1 4 (by decide) (by decide)
  have g15 : g 1 5 = f 1 5 + k * f 1 1 := hg 1 5 (by decide) (by decide)
  have g23 : g 2 3 = f 2 3 := hg 2 3 (by decide) (by decide)
  have g24 : g 2 4 = f 2 4 := hg 2 4 (by decide) (by decide)
  have g25 : g 2 5 = f 2 5 + k * f 2 1 := hg 2 5 (by decide) (by decide)
  have g34 : g 3 4 = f 3 4 := hg 3 4 (by decide) (by decide)
  have g35 : g 3 5 = f 3 5 + k * f 3 1 := hg 3 5 (by decide) (by decide)
  have g45 : g 4 5 = f 4 5 + k * f 4 1 := hg 4 5 (by decide) (by decide)
  rw [pf_six, pf_six, g01, g02, g03, g04, g05, g12, g13, g14, g15, g23, g24, g25, g34, g35, g45, h.diag 1, h 2 1, h 3 1, h 4 1]
  unfold P6
  grind
theorem pf_ad6_52 {k : Int} {f g : Nat → Nat → Int} (h : Skw f) (hg : ∀ a b, a < b → b < 6 → g a b = if a = 5 then f a b + k * f 2 b else if b = 5 then f a b + k * f a 2 else f a b) : pf 6 g = pf 6 f := by
  have g01 : g 0 1 = f 0 1 := hg 0 1 (by decide) (by decide)
  have g02 : g 0 2 = f 0 2 := hg 0 2 (by decide) (by decide)
  have g03 : g 0 3 = f 0 3 := hg 0 3 (by decide) (by decide)
  have g04 : g 0 4 = f 0 4 := hg 0 4 (by decide) (by decide)
  have g05 : g 0 5 = f 0 5 + k * f 0 2 := hg 0 5 (by decide) (by decide)
  have g12 : g 1 2 = f 1 2 := hg 1 2 (by decide) (by decide)
  have g13 : g 1 3 = f 1 3 := hg 1 3 (by decide) (by decide)
  have g14 : g 1 4 = f 1 4 := hg 1 4 (by decide) (by decide)
  have g15 : g 1 5 = f 1 5 + k * f 1 2 := hg 1 5 (by decide) (by decide)
  have g23 : g 2 3 = f 2 3 := hg 2 3 (by decide) (by decide)
  have g24 : g 2 4 = f 2 4 := hg 2 4 (by decide) (by decide)
  have g25 : g 2 5 = f 2 5 + k * f 2 2 := hg 2 5 (by decide) (by decide)
  have g34 : g 3 4 = f 3 4 := hg 3 4 (by decide) (by decide)
  have g35 : g 3 5 = f 3 5 + k * f 3 2 := hg 3 5 (by decide) (by decide)
  have g45 : g 4 5 = f 4 5 + k * f 4 2 := hg 4 5 (by decide) (by decide)
  rw [pf_six, pf_six, g01, g02, g03, g04, g05, g12, g13, g14, g15, g23, g24, g25, g34, g35, g45, h.diag 2, h 3 2, h 4 2]
  unfold P6
  grind
theorem pf_ad6_53 {k : Int} {f g : Nat → Nat → Int} (h : Skw f) (hg : ∀ a b, a < b → b < 6 → g a b = if a = 5 then f a b + k * f 3 b else if b = 5 then f a b + k * f a 3 else f a b) : pf 6 g = pf 6 f := by
  have g01 : g 0 1 = f 0 1 := hg 0 1 (by decide) (by decide)
  have g02 : g 0 2 = f 0 2 := hg 0 2 (by decide) (by decide)
  have g03 : g 0 3 = f 0 3 := hg 0 3 (by decide) (by decide)
  have g04 : g 0 4 = f 0 4 := hg 0 4 (by decide) (by decide)
  have g05 : g 0 5 = f 0 5 + k * f 0 3 := hg 0 5 (by decide) (by decide)
  have g12 : g 1 2 = f 1 2 := hg 1 2 (by decide) (by decide)
  have g13 : g 1 3 = f 1 3 := hg 1 3 (by decide) (by decide)
  have g14 : g 1 4 = f 1 4 := hg 1 4 (by decide) (by decide)
  have g15 : g 1 5 = f 1 5 + k * f 1 3 := hg 1 5 (by decide) (by decide)
  have g23 : g 2 3 = f 2 3 := hg 2 3 (by decide) (by decide)
  have g24 : g 2 4 = f 2 4 := hg 2 4 (by decide) (by decide)
  have g25 : g 2 5 = f 2 5 + k * f 2 3 := hg 2 5 (by decide) (by decide)
  have g34 : g 3 4 = f 3 4 := hg 3 4 (by decide) (by decide)
  have g35 : g 3 5 = f 3 5 + k * f 3 3 := hg 3 5 (by decide) (by decide)
  have g45 : g 4 5 = f 4 5 + k * f 4 3 := hg 4 5 (by decide) (by decide)
  rw [pf_six, pf_six, g01, g02, g03, g04, g05, g12, g13, g14, g15, g23, g24, g25, g34, g35, g45, h.diag 3, h 4 3]
  unfold P6
  grind
theorem pf_ad6_54 {k : Int} {f g : Nat → Nat → Int} (h : Skw f) (hg : ∀ a b, a < b → b < 6 → g a b = if a = 5 then f a b + k * f 4 b else if b = 5 then f a b + k * f a 4 else f a b) : pf 6 g = pf 6 f := by
  have g01 : g 0 1 = f 0 1 := hg 0 1 (by decide) (by decide)
  have g02 : g 0 2 = f 0 2 := hg 0 2 (by decide) (by decide)
  have g03 : g 0 3 = f 0 3 := hg 0 3 (by decide) (by decide)
  have g04 : g 0 4 = f 0 4 := hg 0 4 (by decide) (by decide)
  have g05 : g 0 5 = f 0 5 + k * f 0 4 := hg 0 5 (by decide) (by decide)
  have g12 : g 1 2 = f 1 2 := hg 1 2 (by decide) (by decide)
  have g13 : g 1 3 = f 1 3 := hg 1 3 (by decide) (by decide)
  have g14 : g 1 4 = f 1 4 := hg 1 4 (by decide) (by decide)
  have g15 : g 1 5 = f 1 5 + k * f 1 4 := hg 1 5 (by decide) (by decide)
  have g23 : g 2 3 = f 2 3 := hg 2 3 (by decide) (by decide)
  have g24 : g 2 4 = f 2 4 := hg 2 4 (by decide) (by decide)
  have g25 : g 2 5 = f 2 5 + k * f 2 4 := hg 2 5 (by decide) (by decide)
  have g34 : g 3 4 = f 3 4 := hg 3 4 (by decide) (by decide)
  have g35 : g 3 5 = f 3 5 + k * f 3 4 := hg 3 5 (by decide) (by decide)
  have g45 : g 4 5 = f 4 5 + k * f 4 4 := hg 4 5 (by decide) (by decide)
  rw [pf_six, pf_six, g01, g02, g03, g04, g05, g12, g13, g14, g15, g23, g24, g25, g34, g35, g45, h.diag 4]
  unfold P6
  grind
theorem pf_swap2 {i j : Nat} (hij : i < j) (hj : j < 2) {f : Nat → Nat → Int} (h : Skw f) : pf 2 (fun a b => f (sw i j a) (sw i j b)) = -(pf 2 f) := by
  have cj : j = 0 ∨ j = 1 := by omega
  rcases cj with rfl | rfl
  · have ci : i = 0 ∨ i = 1 := by omega
    rcases ci with rfl | rfl
    · omega
    · omega
  · have ci : i = 0 ∨ i = 1 := by omega
    rcases ci with rfl | rfl
    · exact pf_sw2_01 h
    · omega
theorem pf_times2 {i : Nat} (hi : i < 2) {k : Int} {f g : Nat → Nat → Int} (hg : ∀ a b, a < b → b < 2 → g a b = if a = i ∨ b = i then k * f a b else f a b) : pf 2 g = k * pf 2 f := by
  have ci : i = 0 ∨ i = 1 := by omega
  rcases ci with rfl | rfl
  · exact pf_tm2_0 hg
  · exact pf_tm2_1 hg
theorem pf_plus2 {i j : Nat} (hi : i < 2) (hj : j < 2) (hij : i ≠ j) {k : Int} {f g : Nat → Nat → Int} (h : Skw f) (hg : ∀ a b, a < b → b < 2 → g a b = if a = i then f a b + k * f j b else if b = i then f a b + k * f a j else f a b) : pf 2 g = pf 2 f := by
  have ci : i = 0 ∨ i = 1 := by omega
  rcases ci with rfl | rfl
  · have cj : j = 0 ∨ j = 1 := by omega
    rcases cj with rfl | rfl
    · exact absurd rfl hij
    · exact pf_ad2_01 h hg
  · have cj : j = 0 ∨ j = 1 := by omega
    rcases cj with rfl | rfl
    · exact pf_ad2_10 h hg
    · exact absurd rfl hij
theorem pf_swap4 {i j : Nat} (hij : i < j) (hj : j < 4) {f : Nat → Nat → Int} (h : Skw f) : pf 4 (fun a b => f (sw i j a) (sw i j b)) = -(pf 4 f) := by
  have cj : j = 0 ∨ j = 1 ∨ j = 2 ∨ j = 3 := by omega
  rcases cj with rfl | rfl | rfl | rfl
  · have ci : i = 0 ∨ i = 1 ∨ i = 2 ∨ i = 3 := by omega
    rcases ci with rfl | rfl | rfl | rfl
    · omega
    · omega
    · omega
    · omega
  · have ci : i = 0 ∨ i = 1 ∨ i = 2 ∨ i = 3 := by omega
    rcases ci with rfl | rfl | rfl | rfl
    · exact pf_sw4_01 h
    · omega
    · omega
    · omega
  · have ci : i = 0 ∨ i = 1 ∨ i = 2 ∨ i = 3 := by omega
    rcases ci with rfl | rfl | rfl | rfl
    · exact pf_sw4_02 h
    · exact pf_sw4_12 h
    · omega
    · omega
  · have ci : i = 0 ∨ i = 1 ∨ i = 2 ∨ i = 3 := by omega
    rcases ci with rfl | rfl | rfl | rfl
    · exact pf_sw4_03 h
    · exact pf_sw4_13 h
    · exact pf_sw4_23 h
    · omega
theorem pf_times4 {i : Nat} (hi : i < 4) {k : Int} {f g : Nat → Nat → Int} (hg : ∀ a b, a < b → b < 4 → g a b = if a = i ∨ b = i then k * f a b else f a b) : pf 4 g = k * pf 4 f := by
  have ci : i = 0 ∨ i = 1 ∨ i = 2 ∨ i = 3 := by omega
  rcases ci with rfl | rfl | rfl | rfl
  · exact pf_tm4_0 hg
  · exact pf_tm4_1 hg
  · exact pf_tm4_2 hg
  · exact pf_tm4_3 hg
theorem pf_plus4 {i j : Nat} (hi : i < 4) (hj : j < 4) (hij : i ≠ j) {k : Int} {f g : Nat → Nat → Int} (h : Skw f) (hg : ∀ a b, a < b → b < 4 → g a b = if a = i then f a b + k * f j b else if b = i then f a b + k * f a j else f a b) : pf 4 g = pf 4 f := by
  have ci : i = 0 ∨ i = 1 ∨ i = 2 ∨ i = 3 := by omega
  rcases ci with rfl | rfl | rfl | rfl
  · have cj : j = 0 ∨ j = 1 ∨ j = 2 ∨ j = 3 := by omega
    rcases cj with rfl | rfl | rfl | rfl
    · exact absurd rfl hij
    · exact pf_ad4_01 h hg
    · exact pf_ad4_02 h hg
    · exact pf_ad4_03 h hg
  · have cj : j = 0 ∨ j = 1 ∨ j = 2 ∨ j = 3 := by omega
    rcases cj with rfl | rfl | rfl | rfl
    · exact pf_ad4_10 h hg
    · exact absurd rfl hij
    · exact pf_ad4_12 h hg
    · exact pf_ad4_13 h hg
  · have cj : j = 0 ∨ j = 1 ∨ j = 2 ∨ j = 3 := by omega
    rcases cj with rfl | rfl | rfl | rfl
    · exact pf_ad4_20 h hg
    · exact pf_ad4_21 h hg
    · exact absurd rfl hij
    · exact pf_ad4_23 h hg
  · have cj : j = 0 ∨ j = 1 ∨ j = 2 ∨ j = 3 := by omega
    rcases cj with rfl | rfl | rfl | rfl
    · exact pf_ad4_30 h hg
    · exact pf_ad4_31 h hg
    · exact pf_ad4_32 h hg
    · exact absurd rfl hij
theorem pf_swap6 {i j : Nat} (hij : i < j) (hj : j < 6) {f : Nat → Nat → Int} (h : Skw f) : pf 6 (fun a b => f (sw i j a) (sw i j b)) = -(pf 6 f) := by
  have cj : j = 0 ∨ j = 1 ∨ j = 2 ∨ j = 3 ∨ j = 4 ∨ j = 5 := by omega
  rcases cj with rfl | rfl | rfl | rfl | rfl | rfl
  · have ci : i = 0 ∨ i = 1 ∨ i = 2 ∨ i = 3 ∨ i = 4 ∨ i = 5 := by omega
    rcases ci with rfl | rfl | rfl | rfl | rfl | rfl
    · omega
    · omega
    · omega
    · omega
    · omega
    · omega
  · have ci : i = 0 ∨ i = 1 ∨ i = 2 ∨ i = 3 ∨ i = 4 ∨ i = 5 := by omega
    rcases ci with rfl | rfl | rfl | rfl | rfl | rfl
    · exact pf_sw6_01 h
    · omega
    · omega
    · omega
    · omega
    · omega
  · have ci : i = 0 ∨ i = 1 ∨ i = 2 ∨ i = 3 ∨ i = 4 ∨ i = 5 := by omega
    rcases ci with rfl | rfl | rfl | rfl | rfl | rfl
    · exact pf_sw6_02 h
    · exact pf_sw6_12 h
    · omega
    · omega
    · omega
    · omega
  · have ci : i = 0 ∨ i = 1 ∨ i = 2 ∨ i = 3 ∨ i = 4 ∨ i = 5 := by omega
    rcases ci with rfl | rfl | rfl | rfl | rfl | rfl
    · exact pf_sw6_03 h
    · exact pf_sw6_13 h
    · exact pf_sw6_23 h
    · omega
    · omega
    · omega
  · have ci : i = 0 ∨ i = 1 ∨ i = 2 ∨ i = 3 ∨ i = 4 ∨ i = 5 := by omega
    rcases ci with rfl | rfl | rfl | rfl | rfl | rfl
    · exact pf_sw6_04 h
    · exact pf_sw6_14 h
    · exact pf_sw6_24 h
    · exact pf_sw6_34 h
    · omega
    · omega
  · have ci : i = 0 ∨ i = 1 ∨ i = 2 ∨ i = 3 ∨ i = 4 ∨ i = 5 := by omega
    rcases ci with rfl | rfl | rfl | rfl | rfl | rfl
    · exact pf_sw6_05 h
    · exact pf_sw6_15 h
    · exact pf_sw6_25 h
    · exact pf_sw6_35 h
    · exact pf_sw6_45 h
    · omega
theorem pf_times6 {i : Nat} (hi : i < 6) {k : Int} {f g : Nat → Nat → Int} (hg : ∀ a b, a < b → b < 6 → g a b = if a = i ∨ b = i then k * f a b else f a b) : pf 6 g = k * pf 6 f := by
  have ci : i = 0 ∨ i = 1 ∨ i = 2 ∨ i = 3 ∨ i = 4 ∨ i = 5 := by omega
  rcases ci with rfl | rfl | rfl | rfl | rfl | rfl
  · exact pf_tm6_0 hg
  · exact pf_tm6_1 hg
  · exact pf_tm6_2 hg
  · exact pf_tm6_3 hg
  · exact pf_tm6_4 hg
  · exact pf_tm6_5 hg
theorem pf_plus6 {i j : Nat} (hi : i < 6) (hj : j < 6) (hij : i ≠ j) {k : Int} {f g : Nat → Nat → Int} (h : Skw f) (hg : ∀ a b, a < b → b < 6 → g a b = if a = i then f a b + k * f j b else if b = i then f a b + k * f a j else f a b) : pf 6 g = pf 6 f := by
  have ci : i = 0 ∨ i = 1 ∨ i = 2 ∨ i = 3 ∨ i = 4 ∨ i = 5 := by omega
  rcases ci with rfl | rfl | rfl | rfl | rfl | rfl
  · have cj : j = 0 ∨ j = 1 ∨ j = 2 ∨ j = 3 ∨ j = 4 ∨ j = 5 := by omega
    rcases cj with rfl | rfl | rfl | rfl | rfl | rfl
    · exact absurd rfl hij
    · exact pf_ad6_01 h hg
    · exact pf_ad6_02 h hg
    · exact pf_ad6_03 h hg
    · exact pf_ad6_04 h hg
    · exact pf_ad6_05 h hg
  · have cj : j = 0 ∨ j = 1 ∨ j = 2 ∨ j = 3 ∨ j = 4 ∨ j = 5 := by omega
    rcases cj with rfl | rfl | rfl | rfl | rfl | rfl
    · exact pf_ad6_10 h hg
    · exact absurd rfl hij
    · exact pf_ad6_12 h hg
    · exact pf_ad6_13 h hg
    · exact pf_ad6_14 h hg
    · exact pf_ad6_15 h hg
  · have cj : j = 0 ∨ j = 1 ∨ j = 2 ∨ j = 3 ∨ j = 4 ∨ j = 5 := by omega
    rcases cj with rfl | rfl | rfl | rfl | rfl | rfl
    · exact pf_ad6_20 h hg
    · exact pf_ad6_21 h hg
    · exact absurd rfl hij
    · exact pf_ad6_23 h hg
    · exact pf_ad6_24 h hg
    · exact pf_ad6_25 h hg
  · have cj : j = 0 ∨ j = 1 ∨ j = 2 ∨ j = 3 ∨ j = 4 ∨ j = 5 := by omega
    rcases cj with rfl | rfl | rfl | rfl | rfl | rfl
    · exact pf_ad6_30 h hg
    · exact pf_ad6_31 h hg
    · exact pf_ad6_32 h hg
    · exact absurd rfl hij
    · exact pf_ad6_34 h hg
    · exact pf_ad6_35 h hg
  · have cj : j = 0 ∨ j = 1 ∨ j = 2 ∨ j = 3 ∨ j = 4 ∨ j = 5 := by omega
    rcases cj with rfl | rfl | rfl | rfl | rfl | rfl
    · exact pf_ad6_40 h hg
    · exact pf_ad6_41 h hg
    · exact pf_ad6_42 h hg
    · exact pf_ad6_43 h hg
    · exact absurd rfl hij
    · exact pf_ad6_45 h hg
  · have cj : j = 0 ∨ j = 1 ∨ j = 2 ∨ j = 3 ∨ j = 4 ∨ j = 5 := by omega
    rcases cj with rfl | rfl | rfl | rfl | rfl | rfl
    · exact pf_ad6_50 h hg
    · exact pf_ad6_51 h hg
    · exact pf_ad6_52 h hg
    · exact pf_ad6_53 h hg
    · exact pf_ad6_54 h hg
    · exact absurd rfl hij
/-- Two that change places, in rows and columns. -/
theorem pf_swap {n i j : Nat} (hn : n ≤ 6) (hi : i < n) (hj : j < n) (hij : i ≠ j) {f : Nat → Nat → Int} (h : Skw f) : pf n (fun a b => f (sw i j a) (sw i j b)) = -(pf n f) := by
  by_cases ho : n % 2 = 1
  · rw [pf_odd n _ ho, pf_odd n _ ho]; rfl
  · have go : ∀ {i j : Nat}, i < j → j < n → pf n (fun a b => f (sw i j a) (sw i j b)) = -(pf n f) := fun {i j} hij hj => by
      have c : n = 0 ∨ n = 2 ∨ n = 4 ∨ n = 6 := by omega
      rcases c with rfl | rfl | rfl | rfl
      · omega
      · exact pf_swap2 hij hj h
      · exact pf_swap4 hij hj h
      · exact pf_swap6 hij hj h
    by_cases hl : i < j
    · exact go hl hj
    · have h1 := go (i := j) (j := i) (by omega) hi
      rw [show (fun a b => f (sw i j a) (sw i j b)) = fun a b => f (sw j i a) (sw j i b) from by funext a b; rw [sw_flip i j a, sw_flip i j b]]
      exact h1
/-- One row and column so many times. -/
theorem pf_times {n i : Nat} (hn : n ≤ 6) (hi : i < n) {k : Int} {f g : Nat → Nat → Int} (hg : ∀ a b, a < b → b < n → g a b = if a = i ∨ b = i then k * f a b else f a b) : pf n g = k * pf n f := by
  by_cases ho : n % 2 = 1
  · rw [pf_odd n _ ho, pf_odd n _ ho]; grind
  · have c : n = 0 ∨ n = 2 ∨ n = 4 ∨ n = 6 := by omega
    rcases c with rfl | rfl | rfl | rfl
    · omega
    · exact pf_times2 hi hg
    · exact pf_times4 hi hg
    · exact pf_times6 hi hg
/-- So many times one row and column added to another one. -/
theorem pf_plus {n i j : Nat} (hn : n ≤ 6) (hi : i < n) (hj : j < n) (hij : i ≠ j) {k : Int} {f g : Nat → Nat → Int} (h : Skw f) (hg : ∀ a b, a < b → b < n → g a b = if a = i then f a b + k * f j b else if b = i then f a b + k * f a j else f a b) : pf n g = pf n f := by
  by_cases ho : n % 2 = 1
  · rw [pf_odd n _ ho, pf_odd n _ ho]
  · have c : n = 0 ∨ n = 2 ∨ n = 4 ∨ n = 6 := by omega
    rcases c with rfl | rfl | rfl | rfl
    · omega
    · exact pf_plus2 hi hj hij h hg
    · exact pf_plus4 hi hj hij h hg
    · exact pf_plus6 hi hj hij h hg
end Go.Proofs.YtkebjmapdcbnaaaDoor.Zx
