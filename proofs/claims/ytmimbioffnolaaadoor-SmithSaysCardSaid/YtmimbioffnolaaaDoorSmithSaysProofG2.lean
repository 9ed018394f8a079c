/- Several texts, one behind the other: MatZ, MatLt, MatSm, MatSp, SmM, CatS, OwnM, SmC1, SmC2, SmC3, Sqr, MatH, MatB, BaC1, HmC1. -/
import Derived.Test.YtmimbioffnolaaaDoorSmithSaysProofG1
import Derived.Lib.AppendZerosOnto
import Derived.Deep.RegionHeld3
import Derived.RangeFuncWrites
import Derived.Maps.AppendAt
import Derived.Shelf.RegionOpen
import Derived.StillTailTactics

/- The mathematics of determinants once more, over the whole numbers. No program is named here. -/
namespace Go.Proofs.YtmimbioffnolaaaDoor.Zx
set_option linter.unusedVariables false

/-- The sum of the first n values. -/
def sg : Nat → (Nat → Int) → Int
  | 0, _ => 0
  | n + 1, f => sg n f + f n
theorem sg_zero (f : Nat → Int) : sg 0 f = 0 := rfl
theorem sg_succ (n : Nat) (f : Nat → Int) : sg (n + 1) f = sg n f + f n := rfl
theorem sg_congr {n : Nat} {f g : Nat → Int} (h : ∀ i, i < n → f i = g i) : sg n f = sg n g := by
  induction n with
  | zero => rfl
  | succ n ih => rw [sg, sg, ih fun i hi => h i (by omega), h n (by omega)]
theorem sg_none (n : Nat) : sg n (fun _ => 0) = 0 := by
  induction n with
  | zero => rfl
  | succ n ih => rw [sg, ih]; grind
theorem sg_add (n : Nat) (f g : Nat → Int) : sg n (fun i => f i + g i) = sg n f + sg n g := by
  induction n with
  | zero => simp only [sg]; grind
  | succ n ih => rw [sg, sg, sg, ih]; grind
theorem sg_times (n : Nat) (a : Int) (f : Nat → Int) : sg n (fun i => a * f i) = a * sg n f := by
  induction n with
  | zero => simp only [sg]; grind
  | succ n ih => rw [sg, sg, ih]; grind
theorem sg_by (n : Nat) (a : Int) (f : Nat → Int) : sg n (fun i => f i * a) = sg n f * a := by
  induction n with
  | zero => simp only [sg]; grind
  | succ n ih => rw [sg, sg, ih]; grind
theorem sg_swap (n m : Nat) (f : Nat → Nat → Int) : sg n (fun i => sg m (f i)) = sg m (fun j => sg n (fun i => f i j)) := by
  induction n with
  | zero => simp only [sg]; exact (sg_none m).symm
  | succ n ih => rw [sg, ih, ← sg_add]; rfl
/-- A sum in which one term alone is not nought. -/
theorem sg_one {n : Nat} {f : Nat → Int} {k : Nat} (hk : k < n) (h : ∀ i, i < n → i ≠ k → f i = 0) : sg n f = f k := by
  induction n with
  | zero => omega
  | succ n ih =>
    rw [sg]
    by_cases e : k = n
    · subst e
      rw [sg_congr (g := fun _ => 0) fun i hi => h i (by omega) (by omega), sg_none]; grind
    · rw [ih (by omega) fun i hi => h i (by omega), h n (by omega) (fun e' => e e'.symm)]; grind
/-- Products, the one that changes nothing, powers, turned. -/
def mul (k : Nat) (f g : Nat → Nat → Int) : Nat → Nat → Int := fun i j => sg k fun x => f i x * g x j
def plus (f g : Nat → Nat → Int) : Nat → Nat → Int := fun i j => f i j + g i j
def one : Nat → Nat → Int := fun i j => if i = j then 1 else 0
def flip (f : Nat → Nat → Int) : Nat → Nat → Int := fun i j => f j i
/-- Alike on the first rows and columns. -/
def Eqm (r c : Nat) (f g : Nat → Nat → Int) : Prop := ∀ i j, i < r → j < c → f i j = g i j
theorem Eqm.rfl' (r c : Nat) (f : Nat → Nat → Int) : Eqm r c f f := fun _ _ _ _ => rfl
theorem Eqm.symm {r c : Nat} {f g : Nat → Nat → Int} (h : Eqm r c f g) : Eqm r c g f := fun i j hi hj => (h i j hi hj).symm
theorem Eqm.trans {r c : Nat} {f g k : Nat → Nat → Int} (h : Eqm r c f g) (h' : Eqm r c g k) : Eqm r c f k := fun i j hi hj => (h i j hi hj).trans (h' i j hi hj)
theorem Eqm.mul {r k c : Nat} {f f' g g' : Nat → Nat → Int} (h : Eqm r k f f') (h' : Eqm k c g g') : Eqm r c (Zx.mul k f g) (Zx.mul k f' g') := fun i j hi hj =>
  sg_congr fun x hx => by rw [h i x hi hx, h' x j hx hj]
theorem Eqm.plus {r c : Nat} {f f' g g' : Nat → Nat → Int} (h : Eqm r c f f') (h' : Eqm r c g g') : Eqm r c (Zx.plus f g) (Zx.plus f' g') := fun i j hi hj => by
  show f i j + g i j = f' i j + g' i j
  rw [h i j hi hj, h' i j hi hj]

theorem mul_assoc (m n : Nat) (f g h : Nat → Nat → Int) : mul n (mul m f g) h = mul m f (mul n g h) := by
  funext i j
  show sg n (fun y => sg m (fun x => f i x * g x y) * h y j) = sg m fun x => f i x * sg n fun y => g x y * h y j
  have e1 : (fun y => sg m (fun x => f i x * g x y) * h y j) = fun y => sg m fun x => f i x * (g x y * h y j) := by
    funext y
    rw [← sg_by]
    exact sg_congr fun x _ => by grind
  have e2 : (fun x => f i x * sg n fun y => g x y * h y j) = fun x => sg n fun y => f i x * (g x y * h y j) := by
    funext x
    rw [← sg_times]
  rw [e1, e2, sg_swap]
theorem mul_plus (n : Nat) (f g h : Nat → Nat → Int) : mul n f (plus g h) = plus (mul n f g) (mul n f h) := by
  funext i j
  show sg n (fun x => f i x * (g x j + h x j)) = sg n (fun x => f i x * g x j) + sg n fun x => f i x * h x j
  rw [← sg_add]
  exact sg_congr fun x _ => by grind
theorem plus_mul (n : Nat) (f g h : Nat → Nat → Int) : mul n (plus f g) h = plus (mul n f h) (mul n g h) := by
  funext i j
  show sg n (fun x => (f i x + g i x) * h x j) = sg n (fun x => f i x * h x j) + sg n fun x => g i x * h x j
  rw [← sg_add]
  exact sg_congr fun x _ => by grind
theorem one_mul (r c : Nat) (f : Nat → Nat → Int) : Eqm r c (mul r one f) f := fun i j hi hj => by
  show sg r (fun x => (if i = x then (1 : Int) else 0) * f x j) = f i j
  rw [sg_one hi fun x _ hne => by rw [if_neg fun e => hne e.symm]; grind]
  rw [if_pos rfl]; grind
theorem mul_one (r c : Nat) (f : Nat → Nat → Int) : Eqm r c (mul c f one) f := fun i j hi hj => by
  show sg c (fun x => f i x * (if x = j then (1 : Int) else 0)) = f i j
  rw [sg_one hj fun x _ hne => by rw [if_neg hne]; grind]
  rw [if_pos rfl]; grind
theorem flip_mul (k : Nat) (f g : Nat → Nat → Int) : flip (mul k f g) = mul k (flip g) (flip f) := by
  funext i j
  exact sg_congr fun x _ => by show f j x * g x i = g x i * f j x; grind
theorem flip_flip (f : Nat → Nat → Int) : flip (flip f) = f := rfl

theorem sg_split (n m : Nat) (f : Nat → Int) : sg (n + m) f = sg n f + sg m (fun i => f (n + i)) := by
  induction m with
  | zero => rw [Nat.add_zero, sg_zero]; grind
  | succ m ih => rw [← Nat.add_assoc, sg_succ, sg_succ, ih]; grind
/-- Terms of nought behind the first n. -/
theorem sg_less {n m : Nat} {f : Nat → Int} (h : n ≤ m) (h0 : ∀ i, n ≤ i → i < m → f i = 0) : sg m f = sg n f := by
  obtain ⟨d, rfl⟩ := Nat.exists_eq_add_of_le h
  rw [sg_split, sg_congr (g := fun _ => 0) fun i hi => h0 (n + i) (by omega) (by omega), sg_none]; grind
/-- A sum that is not nought has a term that is not. -/
theorem sg_ne {n : Nat} {f : Nat → Int} (h : sg n f ≠ 0) : ∃ i, i < n ∧ f i ≠ 0 := by
  refine Classical.byContradiction fun hn => h ?_
  rw [sg_congr (g := fun _ => 0) fun i hi => Classical.byContradiction fun he => hn ⟨i, hi, he⟩, sg_none]

open Mx (sk sk_lt sk_ne sk_inj un sk_un un_lt sk_eq sk_zero tau tau_zero tau_next sw sw_left sw_right sw_none sw_sw sw_lt sw_inj onto into by_swaps perm_of turn turn_next)
/-- Without row a and column b. -/
def wo (f : Nat → Nat → Int) (a b : Nat) : Nat → Nat → Int := fun i j => f (sk a i) (sk b j)
theorem one_sk (a i j : Nat) : one (sk a i) (sk a j) = one i j := by
  unfold one
  by_cases h : i = j
  · rw [if_pos h, if_pos (by rw [h])]
  · rw [if_neg h, if_neg (fun e => h (sk_inj e))]
/-- The sign of a place. -/
def sgn (j : Nat) : Int := if j % 2 = 0 then 1 else -1
theorem sgn_succ (j : Nat) : sgn (j + 1) = -(sgn j) := by
  unfold sgn
  by_cases h : j % 2 = 0
  · rw [if_pos h, if_neg (by omega)]
  · rw [if_neg h, if_pos (by omega)]; grind
/-- Without the first row and column j. -/
def del (j : Nat) (f : Nat → Nat → Int) : Nat → Nat → Int := fun a b => f (a + 1) (sk j b)
/-- The determinant, by the first row. -/
def dt : Nat → (Nat → Nat → Int) → Int
  | 0, _ => 1
  | n + 1, f => sg (n + 1) fun j => sgn j * f 0 j * dt n (del j f)
theorem dt_succ (n : Nat) (f : Nat → Nat → Int) : dt (n + 1) f = sg (n + 1) fun j => sgn j * f 0 j * dt n (del j f) := rfl
theorem dt_congr : ∀ (n : Nat) {f g : Nat → Nat → Int}, Eqm n n f g → dt n f = dt n g
  | 0, _, _, _ => rfl
  | n + 1, f, g, h => sg_congr fun j hj => by
    have e : dt n (del j f) = dt n (del j g) := dt_congr n fun a b ha hb => h (a + 1) (sk j b) (by omega) (sk_lt hb)
    rw [h 0 j (Nat.succ_pos n) hj, e]

/-- Column c in the place of its own. -/
def setc (c : Nat) (u : Nat → Int) (f : Nat → Nat → Int) : Nat → Nat → Int := fun i j => if j = c then u i else f i j
theorem del_same (c : Nat) (u : Nat → Int) (f : Nat → Nat → Int) : del c (setc c u f) = del c f := by
  funext a b
  show (if sk c b = c then u (a + 1) else f (a + 1) (sk c b)) = _
  rw [if_neg (sk_ne c b)]; rfl
theorem del_other {j c : Nat} (h : j ≠ c) (u : Nat → Int) (f : Nat → Nat → Int) : del j (setc c u f) = setc (un j c) (fun a => u (a + 1)) (del j f) := by
  funext a b
  show (if sk j b = c then u (a + 1) else f (a + 1) (sk j b)) = if b = un j c then u (a + 1) else f (a + 1) (sk j b)
  by_cases e : b = un j c
  · rw [if_pos e, if_pos ((sk_eq h).2 e)]
  · rw [if_neg e, if_neg fun e' => e ((sk_eq h).1 e')]
theorem dt_lin : ∀ (n c : Nat) (hc : c < n) (a b : Int) (u w : Nat → Int) (f : Nat → Nat → Int),
    dt n (setc c (fun i => a * u i + b * w i) f) = a * dt n (setc c u f) + b * dt n (setc c w f)
  | 0, c, hc, _, _, _, _, _ => absurd hc (by omega)
  | n + 1, c, hc, a, b, u, w, f => by
    rw [dt_succ, dt_succ, dt_succ, ← sg_times, ← sg_times, ← sg_add]
    refine sg_congr fun j hj => ?_
    by_cases h : j = c
    · subst h
      rw [del_same, del_same, del_same]
      show sgn j * (if j = j then a * u 0 + b * w 0 else f 0 j) * dt n (del j f) = a * (sgn j * (if j = j then u 0 else f 0 j) * dt n (del j f)) + b * (sgn j * (if j = j then w 0 else f 0 j) * dt n (del j f))
      rw [if_pos rfl, if_pos rfl, if_pos rfl]; grind
    · rw [del_other h, del_other h, del_other h, dt_lin n (un j c) (un_lt h hc hj) a b (fun i => u (i + 1)) (fun i => w (i + 1))]
      show sgn j * (if j = c then a * u 0 + b * w 0 else f 0 j) * _ = a * (sgn j * (if j = c then u 0 else f 0 j) * _) + b * (sgn j * (if j = c then w 0 else f 0 j) * _)
      rw [if_neg h, if_neg h, if_neg h]; grind
theorem setc_self (c : Nat) (f : Nat → Nat → Int) : setc c (fun i => f i c) f = f := by
  funext i j
  show (if j = c then f i c else f i j) = f i j
  by_cases h : j = c
  · rw [if_pos h, h]
  · rw [if_neg h]
theorem setc_setc (c : Nat) (u w : Nat → Int) (f : Nat → Nat → Int) : setc c u (setc c w f) = setc c u f := by
  funext i j
  show (if j = c then u i else if j = c then w i else f i j) = if j = c then u i else f i j
  by_cases h : j = c
  · rw [if_pos h, if_pos h]
  · rw [if_neg h, if_neg h, if_neg h]
theorem setc_comm {c d : Nat} (h : c ≠ d) (u w : Nat → Int) (f : Nat → Nat → Int) : setc c u (setc d w f) = setc d w (setc c u f) := by
  funext i j
  show (if j = c then u i else if j = d then w i else f i j) = if j = d then w i else if j = c then u i else f i j
  by_cases h1 : j = c
  · rw [if_pos h1, if_neg (by omega), if_pos h1]
  · rw [if_neg h1, if_neg h1]
theorem dt_plus (n c : Nat) (hc : c < n) (u w : Nat → Int) (f : Nat → Nat → Int) : dt n (setc c (fun i => u i + w i) f) = dt n (setc c u f) + dt n (setc c w f) := by
  have := dt_lin n c hc 1 1 u w f
  rw [show (fun i => (1 : Int) * u i + 1 * w i) = fun i => u i + w i by funext i; grind] at this
  rw [this]; grind
theorem dt_times (n c : Nat) (hc : c < n) (a : Int) (u : Nat → Int) (f : Nat → Nat → Int) : dt n (setc c (fun i => a * u i) f) = a * dt n (setc c u f) := by
  have := dt_lin n c hc a 0 u u f
  rw [show (fun i => a * u i + 0 * u i) = fun i => a * u i by funext i; grind] at this
  rw [this]; grind
theorem dt_sum (n c : Nat) (hc : c < n) (f : Nat → Nat → Int) (a : Nat → Int) (u : Nat → Nat → Int) : ∀ m, dt n (setc c (fun i => sg m fun t => a t * u t i) f) = sg m fun t => a t * dt n (setc c (u t) f)
  | 0 => by
    have := dt_times n c hc 0 (fun _ => 0) f
    rw [show (fun i => (0 : Int) * (fun _ => 0) i) = fun _ => (0 : Int) by funext i; grind] at this
    show dt n (setc c (fun _ => 0) f) = 0
    rw [this]; grind
  | m + 1 => by
    have := dt_plus n c hc (fun i => sg m fun t => a t * u t i) (fun i => a m * u m i) f
    rw [dt_times n c hc, dt_sum n c hc f a u m] at this
    exact this

/-- A sum with two terms that are not nought. -/
theorem sg_two {n : Nat} {f : Nat → Int} {k l : Nat} (hk : k < n) (hl : l < n) (hne : k ≠ l) (h : ∀ i, i < n → i ≠ k → i ≠ l → f i = 0) : sg n f = f k + f l := by
  have e : sg n f = sg n (fun i => if i = k then f k else 0) + sg n (fun i => if i = l then f l else 0) := by
    rw [← sg_add]
    refine sg_congr fun i hi => ?_
    by_cases h1 : i = k
    · subst h1; rw [if_pos rfl, if_neg hne]; grind
    · by_cases h2 : i = l
      · subst h2; rw [if_neg h1, if_pos rfl]; grind
      · rw [h i hi h1 h2, if_neg h1, if_neg h2]; grind
  rw [e, sg_one hk fun i _ h1 => by rw [if_neg h1], sg_one hl fun i _ h1 => by rw [if_neg h1], if_pos rfl, if_pos rfl]
/-- Two equal columns side by side. -/
theorem dt_next : ∀ (n c : Nat) (hc : c + 1 < n) (f : Nat → Nat → Int), (∀ i, i < n → f i c = f i (c + 1)) → dt n f = 0
  | 0, c, hc, _, _ => absurd hc (by omega)
  | n + 1, c, hc, f, h => by
    rw [dt_succ, sg_two (k := c) (l := c + 1) (by omega) hc (by omega) fun j hj h1 h2 => ?_]
    · have e : dt n (del c f) = dt n (del (c + 1) f) := dt_congr n fun a b ha hb => by
        show f (a + 1) (sk c b) = f (a + 1) (sk (c + 1) b)
        by_cases e : b = c
        · have e1 : sk c b = c + 1 := by unfold sk; rw [if_neg (by omega), e]
          have e2 : sk (c + 1) b = c := by unfold sk; rw [if_pos (by omega), e]
          rw [e1, e2]; exact (h (a + 1) (by omega)).symm
        · have e1 : sk c b = sk (c + 1) b := by unfold sk; split <;> split <;> omega
          rw [e1]
      rw [e, sgn_succ, h 0 (by omega)]; grind
    · have : dt n (del j f) = 0 := by
        rcases Nat.lt_or_ge j c with hlt | hge
        · refine dt_next n (c - 1) (by omega) (del j f) fun a ha => ?_
          show f (a + 1) (sk j (c - 1)) = f (a + 1) (sk j (c - 1 + 1))
          have e1 : sk j (c - 1) = c := by unfold sk; rw [if_neg (by omega)]; omega
          have e2 : sk j (c - 1 + 1) = c + 1 := by unfold sk; rw [if_neg (by omega)]; omega
          rw [e1, e2]; exact h (a + 1) (by omega)
        · refine dt_next n c (by omega) (del j f) fun a ha => ?_
          show f (a + 1) (sk j c) = f (a + 1) (sk j (c + 1))
          have e1 : sk j c = c := by unfold sk; rw [if_pos (by omega)]
          have e2 : sk j (c + 1) = c + 1 := by unfold sk; rw [if_pos (by omega)]
          rw [e1, e2]; exact h (a + 1) (by omega)
      rw [this]; grind
/-- From nought with two equal columns: the sign turns when they change places. -/
theorem dt_anti {n c d : Nat} (hc : c < n) (hd : d < n) (hne : c ≠ d) (hz : ∀ (w : Nat → Int) (g : Nat → Nat → Int), dt n (setc c w (setc d w g)) = 0) (u w : Nat → Int) (f : Nat → Nat → Int) :
    dt n (setc c u (setc d w f)) = -(dt n (setc c w (setc d u f))) := by
  have h := hz (fun i => u i + w i) f
  rw [dt_plus n c hc, setc_comm hne u, setc_comm hne w, dt_plus n d hd, dt_plus n d hd, ← setc_comm hne, ← setc_comm hne, ← setc_comm hne, ← setc_comm hne, hz u, hz w] at h
  grind
theorem next_zero {n c : Nat} (hc : c + 1 < n) (w : Nat → Int) (g : Nat → Nat → Int) : dt n (setc c w (setc (c + 1) w g)) = 0 := dt_next n c hc _ fun i _ => by
  show (if c = c then w i else _) = if c + 1 = c then w i else if c + 1 = c + 1 then w i else _
  rw [if_pos rfl, if_neg (by omega), if_pos rfl]
/-- Two equal columns, wherever they stand. -/
theorem both_zero {n c : Nat} : ∀ (d : Nat), c + d + 1 < n → ∀ (w : Nat → Int) (g : Nat → Nat → Int), dt n (setc c w (setc (c + d + 1) w g)) = 0
  | 0, h, w, g => next_zero h w g
  | d + 1, h, w, g => by
    -- columns c + d + 1 and c + d + 2 change places
    have h1 : dt n (setc c w (setc (c + (d + 1) + 1) w g)) = dt n (setc (c + d + 1) (fun i => g i (c + d + 1)) (setc (c + d + 1 + 1) w (setc c w g))) := by
      refine dt_congr n fun i j _ _ => ?_
      show (if j = c then w i else if j = c + (d + 1) + 1 then w i else g i j) = if j = c + d + 1 then g i (c + d + 1) else if j = c + d + 1 + 1 then w i else if j = c then w i else g i j
      by_cases e1 : j = c
      · rw [if_pos e1, if_neg (by omega), if_neg (by omega), if_pos e1]
      · by_cases e2 : j = c + (d + 1) + 1
        · rw [if_neg e1, if_pos e2, if_neg (by omega), if_pos (by omega)]
        · by_cases e3 : j = c + d + 1
          · rw [if_neg e1, if_neg e2, if_pos e3, e3]
          · rw [if_neg e1, if_neg e2, if_neg e3, if_neg (by omega), if_neg e1]
    rw [h1, dt_anti (by omega) (by omega) (by omega) (fun w g => next_zero (by omega) w g)]
    have h2 : setc (c + d + 1) w (setc (c + d + 1 + 1) (fun i => g i (c + d + 1)) (setc c w g)) = setc c w (setc (c + d + 1) w (setc (c + d + 1 + 1) (fun i => g i (c + d + 1)) g)) := by
      rw [setc_comm (show c + d + 1 + 1 ≠ c by omega), setc_comm (show c + d + 1 ≠ c by omega)]
    rw [h2, both_zero d (by omega)]; grind
theorem dt_equal {n c d : Nat} (hc : c < n) (hd : d < n) (hne : c ≠ d) (w : Nat → Int) (g : Nat → Nat → Int) : dt n (setc c w (setc d w g)) = 0 := by
  rcases Nat.lt_or_ge c d with h | h
  · have := both_zero (n := n) (c := c) (d - c - 1) (by omega) w g
    rw [show c + (d - c - 1) + 1 = d by omega] at this
    exact this
  · have := both_zero (n := n) (c := d) (c - d - 1) (by omega) w g
    rw [show d + (c - d - 1) + 1 = c by omega] at this
    rw [setc_comm hne]; exact this
/-- Column d in the place of column c: nought. -/
theorem dt_copy {n c d : Nat} (hc : c < n) (hd : d < n) (hne : c ≠ d) (f : Nat → Nat → Int) : dt n (setc c (fun i => f i d) f) = 0 := by
  have := dt_equal hc hd hne (fun i => f i d) f
  rw [setc_self] at this
  exact this
theorem dt_swap {n c d : Nat} (hc : c < n) (hd : d < n) (hne : c ≠ d) (f : Nat → Nat → Int) : dt n (setc c (fun i => f i d) (setc d (fun i => f i c) f)) = -(dt n f) := by
  rw [dt_anti hc hd hne (fun w g => dt_equal hc hd hne w g)]
  have : setc c (fun i => f i c) (setc d (fun i => f i d) f) = f := by rw [setc_self d, setc_self c]
  rw [this]
/-- What is taken to noughts by something that is not has no determinant. -/
theorem dt_null {n : Nat} {f : Nat → Nat → Int} {y : Nat → Int} {c : Nat} (hc : c < n) (h1 : y c ≠ 0) (h : ∀ i, i < n → sg n (fun j => f i j * y j) = 0) : dt n f = 0 := by
  -- the determinant with the sum of all columns, each so many times, in the place of column c
  have e1 : dt n (setc c (fun i => sg n fun t => y t * f i t) f) = 0 := by
    have : dt n (setc c (fun i => sg n fun t => y t * f i t) f) = dt n (setc c (fun i => (0 : Int) * f i c) f) := dt_congr n fun i j hi _ => by
      show (if j = c then sg n (fun t => y t * f i t) else f i j) = if j = c then (0 : Int) * f i c else f i j
      rw [show sg n (fun t => y t * f i t) = (0 : Int) * f i c by
        rw [sg_congr (g := fun j => f i j * y j) fun t _ => by grind, h i hi]; grind]
    rw [this, dt_times n c hc]; grind
  have e2 := dt_sum n c hc f y (fun t i => f i t) n
  rw [e1, sg_one hc fun t ht hne => by rw [dt_copy hc ht (fun e => hne e.symm)]; grind, setc_self] at e2
  exact (Int.mul_eq_zero.1 e2.symm).resolve_left h1



/-- Linear in each column, and nought with two equal columns. -/
structure Alt (n : Nat) (M : (Nat → Nat → Int) → Int) : Prop where
  congr : ∀ f g, Eqm n n f g → M f = M g
  lin : ∀ c, c < n → ∀ (a b : Int) (u w : Nat → Int) (f : Nat → Nat → Int), M (setc c (fun i => a * u i + b * w i) f) = a * M (setc c u f) + b * M (setc c w f)
  zero : ∀ c d, c < n → d < n → c ≠ d → ∀ (w : Nat → Int) (f : Nat → Nat → Int), M (setc c w (setc d w f)) = 0
theorem Alt.plus {n : Nat} {M : (Nat → Nat → Int) → Int} (h : Alt n M) {c : Nat} (hc : c < n) (u w : Nat → Int) (f : Nat → Nat → Int) : M (setc c (fun i => u i + w i) f) = M (setc c u f) + M (setc c w f) := by
  have := h.lin c hc 1 1 u w f
  rw [show (fun i => (1 : Int) * u i + 1 * w i) = fun i => u i + w i by funext i; grind] at this
  rw [this]; grind
theorem Alt.times {n : Nat} {M : (Nat → Nat → Int) → Int} (h : Alt n M) {c : Nat} (hc : c < n) (a : Int) (u : Nat → Int) (f : Nat → Nat → Int) : M (setc c (fun i => a * u i) f) = a * M (setc c u f) := by
  have := h.lin c hc a 0 u u f
  rw [show (fun i => a * u i + 0 * u i) = fun i => a * u i by funext i; grind] at this
  rw [this]; grind
theorem Alt.sum {n : Nat} {M : (Nat → Nat → Int) → Int} (h : Alt n M) {c : Nat} (hc : c < n) (f : Nat → Nat → Int) (a : Nat → Int) (u : Nat → Nat → Int) : ∀ m, M (setc c (fun i => sg m fun t => a t * u t i) f) = sg m fun t => a t * M (setc c (u t) f)
  | 0 => by
    have := h.times hc 0 (fun _ => 0) f
    rw [show (fun i => (0 : Int) * (fun _ => 0) i) = fun _ => (0 : Int) by funext i; grind] at this
    show M (setc c (fun _ => 0) f) = 0
    rw [this]; grind
  | m + 1 => by
    have := h.plus hc (fun i => sg m fun t => a t * u t i) (fun i => a m * u m i) f
    rw [h.times hc, h.sum hc f a u m] at this
    exact this
theorem Alt.anti {n : Nat} {M : (Nat → Nat → Int) → Int} (h : Alt n M) {c d : Nat} (hc : c < n) (hd : d < n) (hne : c ≠ d) (u w : Nat → Int) (f : Nat → Nat → Int) :
    M (setc c u (setc d w f)) = -(M (setc c w (setc d u f))) := by
  have h0 := h.zero c d hc hd hne (fun i => u i + w i) f
  rw [h.plus hc, setc_comm hne u, setc_comm hne w, h.plus hd, h.plus hd, ← setc_comm hne, ← setc_comm hne, ← setc_comm hne, ← setc_comm hne, h.zero c d hc hd hne u, h.zero c d hc hd hne w] at h0
  grind
theorem dt_alt (n : Nat) : Alt n (dt n) := ⟨fun f g h => dt_congr n h, fun c hc a b u w f => dt_lin n c hc a b u w f, fun c d hc hd hne w f => dt_equal hc hd hne w f⟩

/-- Each column is one of those of the unit matrix. -/
def pick (s : Nat → Nat) : Nat → Nat → Int := fun i j => if i = s j then 1 else 0
theorem pick_sw (s : Nat → Nat) (a b : Nat) : pick (fun j => s (sw a b j)) = setc a (fun i => pick s i b) (setc b (fun i => pick s i a) (pick s)) := by
  funext i j
  show (if i = s (sw a b j) then (1 : Int) else 0) = if j = a then pick s i b else if j = b then pick s i a else pick s i j
  by_cases h1 : j = a
  · rw [if_pos h1, h1, sw_left]; rfl
  · rw [if_neg h1]
    by_cases h2 : j = b
    · rw [if_pos h2, h2, sw_right]; rfl
    · rw [if_neg h2, sw_none h1 h2]; rfl
theorem Alt.swap {n : Nat} {M : (Nat → Nat → Int) → Int} (h : Alt n M) {c d : Nat} (hc : c < n) (hd : d < n) (hne : c ≠ d) (f : Nat → Nat → Int) : M (setc c (fun i => f i d) (setc d (fun i => f i c) f)) = -(M f) := by
  rw [h.anti hc hd hne]
  have : setc c (fun i => f i c) (setc d (fun i => f i d) f) = f := by rw [setc_self d, setc_self c]
  rw [this]
theorem Alt.pick_swap {n : Nat} {M : (Nat → Nat → Int) → Int} (h : Alt n M) (s : Nat → Nat) {a b : Nat} (ha : a < n) (hb : b < n) (hne : a ≠ b) : M (pick (fun j => s (sw a b j))) = -(M (pick s)) := by
  rw [pick_sw, h.swap ha hb hne]
theorem Alt.same {n : Nat} {M : (Nat → Nat → Int) → Int} (h : Alt n M) (f : Nat → Nat → Int) {c d : Nat} (hc : c < n) (hd : d < n) (hne : c ≠ d) (e : ∀ i, f i c = f i d) : M f = 0 := by
  have h0 := h.zero c d hc hd hne (fun i => f i d) f
  rw [setc_self, show (fun i => f i d) = fun i => f i c from funext fun i => (e i).symm, setc_self] at h0
  exact h0
theorem sg_pick {n : Nat} (s : Nat → Nat) (j : Nat) (hs : s j < n) (a : Nat → Int) : sg n (fun t => a t * pick s t j) = a (s j) := by
  rw [sg_one hs fun t _ hne => by show a t * (if t = s j then (1 : Int) else 0) = 0; rw [if_neg hne]; grind]
  show a (s j) * (if s j = s j then (1 : Int) else 0) = a (s j)
  rw [if_pos rfl]; grind
theorem dt_one : ∀ n, dt n one = 1
  | 0 => rfl
  | n + 1 => by
    rw [dt_succ, sg_one (Nat.succ_pos n) fun j _ hne => by show sgn j * (if 0 = j then (1 : Int) else 0) * _ = 0; rw [if_neg (fun e => hne e.symm)]; grind]
    have : dt n (del 0 one) = dt n one := dt_congr n fun a b _ _ => by
      show (if a + 1 = sk 0 b then (1 : Int) else 0) = if a = b then (1 : Int) else 0
      rw [sk_zero]
      by_cases h : a = b
      · rw [if_pos h, if_pos (by omega)]
      · rw [if_neg h, if_neg (by omega)]
    rw [this, dt_one n]
    show sgn 0 * (if 0 = 0 then (1 : Int) else 0) * 1 = 1
    rw [if_pos rfl, show sgn 0 = 1 from rfl]; grind
/-- Of all columns that are columns of the unit matrix. -/
theorem Alt.picked {n : Nat} {M : (Nat → Nat → Int) → Int} (h : Alt n M) (s : Nat → Nat) (hs : ∀ i, i < n → s i < n) : M (pick s) = M one * dt n (pick s) := by
  by_cases hi : ∀ i j, i < n → j < n → s i = s j → i = j
  · refine by_swaps (P := fun s => M (pick s) = M one * dt n (pick s)) (fun s hf => ?_) (fun s a b ha hb hne _ _ e => ?_) n 0 s (by omega) hs hi (fun j hj => absurd hj (by omega))
    · have : Eqm n n (pick s) one := fun i j _ hj => by show (if i = s j then (1 : Int) else 0) = if i = j then 1 else 0; rw [hf j hj]
      rw [h.congr _ _ this, dt_congr n this, dt_one]; grind
    · rw [h.pick_swap s ha hb hne, (dt_alt n).pick_swap s ha hb hne] at e
      grind
  · obtain ⟨c, hn⟩ := Classical.not_forall.1 hi
    obtain ⟨d, hn⟩ := Classical.not_forall.1 hn
    obtain ⟨hc, hn⟩ := Classical.not_imp.1 hn
    obtain ⟨hd, hn⟩ := Classical.not_imp.1 hn
    obtain ⟨e, hne⟩ := Classical.not_imp.1 hn
    have e1 : ∀ i, pick s i c = pick s i d := fun i => by show (if i = s c then (1 : Int) else 0) = if i = s d then 1 else 0; rw [e]
    rw [h.same _ hc hd hne e1, (dt_alt n).same _ hc hd hne e1]; grind
/-- The first k columns are columns of the unit matrix, the others as they come. -/
def front (k : Nat) (s : Nat → Nat) (f : Nat → Nat → Int) : Nat → Nat → Int := fun i j => if j < k then pick s i j else f i j
theorem Alt.fronts {n : Nat} {M : (Nat → Nat → Int) → Int} (h : Alt n M) : ∀ (m k : Nat) (s : Nat → Nat) (f : Nat → Nat → Int), k + m = n → (∀ i, i < n → s i < n) → M (front k s f) = M one * dt n (front k s f)
  | 0, k, s, f, hm, hs => by
    have : Eqm n n (front k s f) (pick s) := fun i j _ hj => by unfold front; rw [if_pos (by omega)]
    rw [h.congr _ _ this, dt_congr n this]; exact h.picked s hs
  | m + 1, k, s, f, hm, hs => by
    have hk : k < n := by omega
    have e : Eqm n n (front k s f) (setc k (fun i => sg n fun t => f t k * one i t) (front k s f)) := fun i j hi hj => by
      show front k s f i j = if j = k then sg n (fun t => f t k * one i t) else front k s f i j
      by_cases hjk : j = k
      · rw [if_pos hjk, sg_one hi fun t _ hne => by show f t k * (if i = t then (1 : Int) else 0) = 0; rw [if_neg (fun e => hne e.symm)]; grind]
        show (if j < k then _ else f i j) = f i k * (if i = i then (1 : Int) else 0)
        rw [if_neg (by omega), if_pos rfl, hjk]; grind
      · rw [if_neg hjk]
    rw [h.congr _ _ e, dt_congr n e, h.sum hk, (dt_alt n).sum hk, ← sg_times]
    refine sg_congr fun t ht => ?_
    have e2 : setc k (fun i => one i t) (front k s f) = front (k + 1) (fun j => if j = k then t else s j) f := by
      funext i j
      show (if j = k then one i t else if j < k then pick s i j else f i j) = if j < k + 1 then (if i = (if j = k then t else s j) then (1 : Int) else 0) else f i j
      by_cases h1 : j = k
      · rw [if_pos h1, if_pos (by omega), if_pos h1]; rfl
      · rw [if_neg h1, if_neg h1]
        by_cases h2 : j < k
        · rw [if_pos h2, if_pos (by omega)]; rfl
        · rw [if_neg h2, if_neg (by omega)]
    rw [e2, h.fronts m (k + 1) _ f (by omega) fun i hi => by
      by_cases h1 : i = k
      · rw [if_pos h1]; exact ht
      · rw [if_neg h1]; exact hs i hi]
    grind
/-- There is one such rule, up to what it says of the unit matrix. -/
theorem Alt.is {n : Nat} {M : (Nat → Nat → Int) → Int} (h : Alt n M) (f : Nat → Nat → Int) : M f = M one * dt n f := by
  have := h.fronts n 0 (fun _ => 0) f (by omega)
  by_cases hn : n = 0
  · subst hn
    rw [h.congr f one fun i j hi => absurd hi (by omega)]
    show M one = M one * 1
    grind
  · have := this fun i hi => by omega
    exact this

theorem mul_setc (n c : Nat) (f : Nat → Nat → Int) (u : Nat → Int) (g : Nat → Nat → Int) : mul n f (setc c u g) = setc c (fun i => sg n fun x => f i x * u x) (mul n f g) := by
  funext i j
  show sg n (fun x => f i x * (if j = c then u x else g x j)) = if j = c then sg n (fun x => f i x * u x) else sg n (fun x => f i x * g x j)
  by_cases h : j = c
  · rw [if_pos h]; exact sg_congr fun x _ => by rw [if_pos h]
  · rw [if_neg h]; exact sg_congr fun x _ => by rw [if_neg h]
/-- Cauchy, Binet. -/
theorem dt_mul (n : Nat) (f g : Nat → Nat → Int) : dt n (mul n f g) = dt n f * dt n g := by
  have h : Alt n fun g => dt n (mul n f g) := by
    refine ⟨fun a b e => dt_congr n ((Eqm.rfl' n n f).mul e), fun c hc a b u w k => ?_, fun c d hc hd hne w k => ?_⟩
    · rw [mul_setc, mul_setc, mul_setc]
      have : (fun i => sg n fun x => f i x * (a * u x + b * w x)) = fun i => a * (sg n fun x => f i x * u x) + b * (sg n fun x => f i x * w x) := by
        funext i
        rw [← sg_times, ← sg_times, ← sg_add]
        exact sg_congr fun x _ => by grind
      rw [this]; exact dt_lin n c hc a b _ _ _
    · rw [mul_setc, mul_setc]; exact dt_equal hc hd hne _ _
  have := h.is g
  rw [this, show dt n (mul n f one) = dt n f from dt_congr n (mul_one n n f)]

/-- Row r in the place of its own. -/
def setr (r : Nat) (u : Nat → Int) (f : Nat → Nat → Int) : Nat → Nat → Int := fun i j => if i = r then u j else f i j
theorem setr_flip (r : Nat) (u : Nat → Int) (f : Nat → Nat → Int) : setr r u f = flip (setc r u (flip f)) := rfl
theorem del_setr_zero (j : Nat) (u : Nat → Int) (f : Nat → Nat → Int) : del j (setr 0 u f) = del j f := by
  funext a b
  show (if a + 1 = 0 then u (sk j b) else f (a + 1) (sk j b)) = f (a + 1) (sk j b)
  rw [if_neg (by omega)]
theorem del_setr (j r : Nat) (u : Nat → Int) (f : Nat → Nat → Int) : del j (setr (r + 1) u f) = setr r (fun b => u (sk j b)) (del j f) := by
  funext a b
  show (if a + 1 = r + 1 then u (sk j b) else f (a + 1) (sk j b)) = if a = r then u (sk j b) else f (a + 1) (sk j b)
  by_cases h : a = r
  · rw [if_pos h, if_pos (by omega)]
  · rw [if_neg h, if_neg (by omega)]
/-- Linear in each row. -/
theorem dt_rlin : ∀ (n r : Nat) (hr : r < n) (a b : Int) (u w : Nat → Int) (f : Nat → Nat → Int),
    dt n (setr r (fun j => a * u j + b * w j) f) = a * dt n (setr r u f) + b * dt n (setr r w f)
  | 0, r, hr, _, _, _, _, _ => absurd hr (by omega)
  | n + 1, 0, _, a, b, u, w, f => by
    rw [dt_succ, dt_succ, dt_succ, ← sg_times, ← sg_times, ← sg_add]
    refine sg_congr fun j hj => ?_
    rw [del_setr_zero, del_setr_zero, del_setr_zero]
    show sgn j * (a * u j + b * w j) * dt n (del j f) = a * (sgn j * u j * dt n (del j f)) + b * (sgn j * w j * dt n (del j f))
    grind
  | n + 1, r + 1, hr, a, b, u, w, f => by
    rw [dt_succ, dt_succ, dt_succ, ← sg_times, ← sg_times, ← sg_add]
    refine sg_congr fun j hj => ?_
    rw [del_setr, del_setr, del_setr, dt_rlin n r (by omega) a b (fun b => u (sk j b)) (fun b => w (sk j b))]
    have : ∀ v : Nat → Int, setr (r + 1) v f 0 j = f 0 j := fun v => by show (if 0 = r + 1 then v j else f 0 j) = f 0 j; rw [if_neg (by omega)]
    rw [this, this, this]; grind
/-- Two equal rows. -/
theorem dt_rows {n : Nat} {f : Nat → Nat → Int} {r s : Nat} (hr : r < n) (hs : s < n) (hne : r ≠ s) (e : ∀ j, j < n → f r j = f s j) : dt n f = 0 := by
  have h1 : Eqm n n (mul n (setr r (fun j => one s j) one) f) f := fun i j hi hj => by
    show sg n (fun x => (if i = r then one s x else one i x) * f x j) = f i j
    by_cases h : i = r
    · rw [sg_congr (g := fun x => one s x * f x j) fun x _ => by rw [if_pos h]]
      have := one_mul n n f s j hs hj
      exact this.trans (by rw [h, e j hj])
    · rw [sg_congr (g := fun x => one i x * f x j) fun x _ => by rw [if_neg h]]
      exact one_mul n n f i j hi hj
  have h2 : dt n (setr r (fun j => one s j) one) = 0 := by
    have : Eqm n n (setr r (fun j => one s j) one) (setc r (fun i => (0 : Int) * 0) (setr r (fun j => one s j) one)) := fun i j hi hj => by
      show (if i = r then one s j else one i j) = if j = r then (0 : Int) * 0 else if i = r then one s j else one i j
      by_cases hj : j = r
      · rw [if_pos hj]
        by_cases hi : i = r
        · rw [if_pos hi]; show (if s = j then (1 : Int) else 0) = 0 * 0; rw [if_neg (by omega)]; rfl
        · rw [if_neg hi]; show (if i = j then (1 : Int) else 0) = 0 * 0; rw [if_neg (by omega)]; rfl
      · rw [if_neg hj]
    rw [dt_congr n this, dt_times n r hr 0 (fun _ => 0)]; grind
  rw [← dt_congr n h1, dt_mul, h2]; grind
theorem dt_flip (n : Nat) (f : Nat → Nat → Int) : dt n (flip f) = dt n f := by
  have h : Alt n fun g => dt n (flip g) := by
    refine ⟨fun a b e => dt_congr n fun i j hi hj => e j i hj hi, fun c hc a b u w k => dt_rlin n c hc a b u w (flip k), fun c d hc hd hne w k => ?_⟩
    refine dt_rows hc hd hne fun j _ => ?_
    show (if c = c then w j else _) = if d = c then w j else if d = d then w j else _
    rw [if_pos rfl, if_neg (fun e => hne e.symm), if_pos rfl]
  have := h.is f
  rw [this, show dt n (flip one) = 1 from (dt_congr n fun i j _ _ => by show (if j = i then (1 : Int) else 0) = if i = j then 1 else 0; by_cases e : i = j <;> simp [e, eq_comm]).trans (dt_one n)]
  grind
/-- Two rows change places. -/
theorem dt_rswap {n : Nat} (f : Nat → Nat → Int) {a b : Nat} (ha : a < n) (hb : b < n) (hne : a ≠ b) : dt n (fun i j => f (sw a b i) j) = -(dt n f) := by
  rw [← dt_flip n f, ← dt_flip n fun i j => f (sw a b i) j, ← (dt_alt n).swap ha hb hne]
  congr 1
  funext i j
  show f (sw a b j) i = if j = a then f b i else if j = b then f a i else f j i
  by_cases h1 : j = a
  · rw [if_pos h1, h1, sw_left]
  · rw [if_neg h1]
    by_cases h2 : j = b
    · rw [if_pos h2, h2, sw_right]
    · rw [if_neg h2, sw_none h1 h2]
theorem dt_cswap {n : Nat} (f : Nat → Nat → Int) {a b : Nat} (ha : a < n) (hb : b < n) (hne : a ≠ b) : dt n (fun i j => f i (sw a b j)) = -(dt n f) := by
  rw [← dt_flip n f, ← dt_flip n fun i j => f i (sw a b j)]
  exact dt_rswap (flip f) ha hb hne
theorem setr_self (r : Nat) (f : Nat → Nat → Int) : setr r (fun j => f r j) f = f := by
  funext i j
  show (if i = r then f r j else f i j) = f i j
  by_cases h : i = r
  · rw [if_pos h, h]
  · rw [if_neg h]
/-- So many times one row added to another one. -/
theorem dt_add {n : Nat} (f : Nat → Nat → Int) {a b : Nat} (ha : a < n) (hb : b < n) (hne : a ≠ b) (k : Int) : dt n (setr a (fun j => f a j + k * f b j) f) = dt n f := by
  have h := dt_rlin n a ha 1 k (fun j => f a j) (fun j => f b j) f
  rw [show (fun j => (1 : Int) * f a j + k * f b j) = fun j => f a j + k * f b j by funext j; grind, setr_self] at h
  have h2 : dt n (setr a (fun j => f b j) f) = 0 := dt_rows ha hb hne fun j _ => by
    show (if a = a then f b j else f a j) = if b = a then f b j else f b j
    rw [if_pos rfl, if_neg (fun e => hne e.symm)]
  rw [h, h2]; grind
theorem dt_scale {n : Nat} (f : Nat → Nat → Int) {a : Nat} (ha : a < n) (k : Int) : dt n (setr a (fun j => k * f a j) f) = k * dt n f := by
  have h := dt_rlin n a ha k 0 (fun j => f a j) (fun j => f a j) f
  rw [show (fun j => k * f a j + (0 : Int) * f a j) = fun j => k * f a j by funext j; grind, setr_self] at h
  rw [h]; grind
theorem dt_rplus {n : Nat} (f : Nat → Nat → Int) {a : Nat} (ha : a < n) (u : Nat → Int) : dt n (setr a (fun j => f a j + u j) f) = dt n f + dt n (setr a u f) := by
  have h := dt_rlin n a ha 1 1 (fun j => f a j) u f
  rw [show (fun j => (1 : Int) * f a j + 1 * u j) = fun j => f a j + u j by funext j; grind, setr_self] at h
  rw [h]; grind

theorem dt_zrow {n : Nat} {f : Nat → Nat → Int} {k : Nat} (hk : k < n) (h : ∀ j, j < n → f k j = 0) : dt n f = 0 := by
  have h1 := dt_scale f hk 0
  rw [show (0 : Int) * dt n f = 0 by grind] at h1
  rw [← h1]
  refine dt_congr n fun i j hi hj => ?_
  show f i j = if i = k then (0 : Int) * f k j else f i j
  by_cases e : i = k
  · rw [if_pos e, e, h j hj]; grind
  · rw [if_neg e]
/-- The sign of an order of whole numbers: the determinant of its matrix. -/
def sp (n : Nat) (s : Nat → Int) : Int := dt n fun i j => if s i = (j : Int) then 1 else 0
theorem sp_congr {n : Nat} {s t : Nat → Int} (h : ∀ i, i < n → s i = t i) : sp n s = sp n t := dt_congr n fun i j hi _ => by rw [h i hi]
theorem sp_id {n : Nat} {s : Nat → Int} (h : ∀ i, i < n → s i = (i : Int)) : sp n s = 1 := by
  rw [← dt_one n]
  refine dt_congr n fun i j hi _ => ?_
  rw [h i hi]
  show (if (i : Int) = (j : Int) then (1 : Int) else 0) = if i = j then 1 else 0
  by_cases e : i = j
  · rw [if_pos e, if_pos (by omega)]
  · rw [if_neg e, if_neg (by omega)]
theorem sp_swap {n : Nat} (s : Nat → Int) {a b : Nat} (ha : a < n) (hb : b < n) (hne : a ≠ b) : sp n (fun i => s (sw a b i)) = -(sp n s) :=
  dt_rswap (fun i j => if s i = (j : Int) then 1 else 0) ha hb hne
theorem sp_out {n : Nat} {s : Nat → Int} {k : Nat} (hk : k < n) (h : s k < 0 ∨ (n : Int) ≤ s k) : sp n s = 0 := dt_zrow hk fun j hj => by rw [if_neg (by omega)]
theorem sp_twice {n : Nat} {s : Nat → Int} {a b : Nat} (ha : a < n) (hb : b < n) (hne : a ≠ b) (h : s a = s b) : sp n s = 0 := dt_rows ha hb hne fun j _ => by rw [h]
/-- Only of n numbers, each once, is there a sign. -/
theorem sp_miss {n : Nat} {s : Nat → Int} {k : Nat} (hk : k < n) (h : ∀ i, i < n → s i ≠ (k : Int)) : sp n s = 0 := by
  unfold sp
  have e : Eqm n n (fun i j => if s i = (j : Int) then (1 : Int) else 0) (setc k (fun i => (0 : Int) * 0) (fun i j => if s i = (j : Int) then (1 : Int) else 0)) := fun i j hi hj => by
    show (if s i = (j : Int) then (1 : Int) else 0) = if j = k then (0 : Int) * 0 else if s i = (j : Int) then 1 else 0
    by_cases e : j = k
    · rw [if_pos e, e, if_neg (h i hi)]; grind
    · rw [if_neg e]
  rw [dt_congr n e, dt_times n k hk 0 (fun _ => 0)]; grind

theorem dt_turn {m : Nat} (k : Nat → Nat → Int) (e : Nat) : ∀ t, t < e → t < m → dt m (fun i b => k i (turn e t b)) = sgn t * dt m (fun i b => k i (sk e b))
  | 0, h, hm => by
    have : (fun i b => k i (turn e 0 b)) = fun i b => k i (sk e b) := by
      funext i b
      congr 1
      unfold turn sk
      rw [if_neg (by omega)]
      by_cases h0 : b = 0
      · rw [if_pos h0, if_pos (by omega), h0]
      · rw [if_neg h0]
    rw [this, show sgn 0 = 1 from rfl]; grind
  | t + 1, h, hm => by
    have := dt_cswap (n := m) (fun i b => k i (turn e t b)) (a := t) (b := t + 1) (by omega) hm (by omega)
    rw [dt_turn k e t (by omega) (by omega)] at this
    have e1 : (fun i b => k i (turn e (t + 1) b)) = fun i b => k i (turn e t (sw t (t + 1) b)) := by
      funext i b
      exact congrArg (k i) (congrFun (turn_next e t h) b)
    rw [e1, this, sgn_succ]; grind

/-- The product of the first k. -/
def pr : Nat → (Nat → Int) → Int
  | 0, _ => 1
  | k + 1, g => pr k g * g k
theorem pr_congr {k : Nat} {g h : Nat → Int} (e : ∀ i, i < k → g i = h i) : pr k g = pr k h := by
  induction k with
  | zero => rfl
  | succ k ih => show pr k g * g k = pr k h * h k; rw [ih fun i hi => e i (by omega), e k (by omega)]
/-- What all orders that begin as s does (its first k places) add to the determinant. -/
def part' (n k : Nat) (f : Nat → Nat → Int) (s : Nat → Nat) : Int := sp n (fun i => (s i : Int)) * pr k (fun i => f i (s i)) * dt (n - k) (fun i j => f (k + i) (s (k + j)))
theorem part_end (n : Nat) (f : Nat → Nat → Int) (s : Nat → Nat) : part' n n f s = sp n (fun i => (s i : Int)) * pr n (fun i => f i (s i)) := by
  unfold part'
  rw [Nat.sub_self]
  show _ * 1 = _
  grind
theorem part_zero (n : Nat) (f : Nat → Nat → Int) {s : Nat → Nat} (hs : ∀ j, j < n → s j = j) : part' n 0 f s = dt n f := by
  unfold part'
  rw [sp_id fun i hi => by rw [hs i hi], Nat.sub_zero]
  have : dt n (fun i j => f (0 + i) (s (0 + j))) = dt n f := dt_congr n fun i j _ hj => by rw [Nat.zero_add, Nat.zero_add, hs j hj]
  rw [this]
  show 1 * 1 * _ = _
  grind
theorem part_next {n k : Nat} (f : Nat → Nat → Int) (s : Nat → Nat) (hk : k < n) : sg (n - k) (fun t => part' n (k + 1) f fun j => s (sw k (k + t) j)) = part' n k f s := by
  obtain ⟨m, hm⟩ : ∃ m, n - k = m + 1 := ⟨n - k - 1, by omega⟩
  unfold part'
  rw [hm, dt_succ, ← sg_times]
  refine sg_congr fun t ht => ?_
  have e1 : pr (k + 1) (fun i => f i (s (sw k (k + t) i))) = pr k (fun i => f i (s i)) * f k (s (k + t)) := by
    show pr k (fun i => f i (s (sw k (k + t) i))) * f k (s (sw k (k + t) k)) = _
    rw [sw_left, pr_congr (h := fun i => f i (s i)) fun i hi => by rw [sw_none (by omega) (by omega)]]
  have e0 : n - (k + 1) = m := by omega
  rw [e0, e1]
  show _ = sp n (fun i => (s i : Int)) * pr k (fun i => f i (s i)) * (sgn t * f (k + 0) (s (k + t)) * dt m (del t fun i j => f (k + i) (s (k + j))))
  rw [Nat.add_zero]
  cases t with
  | zero =>
    have e2 : (fun i => ((s (sw k (k + 0) i) : Nat) : Int)) = fun i => (s i : Int) := by
      funext i
      rw [Nat.add_zero]
      by_cases h : i = k
      · rw [h, sw_left]
      · rw [sw_none h h]
    have e3 : (fun i j => f (k + 1 + i) (s (sw k (k + 0) (k + 1 + j)))) = del 0 fun i j => f (k + i) (s (k + j)) := by
      funext i j
      show f (k + 1 + i) (s (sw k (k + 0) (k + 1 + j))) = f (k + (i + 1)) (s (k + sk 0 j))
      rw [sw_none (by omega) (by omega), sk_zero, show k + 1 + i = k + (i + 1) by omega, show k + 1 + j = k + (j + 1) by omega]
    rw [e2, e3, show sgn 0 = 1 from rfl]; grind
  | succ t =>
    have e2 : sp n (fun i => ((s (sw k (k + (t + 1)) i) : Nat) : Int)) = -(sp n fun i => (s i : Int)) := sp_swap (fun i => (s i : Int)) hk (by omega) (by omega)
    have e3 : dt m (fun i j => f (k + 1 + i) (s (sw k (k + (t + 1)) (k + 1 + j)))) = sgn t * dt m (del (t + 1) fun i j => f (k + i) (s (k + j))) := by
      refine Eq.trans (dt_congr m fun i j hi hj => ?_) (dt_turn (fun i b => f (k + (i + 1)) (s (k + b))) (t + 1) t (by omega) (by omega))
      show f (k + 1 + i) (s (sw k (k + (t + 1)) (k + 1 + j))) = f (k + (i + 1)) (s (k + turn (t + 1) t j))
      rw [show k + 1 + i = k + (i + 1) by omega]
      congr 2
      unfold turn
      by_cases h1 : j = t
      · rw [if_neg (by omega), if_pos h1, h1, show k + 1 + t = k + (t + 1) by omega, sw_right, Nat.add_zero]
      · rw [sw_none (by omega) (by omega)]
        by_cases h2 : j < t
        · rw [if_pos h2]; omega
        · rw [if_neg h2, if_neg h1]; unfold sk; rw [if_neg (by omega)]; omega
    rw [e2, e3, sgn_succ]; grind

/-- The document's sign: one exchange for each two of which the greater one comes first. -/
def e2 (a b : Int) : Int := if b < a then -1 else 1
def inv : Nat → (Nat → Int) → Int
  | 0, _ => 1
  | k + 1, s => inv k s * pr k (fun t => e2 (s t) (s k))
theorem e2_turn {a b : Int} (h : a ≠ b) : e2 b a = -(e2 a b) := by
  unfold e2
  rcases Int.lt_or_lt_of_ne h with h | h
  · rw [if_pos h, if_neg (by omega)]
  · rw [if_neg (by omega), if_pos h]; grind
theorem pr_next {c : Nat} (g : Nat → Int) : ∀ k, c + 1 < k → pr k (fun i => g (sw c (c + 1) i)) = pr k g
  | 0, h => absurd h (by omega)
  | k + 1, h => by
    show pr k (fun i => g (sw c (c + 1) i)) * g (sw c (c + 1) k) = pr k g * g k
    by_cases hk : c + 1 < k
    · rw [pr_next g k hk, sw_none (by omega) (by omega)]
    · obtain rfl : k = c + 1 := by omega
      show pr c (fun i => g (sw c (c + 1) i)) * g (sw c (c + 1) c) * g (sw c (c + 1) (c + 1)) = pr c g * g c * g (c + 1)
      rw [pr_congr (h := g) fun i hi => by rw [sw_none (by omega) (by omega)], sw_left, sw_right]; grind
theorem inv_congr {k : Nat} {s t : Nat → Int} (h : ∀ i, i < k → s i = t i) : inv k s = inv k t := by
  induction k with
  | zero => rfl
  | succ k ih =>
    show inv k s * pr k _ = inv k t * pr k _
    rw [ih fun i hi => h i (by omega), h k (by omega), pr_congr (h := fun x => e2 (t x) (t k)) fun i hi => by rw [h i (by omega)]]
theorem inv_next {c : Nat} (s : Nat → Int) (hne : s c ≠ s (c + 1)) : ∀ k, c + 1 < k → inv k (fun i => s (sw c (c + 1) i)) = -(inv k s)
  | 0, h => absurd h (by omega)
  | k + 1, h => by
    show inv k (fun i => s (sw c (c + 1) i)) * pr k (fun t => e2 (s (sw c (c + 1) t)) (s (sw c (c + 1) k))) = -(inv k s * pr k (fun t => e2 (s t) (s k)))
    by_cases hk : c + 1 < k
    · rw [inv_next s hne k hk, sw_none (j := k) (by omega) (by omega), pr_next (fun t => e2 (s t) (s k)) k hk]; grind
    · obtain rfl : k = c + 1 := by omega
      show inv c (fun i => s (sw c (c + 1) i)) * pr c (fun t => e2 (s (sw c (c + 1) t)) (s (sw c (c + 1) c))) * (pr c (fun t => e2 (s (sw c (c + 1) t)) (s (sw c (c + 1) (c + 1)))) * e2 (s (sw c (c + 1) c)) (s (sw c (c + 1) (c + 1)))) =
        -(inv c s * pr c (fun t => e2 (s t) (s c)) * (pr c (fun t => e2 (s t) (s (c + 1))) * e2 (s c) (s (c + 1))))
      rw [sw_left, sw_right, inv_congr (t := s) fun i hi => by rw [sw_none (by omega) (by omega)], pr_congr (g := fun t => e2 (s (sw c (c + 1) t)) (s (c + 1))) (h := fun t => e2 (s t) (s (c + 1))) fun i hi => by rw [sw_none (by omega) (by omega)],
        pr_congr (g := fun t => e2 (s (sw c (c + 1) t)) (s c)) (h := fun t => e2 (s t) (s c)) fun i hi => by rw [sw_none (by omega) (by omega)], e2_turn hne]
      grind
theorem sw_three {c p q : Nat} (h1 : c ≠ p) (h2 : p ≠ q) (h3 : c ≠ q) (i : Nat) : sw c q i = sw p q (sw c p (sw p q i)) := by
  by_cases e1 : i = c
  · rw [e1, sw_left, sw_none (j := c) h1 h3, sw_left, sw_left]
  · by_cases e2 : i = p
    · rw [e2, sw_left p q, sw_none (j := q) (fun e => h3 e.symm) (fun e => h2 e.symm), sw_right, sw_none (fun e => h1 e.symm) h2]
    · by_cases e3 : i = q
      · rw [e3, sw_right, sw_right, sw_right, sw_none (j := c) h1 h3]
      · rw [sw_none e1 e3, sw_none e2 e3, sw_none e1 e2, sw_none e2 e3]
theorem inv_far (c : Nat) : ∀ (d k : Nat) (s : Nat → Int), c + d + 1 < k → (∀ i j, i < k → j < k → s i = s j → i = j) → inv k (fun i => s (sw c (c + d + 1) i)) = -(inv k s)
  | 0, k, s, h, hi => inv_next s (fun e => by have := hi _ _ (by omega) (by omega) e; omega) k h
  | d + 1, k, s, h, hi => by
    have e : (fun i => s (sw c (c + (d + 1) + 1) i)) = fun i => s (sw (c + d + 1) (c + d + 1 + 1) (sw c (c + d + 1) (sw (c + d + 1) (c + d + 1 + 1) i))) := by
      funext i
      exact congrArg s (sw_three (by omega) (by omega) (by omega) i)
    have s1 : ∀ i j, i < k → j < k → s (sw (c + d + 1) (c + d + 1 + 1) i) = s (sw (c + d + 1) (c + d + 1 + 1) j) → i = j := fun i j h1 h2 e => sw_inj (hi _ _ (sw_lt (by omega) (by omega) h1) (sw_lt (by omega) (by omega) h2) e)
    have a1 := inv_next (c := c + d + 1) s (fun e => by have := hi _ _ (by omega) (by omega) e; omega) k (by omega)
    have a2 := inv_far c d k (fun i => s (sw (c + d + 1) (c + d + 1 + 1) i)) (by omega) s1
    have a3 := inv_next (c := c + d + 1) (fun i => s (sw (c + d + 1) (c + d + 1 + 1) (sw c (c + d + 1) i))) (fun e => by
      have := s1 _ _ (sw_lt (by omega) (by omega) (by omega)) (sw_lt (by omega) (by omega) (by omega)) e
      have := sw_inj this
      omega) k (by omega)
    rw [e, a3, a2, a1]; grind
theorem inv_swap {n : Nat} (s : Nat → Int) {a b : Nat} (ha : a < n) (hb : b < n) (hne : a ≠ b) (hi : ∀ i j, i < n → j < n → s i = s j → i = j) : inv n (fun i => s (sw a b i)) = -(inv n s) := by
  have sym : ∀ i, sw a b i = sw b a i := fun i => by
    unfold sw
    by_cases h1 : i = a
    · rw [if_pos h1, if_neg (by omega), if_pos h1]
    · rw [if_neg h1]
      by_cases h2 : i = b
      · rw [if_pos h2, if_pos h2]
      · rw [if_neg h2, if_neg h2, if_neg h1]
  rcases Nat.lt_or_ge a b with h | h
  · have := inv_far a (b - a - 1) n s (by omega) hi
    rw [show a + (b - a - 1) + 1 = b by omega] at this
    exact this
  · have := inv_far b (a - b - 1) n s (by omega) hi
    rw [show b + (a - b - 1) + 1 = a by omega] at this
    rw [show (fun i => s (sw a b i)) = fun i => s (sw b a i) by funext i; rw [sym]]
    exact this
theorem pr_ones {k : Nat} {g : Nat → Int} (h : ∀ i, i < k → g i = 1) : pr k g = 1 := by
  induction k with
  | zero => rfl
  | succ k ih => show pr k g * g k = 1; rw [ih fun i hi => h i (by omega), h k (by omega)]; rfl
theorem inv_id {s : Nat → Int} : ∀ n, (∀ i, i < n → s i = (i : Int)) → inv n s = 1
  | 0, _ => rfl
  | n + 1, h => by
    show inv n s * pr n _ = 1
    rw [inv_id n fun i hi => h i (by omega), pr_ones fun i hi => by unfold e2; rw [h i (by omega), h n (by omega), if_neg (by omega)]]; rfl
/-- Of an order both are one. -/
theorem inv_sp {n : Nat} {s : Nat → Int} (h : ∀ k : Nat, k < n → ∃ i, i < n ∧ s i = (k : Int)) : inv n s = sp n s := by
  have hN : ∀ k : Nat, k < n → ∃ i, i < n ∧ (s i).toNat = k := fun k hk => by
    obtain ⟨i, h1, h2⟩ := h k hk
    exact ⟨i, h1, by rw [h2]; rfl⟩
  obtain ⟨h1, h2⟩ := into hN
  -- the numbers are none below nought
  have hs : ∀ i, i < n → s i = (((s i).toNat : Nat) : Int) := fun i hi => by
    obtain ⟨j, hj, e⟩ := h _ (h1 i hi)
    have : i = j := h2 i j hi hj (by rw [e]; rfl)
    rw [this] at e ⊢
    exact e
  rw [inv_congr hs, sp_congr hs]
  refine by_swaps (n := n) (P := fun t => inv n (fun i => (t i : Int)) = sp n fun i => (t i : Int)) (fun t hf => ?_) (fun t a b ha hb hne _ hi e => ?_) n 0 (fun i => (s i).toNat) (by omega) h1 h2 (fun j hj => absurd hj (by omega))
  · rw [inv_id n fun i hi => by rw [hf i hi], sp_id fun i hi => by rw [hf i hi]]
  · have a1 := inv_swap (n := n) (fun i => (t i : Int)) ha hb hne fun i j h1 h2 e => hi i j h1 h2 (by omega)
    have a2 := sp_swap (n := n) (fun i => (t i : Int)) ha hb hne
    have e' : inv n (fun i => ((t (sw a b i) : Nat) : Int)) = sp n fun i => ((t (sw a b i) : Nat) : Int) := e
    rw [a1, a2] at e'
    grind

theorem dt_tau {n : Nat} : ∀ (i : Nat) (f : Nat → Nat → Int), i < n → dt n (fun a b => f (tau i a) b) = sgn i * dt n f
  | 0, f, _ => by
    rw [show (fun a b => f (tau 0 a) b) = f from funext fun a => by rw [tau_zero]]
    show _ = (if 0 % 2 = 0 then (1 : Int) else -1) * _
    rw [if_pos rfl]; grind
  | i + 1, f, h => by
    have h1 := dt_tau (n := n) i (fun r b => f (sw i (i + 1) r) b) (by omega)
    rw [show (fun a b => f (sw i (i + 1) (tau i a)) b) = fun a b => f (tau (i + 1) a) b from funext fun a => by rw [tau_next]] at h1
    rw [h1, dt_rswap f (a := i) (b := i + 1) (by omega) h (by omega), sgn_succ]
    grind
theorem sgn_two (i : Nat) : sgn i * sgn i = 1 := by unfold sgn; split <;> grind
theorem sgn_add (i j : Nat) : sgn (i + j) = sgn i * sgn j := by
  unfold sgn
  by_cases h1 : i % 2 = 0
  · by_cases h2 : j % 2 = 0
    · rw [if_pos h1, if_pos h2, if_pos (by omega)]; grind
    · rw [if_pos h1, if_neg h2, if_neg (by omega)]; grind
  · by_cases h2 : j % 2 = 0
    · rw [if_neg h1, if_pos h2, if_neg (by omega)]; grind
    · rw [if_neg h1, if_neg h2, if_pos (by omega)]; grind
/-- By row i. -/
theorem laplace (p i : Nat) (f : Nat → Nat → Int) (hi : i ≤ p) : (sg (p + 1) fun j => sgn (i + j) * f i j * dt p (wo f i j)) = dt (p + 1) f := by
  have h1 := dt_tau i f (Nat.lt_succ_of_le hi)
  rw [dt_succ] at h1
  have h2 : (sg (p + 1) fun j => sgn j * f (tau i 0) j * dt p (del j fun a b => f (tau i a) b)) = sg (p + 1) fun j => sgn j * f i j * dt p (wo f i j) := sg_congr fun j _ => by
    rw [show (del j fun a b => f (tau i a) b) = wo f i j from funext fun a => funext fun b => by
      show f (tau i (a + 1)) (sk j b) = f (sk i a) (sk j b)
      unfold tau
      rw [if_neg (Nat.succ_ne_zero a), Nat.add_sub_cancel]]
    show sgn j * f (if 0 = 0 then i else _) j * _ = _
    rw [if_pos rfl]
  rw [h2] at h1
  have h3 : (sg (p + 1) fun j => sgn (i + j) * f i j * dt p (wo f i j)) = sgn i * sg (p + 1) fun j => sgn j * f i j * dt p (wo f i j) := by
    rw [← sg_times]
    exact sg_congr fun j _ => by rw [sgn_add]; grind
  rw [h3, h1]
  have := sgn_two i
  grind
theorem wo_setr (i j : Nat) (u : Nat → Int) (f : Nat → Nat → Int) : wo (setr i u f) i j = wo f i j := by
  funext a b
  show (if sk i a = i then u (sk j b) else f (sk i a) (sk j b)) = _
  rw [if_neg (sk_ne i a)]; rfl
/-- With the numbers of another row in its place. -/
theorem laplace_row (p i : Nat) (u : Nat → Int) (f : Nat → Nat → Int) (hi : i ≤ p) : (sg (p + 1) fun j => sgn (i + j) * u j * dt p (wo f i j)) = dt (p + 1) (setr i u f) := by
  rw [← laplace p i (setr i u f) hi]
  exact sg_congr fun j _ => by
    rw [wo_setr]
    show _ = _ * (if i = i then u j else f i j) * _
    rw [if_pos rfl]
theorem laplace_other (p i k : Nat) (f : Nat → Nat → Int) (hi : i ≤ p) (hk : k ≤ p) : (sg (p + 1) fun j => sgn (i + j) * f k j * dt p (wo f i j)) = if i = k then dt (p + 1) f else 0 := by
  rw [laplace_row p i (fun j => f k j) f hi]
  by_cases h : i = k
  · rw [if_pos h, h, setr_self]
  · rw [if_neg h]
    refine dt_rows (r := i) (s := k) (by omega) (by omega) h fun j _ => ?_
    show (if i = i then f k j else f i j) = (if k = i then f k j else f k j)
    rw [if_pos rfl]; split <;> rfl

/-- The adjugate: at row i and column j what is left without row j and column i, with its sign. -/
def adj (p : Nat) (f : Nat → Nat → Int) : Nat → Nat → Int := fun i j => sgn (i + j) * dt p (wo f j i)
/-- So many times the one. -/
def scal (d : Int) : Nat → Nat → Int := fun i j => if i = j then d else 0
theorem adj_right (p : Nat) (f : Nat → Nat → Int) : Eqm (p + 1) (p + 1) (mul (p + 1) f (adj p f)) (scal (dt (p + 1) f)) := fun k i hk hi => by
  show (sg (p + 1) fun j => f k j * (sgn (j + i) * dt p (wo f i j))) = if k = i then _ else 0
  have := laplace_other p i k f (by omega) (by omega)
  rw [show (sg (p + 1) fun j => f k j * (sgn (j + i) * dt p (wo f i j))) = sg (p + 1) fun j => sgn (i + j) * f k j * dt p (wo f i j) from sg_congr fun j _ => by rw [Nat.add_comm i j]; grind, this]
  by_cases h : i = k
  · rw [if_pos h, if_pos h.symm]
  · rw [if_neg h, if_neg fun h' => h h'.symm]
theorem adj_flip (p : Nat) (f : Nat → Nat → Int) : adj p (flip f) = flip (adj p f) := by
  funext i j
  show sgn (i + j) * dt p (wo (flip f) j i) = sgn (j + i) * dt p (wo f i j)
  rw [Nat.add_comm i j, show wo (flip f) j i = flip (wo f i j) from rfl, dt_flip]
theorem adj_left (p : Nat) (f : Nat → Nat → Int) : Eqm (p + 1) (p + 1) (mul (p + 1) (adj p f) f) (scal (dt (p + 1) f)) := fun k i hk hi => by
  have h := adj_right p (flip f) i k hi hk
  rw [adj_flip, dt_flip] at h
  have e : mul (p + 1) (flip f) (flip (adj p f)) i k = mul (p + 1) (adj p f) f k i := sg_congr fun x _ => by
    show f x i * adj p f k x = adj p f k x * f x i
    grind
  rw [← e, h]
  show (if i = k then _ else _) = if k = i then _ else _
  by_cases h : i = k
  · rw [if_pos h, if_pos h.symm]
  · rw [if_neg h, if_neg fun h' => h h'.symm]
theorem dt_scal (d : Int) : ∀ n, dt n (scal d) = d ^ n
  | 0 => (Int.pow_zero d).symm
  | n + 1 => by
    rw [dt_succ, sg_one (Nat.succ_pos n) fun i hi hne => by
      show sgn i * (if 0 = i then d else 0) * _ = 0
      rw [if_neg fun h => hne h.symm]; grind]
    have e : del 0 (scal d) = scal d := by
      funext a b
      show (if a + 1 = sk 0 b then d else 0) = if a = b then d else 0
      rw [sk_zero]
      by_cases h : a = b
      · rw [if_pos h, if_pos (by omega)]
      · rw [if_neg h, if_neg (by omega)]
    rw [e, dt_scal d n]
    show (if 0 % 2 = 0 then (1 : Int) else -1) * (if 0 = 0 then d else 0) * d ^ n = d ^ (n + 1)
    rw [if_pos rfl, if_pos rfl, Int.pow_succ]; grind
/-- Cramer: with what a row comes to in the place of column j. -/
theorem cramer (n j : Nat) (f : Nat → Nat → Int) (x : Nat → Int) (hj : j < n) : dt n (setc j (fun i => sg n fun t => f i t * x t) f) = dt n f * x j := by
  have h := dt_sum n j hj f x (fun t i => f i t) n
  rw [show (fun i => sg n fun t => x t * f i t) = fun i => sg n fun t => f i t * x t from funext fun i => sg_congr fun t _ => by grind] at h
  rw [h, sg_one hj fun t ht hne => by rw [dt_copy hj ht (fun e => hne e.symm)]; grind, setc_self]
  grind


end Go.Proofs.YtmimbioffnolaaaDoor.Zx

/- Plain facts on the sums of rows of whole numbers (lattices): by determinants, the determinant of rows with the same sums, the one form of such rows (Hermite). No program is named here. -/
namespace Go.Proofs.YtmimbioffnolaaaDoor.Zx
set_option linter.unusedVariables false

/-- x is a sum of rows of m, each so many times. -/
def Lat (n : Nat) (m : Nat → Nat → Int) (x : Nat → Int) : Prop := ∃ c : Nat → Int, ∀ j, j < n → x j = sg n fun i => c i * m i j
theorem Lat.add {n : Nat} {m : Nat → Nat → Int} {x y : Nat → Int} (hx : Lat n m x) (hy : Lat n m y) : Lat n m fun j => x j + y j := by
  obtain ⟨c, hc⟩ := hx
  obtain ⟨d, hd⟩ := hy
  exact ⟨fun i => c i + d i, fun j hj => by dsimp only; rw [hc j hj, hd j hj, ← sg_add]; exact sg_congr fun i _ => by grind⟩
theorem Lat.times {n : Nat} {m : Nat → Nat → Int} {x : Nat → Int} (hx : Lat n m x) (a : Int) : Lat n m fun j => a * x j := by
  obtain ⟨c, hc⟩ := hx
  exact ⟨fun i => a * c i, fun j hj => by dsimp only; rw [hc j hj, ← sg_times]; exact sg_congr fun i _ => by grind⟩
theorem Lat.congr {n : Nat} {m : Nat → Nat → Int} {x y : Nat → Int} (hx : Lat n m x) (h : ∀ j, j < n → x j = y j) : Lat n m y := by
  obtain ⟨c, hc⟩ := hx
  exact ⟨c, fun j hj => by rw [← h j hj, hc j hj]⟩
theorem Lat.less {n : Nat} {m : Nat → Nat → Int} {x y : Nat → Int} (hx : Lat n m x) (hy : Lat n m y) : Lat n m fun j => x j - y j :=
  (hx.add (hy.times (-1))).congr fun j _ => by grind
theorem Lat.row {n : Nat} (m : Nat → Nat → Int) {i : Nat} (hi : i < n) : Lat n m (m i) :=
  ⟨fun k => if k = i then 1 else 0, fun j _ => by rw [sg_one hi fun k _ hk => by dsimp only; rw [if_neg hk]; grind]; dsimp only; rw [if_pos rfl]; grind⟩
theorem Lat.nought (n : Nat) (m : Nat → Nat → Int) : Lat n m fun _ => 0 := ⟨fun _ => 0, fun j _ => by rw [sg_congr (g := fun _ => 0) fun i _ => by grind, sg_none]⟩
theorem Lat.mat {n : Nat} {m k : Nat → Nat → Int} {x : Nat → Int} (h : Eqm n n m k) (hx : Lat n m x) : Lat n k x := by
  obtain ⟨c, hc⟩ := hx
  exact ⟨c, fun j hj => by rw [hc j hj]; exact sg_congr fun i hi => by rw [h i j hi hj]⟩
/-- Each row of m is a sum of rows of k. -/
def In (n : Nat) (m k : Nat → Nat → Int) : Prop := ∀ i, i < n → Lat n k (m i)
theorem In.of {n : Nat} {m k : Nat → Nat → Int} (h : In n m k) : ∃ t, Eqm n n m (mul n t k) := by
  have : ∃ t : Nat → Nat → Int, ∀ i, i < n → ∀ j, j < n → m i j = sg n fun x => t i x * k x j :=
    ⟨fun i => if hi : i < n then Classical.choose (h i hi) else fun _ => 0, fun i hi j hj => by
      have := Classical.choose_spec (h i hi) j hj
      dsimp only
      rw [dif_pos hi]; exact this⟩
  obtain ⟨t, ht⟩ := this
  exact ⟨t, fun i j hi hj => ht i hi j hj⟩
theorem In.lat {n : Nat} {m k : Nat → Nat → Int} {x : Nat → Int} (h : In n m k) (hx : Lat n m x) : Lat n k x := by
  obtain ⟨t, ht⟩ := h.of
  obtain ⟨c, hc⟩ := hx
  refine ⟨fun y => sg n fun i => c i * t i y, fun j hj => ?_⟩
  rw [hc j hj]
  have e1 : (sg n fun i => c i * m i j) = sg n fun i => sg n fun y => c i * t i y * k y j := sg_congr fun i hi => by
    rw [ht i j hi hj]
    show c i * (sg n fun y => t i y * k y j) = _
    rw [← sg_times]; exact sg_congr fun y _ => by grind
  rw [e1, sg_swap]
  exact sg_congr fun y _ => by rw [sg_by]
theorem In.rfl' (n : Nat) (m : Nat → Nat → Int) : In n m m := fun i hi => Lat.row m hi
theorem In.trans {n : Nat} {a b c : Nat → Nat → Int} (h : In n a b) (k : In n b c) : In n a c := fun i hi => k.lat (h i hi)
/-- Rows with the same sums. -/
def Eql (n : Nat) (m k : Nat → Nat → Int) : Prop := In n m k ∧ In n k m
theorem Eql.symm {n : Nat} {m k : Nat → Nat → Int} (h : Eql n m k) : Eql n k m := ⟨h.2, h.1⟩
theorem Eql.trans {n : Nat} {a b c : Nat → Nat → Int} (h : Eql n a b) (k : Eql n b c) : Eql n a c := ⟨h.1.trans k.1, k.2.trans h.2⟩
theorem Eql.rfl' (n : Nat) (m : Nat → Nat → Int) : Eql n m m := ⟨In.rfl' n m, In.rfl' n m⟩
theorem Eql.lat {n : Nat} {m k : Nat → Nat → Int} (h : Eql n m k) (x : Nat → Int) : Lat n m x ↔ Lat n k x := ⟨h.1.lat, h.2.lat⟩
/-- Rows with the same sums have the same determinant, but for its sign. -/
theorem In.dvd {n : Nat} {m k : Nat → Nat → Int} (h : In n m k) : dt n k ∣ dt n m := by
  obtain ⟨t, ht⟩ := h.of
  rw [dt_congr n ht, dt_mul]
  exact ⟨dt n t, by grind⟩
theorem Eql.det {n : Nat} {m k : Nat → Nat → Int} (h : Eql n m k) : (dt n m).natAbs = (dt n k).natAbs :=
  Nat.dvd_antisymm (Int.natAbs_dvd_natAbs.2 h.2.dvd) (Int.natAbs_dvd_natAbs.2 h.1.dvd)
/-- A row added to another one, so many times. -/
theorem eql_add {n : Nat} (m : Nat → Nat → Int) {a b : Nat} (ha : a < n) (hb : b < n) (hne : a ≠ b) (k : Int) : Eql n (setr a (fun j => m a j + k * m b j) m) m := by
  have e : ∀ i, i ≠ a → setr a (fun j => m a j + k * m b j) m i = m i := fun i h => funext fun j => if_neg h
  have ea : setr a (fun j => m a j + k * m b j) m a = fun j => m a j + k * m b j := funext fun j => if_pos rfl
  refine ⟨fun i hi => ?_, fun i hi => ?_⟩
  · by_cases h : i = a
    · rw [h, ea]; exact (Lat.row m ha).add ((Lat.row m hb).times k)
    · rw [e i h]; exact Lat.row m hi
  · by_cases h : i = a
    · have r1 := Lat.row (setr a (fun j => m a j + k * m b j) m) ha
      have r2 := Lat.row (setr a (fun j => m a j + k * m b j) m) hb
      rw [ea] at r1
      rw [e b (fun h => hne h.symm)] at r2
      rw [h]
      exact (r1.less (r2.times k)).congr fun j _ => by grind
    · have := Lat.row (setr a (fun j => m a j + k * m b j) m) hi
      rwa [e i h] at this
theorem eql_neg {n : Nat} (m : Nat → Nat → Int) {a : Nat} (ha : a < n) : Eql n (setr a (fun j => -(m a j)) m) m := by
  have e : ∀ i, i ≠ a → setr a (fun j => -(m a j)) m i = m i := fun i h => funext fun j => if_neg h
  have ea : setr a (fun j => -(m a j)) m a = fun j => -(m a j) := funext fun j => if_pos rfl
  refine ⟨fun i hi => ?_, fun i hi => ?_⟩
  · by_cases h : i = a
    · rw [h, ea]; exact ((Lat.row m ha).times (-1)).congr fun j _ => by grind
    · rw [e i h]; exact Lat.row m hi
  · by_cases h : i = a
    · have r1 := Lat.row (setr a (fun j => -(m a j)) m) ha
      rw [ea] at r1
      rw [h]; exact (r1.times (-1)).congr fun j _ => by grind
    · have := Lat.row (setr a (fun j => -(m a j)) m) hi
      rwa [e i h] at this
theorem eql_swap {n : Nat} (m : Nat → Nat → Int) {a b : Nat} (ha : a < n) (hb : b < n) : Eql n (fun i j => m (if i = a then b else if i = b then a else i) j) m := by
  have hlt : ∀ i, i < n → (if i = a then b else if i = b then a else i) < n := fun i hi => by split; exact hb; split; exact ha; exact hi
  refine ⟨fun i hi => Lat.row m (hlt i hi), fun i hi => ?_⟩
  have := Lat.row (n := n) (fun i j => m (if i = a then b else if i = b then a else i) j) (hlt i hi)
  have e : (if (if i = a then b else if i = b then a else i) = a then b else if (if i = a then b else if i = b then a else i) = b then a else (if i = a then b else if i = b then a else i)) = i := by
    by_cases h1 : i = a
    · rw [if_pos h1]
      by_cases h2 : b = a
      · rw [if_pos h2, h2, h1]
      · rw [if_neg h2, if_pos rfl, h1]
    · rw [if_neg h1]
      by_cases h2 : i = b
      · rw [if_pos h2, if_pos rfl, h2]
      · rw [if_neg h2, if_neg h1, if_neg h2]
  rw [e] at this
  exact this

/-- A row in the place of each one, by determinants. -/
theorem dt_each (p : Nat) (m : Nat → Nat → Int) (x : Nat → Int) {j : Nat} (hj : j < p + 1) : (sg (p + 1) fun i => dt (p + 1) (setr i x m) * m i j) = dt (p + 1) m * x j := by
  have e1 : (sg (p + 1) fun i => dt (p + 1) (setr i x m) * m i j) = sg (p + 1) fun i => sg (p + 1) fun k => x k * (adj p m k i * m i j) := sg_congr fun i hi => by
    rw [← laplace_row p i x m (by omega), ← sg_by]
    exact sg_congr fun k _ => by show sgn (i + k) * x k * dt p (wo m i k) * m i j = x k * (sgn (k + i) * dt p (wo m i k) * m i j); rw [Nat.add_comm k i]; grind
  rw [e1, sg_swap, sg_one hj fun k hk hne => by
    rw [sg_times]
    have := adj_left p m k j hk hj
    show x k * mul (p + 1) (adj p m) m k j = 0
    rw [this]
    unfold scal; rw [if_neg hne]; grind]
  rw [sg_times]
  have := adj_left p m j j hj hj
  show x j * mul (p + 1) (adj p m) m j j = _
  rw [this]
  unfold scal; rw [if_pos rfl]; grind
/-- A row is a sum of rows just if all determinants with it in the place of one are multiples of the determinant. -/
theorem lat_det {p : Nat} {m : Nat → Nat → Int} (h0 : dt (p + 1) m ≠ 0) (x : Nat → Int) : Lat (p + 1) m x ↔ ∀ i, i < p + 1 → dt (p + 1) m ∣ dt (p + 1) (setr i x m) := by
  constructor
  · rintro ⟨c, hc⟩ i hi
    have e : dt (p + 1) (setr i x m) = dt (p + 1) m * c i := by
      have h := cramer (p + 1) i (flip m) c hi
      rw [dt_flip] at h
      rw [← h, ← dt_flip]
      refine dt_congr _ fun a b ha hb => ?_
      show (if b = i then x a else m b a) = if b = i then (sg (p + 1) fun t => m t a * c t) else m b a
      by_cases e : b = i
      · rw [if_pos e, if_pos e, hc a ha]; exact sg_congr fun t _ => by grind
      · rw [if_neg e, if_neg e]
    exact ⟨c i, e⟩
  · intro h
    refine ⟨fun i => dt (p + 1) (setr i x m) / dt (p + 1) m, fun j hj => ?_⟩
    have e := dt_each p m x hj
    have e2 : (sg (p + 1) fun i => dt (p + 1) (setr i x m) * m i j) = dt (p + 1) m * sg (p + 1) fun i => dt (p + 1) (setr i x m) / dt (p + 1) m * m i j := by
      rw [← sg_times]
      exact sg_congr fun i hi => by
        have := Int.mul_ediv_cancel' (h i hi)
        generalize dt (p + 1) (setr i x m) / dt (p + 1) m = q at *
        rw [← this]; grind
    rw [e2] at e
    exact (Int.eq_of_mul_eq_mul_left h0 e).symm
/-- The determinant, so many times, is a sum at each place. -/
theorem lat_times {p : Nat} {m : Nat → Nat → Int} (h0 : dt (p + 1) m ≠ 0) (y : Nat → Int) : Lat (p + 1) m fun j => dt (p + 1) m * y j := by
  refine (lat_det h0 _).2 fun i hi => ?_
  have := dt_rlin (p + 1) i hi (dt (p + 1) m) 0 y y m
  have e : (fun j => dt (p + 1) m * y j + 0 * y j) = fun j => dt (p + 1) m * y j := funext fun j => by grind
  rw [e] at this
  rw [this]
  exact ⟨dt (p + 1) (setr i y m), by grind⟩

/-- Noughts below the middle. -/
theorem dt_upper : ∀ (n : Nat) (f : Nat → Nat → Int), (∀ i j, i < n → j < n → j < i → f i j = 0) → dt n f = pr n fun i => f i i := by
  have low : ∀ (n : Nat) (f : Nat → Nat → Int), (∀ i j, i < n → j < n → i < j → f i j = 0) → dt n f = pr n fun i => f i i := by
    intro n
    induction n with
    | zero => exact fun _ _ => rfl
    | succ n ih =>
      intro f h
      have front : ∀ (n : Nat) (g : Nat → Int), pr (n + 1) g = g 0 * pr n fun i => g (i + 1) := fun n g => by
        induction n with
        | zero => show pr 0 g * g 0 = g 0 * pr 0 _; unfold pr; grind
        | succ n ih => show pr (n + 1) g * g (n + 1) = g 0 * (pr n (fun i => g (i + 1)) * g (n + 1)); rw [ih]; grind
      rw [dt_succ, sg_one (k := 0) (Nat.succ_pos n) (fun j hj hne => by rw [h 0 j (Nat.succ_pos n) hj (by omega)]; grind), front]
      have s0 : ∀ b, Mx.sk 0 b = b + 1 := fun b => by unfold Mx.sk; rw [if_neg (Nat.not_lt_zero b)]
      have e : dt n (del 0 f) = pr n fun i => f (i + 1) (i + 1) := by
        rw [ih (del 0 f) fun i j hi hj hlt => by unfold del; rw [s0]; exact h _ _ (by omega) (by omega) (by omega)]
        exact pr_congr fun i _ => by unfold del; rw [s0]
      rw [e, show sgn 0 = 1 from rfl]; grind
  intro n f h
  rw [← dt_flip]
  exact low n (flip f) fun i j hi hj hlt => h j i hj hi hlt
/-- The form of rows (Hermite). -/
structure Hnf (n : Nat) (a : Nat → Nat → Int) : Prop where
  low : ∀ i j, i < n → j < i → a i j = 0
  pos : ∀ i, i < n → 0 < a i i
  red : ∀ i j, i < j → j < n → 0 ≤ a i j ∧ a i j < a j j
/-- A sum that begins with noughts: the next number is a multiple of the middle. -/
theorem Hnf.lead {n : Nat} {a : Nat → Nat → Int} (h : Hnf n a) {x : Nat → Int} (hx : Lat n a x) {k : Nat} (hk : k < n) (hz : ∀ j, j < k → x j = 0) : a k k ∣ x k := by
  obtain ⟨c, hc⟩ := hx
  have hcz : ∀ i, i < k → c i = 0 := fun i => by
    induction i using Nat.strongRecOn with
    | _ i ih =>
      intro hi
      have e := hc i (by omega)
      rw [hz i hi, sg_one (k := i) (by omega) fun t ht hne => by
        rcases Nat.lt_or_ge t i with h1 | h1
        · rw [ih t h1 (by omega)]; grind
        · rw [h.low t i ht (by omega)]; grind] at e
      rcases Int.mul_eq_zero.1 e.symm with h1 | h1
      · exact h1
      · have := h.pos i (by omega); omega
  have e := hc k hk
  rw [sg_one hk fun t ht hne => by
    rcases Nat.lt_or_ge t k with h1 | h1
    · rw [hcz t h1]; grind
    · rw [h.low t k ht (by omega)]; grind] at e
  exact ⟨c k, by rw [e]; grind⟩
/-- Rows with the same sums have but one form. -/
theorem Hnf.one {n : Nat} {a b : Nat → Nat → Int} (ha : Hnf n a) (hb : Hnf n b) (h : Eql n a b) : Eqm n n a b := by
  have hd : ∀ k, k < n → a k k = b k k := fun k hk => by
    have h1 := ha.lead (h.2 k hk) hk fun j hj => hb.low k j hk hj
    have h2 := hb.lead (h.1 k hk) hk fun j hj => ha.low k j hk hj
    have p1 := ha.pos k hk
    have p2 := hb.pos k hk
    exact Int.le_antisymm (Int.le_of_dvd p2 h1) (Int.le_of_dvd p1 h2)
  intro i j hi hj
  have hx : Lat n a fun j => a i j - b i j := (Lat.row a hi).less (h.2 i hi)
  have key : ∀ k, k < n → a i k - b i k = 0 := fun k => by
    induction k using Nat.strongRecOn with
    | _ k ih =>
      intro hk
      rcases Nat.lt_trichotomy k i with h1 | h1 | h1
      · rw [ha.low i k hi h1, hb.low i k hi h1]; rfl
      · rw [h1, hd i hi]; omega
      · obtain ⟨q, hq⟩ := ha.lead hx hk fun j hj => ih j hj (by omega)
        have r1 := ha.red i k h1 hk
        have r2 := hb.red i k h1 hk
        rw [← hd k hk] at r2
        have p := ha.pos k hk
        have : q = 0 := by
          rcases Int.lt_trichotomy q 0 with h2 | h2 | h2
          · have := Int.mul_le_mul_of_nonneg_left (show q ≤ -1 by omega) (show 0 ≤ a k k by omega); omega
          · exact h2
          · have := Int.mul_le_mul_of_nonneg_left (show 1 ≤ q by omega) (show 0 ≤ a k k by omega); omega
        rw [hq, this]; omega
  have := key j hj
  omega
/-- The product of the middle is the determinant, but for its sign. -/
theorem Hnf.det {n : Nat} {a m : Nat → Nat → Int} (ha : Hnf n a) (h : Eql n a m) : (pr n fun i => a i i) = ((dt n m).natAbs : Int) := by
  have hp : ∀ k, k ≤ n → 0 < pr k fun i => a i i := fun k => by
    induction k with
    | zero => intro _; show (0 : Int) < 1; decide
    | succ k ih => intro hk; exact Int.mul_pos (ih (by omega)) (ha.pos k (by omega))
  rw [← h.det, dt_upper n a fun i j hi hj hlt => ha.low i j hi hlt]
  have := hp n (Nat.le_refl n)
  omega

end Go.Proofs.YtmimbioffnolaaaDoor.Zx

/- Plain facts on what divides all numbers of rows, and all determinants of one row and one column less (Smith). No program is named here. -/
namespace Go.Proofs.YtmimbioffnolaaaDoor.Zx
set_option linter.unusedVariables false

/-- What divides all of the first n. -/
def gs : Nat → (Nat → Nat) → Nat
  | 0, _ => 0
  | n + 1, g => Nat.gcd (gs n g) (g n)
theorem gs_dvd {k : Nat} : ∀ {n : Nat} {g : Nat → Nat}, k ∣ gs n g ↔ ∀ i, i < n → k ∣ g i
  | 0, g => ⟨fun _ i hi => absurd hi (by omega), fun _ => ⟨0, rfl⟩⟩
  | n + 1, g => by
    show k ∣ Nat.gcd (gs n g) (g n) ↔ _
    rw [Nat.dvd_gcd_iff, gs_dvd]
    constructor
    · rintro ⟨h1, h2⟩ i hi
      by_cases e : i = n
      · rw [e]; exact h2
      · exact h1 i (by omega)
    · exact fun h => ⟨fun i hi => h i (by omega), h n (by omega)⟩
theorem gs_congr {n : Nat} {g h : Nat → Nat} (e : ∀ i, i < n → g i = h i) : gs n g = gs n h := by
  induction n with
  | zero => rfl
  | succ n ih => show Nat.gcd _ _ = Nat.gcd _ _; rw [ih fun i hi => e i (by omega), e n (by omega)]
/-- What divides all numbers of n rows and columns. -/
def gg (n : Nat) (f : Nat → Nat → Int) : Nat := gs n fun i => gs n fun j => (f i j).natAbs
theorem gg_dvd {k n : Nat} {f : Nat → Nat → Int} : k ∣ gg n f ↔ ∀ i j, i < n → j < n → (k : Int) ∣ f i j := by
  unfold gg
  rw [gs_dvd]
  constructor
  · exact fun h i j hi hj => Int.ofNat_dvd_left.2 (gs_dvd.1 (h i hi) j hj)
  · exact fun h i hi => gs_dvd.2 fun j hj => Int.ofNat_dvd_left.1 (h i j hi hj)
theorem gg_of (n : Nat) (f : Nat → Nat → Int) {i j : Nat} (hi : i < n) (hj : j < n) : ((gg n f : Nat) : Int) ∣ f i j := gg_dvd.1 (Nat.dvd_refl _) i j hi hj
theorem gg_congr {n : Nat} {f g : Nat → Nat → Int} (h : Eqm n n f g) : gg n f = gg n g := gs_congr fun i hi => gs_congr fun j hj => by rw [h i j hi hj]
theorem gg_flip (n : Nat) (f : Nat → Nat → Int) : gg n (flip f) = gg n f :=
  Nat.dvd_antisymm (gg_dvd.2 fun i j hi hj => gg_of n (flip f) hj hi) (gg_dvd.2 fun i j hi hj => gg_of n f hj hi)
theorem dvd_sg {k : Int} : ∀ {n : Nat} {f : Nat → Int}, (∀ i, i < n → k ∣ f i) → k ∣ sg n f
  | 0, _, _ => ⟨0, by rw [sg_zero]; omega⟩
  | n + 1, f, h => by rw [sg_succ]; exact Int.dvd_add (dvd_sg fun i hi => h i (by omega)) (h n (by omega))
theorem gg_mul_right {n : Nat} (t k : Nat → Nat → Int) : gg n k ∣ gg n (mul n t k) := gg_dvd.2 fun i j _ hj => dvd_sg fun x hx => Int.dvd_trans (gg_of n k hx hj) ⟨t i x, by grind⟩
theorem gg_mul_left {n : Nat} (t k : Nat → Nat → Int) : gg n t ∣ gg n (mul n t k) := gg_dvd.2 fun i j hi _ => dvd_sg fun x hx => Int.dvd_trans (gg_of n t hi hx) ⟨k x j, rfl⟩
/-- Rows with the same sums. -/
theorem Eql.gg {n : Nat} {m k : Nat → Nat → Int} (h : Eql n m k) : Zx.gg n m = Zx.gg n k := by
  obtain ⟨t, ht⟩ := h.1.of
  obtain ⟨s, hs⟩ := h.2.of
  refine Nat.dvd_antisymm ?_ ?_
  · rw [gg_congr hs]; exact gg_mul_right s m
  · rw [gg_congr ht]; exact gg_mul_right t k

theorem mul_scal' (n : Nat) (d : Int) (f : Nat → Nat → Int) {i j : Nat} (hj : j < n) : mul n f (scal d) i j = f i j * d := by
  unfold mul scal
  rw [sg_one hj fun k _ hk => by rw [if_neg hk]; grind, if_pos rfl]
theorem scal_mul' (n : Nat) (d : Int) (f : Nat → Nat → Int) {i j : Nat} (hi : i < n) : mul n (scal d) f i j = d * f i j := by
  unfold mul scal
  rw [sg_one hi fun k _ hk => by rw [if_neg fun e => hk e.symm]; grind, if_pos rfl]
/-- What is beside the rows and columns of a product. -/
theorem adj_mul {p : Nat} {t k : Nat → Nat → Int} (h : dt (p + 1) (mul (p + 1) t k) ≠ 0) : Eqm (p + 1) (p + 1) (adj p (mul (p + 1) t k)) (mul (p + 1) (adj p k) (adj p t)) := by
  intro i j hi hj
  -- both, times the product, are the determinant in the middle; and back by what is beside it
  have e1 : Eqm (p + 1) (p + 1) (mul (p + 1) (mul (p + 1) (adj p k) (adj p t)) (mul (p + 1) t k)) (scal (dt (p + 1) (mul (p + 1) t k))) := fun a b ha hb => by
    rw [mul_assoc, ← mul_assoc (p + 1) (p + 1) (adj p t) t k]
    have h1 : Eqm (p + 1) (p + 1) (mul (p + 1) (mul (p + 1) (adj p t) t) k) (mul (p + 1) (scal (dt (p + 1) t)) k) := Eqm.mul (adj_left p t) (Eqm.rfl' _ _ _)
    rw [Eqm.mul (Eqm.rfl' (p + 1) (p + 1) (adj p k)) h1 a b ha hb]
    have h2 : Eqm (p + 1) (p + 1) (mul (p + 1) (scal (dt (p + 1) t)) k) (fun x y => dt (p + 1) t * k x y) := fun x y hx hy => scal_mul' _ _ _ hx
    rw [Eqm.mul (Eqm.rfl' (p + 1) (p + 1) (adj p k)) h2 a b ha hb]
    have h3 : mul (p + 1) (adj p k) (fun x y => dt (p + 1) t * k x y) a b = dt (p + 1) t * mul (p + 1) (adj p k) k a b := by
      unfold mul; rw [← sg_times]; exact sg_congr fun x _ => by grind
    rw [h3, adj_left p k a b ha hb, dt_mul]
    unfold scal; split <;> grind
  have e2 : mul (p + 1) (mul (p + 1) (mul (p + 1) (adj p k) (adj p t)) (mul (p + 1) t k)) (adj p (mul (p + 1) t k)) i j = dt (p + 1) (mul (p + 1) t k) * adj p (mul (p + 1) t k) i j := by
    rw [Eqm.mul e1 (Eqm.rfl' (p + 1) (p + 1) _) i j hi hj, scal_mul' _ _ _ hi]
  have e3 : mul (p + 1) (mul (p + 1) (mul (p + 1) (adj p k) (adj p t)) (mul (p + 1) t k)) (adj p (mul (p + 1) t k)) i j = mul (p + 1) (adj p k) (adj p t) i j * dt (p + 1) (mul (p + 1) t k) := by
    rw [mul_assoc, Eqm.mul (Eqm.rfl' (p + 1) (p + 1) _) (adj_right p (mul (p + 1) t k)) i j hi hj, mul_scal' _ _ _ hj]
  rw [e2] at e3
  exact Int.eq_of_mul_eq_mul_left h (by rw [e3]; grind)
/-- What divides all determinants of one row and one column less. -/
def gmi (p : Nat) (m : Nat → Nat → Int) : Nat := gg (p + 1) (adj p m)
theorem gmi_flip (p : Nat) (m : Nat → Nat → Int) : gmi p (flip m) = gmi p m := by unfold gmi; rw [adj_flip, gg_flip]
theorem Eql.gmi {p : Nat} {m k : Nat → Nat → Int} (h : Eql (p + 1) m k) (h0 : dt (p + 1) m ≠ 0) : Zx.gmi p m = Zx.gmi p k := by
  have hk0 : dt (p + 1) k ≠ 0 := fun e => h0 (by have := h.det; rw [e] at this; omega)
  have one : ∀ {a b : Nat → Nat → Int}, In (p + 1) a b → dt (p + 1) a ≠ 0 → Zx.gmi p b ∣ Zx.gmi p a := fun {a b} hab ha => by
    obtain ⟨t, ht⟩ := hab.of
    have hd : dt (p + 1) (mul (p + 1) t b) ≠ 0 := by rw [← dt_congr _ ht]; exact ha
    have e : Eqm (p + 1) (p + 1) (adj p a) (adj p (mul (p + 1) t b)) := fun i j hi hj => by
      show sgn (i + j) * dt p (wo a j i) = sgn (i + j) * dt p (wo (mul (p + 1) t b) j i)
      rw [dt_congr p (f := wo a j i) (g := wo (mul (p + 1) t b) j i) fun x y hx hy => ht (Mx.sk j x) (Mx.sk i y) (Mx.sk_lt hx) (Mx.sk_lt hy)]
    unfold Zx.gmi
    rw [gg_congr (e.trans (adj_mul hd))]
    exact gg_mul_left _ _
  exact Nat.dvd_antisymm (one h.2 hk0) (one h.1 h0)
/-- The same, by its own definition: with the signs left out. -/
theorem gmi_is (p : Nat) (m : Nat → Nat → Int) : gmi p m = gg (p + 1) fun i j => dt p (wo m i j) := by
  have a1 : ∀ i j, adj p m i j = sgn (i + j) * dt p (wo m j i) := fun _ _ => rfl
  have s2 : ∀ k, sgn k * sgn k = 1 := fun k => by unfold sgn; split <;> rfl
  refine Nat.dvd_antisymm (gg_dvd.2 fun i j hi hj => ?_) (gg_dvd.2 fun i j hi hj => ?_)
  · have h := gg_of (p + 1) (adj p m) hj hi
    rw [a1] at h
    refine Int.dvd_trans h ⟨sgn (j + i), ?_⟩
    have := s2 (j + i)
    generalize dt p (wo m i j) = d at *
    generalize sgn (j + i) = s at *
    grind
  · rw [a1]
    exact Int.dvd_trans (gg_of (p + 1) (fun i j => dt p (wo m i j)) hj hi) ⟨sgn (i + j), by grind⟩
theorem gmi_det (p : Nat) (m : Nat → Nat → Int) : ((gmi p m : Nat) : Int) ∣ dt (p + 1) m := by
  rw [← laplace p 0 m (Nat.zero_le p)]
  exact dvd_sg fun j hj => by
    have h := gg_of (p + 1) (fun i j => dt p (wo m i j)) (i := 0) (j := j) (by omega) hj
    rw [← gmi_is] at h
    exact Int.dvd_trans h ⟨sgn (0 + j) * m 0 j, by grind⟩
/-- The determinant over what divides all of those, so many times, makes any row a sum. -/
theorem lat_part {p : Nat} {m : Nat → Nat → Int} (h0 : dt (p + 1) m ≠ 0) {l : Int} (hl : dt (p + 1) m ∣ (gmi p m : Int) * l) (x : Nat → Int) : Lat (p + 1) m fun j => l * x j := by
  refine (lat_det h0 _).2 fun i hi => ?_
  rw [← laplace_row p i (fun j => l * x j) m (by omega)]
  exact dvd_sg fun k hk => by
    have h := gg_of (p + 1) (fun i j => dt p (wo m i j)) (i := i) (j := k) hi hk
    rw [← gmi_is] at h
    obtain ⟨q, hq⟩ := h
    obtain ⟨r, hr⟩ := hl
    rw [hq]
    refine ⟨r * (sgn (i + k) * x k * q), ?_⟩
    have : sgn (i + k) * (l * x k) * (((gmi p m : Nat) : Int) * q) = ((gmi p m : Nat) : Int) * l * (sgn (i + k) * x k * q) := by grind
    rw [this, hr]; grind
/-- Determinants of two rows are multiples of the square of what divides all. -/
theorem gg_sq (m : Nat → Nat → Int) {n a b c d : Nat} (ha : a < n) (hb : b < n) (hc : c < n) (hd : d < n) : (((gg n m * gg n m : Nat)) : Int) ∣ m a b * m c d := by
  rw [Int.natCast_mul]; exact Int.mul_dvd_mul (gg_of n m ha hb) (gg_of n m hc hd)
theorem dt_2 (f : Nat → Nat → Int) : dt 2 f = f 0 0 * f 1 1 - f 0 1 * f 1 0 := by
  rw [dt_succ, sg_succ, sg_succ, sg_zero, dt_succ, dt_succ, sg_succ, sg_zero, sg_succ, sg_zero]
  show 0 + sgn 0 * f 0 0 * (0 + sgn 0 * f 1 1 * 1) + sgn 1 * f 0 1 * (0 + sgn 0 * f 1 0 * 1) = _
  rw [show sgn 0 = 1 from rfl, show sgn 1 = -1 from rfl]; grind
theorem gg_gmi (m : Nat → Nat → Int) : gg 3 m * gg 3 m ∣ gmi 2 m := by
  rw [gmi_is]
  refine gg_dvd.2 fun i j hi hj => ?_
  rw [dt_2]
  have k : ∀ a x, x < 2 → Mx.sk a x < 3 := fun a x hx => Mx.sk_lt hx
  exact Int.dvd_sub (gg_sq m (k i 0 (by omega)) (k j 0 (by omega)) (k i 1 (by omega)) (k j 1 (by omega))) (gg_sq m (k i 0 (by omega)) (k j 1 (by omega)) (k i 1 (by omega)) (k j 0 (by omega)))
theorem gg_det2 (m : Nat → Nat → Int) : (((gg 2 m * gg 2 m : Nat)) : Int) ∣ dt 2 m := by
  rw [dt_2]
  exact Int.dvd_sub (gg_sq m (by omega) (by omega) (by omega) (by omega)) (gg_sq m (by omega) (by omega) (by omega) (by omega))
theorem dt_adj3 {m : Nat → Nat → Int} (h0 : dt 3 m ≠ 0) : dt 3 (adj 2 m) = dt 3 m * dt 3 m := by
  have h1 := dt_congr 3 (adj_right 2 m)
  rw [dt_mul, dt_scal] at h1
  exact Int.eq_of_mul_eq_mul_left h0 (by rw [h1]; grind)
/-- What is beside what is beside. -/
theorem adj_adj {m : Nat → Nat → Int} (h0 : dt 3 m ≠ 0) : Eqm 3 3 (adj 2 (adj 2 m)) fun i j => dt 3 m * m i j := fun i j hi hj => by
  have e1 : mul 3 (mul 3 m (adj 2 m)) (adj 2 (adj 2 m)) i j = dt 3 m * adj 2 (adj 2 m) i j := by
    rw [Eqm.mul (adj_right 2 m) (Eqm.rfl' 3 3 _) i j hi hj, scal_mul' _ _ _ hi]
  have e2 : mul 3 (mul 3 m (adj 2 m)) (adj 2 (adj 2 m)) i j = m i j * (dt 3 m * dt 3 m) := by
    rw [mul_assoc, Eqm.mul (Eqm.rfl' 3 3 m) (adj_right 2 (adj 2 m)) i j hi hj, mul_scal' _ _ _ hj, dt_adj3 h0]
  rw [e1] at e2
  exact Int.eq_of_mul_eq_mul_left h0 (by rw [e2]; grind)
theorem gmi_sq {m : Nat → Nat → Int} (h0 : dt 3 m ≠ 0) : (((gmi 2 m * gmi 2 m : Nat)) : Int) ∣ dt 3 m * (gg 3 m : Int) := by
  -- it divides the determinant times each number
  have h1 : ∀ i j, i < 3 → j < 3 → (((gmi 2 m * gmi 2 m : Nat)) : Int) ∣ dt 3 m * m i j := fun i j hi hj => by
    have ea := adj_adj h0 i j hi hj
    dsimp only at ea
    rw [← ea]
    show _ ∣ sgn (i + j) * dt 2 (wo (adj 2 m) j i)
    rw [dt_2]
    have k : ∀ a x, x < 2 → Mx.sk a x < 3 := fun a x hx => Mx.sk_lt hx
    have h := Int.dvd_sub (gg_sq (adj 2 m) (k j 0 (by omega)) (k i 0 (by omega)) (k j 1 (by omega)) (k i 1 (by omega))) (gg_sq (adj 2 m) (k j 0 (by omega)) (k i 1 (by omega)) (k j 1 (by omega)) (k i 0 (by omega)))
    exact Int.dvd_trans h ⟨sgn (i + j), by show _ * _ = _ * _; rw [Int.mul_comm]; rfl⟩
  have h2 : gmi 2 m * gmi 2 m ∣ gg 3 fun i j => dt 3 m * m i j := gg_dvd.2 h1
  have h3 : (gg 3 fun i j => dt 3 m * m i j) ∣ (dt 3 m).natAbs * gg 3 m := by
    -- the greatest one goes through: divide by the determinant
    have hpos : 0 < (dt 3 m).natAbs := Int.natAbs_pos.2 h0
    have hd : (dt 3 m).natAbs ∣ gg 3 fun i j => dt 3 m * m i j := gg_dvd.2 fun i j _ _ => Int.dvd_trans (Int.natAbs_dvd.2 (Int.dvd_refl _)) ⟨m i j, rfl⟩
    obtain ⟨q, hq⟩ := hd
    rw [hq]
    refine Nat.mul_dvd_mul_left _ (gg_dvd.2 fun i j hi hj => ?_)
    have := gg_of 3 (fun i j => dt 3 m * m i j) hi hj
    rw [hq, Int.natCast_mul] at this
    obtain ⟨r, hr⟩ := this
    have hs : ((dt 3 m).natAbs : Int) = dt 3 m ∨ ((dt 3 m).natAbs : Int) = -(dt 3 m) := by omega
    rcases hs with hs | hs
    · rw [hs] at hr
      exact ⟨r, Int.eq_of_mul_eq_mul_left h0 (by rw [hr]; grind)⟩
    · rw [hs] at hr
      exact ⟨-r, Int.eq_of_mul_eq_mul_left h0 (by rw [hr]; grind)⟩
  have h4 := Nat.dvd_trans h2 h3
  have h5 : (((gmi 2 m * gmi 2 m : Nat)) : Int) ∣ (((dt 3 m).natAbs * gg 3 m : Nat) : Int) := Int.natCast_dvd_natCast.2 h4
  have h6 : (((dt 3 m).natAbs * gg 3 m : Nat) : Int) = ((dt 3 m).natAbs : Int) * (gg 3 m : Int) := Int.natCast_mul _ _
  rw [h6] at h5
  have hs : ((dt 3 m).natAbs : Int) = dt 3 m ∨ ((dt 3 m).natAbs : Int) = -(dt 3 m) := by omega
  rcases hs with hs | hs
  · rw [hs] at h5; exact h5
  · rw [hs] at h5
    exact Int.dvd_trans h5 ⟨-1, by grind⟩

end Go.Proofs.YtmimbioffnolaaaDoor.Zx

/- Plain facts on the parts of a matrix of whole numbers of up to three rows (Smith): each divides the next one, all together are the determinant, rows and columns may be added; what a matrix with numbers in the middle alone has. No program is named here. -/
namespace Go.Proofs.YtmimbioffnolaaaDoor.Zx
set_option linter.unusedVariables false

/-- What divides all, as a number; the next ones; the determinant. -/
def spp (n : Nat) (m : Nat → Nat → Int) : List Int :=
  if n = 1 then [((dt 1 m).natAbs : Int)] else if n = 2 then [(gg 2 m : Int), (((dt 2 m).natAbs / gg 2 m : Nat) : Int)] else [(gg 3 m : Int), ((gmi 2 m / gg 3 m : Nat) : Int), (((dt 3 m).natAbs / gmi 2 m : Nat) : Int)]
theorem gg_pos {n : Nat} {m : Nat → Nat → Int} (hn : 0 < n) (h0 : dt n m ≠ 0) : 0 < gg n m := Nat.pos_of_ne_zero fun e => h0 (by
  refine dt_zrow (k := 0) hn fun j hj => ?_
  have := gg_of n m hn hj
  rw [e] at this
  exact Int.zero_dvd.1 this)
theorem gmi_pos {p : Nat} {m : Nat → Nat → Int} (h0 : dt (p + 1) m ≠ 0) : 0 < gmi p m := Nat.pos_of_ne_zero fun e => h0 (by
  have := gmi_det p m
  rw [e] at this
  exact Int.zero_dvd.1 this)
theorem nat_dvd {a : Nat} {b : Int} (h : (a : Int) ∣ b) : a ∣ b.natAbs := by
  have := Int.natAbs_dvd_natAbs.2 h
  simpa using this
theorem int_dvd {a b : Nat} (h : a ∣ b) : (a : Int) ∣ (b : Int) := Int.ofNat_dvd.2 h
/-- Three numbers in turn: the facts on them. -/
structure Pts (n : Nat) (l : List Int) (D : Int) : Prop where
  len : l.length = n
  pos : ∀ i, i < n → 1 ≤ l.getD i 0
  dvd : ∀ i, i + 1 < n → l.getD i 0 ∣ l.getD (i + 1) 0
  prod : (pr n fun i => l.getD i 0) = (D.natAbs : Int)
theorem pts2 {a b D : Nat} (ha : 0 < a) (hD : 0 < D) (h : a * a ∣ D) : a ∣ D / a ∧ 0 < D / a ∧ a * (D / a) = D := by
  obtain ⟨c, rfl⟩ := h
  have e : a * a * c / a = a * c := by rw [Nat.mul_assoc]; exact Nat.mul_div_cancel_left _ ha
  rw [e]
  refine ⟨Nat.dvd_mul_right a c, ?_, by rw [Nat.mul_assoc]⟩
  rcases Nat.eq_zero_or_pos (a * c) with h | h
  · exfalso
    rw [Nat.mul_assoc, h] at hD; omega
  · exact h
/-- The parts of a matrix with a determinant. -/
theorem spp_pts {n : Nat} {m : Nat → Nat → Int} (h1 : 0 < n) (h3 : n ≤ 3) (h0 : dt n m ≠ 0) : Pts n (spp n m) (dt n m) := by
  have hn : n = 1 ∨ n = 2 ∨ n = 3 := by omega
  rcases hn with rfl | rfl | rfl
  · have e : spp 1 m = [((dt 1 m).natAbs : Int)] := rfl
    rw [e]
    refine ⟨rfl, fun i hi => ?_, fun i hi => absurd hi (by omega), ?_⟩
    · rw [show i = 0 by omega]; show 1 ≤ ((dt 1 m).natAbs : Int); omega
    · show (1 : Int) * _ = _; rw [Int.one_mul]; rfl
  · have e : spp 2 m = [(gg 2 m : Int), (((dt 2 m).natAbs / gg 2 m : Nat) : Int)] := rfl
    have gp := gg_pos (n := 2) (by decide) h0
    have dp : 0 < (dt 2 m).natAbs := by omega
    obtain ⟨k1, k2, k3⟩ := pts2 (b := 0) gp dp (nat_dvd (gg_det2 m))
    rw [e]
    refine ⟨rfl, fun i hi => ?_, fun i hi => ?_, ?_⟩
    · have : i = 0 ∨ i = 1 := by omega
      rcases this with rfl | rfl
      · show (1 : Int) ≤ (gg 2 m : Int); omega
      · show (1 : Int) ≤ (((dt 2 m).natAbs / gg 2 m : Nat) : Int); omega
    · rw [show i = 0 by omega]; exact int_dvd k1
    · show (1 : Int) * (gg 2 m : Int) * (((dt 2 m).natAbs / gg 2 m : Nat) : Int) = _
      rw [Int.one_mul, ← Int.natCast_mul, k3]
  · have e : spp 3 m = [(gg 3 m : Int), ((gmi 2 m / gg 3 m : Nat) : Int), (((dt 3 m).natAbs / gmi 2 m : Nat) : Int)] := rfl
    have gp := gg_pos (n := 3) (by decide) h0
    have mp := gmi_pos (p := 2) h0
    have dp : 0 < (dt 3 m).natAbs := by omega
    obtain ⟨k1, k2, k3⟩ := pts2 (b := 0) gp mp (gg_gmi m)
    obtain ⟨q, hq⟩ : gmi 2 m ∣ (dt 3 m).natAbs := nat_dvd (gmi_det 2 m)
    have hq0 : 0 < q := Nat.pos_of_ne_zero fun e => by rw [e, Nat.mul_zero] at hq; omega
    have eq3 : (dt 3 m).natAbs / gmi 2 m = q := by rw [hq]; exact Nat.mul_div_cancel_left q mp
    obtain ⟨s, hs⟩ := k1
    have hgm : gmi 2 m = gg 3 m * (gg 3 m * s) := by rw [← hs]; exact k3.symm
    have sq : gmi 2 m * gmi 2 m ∣ (dt 3 m).natAbs * gg 3 m := by
      have := nat_dvd (gmi_sq h0)
      rwa [Int.natAbs_mul, Int.natAbs_natCast] at this
    have k4 : gmi 2 m / gg 3 m ∣ q := by
      rw [hs]
      have e1 : (dt 3 m).natAbs * gg 3 m = gmi 2 m * (q * gg 3 m) := by rw [hq, Nat.mul_assoc]
      rw [e1] at sq
      have s1 : gmi 2 m ∣ q * gg 3 m := Nat.dvd_of_mul_dvd_mul_left mp sq
      rw [hgm, Nat.mul_comm q] at s1
      exact Nat.dvd_of_mul_dvd_mul_left gp s1
    rw [e, eq3]
    refine ⟨rfl, fun i hi => ?_, fun i hi => ?_, ?_⟩
    · have : i = 0 ∨ i = 1 ∨ i = 2 := by omega
      rcases this with rfl | rfl | rfl
      · show (1 : Int) ≤ (gg 3 m : Int); omega
      · show (1 : Int) ≤ ((gmi 2 m / gg 3 m : Nat) : Int); omega
      · show (1 : Int) ≤ (q : Int); omega
    · have : i = 0 ∨ i = 1 := by omega
      rcases this with rfl | rfl
      · show (gg 3 m : Int) ∣ ((gmi 2 m / gg 3 m : Nat) : Int)
        exact int_dvd (by rw [hs]; exact Nat.dvd_mul_right _ _)
      · exact int_dvd k4
    · show (1 : Int) * (gg 3 m : Int) * ((gmi 2 m / gg 3 m : Nat) : Int) * (q : Int) = _
      rw [Int.one_mul, ← Int.natCast_mul, k3, ← Int.natCast_mul, hq]
/-- Rows with the same sums have the same parts; so has the matrix turned. -/
theorem Eql.spp {n : Nat} {m k : Nat → Nat → Int} (h : Eql n m k) (h1 : 0 < n) (h3 : n ≤ 3) (h0 : dt n m ≠ 0) : Zx.spp n m = Zx.spp n k := by
  have hd := h.det
  have hg := h.gg
  have hn : n = 1 ∨ n = 2 ∨ n = 3 := by omega
  rcases hn with rfl | rfl | rfl
  · unfold Zx.spp; rw [if_pos rfl, if_pos rfl, hd]
  · unfold Zx.spp; rw [if_neg (by decide), if_pos rfl, if_neg (by decide), if_pos rfl, hd, hg]
  · have hm := Eql.gmi (p := 2) h h0
    unfold Zx.spp
    rw [if_neg (by decide), if_neg (by decide), if_neg (by decide), if_neg (by decide), hd, hg, hm]
theorem spp_flip (n : Nat) (m : Nat → Nat → Int) (h1 : 0 < n) (h3 : n ≤ 3) : spp n (flip m) = spp n m := by
  have hn : n = 1 ∨ n = 2 ∨ n = 3 := by omega
  rcases hn with rfl | rfl | rfl <;> unfold spp <;> simp only [dt_flip, gg_flip, gmi_flip]
theorem spp_congr {n : Nat} {m k : Nat → Nat → Int} (h : Eqm n n m k) (h1 : 0 < n) (h3 : n ≤ 3) (h0 : dt n m ≠ 0) : spp n m = spp n k :=
  Eql.spp ⟨fun i hi => (Lat.row k hi).congr fun j hj => (h i j hi hj).symm, fun i hi => (Lat.row m hi).congr fun j hj => h i j hi hj⟩ h1 h3 h0
/-- Columns with the same sums. -/
theorem Eql.spp_cols {n : Nat} {m k : Nat → Nat → Int} (h : Eql n (flip m) (flip k)) (h1 : 0 < n) (h3 : n ≤ 3) (h0 : dt n m ≠ 0) : Zx.spp n m = Zx.spp n k := by
  rw [← spp_flip n m h1 h3, ← spp_flip n k h1 h3]
  exact h.spp h1 h3 (by rw [dt_flip]; exact h0)
/-- The last part, so many times, makes any row a sum. -/
theorem spp_last {n : Nat} {m : Nat → Nat → Int} (h1 : 0 < n) (h3 : n ≤ 3) (h0 : dt n m ≠ 0) (x : Nat → Int) : Lat n m fun j => (spp n m).getD (n - 1) 0 * x j := by
  have hn : n = 1 ∨ n = 2 ∨ n = 3 := by omega
  rcases hn with rfl | rfl | rfl
  · refine lat_part (p := 0) h0 ?_ x
    show dt 1 m ∣ (gmi 0 m : Int) * ((dt 1 m).natAbs : Int)
    exact Int.dvd_mul_of_dvd_right (Int.dvd_natAbs.2 (Int.dvd_refl _))
  · refine lat_part (p := 1) h0 ?_ x
    have gp := gg_pos (n := 2) (by decide) h0
    obtain ⟨_, _, k3⟩ := pts2 (b := 0) gp (show 0 < (dt 2 m).natAbs by omega) (nat_dvd (gg_det2 m))
    have eg : gmi 1 m = gg 2 m := by
      rw [gmi_is]
      refine Nat.dvd_antisymm (gg_dvd.2 fun i j hi hj => ?_) (gg_dvd.2 fun i j hi hj => ?_)
      · have hi2 : i = 0 ∨ i = 1 := by omega
        have hj2 : j = 0 ∨ j = 1 := by omega
        have key := fun a b (ha : a < 2) (hb : b < 2) => gg_of 2 (fun i j => dt 1 (wo m i j)) ha hb
        have one : ∀ f : Nat → Nat → Int, dt 1 f = f 0 0 := fun f => by
          show 0 + sgn 0 * f 0 0 * 1 = f 0 0
          rw [show sgn 0 = 1 from rfl]; grind
        rcases hi2 with rfl | rfl <;> rcases hj2 with rfl | rfl
        · have := key 1 1 (by decide) (by decide); rw [one] at this; exact this
        · have := key 1 0 (by decide) (by decide); rw [one] at this; exact this
        · have := key 0 1 (by decide) (by decide); rw [one] at this; exact this
        · have := key 0 0 (by decide) (by decide); rw [one] at this; exact this
      · have one : dt 1 (wo m i j) = wo m i j 0 0 := by
          show 0 + sgn 0 * wo m i j 0 0 * 1 = _
          rw [show sgn 0 = 1 from rfl]; grind
        rw [one]
        exact gg_of 2 m (by unfold Mx.sk; split <;> omega) (by unfold Mx.sk; split <;> omega)
    show dt 2 m ∣ (gmi 1 m : Int) * (((dt 2 m).natAbs / gg 2 m : Nat) : Int)
    rw [eg, ← Int.natCast_mul, k3]
    exact Int.dvd_natAbs.2 (Int.dvd_refl _)
  · refine lat_part (p := 2) h0 ?_ x
    have mp := gmi_pos (p := 2) h0
    obtain ⟨q, hq⟩ : gmi 2 m ∣ (dt 3 m).natAbs := nat_dvd (gmi_det 2 m)
    have eq3 : (dt 3 m).natAbs / gmi 2 m = q := by rw [hq]; exact Nat.mul_div_cancel_left q mp
    show dt 3 m ∣ (gmi 2 m : Int) * (((dt 3 m).natAbs / gmi 2 m : Nat) : Int)
    rw [eq3, ← Int.natCast_mul, ← hq]
    exact Int.dvd_natAbs.2 (Int.dvd_refl _)
/-- Numbers in the middle alone, each of which divides the next one. -/
structure Dgl (n : Nat) (f : Nat → Nat → Int) : Prop where
  off : ∀ i j, i < n → j < n → i ≠ j → f i j = 0
  pos : ∀ i, i < n → 0 < f i i
  dvd : ∀ i, i + 1 < n → f i i ∣ f (i + 1) (i + 1)
theorem Dgl.le {n : Nat} {f : Nat → Nat → Int} (h : Dgl n f) : ∀ i j, i ≤ j → j < n → f i i ∣ f j j := fun i j hij => by
  induction j with
  | zero => intro _; rw [show i = 0 by omega]; exact Int.dvd_refl _
  | succ j ih =>
    intro hj
    by_cases e : i = j + 1
    · rw [e]; exact Int.dvd_refl _
    · exact Int.dvd_trans (ih (by omega) (by omega)) (h.dvd j hj)
theorem Dgl.gg {n : Nat} {f : Nat → Nat → Int} (h : Dgl n f) (hn : 0 < n) : (Zx.gg n f : Int) = f 0 0 := by
  have hp := h.pos 0 hn
  have e : Zx.gg n f = (f 0 0).natAbs := Nat.dvd_antisymm (nat_dvd (gg_of n f hn hn)) (gg_dvd.2 fun i j hi hj => by
    by_cases e : i = j
    · subst e; exact Int.natAbs_dvd.2 (h.le 0 i (Nat.zero_le i) hi)
    · rw [h.off i j hi hj e]; exact Int.dvd_zero _)
  rw [e]; omega
theorem Dgl.dt {n : Nat} {f : Nat → Nat → Int} (h : Dgl n f) : Zx.dt n f = pr n fun i => f i i := dt_upper n f fun i j hi hj hlt => h.off i j hi hj (by omega)
theorem wo_2 (f : Nat → Nat → Int) (i j : Nat) : Zx.dt 2 (wo f i j) = f (Mx.sk i 0) (Mx.sk j 0) * f (Mx.sk i 1) (Mx.sk j 1) - f (Mx.sk i 0) (Mx.sk j 1) * f (Mx.sk i 1) (Mx.sk j 0) := dt_2 _
theorem Dgl.gmi {f : Nat → Nat → Int} (h : Dgl 3 f) : (Zx.gmi 2 f : Int) = f 0 0 * f 1 1 := by
  have p0 := h.pos 0 (by decide)
  have p1 := h.pos 1 (by decide)
  have pp := Int.mul_pos p0 p1
  have o : ∀ i j, i < 3 → j < 3 → i ≠ j → f i j = 0 := h.off
  have d12 : f 1 1 ∣ f 2 2 := h.dvd 1 (by decide)
  have d01 : f 0 0 ∣ f 1 1 := h.dvd 0 (by decide)
  have e : Zx.gmi 2 f = (f 0 0 * f 1 1).natAbs := by
    rw [gmi_is]
    refine Nat.dvd_antisymm (nat_dvd ?_) (gg_dvd.2 fun i j hi hj => ?_)
    · have := gg_of 3 (fun i j => Zx.dt 2 (wo f i j)) (i := 2) (j := 2) (by decide) (by decide)
      have e2 : Zx.dt 2 (wo f 2 2) = f 0 0 * f 1 1 := by
        rw [wo_2]
        show f 0 0 * f 1 1 - f 0 1 * f 1 0 = _
        rw [o 0 1 (by decide) (by decide) (by decide)]; grind
      rw [e2] at this; exact this
    · rw [Int.natAbs_dvd, wo_2]
      have hi3 : i = 0 ∨ i = 1 ∨ i = 2 := by omega
      have hj3 : j = 0 ∨ j = 1 ∨ j = 2 := by omega
      have a01 := o 0 1 (by decide) (by decide) (by decide)
      have a02 := o 0 2 (by decide) (by decide) (by decide)
      have a10 := o 1 0 (by decide) (by decide) (by decide)
      have a12 := o 1 2 (by decide) (by decide) (by decide)
      have a20 := o 2 0 (by decide) (by decide) (by decide)
      have a21 := o 2 1 (by decide) (by decide) (by decide)
      obtain ⟨x, hx⟩ := d01
      obtain ⟨y, hy⟩ := d12
      rcases hi3 with rfl | rfl | rfl <;> rcases hj3 with rfl | rfl | rfl
      · show f 0 0 * f 1 1 ∣ f 1 1 * f 2 2 - f 1 2 * f 2 1
        rw [a12, hy, hx]; exact ⟨f 0 0 * x * x * y * x * 0 + x * y, by grind⟩
      · show f 0 0 * f 1 1 ∣ f 1 0 * f 2 2 - f 1 2 * f 2 0
        rw [a10, a12]; exact ⟨0, by grind⟩
      · show f 0 0 * f 1 1 ∣ f 1 0 * f 2 1 - f 1 1 * f 2 0
        rw [a10, a20]; exact ⟨0, by grind⟩
      · show f 0 0 * f 1 1 ∣ f 0 1 * f 2 2 - f 0 2 * f 2 1
        rw [a01, a02]; exact ⟨0, by grind⟩
      · show f 0 0 * f 1 1 ∣ f 0 0 * f 2 2 - f 0 2 * f 2 0
        rw [a02, hy]; exact ⟨y, by grind⟩
      · show f 0 0 * f 1 1 ∣ f 0 0 * f 2 1 - f 0 1 * f 2 0
        rw [a21, a01]; exact ⟨0, by grind⟩
      · show f 0 0 * f 1 1 ∣ f 0 1 * f 1 2 - f 0 2 * f 1 1
        rw [a01, a02]; exact ⟨0, by grind⟩
      · show f 0 0 * f 1 1 ∣ f 0 0 * f 1 2 - f 0 2 * f 1 0
        rw [a12, a02]; exact ⟨0, by grind⟩
      · show f 0 0 * f 1 1 ∣ f 0 0 * f 1 1 - f 0 1 * f 1 0
        rw [a01]; exact ⟨1, by grind⟩
  rw [e]; omega
/-- Such a matrix has its own middle as parts. -/
theorem Dgl.spp {n : Nat} {f : Nat → Nat → Int} (h : Dgl n f) (h1 : 0 < n) (h3 : n ≤ 3) : ∀ i, i < n → (Zx.spp n f).getD i 0 = f i i := by
  have hd := h.dt
  have hn : n = 1 ∨ n = 2 ∨ n = 3 := by omega
  rcases hn with rfl | rfl | rfl
  · intro i hi
    have p0 := h.pos 0 (by decide)
    rw [show i = 0 by omega]
    have e : Zx.dt 1 f = f 0 0 := by rw [hd]; show 1 * f 0 0 = _; omega
    show ((Zx.dt 1 f).natAbs : Int) = _
    rw [e]; omega
  · intro i hi
    have p0 := h.pos 0 (by decide)
    have p1 := h.pos 1 (by decide)
    have g := h.gg (by decide)
    have e : Zx.dt 2 f = f 0 0 * f 1 1 := by rw [hd]; show 1 * f 0 0 * f 1 1 = _; rw [Int.one_mul]
    have : i = 0 ∨ i = 1 := by omega
    rcases this with rfl | rfl
    · exact g
    · show (((Zx.dt 2 f).natAbs / Zx.gg 2 f : Nat) : Int) = _
      rw [e, Int.natAbs_mul]
      have e2 : Zx.gg 2 f = (f 0 0).natAbs := by omega
      rw [e2, Nat.mul_div_cancel_left _ (by omega)]; omega
  · intro i hi
    have p0 := h.pos 0 (by decide)
    have p1 := h.pos 1 (by decide)
    have p2 := h.pos 2 (by decide)
    have pp := Int.mul_pos p0 p1
    have g := h.gg (by decide)
    have gm := h.gmi
    have e : Zx.dt 3 f = f 0 0 * f 1 1 * f 2 2 := by rw [hd]; show 1 * f 0 0 * f 1 1 * f 2 2 = _; rw [Int.one_mul]
    have e2 : Zx.gg 3 f = (f 0 0).natAbs := by omega
    have e3 : Zx.gmi 2 f = (f 0 0 * f 1 1).natAbs := by omega
    have : i = 0 ∨ i = 1 ∨ i = 2 := by omega
    rcases this with rfl | rfl | rfl
    · exact g
    · show ((Zx.gmi 2 f / Zx.gg 3 f : Nat) : Int) = _
      rw [e3, e2, Int.natAbs_mul, Nat.mul_div_cancel_left _ (by omega)]; omega
    · show (((Zx.dt 3 f).natAbs / Zx.gmi 2 f : Nat) : Int) = _
      rw [e, e3, Int.natAbs_mul (f 0 0 * f 1 1), Nat.mul_div_cancel_left _ (by omega)]; omega
end Go.Proofs.YtmimbioffnolaaaDoor.Zx

/- Plain facts on choices of rows and columns (Smith): what divides all determinants of so many rows and columns; the parts as their quotients. No program is named here. -/
namespace Go.Proofs.YtmimbioffnolaaaDoor.Zx
set_option linter.unusedVariables false

/-- The determinant of some rows and as many columns, by the first row. -/
def mnr (f : Nat → Nat → Int) : List Nat → List Nat → Int
  | [], _ => 1
  | r :: rs, cs => sg cs.length fun k => sgn k * f r (cs.getD k 0) * mnr f rs (cs.take k ++ cs.drop (k + 1))
theorem mnr_nil (f : Nat → Nat → Int) (cs : List Nat) : mnr f [] cs = 1 := rfl
theorem mnr_cons (f : Nat → Nat → Int) (r : Nat) (rs cs : List Nat) : mnr f (r :: rs) cs = sg cs.length fun k => sgn k * f r (cs.getD k 0) * mnr f rs (cs.take k ++ cs.drop (k + 1)) := rfl
theorem sgn_abs (k : Nat) : (sgn k).natAbs = 1 := by unfold sgn; split <;> rfl
theorem sgn_next (k : Nat) : sgn (k + 1) = -sgn k := by
  unfold sgn
  by_cases h : k % 2 = 0
  · rw [if_pos h, if_neg (by omega)]
  · rw [if_neg h, if_pos (by omega)]; rfl
/-- All numbers of rs are less than n. -/
def Und (n : Nat) (rs : List Nat) : Prop := ∀ x, x ∈ rs → x < n
theorem Und.at {n : Nat} {rs : List Nat} (h : Und n rs) {k : Nat} (hk : k < rs.length) : rs.getD k 0 < n := by
  have e : rs.getD k 0 = rs[k] := by simp [List.getD_eq_getElem?_getD, hk]
  rw [e]; exact h _ (List.getElem_mem hk)
theorem Und.tail {n r : Nat} {rs : List Nat} (h : Und n (r :: rs)) : Und n rs := fun x hx => h x (List.mem_cons_of_mem _ hx)
theorem Und.head {n r : Nat} {rs : List Nat} (h : Und n (r :: rs)) : r < n := h r (List.mem_cons_self ..)
theorem Und.less {n : Nat} {cs : List Nat} (h : Und n cs) (k : Nat) : Und n (cs.take k ++ cs.drop (k + 1)) := fun x hx => by
  rcases List.mem_append.1 hx with hx | hx
  · exact h x (List.mem_of_mem_take hx)
  · exact h x (List.mem_of_mem_drop hx)
theorem len_less {cs : List Nat} {k : Nat} (hk : k < cs.length) : (cs.take k ++ cs.drop (k + 1)).length + 1 = cs.length := by
  rw [List.length_append, List.length_take, List.length_drop]; omega
theorem sg_bound {n B : Nat} {g : Nat → Int} (h : ∀ k, k < n → (g k).natAbs ≤ B) : ∀ t, t ≤ n → (sg t g).natAbs ≤ t * B
  | 0, _ => by rw [sg_zero]; simp
  | t + 1, ht => by
    have h1 := sg_bound h t (by omega)
    have h2 := h t (by omega)
    rw [sg_succ, Nat.add_mul, Nat.one_mul]
    omega
theorem mnr_term {n : Nat} {f : Nat → Nat → Int} (hf : ∀ i j, i < n → j < n → (f i j).natAbs ≤ 20) {r c : Nat} (hr : r < n) (hc : c < n) (k : Nat) {x : Int} {B : Nat} (hx : x.natAbs ≤ B) : (sgn k * f r c * x).natAbs ≤ 20 * B := by
  rw [Int.natAbs_mul, Int.natAbs_mul, sgn_abs, Nat.one_mul]
  exact Nat.mul_le_mul (hf r c hr hc) hx
/-- It is at most 60 times 60 and so on. -/
theorem mnr_bound {n : Nat} {f : Nat → Nat → Int} (hf : ∀ i j, i < n → j < n → (f i j).natAbs ≤ 20) : ∀ (rs cs : List Nat), Und n rs → Und n cs → cs.length ≤ 3 → (mnr f rs cs).natAbs ≤ 60 ^ rs.length
  | [], _, _, _, _ => Nat.le_refl _
  | r :: rs, cs, hr, hc, h3 => by
    rw [mnr_cons, List.length_cons, Nat.pow_succ]
    have h := sg_bound (g := fun k => sgn k * f r (cs.getD k 0) * mnr f rs (cs.take k ++ cs.drop (k + 1))) (n := cs.length) (B := 20 * 60 ^ rs.length) (fun k hk => by
      have hl := len_less hk
      exact mnr_term hf hr.head (hc.at hk) k (mnr_bound hf rs _ hr.tail (hc.less k) (by omega))) cs.length (Nat.le_refl _)
    refine Nat.le_trans h ?_
    have : cs.length * (20 * 60 ^ rs.length) ≤ 3 * (20 * 60 ^ rs.length) := Nat.mul_le_mul_right _ h3
    omega
theorem mnr_part {n : Nat} {f : Nat → Nat → Int} (hf : ∀ i j, i < n → j < n → (f i j).natAbs ≤ 20) {r : Nat} {rs cs : List Nat} (hr : Und n (r :: rs)) (hc : Und n cs) (h3 : cs.length ≤ 3) {t : Nat} (ht : t ≤ cs.length) :
    (sg t fun k => sgn k * f r (cs.getD k 0) * mnr f rs (cs.take k ++ cs.drop (k + 1))).natAbs ≤ 60 ^ (rs.length + 1) := by
  have h := sg_bound (g := fun k => sgn k * f r (cs.getD k 0) * mnr f rs (cs.take k ++ cs.drop (k + 1))) (n := cs.length) (B := 20 * 60 ^ rs.length) (fun k hk => by
    have hl := len_less hk
    exact mnr_term hf hr.head (hc.at hk) k (mnr_bound hf rs _ hr.tail (hc.less k) (by omega))) t ht
  refine Nat.le_trans h ?_
  have : t * (20 * 60 ^ rs.length) ≤ 3 * (20 * 60 ^ rs.length) := Nat.mul_le_mul_right _ (by omega)
  rw [Nat.pow_succ]
  omega

/-- The numbers below k that the set s has. -/
def bits (s : Nat) : Nat → List Nat
  | 0 => []
  | k + 1 => if s / 2 ^ k % 2 = 1 then bits s k ++ [k] else bits s k
theorem bits_und (s : Nat) : ∀ k, Und k (bits s k)
  | 0 => fun x hx => by cases hx
  | k + 1 => fun x hx => by
    unfold bits at hx
    split at hx
    · rcases List.mem_append.1 hx with h | h
      · have := bits_und s k x h; omega
      · have := List.mem_singleton.1 h; omega
    · have := bits_und s k x hx; omega
theorem bits_len (s : Nat) : ∀ k, (bits s k).length ≤ k
  | 0 => Nat.le_refl _
  | k + 1 => by
    unfold bits
    have := bits_len s k
    split
    · rw [List.length_append, List.length_singleton]; omega
    · omega
/-- Of the first t sets those that have so many of the numbers below n. -/
def chs (n many : Nat) : Nat → List (List Nat)
  | 0 => []
  | t + 1 => if (bits t n).length = many then chs n many t ++ [bits t n] else chs n many t
theorem chs_hit {n many t : Nat} (h : (bits t n).length = many) : chs n many (t + 1) = chs n many t ++ [bits t n] := by show (if _ then _ else _) = _; rw [if_pos h]
theorem chs_miss {n many t : Nat} (h : ¬ (bits t n).length = many) : chs n many (t + 1) = chs n many t := by show (if _ then _ else _) = _; rw [if_neg h]
theorem chs_len (n many : Nat) : ∀ t, (chs n many t).length ≤ t
  | 0 => Nat.le_refl _
  | t + 1 => by
    have := chs_len n many t
    by_cases h : (bits t n).length = many
    · rw [chs_hit h, List.length_append, List.length_singleton]; omega
    · rw [chs_miss h]; omega
theorem chs_mem {n many : Nat} : ∀ {t : Nat} {x : List Nat}, x ∈ chs n many t → Und n x ∧ x.length = many
  | 0, x, h => by cases h
  | t + 1, x, h => by
    by_cases e : (bits t n).length = many
    · rw [chs_hit e] at h
      rcases List.mem_append.1 h with h | h
      · exact chs_mem h
      · rw [List.mem_singleton.1 h]; exact ⟨bits_und t n, e⟩
    · rw [chs_miss e] at h; exact chs_mem h

/-- What divides all numbers of a list. -/
def gl : List Int → Nat
  | [] => 0
  | x :: l => Nat.gcd x.natAbs (gl l)
theorem gl_dvd {k : Nat} : ∀ {l : List Int}, k ∣ gl l ↔ ∀ x, x ∈ l → (k : Int) ∣ x
  | [] => ⟨fun _ x hx => (by cases hx), fun _ => ⟨0, rfl⟩⟩
  | y :: l => by
    show k ∣ Nat.gcd y.natAbs (gl l) ↔ _
    rw [Nat.dvd_gcd_iff, gl_dvd]
    constructor
    · rintro ⟨h1, h2⟩ x hx
      rcases List.mem_cons.1 hx with rfl | hx
      · exact Int.ofNat_dvd_left.2 h1
      · exact h2 x hx
    · exact fun h => ⟨Int.ofNat_dvd_left.1 (h y (List.mem_cons_self ..)), fun x hx => h x (List.mem_cons_of_mem _ hx)⟩
theorem gl_eq {l : List Int} {g : Nat} (h : ∀ k : Nat, k ∣ g ↔ ∀ x, x ∈ l → (k : Int) ∣ x) : gl l = g :=
  Nat.dvd_antisymm ((h _).2 (gl_dvd.1 (Nat.dvd_refl _))) (gl_dvd.2 ((h _).1 (Nat.dvd_refl _)))
theorem gl_snoc (l : List Int) (x : Int) : gl (l ++ [x]) = Nat.gcd (gl l) x.natAbs := gl_eq fun k => by
  rw [Nat.dvd_gcd_iff, gl_dvd]
  constructor
  · rintro ⟨h1, h2⟩ y hy
    rcases List.mem_append.1 hy with hy | hy
    · exact h1 y hy
    · rw [List.mem_singleton.1 hy]; exact Int.ofNat_dvd_left.2 h2
  · exact fun h => ⟨fun y hy => h y (List.mem_append.2 (.inl hy)), Int.ofNat_dvd_left.1 (h x (List.mem_append.2 (.inr (List.mem_singleton.2 rfl))))⟩
theorem gl_le {M : Nat} : ∀ {l : List Int}, (∀ x, x ∈ l → x.natAbs ≤ M) → gl l ≤ M
  | [], _ => Nat.zero_le _
  | y :: l, h => by
    have h1 := gl_le fun x hx => h x (List.mem_cons_of_mem y hx)
    have h2 := h y (List.mem_cons_self ..)
    show Nat.gcd y.natAbs (gl l) ≤ M
    rcases Nat.eq_zero_or_pos y.natAbs with e | e
    · rw [e, Nat.gcd_zero_left]; exact h1
    · exact Nat.le_trans (Nat.le_of_dvd e (Nat.gcd_dvd_left _ _)) h2

/-- The determinants of the rows of some choices and the columns of all of L. -/
def mns (f : Nat → Nat → Int) (L : List (List Nat)) : List (List Nat) → List Int
  | [] => []
  | r :: rs => L.map (mnr f r) ++ mns f L rs
theorem mns_snoc (f : Nat → Nat → Int) (L : List (List Nat)) : ∀ (M : List (List Nat)) (r : List Nat), mns f L (M ++ [r]) = mns f L M ++ L.map (mnr f r)
  | [], r => by show L.map (mnr f r) ++ [] = [] ++ _; rw [List.append_nil, List.nil_append]
  | m :: M, r => by show L.map (mnr f m) ++ mns f L (M ++ [r]) = L.map (mnr f m) ++ mns f L M ++ _; rw [mns_snoc f L M r, List.append_assoc]
theorem mns_mem {f : Nat → Nat → Int} {L : List (List Nat)} : ∀ {M : List (List Nat)} {x : Int}, x ∈ mns f L M ↔ ∃ r, r ∈ M ∧ ∃ c, c ∈ L ∧ x = mnr f r c
  | [], x => ⟨fun h => (by cases h), fun h => (by obtain ⟨r, h, _⟩ := h; cases h)⟩
  | m :: M, x => by
    show x ∈ L.map (mnr f m) ++ mns f L M ↔ _
    rw [List.mem_append, mns_mem, List.mem_map]
    constructor
    · rintro (⟨c, h1, h2⟩ | ⟨r, h1, h2⟩)
      · exact ⟨m, List.mem_cons_self .., c, h1, h2.symm⟩
      · exact ⟨r, List.mem_cons_of_mem _ h1, h2⟩
    · rintro ⟨r, h1, c, h2, h3⟩
      rcases List.mem_cons.1 h1 with rfl | h1
      · exact .inl ⟨c, h2, h3.symm⟩
      · exact .inr ⟨r, h1, c, h2, h3⟩
theorem mns_len (f : Nat → Nat → Int) (L : List (List Nat)) : ∀ M : List (List Nat), (mns f L M).length = M.length * L.length
  | [] => by simp [mns]
  | m :: M => by show (L.map (mnr f m) ++ mns f L M).length = _; rw [List.length_append, List.length_map, mns_len f L M, List.length_cons, Nat.add_mul]; omega

/-- All choices; the determinants of so many rows and columns; what divides them all. -/
def chn (n many : Nat) : List (List Nat) := chs n many (2 ^ n)
def dvs (n : Nat) (f : Nat → Nat → Int) (many : Nat) : Nat := gl (mns f (chn n many) (chn n many))
theorem dvs_dvd {n many k : Nat} {f : Nat → Nat → Int} : k ∣ dvs n f many ↔ ∀ r c, r ∈ chn n many → c ∈ chn n many → (k : Int) ∣ mnr f r c := by
  unfold dvs
  rw [gl_dvd]
  constructor
  · exact fun h r c hr hc => h _ (mns_mem.2 ⟨r, hr, c, hc, rfl⟩)
  · rintro h x hx
    obtain ⟨r, hr, c, hc, rfl⟩ := mns_mem.1 hx
    exact h r c hr hc
theorem dvs_eq {n many g : Nat} {f : Nat → Nat → Int} (h : ∀ k : Nat, k ∣ g ↔ ∀ r c, r ∈ chn n many → c ∈ chn n many → (k : Int) ∣ mnr f r c) : dvs n f many = g :=
  Nat.dvd_antisymm ((h _).2 (dvs_dvd.1 (Nat.dvd_refl _))) (dvs_dvd.2 ((h _).1 (Nat.dvd_refl _)))
theorem mns_bound {n : Nat} {f : Nat → Nat → Int} (hf : ∀ i j, i < n → j < n → (f i j).natAbs ≤ 20) (h3 : n ≤ 3) {many : Nat} (hm : many ≤ 3) {r c : List Nat} (hr : r ∈ chn n many) (hc : c ∈ chn n many) : (mnr f r c).natAbs ≤ 216000 := by
  obtain ⟨h1, h2⟩ := chs_mem hr
  obtain ⟨h4, h5⟩ := chs_mem hc
  refine Nat.le_trans (mnr_bound hf r c h1 h4 (by omega)) ?_
  rw [h2]
  rcases (by omega : many = 0 ∨ many = 1 ∨ many = 2 ∨ many = 3) with rfl | rfl | rfl | rfl <;> decide

theorem mnr_1 (f : Nat → Nat → Int) (a b : Nat) : mnr f [a] [b] = f a b := by
  show 0 + sgn 0 * f a b * 1 = f a b
  rw [show sgn 0 = 1 from rfl]; grind
theorem mnr_2 (f : Nat → Nat → Int) (a b c d : Nat) : mnr f [a, b] [c, d] = f a c * f b d - f a d * f b c := by
  have e : mnr f [a, b] [c, d] = 0 + sgn 0 * f a c * mnr f [b] [d] + sgn 1 * f a d * mnr f [b] [c] := rfl
  rw [e, mnr_1, mnr_1, show sgn 0 = 1 from rfl, show sgn 1 = -1 from rfl]; grind
theorem mnr_3 (f : Nat → Nat → Int) : mnr f [0, 1, 2] [0, 1, 2] = dt 3 f := by
  have e : mnr f [0, 1, 2] [0, 1, 2] = 0 + sgn 0 * f 0 0 * mnr f [1, 2] [1, 2] + sgn 1 * f 0 1 * mnr f [1, 2] [0, 2] + sgn 2 * f 0 2 * mnr f [1, 2] [0, 1] := rfl
  have d : dt 3 f = 0 + sgn 0 * f 0 0 * dt 2 (del 0 f) + sgn 1 * f 0 1 * dt 2 (del 1 f) + sgn 2 * f 0 2 * dt 2 (del 2 f) := rfl
  rw [e, d, mnr_2, mnr_2, mnr_2, dt_2, dt_2, dt_2]
  rfl
theorem dt_1 (f : Nat → Nat → Int) : dt 1 f = f 0 0 := by
  show 0 + sgn 0 * f 0 0 * 1 = f 0 0
  rw [show sgn 0 = 1 from rfl]; grind
theorem chn_11 : chn 1 1 = [[0]] := by decide
theorem chn_21 : chn 2 1 = [[0], [1]] := by decide
theorem chn_22 : chn 2 2 = [[0, 1]] := by decide
theorem chn_31 : chn 3 1 = [[0], [1], [2]] := by decide
theorem chn_32 : chn 3 2 = [[0, 1], [0, 2], [1, 2]] := by decide
theorem chn_33 : chn 3 3 = [[0, 1, 2]] := by decide
theorem dvs_one {n : Nat} (f : Nat → Nat → Int) (h : ∀ x, x ∈ chn n 1 ↔ ∃ a, a < n ∧ x = [a]) : dvs n f 1 = gg n f := dvs_eq fun k => by
  rw [gg_dvd]
  constructor
  · rintro hk r c hr hc
    obtain ⟨a, ha, rfl⟩ := (h r).1 hr
    obtain ⟨b, hb, rfl⟩ := (h c).1 hc
    rw [mnr_1]; exact hk a b ha hb
  · intro hk i j hi hj
    have := hk [i] [j] ((h _).2 ⟨i, hi, rfl⟩) ((h _).2 ⟨j, hj, rfl⟩)
    rwa [mnr_1] at this
theorem dvs_21 (f : Nat → Nat → Int) : dvs 2 f 1 = gg 2 f := dvs_one f fun x => by
  rw [chn_21]
  constructor
  · intro h
    simp only [List.mem_cons, List.not_mem_nil, or_false] at h
    rcases h with rfl | rfl
    · exact ⟨0, by decide, rfl⟩
    · exact ⟨1, by decide, rfl⟩
  · rintro ⟨a, ha, rfl⟩
    rcases (by omega : a = 0 ∨ a = 1) with rfl | rfl <;> simp
theorem dvs_31 (f : Nat → Nat → Int) : dvs 3 f 1 = gg 3 f := dvs_one f fun x => by
  rw [chn_31]
  constructor
  · intro h
    simp only [List.mem_cons, List.not_mem_nil, or_false] at h
    rcases h with rfl | rfl | rfl
    · exact ⟨0, by decide, rfl⟩
    · exact ⟨1, by decide, rfl⟩
    · exact ⟨2, by decide, rfl⟩
  · rintro ⟨a, ha, rfl⟩
    rcases (by omega : a = 0 ∨ a = 1 ∨ a = 2) with rfl | rfl | rfl <;> simp
theorem dvs_all {n : Nat} (f : Nat → Nat → Int) {l : List Nat} (h : chn n n = [l]) (e : mnr f l l = dt n f) : dvs n f n = (dt n f).natAbs := dvs_eq fun k => by
  rw [h, ← e]
  constructor
  · rintro hk r c hr hc
    rw [List.mem_singleton.1 hr, List.mem_singleton.1 hc]
    exact Int.ofNat_dvd_left.2 hk
  · intro hk
    exact Int.ofNat_dvd_left.1 (hk l l (List.mem_singleton.2 rfl) (List.mem_singleton.2 rfl))
theorem dvs_11 (f : Nat → Nat → Int) : dvs 1 f 1 = (dt 1 f).natAbs := dvs_all f chn_11 (by rw [mnr_1, dt_1])
theorem dvs_22 (f : Nat → Nat → Int) : dvs 2 f 2 = (dt 2 f).natAbs := dvs_all f chn_22 (by rw [mnr_2, dt_2])
theorem dvs_33 (f : Nat → Nat → Int) : dvs 3 f 3 = (dt 3 f).natAbs := dvs_all f chn_33 (mnr_3 f)
theorem dvs_32 (f : Nat → Nat → Int) : dvs 3 f 2 = gmi 2 f := dvs_eq fun k => by
  rw [gmi_is, gg_dvd, chn_32]
  have key : ∀ a b c d e g : Nat, mnr f [a, b] [c, d] = f a c * f b d - f a d * f b c := fun a b c d _ _ => mnr_2 f a b c d
  constructor
  · intro h r c hr hc
    simp only [List.mem_cons, List.not_mem_nil, or_false] at hr hc
    rcases hr with rfl | rfl | rfl <;> rcases hc with rfl | rfl | rfl
    · have := h 2 2 (by decide) (by decide); rw [dt_2] at this; rw [mnr_2]; exact this
    · have := h 2 1 (by decide) (by decide); rw [dt_2] at this; rw [mnr_2]; exact this
    · have := h 2 0 (by decide) (by decide); rw [dt_2] at this; rw [mnr_2]; exact this
    · have := h 1 2 (by decide) (by decide); rw [dt_2] at this; rw [mnr_2]; exact this
    · have := h 1 1 (by decide) (by decide); rw [dt_2] at this; rw [mnr_2]; exact this
    · have := h 1 0 (by decide) (by decide); rw [dt_2] at this; rw [mnr_2]; exact this
    · have := h 0 2 (by decide) (by decide); rw [dt_2] at this; rw [mnr_2]; exact this
    · have := h 0 1 (by decide) (by decide); rw [dt_2] at this; rw [mnr_2]; exact this
    · have := h 0 0 (by decide) (by decide); rw [dt_2] at this; rw [mnr_2]; exact this
  · intro h i j hi hj
    have h3 : ∀ i : Nat, i < 3 → ∃ l, l ∈ [[0, 1], [0, 2], [1, 2]] ∧ l = [Mx.sk i 0, Mx.sk i 1] := fun i hi => by
      rcases (by omega : i = 0 ∨ i = 1 ∨ i = 2) with rfl | rfl | rfl
      · exact ⟨[1, 2], by simp, rfl⟩
      · exact ⟨[0, 2], by simp, rfl⟩
      · exact ⟨[0, 1], by simp, rfl⟩
    obtain ⟨r, hr, rfl⟩ := h3 i hi
    obtain ⟨c, hc, rfl⟩ := h3 j hj
    have := h _ _ hr hc
    rw [mnr_2] at this
    rw [dt_2]; exact this

/-- What divides all of the determinants with so many rows, none: 1. -/
def pv (n : Nat) (f : Nat → Nat → Int) (k : Nat) : Nat := if k = 0 then 1 else dvs n f k
theorem pv_zero (n : Nat) (f : Nat → Nat → Int) : pv n f 0 = 1 := rfl
theorem pv_succ (n : Nat) (f : Nat → Nat → Int) (k : Nat) : pv n f (k + 1) = dvs n f (k + 1) := by unfold pv; rw [if_neg (by omega)]
theorem pv_pos {n : Nat} {f : Nat → Nat → Int} (h3 : n ≤ 3) (h0 : dt n f ≠ 0) {k : Nat} (hk : k ≤ n) : 0 < pv n f k := by
  cases k with
  | zero => exact Nat.one_pos
  | succ k =>
    rw [pv_succ]
    rcases (by omega : n = 1 ∨ n = 2 ∨ n = 3) with rfl | rfl | rfl
    · rw [show k = 0 by omega, dvs_11]; omega
    · rcases (by omega : k = 0 ∨ k = 1) with rfl | rfl
      · rw [dvs_21]; exact gg_pos (by decide) h0
      · rw [dvs_22]; omega
    · rcases (by omega : k = 0 ∨ k = 1 ∨ k = 2) with rfl | rfl | rfl
      · rw [dvs_31]; exact gg_pos (by decide) h0
      · rw [dvs_32]; exact gmi_pos (p := 2) h0
      · rw [dvs_33]; omega
/-- The quotients are the parts. -/
theorem pv_spp {n : Nat} (f : Nat → Nat → Int) (h1 : 0 < n) (h3 : n ≤ 3) : (Mx.row n fun k => ((pv n f (k + 1) / pv n f k : Nat) : Int)) = spp n f := by
  rcases (by omega : n = 1 ∨ n = 2 ∨ n = 3) with rfl | rfl | rfl
  · show [((pv 1 f 1 / pv 1 f 0 : Nat) : Int)] = [((dt 1 f).natAbs : Int)]
    rw [pv_succ, pv_zero, dvs_11, Nat.div_one]
  · show [((pv 2 f 1 / pv 2 f 0 : Nat) : Int), ((pv 2 f 2 / pv 2 f 1 : Nat) : Int)] = [(gg 2 f : Int), (((dt 2 f).natAbs / gg 2 f : Nat) : Int)]
    rw [pv_succ, pv_succ, pv_zero, dvs_21, dvs_22, Nat.div_one]
  · show [((pv 3 f 1 / pv 3 f 0 : Nat) : Int), ((pv 3 f 2 / pv 3 f 1 : Nat) : Int), ((pv 3 f 3 / pv 3 f 2 : Nat) : Int)] = [(gg 3 f : Int), ((gmi 2 f / gg 3 f : Nat) : Int), (((dt 3 f).natAbs / gmi 2 f : Nat) : Int)]
    rw [pv_succ, pv_succ, pv_succ, pv_zero, dvs_31, dvs_32, dvs_33, Nat.div_one]
theorem dvs_le {n : Nat} {f : Nat → Nat → Int} (hf : ∀ i j, i < n → j < n → (f i j).natAbs ≤ 20) (h3 : n ≤ 3) {many : Nat} (hm : many ≤ 3) : dvs n f many ≤ 216000 := gl_le fun x hx => by
  obtain ⟨r, hr, c, hc, rfl⟩ := mns_mem.1 hx
  exact mns_bound hf h3 hm hr hc
theorem pv_le {n : Nat} {f : Nat → Nat → Int} (hf : ∀ i j, i < n → j < n → (f i j).natAbs ≤ 20) (h3 : n ≤ 3) {k : Nat} (hm : k ≤ 3) : pv n f k ≤ 216000 := by
  unfold pv
  split
  · decide
  · exact dvs_le hf h3 hm
end Go.Proofs.YtmimbioffnolaaaDoor.Zx

/- slices.Grow and slices.Concat of two rows of numbers. For all packages. -/
namespace Go.Proofs.YtmimbioffnolaaaDoor
open Go.ChangeShapes Go.WideShapes Go.ChangeAt Go.RowKit Go.Lib
set_option linter.unusedVariables false

section
variable {ops : Array Oper} {rest : List Oper} {o : Oper} {a : Act} {w : World} {Q : Exit → Act → World → Prop}
/-- An append of noughts, whose run is known. -/
theorem wpList_zeros (hgd : o.guard = Option.none) (s x : Operand) (ho : o.op = .call { callee := .builtin .append, args := #[s, x], argTypes := #[24, 3] })
    (v nv v' : Value) (w' : World) (hs : a.eval s = v) (hx : a.eval x = nv) (hr : ∀ ty, (Builtin.append_ #[24, 3] ty #[v, nv]).run Tryd.prog w = .ok v' w')
    (h : wpList Tryd.prog ops Q rest (a.put o.dst v') w') : wpList Tryd.prog ops Q (o :: rest) a w := by
  refine wpList_plain hgd fun _ hK => ?_
  unfold Oper.wp execOp
  simp only [ho, resolve, invoke, builtin, Sem.run_bind, Sem.run_pure, Result.andThen_ok, List.map_toArray, List.map_cons, List.map_nil, hs, hx, hr]
  exact hK _ _ h
end

set_option maxRecDepth 100000 in
set_option maxHeartbeats 1600000 in
theorem grow_any (k : Nat) (w : World) (h0 : 0 < k) (hk : k ≤ 1000) :
    Calls Tryd.prog 45 #[.slice none 0 0, .int .i64 (k : Int)] w fun e w' => ∃ v, e = .returned v ∧ Own w' w.heap.size v [] ∧ Kp w w' := by
  obtain ⟨i0, hi, hz0, hz1, hz2⟩ := info_parts int_info
  have hrz : ∀ ty, (Builtin.append_ #[24, 3] ty #[.slice none 0 0, .int .i64 (k : Int)]).run Tryd.prog w = _ := fun ty =>
    Lib.run_append_grow_zeros (P := Tryd.prog) w 24 3 ty 3 i0 (.int .i64 0) .i64 .i64 Tryd.underlying24 Tryd.underlying3 hi hz0 none 0 0 [] (run_firstCells_none w.drew i0.size 0 0 0) k h0 (by rw [hz1]; decide) (by omega) (by omega) (by rw [hz2]; omega)
      (growslice_fits (by omega) (by rw [hz2]; omega))
  rw [Nat.zero_add] at hrz
  have hge : k ≤ grownCap w k 0 3 := grownCap_ge w _ _ _
  have hle : grownCap w k 0 3 ≤ maxLen := grownCap_le_maxLen w k 0 3 (by unfold maxLen; omega)
  generalize grownCap w k 0 3 = q at *
  obtain ⟨cur, hcur⟩ : ∃ cur, cur = (([] : List Value).toArray ++ Builtin.zeroCells (Value.int .i64 0).cells k ++ Builtin.zeroCells (Value.int .i64 0).cells (q - k)) := ⟨_, rfl⟩
  have hs : cur.size = q := by
    rw [hcur]
    have e1 : (Value.int IntKind.i64 0).cells.size = 1 := rfl
    rw [Array.size_append, Array.size_append, size_zeroCells, size_zeroCells, e1]
    simp
    omega
  rw [← hcur] at hrz
  clear hcur
  have HO := Lib.hid (show Own (w.drew.alloc (.cells cur 3)) w.heap.size (.slice (some ⟨w.heap.size, 0, none⟩) 0 q) [] from
    ⟨rfl, .inr ⟨w.heap.size, q, cur, rfl, Nat.le_refl _, heap_alloc_new w.drew _, Nat.zero_le _, hle, by rw [hs]; omega, by simp⟩⟩)
  have HK := Lib.hid (((Kp.rfl' w).drewN 1).new (.cells cur 3))
  have hq : q ≤ 9223372036854775807 := by unfold maxLen at hle; omega
  clear hle hs
  go_enter Tryd.func45, Tryd.ntmps45
  go_wp2_with (at_builtin; refine wpList_zeros rfl _ _ rfl _ _ _ _ rfl rfl hrz ?_)
  go_ret
  exact ⟨_, rfl, HO.out, HK.out⟩
theorem grow_none (w : World) :
    Calls Tryd.prog 45 #[.slice none 0 0, .int .i64 0] w fun e w' => e = .returned (.slice none 0 0) ∧ w = w' := by
  go_enter Tryd.func45, Tryd.ntmps45
  go_wp2
  go_ret
  exact ⟨rfl, rfl⟩
theorem grow_all (k : Nat) (w : World) (hk : k ≤ 1000) :
    Calls Tryd.prog 45 #[.slice none 0 0, .int .i64 (k : Int)] w fun e w' => ∃ v, e = .returned v ∧ Own w' w.heap.size v [] ∧ Kp w w' := by
  rcases Nat.eq_zero_or_pos k with rfl | h0
  · exact (grow_none w).mono fun e w' ⟨h1, h2⟩ => ⟨_, h1, Own.none _ _, h2 ▸ Kp.rfl' w⟩
  · exact grow_any k w h0 hk

/-- The first k of two rows, one behind the other; how many numbers they have. -/
def cat2 (l m : List Int) (k : Nat) : List Int := if k = 0 then [] else if k = 1 then l else l ++ m
def cat2n (p q : Nat) (k : Nat) : Nat := if k = 0 then 0 else if k = 1 then p else p + q

set_option maxRecDepth 100000 in
set_option maxHeartbeats 1600000 in
theorem concat_all (g p q c d : Nat) (A B : Option Addr) (l m : List Int) (w : World) (c0 : w.cell? ⟨g, 0, none⟩ = some (.slice A p c)) (c1 : w.cell? ⟨g, 1, none⟩ = some (.slice B q d))
    (hl : Lies w A l) (hm : Lies w B m) (hp : p = l.length) (hq : q = m.length) (hn : p + q ≤ 1000) :
    Calls Tryd.prog 36 #[.slice (some ⟨g, 0, none⟩) 2 2] w fun e w' => SomeRow (l ++ m) w e w' := by
  have GR := Lib.hid (fun w => grow_all (p + q) w hn)
  have HL := Lib.hid hl
  have HM := Lib.hid hm
  have HP := Lib.hid hp
  have HQ := Lib.hid hq
  have hg := cell_lt c0
  have C0 := Lib.hid c0
  have C1 := Lib.hid c1
  have hp5 : p ≤ 1000 := by omega
  have hq5 : q ≤ 1000 := by omega
  clear hl hm hp hq c0 c1
  go_enter Tryd.func36, Tryd.ntmps36
  go_wp2_with fail
  go_loop [3, 11] (fun s i => ∃ k : Nat, k ≤ 2 ∧ i = .int .i64 (k : Int) ∧ s = .int .i64 ((cat2n p q k : Nat) : Int)) (fun _ i => 2 - (intOf i).toNat)
  case atStart => exact ⟨0, Nat.zero_le _, rfl, rfl⟩
  case round =>
    obtain ⟨k, hk, rfl, rfl⟩ := hrel
    rcases (by omega : k = 0 ∨ k = 1 ∨ k = 2) with rfl | rfl | rfl
    · have c0 := C0.out
      rw [show (cat2n p q 0 : Nat) = 0 from rfl]
      have hw : IntKind.i64.wrap (p : Int) = (p : Int) := IntWalk.i64_in _ (by omega)
      go_wp2_with fail
      go_round
      case rel => exact ⟨1, by omega, rfl, by simp [cat2n]⟩
      case measure => simp [intOf]
    · have c1 := C1.out
      have e1 : (cat2n p q 1 : Nat) = p := rfl
      rw [e1]
      have hw : IntKind.i64.wrap ((p : Int) + (q : Int)) = (p : Int) + (q : Int) := IntWalk.i64_in _ (by omega)
      go_wp2_with fail
      go_round
      case rel => exact ⟨2, by omega, rfl, by simp [cat2n]⟩
      case measure => simp [intOf]
    · have e1 : (cat2n p q 2 : Nat) = p + q := rfl
      rw [e1]
      clear e1
      go_wp2_with fail
      refine (GR.out w).mono ?_; rintro e w1 ⟨v, rfl, hv, hk1⟩
      have HV := Lib.hid hv
      have HK1 := Lib.hid hk1
      clear hv hk1
      go_wp2_with fail
      go_loopw [6, 27] (fun u i wr => ∃ k : Nat, k ≤ 2 ∧ i = .int .i64 (k : Int) ∧ Own wr w.heap.size u (cat2 l m k) ∧ Kp w wr) (fun _ i _ => 2 - (intOf i).toNat)
      case atStart => exact ⟨0, Nat.zero_le _, rfl, HV.out, HK1.out⟩
      case round =>
        obtain ⟨k, hk, rfl, hu, hkw⟩ := hrel
        have HU := Lib.hid hu
        have HKW := Lib.hid hkw
        clear hu hkw HV HK1
        rcases (by omega : k = 0 ∨ k = 1 ∨ k = 2) with rfl | rfl | rfl
        · have c0 := (HKW.out.cell (p := ⟨g, 0, none⟩) hg).trans C0.out
          go_wp2_with (at_builtin; refine wpList_cat rfl _ _ rfl w.heap.size _ [] l A p c rfl rfl HP.out HU.out (HL.out.keep HKW.out) (by simp; have := HP.out; omega) HKW.out.size ?_; intro v' w' h1 h2 _)
          have HO := Lib.hid h1
          have HK' := Lib.hid (own_below HU.out HKW.out HKW.out.size h2)
          clear h1 h2
          go_roundw
          case rel => exact ⟨1, by omega, rfl, HO.out, HK'.out⟩
          case measure => simp [intOf]
        · have c1 := (HKW.out.cell (p := ⟨g, 1, none⟩) hg).trans C1.out
          go_wp2_with (at_builtin; refine wpList_cat rfl _ _ rfl w.heap.size _ l m B q d rfl rfl HQ.out HU.out (HM.out.keep HKW.out) (by have := HP.out; have := HQ.out; omega) HKW.out.size ?_; intro v' w' h1 h2 _)
          have HO := Lib.hid h1
          have HK' := Lib.hid (own_below HU.out HKW.out HKW.out.size h2)
          clear h1 h2
          go_roundw
          case rel => exact ⟨2, by omega, rfl, HO.out, HK'.out⟩
          case measure => simp [intOf]
        · go_wp2_with fail
          go_ret
          exact ⟨_, rfl, HU.out, HKW.out⟩
theorem concat_any (g p q c d : Nat) (A B : Option Addr) (l m : List Int) (w : World) (c0 : w.cell? ⟨g, 0, none⟩ = some (.slice A p c)) (c1 : w.cell? ⟨g, 1, none⟩ = some (.slice B q d))
    (hl : Lies w A l) (hm : Lies w B m) (hp : p = l.length) (hq : q = m.length) (h0 : 0 < p + q) (hn : p + q ≤ 1000) :
    Calls Tryd.prog 36 #[.slice (some ⟨g, 0, none⟩) 2 2] w fun e w' => SomeRow (l ++ m) w e w' := concat_all g p q c d A B l m w c0 c1 hl hm hp hq hn

end Go.Proofs.YtmimbioffnolaaaDoor

/- Matrices of the call's own, row by row: what append leaves, and stores into their rows. For all packages. -/
namespace Go.Proofs.YtmimbioffnolaaaDoor
open Go.ChangeShapes Go.WideShapes Go.ChangeAt Go.RowKit
set_option linter.unusedVariables false

/-- The heads of the rows of m, row i in block G i with room for C i. -/
def heads (G C : Nat → Nat) (m : List (List Int)) : List Value := (List.range m.length).map fun i => Value.slice (some ⟨G i, 0, none⟩) (m.getD i []).length (C i)
/-- The slice value v is the call's own (from block B on) and holds the rows of m, each the call's own, each apart from the others. -/
structure OwnM (w : World) (B : Nat) (v : Value) (G C : Nat → Nat) (m : List (List Int)) : Prop where
  top : w.ownsRow B 24 1 v m.length (heads G C m)
  row : ∀ i, i < m.length → Own w B (.slice (some ⟨G i, 0, none⟩) (m.getD i []).length (C i)) (m.getD i [])
  apart : ∀ i j, i < m.length → j < m.length → i ≠ j → G i ≠ G j

theorem ownM_none (w : World) (B : Nat) (G C : Nat → Nat) : OwnM w B (.slice none 0 0) G C [] :=
  ⟨World.ownsRow_nil _ _ _ _, fun i hi => absurd hi (by simp), fun i j hi => absurd hi (by simp)⟩
theorem ownsRow_kp {w w' : World} {B n : Nat} {e : TypeId} {v : Value} {xs : List Value} (h : w.ownsRow B e 1 v n xs) (hk : Kp w w') : w'.ownsRow B e 1 v n xs := by
  obtain ⟨h1, h2⟩ := h
  refine ⟨h1, ?_⟩
  rcases h2 with h2 | ⟨g, cap, cur, hv, hg, hh, r⟩
  · exact .inl h2
  · refine .inr ⟨g, cap, cur, hv, hg, ?_, r⟩
    rw [hk.block g ?_]; exact hh
    rcases Nat.lt_or_ge g w.heap.size with hlt | hge
    · exact hlt
    · rw [Array.getElem?_eq_none hge] at hh; cases hh
theorem OwnM.kp {w w' : World} {B : Nat} {v : Value} {G C : Nat → Nat} {m : List (List Int)} (h : OwnM w B v G C m) (hk : Kp w w') : OwnM w' B v G C m :=
  ⟨ownsRow_kp h.top hk, fun i hi => (h.row i hi).kp hk, h.apart⟩
theorem OwnM.lt {w : World} {B : Nat} {v : Value} {G C : Nat → Nat} {m : List (List Int)} (h : OwnM w B v G C m) {i : Nat} (hi : i < m.length) : B ≤ G i ∧ G i < w.heap.size :=
  World.ownsRow.lt (h.row i hi) (G i) rfl
/-- The block of the heads is no row's. -/
theorem top_ne {w : World} {B B' n : Nat} {v : Value} {hs : List Value} {g d c : Nat} {l : List Int} (h : w.ownsRow B 24 1 v n hs) (hr : Own w B' (.slice (some ⟨g, 0, none⟩) d c) l) : (Value.slice (some ⟨g, 0, none⟩) d c).ownBlock ≠ v.ownBlock := fun e => by
  obtain ⟨cur, hh, _⟩ := own_row hr
  rcases h.2 with ⟨rfl, _⟩ | ⟨g', cap, cur', rfl, _, hh', _⟩
  · cases e
  · have e' : g = g' := Option.some.inj e
    subst e'
    rw [hh] at hh'
    cases hh'
theorem OwnM.lies {w : World} {B : Nat} {v : Value} {G C : Nat → Nat} {m : List (List Int)} (h : OwnM w B v G C m) : ∃ A c, v = .slice A m.length c ∧ LiesM w A m ∧ m.length ≤ c := by
  rcases h.top.2 with ⟨rfl, h0⟩ | ⟨g, cap, cur, hv, hg, hh, hc, hm, hs, ht⟩
  · obtain rfl : m = [] := List.eq_nil_of_length_eq_zero h0
    exact ⟨Option.none, 0, rfl, LiesM.empty _ _, Nat.le_refl _⟩
  · refine ⟨_, cap, hv, fun k hk => ?_, hc⟩
    refine ⟨_, some ⟨G k, 0, Option.none⟩, C k, rfl, ?_, ?_, ?_, ?_⟩
    · rcases Nat.lt_or_ge g w.heap.size with h' | h'
      · exact h'
      · rw [Array.getElem?_eq_none h'] at hh; cases hh
    · have ht' : cur.toList.take m.length = heads G C m := by simpa using ht
      rw [add_at, cell_of_row _ _ k _ _ (0, 0) hh, ← Array.getElem?_toList, ← List.getElem?_take_of_lt hk, ht']
      simp [heads, hk]
    · obtain ⟨A, c, e, _, hle⟩ := (h.row k hk).cap
      cases e; exact hle
    · obtain ⟨A, c, e, hl⟩ := (h.row k hk).lies
      cases e; exact hl
theorem heads_snoc (G C : Nat → Nat) (m : List (List Int)) (l : List Int) (g c : Nat) :
    heads (fun i => if i = m.length then g else G i) (fun i => if i = m.length then c else C i) (m ++ [l]) = heads G C m ++ [Value.slice (some ⟨g, 0, none⟩) l.length c] := by
  unfold heads
  rw [List.length_append, List.length_singleton, List.range_succ, List.map_append]
  congr 1
  · refine List.map_congr_left fun i hi => ?_
    have hi' := List.mem_range.1 hi
    have e1 : i ≠ m.length := by omega
    simp [e1, List.getElem?_append_left hi']
  · simp

section
variable {ops : Array Oper} {rest : List Oper} {o : Oper} {a : Act} {w : World} {K : Act → World → Prop} {Q : Exit → Act → World → Prop}
/-- out = append(out, row). -/
theorem wp_pushM (s x : Operand) (ho : o.op = .call { callee := .builtin .append, args := #[s, x], argTypes := #[22, 22] })
    (B : Nat) (v : Value) (G C : Nat → Nat) (m : List (List Int)) (l : List Int) (g n c gb cb : Nat) (hn : l.length = n) (hs : a.eval s = v) (hx : a.eval x = .slice (some ⟨gb, 0, none⟩) 1 cb) (hown : OwnM w B v G C m)
    (hcell : w.cell? ⟨gb, 0, none⟩ = some (.slice (some ⟨g, 0, none⟩) n c)) (hrow : Own w B (.slice (some ⟨g, 0, none⟩) n c) l) (hap : ∀ i, i < m.length → G i ≠ g) (hlen : m.length + 1 ≤ 1000000) (hB : B ≤ w.heap.size)
    (h : ∀ v' w' G' C', OwnM w' B v' G' C' (m ++ [l]) → w.grownBy w' v.ownBlock → K (a.put o.dst v') w') : o.wp Tryd.prog a w K Q := by
  subst hn
  obtain ⟨i0, hi, hz0, hz1, hz2⟩ := info_parts ints_info
  obtain ⟨v', w', hrun, h1, h2, _, h3⟩ := run_append_own_at (P := Tryd.prog) w B 22 o.type 24 i0 (.slice Option.none 0 0) 1 24 Tryd.underlying22 hi hz0 hz1 hz2 rfl (by decide) v m.length (heads G C m) hown.top ⟨gb, 0, Option.none⟩ 1 cb [.slice (some ⟨g, 0, Option.none⟩) l.length c] rfl
    (fun j u hj => by
      match j, hj with
      | 0, hj => simp at hj; subst hj; rw [add_at]; exact hcell) (fun u hu => by simp at hu; subst hu; rfl) (by unfold maxLen; omega) (by omega) hB
  unfold Oper.wp execOp
  simp only [ho, resolve, invoke, builtin, Sem.run_bind, Sem.run_pure, Result.andThen_ok, List.map_toArray, List.map_cons, List.map_nil, hs, hx, hrun]
  refine (h v' w' (fun i => if i = m.length then g else G i) (fun i => if i = m.length then c else C i) ⟨?_, fun i hi => ?_, fun i j hi hj hne => ?_⟩ h2)
  · rw [heads_snoc, List.length_append]; exact h1
  · rw [List.length_append, List.length_singleton] at hi
    by_cases e : i = m.length
    · subst e
      have e2 : (m ++ [l]).getD m.length [] = l := by simp
      simp only [e2, if_true]
      exact hrow.grown h2 (.inr (top_ne hown.top hrow))
    · have hi' : i < m.length := by omega
      have e2 : (m ++ [l]).getD i [] = m.getD i [] := by simp [List.getElem?_append_left hi']
      simp only [if_neg e, e2]
      exact (hown.row i hi').grown h2 (.inr (top_ne hown.top (hown.row i hi')))
  · rw [List.length_append, List.length_singleton] at hi hj
    by_cases e : i = m.length
    · rw [if_pos e, if_neg (by omega)]
      exact fun e' => hap j (by omega) e'.symm
    · rw [if_neg e]
      by_cases e2 : j = m.length
      · rw [if_pos e2]; exact hap i (by omega)
      · rw [if_neg e2]; exact hown.apart i j (by omega) (by omega) hne
theorem wpList_pushM (hgd : o.guard = Option.none) (s x : Operand) (ho : o.op = .call { callee := .builtin .append, args := #[s, x], argTypes := #[22, 22] })
    (B : Nat) (v : Value) (G C : Nat → Nat) (m : List (List Int)) (l : List Int) (g n c gb cb : Nat) (hn : l.length = n) (hs : a.eval s = v) (hx : a.eval x = .slice (some ⟨gb, 0, none⟩) 1 cb) (hown : OwnM w B v G C m)
    (hcell : w.cell? ⟨gb, 0, none⟩ = some (.slice (some ⟨g, 0, none⟩) n c)) (hrow : Own w B (.slice (some ⟨g, 0, none⟩) n c) l) (hap : ∀ i, i < m.length → G i ≠ g) (hlen : m.length + 1 ≤ 1000000) (hB : B ≤ w.heap.size)
    (h : ∀ v' w' G' C', OwnM w' B v' G' C' (m ++ [l]) → (∀ w0 : World, w0.heap.size ≤ B → Kp w0 w → Kp w0 w') → wpList Tryd.prog ops Q rest (a.put o.dst v') w') : wpList Tryd.prog ops Q (o :: rest) a w :=
  wpList_plain hgd fun _ hK => wp_pushM s x ho B v G C m l g n c gb cb hn hs hx hown hcell hrow hap hlen hB fun v' w' G' C' h1 h2 => hK _ _ (h v' w' G' C' h1 fun w0 hw0 hk0 => Below.grown hk0 h2 hk0.size fun k hk => Nat.le_trans hw0 (World.ownsRow.lt hown.top k hk).1)
end

theorem cell_made (w : World) (cs : Array Value) (e : TypeId) (g k : Nat) (h : g = w.heap.size) : (w.alloc (.cells cs e)).cell? ⟨g, k, none⟩ = cs[k]? := by
  subst h
  exact cell_of_row _ _ k _ e (0, 0) (heap_alloc_new w _)
theorem size_set (w : World) (a : Addr) (u : Value) : w.heap.size = (w.setCell a u).heap.size := by simp [World.setCell]
theorem Own.from {w : World} {B B' : Nat} {v : Value} {l : List Int} (h : Own w B v l) (hB : B' ≤ B) : Own w B' v l :=
  ⟨h.1, h.2.imp id fun ⟨g, cap, cur, e, hg, r⟩ => ⟨g, cap, cur, e, Nat.le_trans hB hg, r⟩⟩
/-- Cells of a row of such a matrix; a store into one. -/
theorem OwnM.head {w : World} {B : Nat} {G C : Nat → Nat} {m : List (List Int)} {g n cap : Nat} (h : OwnM w B (.slice (some ⟨g, 0, none⟩) n cap) G C m) {i : Nat} (hi : i < m.length) : w.cell? ⟨g, i, none⟩ = some (.slice (some ⟨G i, 0, none⟩) (m.getD i []).length (C i)) := by
  rcases h.top.2 with ⟨e, _⟩ | ⟨g', cap', cur, hv, hg, hh, hc, hm, hs, ht⟩
  · cases e
  · cases hv
    have ht' : cur.toList.take m.length = heads G C m := by simpa using ht
    rw [cell_of_row _ _ i _ _ (0, 0) hh, ← Array.getElem?_toList, ← List.getElem?_take_of_lt hi, ht']
    simp [heads, hi]
theorem OwnM.el {w : World} {B : Nat} {v : Value} {G C : Nat → Nat} {m : List (List Int)} (h : OwnM w B v G C m) {i : Nat} (hi : i < m.length) {j : Nat} (hj : j < (m.getD i []).length) : w.cell? ⟨G i, j, none⟩ = some (.int .i64 ((m.getD i []).getD j 0)) :=
  own_cell (h.row i hi) j hj
theorem OwnM.free {w : World} {B : Nat} {v : Value} {G C : Nat → Nat} {m : List (List Int)} (h : OwnM w B v G C m) {i : Nat} (hi : i < m.length) (j : Nat) : w.frozen? ⟨G i, j, none⟩ = false :=
  own_free (h.row i hi) j
theorem own_store {w : World} {B g n c : Nat} {l : List Int} (h : Own w B (.slice (some ⟨g, 0, none⟩) n c) l) {a : Addr} (ha : g ≠ a.block) (u : Value) : Own (w.setCell a u) B (.slice (some ⟨g, 0, none⟩) n c) l := by
  rcases h.2 with ⟨h0, _⟩ | ⟨g', cap, cur, e, hg, hh, r⟩
  · cases h0
  · cases e
    exact ⟨h.1, .inr ⟨g, c, cur, rfl, hg, by rw [heap_setCell_other w a g u ha]; exact hh, r⟩⟩
theorem OwnM.put {w : World} {B : Nat} {v : Value} {G C : Nat → Nat} {r c : Nat} {f : Nat → Nat → Int} (h : OwnM w B v G C (Mx.tab r c f)) {i : Nat} (hi : i < r) (j : Nat) (x : Int) :
    OwnM (w.setCell ⟨G i, j, none⟩ (.int .i64 x)) B v G C (Mx.tab r c fun a b => if a = i ∧ b = j then x else f a b) := by
  have hl := Mx.len_tab r c f
  have hl' := Mx.len_tab r c fun a b => if a = i ∧ b = j then x else f a b
  have hri := h.row i (by rw [hl]; exact hi)
  refine ⟨?_, fun k hk => ?_, fun a b ha hb => h.apart a b (by omega) (by omega)⟩
  · have hh : heads G C (Mx.tab r c fun a b => if a = i ∧ b = j then x else f a b) = heads G C (Mx.tab r c f) := by
      unfold heads
      rw [hl, hl']
      refine List.map_congr_left fun k hk => ?_
      have := List.mem_range.1 hk
      rw [Mx.tab_len _ _ _ _ this, Mx.tab_len _ _ _ _ this]
    rw [hh, hl']
    have ht := h.top
    have hne := top_ne h.top hri
    rw [hl] at ht
    rcases ht.2 with ⟨h1, h2⟩ | ⟨g, cap, cur, e, hg, hh, rr⟩
    · exact ⟨ht.1, .inl ⟨h1, h2⟩⟩
    · refine ⟨ht.1, .inr ⟨g, cap, cur, e, hg, ?_, rr⟩⟩
      rw [heap_setCell_other w _ g _ (by
        show g ≠ G i
        intro e2
        apply hne
        rw [e]
        show some (G i) = some g
        rw [e2])]
      exact hh
  · rw [hl'] at hk
    rw [Mx.tab_at _ _ _ _ hk, Mx.len_row]
    have hk0 := h.row k (by omega)
    rw [Mx.tab_at _ _ _ _ hk, Mx.len_row] at hk0
    by_cases e : k = i
    · subst e
      have := own_put hk0 j x
      rw [Mx.row_set] at this
      rw [show (fun b => if k = k ∧ b = j then x else f k b) = fun b => if b = j then x else f k b by funext b; simp]
      exact this
    · rw [show (fun b => if k = i ∧ b = j then x else f k b) = f k by funext b; simp [e]]
      exact own_store hk0 (by show G k ≠ G i; exact h.apart k i (by omega) (by omega) e) _
theorem OwnM.ext {w : World} {B : Nat} {v : Value} {G C : Nat → Nat} {r c : Nat} {f f' : Nat → Nat → Int} (h : OwnM w B v G C (Mx.tab r c f)) (e : ∀ i j, i < r → j < c → f i j = f' i j) : OwnM w B v G C (Mx.tab r c f') := by
  rw [← Mx.tab_ext e]; exact h
theorem OwnM.drewN {w : World} {B : Nat} {v : Value} {G C : Nat → Nat} {m : List (List Int)} (h : OwnM w B v G C m) (n : Nat) : OwnM (w.drewN n) B v G C m := h.kp ((Kp.rfl' w).drewN n)
theorem OwnM.new {w : World} {B : Nat} {v : Value} {G C : Nat → Nat} {m : List (List Int)} (h : OwnM w B v G C m) (o : Obj) : OwnM (w.alloc o) B v G C m := h.kp ((Kp.rfl' w).new o)
end Go.Proofs.YtmimbioffnolaaaDoor

/- Contracts of package smith, first part: a determinant of some rows and columns. -/
namespace Go.Proofs.YtmimbioffnolaaaDoor
open Go.ChangeShapes Go.WideShapes Go.ChangeAt Go.RowKit
set_option linter.unusedVariables false

/-- Places as whole numbers. -/
def nz (l : List Nat) : List Int := l.map fun (x : Nat) => (x : Int)
theorem nz_len (l : List Nat) : (nz l).length = l.length := List.length_map ..
theorem nz_at {l : List Nat} {k : Nat} (h : k < l.length) : (nz l).getD k 0 = ((l.getD k 0 : Nat) : Int) := by
  simp [nz, List.getD_eq_getElem?_getD, h]
theorem nz_less (l : List Nat) (k : Nat) : nz (l.take k ++ l.drop (k + 1)) = (nz l).take k ++ (nz l).drop (k + 1) := by
  unfold nz; rw [List.map_append, List.map_take, List.map_drop]
theorem Lies.num {w : World} {A : Option Addr} {l : List Nat} (h : Lies w A (nz l)) {k : Nat} (hk : k < l.length) : ∃ ad, A = some ad ∧ ad.block < w.heap.size ∧ w.cell? (ad.add k) = some (.int .i64 ((l.getD k 0 : Nat) : Int)) := by
  obtain ⟨ad, e, hl, hc⟩ := h k (by rw [nz_len]; exact hk)
  rw [nz_at hk] at hc
  exact ⟨ad, e, hl, hc⟩

theorem minor_nil (f : Nat → Nat → Int) (M A B : Option Addr) (n dm c : Nat) (cs : List Nat) (q d : Nat) (w : World) :
    Calls Tryd.prog 25 #[.slice M n dm, .slice A 0 c, .slice B q d] w fun e w' => e = .returned (.int .i64 (Zx.mnr f [] cs)) ∧ Kp w w' := by
  rw [Zx.mnr_nil]
  go_enter Tryd.func25, Tryd.ntmps25
  go_wp2
  go_ret
  exact ⟨rfl, Kp.rfl' w⟩

set_option maxRecDepth 100000 in
set_option maxHeartbeats 3200000 in
theorem minor_step {n : Nat} {f : Nat → Nat → Int} (hf : ∀ i j, i < n → j < n → (f i j).natAbs ≤ 20) (M : Option Addr) (dm : Nat) (hn3 : n ≤ 3) (L : Nat) (hL : L ≤ 2)
    (ih : ∀ (rs cs : List Nat) (A B : Option Addr) (c d : Nat) (w : World), rs.length = L → cs.length = L → Zx.Und n rs → Zx.Und n cs → L ≤ c → L ≤ d → LiesM w M (Mx.tab n n f) → Lies w A (nz rs) → Lies w B (nz cs) →
      Calls Tryd.prog 25 #[.slice M n dm, .slice A L c, .slice B L d] w fun e w' => e = .returned (.int .i64 (Zx.mnr f rs cs)) ∧ Kp w w')
    (r : Nat) (rs cs : List Nat) (A B : Option Addr) (c d : Nat) (w : World) (hrl : rs.length = L) (hcl : cs.length = L + 1) (hr : Zx.Und n (r :: rs)) (hc : Zx.Und n cs) (h1 : L + 1 ≤ c) (h2 : L + 1 ≤ d)
    (hm : LiesM w M (Mx.tab n n f)) (ha : Lies w A (nz (r :: rs))) (hb : Lies w B (nz cs)) :
    Calls Tryd.prog 25 #[.slice M n dm, .slice A (L + 1) c, .slice B (L + 1) d] w fun e w' => e = .returned (.int .i64 (Zx.mnr f (r :: rs) cs)) ∧ Kp w w' := by
  have SG := Lib.hid (fun k => Zx.sgn_next k)
  have EQ := Lib.hid (show Zx.mnr f (r :: rs) cs = Zx.sg (L + 1) fun k => Zx.sgn k * f r (cs.getD k 0) * Zx.mnr f rs (cs.take k ++ cs.drop (k + 1)) by rw [Zx.mnr_cons, hcl])
  have PB := Lib.hid (fun t (ht : t ≤ L + 1) => Nat.le_trans (Zx.mnr_part hf hr hc (by omega) (t := t) (by omega)) (show 60 ^ (rs.length + 1) ≤ 216000 by rw [hrl]; exact Nat.le_trans (Nat.pow_le_pow_right (by decide) (show L + 1 ≤ 3 by omega)) (by decide)))
  have MB := Lib.hid (fun k (hk : k < L + 1) => Nat.le_trans (Zx.mnr_bound hf rs (cs.take k ++ cs.drop (k + 1)) hr.tail (hc.less k) (by have := Zx.len_less (cs := cs) (k := k) (by omega); omega)) (show 60 ^ rs.length ≤ 3600 by rw [hrl]; exact Nat.le_trans (Nat.pow_le_pow_right (by decide) hL) (by decide)))
  have FB := Lib.hid (fun k (hk : k < L + 1) => hf r (cs.getD k 0) hr.head (hc.at (by omega)))
  have SB := Lib.hid Zx.sgn_abs
  obtain ⟨adA, rfl, hlA, xa⟩ := ha.num (k := 0) (by simp)
  rw [show (r :: rs).getD 0 0 = r from rfl] at xa
  obtain ⟨adM, AR, dR, rfl, hlM, xm, hdr, hR⟩ := hm.row hr.head
  have XA := Lib.hid (fun w' (k : Kp w w') => (k.cell (p := adA.add 0) (by rw [block_add]; exact hlA)).trans xa)
  have XM := Lib.hid (fun w' (k : Kp w w') => (k.cell (p := adM.add r) (by rw [block_add]; exact hlM)).trans xm)
  have XR := Lib.hid (fun (j : Nat) (hj : j < n) => (show ∃ ad, AR = some ad ∧ ∀ w', Kp w w' → w'.cell? (ad.add j) = some (.int .i64 (f r j)) from by
    obtain ⟨ad, e, hl, hx⟩ := hR.el hj
    exact ⟨ad, e, fun w' k => (k.cell (p := ad.add j) (by rw [block_add]; exact hl)).trans hx⟩))
  have XB := Lib.hid (fun k (hk : k < L + 1) => (show ∃ ad, B = some ad ∧ ∀ w', Kp w w' → w'.cell? (ad.add k) = some (.int .i64 ((cs.getD k 0 : Nat) : Int)) from by
    obtain ⟨ad, e, hl, hx⟩ := hb.num (k := k) (by omega)
    exact ⟨ad, e, fun w' k' => (k'.cell (p := ad.add k) (by rw [block_add]; exact hl)).trans hx⟩))
  have CN := Lib.hid (fun k (hk : k < L + 1) => hc.at (show k < cs.length by omega))
  have RN := hr.head
  have CC := Lib.hid (fun k (hk : k < L + 1) (g : Nat) (A1 A2 : Option Addr) (e1 e2 : Nat) (w' : World) (kw : Kp w w') (h1 : A1 = B) (h2 : k + 1 < L + 1 → ∃ ad, B = some ad ∧ A2 = some (ad.add (k + 1)))
      (c0 : w'.cell? ⟨g, 0, none⟩ = some (.slice A1 k e1)) (c1 : w'.cell? ⟨g, 1, none⟩ = some (.slice A2 (L - k) e2)) =>
    (show Calls Tryd.prog 36 #[.slice (some ⟨g, 0, none⟩) 2 2] w' fun e w'' => ∃ C cc, e = .returned (.slice C L cc) ∧ L ≤ cc ∧ Lies w'' C (nz (cs.take k ++ cs.drop (k + 1))) ∧ Kp w' w'' from by
      subst h1
      have hb' := hb.keep kw
      have hlen : (nz cs).length = L + 1 := by rw [nz_len, hcl]
      refine (concat_all g k (L - k) e1 e2 A1 A2 ((nz cs).take k) ((nz cs).drop (k + 1)) w' c0 c1 (hb'.take k) (fun i hi => ?_) (by rw [List.length_take]; omega) (by rw [List.length_drop]; omega) (by omega)).mono fun e w'' ⟨v, he, ho, hk'⟩ => ?_
      · have hlt : k + 1 < L + 1 := by rw [List.length_drop] at hi; omega
        obtain ⟨ad, e, rfl⟩ := h2 hlt
        subst e
        exact hb'.drop (k + 1) i hi
      · obtain ⟨C, cc, rfl, hl, hle⟩ := ho.cap
        rw [← nz_less] at hl
        have e1 : ((nz cs).take k ++ (nz cs).drop (k + 1)).length = L := by rw [← nz_less, nz_len]; have := Zx.len_less (cs := cs) (k := k) (by omega); omega
        rw [e1] at he hle
        exact ⟨C, cc, he, hle, hl, hk'⟩))
  have IH := Lib.hid (fun k (hk : k < L + 1) (A' C : Option Addr) (c' cc : Nat) (w0 w' : World) (kw : Kp w w') (hA : 0 < L → A' = some (adA.add 1)) (h1 : L ≤ c') (h2 : L ≤ cc) (hC : Lies w0 C (nz (cs.take k ++ cs.drop (k + 1)))) (k0 : Kp w0 w') =>
    ih rs (cs.take k ++ cs.drop (k + 1)) A' C c' cc w' hrl (by have := Zx.len_less (cs := cs) (k := k) (by omega); omega) hr.tail (hc.less k) h1 h2 (hm.keep kw) (fun i hi => by
      rw [nz_len, hrl] at hi
      rw [hA (by omega)]
      exact ((ha.keep kw).drop 1) i (by rw [List.length_drop, nz_len, List.length_cons]; omega)) (hC.keep k0))
  have e0 : ((L : Int) + 1 == 0) = false := by rw [beq_eq_false_iff_ne]; omega
  clear hf hm ha hb hr hc hrl hcl ih hR xa xm hlA hlM
  go_enter Tryd.func25, Tryd.ntmps25
  go_wp2_with fail
  go_loopw [7, 8, 9, 10, 11, 17] (fun s g _ _ _ i wr => ∃ k : Nat, k ≤ L + 1 ∧ i = .int .i64 (k : Int) ∧ s = .int .i64 (Zx.sg k fun k => Zx.sgn k * f r (cs.getD k 0) * Zx.mnr f rs (cs.take k ++ cs.drop (k + 1))) ∧ g = .int .i64 (Zx.sgn k) ∧ Kp w wr) (fun _ _ _ _ _ i _ => L + 1 - (intOf i).toNat)
  case atStart => exact ⟨0, Nat.zero_le _, rfl, rfl, rfl, Kp.rfl' w⟩
  case round =>
    obtain ⟨k, hk, rfl, rfl, rfl, hkw⟩ := hrel
    have HK := Lib.hid hkw
    by_cases hlt : k < L + 1
    · obtain ⟨adB, rfl, hxb⟩ := XB.out k hlt
      have xb := hxb wr hkw
      have ST := Lib.hid (show (Zx.sg (k + 1) fun k => Zx.sgn k * f r (cs.getD k 0) * Zx.mnr f rs (cs.take k ++ cs.drop (k + 1))) = (Zx.sg k fun k => Zx.sgn k * f r (cs.getD k 0) * Zx.mnr f rs (cs.take k ++ cs.drop (k + 1))) + Zx.sgn k * f r (cs.getD k 0) * Zx.mnr f rs (cs.take k ++ cs.drop (k + 1)) from rfl)
      have b1 := PB.out k (by omega)
      have b2 := PB.out (k + 1) (by omega)
      have b3 := MB.out k hlt
      have b4 := FB.out k hlt
      have b5 := SB.out k
      have b6 := SG.out k
      have XR' := Lib.hid (XR.out _ (CN.out k hlt))
      have CC' := Lib.hid (CC.out k hlt)
      have IH' := Lib.hid (IH.out k hlt)
      have CNk := CN.out k hlt
      rw [ST.out] at b2
      generalize (Zx.sg k fun k => Zx.sgn k * f r (cs.getD k 0) * Zx.mnr f rs (cs.take k ++ cs.drop (k + 1))) = s at *
      generalize Zx.mnr f rs (cs.take k ++ cs.drop (k + 1)) = y at *
      generalize cs.getD k 0 = z at *
      have RA := XA.out
      obtain ⟨adR, rfl, hxr⟩ := XR'.out
      have xr := hxr wr hkw
      have xa := XA.out wr hkw
      have xm := XM.out wr hkw
      clear hxb
      have kd : k ≤ d := by omega
      have kk1 : (k : Int) ≤ (k : Int) + 1 := by omega
      have kd1 : k + 1 ≤ d := by omega
      have kl1 : k + 1 ≤ L + 1 := by omega
      have hkw1 : IntKind.i64.wrap ((k : Int) + 1) = (k : Int) + 1 := IntWalk.i64_in _ (by omega)
      have k0 : (0 : Int) ≤ (k : Int) + 1 := by omega
      have kl : k ≤ L := by omega
      have HA2 := Lib.hid (show (some ⟨adB.block, adB.off + (k + 1), none⟩ : Option Addr) = some (adB.add (k + 1)) by rw [Addr.add_succ'])
      have t1 : (Zx.sgn k * f r z).natAbs ≤ 20 := by rw [Int.natAbs_mul, b5, Nat.one_mul]; exact b4
      have t2 : (Zx.sgn k * f r z * y).natAbs ≤ 72000 := by rw [Int.natAbs_mul]; exact Nat.le_trans (Nat.mul_le_mul t1 b3) (by decide)
      have hw1 : IntKind.i64.wrap (Zx.sgn k * f r z) = Zx.sgn k * f r z := IntWalk.i64_in _ (by omega)
      have hw2 : IntKind.i64.wrap (Zx.sgn k * f r z * y) = Zx.sgn k * f r z * y := IntWalk.i64_in _ (by omega)
      have hw3 : IntKind.i64.wrap (s + Zx.sgn k * f r z * y) = s + Zx.sgn k * f r z * y := IntWalk.i64_in _ (by omega)
      have hw4 : IntKind.i64.wrap (-Zx.sgn k) = -Zx.sgn k := IntWalk.i64_in _ (by omega)
      have SGN := Lib.hid b6
      have c1 : 1 ≤ c := by omega
      have HAA := Lib.hid (show (some ⟨adA.block, adA.off + 1, none⟩ : Option Addr) = some (adA.add 1) by rw [Addr.add_succ'])
      have LC1 := Lib.hid (show 0 < L → ¬ c = 1 by omega)
      have lc1 : L ≤ c - 1 := by omega
      have l1 : (1 : Int) ≤ (L : Int) + 1 := by omega
      have XRF := Lib.hid hxr
      clear b1 b2 b3 b4 b5 b6 t1 t2 hkw hdr
      go_wp2_with fail
      go_region_law (first
        | (go_simp; go_at_call 36; refine (CC'.out wr.heap.size (some adB) (if d = k + 1 then some adB else some ⟨adB.block, adB.off + (k + 1), none⟩) d (d - (k + 1)) _ ((HK.out.new _).drewN 1) rfl (fun h => ⟨adB, rfl, by rw [if_neg (by omega)]; exact HA2.out⟩) ((cell_made wr _ _ _ 0 rfl).trans rfl) ((cell_made wr _ _ _ 1 rfl).trans rfl)).mono ?_; rintro e w2 ⟨C, cc, rfl, hcc, hlC, hk2⟩; have K2 := Lib.hid (((HK.out.new _).drewN 1).trans hk2); have LC := Lib.hid hlC; clear hlC hk2))
      generalize (if d = k + 1 then some adB else some (⟨adB.block, adB.off + (k + 1), none⟩ : Addr)) = A2
      clear xb xr xa xm
      have xa2 := XA.out w2 K2.out
      rw [add_zero'] at xa2
      have xm2 := XM.out w2 K2.out
      have xr2 := XRF.out w2 K2.out
      go_wp2_with fail
      go_region_law (first
        | (go_simp; go_at_call 25; refine (IH'.out (if c = 1 then some adA else some ⟨adA.block, adA.off + 1, none⟩) C (c - 1) cc w2 _ (K2.out.drewN 1) (fun h => by rw [if_neg (LC1.out h)]; exact HAA.out) lc1 hcc LC.out ((Kp.rfl' w2).drewN 1)).mono ?_; rintro e w3 ⟨rfl, hk3⟩; have K3 := Lib.hid ((K2.out.drewN 1).trans hk3); have xa3 := XA.out w3 K3.out; rw [add_zero'] at xa3; have xm3 := XM.out w3 K3.out; have xr3 := XRF.out w3 K3.out; clear hk3))
      all_goals
        generalize (if c = 1 then some adA else some (⟨adA.block, adA.off + 1, none⟩ : Addr)) = A3
        go_wp2_with fail
        go_roundw
        case rel => exact ⟨k + 1, by omega, by go_num, by rw [ST.out], by rw [SGN.out], K3.out⟩
        case measure => simp [intOf]; omega
    · obtain rfl : k = L + 1 := by omega
      clear hkw hk
      go_wp2_with fail
      go_ret
      exact ⟨by rw [EQ.out]; rfl, HK.out⟩
/-- smith.minor: the determinant of as many rows as columns. -/
theorem minor_any {n : Nat} {f : Nat → Nat → Int} (hf : ∀ i j, i < n → j < n → (f i j).natAbs ≤ 20) (M : Option Addr) (dm : Nat) (hn3 : n ≤ 3) : ∀ (L : Nat), L ≤ 3 →
    ∀ (rs cs : List Nat) (A B : Option Addr) (c d : Nat) (w : World), rs.length = L → cs.length = L → Zx.Und n rs → Zx.Und n cs → L ≤ c → L ≤ d → LiesM w M (Mx.tab n n f) → Lies w A (nz rs) → Lies w B (nz cs) →
      Calls Tryd.prog 25 #[.slice M n dm, .slice A L c, .slice B L d] w fun e w' => e = .returned (.int .i64 (Zx.mnr f rs cs)) ∧ Kp w w'
  | 0, _, rs, cs, A, B, c, d, w, hr, _, _, _, _, _, _, _, _ => by
    obtain rfl : rs = [] := List.eq_nil_of_length_eq_zero hr
    exact minor_nil f M A B n dm c cs 0 d w
  | L + 1, hL, rs, cs, A, B, c, d, w, hr, hc, ur, uc, h1, h2, hm, ha, hb => by
    cases rs with
    | nil => cases hr
    | cons r rs => exact minor_step hf M dm hn3 L (by omega) (minor_any hf M dm hn3 L (by omega)) r rs cs A B c d w (by simpa using hr) hc ur uc h1 h2 hm ha hb
end Go.Proofs.YtmimbioffnolaaaDoor

/- Contracts of package smith, second part: the iterator over choices of numbers. -/
namespace Go.Proofs.YtmimbioffnolaaaDoor
open Go.ChangeShapes Go.WideShapes Go.ChangeAt Go.RowKit Go.Shelf
set_option linter.unusedVariables false
attribute [local go_sem] Oper.semAt_some

set_option maxHeartbeats 800000 in
theorem choices_any (n many : Int) (w : World) :
    Calls Tryd.prog 24 #[.int .i64 n, .int .i64 many] w fun e w' =>
      e = .returned (.func (.func 35) #[] #[.pointer (some ⟨w.heap.size, 0, none⟩), .pointer (some ⟨w.heap.size + 1, 0, none⟩)]) ∧
        w' = (w.alloc (.cells #[.int .i64 n] 3)).alloc (.cells #[.int .i64 many] 3) := by
  go_enter Tryd.func24, Tryd.ntmps24
  go_wp2
  go_ret
  exact ⟨rfl, rfl⟩

/-- A choice: the numbers, and where they lie. -/
abbrev Chc := List Nat × Option Addr × Nat
def chEnc (x : Chc) : Array Value := #[.slice x.2.1 x.1.length x.2.2]
/-- What is known of a choice when it is handed on. -/
def ChW (b0 c many : Nat) (x : Chc) (W : World) : Prop := Lies W x.2.1 (nz x.1) ∧ x.1.length ≤ x.2.2 ∧ Zx.Und c x.1 ∧ x.1.length = many ∧ ∀ ad, x.2.1 = some ad → b0 ≤ ad.block
theorem bit_is : ∀ t : Nat, t < 8 → ∀ k : Nat, k < 3 → (bits BinOp.and IntKind.i64 ((t : Int) / 2 ^ k) 1 == 1) = decide (t / 2 ^ k % 2 = 1) := by decide +kernel
theorem own_snoc {w : World} {B : Nat} {v : Value} {l : List Int} {x : Int} (h : w.ownsRow B 3 1 v (l.length + 1) (ints l ++ [.int .i64 x])) : Own w B v (l ++ [x]) := by
  unfold Own
  rw [List.length_append, List.length_singleton, ints, List.map_append, List.map_singleton]
  exact h
set_option maxRecDepth 100000 in
set_option maxHeartbeats 3200000 in
theorem choices_in (n : Nat) (hn : 1 ≤ n) (B0 B1 c many : Nat) (hc : c ≤ 3) (hm : many ≤ 3) (hm1 : 1 ≤ many) (T : Nat → Prop) (t0 : ¬ T B0) (t1 : ¬ T B1) (w0 : World)
    (c0 : w0.cell? ⟨B0, 0, none⟩ = some (.int .i64 (c : Int))) (c1 : w0.cell? ⟨B1, 0, none⟩ = some (.int .i64 (many : Int))) :
    SeqLo Fence.wide n Tryd.prog 35 #[.pointer (some ⟨B0, 0, none⟩), .pointer (some ⟨B1, 0, none⟩)] chEnc (ChW w0.heap.size c many) T (fun ys => ys.map (·.1) = Zx.chn c many) (2 ^ c) w0 := by
  intro l J W hW hT hJ hY h0
  have b0 := cell_lt c0
  have b1 := cell_lt c1
  have x0 := (hW.cell (p := ⟨B0, 0, none⟩) b0).trans c0
  have x1 := (hW.cell (p := ⟨B1, 0, none⟩) b1).trans c1
  have hsz := hW.size
  have lt0 : B0 < W.heap.size := Nat.lt_of_lt_of_le b0 hsz
  have lt1 : B1 < W.heap.size := Nat.lt_of_lt_of_le b1 hsz
  clear c0 c1 hW b0 b1
  have S0 := Lib.hid hsz
  clear hsz
  refine callsIn_of_wp Tryd.func35 rfl trivial ?_ rfl
  simp only [Tryd.ntmps35, List.size_toArray, List.length_cons, List.length_nil, Nat.reduceAdd, Nat.reduceSub, Array.replicate_succ, Array.replicate_zero, List.push_toArray, List.append_toArray, List.nil_append, List.cons_append]
  obtain ⟨N, hN⟩ : ∃ N, N = 2 ^ c := ⟨_, rfl⟩
  have hs : wrap64 (2 ^ c) = (N : Int) := by
    rw [hN]
    rcases (by omega : c = 0 ∨ c = 1 ∨ c = 2 ∨ c = 3) with rfl | rfl | rfl | rfl <;> decide +kernel
  have hN8 : N ≤ 8 := by
    rw [hN]
    rcases (by omega : c = 0 ∨ c = 1 ∨ c = 2 ∨ c = 3) with rfl | rfl | rfl | rfl <;> decide
  have ALL := Lib.hid (show Zx.chs c many N = Zx.chn c many by rw [hN]; rfl)
  rw [← hN] at hY
  have HJ := Lib.hid hJ
  have HY := Lib.hid hY
  clear hN hJ hY
  obtain ⟨i0, hi, hz0, hz1, hz2⟩ := info_parts int_info
  gi_wp2
  rw [hs]
  clear hs
  gi_loopw [4, 5, 6, 9] (fun _ _ _ i wr => ∃ (t : Nat) (ys : List Chc), t ≤ N ∧ i = .int .i64 (t : Int) ∧ ys.map (·.1) = Zx.chs c many t ∧ J ys wr ∧ W.heap.size ≤ wr.heap.size ∧ wr.cell? ⟨B0, 0, none⟩ = some (.int .i64 (c : Int)) ∧ wr.cell? ⟨B1, 0, none⟩ = some (.int .i64 (many : Int))) (fun _ _ _ i _ => N - (intOf i).toNat)
  case atStart => exact ⟨0, [], Nat.zero_le _, rfl, rfl, h0, Nat.le_refl _, x0, x1⟩
  case round =>
    clear h0 x0 x1
    obtain ⟨t, ys, ht, rfl, hys, hJs, hsz, y0, y1⟩ := hrel
    by_cases hlt : t < N
    · have JS := Lib.hid hJs
      have YS := Lib.hid hys
      have SZ := Lib.hid hsz
      have Y0 := Lib.hid y0
      have Y1 := Lib.hid y1
      clear hJs hys hsz y1
      gi_wp2
      obtain ⟨wo, hwo⟩ : ∃ x, x = wr := ⟨_, rfl⟩
      subst hwo
      gi_loopw [5, 6, 13] (fun v _ j wq => ∃ k : Nat, k ≤ c ∧ j = .int .i64 (k : Int) ∧ Own wq wo.heap.size v (nz (Zx.bits t k)) ∧ Kp wo wq) (fun _ _ j _ => c - (intOf j).toNat)
      case atStart => exact ⟨0, Nat.zero_le _, rfl, Own.none _ _, Kp.rfl' _⟩
      case round =>
        clear y0
        obtain ⟨k, hk, rfl, hown, hkq⟩ := hrel
        have HO := Lib.hid hown
        have HK := Lib.hid hkq
        have hsq := hkq.size
        have hlen : (nz (Zx.bits t k)).length ≤ 3 := by rw [nz_len]; have := Zx.bits_len t k; omega
        clear hown hkq
        by_cases hkt : k < c
        · have hb := bit_is t (by omega) k (by omega)
          by_cases hbit : t / 2 ^ k % 2 = 1
          · rw [decide_eq_true hbit] at hb
            have NX := Lib.hid (show nz (Zx.bits t (k + 1)) = nz (Zx.bits t k) ++ [(k : Int)] by
              rw [show Zx.bits t (k + 1) = Zx.bits t k ++ [k] by show (if _ then _ else _) = _; rw [if_pos hbit]]
              unfold nz; rw [List.map_append, List.map_singleton])
            clear hbit
            generalize nz (Zx.bits t k) = row at *
            gi_wp2_with (gi_at_builtin; refine wpListIn_append_own _ rfl _ _ 24 rfl wo.heap.size 3 i0 (.int .i64 0) 1 8 Tryd.underlying24 hi hz0 hz1 hz2 rfl (by decide) _ _ _ rfl (HO.out.new _) ⟨wr.heap.size, 0, none⟩ 1 1 [.int .i64 (k : Int)] rfl rfl (cell_one_new _ _ _) (by simp [Value.oneCell']) (by unfold maxLen; omega) (by omega) (by simp; omega) ?_; intro v' w1 hown' hgrow _)
            have OW := Lib.hid (own_snoc hown')
            have KW := Lib.hid (show Kp wo w1 from own_below (HO.out.new _) (HK.out.new _) (Nat.le_trans hsq (by simp)) hgrow)
            clear hown' hgrow
            gi_wp2
            go_roundw
            case rel => exact ⟨k + 1, by omega, by go_num, by rw [NX.out]; exact OW.out, KW.out⟩
            case measure => simp [intOf]; omega
          · rw [decide_eq_false hbit] at hb
            have NX := Lib.hid (show Zx.bits t (k + 1) = Zx.bits t k by show (if _ then _ else _) = _; rw [if_neg hbit])
            clear hbit
            gi_wp2
            go_roundw
            case rel => exact ⟨k + 1, by omega, by go_num, by rw [NX.out]; exact HO.out, HK.out⟩
            case measure => simp [intOf]; omega
        · obtain rfl : k = c := by omega
          have y1 := (HK.out.cell (p := ⟨B1, 0, none⟩) (cell_lt Y1.out)).trans Y1.out
          have y0 := (HK.out.cell (p := ⟨B0, 0, none⟩) (cell_lt Y0.out)).trans Y0.out
          have LOW := Lib.hid (fun (h1 : 0 < (nz (Zx.bits t k)).length) => own_some HO.out h1)
          obtain ⟨A, cc, rfl, hl, hle⟩ := HO.out.cap
          rw [nz_len] at hle
          have e0 : (nz (Zx.bits t k)).length = (Zx.bits t k).length := nz_len _
          rw [e0]
          have Z1 := Lib.hid (Nat.le_trans SZ.out hsq)
          have JQ := Lib.hid (HJ.out _ _ _ JS.out (HK.out.mono SZ.out))
          by_cases hbl : (Zx.bits t k).length = many
          · have CH := Lib.hid (Zx.chs_hit hbl)
            obtain ⟨fn, tmps, assign, body, hy, hR⟩ := HY.out ys (Zx.bits t k, A, cc) wr JQ.out Z1.out ⟨hl, hle, Zx.bits_und t k, hbl, fun ad ha => by
              obtain ⟨g, gc, h1, h2, _⟩ := LOW.out (by omega)
              injection h1 with h1
              have h3 : some ad = some (⟨g, 0, none⟩ : Addr) := ha.symm.trans h1
              injection h3 with h3
              subst h3
              have h4 := S0.out
              have h5 := SZ.out
              show w0.heap.size ≤ g
              omega⟩ (by
              have h1 := congrArg List.length YS.out
              rw [List.length_map] at h1
              have h2 := Zx.chs_len k many t
              omega)
            unfold chEnc at hy
            have RR := Lib.hid hR
            have Y0' := Lib.hid y0
            have Y1' := Lib.hid y1
            dsimp only at hy
            have eb : (((Zx.bits t k).length : Int) == (many : Int)) = true := by rw [beq_iff_eq, hbl]
            generalize Zx.bits t k = bt at *
            clear hR hl hle e0 hbl LOW
            gi_wp2
            refine (RR.out).mono ?_
            rintro e W3 ⟨rfl, hJ3, hk3⟩
            have z0 := (hk3.cell (p := ⟨B0, 0, none⟩) (cell_lt Y0'.out) t0).trans Y0'.out
            have z1 := (hk3.cell (p := ⟨B1, 0, none⟩) (cell_lt Y1'.out) t1).trans Y1'.out
            have J3 := Lib.hid hJ3
            have S3 := Lib.hid (Nat.le_trans Z1.out hk3.size)
            clear hJ3 hk3 hy y0 y1
            gi_wp2
            go_roundw
            case rel => exact ⟨t + 1, ys ++ [(bt, A, cc)], by omega, by go_num, by rw [List.map_append, YS.out, CH.out]; rfl, J3.out, S3.out, z0, z1⟩
            case measure => simp [intOf]; omega
          · have CH := Lib.hid (Zx.chs_miss hbl)
            have eb : (((Zx.bits t k).length : Int) == (many : Int)) = false := by rw [beq_eq_false_iff_ne]; omega
            generalize Zx.bits t k = bt at *
            clear hl hle e0 hbl LOW
            gi_wp2
            refine ⟨fun _ h => (by cases h), ?_⟩
            gi_wp2
            go_roundw
            case rel => exact ⟨t + 1, ys, by omega, by go_num, by rw [CH.out]; exact YS.out, JQ.out, Z1.out, y0, y1⟩
            case measure => simp [intOf]; omega
    · obtain rfl : t = N := by omega
      gi_wp2
      go_end0
      exact ⟨⟨_, rfl⟩, ys, by rw [hys]; exact ALL.out, hJs⟩
end Go.Proofs.YtmimbioffnolaaaDoor

/- Contracts of package smith, third part: the iterator over determinants of some rows and columns. -/
namespace Go.Proofs.YtmimbioffnolaaaDoor
open Go.ChangeShapes Go.WideShapes Go.ChangeAt Go.RowKit Go.Shelf
set_option linter.unusedVariables false
attribute [local go_sem] Oper.semAt_some

set_option maxHeartbeats 800000 in
theorem minors_any (M : Option Addr) (n dm : Nat) (many : Int) (w : World) :
    Calls Tryd.prog 18 #[.slice M n dm, .int .i64 many] w fun e w' =>
      e = .returned (.func (.func 23) #[] #[.pointer (some ⟨w.heap.size, 0, none⟩), .pointer (some ⟨w.heap.size + 1, 0, none⟩)]) ∧
        w' = (w.alloc (.cells #[.slice M n dm] 22)).alloc (.cells #[.int .i64 many] 3) := by
  go_enter Tryd.func18, Tryd.ntmps18
  go_wp2
  go_ret
  exact ⟨rfl, rfl⟩

def miEnc (x : Int) : Array Value := #[.int .i64 x]
/-- What lies in the three variables of the iterator. -/
structure Mi3 (Y B0 B1 l n dm many : Nat) (M : Option Addr) (W : World) : Prop where
  y : W.cell? ⟨Y, 0, none⟩ = some (.func (.yield l) #[] #[])
  m : W.cell? ⟨B0, 0, none⟩ = some (.slice M n dm)
  s : W.cell? ⟨B1, 0, none⟩ = some (.int .i64 (many : Int))
theorem Mi3.below {Y B0 B1 l n dm many B : Nat} {M : Option Addr} {W W' : World} (h : Mi3 Y B0 B1 l n dm many M W) (k : Below B W W') (h0 : Y < B) (h1 : B0 < B) (h2 : B1 < B) : Mi3 Y B0 B1 l n dm many M W' :=
  ⟨(k.cell (p := ⟨Y, 0, none⟩) h0).trans h.y, (k.cell (p := ⟨B0, 0, none⟩) h1).trans h.m, (k.cell (p := ⟨B1, 0, none⟩) h2).trans h.s⟩
theorem Mi3.kept {Y B0 B1 l n dm many : Nat} {T : Nat → Prop} {M : Option Addr} {W W' : World} (h : Mi3 Y B0 B1 l n dm many M W) (k : Kept T W W') (h0 : ¬ T Y) (h1 : ¬ T B0) (h2 : ¬ T B1) : Mi3 Y B0 B1 l n dm many M W' :=
  ⟨(k.cell (p := ⟨Y, 0, none⟩) (cell_lt h.y) h0).trans h.y, (k.cell (p := ⟨B0, 0, none⟩) (cell_lt h.m) h1).trans h.m, (k.cell (p := ⟨B1, 0, none⟩) (cell_lt h.s) h2).trans h.s⟩

set_option maxRecDepth 100000 in
set_option maxHeartbeats 6400000 in
theorem minors_in (B0 B1 n dm many : Nat) (M : Option Addr) (f : Nat → Nat → Int) (hf : ∀ i j, i < n → j < n → (f i j).natAbs ≤ 20) (hn3 : n ≤ 3) (hm : many ≤ 3) (hm1 : 1 ≤ many) (T : Nat → Prop) (t0 : ¬ T B0) (t1 : ¬ T B1)
    (wm : World) (hM : LiesM wm M (Mx.tab n n f)) (hTm : ∀ k, T k → wm.heap.size ≤ k) (w0 : World) (km0 : Kp wm w0)
    (c0 : w0.cell? ⟨B0, 0, none⟩ = some (.slice M n dm)) (c1 : w0.cell? ⟨B1, 0, none⟩ = some (.int .i64 (many : Int))) :
    SeqLo Fence.wide 12 Tryd.prog 23 #[.pointer (some ⟨B0, 0, none⟩), .pointer (some ⟨B1, 0, none⟩)] miEnc (fun x _ => x.natAbs ≤ 216000) T (fun xs => xs = Zx.mns f (Zx.chn n many) (Zx.chn n many)) (2 ^ n * 2 ^ n) w0 := by
  intro l J W hW hT hJ hY h0
  have b0 := cell_lt c0
  have b1 := cell_lt c1
  have hsz := hW.size
  have x0 := (hW.cell (p := ⟨B0, 0, none⟩) b0).trans c0
  have x1 := (hW.cell (p := ⟨B1, 0, none⟩) b1).trans c1
  have kmW : Kp wm W := km0.trans hW
  have B0W : B0 < W.heap.size := by have : B0 < w0.heap.size := b0; omega
  have B1W : B1 < W.heap.size := by have : B1 < w0.heap.size := b1; omega
  clear c0 c1 hW b0 b1 hsz km0
  refine callsIn_of_wp_marks Tryd.func23 rfl trivial ?_ rfl
  simp only [Tryd.ntmps23, List.size_toArray, List.length_cons, List.length_nil, Nat.reduceAdd, Nat.reduceSub, Array.replicate_succ, Array.replicate_zero, List.push_toArray, List.append_toArray, List.nil_append, List.cons_append]
  gi_wp2
  refine ⟨trivial, ?_⟩
  refine (callsIn_wide.2 (choices_any _ _ _)).mono ?_; rintro e w1 ⟨rfl, hw1⟩
  have k1 : Kp W w1 := by rw [hw1]; exact (((Kp.rfl' W).new _).new _).new _
  have s1 : W.heap.size + 3 ≤ w1.heap.size := by rw [hw1]; simp
  have z0 : w1.cell? ⟨W.heap.size + 1, 0, none⟩ = some (.int .i64 (n : Int)) := by
    rw [hw1]; exact (((Kp.rfl' _).new _).cell (p := ⟨W.heap.size + 1, 0, none⟩) (by simp)).trans ((cell_made (W.alloc _) _ _ (W.heap.size + 1) 0 (by simp)).trans rfl)
  have z1 : w1.cell? ⟨W.heap.size + 1 + 1, 0, none⟩ = some (.int .i64 (many : Int)) := by
    rw [hw1]; exact (cell_made _ _ _ (W.heap.size + 1 + 1) 0 (by simp)).trans rfl
  have M1 : Mi3 W.heap.size B0 B1 l n dm many M w1 :=
    ⟨by rw [hw1]; exact ((((Kp.rfl' _).new _).new _).cell (p := ⟨W.heap.size, 0, none⟩) (by simp)).trans ((cell_made W _ _ W.heap.size 0 rfl).trans rfl), (k1.cell (p := ⟨B0, 0, none⟩) B0W).trans x0, (k1.cell (p := ⟨B1, 0, none⟩) B1W).trans x1⟩
  have e1 : (W.alloc (.cells #[.func (.yield l) #[] #[]] 50)).heap.size = W.heap.size + 1 := by simp
  rw [e1]
  clear hw1 x0 x1 e1
  have HT := Lib.hid hT
  have HJ := Lib.hid hJ
  have HY := Lib.hid hY
  have TY : ¬ T W.heap.size := fun h => by have := hT _ h; omega
  have wmW := kmW.size
  have q0 : ∀ k, W.heap.size ≤ k → k < w1.heap.size → ¬ (T k ∨ k = w1.heap.size + 1) := fun k h1 h2 h => by
    rcases h with h | h
    · have := hT k h; omega
    · omega
  have hI1 : ∀ (s : List Chc) (A B : World), (J (Zx.mns f (Zx.chn n many) (s.map (·.1))) A ∧ Mi3 W.heap.size B0 B1 l n dm many M A ∧ Kp wm A) → Below w1.heap.size A B → (J (Zx.mns f (Zx.chn n many) (s.map (·.1))) B ∧ Mi3 W.heap.size B0 B1 l n dm many M B ∧ Kp wm B) := fun s A B h k =>
    ⟨hJ _ _ _ h.1 (k.mono (by omega)), h.2.1.below k (by omega) (by omega) (by omega), Below.trans h.2.2 (k.mono (by omega))⟩
  gi_wp2
  refine wpIn_rangeLow (F := Fence.wide) (n := 12) rfl (by decide) (gf := 35) (lb := #[.pointer (some ⟨W.heap.size + 1, 0, none⟩), .pointer (some ⟨W.heap.size + 1 + 1, 0, none⟩)]) rfl trivial (enters_of Tryd.func35 (by kernel_rfl) rfl) (T0 := T)
    (fun k h => by have := hT k h; omega)
    (choices_in 11 (by decide) (W.heap.size + 1) (W.heap.size + 1 + 1) n many hn3 hm hm1 (fun k => T k ∨ k = w1.heap.size + 1) (q0 _ (by omega) (by omega)) (q0 _ (by omega) (by omega)) w1 z0 z1) (fun _ => rfl)
    (fun (pre : List Chc) Wc => J (Zx.mns f (Zx.chn n many) (pre.map (·.1))) Wc ∧ Mi3 W.heap.size B0 B1 l n dm many M Wc ∧ Kp wm Wc)
    hI1
    ⟨hJ _ _ _ h0 k1, M1, Below.trans kmW (k1.mono wmW)⟩
    (fun x a' Wc => ∃ Bx, w1.heap.size + 1 < Bx ∧ Bx < Wc.heap.size ∧ Wc.cell? ⟨Bx, 0, none⟩ = some (.slice x.2.1 x.1.length x.2.2) ∧ ChW w1.heap.size n many x Wc ∧
      a' = { tmps := #[.func (.yield l) #[] #[], .pointer (some ⟨B0, 0, none⟩), .pointer (some ⟨B1, 0, none⟩), .pointer (some ⟨W.heap.size, 0, none⟩), .pointer (some ⟨Bx, 0, none⟩), undef, .slice M n dm, .int .i64 (n : Int), .int .i64 (many : Int),
        .func (.func 35) #[] #[.pointer (some ⟨W.heap.size + 1, 0, none⟩), .pointer (some ⟨W.heap.size + 1 + 1, 0, none⟩)], .slice x.2.1 x.1.length x.2.2, undef, undef, undef, undef, undef, undef, undef, undef, undef, undef, undef, undef], defers := [] })
    (fun x a' A r o hr ⟨Bx, h1, h2, h3, h4, h5⟩ => ⟨Bx, h1, by simpa using h2, cell_kept h3 (grownBy_putObj' A _ o) (fun r' e' => by cases e'; exact ⟨_, hr, rfl⟩), ⟨h4.1.putLoop hr o, h4.2⟩, h5⟩)
    ?assign ?body ?done
  case assign =>
    rintro pre x Wc K hlt ⟨hi, h3, hk⟩ hx hK
    unfold chEnc
    gi_wp2
    refine hK _ _ ((Kp.rfl' Wc).new _) ⟨Wc.heap.size, hlt, by simp, (cell_made Wc _ _ Wc.heap.size 0 rfl).trans rfl, ⟨hx.1.keep ((Kp.rfl' Wc).new _), hx.2⟩, rfl⟩
  case done =>
    rintro xs Wc hlt hS ⟨hi, h3, hk⟩ hD
    rw [hS] at hi
    gi_wp2
    refine ⟨by simp, .inl ⟨_, _, rfl, run_takeDeferred hD, ?_⟩⟩
    exact ⟨_, results_none rfl _ _ _, ⟨_, rfl⟩, _, rfl, hJ _ _ _ hi (below_putObj Wc _ _ (by omega))⟩
  case body =>
    rintro pre x a' Wc hlt ⟨r, hr⟩ ⟨hi, h3, hk⟩ ⟨Bx, g1, g2, g3, g4, rfl⟩ hlen
    have y0 := h3.m
    have y1 := h3.s
    gi_wp2
    refine ⟨trivial, ?_⟩
    refine (CallsIn.inRound _ (callsIn_wide.2 (choices_any _ _ _))).mono ?_; rintro e w2 ⟨rfl, hw2⟩
    have k2 : Kp Wc w2 := by rw [hw2]; exact ((Kp.rfl' Wc).new _).new _
    have s2 : Wc.heap.size + 2 ≤ w2.heap.size := by rw [hw2]; simp
    have v0 : w2.cell? ⟨Wc.heap.size, 0, none⟩ = some (.int .i64 (n : Int)) := by
      rw [hw2]; exact (((Kp.rfl' _).new _).cell (p := ⟨Wc.heap.size, 0, none⟩) (by simp)).trans ((cell_made Wc _ _ Wc.heap.size 0 rfl).trans rfl)
    have v1 : w2.cell? ⟨Wc.heap.size + 1, 0, none⟩ = some (.int .i64 (many : Int)) := by
      rw [hw2]; exact (cell_made _ _ _ (Wc.heap.size + 1) 0 (by simp)).trans rfl
    clear hw2 y0 y1
    gi_wp2
    have TB : ¬ T Bx := fun h => by have := hT _ h; omega
    have TX : ∀ ad, x.2.1 = some ad → ¬ T ad.block := fun ad e h => by have := hT _ h; have := g4.2.2.2.2 ad e; omega
    have szW : W.heap.size ≤ Wc.heap.size := by omega
    have wmc := hk.size
    have q2 : ∀ k, Wc.heap.size ≤ k → k < w2.heap.size → ¬ (T k ∨ k = w2.heap.size) := fun k h1 h2 h => by
      rcases h with h | h
      · have := hT k h; omega
      · omega
    have hI2 : ∀ (s : List Chc) (A B : World), (J (Zx.mns f (Zx.chn n many) (pre.map (·.1)) ++ (s.map (·.1)).map (Zx.mnr f x.1)) A ∧ Mi3 W.heap.size B0 B1 l n dm many M A ∧ Kp wm A ∧ A.cell? ⟨Bx, 0, none⟩ = some (.slice x.2.1 x.1.length x.2.2) ∧ LiesIn A w2.heap.size x.2.1 (nz x.1) ∧ Kept T Wc A) → Below w2.heap.size A B →
        (J (Zx.mns f (Zx.chn n many) (pre.map (·.1)) ++ (s.map (·.1)).map (Zx.mnr f x.1)) B ∧ Mi3 W.heap.size B0 B1 l n dm many M B ∧ Kp wm B ∧ B.cell? ⟨Bx, 0, none⟩ = some (.slice x.2.1 x.1.length x.2.2) ∧ LiesIn B w2.heap.size x.2.1 (nz x.1) ∧ Kept T Wc B) := fun s A B h k =>
      ⟨hJ _ _ _ h.1 (k.mono (by omega)), h.2.1.below k (by omega) (by omega) (by omega), Below.trans h.2.2.1 (k.mono (by omega)), (k.cell (p := ⟨Bx, 0, none⟩) (by show Bx < _; omega)).trans h.2.2.2.1, h.2.2.2.2.1.below k, h.2.2.2.2.2.next k (by omega)⟩
    refine wpIn_rangeLowN (F := Fence.wide.inRound (w1.heap.size + 1)) (n := 10) (l₀ := w1.heap.size + 1) (r₀ := r) rfl ((k2.block _ hlt).trans hr) (by decide) (gf := 35) (lb := #[.pointer (some ⟨Wc.heap.size, 0, none⟩), .pointer (some ⟨Wc.heap.size + 1, 0, none⟩)]) rfl trivial (enters_of Tryd.func35 (by kernel_rfl) rfl) (T0 := T)
      (fun k h => by have := hT k h; omega)
      ((choices_in 9 (by decide) Wc.heap.size (Wc.heap.size + 1) n many hn3 hm hm1 (fun k => T k ∨ k = w2.heap.size) (q2 _ (by omega) (by omega)) (q2 _ (by omega) (by omega)) w2 v0 v1).inRound _) (fun _ => rfl)
      (fun (s : List Chc) A => J (Zx.mns f (Zx.chn n many) (pre.map (·.1)) ++ (s.map (·.1)).map (Zx.mnr f x.1)) A ∧ Mi3 W.heap.size B0 B1 l n dm many M A ∧ Kp wm A ∧ A.cell? ⟨Bx, 0, none⟩ = some (.slice x.2.1 x.1.length x.2.2) ∧ LiesIn A w2.heap.size x.2.1 (nz x.1) ∧ Kept T Wc A)
      hI2
      ⟨by rw [List.map_nil, List.map_nil, List.append_nil]; exact hJ _ _ _ hi (k2.mono szW), h3.below k2 (by omega) (by omega) (by omega), hk.trans k2, (k2.cell (p := ⟨Bx, 0, none⟩) g2).trans g3, (g4.1.keep k2).in, Kept.of k2⟩
      (fun y a' A => ChW w2.heap.size n many y A ∧
        a' = { tmps := #[.func (.yield l) #[] #[], .pointer (some ⟨B0, 0, none⟩), .pointer (some ⟨B1, 0, none⟩), .pointer (some ⟨W.heap.size, 0, none⟩), .pointer (some ⟨Bx, 0, none⟩), .slice y.2.1 y.1.length y.2.2, .slice M n dm, .int .i64 (n : Int), .int .i64 (many : Int),
          .func (.func 35) #[] #[.pointer (some ⟨W.heap.size + 1, 0, none⟩), .pointer (some ⟨W.heap.size + 1 + 1, 0, none⟩)], .slice x.2.1 x.1.length x.2.2, .slice M n dm, .int .i64 (n : Int), .int .i64 (many : Int),
          .func (.func 35) #[] #[.pointer (some ⟨Wc.heap.size, 0, none⟩), .pointer (some ⟨Wc.heap.size + 1, 0, none⟩)], .slice y.2.1 y.1.length y.2.2, undef, undef, undef, undef, undef, undef, undef], defers := [] })
      (fun y a' A r o hr ⟨h4, h5⟩ => ⟨⟨h4.1.putLoop hr o, h4.2⟩, h5⟩)
      ?assign2 ?body2 ?done2
    case assign2 =>
      rintro pre' y A K hlt2 hs hy hK
      unfold chEnc
      gi_wp2
      exact hK _ _ (Kp.rfl' _) ⟨hy, rfl⟩
    case done2 =>
      rintro ys A hlt2 hS ⟨hj, h3', hk', _, _, hkept⟩
      gi_wp2
      refine ⟨hkept, ?_, h3', hk'⟩
      rw [hS] at hj
      rw [List.map_append, List.map_singleton, Zx.mns_snoc]
      exact hj
    case body2 =>
      rintro pre' y a' A hlt2 ⟨r2, hr2⟩ ⟨hj, h3', hk', hbx, hlx, hkept⟩ ⟨hy, rfl⟩ hlen2
      have MN := Lib.hid (fun (A' : World) (k : Kp A A') => (show Calls Tryd.prog 25 #[.slice M n dm, .slice x.2.1 x.1.length x.2.2, .slice y.2.1 y.1.length y.2.2] A' fun e w' => e = .returned (.int .i64 (Zx.mnr f x.1 y.1)) ∧ Kp A' w' from by
        have kx := g4.2.2.2.1
        have ky := hy.2.2.2.1
        have h := minor_any hf M dm hn3 many hm x.1 y.1 x.2.1 y.2.1 x.2.2 y.2.2 A' kx ky g4.2.2.1 hy.2.2.1 (by have := g4.2.1; omega) (by have := hy.2.1; omega) (hM.keep (hk'.trans k)) ((hlx.lies (by omega)).keep k) (hy.1.keep k)
        rw [kx, ky]
        exact h))
      have CB := Lib.hid (fun (A' : World) (k : Kp A A') => (show (A'.cell? ⟨W.heap.size, 0, none⟩ = some (.func (.yield l) #[] #[]) ∧ A'.cell? ⟨B0, 0, none⟩ = some (.slice M n dm)) ∧ A'.cell? ⟨Bx, 0, none⟩ = some (.slice x.2.1 x.1.length x.2.2) from
        ⟨⟨(k.cell (p := ⟨W.heap.size, 0, none⟩) (cell_lt h3'.y)).trans h3'.y, (k.cell (p := ⟨B0, 0, none⟩) (cell_lt h3'.m)).trans h3'.m⟩, (k.cell (p := ⟨Bx, 0, none⟩) (cell_lt hbx)).trans hbx⟩))
      have XB : (Zx.mnr f x.1 y.1).natAbs ≤ 216000 := Nat.le_trans (Zx.mnr_bound hf x.1 y.1 g4.2.2.1 hy.2.2.1 (by have := hy.2.2.2.1; omega)) (by rw [g4.2.2.2.1]; exact Nat.le_trans (Nat.pow_le_pow_right (by decide) hm) (by decide))
      have YB : (Zx.mns f (Zx.chn n many) (pre.map (·.1)) ++ (pre'.map (·.1)).map (Zx.mnr f x.1)).length < 2 ^ n * 2 ^ n := by
        rw [List.length_append, Zx.mns_len, List.length_map, List.length_map, List.length_map]
        have h1 : (Zx.chn n many).length ≤ 2 ^ n := Zx.chs_len n many (2 ^ n)
        have h2 : pre.length * (Zx.chn n many).length ≤ pre.length * 2 ^ n := Nat.mul_le_mul_left _ h1
        have h4 : (pre.length + 1) * 2 ^ n ≤ 2 ^ n * 2 ^ n := Nat.mul_le_mul_right _ (by omega)
        rw [Nat.add_mul, Nat.one_mul] at h4
        omega
      have YL := Lib.hid (fun (A' : World) (k : Kp A A') => yieldAt_any 8 (HY.out (Zx.mns f (Zx.chn n many) (pre.map (·.1)) ++ (pre'.map (·.1)).map (Zx.mnr f x.1)) (Zx.mnr f x.1 y.1) A' (hJ _ _ _ hj (k.mono (by omega))) (by have := k.size; omega) XB YB))
      have FIN := Lib.hid (fun (A3 A4 : World) (k3 : Kp A A3) (j4 : J (Zx.mns f (Zx.chn n many) (pre.map (·.1)) ++ (pre'.map (·.1)).map (Zx.mnr f x.1) ++ [Zx.mnr f x.1 y.1]) A4) (k4 : Kept T A3 A4) =>
        (show Kept T A A4 ∧ (J (Zx.mns f (Zx.chn n many) (pre.map (·.1)) ++ ((pre' ++ [y]).map (·.1)).map (Zx.mnr f x.1)) A4 ∧ Mi3 W.heap.size B0 B1 l n dm many M A4 ∧ Kp wm A4 ∧ A4.cell? ⟨Bx, 0, none⟩ = some (.slice x.2.1 x.1.length x.2.2) ∧ LiesIn A4 w2.heap.size x.2.1 (nz x.1) ∧ Kept T Wc A4) from by
          have ka : Kept T A A4 := (Kept.of k3).trans k4
          refine ⟨ka, ?_, h3'.kept ka TY t0 t1, Below.trans hk' (ka.below (fun k hk ht => by have := hTm k ht; omega) hk'.size), (ka.cell (p := ⟨Bx, 0, none⟩) (cell_lt hbx) TB).trans hbx, hlx.kept ka (by omega) TX, hkept.trans ka⟩
          rw [List.map_append, List.map_append, List.map_singleton, List.map_singleton, ← List.append_assoc]
          exact j4))
      have cA := CB.out A.drew ((Kp.rfl' A).drewN 1)
      obtain ⟨⟨ca1, ca2⟩, ca3⟩ := cA
      have hmix : Tryd.prog.follows .mixedOrders = true := by kernel_rfl
      clear XB YB hy hlen2 hj h3' hk' hbx hlx hkept hr2 hlt2 hI2 q2 wmc szW TX TB v0 v1 s2 k2 g3 g4 g1 g2 hi h3 hk hr hlt hlen hI1 q0 wmW TY M1 z0 z1 k1 s1 kmW h0 hY hJ hT hTm hM hf t0 t1 hn3 hm hm1 B0W B1W HY HJ HT
      gi_wp2
      gi_region_with_o (first
        | (refine ⟨trivial, ?_⟩; refine (callsIn_deep (MN.out _ ((Kp.rfl' A).drewN 1))).mono ?_; rintro e A3 ⟨rfl, k3⟩; have K3 := Lib.hid (((Kp.rfl' A).drewN 1).trans k3); have cA3 := CB.out A3 K3.out; obtain ⟨⟨cb1, cb2⟩, cb3⟩ := cA3; obtain ⟨fn, tmps, assign, body, hyy, hR⟩ := YL.out A3 K3.out; unfold miEnc at hyy; have RR := Lib.hid hR; clear hR k3)
        | (refine (roundIn_deep RR.out).mono ?_; rintro e A4 ⟨rfl, j4, k4⟩; have F4 := Lib.hid (FIN.out A3 A4 K3.out j4 k4); clear j4 k4))
      all_goals
        gi_wp2
        exact F4.out
end Go.Proofs.YtmimbioffnolaaaDoor

/- Square matrices: what is wrong with one. No program is named here. -/
namespace Go.Proofs.YtmimbioffnolaaaDoor
set_option linter.unusedVariables false

/-- What is wrong with a matrix that should be square. -/
def qcode (most : Nat) (lo hi : Int) (m : List (List Int)) : Nat := if Mx.mcode most lo hi m = 0 ∧ m.length ≠ (m.getD 0 []).length then 3 else Mx.mcode most lo hi m
theorem qcode_le (most : Nat) (lo hi : Int) (m : List (List Int)) : qcode most lo hi m ≤ 5 := by
  unfold qcode
  split
  · omega
  · exact Mx.mcode_le _ _ _ _
theorem qcode_bad {most : Nat} {lo hi : Int} {m : List (List Int)} (h : Mx.mcode most lo hi m ≠ 0) : qcode most lo hi m = Mx.mcode most lo hi m := by
  unfold qcode; rw [if_neg (fun h' => h h'.1)]
theorem qcode_zero {most : Nat} {m : List (List Int)} (h : qcode most 0 9972 m = 0) : Mx.mcode most 0 9972 m = 0 ∧ m.length = (m.getD 0 []).length := by
  unfold qcode at h
  by_cases h0 : Mx.mcode most 0 9972 m = 0 ∧ m.length ≠ (m.getD 0 []).length
  · rw [if_pos h0] at h; cases h
  · rw [if_neg h0] at h
    exact ⟨h, Classical.byContradiction fun e => h0 ⟨h, e⟩⟩
theorem qcode_matl {most n : Nat} (f : Nat → Nat → Fp.F) (h0 : 0 < n) (h1 : n ≤ most) : qcode most 0 9972 (Mx.matl n n f) = 0 := by
  unfold qcode
  rw [if_neg fun h => h.2 (by rw [Mx.len_matl]; exact (Mx.tab_len n n _ 0 h0).symm)]
  exact Mx.mcode_matl f h0 h1 h0 h1

end Go.Proofs.YtmimbioffnolaaaDoor

/- Determinants of whole numbers: what is left by the prime, how great they may be, elimination without division, a middle that outweighs its row (Levy, Desplanques), Hadamard. No program is named here. -/
namespace Go.Proofs.YtmimbioffnolaaaDoor.Zx
open Mx (sk sk_lt sk_zero)
set_option linter.unusedVariables false

theorem sg_ofInt (n : Nat) (f : Nat → Int) : Fp.ofInt (sg n f) = Mx.sg n fun i => Fp.ofInt (f i) := by
  induction n with
  | zero => rfl
  | succ n ih => rw [sg_succ, Fp.ofInt_add, ih]; rfl
theorem sgn_ofInt (j : Nat) : Fp.ofInt (sgn j) = Mx.sgn j := by
  unfold sgn Mx.sgn
  split <;> decide
/-- What the prime leaves of a determinant is that of what it leaves. -/
theorem dt_ofInt : ∀ (n : Nat) (f : Nat → Nat → Int), Fp.ofInt (dt n f) = Mx.dt n fun i j => Fp.ofInt (f i j)
  | 0, _ => rfl
  | n + 1, f => by
    rw [dt_succ, sg_ofInt, Mx.dt_succ]
    exact Mx.sg_congr fun j _ => by rw [Fp.ofInt_mul, Fp.ofInt_mul, sgn_ofInt, dt_ofInt n]; rfl

/-- Sizes. -/
def ab (x : Int) : Int := (x.natAbs : Int)
theorem ab_pos (x : Int) : 0 ≤ ab x := by unfold ab; omega
theorem ab_mul (x y : Int) : ab (x * y) = ab x * ab y := by unfold ab; rw [Int.natAbs_mul]; simp
theorem ab_sub (x y : Int) : ab (x - y) ≤ ab x + ab y := by unfold ab; omega
theorem ab_sub' (x y : Int) : ab x - ab y ≤ ab (x - y) := by unfold ab; omega
theorem ab_zero {x : Int} (h : ab x = 0) : x = 0 := by unfold ab at h; omega
theorem sg_le {n : Nat} {f g : Nat → Int} (h : ∀ i, i < n → f i ≤ g i) : sg n f ≤ sg n g := by
  induction n with
  | zero => exact Int.le_refl _
  | succ n ih => rw [sg_succ, sg_succ]; have := ih fun i hi => h i (by omega); have := h n (by omega); omega
theorem sg_nonneg {n : Nat} {f : Nat → Int} (h : ∀ i, i < n → 0 ≤ f i) : 0 ≤ sg n f := by
  induction n with
  | zero => exact Int.le_refl _
  | succ n ih => rw [sg_succ]; have := ih fun i hi => h i (by omega); have := h n (by omega); omega
theorem sg_shift (n : Nat) (f : Nat → Int) : sg (n + 1) f = f 0 + sg n fun i => f (i + 1) := by
  induction n with
  | zero => show 0 + f 0 = f 0 + 0; omega
  | succ n ih => rw [sg_succ, ih, sg_succ]; omega
/-- One term more. -/
theorem sg_extra {n k : Nat} (hk : k < n) (f : Nat → Int) (x : Int) : (sg n fun i => f i + if i = k then x else 0) = sg n f + x := by
  rw [sg_add, sg_one (k := k) hk fun i _ h => if_neg h, if_pos rfl]
def fb (M : Int) : Nat → Int
  | 0 => 1
  | n + 1 => (n + 1 : Nat) * (M * fb M n)
theorem fb_pos {M : Int} (h : 0 ≤ M) : ∀ n, 0 ≤ fb M n
  | 0 => by show (0 : Int) ≤ 1; omega
  | n + 1 => Int.mul_nonneg (by omega) (Int.mul_nonneg h (fb_pos h n))
theorem sg_ab {n : Nat} {f : Nat → Int} {B : Int} (h : ∀ i, i < n → ab (f i) ≤ B) : ab (sg n f) ≤ (n : Int) * B := by
  induction n with
  | zero => show ab 0 ≤ _; rw [show ((0 : Nat) : Int) * B = 0 by simp]; decide
  | succ n ih =>
    have h1 := ih fun i hi => h i (by omega)
    have h2 := h n (by omega)
    have h3 : ((n + 1 : Nat) : Int) * B = n * B + B := by rw [Int.natCast_add, Int.add_mul]; simp
    rw [sg_succ, h3]
    unfold ab at *
    omega
theorem sgn_ab (j : Nat) : ab (sgn j) = 1 := by unfold sgn; split <;> decide
/-- How great a determinant may be. -/
theorem dt_ab {M : Int} (hM : 0 ≤ M) : ∀ (n : Nat) (f : Nat → Nat → Int), (∀ i j, i < n → j < n → ab (f i j) ≤ M) → ab (dt n f) ≤ fb M n
  | 0, _, _ => by show ab 1 ≤ 1; decide
  | n + 1, f, h => by
    rw [dt_succ]
    refine sg_ab fun j hj => ?_
    have h1 := dt_ab hM n (del j f) fun a b ha hb => h (a + 1) (sk j b) (by omega) (sk_lt hb)
    rw [ab_mul, ab_mul, sgn_ab, Int.one_mul]
    exact Int.mul_le_mul (h 0 j (by omega) hj) h1 (ab_pos _) hM

/-- The first row, or the first column, has noughts behind its first number. -/
theorem dt_first (n : Nat) (f : Nat → Nat → Int) (h : ∀ j, 0 < j → j < n + 1 → f 0 j = 0) : dt (n + 1) f = f 0 0 * dt n fun i j => f (i + 1) (j + 1) := by
  rw [dt_succ, sg_one (Nat.succ_pos n) fun i hi hne => by rw [h i (by omega) hi]; grind]
  have e : del 0 f = fun i j => f (i + 1) (j + 1) := funext fun a => funext fun b => by show f (a + 1) (sk 0 b) = _; rw [sk_zero]
  rw [e]
  show (if 0 % 2 = 0 then (1 : Int) else -1) * f 0 0 * _ = _
  rw [if_pos rfl, Int.one_mul]
theorem dt_firstc (n : Nat) (f : Nat → Nat → Int) (h : ∀ i, 0 < i → i < n + 1 → f i 0 = 0) : dt (n + 1) f = f 0 0 * dt n fun i j => f (i + 1) (j + 1) := by
  rw [← dt_flip (n + 1) f, dt_first n (flip f) h, ← dt_flip n fun i j => f (i + 1) (j + 1)]
  rfl
/-- What is left when the first column is taken away, without division. -/
def schur (f : Nat → Nat → Int) : Nat → Nat → Int := fun i j => f 0 0 * f (i + 1) (j + 1) - f (i + 1) 0 * f 0 (j + 1)
def lowm (f : Nat → Nat → Int) : Nat → Nat → Int := fun i j => if i = 0 then (if j = 0 then 1 else 0) else if j = 0 then -(f i 0) else if i = j then f 0 0 else 0
theorem lowm_mul (n : Nat) (f : Nat → Nat → Int) {i : Nat} (hi : i < n) (j : Nat) : mul (n + 1) (lowm f) f (i + 1) j = f 0 0 * f (i + 1) j - f (i + 1) 0 * f 0 j := by
  show (sg (n + 1) fun x => (if i + 1 = 0 then (if x = 0 then (1 : Int) else 0) else if x = 0 then -(f (i + 1) 0) else if i + 1 = x then f 0 0 else 0) * f x j) = _
  rw [sg_two (k := 0) (l := i + 1) (by omega) (by omega) (by omega) fun x hx h1 h2 => by
    rw [if_neg (by omega), if_neg h1, if_neg (fun e => h2 e.symm)]; grind]
  rw [if_neg (by omega), if_pos rfl, if_neg (by omega), if_pos rfl]
  grind
theorem lowm_top (n : Nat) (f : Nat → Nat → Int) (j : Nat) : mul (n + 1) (lowm f) f 0 j = f 0 j := by
  show (sg (n + 1) fun x => (if 0 = 0 then (if x = 0 then (1 : Int) else 0) else if x = 0 then -(f 0 0) else if 0 = x then f 0 0 else 0) * f x j) = _
  rw [sg_one (k := 0) (by omega) fun x hx h1 => by rw [if_pos rfl, if_neg h1]; grind]
  rw [if_pos rfl, if_pos rfl]; grind
theorem elim (n : Nat) (f : Nat → Nat → Int) : f 0 0 ^ n * dt (n + 1) f = f 0 0 * dt n (schur f) := by
  have h1 : dt (n + 1) (lowm f) = f 0 0 ^ n := by
    rw [dt_first n (lowm f) fun j h _ => by show (if 0 = 0 then (if j = 0 then (1 : Int) else 0) else _) = 0; rw [if_pos rfl, if_neg (by omega)]]
    have e : (fun i j => lowm f (i + 1) (j + 1)) = scal (f 0 0) := funext fun i => funext fun j => by
      show (if i + 1 = 0 then (if j + 1 = 0 then (1 : Int) else 0) else if j + 1 = 0 then -(f (i + 1) 0) else if i + 1 = j + 1 then f 0 0 else 0) = if i = j then f 0 0 else 0
      rw [if_neg (by omega), if_neg (by omega)]
      by_cases h : i = j
      · rw [if_pos h, if_pos (by omega)]
      · rw [if_neg h, if_neg (by omega)]
    rw [e, dt_scal]
    show (if 0 = 0 then (if 0 = 0 then (1 : Int) else 0) else _) * _ = _
    rw [if_pos rfl, if_pos rfl, Int.one_mul]
  rw [← h1, ← dt_mul, dt_firstc n (mul (n + 1) (lowm f) f) fun i h hi => by
    obtain ⟨k, rfl⟩ : ∃ k, i = k + 1 := ⟨i - 1, by omega⟩
    rw [lowm_mul n f (by omega)]; grind]
  rw [lowm_top]
  congr 1
  exact dt_congr n fun i j hi hj => by rw [lowm_mul n f hi]; rfl

/-- In each row the number in the middle is more than all others together. -/
def Heavy (n : Nat) (f : Nat → Nat → Int) : Prop := ∀ i, i < n → (sg n fun j => ab (f i j)) < 2 * ab (f i i)
theorem Heavy.next {n : Nat} {f : Nat → Nat → Int} (h : Heavy (n + 1) f) : f 0 0 ≠ 0 ∧ Heavy n (schur f) := by
  have h0 := h 0 (by omega)
  rw [sg_shift] at h0
  have hR : 0 ≤ sg n fun j => ab (f 0 (j + 1)) := sg_nonneg fun j _ => ab_pos _
  have ha := ab_pos (f 0 0)
  refine ⟨fun e => ?_, fun i hi => ?_⟩
  · rw [e] at h0
    have : ab 0 = 0 := rfl
    omega
  · have h1 := h (i + 1) (by omega)
    rw [sg_shift] at h1
    have hc := ab_pos (f (i + 1) 0)
    have hB := ab_sub' (f 0 0 * f (i + 1) (i + 1)) (f (i + 1) 0 * f 0 (i + 1))
    rw [ab_mul, ab_mul] at hB
    have hS : (sg n fun j => ab (schur f i j)) ≤ sg n fun j => (ab (f 0 0) * ab (f (i + 1) (j + 1)) + ab (f (i + 1) 0) * ab (f 0 (j + 1))) + if j = i then ab (schur f i i) - (ab (f 0 0) * ab (f (i + 1) (i + 1)) + ab (f (i + 1) 0) * ab (f 0 (i + 1))) else 0 := sg_le fun j hj => by
      by_cases e : j = i
      · rw [if_pos e, e]; omega
      · rw [if_neg e]
        have := ab_sub (f 0 0 * f (i + 1) (j + 1)) (f (i + 1) 0 * f 0 (j + 1))
        rw [ab_mul, ab_mul] at this
        show ab (f 0 0 * f (i + 1) (j + 1) - f (i + 1) 0 * f 0 (j + 1)) ≤ _
        omega
    rw [sg_extra hi, sg_add, sg_times, sg_times] at hS
    have hB' : ab (f 0 0) * ab (f (i + 1) (i + 1)) - ab (f (i + 1) 0) * ab (f 0 (i + 1)) ≤ ab (schur f i i) := hB
    generalize ab (schur f i i) = y at *
    generalize (sg n fun j => ab (schur f i j)) = z at *
    generalize (sg n fun j => ab (f (i + 1) (j + 1))) = S at *
    generalize (sg n fun j => ab (f 0 (j + 1))) = R at *
    generalize ab (f (i + 1) (i + 1)) = d at *
    generalize ab (f 0 (i + 1)) = r at *
    generalize ab (f (i + 1) 0) = c at *
    generalize ab (f 0 0) = α at *
    have e1 : α * (S + c + 1) ≤ α * (2 * d) := Int.mul_le_mul_of_nonneg_left (by omega) ha
    have e2 : c * R ≤ c * α := Int.mul_le_mul_of_nonneg_left (by omega) hc
    have e3 : α * (S + c + 1) = α * S + c * α + α := by grind
    have e4 : α * (2 * d) = 2 * (α * d) := by grind
    rw [e3, e4] at e1
    omega
/-- Levy, Desplanques. -/
theorem heavy : ∀ (n : Nat) (f : Nat → Nat → Int), Heavy n f → dt n f ≠ 0
  | 0, _, _ => by show (1 : Int) ≠ 0; omega
  | n + 1, f, h => by
    obtain ⟨h1, h2⟩ := h.next
    intro e
    have := elim n f
    rw [e, Int.mul_zero] at this
    rcases Int.mul_eq_zero.1 this.symm with h3 | h3
    · exact h1 h3
    · exact heavy n _ h2 h3

/-- Sums of squares and products of rows. -/
def gm (m : Nat) (v : Nat → Nat → Int) : Nat → Nat → Int := fun i j => sg m fun x => v i x * v j x
theorem sq_pos (x : Int) : 0 ≤ x * x := by
  rcases Int.le_total 0 x with h | h
  · exact Int.mul_nonneg h h
  · have := Int.mul_nonneg (show 0 ≤ -x by omega) (show 0 ≤ -x by omega)
    rwa [Int.neg_mul_neg] at this
theorem gm_pos (m : Nat) (v : Nat → Nat → Int) (i : Nat) : 0 ≤ gm m v i i := sg_nonneg fun x _ => sq_pos _
theorem gm_comm (m : Nat) (v : Nat → Nat → Int) (i j : Nat) : gm m v i j = gm m v j i := sg_congr fun x _ => Int.mul_comm _ _
theorem sq_none {n : Nat} {f : Nat → Int} (h : (sg n fun x => f x * f x) = 0) : ∀ x, x < n → f x = 0 := by
  induction n with
  | zero => exact fun x hx => absurd hx (by omega)
  | succ n ih =>
    rw [sg_succ] at h
    have h1 : 0 ≤ sg n fun x => f x * f x := sg_nonneg fun x _ => sq_pos _
    have h2 := sq_pos (f n)
    intro x hx
    by_cases e : x = n
    · subst e
      rcases Int.mul_eq_zero.1 (show f x * f x = 0 by omega) with h | h <;> exact h
    · exact ih (by omega) x (by omega)
theorem pr_shift (n : Nat) (g : Nat → Int) : pr (n + 1) g = g 0 * pr n fun i => g (i + 1) := by
  induction n with
  | zero => show _ = _; simp only [pr]; grind
  | succ n ih => rw [pr, ih, pr]; grind
theorem pr_times (n : Nat) (a : Int) (g : Nat → Int) : (pr n fun i => a * g i) = a ^ n * pr n g := by
  induction n with
  | zero => simp only [pr, Int.pow_zero]; grind
  | succ n ih => rw [pr, ih, pr, Int.pow_succ]; grind
theorem pr_pos {n : Nat} {g : Nat → Int} (h : ∀ i, i < n → 0 ≤ g i) : 0 ≤ pr n g := by
  induction n with
  | zero => show (0 : Int) ≤ 1; omega
  | succ n ih => rw [pr]; exact Int.mul_nonneg (by first | exact ih (fun i hi => h i (by omega)) | exact h n (by omega)) (by first | exact h n (by omega) | exact ih (fun i hi => h i (by omega)))
theorem pr_le {n : Nat} {g k : Nat → Int} (h0 : ∀ i, i < n → 0 ≤ g i) (h : ∀ i, i < n → g i ≤ k i) : pr n g ≤ pr n k := by
  induction n with
  | zero => exact Int.le_refl _
  | succ n ih =>
    have h1 := ih (fun i hi => h0 i (by omega)) (fun i hi => h i (by omega))
    have h2 := pr_pos (n := n) fun i hi => h0 i (by omega)
    have h3 := h0 n (by omega)
    have h4 := h n (by omega)
    rw [pr, pr]
    first
      | exact Int.mul_le_mul h1 h4 h3 (by omega)
      | exact Int.mul_le_mul h4 h1 h2 (by omega)
theorem dt_times_all (n : Nat) (a : Int) (f : Nat → Nat → Int) : (dt n fun i j => a * f i j) = a ^ n * dt n f := by
  rw [← dt_scal, ← dt_mul]
  exact dt_congr n fun i j hi _ => by
    show a * f i j = sg n fun x => (if i = x then a else 0) * f x j
    rw [sg_one hi fun x _ h => by rw [if_neg fun e => h e.symm]; grind, if_pos rfl]
/-- The rows without what they have of the first one, without division. -/
def away (m : Nat) (v : Nat → Nat → Int) : Nat → Nat → Int := fun i x => gm m v 0 0 * v (i + 1) x - gm m v (i + 1) 0 * v 0 x
theorem away_gm (m : Nat) (v : Nat → Nat → Int) (i j : Nat) : gm m (away m v) i j = gm m v 0 0 * schur (gm m v) i j := by
  have e : gm m (away m v) i j = gm m v 0 0 * gm m v 0 0 * gm m v (i + 1) (j + 1) + -(gm m v 0 0 * gm m v (j + 1) 0) * gm m v (i + 1) 0 + (-(gm m v 0 0 * gm m v (i + 1) 0) * gm m v 0 (j + 1) + gm m v (i + 1) 0 * gm m v (j + 1) 0 * gm m v 0 0) := by
    conv => rhs; unfold gm
    rw [← sg_times m (_ * _), ← sg_times m (-(_)), ← sg_times m (-(_)), ← sg_times m (_ * _), ← sg_add, ← sg_add, ← sg_add]
    exact sg_congr fun x _ => by unfold away gm; grind
  rw [e]
  unfold schur
  rw [gm_comm m v 0 (j + 1)]
  grind
theorem hadamard_gm : ∀ (n m : Nat) (v : Nat → Nat → Int), dt n (gm m v) ≤ pr n fun i => gm m v i i
  | 0, _, _ => Int.le_refl _
  | n + 1, m, v => by
    have ha := gm_pos m v 0
    rcases Int.lt_or_eq_of_le ha with ha | ha
    · have ih := hadamard_gm n m (away m v)
      rw [show gm m (away m v) = fun i j => gm m v 0 0 * schur (gm m v) i j from funext fun i => funext fun j => away_gm m v i j, dt_times_all, pr_times] at ih
      have hp : 0 < gm m v 0 0 ^ n := Int.pow_pos ha
      have h1 : dt n (schur (gm m v)) ≤ pr n fun i => schur (gm m v) i i := Int.le_of_mul_le_mul_left ih hp
      have hB0 : ∀ i, i < n → 0 ≤ schur (gm m v) i i := fun i _ => by
        have h2 := gm_pos m (away m v) i
        rw [away_gm] at h2
        rcases (show schur (gm m v) i i < 0 ∨ 0 ≤ schur (gm m v) i i by omega) with h3 | h3
        · have := Int.mul_neg_of_pos_of_neg ha h3
          omega
        · exact h3
      have hB1 : ∀ i, i < n → schur (gm m v) i i ≤ gm m v 0 0 * gm m v (i + 1) (i + 1) := fun i _ => by
        have h2 := sq_pos (gm m v (i + 1) 0)
        unfold schur
        rw [gm_comm m v 0 (i + 1)]
        omega
      have h2 := pr_le hB0 hB1
      rw [pr_times] at h2
      have h3 := elim n (gm m v)
      have h4 : gm m v 0 0 * dt n (schur (gm m v)) ≤ gm m v 0 0 * (gm m v 0 0 ^ n * pr n fun i => gm m v (i + 1) (i + 1)) := Int.mul_le_mul_of_nonneg_left (Int.le_trans h1 h2) (by omega)
      rw [← h3, show gm m v 0 0 * (gm m v 0 0 ^ n * pr n fun i => gm m v (i + 1) (i + 1)) = gm m v 0 0 ^ n * (gm m v 0 0 * pr n fun i => gm m v (i + 1) (i + 1)) by grind] at h4
      rw [pr_shift]
      exact Int.le_of_mul_le_mul_left h4 hp
    · have hz : ∀ x, x < m → v 0 x = 0 := sq_none (n := m) (f := v 0) ha.symm
      rw [dt_zrow (k := 0) (by omega) fun j _ => show gm m v 0 j = 0 from by
        unfold gm
        rw [sg_congr (g := fun _ => 0) fun x hx => by rw [hz x hx]; grind, sg_none]]
      exact pr_pos fun i _ => gm_pos m v i
/-- Hadamard. -/
theorem hadamard (n : Nat) (f : Nat → Nat → Int) : dt n f * dt n f ≤ pr n fun i => sg n fun j => f i j * f i j := by
  have h := hadamard_gm n n f
  have e : dt n (gm n f) = dt n f * dt n f := by
    have := dt_mul n f (flip f)
    rw [dt_flip] at this
    exact this
  rw [e] at h
  exact h

end Go.Proofs.YtmimbioffnolaaaDoor.Zx

/- Elimination of whole numbers row by row, each row with a column of its own: what stands after each step is a determinant (Sylvester), and how the determinants of the first rows and columns come of it. No program is named here. -/
namespace Go.Proofs.YtmimbioffnolaaaDoor.Zx
open Mx (sk sk_lt sk_zero)
set_option linter.unusedVariables false

/-- The first t rows and row k; the columns taken and column j. -/
def bk (t k : Nat) : Nat → Nat := fun a => if a < t then a else k
def bj (t : Nat) (p : Nat → Nat) (j : Nat) : Nat → Nat := fun b => if b < t then p b else j
/-- What stands at (k, j) after t steps. -/
def bd (f : Nat → Nat → Int) (p : Nat → Nat) (t k j : Nat) : Int := dt (t + 1) fun a b => f (bk t k a) (bj t p j b)
/-- The number that step t took, 1 before the first. -/
def lp (f : Nat → Nat → Int) (p : Nat → Nat) : Nat → Int
  | 0 => 1
  | t + 1 => bd f p t t (p t)
theorem dt_single (f : Nat → Nat → Int) : dt 1 f = f 0 0 := by
  rw [dt_succ, sg_succ, sg_zero]
  show 0 + sgn 0 * f 0 0 * 1 = f 0 0
  rw [show sgn 0 = 1 from rfl]; grind
theorem dt_pair (f : Nat → Nat → Int) : dt 2 f = f 0 0 * f 1 1 - f 0 1 * f 1 0 := by
  rw [dt_succ, sg_succ, sg_succ, sg_zero]
  simp only [dt_single]
  show 0 + sgn 0 * f 0 0 * f 1 1 + sgn 1 * f 0 1 * f 1 0 = _
  rw [show sgn 0 = 1 from rfl, show sgn 1 = -1 from rfl]; grind
theorem bd_zero (f : Nat → Nat → Int) (p : Nat → Nat) (k j : Nat) : bd f p 0 k j = f k j := by unfold bd; rw [dt_single]; rfl

def Sylv (f : Nat → Nat → Int) (p : Nat → Nat) (t : Nat) : Prop :=
  ∀ (s : Nat) (K J : Nat → Nat), (∀ a, a < t → K a = a) → (∀ b, b < t → J b = p b) →
    lp f p t ^ s * dt (t + (s + 1)) (fun a b => f (K a) (J b)) = dt (s + 1) fun a b => bd f p t (K (t + a)) (J (t + b))
theorem Sylv.rec' {f : Nat → Nat → Int} {p : Nat → Nat} {t : Nat} (h : Sylv f p t) (k j : Nat) :
    lp f p t * bd f p (t + 1) k j = bd f p t t (p t) * bd f p t k j - bd f p t t j * bd f p t k (p t) := by
  have e := h 1 (bk (t + 1) k) (bj (t + 1) p j) (fun a ha => by unfold bk; rw [if_pos (by omega)]) (fun b hb => by unfold bj; rw [if_pos (by omega)])
  rw [Int.pow_succ, Int.pow_zero, Int.one_mul] at e
  have e2 : dt (t + (1 + 1)) (fun a b => f (bk (t + 1) k a) (bj (t + 1) p j b)) = bd f p (t + 1) k j := rfl
  rw [e2] at e
  rw [e]
  show dt 2 _ = _
  rw [dt_pair]
  have k0 : bk (t + 1) k (t + 0) = t := by unfold bk; rw [if_pos (by omega)]; rfl
  have k1 : bk (t + 1) k (t + 1) = k := by unfold bk; rw [if_neg (by omega)]
  have j0 : bj (t + 1) p j (t + 0) = p t := by unfold bj; rw [if_pos (by omega)]; rfl
  have j1 : bj (t + 1) p j (t + 1) = j := by unfold bj; rw [if_neg (by omega)]
  rw [k0, k1, j0, j1]
theorem sylv (f : Nat → Nat → Int) (p : Nat → Nat) : ∀ t, (∀ i, i < t → lp f p (i + 1) ≠ 0) → Sylv f p t
  | 0, _ => fun s K J _ _ => by
    show (1 : Int) ^ s * _ = _
    rw [Int.one_pow, Int.one_mul, show 0 + (s + 1) = s + 1 by omega]
    exact dt_congr _ fun a b _ _ => by rw [bd_zero, show 0 + a = a by omega, show 0 + b = b by omega]
  | t + 1, hz => fun s K J hK hJ => by
    have S := sylv f p t fun i hi => hz i (by omega)
    have IH := S (s + 1) K J (fun a ha => hK a (by omega)) (fun b hb => hJ b (by omega))
    have q0 := hz t (by omega)
    have l0 : lp f p t ≠ 0 := by
      rcases t with _ | t
      · show (1 : Int) ≠ 0; decide
      · exact hz t (by omega)
    obtain ⟨G, hG⟩ : ∃ G, G = fun a b => bd f p t (K (t + a)) (J (t + b)) := ⟨_, rfl⟩
    have g00 : G 0 0 = lp f p (t + 1) := by
      rw [hG]
      show bd f p t (K t) (J t) = bd f p t t (p t)
      rw [hK t (by omega), hJ t (by omega)]
    have el := elim (s + 1) G
    have sc : dt (s + 1) (schur G) = lp f p t ^ (s + 1) * dt (s + 1) fun a b => bd f p (t + 1) (K (t + 1 + a)) (J (t + 1 + b)) := by
      rw [← dt_times_all]
      refine dt_congr _ fun a b _ _ => ?_
      rw [S.rec']
      unfold schur
      rw [g00, hG]
      show lp f p (t + 1) * bd f p t (K (t + (a + 1))) (J (t + (b + 1))) - bd f p t (K (t + (a + 1))) (J t) * bd f p t (K t) (J (t + (b + 1))) = _
      rw [hK t (by omega), hJ t (by omega), show t + (a + 1) = t + 1 + a by omega, show t + (b + 1) = t + 1 + b by omega]
      show bd f p t t (p t) * _ - _ = _
      grind
    rw [← hG] at IH
    rw [sc, ← IH, g00] at el
    have hp : lp f p t ^ (s + 1) ≠ 0 := Int.pow_ne_zero l0
    rw [show t + (s + 1 + 1) = t + 1 + (s + 1) by omega, Int.pow_succ (lp f p (t + 1)) s] at el
    have el2 : (lp f p (t + 1) * lp f p t ^ (s + 1)) * (lp f p (t + 1) ^ s * dt (t + 1 + (s + 1)) fun a b => f (K a) (J b)) = (lp f p (t + 1) * lp f p t ^ (s + 1)) * dt (s + 1) fun a b => bd f p (t + 1) (K (t + 1 + a)) (J (t + 1 + b)) := by grind
    exact Int.eq_of_mul_eq_mul_left (Int.mul_ne_zero q0 hp) el2

/-- A step: what it divides by goes in. -/
theorem step_bd {f : Nat → Nat → Int} {p : Nat → Nat} {t : Nat} (hz : ∀ i, i < t → lp f p (i + 1) ≠ 0) (k j : Nat) :
    (bd f p t k j * lp f p (t + 1) - bd f p t k (p t) * bd f p t t j).tdiv (lp f p t) = bd f p (t + 1) k j := by
  have l0 : lp f p t ≠ 0 := by
    rcases t with _ | t
    · show (1 : Int) ≠ 0; decide
    · exact hz t (by omega)
  have := (sylv f p t hz).rec' k j
  rw [show bd f p t k j * lp f p (t + 1) - bd f p t k (p t) * bd f p t t j = lp f p t * bd f p (t + 1) k j by
    rw [this]; show bd f p t k j * bd f p t t (p t) - _ = _; grind]
  exact Int.mul_tdiv_cancel_left _ l0

theorem lp_dt (f : Nat → Nat → Int) (p : Nat → Nat) (t : Nat) : lp f p t = dt t fun a b => f a (p b) := by
  rcases t with _ | t
  · rfl
  · show dt (t + 1) (fun a b => f (bk t t a) (bj t p (p t) b)) = _
    refine dt_congr _ fun a b ha hb => ?_
    have e1 : bk t t a = a := by unfold bk; split <;> omega
    have e2 : bj t p (p t) b = p b := by
      unfold bj
      by_cases h : b < t
      · rw [if_pos h]
      · rw [if_neg h, show b = t by omega]
    rw [e1, e2]

/-- A row of which nothing is left in the first q columns: the first q rows and columns have no determinant. -/
theorem bd_null {f : Nat → Nat → Int} {p : Nat → Nat} {t q : Nat} (ht : t < q) (h0 : lp f p t ≠ 0) (h : ∀ j, j < q → bd f p t t j = 0) : dt q f = 0 := by
  obtain ⟨c, hc⟩ : ∃ c : Nat → Int, c = fun a => if a < t + 1 then sgn (t + a) * dt t (fun i b => f (sk a b) (p i)) else 0 := ⟨_, rfl⟩
  rw [← dt_flip]
  refine dt_null (y := c) (c := t) ht ?_ fun j hj => ?_
  · rw [hc]
    show (if t < t + 1 then sgn (t + t) * dt t (fun i b => f (sk t b) (p i)) else 0) ≠ 0
    rw [if_pos (by omega), show sgn (t + t) = 1 by unfold sgn; rw [if_pos (by omega)], Int.one_mul]
    rw [lp_dt, ← dt_flip] at h0
    rw [dt_congr t (g := flip fun a b => f a (p b)) fun i b hi hb => by show f (sk t b) (p i) = f b (p i); rw [show sk t b = b by unfold sk; rw [if_pos hb]]]
    exact h0
  · have e := h j hj
    unfold bd at e
    rw [← dt_flip, ← laplace t t _ (Nat.le_refl _)] at e
    rw [← e, sg_less (n := t + 1) (by omega) fun i h1 h2 => by rw [hc]; show flip f j i * (if i < t + 1 then _ else 0) = 0; rw [if_neg (by omega), Int.mul_zero]]
    refine sg_congr fun a ha => ?_
    rw [hc]
    show f a j * (if a < t + 1 then sgn (t + a) * dt t (fun i b => f (sk a b) (p i)) else 0) = sgn (t + a) * f (bk t t a) (bj t p j t) * dt t _
    rw [if_pos ha, show bk t t a = a by unfold bk; split <;> omega, show bj t p j t = j by unfold bj; rw [if_neg (by omega)]]
    rw [dt_congr t (f := wo _ t a) (g := fun i b => f (sk a b) (p i)) fun i b hi hb => by
      show f (bk t t (sk a b)) (bj t p j (sk t i)) = f (sk a b) (p i)
      have e3 : sk a b ≤ b + 1 := by unfold sk; split <;> omega
      rw [show sk t i = i by unfold sk; rw [if_pos hi], show bj t p j i = p i by unfold bj; rw [if_pos hi], show bk t t (sk a b) = sk a b by unfold bk; split <;> omega]]
    grind

theorem sp_sq {n : Nat} (s : Nat → Int) : sp n s = 0 ∨ sp n s * sp n s = 1 := by
  by_cases ho : ∃ k, k < n ∧ (s k < 0 ∨ (n : Int) ≤ s k)
  · obtain ⟨k, hk, h⟩ := ho
    exact .inl (sp_out hk h)
  · by_cases ht : ∃ a b, a < n ∧ b < n ∧ a ≠ b ∧ s a = s b
    · obtain ⟨a, b, ha, hb, hne, e⟩ := ht
      exact .inl (sp_twice ha hb hne e)
    · right
      have : sp n s * sp n s = dt n (mul n (fun i j => if s i = (j : Int) then 1 else 0) (flip fun i j => if s i = (j : Int) then 1 else 0)) := by
        rw [dt_mul, dt_flip]; rfl
      rw [this]
      refine Eq.trans ?_ (dt_one n)
      refine dt_congr n fun i k hi hk => ?_
      show (sg n fun x => (if s i = (x : Int) then (1 : Int) else 0) * (if s k = (x : Int) then 1 else 0)) = if i = k then 1 else 0
      have hb : 0 ≤ s i ∧ s i < n := by
        have : ¬ (s i < 0 ∨ (n : Int) ≤ s i) := fun h => ho ⟨i, hi, h⟩
        omega
      rw [sg_one (k := (s i).toNat) (by omega) fun x hx hne => by rw [if_neg (by omega), Int.zero_mul], if_pos (by omega), Int.one_mul]
      by_cases e : i = k
      · rw [if_pos e, if_pos (by rw [← e]; omega)]
      · rw [if_neg e, if_neg fun e2 => ht ⟨i, k, hi, hk, e, by omega⟩]
theorem sp_some {n : Nat} (s : Nat → Int) : sp n s = 1 ∨ sp n s = -1 ∨ sp n s = 0 := by
  rcases sp_sq (n := n) s with h | h
  · exact .inr (.inr h)
  · have : (sp n s - 1) * (sp n s + 1) = 0 := by grind
    rcases Int.mul_eq_zero.1 this with h | h
    · left; omega
    · right; left; omega

/-- The first q rows and columns, of the number that the last step took. -/
theorem lead_lp {f : Nat → Nat → Int} {p : Nat → Nat} {q : Nat} (hz : ∀ i, i < q → lp f p (i + 1) ≠ 0) (hf : ∀ i, i < q → ∀ j, j < p i → bd f p i i j = 0) :
    sp q (fun i => (p i : Int)) * lp f p q = dt q f := by
  by_cases ho : ∃ i, i < q ∧ q ≤ p i
  · obtain ⟨i, hi, h⟩ := ho
    rw [sp_out hi (.inr (by omega)), Int.zero_mul]
    refine (bd_null hi ?_ fun j hj => hf i hi j (by omega)).symm
    rcases i with _ | i
    · show (1 : Int) ≠ 0; decide
    · exact hz i (by omega)
  · have hp : ∀ i, i < q → p i < q := fun i hi => by
      rcases Nat.lt_or_ge (p i) q with h | h
      · exact h
      · exact absurd ⟨i, hi, h⟩ ho
    have e : lp f p q = dt q f * sp q (fun i => (p i : Int)) := by
      rw [lp_dt]
      have : sp q (fun i => (p i : Int)) = dt q (flip fun i j => if (p i : Int) = (j : Int) then 1 else 0) := by rw [dt_flip]; rfl
      rw [this, ← dt_mul]
      refine dt_congr q fun a b ha hb => ?_
      show f a (p b) = sg q fun x => f a x * (if (p b : Int) = (x : Int) then 1 else 0)
      rw [sg_one (k := p b) (hp b hb) fun x hx hne => by rw [if_neg (by omega), Int.mul_zero], if_pos rfl, Int.mul_one]
    have h0 : lp f p q ≠ 0 := by
      rcases q with _ | q
      · show (1 : Int) ≠ 0; decide
      · exact hz q (by omega)
    rcases sp_sq (n := q) (fun i => (p i : Int)) with h | h
    · rw [h, Int.mul_zero] at e; exact absurd e h0
    · rw [e]; grind

theorem bd_ab {f : Nat → Nat → Int} {p : Nat → Nat} {t k : Nat} {M : Int} {r c : Nat} (hM : 0 ≤ M) (h : ∀ i j, i < r → j < c → ab (f i j) ≤ M) (ht : t ≤ k) (hk : k < r) (hp : ∀ i, i < t → p i < c) {j : Nat} (hj : j < c) : ab (bd f p t k j) ≤ fb M (t + 1) := by
  refine dt_ab hM _ _ fun a b ha hb => h _ _ ?_ ?_
  · unfold bk; split <;> omega
  · unfold bj
    by_cases e : b < t
    · rw [if_pos e]; exact hp b e
    · rw [if_neg e]; exact hj
theorem fb_nine {n : Nat} (h : n ≤ 5) : fb 9 n ≤ 7085880 := by
  have : n = 0 ∨ n = 1 ∨ n = 2 ∨ n = 3 ∨ n = 4 ∨ n = 5 := by omega
  rcases this with e | e | e | e | e | e <;> rw [e] <;> decide +kernel
/-- Only the pivots so far count. -/
theorem bd_congr {f : Nat → Nat → Int} {p p' : Nat → Nat} {t : Nat} (h : ∀ i, i < t → p i = p' i) (k j : Nat) : bd f p t k j = bd f p' t k j := by
  unfold bd
  refine dt_congr _ fun a b ha hb => ?_
  have : bj t p j b = bj t p' j b := by
    unfold bj
    by_cases e : b < t
    · rw [if_pos e, if_pos e, h b e]
    · rw [if_neg e, if_neg e]
  rw [this]
theorem lp_congr {f : Nat → Nat → Int} {p p' : Nat → Nat} {t : Nat} (h : ∀ i, i < t → p i = p' i) : lp f p t = lp f p' t := by
  rcases t with _ | t
  · rfl
  · show bd f p t t (p t) = bd f p' t t (p' t)
    rw [bd_congr (fun i hi => h i (by omega)), h t (by omega)]

def upd (p : Nat → Nat) (k q : Nat) : Nat → Nat := fun i => if i = k then q else p i
theorem upd_lt {p : Nat → Nat} {k q i : Nat} (h : i < k) : upd p k q i = p i := by unfold upd; rw [if_neg (by omega)]
theorem upd_self (p : Nat → Nat) (k q : Nat) : upd p k q k = q := by unfold upd; rw [if_pos rfl]
theorem bd_upd {f : Nat → Nat → Int} {p : Nat → Nat} {k q t : Nat} (h : t ≤ k) (r j : Nat) : bd f (upd p k q) t r j = bd f p t r j := bd_congr (fun i hi => upd_lt (by omega)) r j
theorem lp_upd {f : Nat → Nat → Int} {p : Nat → Nat} {k q t : Nat} (h : t ≤ k) : lp f (upd p k q) t = lp f p t := lp_congr fun i hi => upd_lt (by omega)
theorem lp_next (f : Nat → Nat → Int) (p : Nat → Nat) (k q : Nat) : lp f (upd p k q) (k + 1) = bd f p k k q := by
  show bd f (upd p k q) k k (upd p k q k) = _
  rw [bd_upd (Nat.le_refl k), upd_self]
/-- The first k steps: the column that each took, the first that has not 0. -/
structure El (n : Nat) (x : Nat → Nat → Int) (p : Nat → Nat) (k : Nat) : Prop where
  lt : ∀ i, i < k → p i < n
  nz : ∀ i, i < k → lp x p (i + 1) ≠ 0
  first : ∀ i, i < k → ∀ j, j < p i → bd x p i i j = 0
theorem El.start (n : Nat) (x : Nat → Nat → Int) (p : Nat → Nat) : El n x p 0 := ⟨fun i hi => absurd hi (by omega), fun i hi => absurd hi (by omega), fun i hi => absurd hi (by omega)⟩
theorem El.next {n : Nat} {x : Nat → Nat → Int} {p : Nat → Nat} {k q : Nat} (h : El n x p k) (hq : q < n) (h1 : bd x p k k q ≠ 0) (h2 : ∀ j, j < q → bd x p k k j = 0) : El n x (upd p k q) (k + 1) := by
  refine ⟨fun i hi => ?_, fun i hi => ?_, fun i hi j hj => ?_⟩
  · by_cases e : i = k
    · rw [e, upd_self]; exact hq
    · rw [upd_lt (by omega)]; exact h.lt i (by omega)
  · by_cases e : i = k
    · rw [e, lp_next]; exact h1
    · rw [lp_upd (by omega)]; exact h.nz i (by omega)
  · by_cases e : i = k
    · rw [e, bd_upd (Nat.le_refl k)]
      rw [e, upd_self] at hj
      exact h2 j hj
    · rw [bd_upd (by omega)]
      rw [upd_lt (by omega)] at hj
      exact h.first i (by omega) j hj
theorem El.ne {n : Nat} {x : Nat → Nat → Int} {p : Nat → Nat} {k : Nat} (h : El n x p k) {t : Nat} (ht : t ≤ k) : lp x p t ≠ 0 := by
  rcases t with _ | t
  · show (1 : Int) ≠ 0; decide
  · exact h.nz t (by omega)
theorem El.lead {n : Nat} {x : Nat → Nat → Int} {p : Nat → Nat} {k : Nat} (h : El n x p k) : sp k (fun i => (p i : Int)) * lp x p k = dt k x := lead_lp h.nz h.first
theorem El.null {n : Nat} {x : Nat → Nat → Int} {p : Nat → Nat} {k : Nat} (h : El n x p k) (hz : ∀ j, j < n → bd x p k k j = 0) {q : Nat} (hk : k < q) (hq : q ≤ n) : dt q x = 0 :=
  bd_null hk (h.ne (Nat.le_refl k)) fun j hj => hz j (by omega)
theorem El.step {n : Nat} {x : Nat → Nat → Int} {p : Nat → Nat} {k : Nat} (h : El n x p k) {t : Nat} (ht : t < k) (r j : Nat) :
    (bd x p t r j * bd x p t t (p t) - bd x p t r (p t) * bd x p t t j).tdiv (lp x p t) = bd x p (t + 1) r j := step_bd (fun i hi => h.nz i (by omega)) r j
theorem El.bound {n : Nat} {x : Nat → Nat → Int} {p : Nat → Nat} {k : Nat} (h : El n x p k) (h5 : n ≤ 5) (hx : ∀ i j, i < n → j < n → ab (x i j) ≤ 9) {t r : Nat} (ht : t ≤ k) (hr : t ≤ r) (hr2 : r < n) {j : Nat} (hj : j < n) : -7085880 ≤ bd x p t r j ∧ bd x p t r j ≤ 7085880 := by
  have h1 := bd_ab (f := x) (p := p) (t := t) (k := r) (M := 9) (by omega) hx hr hr2 (fun i hi => h.lt i (by omega)) hj
  have h2 := fb_nine (n := t + 1) (by omega)
  unfold ab at h1
  omega
theorem dt_bound {n : Nat} {x : Nat → Nat → Int} (h5 : n ≤ 5) (hx : ∀ i j, i < n → j < n → ab (x i j) ≤ 9) {q : Nat} (hq : q ≤ n) : -7085880 ≤ dt q x ∧ dt q x ≤ 7085880 := by
  have h1 := dt_ab (M := 9) (by omega) q x fun i j hi hj => hx i j (by omega) (by omega)
  have h2 := fb_nine (n := q) (by omega)
  unfold ab at h1
  omega

end Go.Proofs.YtmimbioffnolaaaDoor.Zx

/- Contracts of package bareiss, first part: checkRow, Check; good matrices of whole numbers. -/
namespace Go.Proofs.YtmimbioffnolaaaDoor
open Go.ChangeShapes Go.WideShapes Go.ChangeAt Go.RowKit
set_option linter.unusedVariables false

theorem qcode_is {most c : Nat} {lo hi : Int} {m : List (List Int)} (h : Mx.mcode most lo hi m = c) (hc : c ≠ 0) : qcode most lo hi m = c := by
  rw [qcode_bad (by omega), h]

/-- A square matrix of small whole numbers. -/
structure Shz (n : Nat) (x : Nat → Nat → Int) (m : List (List Int)) : Prop where
  eq : m = Mx.tab n n x
  n0 : 0 < n
  n5 : n ≤ 5
  ab : ∀ i j, i < n → j < n → -9 ≤ x i j ∧ x i j ≤ 9
theorem Shz.len {n : Nat} {x : Nat → Nat → Int} {m : List (List Int)} (h : Shz n x m) : m.length = n := by rw [h.eq, Mx.len_tab]
theorem shz_or (m : List (List Int)) {n : Nat} (hn : m.length = n) : (∃ x, Shz n x m) ∨ qcode 5 (-9) 9 m ≠ 0 := by
  by_cases h : qcode 5 (-9) 9 m = 0
  · left
    have hm : Mx.mcode 5 (-9) 9 m = 0 ∧ m.length = (m.getD 0 []).length := by
      unfold qcode at h
      by_cases h0 : Mx.mcode 5 (-9) 9 m = 0 ∧ m.length ≠ (m.getD 0 []).length
      · rw [if_pos h0] at h; cases h
      · rw [if_neg h0] at h
        exact ⟨h, Classical.byContradiction fun e => h0 ⟨h, e⟩⟩
    obtain ⟨h1, h2⟩ := hm
    unfold Mx.mcode at h1
    by_cases c1 : m.length = 0 ∨ (m.getD 0 []).length = 0
    · rw [if_pos c1] at h1; cases h1
    rw [if_neg c1] at h1
    by_cases c2 : 5 < m.length ∨ 5 < (m.getD 0 []).length
    · rw [if_pos c2] at h1; cases h1
    rw [if_neg c2] at h1
    have hr := Mx.rows_zero h1
    have hl : ∀ i, i < m.length → (m.getD i []).length = n := fun i hi => by rw [(Mx.rcode_zero (hr i hi)).1, ← h2, hn]
    refine ⟨fun i j => (m.getD i []).getD j 0, ⟨?_, by omega, by omega, fun i j hi hj => ?_⟩⟩
    · have := Mx.is_tab hl
      rw [hn] at this
      exact this
    · exact (Mx.rcode_zero (hr i (by omega))).2 j (by rw [hl i (by omega)]; exact hj)
  · exact .inr h
theorem Shz.code {n : Nat} {x : Nat → Nat → Int} {m : List (List Int)} (h : Shz n x m) : qcode 5 (-9) 9 m = 0 := by
  obtain ⟨rfl, h0, h5, hab⟩ := h
  have e0 : ((Mx.tab n n x).getD 0 []).length = n := Mx.tab_len n n x 0 h0
  have hm : Mx.mcode 5 (-9) 9 (Mx.tab n n x) = 0 := by
    unfold Mx.mcode
    rw [Mx.len_tab, e0, if_neg (by omega), if_neg (by omega)]
    refine Mx.rows_ok fun i hi => ?_
    rw [Mx.len_tab] at hi
    refine Mx.rcode_ok (Mx.tab_len n n x i hi) fun k hk => ?_
    rw [Mx.tab_len n n x i hi] at hk
    rw [Mx.tab_el n n x i k hi hk]
    exact hab i k hi hk
  unfold qcode
  rw [if_neg (fun h => h.2 (by rw [Mx.len_tab, e0])), hm]
theorem Shz.nine {n : Nat} {x : Nat → Nat → Int} {m : List (List Int)} (h : Shz n x m) : ∀ i j, i < n → j < n → Zx.ab (x i j) ≤ 9 := fun i j hi hj => by
  have := h.ab i j hi hj
  unfold Zx.ab; omega

/-- The first k rows have no fault. -/
def rowsZ (lo hi : Int) (m : List (List Int)) (k : Nat) : Prop := Mx.rows lo hi (m.getD 0 []).length m = Mx.rows lo hi (m.getD 0 []).length (m.drop k)
theorem rowsZ_go {lo hi : Int} {m : List (List Int)} {k : Nat} (hk : k < m.length) (h : rowsZ lo hi m k) (h0 : Mx.rcode lo hi (m.getD 0 []).length (m.getD k []) = 0) : rowsZ lo hi m (k + 1) := by
  unfold rowsZ at *
  rw [h, Mx.rows_drop hk, if_pos h0]


end Go.Proofs.YtmimbioffnolaaaDoor

/- Contracts of package hermite, first part: whether all numbers are small, and what is wrong with a square matrix of small whole numbers. -/
namespace Go.Proofs.YtmimbioffnolaaaDoor
open Go.ChangeShapes Go.WideShapes Go.ChangeAt Go.RowKit
set_option linter.unusedVariables false

set_option maxRecDepth 100000 in
theorem win_no (x m : Int) (P : Nat) (w : World) (hc : w.cell? ⟨P, 0, none⟩ = some (.int .i64 m)) (hm : 0 ≤ m ∧ m ≤ 1000) (h0 : -m ≤ x) (h1 : x ≤ m) : Calls Tryd.prog 50 #[.int .i64 x, .pointer (some ⟨P, 0, none⟩)] w fun e w' => e = .returned (.bool false) ∧ w = w' := by
  have hw : IntKind.i64.wrap (-m) = -m := IntWalk.i64_in _ (by omega)
  have h2 : decide (x < -m) = false := decide_eq_false (by omega)
  have h3 : decide (m < x) = false := decide_eq_false (by omega)
  go_enter Tryd.func50, Tryd.ntmps50
  go_wp2_with fail
  go_ret
  exact ⟨rfl, rfl⟩
set_option maxRecDepth 100000 in
theorem win_yes (x m : Int) (P : Nat) (w : World) (hc : w.cell? ⟨P, 0, none⟩ = some (.int .i64 m)) (hm : 0 ≤ m ∧ m ≤ 1000) (h : ¬ (-m ≤ x ∧ x ≤ m)) : Calls Tryd.prog 50 #[.int .i64 x, .pointer (some ⟨P, 0, none⟩)] w fun e w' => e = .returned (.bool true) ∧ w = w' := by
  have hw : IntKind.i64.wrap (-m) = -m := IntWalk.i64_in _ (by omega)
  by_cases h2 : x < -m
  · have h2 : decide (x < -m) = true := decide_eq_true h2
    clear h
    go_enter Tryd.func50, Tryd.ntmps50
    go_wp2_with fail
    go_ret
    exact ⟨rfl, rfl⟩
  · have h3 : decide (m < x) = true := decide_eq_true (by omega)
    have h2 : decide (x < -m) = false := decide_eq_false h2
    clear h
    go_enter Tryd.func50, Tryd.ntmps50
    go_wp2_with fail
    go_ret
    exact ⟨rfl, rfl⟩

set_option maxRecDepth 100000 in
set_option maxHeartbeats 800000 in
theorem hidx_any (A : Option Addr) (l : List Int) (n d P : Nat) (m : Int) (w : World) (hl : Lies w A l) (hn : l.length = n) (hb : n ≤ 1000) (hc : w.cell? ⟨P, 0, none⟩ = some (.int .i64 m)) (hm : 0 ≤ m ∧ m ≤ 1000) :
    Calls Tryd.prog 51 #[.slice A n d, .func (.func 50) #[] #[.pointer (some ⟨P, 0, none⟩)]] w fun e w' =>
      ((∃ k : Nat, ¬ AllIn l (-m) m ∧ k < n ∧ e = .returned (.int .i64 (k : Int))) ∨ (AllIn l (-m) m ∧ e = .returned (.int .i64 (-1)))) ∧ w = w' := by
  have HL := Lib.hid hl
  have HN := Lib.hid hn
  have NO := Lib.hid (fun x => win_no x m P w hc hm)
  have YES := Lib.hid (fun x => win_yes x m P w hc hm)
  clear hl hn hc hm
  go_enter Tryd.func51, Tryd.ntmps51
  go_wp2_with fail
  go_loop [8] (fun j => ∃ k : Nat, k ≤ n ∧ j = .int .i64 (k : Int) ∧ ∀ t, t < k → -m ≤ l.getD t 0 ∧ l.getD t 0 ≤ m) (fun j => n - (intOf j).toNat)
  case atStart => exact ⟨0, Nat.zero_le _, rfl, fun t ht => absurd ht (by omega)⟩
  case round =>
    obtain ⟨k, hk, rfl, hz⟩ := hrel
    have HZ := Lib.hid hz
    clear hz
    by_cases hlt : k < n
    · obtain ⟨ad, rfl, _, x1⟩ := HL.out k (by have := HN.out; omega)
      obtain ⟨x, hx⟩ : ∃ x, x = l.getD k 0 := ⟨_, rfl⟩
      rw [← hx] at x1
      have HX := Lib.hid hx
      clear hx
      by_cases h0 : -m ≤ x ∧ x ≤ m
      · have HZ2 := Lib.hid (show ∀ t, t < k + 1 → -m ≤ l.getD t 0 ∧ l.getD t 0 ≤ m from fun t ht => by
          by_cases e : t = k
          · rw [e, ← HX.out]; exact h0
          · exact HZ.out t (by omega))
        have M := Lib.hid (NO.out x h0.1 h0.2)
        clear h0
        go_wp2_with fail
        refine (M.out).mono ?_; rintro e w' ⟨rfl, rfl⟩
        go_wp2_with fail
        go_round
        case rel => exact ⟨k + 1, by omega, by go_num, HZ2.out⟩
        case measure => simp [intOf]; omega
      · have M := Lib.hid (YES.out x h0)
        have HQ := Lib.hid (show ¬ AllIn l (-m) m from fun h => h0 (by have := h k (by have := HN.out; omega); rw [← HX.out] at this; exact this))
        clear h0
        go_wp2_with fail
        refine (M.out).mono ?_; rintro e w' ⟨rfl, rfl⟩
        go_wp2_with fail
        go_ret
        exact ⟨.inl ⟨k, HQ.out, hlt, rfl⟩, rfl⟩
    · obtain rfl : k = n := by omega
      have HQ := Lib.hid (show AllIn l (-m) m from fun t ht => HZ.out t (by have := HN.out; omega))
      go_wp2_with fail
      go_ret
      exact ⟨.inr ⟨HQ.out, rfl⟩, rfl⟩
theorem hcf_yes (A : Option Addr) (l : List Int) (n d P : Nat) (m : Int) (w : World) (hl : Lies w A l) (hn : l.length = n) (hb : n ≤ 1000) (hc : w.cell? ⟨P, 0, none⟩ = some (.int .i64 m)) (hm : 0 ≤ m ∧ m ≤ 1000) (h : ¬ AllIn l (-m) m) :
    Calls Tryd.prog 49 #[.slice A n d, .func (.func 50) #[] #[.pointer (some ⟨P, 0, none⟩)]] w fun e w' => e = .returned (.bool true) ∧ w = w' := by
  have M := Lib.hid (hidx_any A l n d P m w hl hn hb hc hm)
  have H := Lib.hid h
  clear hl hn h hc hm
  go_enter Tryd.func49, Tryd.ntmps49
  go_wp2_with fail
  refine (M.out).mono ?_; rintro e w' ⟨⟨k, _, hk, rfl⟩ | ⟨h, _⟩, rfl⟩
  · go_wp2_with fail
    go_ret
    exact ⟨rfl, rfl⟩
  · exact absurd h H.out
theorem hcf_no (A : Option Addr) (l : List Int) (n d P : Nat) (m : Int) (w : World) (hl : Lies w A l) (hn : l.length = n) (hb : n ≤ 1000) (hc : w.cell? ⟨P, 0, none⟩ = some (.int .i64 m)) (hm : 0 ≤ m ∧ m ≤ 1000) (h : AllIn l (-m) m) :
    Calls Tryd.prog 49 #[.slice A n d, .func (.func 50) #[] #[.pointer (some ⟨P, 0, none⟩)]] w fun e w' => e = .returned (.bool false) ∧ w = w' := by
  have M := Lib.hid (hidx_any A l n d P m w hl hn hb hc hm)
  have H := Lib.hid h
  clear hl hn h hc hm
  go_enter Tryd.func49, Tryd.ntmps49
  go_wp2_with fail
  refine (M.out).mono ?_; rintro e w' ⟨⟨k, h, hk, rfl⟩ | ⟨_, rfl⟩, rfl⟩
  · exact absurd H.out h
  · go_wp2_with fail
    go_ret
    exact ⟨rfl, rfl⟩
theorem hwin_any (A : Option Addr) (l : List Int) (n d : Nat) (m : Int) (w : World) (b : Bool) (hl : Lies w A l) (hn : l.length = n) (hb : n ≤ 1000) (hm : 0 ≤ m ∧ m ≤ 1000) (h : b = true ↔ AllIn l (-m) m) :
    Calls Tryd.prog 42 #[.slice A n d, .int .i64 m] w fun e w' => e = .returned (.bool b) ∧ Kp w w' := by
  have k1 := (Kp.rfl' w).new (.cells #[.int .i64 m] 3)
  have c1 := cell_made w #[.int .i64 m] 3 w.heap.size 0 rfl
  have C := Lib.hid (show Calls Tryd.prog 49 #[.slice A n d, .func (.func 50) #[] #[.pointer (some ⟨w.heap.size, 0, none⟩)]] (w.alloc (.cells #[.int .i64 m] 3)) fun e w' => e = .returned (.bool (!b)) ∧ w.alloc (.cells #[.int .i64 m] 3) = w' by
    cases b with
    | true => exact hcf_no A l n d _ m _ (hl.keep k1) hn hb c1 hm (h.1 rfl)
    | false => exact hcf_yes A l n d _ m _ (hl.keep k1) hn hb c1 hm (fun h' => by have := h.2 h'; cases this))
  have K1 := Lib.hid k1
  clear hl hn h k1 c1 hm
  go_enter Tryd.func42, Tryd.ntmps42
  go_wp2_with fail
  refine (C.out).mono ?_; rintro e w' ⟨rfl, rfl⟩
  go_wp2_with fail
  go_ret
  exact ⟨by cases b <;> rfl, K1.out⟩

set_option maxRecDepth 100000 in
set_option maxHeartbeats 1600000 in
theorem HChk_main (A : Option Addr) (m : List (List Int)) (n d q : Nat) (w : World) (ha : LiesM w A m) (hn : m.length = n) (hq : (m.getD 0 []).length = q) (h1 : 0 < n) (h2 : n ≤ 3) (h3 : 0 < q) (h4 : q ≤ 3) :
    Calls Tryd.prog 28 #[.slice A n d] w fun e w' => e = .returned (errOf (qcode 3 (-20) 20 m)) ∧ Kp w w' := by
  have hm : Mx.mcode 3 (-20) 20 m = Mx.rows (-20) 20 (m.getD 0 []).length m := by
    unfold Mx.mcode
    rw [if_neg (by omega), if_neg (by omega)]
  obtain ⟨v, hv⟩ : ∃ v, v = Mx.rows (-20) 20 (m.getD 0 []).length m := ⟨_, rfl⟩
  have QV := Lib.hid (show qcode 3 (-20) 20 m = if v = 0 ∧ n ≠ q then 3 else v by unfold qcode; rw [hm, ← hv, hn, hq])
  obtain ⟨qv, hqv⟩ : ∃ qv, qv = qcode 3 (-20) 20 m := ⟨_, rfl⟩
  rw [← hqv] at QV ⊢
  have hg0 : rowsZ (-20) 20 m 0 := by unfold rowsZ; rw [List.drop_zero]
  have RNG := Lib.hid (fun (k : Nat) (hk : k < n) (hg : rowsZ (-20) 20 m k) (h0 : Mx.rcode (-20) 20 q (m.getD k []) ≠ 0) => show v = Mx.rcode (-20) 20 q (m.getD k []) by
    unfold rowsZ at hg
    rw [hv, hg, Mx.rows_drop (by omega), hq, if_neg h0])
  have OKS := Lib.hid (fun (hg : rowsZ (-20) 20 m n) => show v = 0 by
    unfold rowsZ at hg
    rw [hv, hg, Mx.rows_end (by omega)])
  have STP := Lib.hid (fun (k : Nat) (hk : k < n) (hg : rowsZ (-20) 20 m k) (h0 : Mx.rcode (-20) 20 q (m.getD k []) = 0) => rowsZ_go (by omega) hg (by rw [hq]; exact h0))
  obtain ⟨ad, A0, d0, rfl, hl0, hc0, _, hr0⟩ := ha 0 (by omega)
  rw [hq] at hc0
  rw [add_zero'] at hc0
  have HA := Lib.hid ha
  have HN := Lib.hid hn
  have G0 := Lib.hid hg0
  have HC := Lib.hid (fun (w' : World) (h : Kp w w') => (h.cell (p := ad) hl0).trans hc0)
  have e0 : ((n : Int) == 0) = false := by rw [beq_eq_false_iff_ne]; omega
  have e1 : ((q : Int) == 0) = false := by rw [beq_eq_false_iff_ne]; omega
  have e2 : ¬ (3 : Int) < n := by omega
  have e3 : ¬ (3 : Int) < q := by omega
  clear ha hn hg0 hm hv hq hr0 hqv hl0
  go_enter Tryd.func28, Tryd.ntmps28
  go_wp2_with fail
  clear hc0
  go_loopw [2, 29] (fun _ i wr => ∃ k : Nat, k ≤ n ∧ i = .int .i64 (k : Int) ∧ rowsZ (-20) 20 m k ∧ Kp w wr) (fun _ i _ => n - (intOf i).toNat)
  case atStart => exact ⟨0, Nat.zero_le _, rfl, G0.out, Kp.rfl' _⟩
  case round =>
    obtain ⟨k, hk, rfl, hg, hkp⟩ := hrel
    have HG := Lib.hid hg
    have HK := Lib.hid hkp
    have hc0 := HC.out wr hkp
    clear hg
    by_cases hlt : k < n
    · obtain ⟨ad', A1, d1, ea, _, hc1, _, hr1⟩ := (HA.out.keep hkp) k (by have := HN.out; omega)
      obtain rfl := Option.some.inj ea
      obtain ⟨p, hp⟩ : ∃ p, p = (m.getD k []).length := ⟨_, rfl⟩
      rw [← hp] at hc1
      clear hkp
      by_cases hpq : p = q
      · have e5 : ((p : Int) != (q : Int)) = false := by rw [hpq]; simp
        have CW := Lib.hid (fun b h => hwin_any A1 (m.getD k []) p d1 20 wr b hr1 hp.symm (by omega) (by omega) h)
        by_cases h0 : AllIn (m.getD k []) (-20) 20
        · have ST := Lib.hid (STP.out k hlt HG.out (Mx.rcode_ok (by omega) fun j hj => h0 j (by omega)))
          have CW2 := Lib.hid (CW.out true ⟨fun _ => h0, fun _ => rfl⟩)
          clear hr1 hp h0 CW hpq
          go_wp2_with fail
          refine (CW2.out).mono ?_; rintro e w' ⟨rfl, k1⟩
          have HK2 := Lib.hid (HK.out.trans k1)
          clear k1
          go_wp2_with fail
          go_roundw
          case rel => exact ⟨k + 1, by omega, by go_num, ST.out, HK2.out⟩
          case measure => simp [intOf]; omega
        · have hne : Mx.rcode (-20) 20 q (m.getD k []) = 1 := by
            obtain ⟨j, hj⟩ : ∃ j, ¬ (j < (m.getD k []).length → -20 ≤ (m.getD k []).getD j 0 ∧ (m.getD k []).getD j 0 ≤ 20) := Classical.not_forall.1 h0
            have hj1 : j < (m.getD k []).length := Classical.byContradiction fun e => hj fun e' => absurd e' e
            exact Mx.rcode_bad (by omega) (k := j) (by omega) (fun h2 => hj fun _ => h2)
          have E := Lib.hid (RNG.out k hlt HG.out (by omega))
          have E2 := Lib.hid (show errOf qv = .iface 45 (.int .i64 1) by rw [QV.out, if_neg (fun h => absurd (E.out.symm.trans h.1) (by omega)), E.out, hne]; rfl)
          have CW2 := Lib.hid (CW.out false ⟨fun h => (by cases h), fun h => absurd h h0⟩)
          clear hr1 hp h0 CW hpq hne
          go_wp2_with fail
          refine (CW2.out).mono ?_; rintro e w' ⟨rfl, k1⟩
          have HK2 := Lib.hid (HK.out.trans k1)
          clear k1
          go_wp2_with fail
          go_ret
          exact ⟨by rw [E2.out]; rfl, HK2.out⟩
      · have e5 : ((p : Int) != (q : Int)) = true := by rw [bne_iff_ne]; omega
        have hne : Mx.rcode (-20) 20 q (m.getD k []) = 3 := Mx.rcode_len (by omega)
        have E := Lib.hid (RNG.out k hlt HG.out (by omega))
        have E2 := Lib.hid (show errOf qv = .iface 45 (.int .i64 3) by rw [QV.out, if_neg (fun h => absurd (E.out.symm.trans h.1) (by omega)), E.out, hne]; rfl)
        clear hr1 hp hpq hne
        go_wp2_with fail
        go_ret
        exact ⟨by rw [E2.out]; rfl, HK.out⟩
    · have E := Lib.hid (OKS.out (by have h : k = n := by omega
                                     rw [← h]; exact HG.out))
      clear hkp
      by_cases hq : n = q
      · have e4 : ((n : Int) != (q : Int)) = false := by rw [hq]; simp
        have E3 := Lib.hid (show errOf qv = errOf 0 by rw [QV.out, E.out, if_neg (fun h => h.2 hq)])
        clear hq
        go_wp2_with fail
        go_ret
        exact ⟨by rw [E3.out]; rfl, HK.out⟩
      · have e4 : ((n : Int) != (q : Int)) = true := by rw [bne_iff_ne]; omega
        have E3 := Lib.hid (show qv = 3 by rw [QV.out, if_pos ⟨E.out, hq⟩])
        clear hq
        go_wp2_with fail
        go_ret
        exact ⟨by rw [E3.out]; rfl, HK.out⟩

set_option maxHeartbeats 800000 in
theorem HChk_any (A : Option Addr) (m : List (List Int)) (n d : Nat) (w : World) (ha : LiesM w A m) (hn : m.length = n) :
    Calls Tryd.prog 28 #[.slice A n d] w fun e w' => e = .returned (errOf (qcode 3 (-20) 20 m)) ∧ Kp w w' := by
  by_cases h1 : n = 0
  · have hm : qcode 3 (-20) 20 m = 5 := by rw [qcode_is (c := 5) (by unfold Mx.mcode; rw [if_pos (by omega)]) (by omega)]
    rw [hm]
    subst h1
    clear hm ha hn
    go_enter Tryd.func28, Tryd.ntmps28
    go_wp2
    go_ret
    exact ⟨rfl, Kp.rfl' _⟩
  obtain ⟨ad, A0, d0, rfl, _, hc0, _, hr0⟩ := ha 0 (by omega)
  rw [add_zero'] at hc0
  obtain ⟨q, hq⟩ : ∃ q, q = (m.getD 0 []).length := ⟨_, rfl⟩
  rw [← hq] at hc0
  have e0 : ((n : Int) == 0) = false := by rw [beq_eq_false_iff_ne]; omega
  have hn0 : (0 : Int) < n := by omega
  by_cases h2 : q = 0
  · have hm : qcode 3 (-20) 20 m = 5 := by rw [qcode_is (c := 5) (by unfold Mx.mcode; rw [if_pos (by omega)]) (by omega)]
    rw [hm]
    subst h2
    clear hm ha hn hr0 h1 hq
    go_enter Tryd.func28, Tryd.ntmps28
    go_wp2
    go_ret
    exact ⟨rfl, Kp.rfl' _⟩
  have e1 : ((q : Int) == 0) = false := by rw [beq_eq_false_iff_ne]; omega
  by_cases h3 : 3 < n
  · have hm : qcode 3 (-20) 20 m = 4 := by rw [qcode_is (c := 4) (by unfold Mx.mcode; rw [if_neg (by omega), if_pos (by omega)]) (by omega)]
    rw [hm]
    have e3 : (3 : Int) < n := by omega
    clear hm ha hn hr0 h1 hq h2 h3
    go_enter Tryd.func28, Tryd.ntmps28
    go_wp2
    go_ret
    exact ⟨rfl, Kp.rfl' _⟩
  by_cases h4 : 3 < q
  · have hm : qcode 3 (-20) 20 m = 4 := by rw [qcode_is (c := 4) (by unfold Mx.mcode; rw [if_neg (by omega), if_pos (by omega)]) (by omega)]
    rw [hm]
    have e3 : ¬ (3 : Int) < n := by omega
    have e4 : (3 : Int) < q := by omega
    clear hm ha hn hr0 h1 hq h2 h3 h4
    go_enter Tryd.func28, Tryd.ntmps28
    go_wp2
    go_ret
    exact ⟨rfl, Kp.rfl' _⟩
  exact HChk_main (some ad) m n d q w ha hn hq.symm (by omega) (by omega) (by omega) (by omega)
end Go.Proofs.YtmimbioffnolaaaDoor
