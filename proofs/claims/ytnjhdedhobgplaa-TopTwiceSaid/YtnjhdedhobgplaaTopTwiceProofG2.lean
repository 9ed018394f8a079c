/- Several texts, one behind the other: MatC2, MatC3, MatW, PolN, MatW2, MatQ, Grid, PartF, OwnM, OwnH, GaC1, Bz, Fld, GaC2, MtC1, GaC3, MatS, SoC1, RcM, RowV, ReM. -/
import Derived.Test.YtnjhdedhobgplaaTopTwiceProofG1
import Derived.StillTailTactics

/- Plain facts on what takes a matrix to noughts: its factors are sums of determinants of some rows and the same columns (with signs), and its values the determinants of x times the one less the matrix. No program is named here. -/
namespace Go.Proofs.Ytnjhdedhobgplaa.Mx
open Fp
set_option linter.unusedVariables false

theorem dt_neg : ∀ (n : Nat) (f : Nat → Nat → F), dt n (fun i j => -(f i j)) = sgn n * dt n f
  | 0, f => by show (1 : F) = sgn 0 * 1; rw [show sgn 0 = 1 from rfl]; grind
  | n + 1, f => by
    rw [dt_succ, dt_succ, ← sg_times]
    refine sg_congr fun j _ => ?_
    have h := dt_neg n (del j f)
    have e : del j (fun i j => -(f i j)) = fun a b => -(del j f a b) := rfl
    rw [e, h, sgn_succ]; grind
/-- Rows and columns of these numbers. -/
def sub (f : Nat → Nat → F) (h : List Nat) : Nat → Nat → F := fun i j => f (h.getD i 0) (h.getD j 0)
/-- The sum of the determinants of k rows and the same columns: those of h, and some of t behind them. -/
def prin (f : Nat → Nat → F) : List Nat → List Nat → Nat → F
  | h, [], k => if h.length = k then dt k (sub f h) else 0
  | h, r :: t, k => if h.length = k then dt k (sub f h) else prin f (h ++ [r]) t k + prin f h t k
theorem prin_is (f : Nat → Nat → F) (h t : List Nat) : prin f h t h.length = dt h.length (sub f h) := by
  cases t with
  | nil => unfold prin; rw [if_pos rfl]
  | cons r t => unfold prin; rw [if_pos rfl]
theorem prin_cons (f : Nat → Nat → F) (h : List Nat) (r : Nat) (t : List Nat) {k : Nat} (hk : h.length ≠ k) : prin f h (r :: t) k = prin f (h ++ [r]) t k + prin f h t k := by
  rw [prin, if_neg hk]
theorem prin_over (f : Nat → Nat → F) : ∀ (t h : List Nat) (k : Nat), k < h.length → prin f h t k = 0
  | [], h, k, hk => by unfold prin; rw [if_neg (by omega)]
  | r :: t, h, k, hk => by
    rw [prin_cons f h r t (by omega), prin_over f t (h ++ [r]) k (by simp; omega), prin_over f t h k hk]; grind
theorem prin_far (f : Nat → Nat → F) : ∀ (t h : List Nat) (k : Nat), h.length + t.length < k → prin f h t k = 0
  | [], h, k, hk => by unfold prin; rw [if_neg (by simp at hk; omega)]
  | r :: t, h, k, hk => by
    simp only [List.length_cons] at hk
    rw [prin_cons f h r t (by omega), prin_far f t (h ++ [r]) k (by simp; omega), prin_far f t h k (by omega)]; grind
theorem prin_all (f : Nat → Nat → F) : ∀ (t h : List Nat), prin f h t (h.length + t.length) = dt (h.length + t.length) (sub f (h ++ t))
  | [], h => by rw [List.append_nil]; exact prin_is f h []
  | r :: t, h => by
    simp only [List.length_cons]
    have := prin_all f t (h ++ [r])
    simp only [List.length_append, List.length_cons, List.length_nil, List.append_assoc, List.singleton_append] at this
    rw [prin_cons f h r t (by omega), prin_far f t h _ (by omega), show h.length + (t.length + 1) = h.length + (0 + 1) + t.length by omega, this]; grind
theorem prin_one (f : Nat → Nat → F) : ∀ t : List Nat, prin f [] t 1 = (t.map fun r => f r r).foldr (· + ·) 0
  | [] => by unfold prin; rw [if_neg (by simp)]; rfl
  | r :: t => by
    rw [prin_cons f [] r t (by simp), prin_one f t]
    have := prin_is f [r] t
    simp only [List.length_cons, List.length_nil] at this
    rw [List.nil_append, this]
    have e : dt (0 + 1) (sub f [r]) = f r r := by
      rw [dt_succ, sg_succ, sg_zero]
      show 0 + sgn 0 * f r r * 1 = f r r
      rw [show sgn 0 = 1 from rfl]; grind
    rw [e]; rfl

/-- x in the middle behind the first rows, less the rows and columns of these numbers. -/
def chT (f : Nat → Nat → F) (x : F) (h t : List Nat) : Nat → Nat → F := fun a b => (if a = b ∧ h.length ≤ a then x else 0) - sub f (h ++ t) a b
/-- Its factors. -/
def chC (f : Nat → Nat → F) (h t : List Nat) (j : Nat) : F := sgn (h.length + t.length - j) * prin f h t (h.length + t.length - j)
theorem getD_skip (h : List Nat) (r : Nat) (t : List Nat) (a : Nat) : (h ++ r :: t).getD (sk h.length a) 0 = (h ++ t).getD a 0 := by
  unfold sk
  by_cases e : a < h.length
  · rw [if_pos e, List.getD_eq_getElem?_getD, List.getD_eq_getElem?_getD, List.getElem?_append_left e, List.getElem?_append_left e]
  · rw [if_neg e, List.getD_eq_getElem?_getD, List.getD_eq_getElem?_getD, List.getElem?_append_right (by omega), List.getElem?_append_right (by omega), show a + 1 - h.length = (a - h.length) + 1 by omega]; rfl
theorem chT_dt (f : Nat → Nat → F) (x : F) : ∀ (t h : List Nat), dt (h.length + t.length) (chT f x h t) = vx t.length (chC f h t) x
  | [], h => by
    show dt (h.length + 0) _ = vx 0 _ x
    rw [vx_zero, Nat.add_zero]
    have e : dt h.length (chT f x h []) = dt h.length (fun i j => -(sub f h i j)) := dt_congr _ fun a b ha hb => by
      unfold chT; rw [if_neg (by omega), List.append_nil]; grind
    rw [e, dt_neg]
    unfold chC
    show _ = sgn (h.length + 0 - 0) * prin f h [] (h.length + 0 - 0)
    rw [show h.length + 0 - 0 = h.length by omega, prin_is]
  | r :: t, h => by
    have h1 := chT_dt f x t h
    have h2 := chT_dt f x t (h ++ [r])
    have hl : (r :: t).length = t.length + 1 := rfl
    have hl2 : (h ++ [r]).length = h.length + 1 := by simp
    rw [hl2] at h2
    rw [hl]
    -- row h.length is x in its place, less a row
    have e0 : chT f x h (r :: t) = setr h.length (fun b => x * (if b = h.length then 1 else 0) + (-(sub f (h ++ r :: t) h.length b))) (chT f x h (r :: t)) := by
      funext a b
      unfold setr
      by_cases e : a = h.length
      · rw [if_pos e]
        unfold chT
        dsimp only
        by_cases e2 : b = h.length
        · rw [if_pos ⟨by omega, by omega⟩, if_pos e2, e]; grind
        · rw [if_neg (by omega), if_neg e2, e]; grind
      · rw [if_neg e]
    have hp : h.length < h.length + (t.length + 1) := by omega
    have s1 := dt_rlin (h.length + (t.length + 1)) h.length hp x 1 (fun b => if b = h.length then 1 else 0) (fun b => -(sub f (h ++ r :: t) h.length b)) (chT f x h (r :: t))
    have e1 : dt (h.length + (t.length + 1)) (setr h.length (fun b => if b = h.length then 1 else 0) (chT f x h (r :: t))) = vx t.length (chC f h t) x := by
      rw [← h1, show h.length + (t.length + 1) = (h.length + t.length) + 1 by omega, ← laplace_row (h.length + t.length) h.length _ _ (by omega),
        sg_one (k := h.length) (by omega) fun j _ hj => by rw [if_neg hj]; grind]
      rw [if_pos rfl, show sgn (h.length + h.length) = 1 by rw [sgn_add, sgn_two]]
      have : dt (h.length + t.length) (wo (chT f x h (r :: t)) h.length h.length) = dt (h.length + t.length) (chT f x h t) := dt_congr _ fun a b _ _ => by
        show chT f x h (r :: t) (sk h.length a) (sk h.length b) = _
        unfold chT sub
        rw [getD_skip, getD_skip]
        congr 1
        by_cases e : a = b ∧ h.length ≤ a
        · rw [if_pos e, if_pos ⟨by rw [e.1], by unfold sk; rw [if_neg (by omega)]; omega⟩]
        · rw [if_neg e, if_neg fun e3 => e ⟨sk_inj e3.1, by
            have := e3.2
            unfold sk at this
            split at this <;> omega⟩]
      rw [this]; grind
    have e2 : dt (h.length + (t.length + 1)) (setr h.length (fun b => -(sub f (h ++ r :: t) h.length b)) (chT f x h (r :: t))) = vx t.length (chC f (h ++ [r]) t) x := by
      rw [← h2, show h.length + (t.length + 1) = h.length + 1 + t.length by omega]
      refine dt_congr _ fun a b _ _ => ?_
      unfold setr chT
      rw [hl2, show h ++ [r] ++ t = h ++ r :: t by simp]
      by_cases e : a = h.length
      · rw [if_pos e, if_neg (by omega), e]; grind
      · rw [if_neg e]
        by_cases e4 : a = b ∧ h.length ≤ a
        · rw [if_pos e4, if_pos (by omega)]
        · rw [if_neg e4, if_neg (by omega)]
    have e3 : (fun b => x * (if b = h.length then 1 else 0) + 1 * (-(sub f (h ++ r :: t) h.length b))) = fun b => x * (if b = h.length then 1 else 0) + (-(sub f (h ++ r :: t) h.length b)) := by
      funext b; grind
    rw [e3, ← e0, e1, e2] at s1
    rw [s1, vx_shift, show (1 : F) * vx t.length (chC f (h ++ [r]) t) x = vx t.length (chC f (h ++ [r]) t) x by grind, ← vx_up (Nat.le_succ t.length) (chC f (h ++ [r]) t), vx_add]
    refine vx_congr (fun j hj => ?_) x
    unfold chC
    rw [hl, hl2]
    have hN : h.length + (t.length + 1) - j = h.length + 1 + t.length - j := by omega
    rw [hN]
    by_cases j0 : j = 0
    · subst j0
      rw [if_pos rfl, if_pos (Nat.zero_le _), prin_cons f h r t (by omega), prin_far f t h _ (by omega)]; grind
    · rw [if_neg j0, show h.length + t.length - (j - 1) = h.length + 1 + t.length - j by omega]
      by_cases j1 : j ≤ t.length
      · rw [if_pos j1, prin_cons f h r t (by omega)]; grind
      · rw [if_neg j1, show h.length + 1 + t.length - j = h.length by omega, prin_is, prin_is]; grind

/-- x times the one, less a matrix. -/
def chm (f : Nat → Nat → F) (x : F) : Nat → Nat → F := fun i j => (if i = j then x else 0) - f i j
/-- The factors of what takes a matrix to noughts. -/
def ch (n : Nat) (f : Nat → Nat → F) : Nat → F := chC f [] (List.range n)
theorem range_getD {n i : Nat} (h : i < n) : (List.range n).getD i 0 = i := by simp [h]
theorem ch_is (n : Nat) (f : Nat → Nat → F) (x : F) : dt n (chm f x) = vx n (ch n f) x := by
  have h := chT_dt f x (List.range n) []
  simp only [List.length_nil, List.length_range, Nat.zero_add] at h
  rw [ch, ← h]
  refine dt_congr n fun a b ha hb => ?_
  unfold chm chT sub
  rw [List.nil_append, range_getD ha, range_getD hb]
  congr 1
  by_cases e : a = b
  · rw [if_pos e, if_pos ⟨e, Nat.zero_le _⟩]
  · rw [if_neg e, if_neg fun h => e h.1]
theorem ch_one {n : Nat} (hn : n < 9973) {f g : Nat → Nat → F} (h : ∀ x, dt n (chm f x) = dt n (chm g x)) : ∀ k, k ≤ n → ch n f k = ch n g k :=
  vx_eq hn fun x => by rw [← ch_is, ← ch_is, h]
theorem ch_congr {n : Nat} (hn : n < 9973) {f g : Nat → Nat → F} (h : Eqm n n f g) : ∀ k, k ≤ n → ch n f k = ch n g k :=
  ch_one hn fun x => dt_congr n fun i j hi hj => by unfold chm; rw [h i j hi hj]
theorem ch_top (n : Nat) (f : Nat → Nat → F) : ch n f n = 1 := by
  unfold ch chC
  rw [List.length_range, show ([] : List Nat).length + n - n = 0 by simp, show sgn 0 = 1 from rfl]
  have := prin_is f [] (List.range n)
  rw [List.length_nil] at this
  rw [this]
  show (1 : F) * 1 = 1
  grind
theorem ch_low (n : Nat) (f : Nat → Nat → F) : ch n f 0 = sgn n * dt n f := by
  have h := ch_is n f 0
  rw [vx_at_zero] at h
  rw [← h, ← dt_neg]
  refine dt_congr n fun i j _ _ => ?_
  unfold chm
  by_cases e : i = j
  · rw [if_pos e]; grind
  · rw [if_neg e]; grind
theorem foldr_sg (g : Nat → F) : ∀ n, ((List.range n).map g).foldr (· + ·) 0 = sg n g
  | 0 => rfl
  | n + 1 => by
    have aux : ∀ (l : List F) (a : F), (l ++ [a]).foldr (· + ·) 0 = l.foldr (· + ·) 0 + a := fun l a => by
      induction l with
      | nil => show a + 0 = 0 + a; grind
      | cons b l ih => rw [List.cons_append, List.foldr_cons, ih, List.foldr_cons]; grind
    rw [List.range_succ, List.map_append, List.map_cons, List.map_nil, aux, foldr_sg g n, sg_succ]
theorem ch_mid (p : Nat) (f : Nat → Nat → F) : ch (p + 1) f p = -(sg (p + 1) fun i => f i i) := by
  unfold ch chC
  rw [List.length_range, show ([] : List Nat).length + (p + 1) - p = 1 by simp, show sgn 1 = -1 from rfl, prin_one, foldr_sg]; grind
theorem ch_flip {n : Nat} (hn : n < 9973) (f : Nat → Nat → F) : ∀ k, k ≤ n → ch n (flip f) k = ch n f k := ch_one hn fun x => by
  rw [← dt_flip n (chm f x)]
  refine dt_congr n fun i j _ _ => ?_
  show (if i = j then x else 0) - f j i = (if j = i then x else 0) - f j i
  by_cases e : i = j
  · rw [if_pos e, if_pos e.symm]
  · rw [if_neg e, if_neg fun h => e h.symm]

end Go.Proofs.Ytnjhdedhobgplaa.Mx

/- Plain facts: a product has the same factors the other way round (Sylvester); a matrix takes itself to noughts (Cayley, Hamilton), and what undoes it is made of its powers. No program is named here. -/
namespace Go.Proofs.Ytnjhdedhobgplaa.Mx
open Fp
set_option linter.unusedVariables false

/-- Noughts to the right of the first n rows and columns. -/
theorem dt_right : ∀ (n m : Nat) (g : Nat → Nat → F), (∀ i j, i < n → n ≤ j → j < n + m → g i j = 0) → dt (n + m) g = dt n g * dt m (fun i j => g (n + i) (n + j))
  | 0, m, g, _ => by
    have e : (fun i j => g (0 + i) (0 + j)) = g := funext fun i => funext fun j => by rw [Nat.zero_add, Nat.zero_add]
    rw [Nat.zero_add, e]
    show dt m g = 1 * dt m g
    grind
  | n + 1, m, g, h => by
    rw [show n + 1 + m = n + m + 1 by omega, dt_succ, dt_succ, ← sg_by, show n + m + 1 = (n + 1) + m by omega, sg_split]
    have e2 : (sg m fun i => sgn (n + 1 + i) * g 0 (n + 1 + i) * dt (n + m) (del (n + 1 + i) g)) = 0 := by
      rw [sg_congr (g := fun _ => 0) fun i hi => by rw [h 0 (n + 1 + i) (by omega) (by omega) (by omega)]; grind, sg_none]
    rw [e2]
    have e1 : (sg (n + 1) fun j => sgn j * g 0 j * dt (n + m) (del j g)) = sg (n + 1) fun j => sgn j * g 0 j * dt n (del j g) * dt m (fun i k => g (n + 1 + i) (n + 1 + k)) := sg_congr fun j hj => by
      have := dt_right n m (del j g) fun a b ha hb hb2 => by
        show g (a + 1) (sk j b) = 0
        unfold sk; rw [if_neg (by omega)]
        exact h _ _ (by omega) (by omega) (by omega)
      have e : dt m (fun i k => del j g (n + i) (n + k)) = dt m (fun i k => g (n + 1 + i) (n + 1 + k)) := dt_congr m fun i k _ _ => by
        show g (n + i + 1) (sk j (n + k)) = _
        unfold sk; rw [if_neg (by omega)]
        congr 1 <;> omega
      rw [this, e]; grind
    rw [e1]; grind
/-- Noughts below the first n rows and columns. -/
theorem dt_below (n m : Nat) (g : Nat → Nat → F) (h : ∀ i j, n ≤ i → i < n + m → j < n → g i j = 0) : dt (n + m) g = dt n g * dt m (fun i j => g (n + i) (n + j)) := by
  rw [← dt_flip (n + m) g, dt_right n m (flip g) (fun i j hi hj hj2 => h j i hj hj2 hi), dt_flip n g]
  congr 1
  exact dt_flip m fun i j => g (n + i) (n + j)

/-- Four matrices as one. -/
def four (n : Nat) (p q r s : Nat → Nat → F) : Nat → Nat → F := fun i j => if i < n then (if j < n then p i j else q i (j - n)) else (if j < n then r (i - n) j else s (i - n) (j - n))
theorem four_mul (n : Nat) (p q r s p' q' r' s' : Nat → Nat → F) :
    mul (n + n) (four n p q r s) (four n p' q' r' s') = four n (plus (mul n p p') (mul n q r')) (plus (mul n p q') (mul n q s')) (plus (mul n r p') (mul n s r')) (plus (mul n r q') (mul n s s')) := by
  funext i j
  unfold mul
  rw [sg_split]
  unfold four
  by_cases hi : i < n
  · rw [if_pos hi]
    by_cases hj : j < n
    · rw [if_pos hj]
      unfold plus
      congr 1
      · exact sg_congr fun x hx => by rw [if_pos hi, if_pos hx, if_pos hx, if_pos hj]
      · exact sg_congr fun x hx => by rw [if_pos hi, if_neg (by omega), if_neg (by omega), if_pos hj, Nat.add_sub_cancel_left]
    · rw [if_neg hj]
      unfold plus
      congr 1
      · exact sg_congr fun x hx => by rw [if_pos hi, if_pos hx, if_pos hx, if_neg hj]
      · exact sg_congr fun x hx => by rw [if_pos hi, if_neg (by omega), if_neg (by omega), if_neg hj, Nat.add_sub_cancel_left]
  · rw [if_neg hi]
    by_cases hj : j < n
    · rw [if_pos hj]
      unfold plus
      congr 1
      · exact sg_congr fun x hx => by rw [if_neg hi, if_pos hx, if_pos hx, if_pos hj]
      · exact sg_congr fun x hx => by rw [if_neg hi, if_neg (by omega), if_neg (by omega), if_pos hj, Nat.add_sub_cancel_left]
    · rw [if_neg hj]
      unfold plus
      congr 1
      · exact sg_congr fun x hx => by rw [if_neg hi, if_pos hx, if_pos hx, if_neg hj]
      · exact sg_congr fun x hx => by rw [if_neg hi, if_neg (by omega), if_neg (by omega), if_neg hj, Nat.add_sub_cancel_left]
def zer : Nat → Nat → F := fun _ _ => 0
def ngm (f : Nat → Nat → F) : Nat → Nat → F := fun i j => -(f i j)
theorem dt_four_high (n : Nat) (p q s : Nat → Nat → F) {r : Nat → Nat → F} (hr : Eqm n n r zer) : dt (n + n) (four n p q r s) = dt n p * dt n s := by
  rw [dt_below n n _ fun i j h1 h2 h3 => by unfold four; rw [if_neg (by omega), if_pos h3, hr _ _ (by omega) h3]; rfl]
  congr 1
  · exact dt_congr n fun i j hi hj => by unfold four; rw [if_pos hi, if_pos hj]
  · exact dt_congr n fun i j hi hj => by unfold four; rw [if_neg (by omega), if_neg (by omega), Nat.add_sub_cancel_left, Nat.add_sub_cancel_left]
theorem dt_four_low (n : Nat) (p r s : Nat → Nat → F) : dt (n + n) (four n p zer r s) = dt n p * dt n s := by
  rw [dt_right n n _ fun i j h1 h2 h3 => by unfold four; rw [if_pos h1, if_neg (by omega)]; rfl]
  congr 1
  · exact dt_congr n fun i j hi hj => by unfold four; rw [if_pos hi, if_pos hj]
  · exact dt_congr n fun i j hi hj => by unfold four; rw [if_neg (by omega), if_neg (by omega), Nat.add_sub_cancel_left, Nat.add_sub_cancel_left]
theorem mul_scal (n : Nat) (d : F) (f : Nat → Nat → F) {i j : Nat} (hj : j < n) : mul n f (scal d) i j = f i j * d := by
  unfold mul scal
  rw [sg_one hj fun k _ hk => by rw [if_neg hk]; grind, if_pos rfl]
theorem scal_mul (n : Nat) (d : F) (f : Nat → Nat → F) {i j : Nat} (hi : i < n) : mul n (scal d) f i j = d * f i j := by
  unfold mul scal
  rw [sg_one hi fun k _ hk => by rw [if_neg fun e => hk e.symm]; grind, if_pos rfl]
theorem mul_ngm (n : Nat) (f g : Nat → Nat → F) (i j : Nat) : mul n f (ngm g) i j = -(mul n f g i j) := by
  have : mul n f (ngm g) i j = (-1) * mul n f g i j := by
    unfold mul; rw [← sg_times]; exact sg_congr fun k _ => by show f i k * -(g k j) = _; grind
  rw [this]; grind
theorem ngm_mul (n : Nat) (f g : Nat → Nat → F) (i j : Nat) : mul n (ngm f) g i j = -(mul n f g i j) := by
  have : mul n (ngm f) g i j = (-1) * mul n f g i j := by
    unfold mul; rw [← sg_times]; exact sg_congr fun k _ => by show -(f i k) * g k j = _; grind
  rw [this]; grind
theorem pw_ne {x : F} (h : x ≠ 0) : ∀ n, pw x n ≠ 0
  | 0 => by rw [pw_zero]; decide
  | n + 1 => fun e => by
    rw [pw_succ] at e
    rcases mul_zero_or e with e | e
    · exact pw_ne h n e
    · exact h e
theorem scal_one : scal 1 = one := rfl
theorem chm_both (n : Nat) (a b : Nat → Nat → F) (x : F) : dt n (chm (mul n a b) x) = dt n (chm (mul n b a) x) := by
  by_cases h0 : x = 0
  · have e : ∀ f : Nat → Nat → F, dt n (chm f 0) = sgn n * dt n f := fun f => by
      rw [← dt_neg]
      exact dt_congr n fun i j _ _ => by unfold chm; split <;> grind
    rw [h0, e, e, dt_mul, dt_mul]; grind
  · have m1 := dt_mul (n + n) (four n (scal x) a b (scal 1)) (four n (scal 1) zer (ngm b) (scal 1))
    have m2 := dt_mul (n + n) (four n (scal 1) zer (ngm b) (scal x)) (four n (scal x) a b (scal 1))
    rw [four_mul, dt_four_low, dt_four_high n _ _ _ (fun i j hi hj => by
      show mul n b (scal 1) i j + mul n (scal 1) (ngm b) i j = 0
      rw [mul_scal n 1 b hj, scal_mul n 1 (ngm b) hi]; show b i j * 1 + 1 * -(b i j) = 0; grind)] at m1
    rw [four_mul, dt_four_low, dt_four_high n _ _ _ (fun i j hi hj => by
      show mul n (ngm b) (scal x) i j + mul n (scal x) b i j = 0
      rw [mul_scal n x (ngm b) hj, scal_mul n x b hi]; show -(b i j) * x + x * b i j = 0; grind)] at m2
    have d1 : dt n (scal 1) = 1 := by rw [dt_scal, pw_one_base]
    have p1 : dt n (plus (mul n (scal x) (scal 1)) (mul n a (ngm b))) = dt n (chm (mul n a b) x) := dt_congr n fun i j hi hj => by
      show mul n (scal x) (scal 1) i j + mul n a (ngm b) i j = _
      rw [mul_scal n 1 _ hj, mul_ngm]
      unfold chm scal; split <;> grind
    have s1 : dt n (plus (mul n b zer) (mul n (scal 1) (scal 1))) = 1 := by
      refine Eq.trans ?_ d1
      exact dt_congr n fun i j hi hj => by
        show mul n b zer i j + mul n (scal 1) (scal 1) i j = _
        have e : mul n b zer i j = 0 := by
          unfold mul
          rw [sg_congr (g := fun _ => 0) fun k _ => by show b i k * 0 = 0; grind, sg_none]
        rw [e, mul_scal n 1 _ hj]; grind
    have p2 : dt n (plus (mul n (scal 1) (scal x)) (mul n zer b)) = dt n (scal x) := dt_congr n fun i j hi hj => by
      show mul n (scal 1) (scal x) i j + mul n zer b i j = _
      have e : mul n zer b i j = 0 := by
        unfold mul
        rw [sg_congr (g := fun _ => 0) fun k _ => by show 0 * b k j = 0; grind, sg_none]
      rw [e, scal_mul n 1 _ hi]; grind
    have s2 : dt n (plus (mul n (ngm b) a) (mul n (scal x) (scal 1))) = dt n (chm (mul n b a) x) := dt_congr n fun i j hi hj => by
      show mul n (ngm b) a i j + mul n (scal x) (scal 1) i j = _
      rw [mul_scal n 1 _ hj, ngm_mul]
      unfold chm scal; split <;> grind
    rw [p1, s1, d1] at m1
    rw [p2, s2, d1] at m2
    have hne := pw_ne h0 n
    rw [dt_scal] at m2
    have : pw x n * (dt n (chm (mul n a b) x) - dt n (chm (mul n b a) x)) = 0 := by grind
    rcases mul_zero_or this with e | e
    · exact absurd e hne
    · grind
/-- A product has the same factors the other way round. -/
theorem ch_both {n : Nat} (hn : n < 9973) (a b : Nat → Nat → F) : ∀ k, k ≤ n → ch n (mul n a b) k = ch n (mul n b a) k := ch_one hn fun x => chm_both n a b x

/-- The sum of factors times powers. -/
def csum (n : Nat) (c : Nat → F) (f : Nat → Nat → F) (m : Nat) : Nat → Nat → F := fun i j => sg (m + 1) fun k => c k * pwm n f k i j
theorem csum_succ (n : Nat) (c : Nat → F) (f : Nat → Nat → F) (m i j : Nat) : csum n c f (m + 1) i j = csum n c f m i j + c (m + 1) * pwm n f (m + 1) i j := sg_succ _ _
/-- What is beside the rows and columns of x times the one less a matrix, in powers of x. -/
theorem adj_pol (p : Nat) (f : Nat → Nat → F) (i j : Nat) : IsP p fun x => adj p (chm f x) i j := by
  obtain ⟨c, hc⟩ := (IsP.dt p (fun a b => -(f (sk j a) (sk i b))) (fun a b => if sk j a = sk i b then 1 else 0)).times (sgn (i + j))
  refine ⟨c, fun x => ?_⟩
  rw [← hc]
  show sgn (i + j) * dt p (wo (chm f x) j i) = _
  congr 1
  refine dt_congr p fun a b _ _ => ?_
  show (if sk j a = sk i b then x else 0) - f (sk j a) (sk i b) = _
  split <;> grind
/-- A matrix takes itself to noughts. -/
theorem cayley (p : Nat) (hp : p + 1 < 9973) (f : Nat → Nat → F) : Eqm (p + 1) (p + 1) (csum (p + 1) (ch (p + 1) f) f (p + 1)) zer := by
  obtain ⟨B, hB⟩ : ∃ B : Nat → Nat → Nat → F, ∀ i j x, adj p (chm f x) i j = vx p (B i j) x :=
    ⟨fun i j => Classical.choose (adj_pol p f i j), fun i j => Classical.choose_spec (adj_pol p f i j)⟩
  -- what stands with x to the power k on both sides
  have HC : ∀ i j, i < p + 1 → j < p + 1 → ∀ k, k ≤ p + 1 → (if k = 0 then 0 else B i j (k - 1)) + (-1) * (if k ≤ p then sg (p + 1) (fun t => f i t * B t j k) else 0) = if i = j then ch (p + 1) f k else 0 := by
    intro i j hi hj
    refine vx_eq hp fun x => ?_
    have h := adj_right p (chm f x) i j hi hj
    have hl : mul (p + 1) (chm f x) (adj p (chm f x)) i j = x * vx p (B i j) x + (-1) * vx p (fun k => sg (p + 1) fun t => f i t * B t j k) x := by
      have e1 : mul (p + 1) (chm f x) (adj p (chm f x)) i j = (sg (p + 1) fun t => (if i = t then x else 0) * vx p (B t j) x) + (-1) * sg (p + 1) fun t => f i t * vx p (B t j) x := by
        unfold mul
        rw [← sg_times, ← sg_add]
        exact sg_congr fun t _ => by rw [hB]; unfold chm; grind
      have e2 : (sg (p + 1) fun t => (if i = t then x else 0) * vx p (B t j) x) = x * vx p (B i j) x := by
        rw [sg_one hi fun t _ ht => by rw [if_neg fun e => ht e.symm]; grind, if_pos rfl]
      have e3 : (sg (p + 1) fun t => f i t * vx p (B t j) x) = vx p (fun k => sg (p + 1) fun t => f i t * B t j k) x := by
        unfold vx
        rw [sg_congr (g := fun t => sg (p + 1) fun k => f i t * B t j k * pw x k) fun t _ => by rw [← sg_times]; exact sg_congr fun k _ => by grind, sg_swap]
        exact sg_congr fun k _ => by rw [sg_by]
      rw [e1, e2, e3]
    rw [hl, vx_shift, ← vx_up (Nat.le_succ p) (fun k => sg (p + 1) fun t => f i t * B t j k), vx_times, vx_add] at h
    rw [h]
    unfold scal
    by_cases e : i = j
    · rw [if_pos e, ch_is]
      exact vx_congr (fun k _ => by rw [if_pos e]) x
    · rw [if_neg e]
      rw [vx_congr (e := fun _ => 0) (fun k _ => by rw [if_neg e]) x]
      unfold vx
      rw [sg_congr (g := fun _ => 0) fun k _ => by grind, sg_none]
  let Bm : Nat → Nat → Nat → F := fun k i j => B i j k
  have S : ∀ m, m ≤ p → Eqm (p + 1) (p + 1) (csum (p + 1) (ch (p + 1) f) f m) (ngm (mul (p + 1) (pwm (p + 1) f (m + 1)) (Bm m))) := by
    intro m
    induction m with
    | zero =>
      intro _ i j hi hj
      have h := HC i j hi hj 0 (by omega)
      rw [if_pos rfl, if_pos (Nat.zero_le p)] at h
      have e := Eqm.mul (pwm_one (p + 1) f) (Eqm.rfl' (p + 1) (p + 1) (Bm 0)) i j hi hj
      show csum (p + 1) _ f 0 i j = -(mul (p + 1) (pwm (p + 1) f (0 + 1)) (Bm 0) i j)
      rw [e]
      show (sg (0 + 1) fun k => ch (p + 1) f k * pwm (p + 1) f k i j) = -(sg (p + 1) fun t => f i t * B t j 0)
      rw [sg_succ, sg_zero]
      show 0 + ch (p + 1) f 0 * (if i = j then 1 else 0) = _
      by_cases e2 : i = j
      · rw [if_pos e2] at h ⊢; grind
      · rw [if_neg e2] at h ⊢; grind
    | succ m ih =>
      intro hm i j hi hj
      have h0 := ih (by omega) i j hi hj
      rw [csum_succ, h0]
      -- B of m is the factor's one and what the matrix does to the next B
      have e1 : mul (p + 1) (pwm (p + 1) f (m + 1)) (Bm m) i j = mul (p + 1) (pwm (p + 1) f (m + 1)) (plus (scal (ch (p + 1) f (m + 1))) (mul (p + 1) f (Bm (m + 1)))) i j :=
        Eqm.mul (Eqm.rfl' (p + 1) (p + 1) _) (fun a b ha hb => by
          have h := HC a b ha hb (m + 1) (by omega)
          rw [if_neg (by omega), if_pos (by omega), show m + 1 - 1 = m from rfl] at h
          show B a b m = (if a = b then ch (p + 1) f (m + 1) else 0) + sg (p + 1) fun t => f a t * B t b (m + 1)
          rw [← h]; grind) i j hi hj
      have e2 : mul (p + 1) (pwm (p + 1) f (m + 1)) (mul (p + 1) f (Bm (m + 1))) i j = mul (p + 1) (pwm (p + 1) f (m + 1 + 1)) (Bm (m + 1)) i j := by
        rw [← mul_assoc]
        exact Eqm.mul (pwm_snoc (p + 1) f (m + 1)) (Eqm.rfl' (p + 1) (p + 1) _) i j hi hj
      show -(mul (p + 1) (pwm (p + 1) f (m + 1)) (Bm m) i j) + _ = -(mul (p + 1) (pwm (p + 1) f (m + 1 + 1)) (Bm (m + 1)) i j)
      rw [e1, mul_plus, ← e2]
      show -(mul (p + 1) (pwm (p + 1) f (m + 1)) (scal (ch (p + 1) f (m + 1))) i j + mul (p + 1) (pwm (p + 1) f (m + 1)) (mul (p + 1) f (Bm (m + 1))) i j) + _ = _
      rw [mul_scal (p + 1) _ _ hj]; grind
  intro i j hi hj
  have h := S p (Nat.le_refl p) i j hi hj
  rw [csum_succ, h]
  have e1 : mul (p + 1) (pwm (p + 1) f (p + 1)) (Bm p) i j = mul (p + 1) (pwm (p + 1) f (p + 1)) (scal (ch (p + 1) f (p + 1))) i j :=
    Eqm.mul (Eqm.rfl' (p + 1) (p + 1) _) (fun a b ha hb => by
      have h := HC a b ha hb (p + 1) (Nat.le_refl _)
      rw [if_neg (by omega), if_neg (by omega), show p + 1 - 1 = p from rfl] at h
      show B a b p = if a = b then ch (p + 1) f (p + 1) else 0
      rw [← h]; grind) i j hi hj
  show -(mul (p + 1) (pwm (p + 1) f (p + 1)) (Bm p) i j) + _ = 0
  rw [e1, mul_scal (p + 1) _ _ hj]; grind

theorem mul_sum (n m : Nat) (t : Nat → Nat → F) (c : Nat → F) (g : Nat → Nat → Nat → F) (i j : Nat) : mul n t (fun a b => sg m fun q => c q * g q a b) i j = sg m fun q => c q * mul n t (g q) i j := by
  unfold mul
  rw [sg_congr (g := fun k => sg m fun q => c q * (t i k * g q k j)) fun k _ => by rw [← sg_times]; exact sg_congr fun q _ => by grind, sg_swap]
  exact sg_congr fun q _ => by rw [sg_times]
/-- What undoes a matrix is made of its powers. -/
theorem undo_pol (p : Nat) (hp : p + 1 < 9973) {f t : Nat → Nat → F} (ht : Eqm (p + 1) (p + 1) (mul (p + 1) t f) one) {k : F} (hk : k * ch (p + 1) f 0 = -1) :
    Eqm (p + 1) (p + 1) t fun i j => sg (p + 1) fun q => ch (p + 1) f (q + 1) * k * pwm (p + 1) f q i j := fun i j hi hj => by
  have h := (Eqm.rfl' (p + 1) (p + 1) t).mul (cayley p hp f) i j hi hj
  have hz : mul (p + 1) t zer i j = 0 := by
    unfold mul
    rw [sg_congr (g := fun _ => 0) fun a _ => by show t i a * 0 = 0; grind, sg_none]
  rw [hz] at h
  have h1 : mul (p + 1) t (csum (p + 1) (ch (p + 1) f) f (p + 1)) i j = sg (p + 1 + 1) fun q => ch (p + 1) f q * mul (p + 1) t (pwm (p + 1) f q) i j := mul_sum _ _ _ _ _ _ _
  rw [h1, sg_first] at h
  have h2 : mul (p + 1) t (pwm (p + 1) f 0) i j = t i j := mul_one (p + 1) (p + 1) t i j hi hj
  have h3 : (sg (p + 1) fun q => ch (p + 1) f (q + 1) * mul (p + 1) t (pwm (p + 1) f (q + 1)) i j) = sg (p + 1) fun q => ch (p + 1) f (q + 1) * pwm (p + 1) f q i j := sg_congr fun q _ => by
    have e : mul (p + 1) t (pwm (p + 1) f (q + 1)) i j = pwm (p + 1) f q i j := by
      show mul (p + 1) t (mul (p + 1) f (pwm (p + 1) f q)) i j = _
      rw [← mul_assoc, Eqm.mul ht (Eqm.rfl' (p + 1) (p + 1) (pwm (p + 1) f q)) i j hi hj, one_mul (p + 1) (p + 1) _ i j hi hj]
    rw [e]
  rw [h2, h3] at h
  have h4 : (sg (p + 1) fun q => ch (p + 1) f (q + 1) * k * pwm (p + 1) f q i j) = k * sg (p + 1) fun q => ch (p + 1) f (q + 1) * pwm (p + 1) f q i j := by
    rw [← sg_times]; exact sg_congr fun q _ => by grind
  dsimp only
  rw [h4]
  grind

end Go.Proofs.Ytnjhdedhobgplaa.Mx

/- Plain facts on the matrix of two rows of factors, each as often as the other one's power (Sylvester): its determinant of products, at what comes to 0 at one number, and the other way round. No program is named here. -/
namespace Go.Proofs.Ytnjhdedhobgplaa.Mx
open Fp
set_option linter.unusedVariables false

/-- The factors i places later. -/
def shf (a : Nat → F) (i j : Nat) : F := if i ≤ j then a (j - i) else 0
theorem shf_in (a : Nat → F) {i j : Nat} (h : i ≤ j) : shf a i j = a (j - i) := if_pos h
theorem shf_out (a : Nat → F) {i j : Nat} (h : j < i) : shf a i j = 0 := if_neg (by omega)
/-- No factor beyond that of x to the power d. -/
def Deg (d : Nat) (a : Nat → F) : Prop := ∀ k, d < k → a k = 0
/-- A product. -/
def cvp (a b : Nat → F) (t : Nat) : F := sg (t + 1) fun s => a s * b (t - s)
theorem sg_turn : ∀ (n : Nat) (g : Nat → F), (sg n fun j => g (n - 1 - j)) = sg n g
  | 0, _ => rfl
  | n + 1, g => by
    rw [sg_first, sg_succ n g, ← sg_turn n g]
    have e3 : (sg n fun i => g (n + 1 - 1 - (i + 1))) = sg n fun j => g (n - 1 - j) := sg_congr fun i hi => by congr 1; omega
    rw [e3]
    show g (n + 1 - 1 - 0) + _ = _ + g n
    rw [show n + 1 - 1 - 0 = n by omega]; grind
theorem cvp_comm (a b : Nat → F) : cvp a b = cvp b a := funext fun t => by
  unfold cvp
  rw [← sg_turn (t + 1) fun s => b s * a (t - s)]
  exact sg_congr fun s hs => by rw [show t + 1 - 1 - s = t - s by omega, show t - (t - s) = s by omega]; grind
theorem Deg.cvp {p q : Nat} {a b : Nat → F} (ha : Deg p a) (hb : Deg q b) : Deg (p + q) (cvp a b) := fun k hk => by
  unfold Mx.cvp
  rw [sg_congr (g := fun _ => 0) fun s hs => by
    by_cases h : p < s
    · rw [ha s h]; grind
    · rw [hb (k - s) (by omega)]; grind, sg_none]
theorem cvp_top {p q : Nat} {a b : Nat → F} (ha : Deg p a) (hb : Deg q b) : cvp a b (p + q) = a p * b q := by
  unfold cvp
  rw [sg_one (k := p) (by omega) fun s hs hne => by
    rcases Nat.lt_or_ge p s with h | h
    · rw [ha s h]; grind
    · rw [hb (p + q - s) (by omega)]; grind, show p + q - p = q by omega]
/-- Rows of shifted factors times such rows are those of the product. -/
theorem shf_cvp {d M : Nat} {a : Nat → F} (ha : Deg d a) (b : Nat → F) {i : Nat} (hM : i + d < M) (j : Nat) : (sg M fun k => shf a i k * shf b k j) = shf (cvp a b) i j := by
  obtain ⟨r, rfl⟩ : ∃ r, M = i + r := ⟨M - i, by omega⟩
  rw [sg_split]
  have z : (sg i fun k => shf a i k * shf b k j) = 0 := by
    rw [sg_congr (g := fun _ => 0) fun k hk => by rw [shf_out a hk]; grind, sg_none]
  have e1 : (sg r fun k => shf a i (i + k) * shf b (i + k) j) = sg r fun k => a k * shf b (i + k) j := sg_congr fun k _ => by rw [shf_in a (by omega), Nat.add_sub_cancel_left]
  rw [z, e1]
  by_cases h : i ≤ j
  · rw [shf_in _ h]
    unfold cvp
    have e2 : (sg (j - i + 1) fun s => a s * b (j - i - s)) = sg (j - i + 1) fun s => a s * shf b (i + s) j := sg_congr fun s hs => by
      rw [shf_in b (by omega), show j - (i + s) = j - i - s by omega]
    rw [e2]
    rcases Nat.le_total r (j - i + 1) with hr | hr
    · rw [sg_less (n := r) (m := j - i + 1) hr fun s h1 h2 => by rw [ha s (by omega)]; grind]; grind
    · rw [sg_less (n := j - i + 1) (m := r) hr fun s h1 h2 => by rw [shf_out b (by omega)]; grind]; grind
  · rw [shf_out _ (by omega), sg_congr (g := fun _ => 0) fun k _ => by rw [shf_out b (by omega)]; grind, sg_none]; grind

/-- Both rows of factors, the second one as often as the first one's power, and behind it the first one. -/
def sy (p : Nat) (f h : Nat → F) : Nat → Nat → F := fun i j => if i < p then shf h i j else shf f (i - p) j
/-- The determinant of both: p, r their powers. -/
def rs (p r : Nat) (f h : Nat → F) : F := dt (p + r) (sy p f h)
theorem pr_const (a : F) : ∀ n, (pr n fun _ => a) = pw a n
  | 0 => rfl
  | n + 1 => by rw [pr_last, pr_const a n, pw_succ]
theorem pr_split (n m : Nat) (g : Nat → F) : pr (n + m) g = pr n g * pr m fun i => g (n + i) := by
  induction m with
  | zero => show pr n g = pr n g * 1; grind
  | succ m ih => rw [show n + (m + 1) = (n + m) + 1 by omega, pr_last, ih, pr_last]; grind

/-- With a product it is the product. -/
theorem rs_mul {p q r : Nat} {f g h : Nat → F} (hf : Deg p f) (hg : Deg q g) (hh : Deg r h) (hne : g q ≠ 0) : rs (q + p) r (cvp f g) h = rs p r f h * rs q r g h := by
  -- one of q rows, then both of f and h
  let A : Nat → Nat → F := fun i j => if i < q then (if i = j then 1 else 0) else if j < q then 0 else sy p f h (i - q) (j - q)
  let C : Nat → Nat → F := fun i j => if i < q then (if i = j then 1 else 0) else if i < q + p then shf g (i - q) j else if i = j then 1 else 0
  have hA : dt (q + (p + r)) A = rs p r f h := by
    rw [dt_right q (p + r) A fun i j hi hj _ => by show (if i < q then (if i = j then (1 : F) else 0) else _) = 0; rw [if_pos hi, if_neg (by omega)]]
    have e1 : dt q A = 1 := by
      rw [← dt_one q]
      exact dt_congr q fun i j hi hj => by show (if i < q then (if i = j then (1 : F) else 0) else _) = _; rw [if_pos hi]; rfl
    have e2 : dt (p + r) (fun i j => A (q + i) (q + j)) = rs p r f h := dt_congr _ fun i j _ _ => by
      show (if q + i < q then _ else if q + j < q then (0 : F) else sy p f h (q + i - q) (q + j - q)) = _
      rw [if_neg (by omega), if_neg (by omega), Nat.add_sub_cancel_left, Nat.add_sub_cancel_left]
    rw [e1, e2]; grind
  have hB : dt (q + r + p) (sy q g h) = rs q r g h * pw (g q) p := by
    rw [dt_right (q + r) p (sy q g h) fun i j hi hj _ => by
      unfold sy
      by_cases h1 : i < q
      · rw [if_pos h1, shf_in h (by omega), hh _ (by omega)]
      · rw [if_neg h1, shf_in g (by omega), hg _ (by omega)]]
    have e : dt p (fun i j => sy q g h (q + r + i) (q + r + j)) = pw (g q) p := by
      rw [dt_low p _ fun i j hi hj hlt => by
        unfold sy
        rw [if_neg (by omega), shf_in g (by omega), hg _ (by omega)]]
      rw [← pr_const (g q) p]
      exact pr_congr fun i _ => by unfold sy; rw [if_neg (by omega), shf_in g (by omega)]; congr 1; omega
    rw [e]; rfl
  have hC : dt (q + p + r) C = pw (g q) p := by
    rw [dt_low (q + p + r) C fun i j hi hj hlt => by
      show (if i < q then (if i = j then (1 : F) else 0) else if i < q + p then shf g (i - q) j else if i = j then 1 else 0) = 0
      by_cases h1 : i < q
      · rw [if_pos h1, if_neg (by omega)]
      · rw [if_neg h1]
        by_cases h2 : i < q + p
        · rw [if_pos h2, shf_in g (by omega), hg _ (by omega)]
        · rw [if_neg h2, if_neg (by omega)]]
    rw [pr_split, pr_split]
    have e1 : (pr q fun i => C i i) = 1 := pr_ones fun i hi => by show (if i < q then (if i = i then (1 : F) else 0) else _) = 1; rw [if_pos hi, if_pos rfl]
    have e2 : (pr p fun i => C (q + i) (q + i)) = pw (g q) p := by
      rw [← pr_const (g q) p]
      exact pr_congr fun i hi => by
        show (if q + i < q then _ else if q + i < q + p then shf g (q + i - q) (q + i) else _) = g q
        rw [if_neg (by omega), if_pos (by omega), shf_in g (by omega)]; congr 1; omega
    have e3 : (pr r fun i => C (q + p + i) (q + p + i)) = 1 := pr_ones fun i hi => by
      show (if q + p + i < q then _ else if q + p + i < q + p then _ else if q + p + i = q + p + i then (1 : F) else 0) = 1
      rw [if_neg (by omega), if_neg (by omega), if_pos rfl]
    rw [e1, e2, e3]; grind
  have hM : dt (q + p + r) (mul (q + p + r) A (sy q g h)) = dt (q + p + r) (mul (q + p + r) C (sy (q + p) (cvp f g) h)) := dt_congr _ fun i j hi hj => by
    by_cases h1 : i < q
    · have l : mul (q + p + r) A (sy q g h) i j = sy q g h i j := by
        unfold mul
        rw [sg_one hi fun k _ hk => by show (if i < q then (if i = k then (1 : F) else 0) else _) * _ = 0; rw [if_pos h1, if_neg fun e => hk e.symm]; grind]
        show (if i < q then (if i = i then (1 : F) else 0) else _) * _ = _
        rw [if_pos h1, if_pos rfl]; grind
      have r' : mul (q + p + r) C (sy (q + p) (cvp f g) h) i j = sy (q + p) (cvp f g) h i j := by
        unfold mul
        rw [sg_one hi fun k _ hk => by show (if i < q then (if i = k then (1 : F) else 0) else _) * _ = 0; rw [if_pos h1, if_neg fun e => hk e.symm]; grind]
        show (if i < q then (if i = i then (1 : F) else 0) else _) * _ = _
        rw [if_pos h1, if_pos rfl]; grind
      rw [l, r']
      unfold sy
      rw [if_pos h1, if_pos (by omega)]
    · -- A takes the rows of g alone
      have l : mul (q + p + r) A (sy q g h) i j = sg (p + r) fun k => sy p f h (i - q) k * shf g k j := by
        unfold mul
        rw [show q + p + r = q + (p + r) by omega, sg_split]
        have z : (sg q fun k => A i k * sy q g h k j) = 0 := by
          rw [sg_congr (g := fun _ => 0) fun k hk => by show (if i < q then _ else if k < q then (0 : F) else _) * _ = 0; rw [if_neg h1, if_pos hk]; grind, sg_none]
        have e : (sg (p + r) fun k => A i (q + k) * sy q g h (q + k) j) = sg (p + r) fun k => sy p f h (i - q) k * shf g k j := sg_congr fun k _ => by
          show (if i < q then _ else if q + k < q then (0 : F) else sy p f h (i - q) (q + k - q)) * (if q + k < q then _ else shf g (q + k - q) j) = _
          rw [if_neg h1, if_neg (by omega), if_neg (by omega), Nat.add_sub_cancel_left]
        rw [z, e]; grind
      rw [l]
      by_cases h2 : i < q + p
      · have r' : mul (q + p + r) C (sy (q + p) (cvp f g) h) i j = sg (q + p + r) fun k => shf g (i - q) k * shf h k j := sg_congr fun k hk => by
          show (if i < q then _ else if i < q + p then shf g (i - q) k else _) * (if k < q + p then shf h k j else _) = _
          rw [if_neg h1, if_pos h2]
          by_cases h3 : k < q + p
          · rw [if_pos h3]
          · rw [if_neg h3, shf_in g (by omega), hg _ (by omega)]; grind
        rw [r', shf_cvp hg h (by omega), cvp_comm g h, ← shf_cvp (M := p + r) hh g (by omega)]
        exact sg_congr fun k _ => by unfold sy; rw [if_pos (by omega)]
      · have r' : mul (q + p + r) C (sy (q + p) (cvp f g) h) i j = sy (q + p) (cvp f g) h i j := by
          unfold mul
          rw [sg_one hi fun k _ hk => by show (if i < q then _ else if i < q + p then _ else if i = k then (1 : F) else 0) * _ = 0; rw [if_neg h1, if_neg h2, if_neg fun e => hk e.symm]; grind]
          show (if i < q then _ else if i < q + p then _ else if i = i then (1 : F) else 0) * _ = _
          rw [if_neg h1, if_neg h2, if_pos rfl]; grind
        rw [r']
        unfold sy
        rw [if_neg h2, show i - (q + p) = i - q - p by omega, ← shf_cvp (M := p + r) hf g (by omega)]
        exact sg_congr fun k _ => by rw [if_neg (by omega)]
  rw [dt_mul, dt_mul, hC] at hM
  rw [show q + p + r = q + (p + r) by omega] at hM
  rw [hA, show q + (p + r) = q + r + p by omega, hB] at hM
  have hM2 : dt (q + r + p) (sy (q + p) (cvp f g) h) = rs (q + p) r (cvp f g) h := by unfold rs; congr 1; omega
  rw [hM2] at hM
  have hp := pw_ne hne p
  have : pw (g q) p * (rs (q + p) r (cvp f g) h - rs p r f h * rs q r g h) = 0 := by grind
  rcases mul_zero_or this with e | e
  · exact absurd e hp
  · grind

/-- x less a. -/
def lin (a : F) : Nat → F := fun k => if k = 0 then -a else if k = 1 then 1 else 0
theorem lin_deg (a : F) : Deg 1 (lin a) := fun k hk => by unfold lin; rw [if_neg (by omega), if_neg (by omega)]
/-- With what comes to 0 at one number it is what the other one comes to there. -/
theorem rs_lin (a : F) (r : Nat) (h : Nat → F) : rs 1 r (lin a) h = vx r h a := by
  let u : Nat → Nat → F := fun i j => if j = 0 then pw a i else if i = j then 1 else 0
  have hu : dt (1 + r) u = 1 := by
    rw [dt_low (1 + r) u fun i j _ _ hlt => by show (if j = 0 then pw a i else if i = j then (1 : F) else 0) = 0; rw [if_neg (by omega), if_neg (by omega)]]
    exact pr_ones fun i _ => by
      show (if i = 0 then pw a i else if i = i then (1 : F) else 0) = 1
      by_cases e : i = 0
      · rw [if_pos e, e, pw_zero]
      · rw [if_neg e, if_pos rfl]
  have hm : dt (1 + r) (mul (1 + r) (sy 1 (lin a) h) u) = rs 1 r (lin a) h := by rw [dt_mul, hu]; unfold rs; grind
  have c0 : mul (1 + r) (sy 1 (lin a) h) u 0 0 = vx r h a := by
    unfold mul vx
    rw [Nat.add_comm 1 r]
    exact sg_congr fun k _ => by
      show (if 0 < 1 then shf h 0 k else _) * (if 0 = 0 then pw a k else _) = _
      rw [if_pos (by omega), if_pos rfl, shf_in h (Nat.zero_le k)]; rfl
  have ci : ∀ i, i < r → mul (1 + r) (sy 1 (lin a) h) u (1 + i) 0 = 0 := fun i hi => by
    unfold mul
    rw [sg_two (k := i) (l := i + 1) (by omega) (by omega) (by omega) fun k _ h1 h2 => by
      show (if 1 + i < 1 then _ else shf (lin a) (1 + i - 1) k) * _ = 0
      rw [if_neg (by omega), show 1 + i - 1 = i by omega]
      by_cases h3 : i ≤ k
      · rw [shf_in _ h3, lin_deg a _ (by omega)]; grind
      · rw [shf_out _ (by omega)]; grind]
    have u0 : ∀ k, u k 0 = pw a k := fun k => if_pos rfl
    have s1 : ∀ k, sy 1 (lin a) h (1 + i) k = shf (lin a) i k := fun k => by unfold sy; rw [if_neg (by omega), Nat.add_sub_cancel_left]
    rw [u0, u0, s1, s1, shf_in _ (Nat.le_refl i), shf_in _ (Nat.le_succ i), Nat.sub_self, show i + 1 - i = 1 by omega, pw_succ]
    show -a * pw a i + 1 * (pw a i * a) = 0
    grind
  rw [← hm, dt_below 1 r _ fun i j hi hi2 hj => by
    obtain ⟨t, rfl⟩ : ∃ t, i = 1 + t := ⟨i - 1, by omega⟩
    obtain rfl : j = 0 := by omega
    exact ci t (by omega)]
  have e1 : dt 1 (mul (1 + r) (sy 1 (lin a) h) u) = vx r h a := by
    rw [dt_succ, sg_succ, sg_zero, c0, show sgn 0 = 1 from rfl]
    show 0 + 1 * _ * 1 = _
    grind
  have e2 : dt r (fun i j => mul (1 + r) (sy 1 (lin a) h) u (1 + i) (1 + j)) = 1 := by
    have cell : ∀ i j, i < r → j < r → mul (1 + r) (sy 1 (lin a) h) u (1 + i) (1 + j) = shf (lin a) i (1 + j) := fun i j hi hj => by
      unfold mul
      rw [sg_one (k := 1 + j) (by omega) fun k _ hk => by show _ * (if 1 + j = 0 then _ else if k = 1 + j then (1 : F) else 0) = 0; rw [if_neg (by omega), if_neg hk]; grind]
      show (if 1 + i < 1 then _ else shf (lin a) (1 + i - 1) (1 + j)) * (if 1 + j = 0 then _ else if 1 + j = 1 + j then (1 : F) else 0) = _
      rw [if_neg (by omega), if_neg (by omega), if_pos rfl, show 1 + i - 1 = i by omega]; grind
    rw [dt_low r _ fun i j hi hj hlt => by rw [cell i j hi hj, shf_in _ (by omega), lin_deg a _ (by omega)]]
    exact pr_ones fun i hi => by
      rw [cell i i hi hi, shf_in _ (by omega), show 1 + i - i = 1 by omega]; rfl
  rw [e1, e2]; grind

/-- r rows ahead of p others, taken from behind them. -/
def ahead (p r : Nat) : Nat → Nat → F := fun i j => if i < r then (if j = p + i then 1 else 0) else if j = i - r then 1 else 0
theorem dt_ahead (p : Nat) : ∀ r, dt (r + p) (ahead p r) = pw (sgn p) r
  | 0 => by
    rw [Nat.zero_add, pw_zero, ← dt_one p]
    exact dt_congr p fun i j _ _ => by
      show (if i < 0 then _ else if j = i - 0 then (1 : F) else 0) = if i = j then 1 else 0
      rw [if_neg (by omega)]
      by_cases e : i = j
      · rw [if_pos (by omega), if_pos e]
      · rw [if_neg (by omega), if_neg e]
  | r + 1 => by
    rw [show r + 1 + p = r + p + 1 by omega, dt_succ, sg_one (k := p) (by omega) fun j hj hne => by
      show sgn j * (if 0 < r + 1 then (if j = p + 0 then (1 : F) else 0) else _) * _ = 0
      rw [if_pos (by omega), if_neg (by omega)]; grind]
    have e : dt (r + p) (del p (ahead p (r + 1))) = dt (r + p) (ahead p r) := dt_congr _ fun i j hi hj => by
      show (if i + 1 < r + 1 then (if sk p j = p + (i + 1) then (1 : F) else 0) else if sk p j = i + 1 - (r + 1) then 1 else 0) = if i < r then (if j = p + i then 1 else 0) else if j = i - r then 1 else 0
      unfold sk
      by_cases h1 : i < r
      · rw [if_pos h1, if_pos (by omega)]
        by_cases h2 : j < p
        · rw [if_pos h2, if_neg (by omega), if_neg (by omega)]
        · rw [if_neg h2]
          by_cases h3 : j = p + i
          · rw [if_pos h3, if_pos (by omega)]
          · rw [if_neg h3, if_neg (by omega)]
      · rw [if_neg h1, if_neg (by omega)]
        by_cases h2 : j < p
        · rw [if_pos h2]
          by_cases h3 : j = i - r
          · rw [if_pos h3, if_pos (by omega)]
          · rw [if_neg h3, if_neg (by omega)]
        · rw [if_neg h2, if_neg (by omega), if_neg (by omega)]
    rw [e, dt_ahead p r, pw_succ]
    have v : ahead p (r + 1) 0 p = 1 := by unfold ahead; rw [if_pos (by omega), if_pos (by omega)]
    rw [v]; grind
/-- The other way round. -/
theorem rs_turn (p r : Nat) (f h : Nat → F) : rs r p h f = pw (sgn p) r * rs p r f h := by
  have e : dt (r + p) (mul (r + p) (ahead p r) (sy p f h)) = dt (r + p) (sy r h f) := dt_congr _ fun i j hi hj => by
    unfold mul
    by_cases h1 : i < r
    · rw [sg_one (k := p + i) (by omega) fun k _ hk => by show (if i < r then (if k = p + i then (1 : F) else 0) else _) * _ = 0; rw [if_pos h1, if_neg hk]; grind]
      show (if i < r then (if p + i = p + i then (1 : F) else 0) else _) * (if p + i < p then _ else shf f (p + i - p) j) = (if i < r then shf f i j else _)
      rw [if_pos h1, if_pos rfl, if_neg (by omega), if_pos h1, Nat.add_sub_cancel_left]; grind
    · rw [sg_one (k := i - r) (by omega) fun k _ hk => by show (if i < r then _ else if k = i - r then (1 : F) else 0) * _ = 0; rw [if_neg h1, if_neg hk]; grind]
      show (if i < r then _ else if i - r = i - r then (1 : F) else 0) * (if i - r < p then shf h (i - r) j else _) = (if i < r then _ else shf h (i - r) j)
      rw [if_neg h1, if_pos rfl, if_pos (by omega), if_neg h1]; grind
  rw [dt_mul, dt_ahead] at e
  unfold rs
  rw [← e, Nat.add_comm p r]

end Go.Proofs.Ytnjhdedhobgplaa.Mx

/- Plain facts on polynomials, second part: rows that are changed cell by cell, Euclid's steps, the monic one, and the numbers as the program has them. -/
namespace Go.Proofs.Ytnjhdedhobgplaa.Pol
open Fp
set_option linter.unusedVariables false

theorem co_set (p : List F) (k m : Nat) (a : F) (h : k < p.length) : co (p.set k a) m = if m = k then a else co p m := by
  unfold co
  rw [List.getD_eq_getElem?_getD, List.getD_eq_getElem?_getD, List.getElem?_set]
  by_cases e : k = m
  · subst e; simp [h]
  · rw [if_neg e, if_neg (fun h => e h.symm)]

theorem ev_take_more (p : List F) (k : Nat) (x : F) : ev (p.take (k + 1)) x = ev (p.take k) x + co p k * pw x k := by
  rcases Nat.lt_or_ge k p.length with h | h
  · exact ev_take_succ p k h x
  · rw [List.take_of_length_le h, List.take_of_length_le (by omega), co_out p k h]; grind

/-- To R from place i on c times the first j of g are added. -/
def addAt (R : List F) (c : F) (g : List F) (i : Nat) : Nat → List F
  | 0 => R
  | j + 1 => (addAt R c g i j).set (i + j) (co (addAt R c g i j) (i + j) + c * co g j)
theorem len_addAt (R : List F) (c : F) (g : List F) (i j : Nat) : (addAt R c g i j).length = R.length := by
  induction j with
  | zero => rfl
  | succ j ih => rw [addAt, List.length_set, ih]
theorem ev_addAt (R : List F) (c : F) (g : List F) (i j : Nat) (h : i + j ≤ R.length) (x : F) : ev (addAt R c g i j) x = ev R x + c * pw x i * ev (g.take j) x := by
  induction j with
  | zero => rw [addAt, List.take_zero, ev_nil]; grind
  | succ j ih => rw [addAt, ev_set _ _ _ _ (by rw [len_addAt]; omega), ih (by omega), ev_take_more, pw_add]; grind
theorem co_addAt_far (R : List F) (c : F) (g : List F) (i j k : Nat) (h : i + j ≤ R.length) (hk : i + j ≤ k) : co (addAt R c g i j) k = co R k := by
  induction j with
  | zero => rfl
  | succ j ih => rw [addAt, co_set _ _ _ _ (by rw [len_addAt]; omega), if_neg (by omega), ih (by omega) (by omega)]
theorem co_addAt_top (R : List F) (c : F) (g : List F) (i m : Nat) (h : i + m < R.length) : co (addAt R c g i (m + 1)) (i + m) = co R (i + m) + c * co g m := by
  rw [addAt, co_set _ _ _ _ (by rw [len_addAt]; exact h), if_pos rfl, co_addAt_far R c g i m _ (by omega) (Nat.le_refl _)]

/-- The rows of a product, one after another. -/
def mulRows (f g : List F) : Nat → List F
  | 0 => List.replicate (f.length + g.length) 0
  | i + 1 => addAt (mulRows f g i) (co f i) g i g.length
theorem len_mulRows (f g : List F) (i : Nat) : (mulRows f g i).length = f.length + g.length := by
  induction i with
  | zero => rw [mulRows, List.length_replicate]
  | succ i ih => rw [mulRows, len_addAt, ih]
theorem ev_mulRows (f g : List F) (i : Nat) (h : i ≤ f.length) (x : F) : ev (mulRows f g i) x = ev (f.take i) x * ev g x := by
  induction i with
  | zero => rw [mulRows, ev_zeros, List.take_zero, ev_nil]; grind
  | succ i ih => rw [mulRows, ev_addAt _ _ _ _ _ (by rw [len_mulRows]; omega), List.take_length, ih (by omega), ev_take_more]; grind

/-- The sum, without noughts at its end. -/
def add (f g : List F) : List F := trim (padd f g)
/-- The product, without noughts at its end. -/
def mul (f g : List F) : List F := trim (pmul f g)
theorem ev_add (f g : List F) (x : F) : ev (add f g) x = ev f x + ev g x := by rw [add, ev_trim, ev_padd]
theorem ev_mul (f g : List F) (x : F) : ev (mul f g) x = ev f x * ev g x := by rw [mul, ev_trim, ev_pmul]
theorem tr_add (f g : List F) : Tr (add f g) := tr_trim _
theorem tr_mul (f g : List F) : Tr (mul f g) := tr_trim _
theorem len_add (f g : List F) : (add f g).length ≤ max f.length g.length := Nat.le_trans (len_trim _) (Nat.le_of_eq (len_padd _ _))
theorem len_mul (f g : List F) : (mul f g).length ≤ f.length + g.length := Nat.le_trans (len_trim _) (len_pmul_le _ _)
theorem len_mul' (f g : List F) (h : f.length + g.length ≤ 9973) : (mul f g).length ≤ f.length + g.length - 1 := by
  by_cases h1 : f = []
  · subst h1; rw [mul, pmul, trim_nil]; simp
  · by_cases h2 : g = []
    · have : mul f g = [] := zero_of _ (tr_mul f g) (Nat.le_trans (len_mul f g) h) fun x => by rw [ev_mul, h2, ev_nil]; grind
      rw [this]; simp
    · have := len_pmul f g h1 h2
      have := len_trim (pmul f g)
      rw [mul]; omega
theorem is_add (f g r : List F) (lf : f.length ≤ 1000) (lg : g.length ≤ 1000) (lr : r.length ≤ 1000) (h : ∀ x, ev r x = ev f x + ev g x) : trim r = add f g := by
  have := len_add f g
  have := len_trim r
  exact same _ _ (tr_trim r) (tr_add f g) (by omega) (by omega) fun x => by rw [ev_trim, h, ev_add]
theorem is_mul (f g r : List F) (lf : f.length ≤ 1000) (lg : g.length ≤ 1000) (lr : r.length ≤ 2000) (h : ∀ x, ev r x = ev f x * ev g x) : trim r = mul f g := by
  have := len_mul f g
  have := len_trim r
  exact same _ _ (tr_trim r) (tr_mul f g) (by omega) (by omega) fun x => by rw [ev_trim, h, ev_mul]
theorem rows_mul (f g : List F) (lf : f.length ≤ 1000) (lg : g.length ≤ 1000) : trim (mulRows f g f.length) = mul f g :=
  is_mul f g _ lf lg (by rw [len_mulRows]; omega) fun x => by rw [ev_mulRows f g _ (Nat.le_refl _), List.take_length]
/-- The sum's row: f, noughts behind it, g added. -/
theorem row_add (f g : List F) (lf : f.length ≤ 1000) (lg : g.length ≤ 1000) :
    trim (addAt (f ++ List.replicate (max f.length g.length - f.length) 0) 1 g 0 g.length) = add f g :=
  is_add f g _ lf lg (by rw [len_addAt, List.length_append, List.length_replicate]; omega) fun x => by
    rw [ev_addAt _ _ _ _ _ (by rw [List.length_append, List.length_replicate]; omega), ev_append, ev_zeros, List.take_length, pw_zero]; grind

theorem mul_of (f g : List F) (lf : f.length ≤ 1000) (lg : g.length ≤ 1000) (h : trim g ≠ []) : mul f g = pmul (trim f) (trim g) := by
  have := len_mul f g
  have := len_trim f
  have := len_trim g
  have := len_pmul_le (trim f) (trim g)
  exact same _ _ (tr_mul f g) (tr_pmul _ _ (tr_trim f) (tr_trim g) h) (by omega) (by omega) fun x => by rw [ev_mul, ev_pmul, ev_trim, ev_trim]

/-- EUCLID's steps: from f and g they come to c. -/
inductive Gc : List F → List F → List F → Prop
  | done (f : List F) : Gc f [] f
  | step {f g q r c : List F} (d : Dv f g q r) (h : Gc g r c) : Gc f g c

theorem Dv.ne {f g q r : List F} (h : Dv f g q r) : g ≠ [] := fun e => by
  have := h.lt
  rw [e] at this; simp at this

theorem Gc.one {f g c : List F} (h : Gc f g c) : ∀ {c' : List F}, Tr g → f.length ≤ 1000 → g.length ≤ 1000 → Gc f g c' → c = c' := by
  induction h with
  | done f =>
    intro c' _ _ _ h'
    cases h' with
    | done => rfl
    | step d _ => exact absurd rfl d.ne
  | step d h ih =>
    intro c' hg lf lg h'
    cases h' with
    | done => exact absurd rfl d.ne
    | step d' h' =>
      obtain ⟨rfl, rfl⟩ := d.one hg lf lg d'
      have := d.lt
      exact ih d.tr lg (by omega) h'

theorem Gc.facts {f g c : List F} (h : Gc f g c) : Tr f → Tr g → f.length ≤ 1000 → g.length ≤ 1000 → Tr c ∧ c.length ≤ 1000 ∧ (c = [] ↔ f = [] ∧ g = []) ∧
    ∃ a b, Tr a ∧ Tr b ∧ a.length ≤ f.length ∧ b.length ≤ g.length ∧ (∀ x, ev f x = ev c x * ev a x) ∧ (∀ x, ev g x = ev c x * ev b x) := by
  induction h with
  | done f =>
    intro hf _ lf _
    refine ⟨hf, lf, ⟨fun h => ⟨h, rfl⟩, fun h => h.1⟩, ?_⟩
    by_cases h0 : f = []
    · subst h0
      exact ⟨[], [], tr_nil, tr_nil, Nat.le_refl _, Nat.le_refl _, fun x => by rw [ev_nil]; grind, fun x => by rw [ev_nil]; grind⟩
    · have := List.length_pos_iff.2 h0
      exact ⟨[1], [], fun _ => by simp [co], tr_nil, by simp; omega, Nat.le_refl _, fun x => by rw [ev_one]; grind, fun x => by rw [ev_nil]; grind⟩
  | @step f g q r c d h ih =>
    intro hf hg lf lg
    have hlt := d.lt
    have hlq := d.lq
    obtain ⟨tc, lc, hz, a, b, ta, tb, la, lb, ea, eb⟩ := ih hg d.tr lg (by omega)
    have c0 : c ≠ [] := fun e => d.ne (hz.1 e).1
    refine ⟨tc, lc, ⟨fun e => absurd e c0, fun e => absurd e.2 d.ne⟩, trim (padd (pmul a q) b), a, tr_trim _, ta, ?_, la, fun x => ?_, ea⟩
    · by_cases z : trim (padd (pmul a q) b) = []
      · rw [z]; simp
      · have e1 := len_trim (padd (pmul a q) b)
        rw [len_padd] at e1
        have e2 := len_pmul_le a q
        have e := prod_len c _ f tc (tr_trim _) hf c0 z (by omega) (by omega) fun x => by
          rw [ev_trim, ev_padd, ev_pmul, d.eq, ea, eb]; grind
        have l := len_pmul c _ c0 z
        rw [← e] at l
        have := List.length_pos_iff.2 c0
        omega
    · rw [ev_trim, ev_padd, ev_pmul, d.eq, ea, eb]; grind

theorem Dv.scale {f g q r h : List F} (d : Dv f g q r) (hh : Tr h) (h0 : h ≠ []) : Dv (pmul f h) (pmul g h) q (pmul r h) := by
  have g0 := d.ne
  have lg := len_pmul g h g0 h0
  have lh := List.length_pos_iff.2 h0
  have lgp := List.length_pos_iff.2 g0
  have hlt := d.lt
  have hlq := d.lq
  refine ⟨d.tq, tr_pmul r h d.tr hh h0, ?_, ?_, fun x => by rw [ev_pmul, ev_pmul, ev_pmul, d.eq]; grind⟩
  · by_cases r0 : r = []
    · rw [r0, pmul]; simp; omega
    · have := len_pmul r h r0 h0; omega
  · by_cases f0 : f = []
    · rw [f0] at hlq; simp at hlq; rw [hlq]; simp
    · have := len_pmul f h f0 h0; omega
theorem Gc.scale {f g c h : List F} (d : Gc f g c) (hh : Tr h) (h0 : h ≠ []) : Gc (pmul f h) (pmul g h) (pmul c h) := by
  induction d with
  | done f => exact .done _
  | step d _ ih => exact .step (d.scale hh h0) ih

theorem swap (a b i : F) (h : i * (a * b) = 1) : (i * b) * a = 1 := by rw [Fin.mul_assoc, Fin.mul_comm b, h]
theorem cancel (a b i : F) (h : i * b = 1) : a + -(a * i) * b = 0 := by
  have : (a * i) * b = a := by rw [Fin.mul_assoc, h, Fin.mul_one]
  have e : -(a * i) * b = -((a * i) * b) := by grind
  rw [e, this]; grind
/-- The greatest factor. -/
def top (p : List F) : F := co p (p.length - 1)
theorem top_ne {p : List F} (h : Tr p) (h0 : p ≠ []) : top p ≠ 0 := h h0
/-- Made monic. -/
def mon (p : List F) : List F := times (inv (top p)) p
theorem mon_nil : mon [] = [] := rfl
theorem len_mon (p : List F) : (mon p).length = p.length := len_times _ _
theorem mon_ne {p : List F} (h0 : p ≠ []) : mon p ≠ [] := fun e => h0 (List.eq_nil_of_length_eq_zero (by rw [← len_mon, e]; rfl))
theorem ev_mon (p : List F) (x : F) : ev (mon p) x = inv (top p) * ev p x := ev_times _ _ _
theorem top_mon {p : List F} (h : Tr p) (h0 : p ≠ []) : top (mon p) = 1 := by
  rw [top, len_mon, mon, co_times]
  exact inv_mul (top_ne h h0)
theorem tr_mon {p : List F} (h : Tr p) : Tr (mon p) := fun h1 => by
  have h0 : p ≠ [] := fun e => h1 (by rw [e]; rfl)
  have := top_mon h h0
  rw [top] at this
  rw [this]; exact one_ne
theorem inv_ne {a : F} (h : a ≠ 0) : inv a ≠ 0 := fun e => by
  have := inv_mul h
  rw [e] at this
  exact one_ne (by rw [← this]; grind)
theorem tr_times {c : F} {p : List F} (hc : c ≠ 0) (h : Tr p) : Tr (times c p) := fun h1 => by
  have h0 : p ≠ [] := fun e => h1 (by rw [e]; rfl)
  rw [len_times, co_times]
  intro e
  rcases mul_zero_or e with e | e
  · exact hc e
  · exact h h0 e

/-- What is divided by its greatest factor alone. -/
theorem mon_dv {p q r : List F} (h : Tr p) (h0 : p ≠ []) (lp : p.length ≤ 1000) (d : Dv p [top p] q r) : q = mon p := by
  have t := top_ne h h0
  have t1 : Tr [top p] := fun _ => t
  refine (d.one t1 lp (by simp) ⟨tr_mon h, tr_nil, by simp, by rw [len_mon]; exact Nat.le_refl _, fun x => ?_⟩).1
  rw [ev_one, ev_mon, ev_nil]
  have := mul_inv t
  grind

/-- c divides f, and so does it made monic. -/
theorem mon_divides {f c a : List F} (hc : Tr c) (h0 : c ≠ []) (ha : Tr a) (la : a.length ≤ f.length) (h : ∀ x, ev f x = ev c x * ev a x) : Dv f (mon c) (times (top c) a) [] := by
  have t := top_ne hc h0
  have := List.length_pos_iff.2 h0
  refine ⟨tr_times t ha, tr_nil, by rw [len_mon]; simpa using this, by rw [len_times]; exact la, fun x => ?_⟩
  rw [ev_mon, ev_times, ev_nil, h]
  have := inv_mul t
  grind

theorem top_pmul {p q : List F} (h1 : p ≠ []) (h2 : q ≠ []) : top (pmul p q) = top p * top q := by
  have l1 := List.length_pos_iff.2 h1
  have l2 := List.length_pos_iff.2 h2
  have e := len_pmul p q h1 h2
  rw [top, show (pmul p q).length - 1 = (p.length - 1) + (q.length - 1) by omega]
  exact co_pmul p q _ _ (by omega) (by omega)

/-- The monic divisor so many times, by the monic divisor of what is so many times: a number. -/
theorem mon_scale {c h : List F} (hc : Tr c) (hh : Tr h) (c0 : c ≠ []) (h0 : h ≠ []) : Dv (pmul (mon c) h) (mon (pmul c h)) [top h] [] := by
  have tc := top_ne hc c0
  have th := top_ne hh h0
  have l := List.length_pos_iff.2 (pmul_ne c h c0 h0)
  have l2 := List.length_pos_iff.2 (pmul_ne (mon c) h (mon_ne c0) h0)
  refine ⟨fun _ => th, tr_nil, by rw [len_mon]; simpa using l, by simp; omega, fun x => ?_⟩
  rw [ev_pmul, ev_mon, ev_mon, ev_pmul, ev_one, ev_nil, top_pmul c0 h0]
  have e1 := inv_mul tc
  have e2 := inv_mul th
  have e3 : inv (top c * top h) * (top c * top h) = 1 := inv_mul fun e => by
    rcases mul_zero_or e with e | e
    · exact tc e
    · exact th e
  have e4 : inv (top c * top h) * top h = inv (top c) := by
    have : (inv (top c * top h) * top h) * top c = inv (top c) * top c := by rw [e1]; exact swap _ _ _ e3
    exact mul_cancel tc this
  rw [← e4]; grind

/-- The same one, so many times and shifted, added: as the document's answer does it. -/
def shift (t : F) (up : Nat) (g : List F) : List F := List.replicate up 0 ++ times t g
theorem ev_shift (t : F) (up : Nat) (g : List F) (x : F) : ev (shift t up g) x = t * pw x up * ev g x := by
  rw [shift, ev_append, ev_zeros, ev_times, List.length_replicate]; grind
theorem len_shift (t : F) (up : Nat) (g : List F) : (shift t up g).length = up + g.length := by rw [shift, List.length_append, List.length_replicate, len_times]
theorem co_shift_low (t : F) (up : Nat) (g : List F) (k : Nat) (h : k < up) : co (shift t up g) k = 0 := by
  rw [shift, co, List.getD_eq_getElem?_getD, List.getElem?_append_left (by simpa using h)]
  simp [h]
theorem co_shift (t : F) (up : Nat) (g : List F) (k : Nat) (h : up ≤ k) : co (shift t up g) k = t * co g (k - up) := by
  rw [← co_times, shift, co, List.getD_eq_getElem?_getD, List.getElem?_append_right (by simpa using h), List.length_replicate, co, List.getD_eq_getElem?_getD]
def plus (f g : List F) (t : F) (up : Nat) : List F := trim (padd f (shift t up g))
theorem ev_plus (f g : List F) (t : F) (up : Nat) (x : F) : ev (plus f g t up) x = ev f x + t * pw x up * ev g x := by rw [plus, ev_trim, ev_padd, ev_shift]
theorem tr_plus (f g : List F) (t : F) (up : Nat) : Tr (plus f g t up) := tr_trim _
theorem len_plus (f g : List F) (t : F) (up : Nat) : (plus f g t up).length ≤ max f.length (up + g.length) := by
  have := len_trim (padd f (shift t up g))
  rw [len_padd, len_shift] at this
  exact this
/-- The row of the first k of a sum. -/
def plusRow (f g : List F) (t : F) (up : Nat) : Nat → List F
  | 0 => []
  | k + 1 => plusRow f g t up k ++ [co f k + co (shift t up g) k]
theorem len_plusRow (f g : List F) (t : F) (up k : Nat) : (plusRow f g t up k).length = k := by
  induction k with
  | zero => rfl
  | succ k ih => rw [plusRow, List.length_append, ih]; rfl
theorem ev_plusRow (f g : List F) (t : F) (up k : Nat) (x : F) : ev (plusRow f g t up k) x = ev (f.take k) x + ev ((shift t up g).take k) x := by
  induction k with
  | zero => rw [plusRow, List.take_zero, List.take_zero, ev_nil]; grind
  | succ k ih => rw [plusRow, ev_snoc, len_plusRow, ih, ev_take_more, ev_take_more]; grind
theorem row_plus (f g : List F) (t : F) (up k : Nat) (h1 : f.length ≤ k) (h2 : up + g.length ≤ k) (hk : k ≤ 1000) : trim (plusRow f g t up k) = plus f g t up := by
  have := len_trim (plusRow f g t up k)
  have e := len_plusRow f g t up k
  have := len_plus f g t up
  refine same _ _ (tr_trim _) (tr_plus f g t up) (by omega) (by omega) fun x => ?_
  rw [ev_trim, ev_plusRow, ev_plus, List.take_of_length_le h1, List.take_of_length_le (by rw [len_shift]; exact h2), ev_shift]

/-- One step of dividing takes the greatest factor away. -/
theorem plus_less (f g : List F) (hf : f ≠ []) (hg : Tr g) (g0 : g ≠ []) (hl : g.length ≤ f.length) :
    (plus f g (-(top f * inv (top g))) (f.length - g.length)).length < f.length := by
  have l1 := List.length_pos_iff.2 hf
  have l2 := List.length_pos_iff.2 g0
  have t := top_ne hg g0
  have : (plus f g (-(top f * inv (top g))) (f.length - g.length)).length ≤ f.length - 1 := trim_short _ _ fun k hk => by
    rw [co_padd, co_shift _ _ _ _ (by omega)]
    by_cases e : k = f.length - 1
    · have e2 : k - (f.length - g.length) = g.length - 1 := by omega
      have e3 : co f k = top f := by rw [e]; rfl
      have e4 : co g (g.length - 1) = top g := rfl
      rw [e2, e3, e4]
      exact cancel _ _ _ (inv_mul t)
    · rw [co_out f k (by omega), co_out g _ (by omega), Fin.mul_zero, Fin.add_zero]
  omega

/-- The numbers of a row as the program has them. -/
def vals (p : List F) : List Int := p.map fun a => (a.val : Int)
theorem len_vals (p : List F) : (vals p).length = p.length := List.length_map ..
theorem vals_at (p : List F) (k : Nat) : (vals p).getD k 0 = ((co p k).val : Int) := by
  unfold vals co
  rw [List.getD_eq_getElem?_getD, List.getD_eq_getElem?_getD, List.getElem?_map]
  cases p[k]? <;> rfl
theorem vals_set (p : List F) (k : Nat) (a : F) : vals (p.set k a) = (vals p).set k (a.val : Int) := List.map_set ..
theorem vals_take (p : List F) (k : Nat) : vals (p.take k) = (vals p).take k := List.map_take ..
theorem vals_append (p q : List F) : vals (p ++ q) = vals p ++ vals q := List.map_append ..
theorem vals_inj {p q : List F} (h : vals p = vals q) : p = q := by
  refine list_ext p q (by rw [← len_vals p, h, len_vals]) fun k => ?_
  have := vals_at p k
  rw [h, vals_at] at this
  exact (val_inj this).symm
theorem vals_zeros (n : Nat) : vals (List.replicate n 0) = List.replicate n 0 := List.map_replicate ..

/-- What is wrong with a row of numbers, as a number. -/
def code (l : List Int) : Nat := if 12 < l.length then 4 else if ∀ n ∈ l, 0 ≤ n ∧ n ≤ 9972 then 0 else 1
theorem code_zero {l : List Int} (h : code l = 0) : ∃ p : List F, l = vals p ∧ p.length ≤ 12 := by
  unfold code at h
  split at h
  · cases h
  · split at h
    · rename_i h1 h2
      refine ⟨l.map ofInt, ?_, by simpa using h1⟩
      unfold vals
      rw [List.map_map]
      conv => lhs; rw [← List.map_id l]
      exact List.map_congr_left fun n hn => (ofInt_of n (h2 n hn).1 (h2 n hn).2).symm
    · cases h
theorem code_vals (p : List F) (h : p.length ≤ 12) : code (vals p) = 0 := by
  unfold code
  rw [if_neg (by rw [len_vals]; omega), if_pos]
  intro n hn
  obtain ⟨a, _, rfl⟩ := List.mem_map.1 hn
  exact val_bound a
theorem code_some (l : List Int) : code l = 0 ∨ code l = 1 ∨ code l = 4 := by
  unfold code
  split
  · exact .inr (.inr rfl)
  · split
    · exact .inl rfl
    · exact .inr (.inl rfl)
theorem code_full {l : List Int} (h : 12 < l.length) : code l = 4 := by unfold code; rw [if_pos h]
theorem code_range {l : List Int} (h : ¬ 12 < l.length) {k : Nat} (hk : k < l.length) (hn : ¬ (0 ≤ l.getD k 0 ∧ l.getD k 0 ≤ 9972)) : code l = 1 := by
  unfold code
  rw [if_neg h, if_neg]
  intro f
  refine hn ?_
  rw [List.getD_eq_getElem?_getD, List.getElem?_eq_getElem hk]
  exact f _ (List.getElem_mem _)
theorem code_ok {l : List Int} (h : ¬ 12 < l.length) (hn : ∀ k, k < l.length → 0 ≤ l.getD k 0 ∧ l.getD k 0 ≤ 9972) : code l = 0 := by
  unfold code
  rw [if_neg h, if_pos]
  intro n hm
  obtain ⟨k, hk, rfl⟩ := List.mem_iff_getElem.1 hm
  have := hn k hk
  rwa [List.getD_eq_getElem?_getD, List.getElem?_eq_getElem hk] at this
theorem code_zero_iff (l : List Int) : code l = 0 ↔ l.length ≤ 12 ∧ ∀ k, k < l.length → 0 ≤ l.getD k 0 ∧ l.getD k 0 ≤ 9972 := by
  constructor
  · intro h
    obtain ⟨p, rfl, hp⟩ := code_zero h
    refine ⟨by rw [len_vals]; exact hp, fun k _ => ?_⟩
    rw [vals_at]; exact val_bound _
  · rintro ⟨h1, h2⟩
    exact code_ok (by omega) h2

/-- The error of two rows, as a number. -/
def code2 (l m : List Int) : Nat := if code l = 0 then code m else code l
theorem code2_zero {l m : List Int} (h : code2 l m = 0) : code l = 0 ∧ code m = 0 := by
  unfold code2 at h
  split at h
  · exact ⟨by assumption, h⟩
  · contradiction

/-- Sums and products as the program has them. -/
theorem val_madd (s a b : F) : ((s.val : Int) + (a.val : Int) * (b.val : Int)) % 9973 = ((s + a * b).val : Int) := by
  rw [add_val, mul_val, Int.add_emod_emod]
theorem val_msub (s t c : F) : ((s.val : Int) + (9973 - (t.val : Int)) * (c.val : Int)) % 9973 = ((s + -t * c).val : Int) := by
  have e : ofInt (9973 - (t.val : Int)) = -t := by
    have : ofInt (9973 - (t.val : Int)) + ofInt (t.val : Int) = 0 := by
      rw [← ofInt_add, show 9973 - (t.val : Int) + (t.val : Int) = 9973 by omega]; rfl
    rw [ofInt_self] at this; grind
  have h := ofInt_val ((s.val : Int) + (9973 - (t.val : Int)) * (c.val : Int))
  rw [ofInt_add, ofInt_mul, e, ofInt_self, ofInt_self] at h
  exact h.symm
theorem val_horner (v x a : F) : ((v.val : Int) * (x.val : Int) + (a.val : Int)) % 9973 = ((a + x * v).val : Int) := by
  rw [add_val, mul_val, Int.add_emod_emod]
  congr 1
  rw [Int.mul_comm (x.val : Int)]; omega

end Go.Proofs.Ytnjhdedhobgplaa.Pol

/- Plain facts: Sylvester's determinant is nought just if both rows of factors have something in common; the matrix as the document lays it. No program is named here. -/
namespace Go.Proofs.Ytnjhdedhobgplaa.Mx
open Fp
set_option linter.unusedVariables false

/-- The matrix with the highest powers first. -/
def syd (p q : Nat) (f g : Nat → F) : Nat → Nat → F := fun i j => if i < q then (if i ≤ j ∧ j ≤ i + p then f (p - (j - i)) else 0) else (if i - q ≤ j ∧ j ≤ i - q + q then g (q - (j - (i - q))) else 0)
/-- All rows and all columns turned about. -/
theorem dt_about (n : Nat) (f : Nat → Nat → F) : dt n (fun i j => f (n - 1 - i) (n - 1 - j)) = dt n f := by
  let w : Nat → Nat → F := fun i j => if i + j + 1 = n then 1 else 0
  have ww : Eqm n n (mul n w w) one := fun i j hi hj => by
    unfold mul
    rw [sg_one (k := n - 1 - i) (by omega) fun k hk hne => by show (if i + k + 1 = n then (1 : F) else 0) * _ = 0; rw [if_neg (by omega)]; grind]
    show (if i + (n - 1 - i) + 1 = n then (1 : F) else 0) * (if n - 1 - i + j + 1 = n then 1 else 0) = if i = j then 1 else 0
    rw [if_pos (by omega)]
    by_cases e : i = j
    · rw [if_pos (by omega), if_pos e]; grind
    · rw [if_neg (by omega), if_neg e]; grind
  have e : dt n (fun i j => f (n - 1 - i) (n - 1 - j)) = dt n (mul n w (mul n f w)) := dt_congr n fun i j hi hj => by
    unfold mul
    rw [sg_one (k := n - 1 - i) (by omega) fun k hk hne => by show (if i + k + 1 = n then (1 : F) else 0) * _ = 0; rw [if_neg (by omega)]; grind,
      sg_one (k := n - 1 - j) (by omega) fun k hk hne => by show _ * (if k + j + 1 = n then (1 : F) else 0) = 0; rw [if_neg (by omega)]; grind]
    show _ = (if i + (n - 1 - i) + 1 = n then (1 : F) else 0) * (f (n - 1 - i) (n - 1 - j) * (if n - 1 - j + j + 1 = n then 1 else 0))
    rw [if_pos (by omega), if_pos (by omega)]; grind
  have h1 := dt_congr n ww
  rw [dt_mul, dt_one] at h1
  rw [e, dt_mul, dt_mul]
  grind
theorem dt_syd {p q : Nat} {f g : Nat → F} (hf : Deg p f) (hg : Deg q g) : dt (p + q) (syd p q f g) = rs p q f g := by
  rw [← dt_about (p + q) (syd p q f g)]
  refine dt_congr _ fun i j hi hj => ?_
  unfold syd sy
  by_cases h : i < p
  · rw [if_neg (by omega), if_pos h]
    by_cases h2 : i ≤ j
    · rw [shf_in g h2]
      by_cases h3 : j ≤ i + q
      · rw [if_pos (by omega)]; congr 1; omega
      · rw [if_neg (by omega), hg _ (by omega)]
    · rw [shf_out g (by omega), if_neg (by omega)]
  · rw [if_pos (by omega), if_neg h]
    by_cases h2 : i - p ≤ j
    · rw [shf_in f h2]
      by_cases h3 : j ≤ i - p + p
      · rw [if_pos (by omega)]; congr 1; omega
      · rw [if_neg (by omega), hf _ (by omega)]
    · rw [shf_out f (by omega), if_neg (by omega)]

theorem dt_has {n : Nat} {f : Nat → Nat → F} (h : dt n f = 0) : ∃ (y : Nat → F) (k : Nat), k < n ∧ y k ≠ 0 ∧ ∀ i, i < n → sg n (fun j => f i j * y j) = 0 := by
  obtain ⟨b, g, hs, hr⟩ := steps_some n n f n (Nat.le_refl n)
  by_cases hl : b.length < n
  · exact hs.null hr hl
  · exfalso
    have hb : b.length = n := by have := hs.le; omega
    have hg := hs.full hb
    obtain ⟨_, t, h1⟩ := hr
    have : dt n (mul n t f) = 1 := by rw [← dt_one n]; exact dt_congr n fun i j hi hj => by rw [← h1 i j hi hj, hg i j hi hj]
    rw [dt_mul, h] at this
    have z : dt n t * 0 = 0 := by grind
    rw [z] at this
    exact absurd this (by decide)
/-- What some rows make together. -/
theorem dt_rows_null {n : Nat} {f : Nat → Nat → F} : dt n f = 0 ↔ ∃ (y : Nat → F) (k : Nat), k < n ∧ y k ≠ 0 ∧ ∀ j, j < n → sg n (fun i => y i * f i j) = 0 := by
  constructor
  · intro h
    rw [← dt_flip] at h
    obtain ⟨y, k, hk, h0, hy⟩ := dt_has h
    exact ⟨y, k, hk, h0, fun j hj => by rw [← hy j hj]; exact sg_congr fun i _ => by show _ = f i j * y i; grind⟩
  · rintro ⟨y, k, hk, h0, hy⟩
    rw [← dt_flip]
    exact dt_null hk h0 fun j hj => by rw [← hy j hj]; exact sg_congr fun i _ => by show f i j * y i = _; grind

/-- The value of factors some places later. -/
theorem shf_val {d N : Nat} {a : Nat → F} (ha : Deg d a) {i : Nat} (hN : i + d < N) (x : F) : (sg N fun j => shf a i j * pw x j) = pw x i * vx d a x := by
  obtain ⟨r, rfl⟩ : ∃ r, N = i + r := ⟨N - i, by omega⟩
  rw [sg_split]
  have z : (sg i fun k => shf a i k * pw x k) = 0 := by
    rw [sg_congr (g := fun _ => 0) fun k hk => by rw [shf_out a hk]; grind, sg_none]
  have e : (sg r fun k => shf a i (i + k) * pw x (i + k)) = sg r fun k => pw x i * (a k * pw x k) := sg_congr fun k _ => by
    rw [shf_in a (by omega), Nat.add_sub_cancel_left, pw_add]; grind
  rw [z, e, sg_times, sg_less (n := d + 1) (m := r) (by omega) fun k h1 h2 => by rw [ha k (by omega)]; grind]
  show 0 + pw x i * vx d a x = _
  grind
theorem sy_val {p q : Nat} {f h : Nat → F} (hf : Deg p f) (hh : Deg q h) (y : Nat → F) (x : F) :
    (sg (p + q) fun j => (sg (p + q) fun i => y i * sy p f h i j) * pw x j) = (sg p fun i => y i * pw x i) * vx q h x + (sg q fun i => y (p + i) * pw x i) * vx p f x := by
  rw [sg_congr (g := fun j => sg (p + q) fun i => y i * (sy p f h i j * pw x j)) fun j _ => by rw [← sg_by]; exact sg_congr fun i _ => by grind, sg_swap, sg_split]
  have e1 : (sg p fun i => sg (p + q) fun j => y i * (sy p f h i j * pw x j)) = (sg p fun i => y i * pw x i) * vx q h x := by
    rw [← sg_by]
    exact sg_congr fun i hi => by
      rw [sg_times, sg_congr (g := fun j => shf h i j * pw x j) fun j _ => by unfold sy; rw [if_pos hi], shf_val hh (by omega)]; grind
  have e2 : (sg q fun i => sg (p + q) fun j => y (p + i) * (sy p f h (p + i) j * pw x j)) = (sg q fun i => y (p + i) * pw x i) * vx p f x := by
    rw [← sg_by]
    exact sg_congr fun i hi => by
      rw [sg_times, sg_congr (g := fun j => shf f i j * pw x j) fun j _ => by unfold sy; rw [if_neg (by omega), Nat.add_sub_cancel_left], shf_val hf (by omega)]; grind
  rw [e1, e2]
/-- It is nought just if something short, times the one, and something short, times the other, are together nought. -/
theorem rs_null {p q : Nat} (hN : p + q ≤ 9000) (h0 : 0 < p + q) {f h : Nat → F} (hf : Deg p f) (hh : Deg q h) :
    rs p q f h = 0 ↔ ∃ (v u : Nat → F), ((∃ k, k < p ∧ v k ≠ 0) ∨ ∃ k, k < q ∧ u k ≠ 0) ∧ ∀ x, (sg p fun i => v i * pw x i) * vx q h x + (sg q fun i => u i * pw x i) * vx p f x = 0 := by
  unfold rs
  rw [dt_rows_null]
  constructor
  · rintro ⟨y, k, hk, hk0, hy⟩
    refine ⟨y, fun i => y (p + i), ?_, fun x => ?_⟩
    · by_cases e : k < p
      · exact .inl ⟨k, e, hk0⟩
      · exact .inr ⟨k - p, by omega, by show y (p + (k - p)) ≠ 0; rw [show p + (k - p) = k by omega]; exact hk0⟩
    · rw [← sy_val hf hh y x, sg_congr (g := fun _ => 0) fun j hj => by rw [hy j hj]; grind, sg_none]
  · rintro ⟨v, u, hvu, hx⟩
    let y : Nat → F := fun i => if i < p then v i else u (i - p)
    have ev : ∀ x, (sg p fun i => y i * pw x i) = sg p fun i => v i * pw x i := fun x => sg_congr fun i hi => by show (if i < p then v i else _) * _ = _; rw [if_pos hi]
    have eu : ∀ x, (sg q fun i => y (p + i) * pw x i) = sg q fun i => u i * pw x i := fun x => sg_congr fun i hi => by show (if p + i < p then _ else u (p + i - p)) * _ = _; rw [if_neg (by omega), Nat.add_sub_cancel_left]
    have hz : ∀ j, j ≤ p + q - 1 → (sg (p + q) fun i => y i * sy p f h i j) = 0 := vx_zeros (d := p + q - 1) (by omega) fun x => by
      have := sy_val hf hh y x
      rw [ev, eu, hx x] at this
      unfold vx
      rw [show p + q - 1 + 1 = p + q by omega]
      exact this
    rcases hvu with ⟨k, hk, h1⟩ | ⟨k, hk, h1⟩
    · exact ⟨y, k, by omega, by show (if k < p then v k else _) ≠ 0; rw [if_pos hk]; exact h1, fun j hj => hz j (by omega)⟩
    · exact ⟨y, p + k, by omega, by show (if p + k < p then _ else u (p + k - p)) ≠ 0; rw [if_neg (by omega), Nat.add_sub_cancel_left]; exact h1, fun j hj => hz j (by omega)⟩

/-- A list's factors: none beyond its length. -/
theorem co_deg (f : List F) : Deg (f.length - 1) (Pol.co f) := fun k hk => Pol.co_out f k (by omega)
theorem co_vx (f : List F) {d : Nat} (h : f.length ≤ d + 1) (x : F) : vx d (Pol.co f) x = Pol.ev f x := by
  rw [← vx_ev]
  have h1 : ∀ n, f.length ≤ n → Pol.ev ((List.range n).map (Pol.co f)) x = Pol.ev f x := fun n hn => by
    obtain ⟨r, rfl⟩ : ∃ r, n = f.length + r := ⟨n - f.length, by omega⟩
    induction r with
    | zero =>
      rw [Nat.add_zero, show (List.range f.length).map (Pol.co f) = f from Pol.list_ext _ _ (by simp) fun k => by
        by_cases hk : k < f.length
        · rw [Pol.co, List.getD_eq_getElem?_getD]; simp [hk]
        · rw [Pol.co_out _ k (by simp; omega), Pol.co_out _ k (by omega)]]
    | succ r ih =>
      rw [show f.length + (r + 1) = (f.length + r) + 1 by omega, List.range_succ, List.map_append, List.map_cons, List.map_nil, Pol.ev_snoc, ih (by omega), Pol.co_out f _ (by omega)]; grind
  exact h1 (d + 1) h
theorem sum_ev (n : Nat) (v : Nat → F) (x : F) : (sg n fun i => v i * pw x i) = Pol.ev (Pol.trim ((List.range n).map v)) x := by
  rw [Pol.ev_trim]
  rcases n with _ | d
  · rfl
  · exact (vx_ev d v x).symm
theorem zero_prod {f g : List F} (tf : Pol.Tr f) (tg : Pol.Tr g) (h : f.length + g.length ≤ 9973) (hz : ∀ x, Pol.ev f x * Pol.ev g x = 0) : f = [] ∨ g = [] := by
  by_cases h2 : g = []
  · exact .inr h2
  · left
    have := Pol.zero_of (Pol.pmul f g) (Pol.tr_pmul f g tf tg h2) (by have := Pol.len_pmul_le f g; omega) fun x => by rw [Pol.ev_pmul, hz]
    refine Classical.byContradiction fun h1 => ?_
    have hl := Pol.len_pmul f g h1 h2
    rw [this] at hl
    have := List.length_pos_iff.2 h1
    have := List.length_pos_iff.2 h2
    simp at hl; omega
/-- Where something short, times the one, and something, times the other, are together nought, what divides both is no number. -/
theorem gc_common {f g c : List F} (h : Pol.Gc f g c) : ∀ (v u : List F), Pol.Tr f → Pol.Tr g → f.length ≤ 1000 → g.length ≤ 1000 → Pol.Tr v → Pol.Tr u → v ≠ [] → v.length < f.length → u.length ≤ 3000 →
    (∀ x, Pol.ev v x * Pol.ev g x + Pol.ev u x * Pol.ev f x = 0) → 1 < c.length := by
  induction h with
  | done f =>
    intro v u tf _ lf _ _ _ hv hlt _ _
    have := List.length_pos_iff.2 hv
    omega
  | @step f g w r c d hg ih =>
    intro v u tf tg lf lg tv tu hv hlt lu hx
    have hgn := d.ne
    have hfn : f ≠ [] := fun e => by rw [e] at hlt; simp at hlt
    have hun : u ≠ [] := fun e => by
      rcases zero_prod tv tg (by omega) fun x => by
        have := hx x
        rw [e] at this
        show _ = (0 : F)
        have z : Pol.ev [] x = 0 := rfl
        rw [z] at this
        grind with h | h
      · exact hv h
      · exact hgn h
    have hlen : u.length < g.length := by
      have e : Pol.pmul v g = Pol.times (-1) (Pol.pmul u f) := Pol.same _ _ (Pol.tr_pmul v g tv tg hgn) (Pol.tr_times (by decide) (Pol.tr_pmul u f tu tf hfn)) (by have := Pol.len_pmul_le v g; omega) (by rw [Pol.len_times]; have := Pol.len_pmul_le u f; omega) fun x => by
        rw [Pol.ev_pmul, Pol.ev_times, Pol.ev_pmul]
        have := hx x
        grind
      have l1 := Pol.len_pmul v g hv hgn
      have l2 := Pol.len_pmul u f hun hfn
      rw [e, Pol.len_times] at l1
      omega
    refine ih u (Pol.trim (Pol.padd v (Pol.pmul u w))) tg d.tr lg (by have := d.lt; omega) tu (Pol.tr_trim _) hun hlen ?_ fun x => ?_
    · have h1 := Pol.len_trim (Pol.padd v (Pol.pmul u w))
      have h2 := Pol.len_pmul_le u w
      have h3 := d.lq
      rw [Pol.len_padd] at h1
      omega
    · rw [Pol.ev_trim, Pol.ev_padd, Pol.ev_pmul]
      have h1 := hx x
      have h2 := d.eq x
      rw [h2] at h1
      grind
/-- Sylvester: it is nought just if what divides both is no number. -/
theorem rs_common {f g c : List F} (h : Pol.Gc f g c) (tf : Pol.Tr f) (tg : Pol.Tr g) (lf : f.length ≤ 1000) (lg : g.length ≤ 1000) (nf : f ≠ []) (ng : g ≠ []) (h0 : 0 < f.length - 1 + (g.length - 1)) :
    rs (f.length - 1) (g.length - 1) (Pol.co f) (Pol.co g) = 0 ↔ 1 < c.length := by
  have pf := List.length_pos_iff.2 nf
  have pg := List.length_pos_iff.2 ng
  rw [rs_null (by omega) h0 (co_deg f) (co_deg g)]
  have vf : ∀ x, vx (f.length - 1) (Pol.co f) x = Pol.ev f x := fun x => co_vx f (by omega) x
  have vg : ∀ x, vx (g.length - 1) (Pol.co g) x = Pol.ev g x := fun x => co_vx g (by omega) x
  constructor
  · rintro ⟨v, u, hvu, hx⟩
    have hl : (Pol.trim ((List.range (f.length - 1)).map v)).length ≤ f.length - 1 := by have := Pol.len_trim ((List.range (f.length - 1)).map v); simpa using this
    have hl2 : (Pol.trim ((List.range (g.length - 1)).map u)).length ≤ g.length - 1 := by have := Pol.len_trim ((List.range (g.length - 1)).map u); simpa using this
    have hx' : ∀ x, Pol.ev (Pol.trim ((List.range (f.length - 1)).map v)) x * Pol.ev g x + Pol.ev (Pol.trim ((List.range (g.length - 1)).map u)) x * Pol.ev f x = 0 := fun x => by
      rw [← sum_ev, ← sum_ev, ← vf, ← vg]; exact hx x
    have none_of : ∀ (n : Nat) (y : Nat → F), Pol.trim ((List.range n).map y) = [] → ∀ k, k < n → y k = 0 := fun n y e k hk => by
      have := Pol.co_trim ((List.range n).map y) k
      rw [e, Pol.co_nil] at this
      rw [this]
      simp [Pol.co, hk]
    refine gc_common h _ _ tf tg lf lg (Pol.tr_trim _) (Pol.tr_trim _) (fun e => ?_) (by omega) (by omega) hx'
    -- else the second one is nought as well
    have hu : Pol.trim ((List.range (g.length - 1)).map u) = [] := by
      rcases zero_prod (Pol.tr_trim ((List.range (g.length - 1)).map u)) tf (by omega) fun x => by
        have := hx' x
        rw [e] at this
        have z : Pol.ev [] x = 0 := rfl
        rw [z] at this
        grind with h | h
      · exact h
      · exact absurd h nf
    rcases hvu with ⟨k, hk, h1⟩ | ⟨k, hk, h1⟩
    · exact h1 (none_of _ _ e k hk)
    · exact h1 (none_of _ _ hu k hk)
  · intro hc
    obtain ⟨tc, lc, hcn, a, b, ta, tb, la, lb, ea, eb⟩ := h.facts tf tg lf lg
    have cn : c ≠ [] := fun e => by rw [e] at hc; simp at hc
    have an : a ≠ [] := fun e => nf (Pol.zero_of f tf (by omega) fun x => by rw [ea, e]; show _ * (0 : F) = 0; grind)
    have bn : b ≠ [] := fun e => ng (Pol.zero_of g tg (by omega) fun x => by rw [eb, e]; show _ * (0 : F) = 0; grind)
    have fa : f = Pol.pmul c a := Pol.same _ _ tf (Pol.tr_pmul c a tc ta an) (by omega) (by have := Pol.len_pmul_le c a; omega) fun x => by rw [ea, Pol.ev_pmul]
    have gb : g = Pol.pmul c b := Pol.same _ _ tg (Pol.tr_pmul c b tc tb bn) (by omega) (by have := Pol.len_pmul_le c b; omega) fun x => by rw [eb, Pol.ev_pmul]
    have l1 := Pol.len_pmul c a cn an
    have l2 := Pol.len_pmul c b cn bn
    rw [← fa] at l1
    rw [← gb] at l2
    have pa := List.length_pos_iff.2 an
    refine ⟨Pol.co a, fun k => (-1) * Pol.co b k, .inl ⟨a.length - 1, by omega, ta an⟩, fun x => ?_⟩
    have s1 : (sg (f.length - 1) fun i => Pol.co a i * pw x i) = Pol.ev a x := by
      have := co_vx a (d := f.length - 1 - 1) (by omega) x
      rw [← this]
      unfold vx
      rw [show f.length - 1 - 1 + 1 = f.length - 1 by omega]
    have s2 : (sg (g.length - 1) fun i => (-1) * Pol.co b i * pw x i) = (-1) * Pol.ev b x := by
      have := co_vx b (d := g.length - 1 - 1) (by omega) x
      rw [← this]
      unfold vx
      rw [show g.length - 1 - 1 + 1 = g.length - 1 by have := List.length_pos_iff.2 bn; omega, ← sg_times]
      exact sg_congr fun i _ => by grind
    rw [s1, s2, vf, vg, ea, eb]
    grind

end Go.Proofs.Ytnjhdedhobgplaa.Mx

/- Plain facts on rows that go on by factors: the row, its step as a matrix, and that matrix's factors. No program is named here. -/
namespace Go.Proofs.Ytnjhdedhobgplaa.Mx
open Fp
set_option linter.unusedVariables false

/-- x goes on by n factors. -/
def Goes (n : Nat) (c x : Nat → F) : Prop := ∀ i, n ≤ i → x i = sg n fun k => c k * x (i - 1 - k)
/-- The first numbers of the row that begins with s and goes on by c. -/
def sql (n : Nat) (c s : Nat → F) : Nat → List F
  | 0 => []
  | i + 1 => sql n c s i ++ [if i < n then s i else sg n fun k => c k * (sql n c s i).getD (i - 1 - k) 0]
def sq (n : Nat) (c s : Nat → F) (i : Nat) : F := (sql n c s (i + 1)).getD i 0
theorem sql_len (n : Nat) (c s : Nat → F) : ∀ i, (sql n c s i).length = i
  | 0 => rfl
  | i + 1 => by rw [sql, List.length_append, sql_len n c s i]; rfl
theorem sql_at (n : Nat) (c s : Nat → F) (j : Nat) : ∀ i, j < i → (sql n c s i).getD j 0 = sq n c s j
  | 0, h => absurd h (by omega)
  | i + 1, h => by
    by_cases e : j = i
    · rw [e]; rfl
    · rw [sql, List.getD_eq_getElem?_getD, List.getElem?_append_left (by rw [sql_len]; omega), ← List.getD_eq_getElem?_getD, sql_at n c s j i (by omega)]
theorem sq_val (n : Nat) (c s : Nat → F) (i : Nat) : sq n c s i = if i < n then s i else sg n fun k => c k * (sql n c s i).getD (i - 1 - k) 0 := by
  unfold sq
  rw [sql, List.getD_eq_getElem?_getD, List.getElem?_append_right (by rw [sql_len]; omega), sql_len, Nat.sub_self]; rfl
theorem sq_start (n : Nat) (c s : Nat → F) {i : Nat} (h : i < n) : sq n c s i = s i := by rw [sq_val, if_pos h]
theorem sq_goes (n : Nat) (c s : Nat → F) (hn : 0 < n) : Goes n c (sq n c s) := fun i h => by
  rw [sq_val, if_neg (by omega)]
  exact sg_congr fun k hk => by rw [sql_at n c s _ i (by omega)]
/-- There is but one such row. -/
theorem Goes.one {n : Nat} {c x y : Nat → F} (hx : Goes n c x) (hy : Goes n c y) (h : ∀ i, i < n → x i = y i) : ∀ i, x i = y i := fun i => by
  induction i using Nat.strongRecOn with
  | _ i ih =>
    by_cases hi : i < n
    · exact h i hi
    · rw [hx i (by omega), hy i (by omega)]
      exact sg_congr fun k hk => by rw [ih (i - 1 - k) (by omega)]
theorem Goes.is {n : Nat} (hn : 0 < n) {c x : Nat → F} (hx : Goes n c x) : ∀ i, x i = sq n c x i := hx.one (sq_goes n c x hn) fun i hi => (sq_start n c x hi).symm
theorem Goes.plus {n : Nat} {c x y : Nat → F} (hx : Goes n c x) (hy : Goes n c y) : Goes n c fun i => x i + y i := fun i hi => by
  dsimp only
  rw [hx i hi, hy i hi, ← sg_add]
  exact sg_congr fun k _ => by grind
theorem Goes.later {n : Nat} {c x : Nat → F} (hx : Goes n c x) (j : Nat) : Goes n c fun i => x (i + j) := fun i hi => by
  dsimp only
  rw [hx (i + j) (by omega)]
  exact sg_congr fun k hk => by rw [show i + j - 1 - k = i - 1 - k + j by omega]

/-- The step of a row as a matrix: the newest number first. -/
def cmp (n : Nat) (c : Nat → F) : Nat → Nat → F := fun i j => if i = 0 then c j else if j + 1 = i then 1 else 0
theorem cmp_step {n : Nat} {c x : Nat → F} (hx : Goes n c x) (i : Nat) {a : Nat} (ha : a < n) : (sg n fun b => cmp n c a b * x (i + (n - 1 - b))) = x (i + 1 + (n - 1 - a)) := by
  rcases a with _ | a
  · rw [hx (i + 1 + (n - 1 - 0)) (by omega)]
    exact sg_congr fun k hk => by
      unfold cmp; rw [if_pos rfl, show i + 1 + (n - 1 - 0) - 1 - k = i + (n - 1 - k) by omega]
  · rw [sg_one (k := a) (by omega) fun j hj hne => by unfold cmp; rw [if_neg (by omega), if_neg (by omega)]; grind]
    unfold cmp
    rw [if_neg (by omega), if_pos rfl, show i + (n - 1 - a) = i + 1 + (n - 1 - (a + 1)) by omega]; grind
/-- Its powers tell the row. -/
theorem cmp_pow {n : Nat} {c x : Nat → F} (hx : Goes n c x) : ∀ (k i a : Nat), a < n → (sg n fun b => pwm n (cmp n c) k a b * x (i + (n - 1 - b))) = x (i + k + (n - 1 - a))
  | 0, i, a, ha => by
    rw [sg_one ha fun j hj hne => by
      show (if a = j then (1 : F) else 0) * _ = 0
      rw [if_neg fun e => hne e.symm]; grind]
    show (if a = a then (1 : F) else 0) * _ = _
    rw [if_pos rfl, Nat.add_zero]; grind
  | k + 1, i, a, ha => by
    have h1 : (sg n fun b => pwm n (cmp n c) (k + 1) a b * x (i + (n - 1 - b))) = sg n fun b => mul n (pwm n (cmp n c) k) (cmp n c) a b * x (i + (n - 1 - b)) := sg_congr fun b hb => by
      rw [← pwm_snoc n (cmp n c) k a b ha hb]
    have h2 : (sg n fun b => mul n (pwm n (cmp n c) k) (cmp n c) a b * x (i + (n - 1 - b))) = sg n fun t => pwm n (cmp n c) k a t * sg n fun b => cmp n c t b * x (i + (n - 1 - b)) := by
      rw [sg_congr (g := fun b => sg n fun t => pwm n (cmp n c) k a t * (cmp n c t b * x (i + (n - 1 - b)))) fun b _ => by
        unfold mul; rw [← sg_by]; exact sg_congr fun t _ => by grind, sg_swap]
      exact sg_congr fun t _ => by rw [sg_times]
    rw [h1, h2, sg_congr (g := fun t => pwm n (cmp n c) k a t * x (i + 1 + (n - 1 - t))) fun t ht => by rw [cmp_step hx i ht], cmp_pow hx k (i + 1) a ha]
    congr 1; omega

/-- Noughts above the middle, -1 in it. -/
theorem dt_mid (d : F) : ∀ (n : Nat) (g : Nat → Nat → F), (∀ i j, i < n → j < n → i < j → g i j = 0) → (∀ i, i < n → g i i = d) → dt n g = pw d n
  | 0, g, _, _ => rfl
  | n + 1, g, h, hd => by
    have e := dt_right 1 n g fun i j hi hj hj2 => h i j (by omega) (by omega) (by omega)
    rw [Nat.add_comm 1 n] at e
    rw [e, dt_mid d n (fun i j => g (1 + i) (1 + j)) (fun i j hi hj hij => h _ _ (by omega) (by omega) (by omega)) (fun i hi => hd _ (by omega)), dt_succ, sg_succ, sg_zero, hd 0 (by omega), show sgn 0 = 1 from rfl, pw_succ]
    show (0 + 1 * d * 1) * pw d n = _
    grind
/-- x times the one, less the step. -/
theorem cmp_dt (c : Nat → F) (x : F) : ∀ n, dt (n + 1) (chm (cmp (n + 1) c) x) = pw x (n + 1) - sg (n + 1) fun k => c k * pw x (n - k)
  | 0 => by
    rw [dt_succ, sg_succ, sg_zero, sg_succ, sg_zero, pw_one, show sgn 0 = 1 from rfl]
    show 0 + 1 * (x - c 0) * 1 = x - (0 + c 0 * 1)
    grind
  | n + 1 => by
    have ih := cmp_dt c x n
    -- by the last row of what is flipped: the last column
    rw [← dt_flip, ← laplace (n + 1) (n + 1) _ (Nat.le_refl _)]
    have hz : ∀ j, j < n + 1 + 1 → j ≠ 0 → j ≠ n + 1 → sgn (n + 1 + j) * flip (chm (cmp (n + 1 + 1) c) x) (n + 1) j * dt (n + 1) (wo (flip (chm (cmp (n + 1 + 1) c) x)) (n + 1) j) = 0 := fun j hj h0 h1 => by
      have : flip (chm (cmp (n + 1 + 1) c) x) (n + 1) j = 0 := by
        show (if j = n + 1 then x else 0) - cmp (n + 1 + 1) c j (n + 1) = 0
        unfold cmp
        rw [if_neg h1, if_neg h0, if_neg (by omega)]; grind
      rw [this]; grind
    rw [sg_two (k := 0) (l := n + 1) (by omega) (by omega) (by omega) (fun j hj h0 h1 => hz j hj h0 h1)]
    have v0 : flip (chm (cmp (n + 1 + 1) c) x) (n + 1) 0 = -(c (n + 1)) := by
      show (if 0 = n + 1 then x else 0) - cmp (n + 1 + 1) c 0 (n + 1) = _
      unfold cmp
      rw [if_neg (by omega), if_pos rfl]; grind
    have v1 : flip (chm (cmp (n + 1 + 1) c) x) (n + 1) (n + 1) = x := by
      show (if n + 1 = n + 1 then x else 0) - cmp (n + 1 + 1) c (n + 1) (n + 1) = _
      unfold cmp
      rw [if_pos rfl, if_neg (by omega), if_neg (by omega)]; grind
    have w0 : dt (n + 1) (wo (flip (chm (cmp (n + 1 + 1) c) x)) (n + 1) 0) = pw (-1) (n + 1) := by
      refine dt_mid (-1) (n + 1) _ (fun i j hi hj hij => ?_) (fun i hi => ?_)
      · show (if sk 0 j = sk (n + 1) i then x else 0) - cmp (n + 1 + 1) c (sk 0 j) (sk (n + 1) i) = 0
        rw [sk_zero, show sk (n + 1) i = i by unfold sk; rw [if_pos hi]]
        unfold cmp
        rw [if_neg (by omega), if_neg (by omega), if_neg (by omega)]; grind
      · show (if sk 0 i = sk (n + 1) i then x else 0) - cmp (n + 1 + 1) c (sk 0 i) (sk (n + 1) i) = -1
        rw [sk_zero, show sk (n + 1) i = i by unfold sk; rw [if_pos hi]]
        unfold cmp
        rw [if_neg (by omega), if_neg (by omega), if_pos rfl]; grind
    have w1 : dt (n + 1) (wo (flip (chm (cmp (n + 1 + 1) c) x)) (n + 1) (n + 1)) = dt (n + 1) (chm (cmp (n + 1) c) x) := by
      rw [← dt_flip (n + 1) (chm (cmp (n + 1) c) x)]
      refine dt_congr _ fun i j hi hj => ?_
      show (if sk (n + 1) j = sk (n + 1) i then x else 0) - cmp (n + 1 + 1) c (sk (n + 1) j) (sk (n + 1) i) = (if j = i then x else 0) - cmp (n + 1) c j i
      rw [show sk (n + 1) i = i by unfold sk; rw [if_pos hi], show sk (n + 1) j = j by unfold sk; rw [if_pos hj]]; rfl
    have sp : sgn (n + 1 + 0) * pw (-1) (n + 1) = 1 := by
      have : ∀ k, sgn k * pw (-1) k = 1 := fun k => by
        induction k with
        | zero => rfl
        | succ k ih => rw [sgn_succ, pw_succ]; grind
      exact this (n + 1)
    rw [v0, v1, w0, w1, ih, show sgn (n + 1 + (n + 1)) = 1 by rw [sgn_add, sgn_two], sg_succ (n + 1) fun k => c k * pw x (n + 1 - k), Nat.sub_self, pw_zero]
    have e : (sg (n + 1) fun k => c k * pw x (n + 1 - k)) = x * sg (n + 1) fun k => c k * pw x (n - k) := by
      rw [← sg_times]
      exact sg_congr fun k hk => by rw [show n + 1 - k = (n - k) + 1 by omega, pw_succ]; grind
    rw [e, pw_succ x (n + 1)]
    grind
/-- The factors of the step are those of the row. -/
theorem cmp_ch {n : Nat} (hn : n + 1 < 9973) (c : Nat → F) : ∀ k, k ≤ n → ch (n + 1) (cmp (n + 1) c) (n - k) = -(c k) := fun k hk => by
  have h := vx_eq (d := n + 1) hn (c := ch (n + 1) (cmp (n + 1) c)) (e := fun j => if j = n + 1 then 1 else -(c (n - j))) (fun x => by
    rw [← ch_is, cmp_dt]
    rw [vx_succ]
    rw [if_pos rfl]
    have : (vx n (fun j => if j = n + 1 then 1 else -(c (n - j))) x) = -(sg (n + 1) fun k => c k * pw x (n - k)) := by
      unfold vx
      have e1 : (sg (n + 1) fun j => (if j = n + 1 then 1 else -(c (n - j))) * pw x j) = sg (n + 1) fun j => -(c (n - j)) * pw x j := sg_congr fun j hj => by rw [if_neg (by omega)]
      have e2 : ∀ m, m ≤ n + 1 → ∀ g : Nat → F, (sg m fun j => g (m - 1 - j)) = sg m g := by
        intro m
        induction m with
        | zero => intros; rfl
        | succ m ih =>
          intro hm g
          rw [sg_first, sg_succ m g]
          have := ih (by omega) g
          rw [← this]
          have e3 : (sg m fun i => g (m + 1 - 1 - (i + 1))) = sg m fun j => g (m - 1 - j) := sg_congr fun i hi => by congr 1; omega
          rw [e3]
          show g (m + 1 - 1 - 0) + _ = _ + g m
          rw [show m + 1 - 1 - 0 = m by omega]; grind
      have e4 := e2 (n + 1) (Nat.le_refl _) (fun k => c k * pw x (n - k))
      rw [e1, ← e4]
      have e5 : -(sg (n + 1) fun j => c (n + 1 - 1 - j) * pw x (n - (n + 1 - 1 - j))) = (-1) * sg (n + 1) fun j => c (n + 1 - 1 - j) * pw x (n - (n + 1 - 1 - j)) := by grind
      rw [e5, ← sg_times]
      exact sg_congr fun j hj => by
        rw [show n - (n + 1 - 1 - j) = j by omega, show n + 1 - 1 - j = n - j by omega]; grind
    rw [this]; grind) (n - k) (by omega)
  rw [h]
  rw [if_neg (by omega), show n - (n - k) = k by omega]

end Go.Proofs.Ytnjhdedhobgplaa.Mx

/- Matrices in memory: a slice of rows that lies, and one of the call's own whose rows stand apart. For all packages. -/
namespace Go.Proofs.Ytnjhdedhobgplaa
open Go.ChangeShapes Go.WideShapes Go.ChangeAt Go.RowKit
set_option linter.unusedVariables false

theorem ints_info : (Try.prog.info? 22).map (fun i => (i.zero, i.size, i.bytes)) = some (some (.slice none 0 0), 1, 24) := by kernel_rfl

/-- From address A on lie the rows of m. -/
def LiesM (w : World) (A : Option Addr) (m : List (List Int)) : Prop :=
  ∀ k, k < m.length → ∃ ad A' c, A = some ad ∧ ad.block < w.heap.size ∧ w.cell? (ad.add k) = some (.slice A' (m.getD k []).length c) ∧ (m.getD k []).length ≤ c ∧ Lies w A' (m.getD k [])
theorem LiesM.empty (w : World) (A : Option Addr) : LiesM w A [] := fun k h => absurd h (by simp)
theorem LiesM.keep {w w' : World} {A : Option Addr} {m : List (List Int)} (h : LiesM w A m) (hb : Kp w w') : LiesM w' A m := fun k hk => by
  obtain ⟨ad, A', c, e, hl, hc, hle, hr⟩ := h k hk
  exact ⟨ad, A', c, e, Nat.lt_of_lt_of_le hl hb.size, (hb.cell (p := ad.add k) (by rw [block_add]; omega)).trans hc, hle, hr.keep hb⟩
theorem LiesM.drewN {w : World} {A : Option Addr} {m : List (List Int)} (h : LiesM w A m) (n : Nat) : LiesM (w.drewN n) A m := h.keep ((Kp.rfl' w).drewN n)
/-- Row i of a matrix from a rule. -/
theorem LiesM.row {w : World} {A : Option Addr} {r c : Nat} {g : Nat → Nat → Int} (h : LiesM w A (Mx.tab r c g)) {i : Nat} (hi : i < r) :
    ∃ ad A' cap, A = some ad ∧ ad.block < w.heap.size ∧ w.cell? (ad.add i) = some (.slice A' c cap) ∧ c ≤ cap ∧ Lies w A' (Mx.row c (g i)) := by
  obtain ⟨ad, A', cap, e, hl, hc, hle, hr⟩ := h i (by rw [Mx.len_tab]; exact hi)
  rw [Mx.tab_len _ _ _ _ hi] at hc hle
  rw [Mx.tab_at _ _ _ _ hi] at hr
  exact ⟨ad, A', cap, e, hl, hc, hle, hr⟩
theorem Lies.el {w : World} {A : Option Addr} {c : Nat} {g : Nat → Int} (h : Lies w A (Mx.row c g)) {j : Nat} (hj : j < c) : ∃ ad, A = some ad ∧ ad.block < w.heap.size ∧ w.cell? (ad.add j) = some (.int .i64 (g j)) := by
  obtain ⟨ad, e, hl, hc⟩ := h j (by rw [Mx.len_row]; exact hj)
  rw [Mx.row_at _ _ _ hj] at hc
  exact ⟨ad, e, hl, hc⟩

/-- Block g holds the heads of r rows of c numbers each, row i in block G i, each apart from the others, and all behind g. -/
structure Grid (w : World) (g : Nat) (G : Nat → Nat) (r c : Nat) (f : Nat → Nat → Int) : Prop where
  head : w.heap[g]? = some (.cells ((List.range r).map fun i => Value.slice (some ⟨G i, 0, none⟩) c c).toArray 22 (0, 0))
  row : ∀ i, i < r → Row w (G i) (Mx.row c (f i))
  after : ∀ i, i < r → g < G i
  apart : ∀ i j, i < r → j < r → i ≠ j → G i ≠ G j
theorem Grid.lt {w : World} {g : Nat} {G : Nat → Nat} {r c : Nat} {f : Nat → Nat → Int} (h : Grid w g G r c f) : g < w.heap.size := by
  rcases Nat.lt_or_ge g w.heap.size with h' | h'
  · exact h'
  · have := h.head; rw [Array.getElem?_eq_none h'] at this; cases this
theorem Grid.cell {w : World} {g : Nat} {G : Nat → Nat} {r c : Nat} {f : Nat → Nat → Int} (h : Grid w g G r c f) {i : Nat} (hi : i < r) : w.cell? ⟨g, i, none⟩ = some (.slice (some ⟨G i, 0, none⟩) c c) := by
  rw [cell_of_row _ _ i _ _ (0, 0) h.head]; simp [hi]
theorem Grid.el {w : World} {g : Nat} {G : Nat → Nat} {r c : Nat} {f : Nat → Nat → Int} (h : Grid w g G r c f) {i j : Nat} (hi : i < r) (hj : j < c) : w.cell? ⟨G i, j, none⟩ = some (.int .i64 (f i j)) := by
  rw [(h.row i hi).cell j (by rw [Mx.len_row]; exact hj), Mx.row_at _ _ _ hj]
theorem Grid.free {w : World} {g : Nat} {G : Nat → Nat} {r c : Nat} {f : Nat → Nat → Int} (h : Grid w g G r c f) {i : Nat} (hi : i < r) (j : Nat) : w.frozen? ⟨G i, j, none⟩ = false := (h.row i hi).free j
theorem Grid.keep {w w' : World} {g : Nat} {G : Nat → Nat} {r c : Nat} {f : Nat → Nat → Int} (h : Grid w g G r c f) (hk : Kp w w') : Grid w' g G r c f :=
  ⟨by rw [hk.block g h.lt]; exact h.head, fun i hi => (h.row i hi).keep hk, h.after, h.apart⟩
theorem Grid.drewN {w : World} {g : Nat} {G : Nat → Nat} {r c : Nat} {f : Nat → Nat → Int} (h : Grid w g G r c f) (n : Nat) : Grid (w.drewN n) g G r c f := h.keep ((Kp.rfl' w).drewN n)
theorem Grid.new {w : World} {g : Nat} {G : Nat → Nat} {r c : Nat} {f : Nat → Nat → Int} (h : Grid w g G r c f) (o : Obj) : Grid (w.alloc o) g G r c f := h.keep ((Kp.rfl' w).new o)
theorem Grid.ext {w : World} {g : Nat} {G : Nat → Nat} {r c : Nat} {f f' : Nat → Nat → Int} (h : Grid w g G r c f) (e : ∀ i j, i < r → j < c → f i j = f' i j) : Grid w g G r c f' :=
  ⟨h.head, fun i hi => by rw [← Mx.row_ext (fun j hj => e i j hi hj)]; exact h.row i hi, h.after, h.apart⟩
theorem Grid.put {w : World} {g : Nat} {G : Nat → Nat} {r c : Nat} {f : Nat → Nat → Int} (h : Grid w g G r c f) {i : Nat} (hi : i < r) (j : Nat) (x : Int) :
    Grid (w.setCell ⟨G i, j, none⟩ (.int .i64 x)) g G r c (fun a b => if a = i ∧ b = j then x else f a b) := by
  refine ⟨?_, fun a ha => ?_, h.after, h.apart⟩
  · rw [heap_setCell_other w _ g _ (by show g ≠ G i; have := h.after i hi; omega)]; exact h.head
  · by_cases e : a = i
    · subst e
      have := (h.row a ha).put j x
      rw [Mx.row_set] at this
      rw [show (fun b => if a = a ∧ b = j then x else f a b) = fun b => if b = j then x else f a b by funext b; simp]
      exact this
    · rw [show (fun b => if a = i ∧ b = j then x else f a b) = f a by funext b; simp [e]]
      exact (h.row a ha).far (by show G a ≠ G i; exact h.apart a i ha hi e) _
theorem Grid.lies {w : World} {g : Nat} {G : Nat → Nat} {r c : Nat} {f : Nat → Nat → Int} (h : Grid w g G r c f) : LiesM w (some ⟨g, 0, none⟩) (Mx.tab r c f) := fun i hi => by
  rw [Mx.len_tab] at hi
  refine ⟨_, some ⟨G i, 0, none⟩, c, rfl, h.lt, ?_, ?_, ?_⟩
  · rw [add_at, Mx.tab_len _ _ _ _ hi]; exact h.cell hi
  · rw [Mx.tab_len _ _ _ _ hi]; exact Nat.le_refl _
  · rw [Mx.tab_at _ _ _ _ hi]; exact (h.row i hi).lies

/-- The same, where the first k rows alone are made, all of noughts. -/
structure Part (w : World) (g : Nat) (G : Nat → Nat) (r c k : Nat) : Prop where
  head : w.heap[g]? = some (.cells ((List.range r).map fun i => if i < k then Value.slice (some ⟨G i, 0, none⟩) c c else .slice none 0 0).toArray 22 (0, 0))
  row : ∀ i, i < k → Row w (G i) (List.replicate c 0)
  after : ∀ i, i < k → g < G i
  apart : ∀ i j, i < k → j < k → i ≠ j → G i ≠ G j
theorem Part.lt {w : World} {g : Nat} {G : Nat → Nat} {r c k : Nat} (h : Part w g G r c k) : g < w.heap.size := by
  rcases Nat.lt_or_ge g w.heap.size with h' | h'
  · exact h'
  · have := h.head; rw [Array.getElem?_eq_none h'] at this; cases this
theorem Part.keep {w w' : World} {g : Nat} {G : Nat → Nat} {r c k : Nat} (h : Part w g G r c k) (hk : Kp w w') : Part w' g G r c k :=
  ⟨by rw [hk.block g h.lt]; exact h.head, fun i hi => (h.row i hi).keep hk, h.after, h.apart⟩
theorem Part.cell {w : World} {g : Nat} {G : Nat → Nat} {r c k : Nat} (h : Part w g G r c k) {i : Nat} (hi : k ≤ i) (hr : i < r) : w.cell? ⟨g, i, none⟩ = some (.slice none 0 0) := by
  rw [cell_of_row _ _ i _ _ (0, 0) h.head]; simp [hr]; omega
theorem Part.free {w : World} {g : Nat} {G : Nat → Nat} {r c k : Nat} (h : Part w g G r c k) (i : Nat) : w.frozen? ⟨g, i, none⟩ = false := frozen_of_row w g i _ _ h.head
theorem Part.start {w : World} {base g r c : Nat} (h : w.ownsRow base 22 1 (.slice (some ⟨g, 0, none⟩) r r) r (madeCells #[.slice none 0 0] (r * 1)).toList) : Part w g (fun _ => 0) r c 0 := by
  refine ⟨?_, fun i hi => absurd hi (by omega), fun i hi => absurd hi (by omega), fun i j hi => absurd hi (by omega)⟩
  rcases h.2 with ⟨h', _⟩ | ⟨g', cap, cur, h', _, hg, _, _, hs, ht⟩
  · simp at h'
  · simp only [Value.slice.injEq, Option.some.injEq, Addr.mk.injEq, and_true, true_and] at h'
    obtain ⟨rfl, rfl⟩ := h'
    rw [hg]
    congr 2
    apply Array.toList_inj.1
    rw [toList_madeCells_one] at ht
    rw [List.take_of_length_le (by rw [Array.length_toList, hs]; exact Nat.le_refl _)] at ht
    rw [ht]
    refine List.ext_getElem (by simp) fun j h1 h2 => ?_
    simp
theorem Part.step {w w1 : World} {g : Nat} {G : Nat → Nat} {r c k : Nat} (h : Part w g G r c k) (hk : k < r) (hr : Row w1 w.heap.size (List.replicate c 0)) (hkp : Kp w w1) :
    Part (w1.setCell ⟨g, k, none⟩ (.slice (some ⟨w.heap.size, 0, none⟩) c c)) g (fun i => if i = k then w.heap.size else G i) r c (k + 1) := by
  have hlt := h.lt
  have h1 := h.keep hkp
  refine ⟨?_, fun i hi => ?_, fun i hi => ?_, fun i j hi hj hne => ?_⟩
  · rw [heap_setCell_same w1 g k _ _ _ h1.head]
    congr 2
    refine Array.toList_inj.1 (List.ext_getElem (by simp) fun i h2 h3 => ?_)
    simp only [Array.toList_setIfInBounds, List.getElem_set, List.getElem_map, List.getElem_range]
    rcases Nat.lt_trichotomy i k with e | e | e
    · simp [show ¬ k = i by omega, show i < k from e, show i < k + 1 by omega, show ¬ i = k by omega]
    · subst e; simp
    · simp [show ¬ k = i by omega, show ¬ i < k by omega, show ¬ i < k + 1 by omega]
  · by_cases e : i = k
    · subst e
      rw [if_pos rfl]
      exact hr.far (by show w.heap.size ≠ g; omega) _
    · rw [if_neg e]
      exact (h1.row i (by omega)).far (by show G i ≠ g; have := h.after i (by omega); omega) _
  · by_cases e : i = k
    · rw [if_pos e]; exact hlt
    · rw [if_neg e]; exact h.after i (by omega)
  · have hG : ∀ a, a < k → G a < w.heap.size := fun a ha => (h.row a ha).lt
    by_cases e : i = k
    · rw [if_pos e, if_neg (by omega)]
      have := hG j (by omega); omega
    · rw [if_neg e]
      by_cases e2 : j = k
      · rw [if_pos e2]; have := hG i (by omega); omega
      · rw [if_neg e2]; exact h.apart i j (by omega) (by omega) hne
theorem Part.done {w : World} {g : Nat} {G : Nat → Nat} {r c : Nat} (h : Part w g G r c r) : Grid w g G r c (fun _ _ => 0) := by
  refine ⟨?_, fun i hi => by rw [← Mx.row_rep]; exact h.row i hi, h.after, h.apart⟩
  rw [h.head]
  congr 2
  refine Array.toList_inj.1 (List.ext_getElem (by simp) fun i h2 h3 => ?_)
  simp only [List.getElem_map, List.getElem_range]
  rw [if_pos (by simpa using h3)]

end Go.Proofs.Ytnjhdedhobgplaa

/- The heads of r rows, of which the first k are made. For all packages. -/
namespace Go.Proofs.Ytnjhdedhobgplaa
open Go.ChangeShapes Go.WideShapes Go.ChangeAt Go.RowKit
set_option linter.unusedVariables false

/-- Of a matrix that is made row by row the first k rows. -/
structure PartF (w : World) (g : Nat) (G : Nat → Nat) (r c k : Nat) (f : Nat → Nat → Int) : Prop where
  head : w.heap[g]? = some (.cells ((List.range r).map fun i => if i < k then Value.slice (some ⟨G i, 0, none⟩) c c else .slice none 0 0).toArray 22 (0, 0))
  row : ∀ i, i < k → Row w (G i) (Mx.row c (f i))
  after : ∀ i, i < k → g < G i
  apart : ∀ i j, i < k → j < k → i ≠ j → G i ≠ G j
theorem PartF.lt {w : World} {g : Nat} {G : Nat → Nat} {r c k : Nat} {f : Nat → Nat → Int} (h : PartF w g G r c k f) : g < w.heap.size := by
  rcases Nat.lt_or_ge g w.heap.size with h' | h'
  · exact h'
  · have := h.head; rw [Array.getElem?_eq_none h'] at this; cases this
theorem PartF.keep {w w' : World} {g : Nat} {G : Nat → Nat} {r c k : Nat} {f : Nat → Nat → Int} (h : PartF w g G r c k f) (hk : Kp w w') : PartF w' g G r c k f :=
  ⟨by rw [hk.block g h.lt]; exact h.head, fun i hi => (h.row i hi).keep hk, h.after, h.apart⟩
theorem PartF.cell {w : World} {g : Nat} {G : Nat → Nat} {r c k : Nat} {f : Nat → Nat → Int} (h : PartF w g G r c k f) {i : Nat} (hi : k ≤ i) (hr : i < r) : w.cell? ⟨g, i, none⟩ = some (.slice none 0 0) := by
  rw [cell_of_row _ _ i _ _ (0, 0) h.head]; simp [hr]; omega
theorem PartF.free {w : World} {g : Nat} {G : Nat → Nat} {r c k : Nat} {f : Nat → Nat → Int} (h : PartF w g G r c k f) (i : Nat) : w.frozen? ⟨g, i, none⟩ = false := frozen_of_row w g i _ _ h.head
theorem PartF.start {w : World} {base g r c : Nat} (f : Nat → Nat → Int) (h : w.ownsRow base 22 1 (.slice (some ⟨g, 0, none⟩) r r) r (madeCells #[.slice none 0 0] (r * 1)).toList) : PartF w g (fun _ => 0) r c 0 f :=
  ⟨(Part.start (c := c) h).head, fun i hi => absurd hi (by omega), fun i hi => absurd hi (by omega), fun i j hi => absurd hi (by omega)⟩
theorem PartF.step {w w1 w2 : World} {g : Nat} {G : Nat → Nat} {r c k : Nat} {f : Nat → Nat → Int} (h : PartF w g G r c k f) (hk : k < r) (hkp : Kp w w1) (h2 : Row w2 w.heap.size (Mx.row c (f k)))
    (hb : ∀ b, b ≠ w.heap.size → w2.heap[b]? = (w1.setCell ⟨g, k, none⟩ (.slice (some ⟨w.heap.size, 0, none⟩) c c)).heap[b]?) :
    PartF w2 g (fun i => if i = k then w.heap.size else G i) r c (k + 1) f := by
  have hlt := h.lt
  have h1 := h.keep hkp
  refine ⟨?_, fun i hi => ?_, fun i hi => ?_, fun i j hi hj hne => ?_⟩
  · rw [hb g (by omega), heap_setCell_same w1 g k _ _ _ h1.head]
    congr 2
    refine Array.toList_inj.1 (List.ext_getElem (by simp) fun i h2 h3 => ?_)
    simp only [Array.toList_setIfInBounds, List.getElem_set, List.getElem_map, List.getElem_range]
    rcases Nat.lt_trichotomy i k with e | e | e
    · simp [show ¬ k = i by omega, show i < k from e, show i < k + 1 by omega, show ¬ i = k by omega]
    · subst e; simp
    · simp [show ¬ k = i by omega, show ¬ i < k by omega, show ¬ i < k + 1 by omega]
  · by_cases e : i = k
    · subst e
      rw [if_pos rfl]; exact h2
    · rw [if_neg e]
      have hi' : i < k := by omega
      have := (h.row i hi').lt
      have h3 : Row (w1.setCell ⟨g, k, none⟩ (.slice (some ⟨w.heap.size, 0, none⟩) c c)) (G i) (Mx.row c (f i)) := (h1.row i hi').far (by show G i ≠ g; have := h.after i hi'; omega) _
      unfold Row at h3 ⊢
      rw [hb (G i) (by omega)]; exact h3
  · by_cases e : i = k
    · rw [if_pos e]; exact hlt
    · rw [if_neg e]; exact h.after i (by omega)
  · have hG : ∀ a, a < k → G a < w.heap.size := fun a ha => (h.row a ha).lt
    by_cases e : i = k
    · rw [if_pos e, if_neg (by omega)]
      have := hG j (by omega); omega
    · rw [if_neg e]
      by_cases e2 : j = k
      · rw [if_pos e2]; have := hG i (by omega); omega
      · rw [if_neg e2]; exact h.apart i j (by omega) (by omega) hne
theorem PartF.done {w : World} {g : Nat} {G : Nat → Nat} {r c : Nat} {f : Nat → Nat → Int} (h : PartF w g G r c r f) : Grid w g G r c f := by
  refine ⟨?_, fun i hi => h.row i hi, h.after, h.apart⟩
  rw [h.head]
  congr 2
  refine Array.toList_inj.1 (List.ext_getElem (by simp) fun i h2 h3 => ?_)
  simp only [List.getElem_map, List.getElem_range]
  rw [if_pos (by simpa using h3)]

theorem PartF.ext {w : World} {g : Nat} {G : Nat → Nat} {r c k : Nat} {f f' : Nat → Nat → Int} (h : PartF w g G r c k f) (e : ∀ i j, i < k → j < c → f i j = f' i j) : PartF w g G r c k f' :=
  ⟨h.head, fun i hi => by rw [← Mx.row_ext (fun j hj => e i j hi hj)]; exact h.row i hi, h.after, h.apart⟩
theorem PartF.cellOf {w : World} {g : Nat} {G : Nat → Nat} {r c k : Nat} {f : Nat → Nat → Int} (h : PartF w g G r c k f) {i : Nat} (hi : i < k) (hr : i < r) : w.cell? ⟨g, i, none⟩ = some (.slice (some ⟨G i, 0, none⟩) c c) := by
  rw [cell_of_row _ _ i _ _ (0, 0) h.head]; simp [hr, hi]
theorem PartF.el {w : World} {g : Nat} {G : Nat → Nat} {r c k : Nat} {f : Nat → Nat → Int} (h : PartF w g G r c k f) {i j : Nat} (hi : i < k) (hj : j < c) : w.cell? ⟨G i, j, none⟩ = some (.int .i64 (f i j)) := by
  have := (h.row i hi).cell j (by rw [Mx.len_row]; exact hj)
  rwa [Mx.row_at _ _ _ hj] at this
theorem PartF.freeOf {w : World} {g : Nat} {G : Nat → Nat} {r c k : Nat} {f : Nat → Nat → Int} (h : PartF w g G r c k f) {i : Nat} (hi : i < k) (j : Nat) : w.frozen? ⟨G i, j, none⟩ = false := (h.row i hi).free j
theorem PartF.put {w : World} {g : Nat} {G : Nat → Nat} {r c k : Nat} {f : Nat → Nat → Int} (h : PartF w g G r c k f) {i : Nat} (hi : i < k) (j : Nat) (x : Int) :
    PartF (w.setCell ⟨G i, j, none⟩ (.int .i64 x)) g G r c k (fun a b => if a = i ∧ b = j then x else f a b) := by
  refine ⟨?_, fun a ha => ?_, h.after, h.apart⟩
  · rw [heap_setCell_other w _ g _ (by show g ≠ G i; have := h.after i hi; omega)]; exact h.head
  · by_cases e : a = i
    · subst e
      have := (h.row a hi).put j x
      rw [Mx.row_set] at this
      rw [show (fun b => if a = a ∧ b = j then x else f a b) = fun b => if b = j then x else f a b by funext b; simp]
      exact this
    · rw [show (fun b => if a = i ∧ b = j then x else f a b) = f a by funext b; simp [e]]
      exact (h.row a ha).far (by show G a ≠ G i; exact h.apart a i ha hi e) _

end Go.Proofs.Ytnjhdedhobgplaa

/- Matrices of the call's own, row by row: what append leaves, and stores into their rows. For all packages. -/
namespace Go.Proofs.Ytnjhdedhobgplaa
open Go.ChangeShapes Go.WideShapes Go.ChangeAt Go.RowKit
set_option linter.unusedVariables false

/-- The heads of the rows of m, row i in block G i with room for C i. -/
def heads (G C : Nat → Nat) (m : List (List Int)) : List Value := (List.range m.length).map fun i => Value.slice (some ⟨G i, 0, none⟩) (m.getD i []).length (C i)
/-- The slice value v is the call's own (from block B on) and holds the rows of m, each the call's own, each apart from the others. -/
structure OwnM (w : World) (B : Nat) (v : Value) (G C : Nat → Nat) (m : List (List Int)) : Prop where
  top : w.ownsRow B 22 1 v m.length (heads G C m)
  row : ∀ i, i < m.length → Own w B (.slice (some ⟨G i, 0, none⟩) (m.getD i []).length (C i)) (m.getD i [])
  apart : ∀ i j, i < m.length → j < m.length → i ≠ j → G i ≠ G j

theorem ownM_none (w : World) (B : Nat) (G C : Nat → Nat) : OwnM w B (.slice none 0 0) G C [] :=
  ⟨World.ownsRow_nil _ _ _ _, fun i hi => absurd hi (by simp), fun i j hi => absurd hi (by simp)⟩
theorem ownsRow_kp {w w' : World} {B n : Nat} {e : TypeId} {v : Value} {xs : List Value} (h : w.ownsRow B e 1 v n xs) (hk : Kp w w') : w'.ownsRow B e 1 v n xs := by
  obtain ⟨h1, h2⟩ := h
  refine ⟨h1, ?_⟩
  rcases h2 with h2 | ⟨g, cap, cur, hv, hg, hh, r⟩
  · exact .inl h2
  · refine .inr ⟨g, cap, cur, hv, hg, ?_, r⟩
    rw [hk.block g ?_]; exact hh
    rcases Nat.lt_or_ge g w.heap.size with hlt | hge
    · exact hlt
    · rw [Array.getElem?_eq_none hge] at hh; cases hh
theorem OwnM.kp {w w' : World} {B : Nat} {v : Value} {G C : Nat → Nat} {m : List (List Int)} (h : OwnM w B v G C m) (hk : Kp w w') : OwnM w' B v G C m :=
  ⟨ownsRow_kp h.top hk, fun i hi => (h.row i hi).kp hk, h.apart⟩
theorem OwnM.lt {w : World} {B : Nat} {v : Value} {G C : Nat → Nat} {m : List (List Int)} (h : OwnM w B v G C m) {i : Nat} (hi : i < m.length) : B ≤ G i ∧ G i < w.heap.size :=
  World.ownsRow.lt (h.row i hi) (G i) rfl
/-- The block of the heads is no row's. -/
theorem top_ne {w : World} {B B' n : Nat} {v : Value} {hs : List Value} {g d c : Nat} {l : List Int} (h : w.ownsRow B 22 1 v n hs) (hr : Own w B' (.slice (some ⟨g, 0, none⟩) d c) l) : (Value.slice (some ⟨g, 0, none⟩) d c).ownBlock ≠ v.ownBlock := fun e => by
  obtain ⟨cur, hh, _⟩ := own_row hr
  rcases h.2 with ⟨rfl, _⟩ | ⟨g', cap, cur', rfl, _, hh', _⟩
  · cases e
  · have e' : g = g' := Option.some.inj e
    subst e'
    rw [hh] at hh'
    cases hh'
theorem OwnM.lies {w : World} {B : Nat} {v : Value} {G C : Nat → Nat} {m : List (List Int)} (h : OwnM w B v G C m) : ∃ A c, v = .slice A m.length c ∧ LiesM w A m ∧ m.length ≤ c := by
  rcases h.top.2 with ⟨rfl, h0⟩ | ⟨g, cap, cur, hv, hg, hh, hc, hm, hs, ht⟩
  · obtain rfl : m = [] := List.eq_nil_of_length_eq_zero h0
    exact ⟨Option.none, 0, rfl, LiesM.empty _ _, Nat.le_refl _⟩
  · refine ⟨_, cap, hv, fun k hk => ?_, hc⟩
    refine ⟨_, some ⟨G k, 0, Option.none⟩, C k, rfl, ?_, ?_, ?_, ?_⟩
    · rcases Nat.lt_or_ge g w.heap.size with h' | h'
      · exact h'
      · rw [Array.getElem?_eq_none h'] at hh; cases hh
    · have ht' : cur.toList.take m.length = heads G C m := by simpa using ht
      rw [add_at, cell_of_row _ _ k _ _ (0, 0) hh, ← Array.getElem?_toList, ← List.getElem?_take_of_lt hk, ht']
      simp [heads, hk]
    · obtain ⟨A, c, e, _, hle⟩ := (h.row k hk).cap
      cases e; exact hle
    · obtain ⟨A, c, e, hl⟩ := (h.row k hk).lies
      cases e; exact hl
theorem heads_snoc (G C : Nat → Nat) (m : List (List Int)) (l : List Int) (g c : Nat) :
    heads (fun i => if i = m.length then g else G i) (fun i => if i = m.length then c else C i) (m ++ [l]) = heads G C m ++ [Value.slice (some ⟨g, 0, none⟩) l.length c] := by
  unfold heads
  rw [List.length_append, List.length_singleton, List.range_succ, List.map_append]
  congr 1
  · refine List.map_congr_left fun i hi => ?_
    have hi' := List.mem_range.1 hi
    have e1 : i ≠ m.length := by omega
    simp [e1, List.getElem?_append_left hi']
  · simp

section
variable {ops : Array Oper} {rest : List Oper} {o : Oper} {a : Act} {w : World} {K : Act → World → Prop} {Q : Exit → Act → World → Prop}
/-- out = append(out, row). -/
theorem wp_pushM (s x : Operand) (ho : o.op = .call { callee := .builtin .append, args := #[s, x], argTypes := #[37, 37] })
    (B : Nat) (v : Value) (G C : Nat → Nat) (m : List (List Int)) (l : List Int) (g n c gb cb : Nat) (hn : l.length = n) (hs : a.eval s = v) (hx : a.eval x = .slice (some ⟨gb, 0, none⟩) 1 cb) (hown : OwnM w B v G C m)
    (hcell : w.cell? ⟨gb, 0, none⟩ = some (.slice (some ⟨g, 0, none⟩) n c)) (hrow : Own w B (.slice (some ⟨g, 0, none⟩) n c) l) (hap : ∀ i, i < m.length → G i ≠ g) (hlen : m.length + 1 ≤ 1000000) (hB : B ≤ w.heap.size)
    (h : ∀ v' w' G' C', OwnM w' B v' G' C' (m ++ [l]) → w.grownBy w' v.ownBlock → K (a.put o.dst v') w') : o.wp Try.prog a w K Q := by
  subst hn
  obtain ⟨i0, hi, hz0, hz1, hz2⟩ := info_parts ints_info
  obtain ⟨v', w', hrun, h1, h2, _, h3⟩ := run_append_own_at (P := Try.prog) w B 37 o.type 22 i0 (.slice Option.none 0 0) 1 24 Try.underlying37 hi hz0 hz1 hz2 rfl (by decide) v m.length (heads G C m) hown.top ⟨gb, 0, Option.none⟩ 1 cb [.slice (some ⟨g, 0, Option.none⟩) l.length c] rfl
    (fun j u hj => by
      match j, hj with
      | 0, hj => simp at hj; subst hj; rw [add_at]; exact hcell) (fun u hu => by simp at hu; subst hu; rfl) (by unfold maxLen; omega) (by omega) hB
  unfold Oper.wp execOp
  simp only [ho, resolve, invoke, builtin, Sem.run_bind, Sem.run_pure, Result.andThen_ok, List.map_toArray, List.map_cons, List.map_nil, hs, hx, hrun]
  refine (h v' w' (fun i => if i = m.length then g else G i) (fun i => if i = m.length then c else C i) ⟨?_, fun i hi => ?_, fun i j hi hj hne => ?_⟩ h2)
  · rw [heads_snoc, List.length_append]; exact h1
  · rw [List.length_append, List.length_singleton] at hi
    by_cases e : i = m.length
    · subst e
      have e2 : (m ++ [l]).getD m.length [] = l := by simp
      simp only [e2, if_true]
      exact hrow.grown h2 (.inr (top_ne hown.top hrow))
    · have hi' : i < m.length := by omega
      have e2 : (m ++ [l]).getD i [] = m.getD i [] := by simp [List.getElem?_append_left hi']
      simp only [if_neg e, e2]
      exact (hown.row i hi').grown h2 (.inr (top_ne hown.top (hown.row i hi')))
  · rw [List.length_append, List.length_singleton] at hi hj
    by_cases e : i = m.length
    · rw [if_pos e, if_neg (by omega)]
      exact fun e' => hap j (by omega) e'.symm
    · rw [if_neg e]
      by_cases e2 : j = m.length
      · rw [if_pos e2]; exact hap i (by omega)
      · rw [if_neg e2]; exact hown.apart i j (by omega) (by omega) hne
theorem wpList_pushM (hgd : o.guard = Option.none) (s x : Operand) (ho : o.op = .call { callee := .builtin .append, args := #[s, x], argTypes := #[37, 37] })
    (B : Nat) (v : Value) (G C : Nat → Nat) (m : List (List Int)) (l : List Int) (g n c gb cb : Nat) (hn : l.length = n) (hs : a.eval s = v) (hx : a.eval x = .slice (some ⟨gb, 0, none⟩) 1 cb) (hown : OwnM w B v G C m)
    (hcell : w.cell? ⟨gb, 0, none⟩ = some (.slice (some ⟨g, 0, none⟩) n c)) (hrow : Own w B (.slice (some ⟨g, 0, none⟩) n c) l) (hap : ∀ i, i < m.length → G i ≠ g) (hlen : m.length + 1 ≤ 1000000) (hB : B ≤ w.heap.size)
    (h : ∀ v' w' G' C', OwnM w' B v' G' C' (m ++ [l]) → (∀ w0 : World, w0.heap.size ≤ B → Kp w0 w → Kp w0 w') → wpList Try.prog ops Q rest (a.put o.dst v') w') : wpList Try.prog ops Q (o :: rest) a w :=
  wpList_plain hgd fun _ hK => wp_pushM s x ho B v G C m l g n c gb cb hn hs hx hown hcell hrow hap hlen hB fun v' w' G' C' h1 h2 => hK _ _ (h v' w' G' C' h1 fun w0 hw0 hk0 => Below.grown hk0 h2 hk0.size fun k hk => Nat.le_trans hw0 (World.ownsRow.lt hown.top k hk).1)
end

theorem cell_made (w : World) (cs : Array Value) (e : TypeId) (g k : Nat) (h : g = w.heap.size) : (w.alloc (.cells cs e)).cell? ⟨g, k, none⟩ = cs[k]? := by
  subst h
  exact cell_of_row _ _ k _ e (0, 0) (heap_alloc_new w _)
theorem size_set (w : World) (a : Addr) (u : Value) : w.heap.size = (w.setCell a u).heap.size := by simp [World.setCell]
theorem Own.from {w : World} {B B' : Nat} {v : Value} {l : List Int} (h : Own w B v l) (hB : B' ≤ B) : Own w B' v l :=
  ⟨h.1, h.2.imp id fun ⟨g, cap, cur, e, hg, r⟩ => ⟨g, cap, cur, e, Nat.le_trans hB hg, r⟩⟩
/-- Cells of a row of such a matrix; a store into one. -/
theorem OwnM.head {w : World} {B : Nat} {G C : Nat → Nat} {m : List (List Int)} {g n cap : Nat} (h : OwnM w B (.slice (some ⟨g, 0, none⟩) n cap) G C m) {i : Nat} (hi : i < m.length) : w.cell? ⟨g, i, none⟩ = some (.slice (some ⟨G i, 0, none⟩) (m.getD i []).length (C i)) := by
  rcases h.top.2 with ⟨e, _⟩ | ⟨g', cap', cur, hv, hg, hh, hc, hm, hs, ht⟩
  · cases e
  · cases hv
    have ht' : cur.toList.take m.length = heads G C m := by simpa using ht
    rw [cell_of_row _ _ i _ _ (0, 0) hh, ← Array.getElem?_toList, ← List.getElem?_take_of_lt hi, ht']
    simp [heads, hi]
theorem OwnM.el {w : World} {B : Nat} {v : Value} {G C : Nat → Nat} {m : List (List Int)} (h : OwnM w B v G C m) {i : Nat} (hi : i < m.length) {j : Nat} (hj : j < (m.getD i []).length) : w.cell? ⟨G i, j, none⟩ = some (.int .i64 ((m.getD i []).getD j 0)) :=
  own_cell (h.row i hi) j hj
theorem OwnM.free {w : World} {B : Nat} {v : Value} {G C : Nat → Nat} {m : List (List Int)} (h : OwnM w B v G C m) {i : Nat} (hi : i < m.length) (j : Nat) : w.frozen? ⟨G i, j, none⟩ = false :=
  own_free (h.row i hi) j
theorem own_store {w : World} {B g n c : Nat} {l : List Int} (h : Own w B (.slice (some ⟨g, 0, none⟩) n c) l) {a : Addr} (ha : g ≠ a.block) (u : Value) : Own (w.setCell a u) B (.slice (some ⟨g, 0, none⟩) n c) l := by
  rcases h.2 with ⟨h0, _⟩ | ⟨g', cap, cur, e, hg, hh, r⟩
  · cases h0
  · cases e
    exact ⟨h.1, .inr ⟨g, c, cur, rfl, hg, by rw [heap_setCell_other w a g u ha]; exact hh, r⟩⟩
theorem OwnM.put {w : World} {B : Nat} {v : Value} {G C : Nat → Nat} {r c : Nat} {f : Nat → Nat → Int} (h : OwnM w B v G C (Mx.tab r c f)) {i : Nat} (hi : i < r) (j : Nat) (x : Int) :
    OwnM (w.setCell ⟨G i, j, none⟩ (.int .i64 x)) B v G C (Mx.tab r c fun a b => if a = i ∧ b = j then x else f a b) := by
  have hl := Mx.len_tab r c f
  have hl' := Mx.len_tab r c fun a b => if a = i ∧ b = j then x else f a b
  have hri := h.row i (by rw [hl]; exact hi)
  refine ⟨?_, fun k hk => ?_, fun a b ha hb => h.apart a b (by omega) (by omega)⟩
  · have hh : heads G C (Mx.tab r c fun a b => if a = i ∧ b = j then x else f a b) = heads G C (Mx.tab r c f) := by
      unfold heads
      rw [hl, hl']
      refine List.map_congr_left fun k hk => ?_
      have := List.mem_range.1 hk
      rw [Mx.tab_len _ _ _ _ this, Mx.tab_len _ _ _ _ this]
    rw [hh, hl']
    have ht := h.top
    have hne := top_ne h.top hri
    rw [hl] at ht
    rcases ht.2 with ⟨h1, h2⟩ | ⟨g, cap, cur, e, hg, hh, rr⟩
    · exact ⟨ht.1, .inl ⟨h1, h2⟩⟩
    · refine ⟨ht.1, .inr ⟨g, cap, cur, e, hg, ?_, rr⟩⟩
      rw [heap_setCell_other w _ g _ (by
        show g ≠ G i
        intro e2
        apply hne
        rw [e]
        show some (G i) = some g
        rw [e2])]
      exact hh
  · rw [hl'] at hk
    rw [Mx.tab_at _ _ _ _ hk, Mx.len_row]
    have hk0 := h.row k (by omega)
    rw [Mx.tab_at _ _ _ _ hk, Mx.len_row] at hk0
    by_cases e : k = i
    · subst e
      have := own_put hk0 j x
      rw [Mx.row_set] at this
      rw [show (fun b => if k = k ∧ b = j then x else f k b) = fun b => if b = j then x else f k b by funext b; simp]
      exact this
    · rw [show (fun b => if k = i ∧ b = j then x else f k b) = f k by funext b; simp [e]]
      exact own_store hk0 (by show G k ≠ G i; exact h.apart k i (by omega) (by omega) e) _
theorem OwnM.ext {w : World} {B : Nat} {v : Value} {G C : Nat → Nat} {r c : Nat} {f f' : Nat → Nat → Int} (h : OwnM w B v G C (Mx.tab r c f)) (e : ∀ i j, i < r → j < c → f i j = f' i j) : OwnM w B v G C (Mx.tab r c f') := by
  rw [← Mx.tab_ext e]; exact h
theorem OwnM.drewN {w : World} {B : Nat} {v : Value} {G C : Nat → Nat} {m : List (List Int)} (h : OwnM w B v G C m) (n : Nat) : OwnM (w.drewN n) B v G C m := h.kp ((Kp.rfl' w).drewN n)
theorem OwnM.new {w : World} {B : Nat} {v : Value} {G C : Nat → Nat} {m : List (List Int)} (h : OwnM w B v G C m) (o : Obj) : OwnM (w.alloc o) B v G C m := h.kp ((Kp.rfl' w).new o)
end Go.Proofs.Ytnjhdedhobgplaa

/- More on matrices of the call's own: heads that change places, a row of numbers beside them, and what a store into their rows leaves. For all packages. -/
namespace Go.Proofs.Ytnjhdedhobgplaa
open Go.ChangeShapes Go.WideShapes Go.ChangeAt Go.RowKit
set_option linter.unusedVariables false

/-- The heads of r rows of c numbers. -/
def hds (r c : Nat) (G C : Nat → Nat) : List Value := (List.range r).map fun i => Value.slice (some ⟨G i, 0, none⟩) c (C i)
theorem len_hds (r c : Nat) (G C : Nat → Nat) : (hds r c G C).length = r := by simp [hds]
theorem heads_tab (G C : Nat → Nat) (r c : Nat) (f : Nat → Nat → Int) : heads G C (Mx.tab r c f) = hds r c G C := by
  unfold heads hds
  rw [Mx.len_tab]
  refine List.map_congr_left fun i hi => ?_
  rw [Mx.tab_len _ _ _ _ (List.mem_range.1 hi)]
theorem hds_set (r c : Nat) (G C : Nat → Nat) (i x d : Nat) :
    (hds r c G C).set i (Value.slice (some ⟨x, 0, none⟩) c d) = hds r c (fun k => if k = i then x else G k) (fun k => if k = i then d else C k) := by
  refine List.ext_getElem (by simp [hds]) fun k h1 h2 => ?_
  simp only [hds, List.getElem_set, List.getElem_map, List.getElem_range]
  by_cases e : i = k
  · subst e; simp
  · rw [if_neg e, if_neg (fun e' => e e'.symm), if_neg (fun e' => e e'.symm)]

/-- As OwnM, but two heads may name the same row. -/
structure OwnH (w : World) (B : Nat) (v : Value) (G C : Nat → Nat) (r c : Nat) (f : Nat → Nat → Int) : Prop where
  top : w.ownsRow B 22 1 v r (hds r c G C)
  row : ∀ i, i < r → Own w B (.slice (some ⟨G i, 0, none⟩) c (C i)) (Mx.row c (f i))
theorem OwnM.weak {w : World} {B : Nat} {v : Value} {G C : Nat → Nat} {r c : Nat} {f : Nat → Nat → Int} (h : OwnM w B v G C (Mx.tab r c f)) : OwnH w B v G C r c f := by
  refine ⟨?_, fun i hi => ?_⟩
  · have := h.top
    rwa [heads_tab, Mx.len_tab] at this
  · have := h.row i (by rw [Mx.len_tab]; exact hi)
    rwa [Mx.tab_at _ _ _ _ hi, Mx.len_row] at this
theorem OwnH.strong {w : World} {B : Nat} {v : Value} {G C : Nat → Nat} {r c : Nat} {f : Nat → Nat → Int} (h : OwnH w B v G C r c f) (ha : ∀ i j, i < r → j < r → i ≠ j → G i ≠ G j) : OwnM w B v G C (Mx.tab r c f) := by
  refine ⟨?_, fun i hi => ?_, fun i j hi hj => ?_⟩
  · rw [heads_tab, Mx.len_tab]; exact h.top
  · rw [Mx.len_tab] at hi
    rw [Mx.tab_at _ _ _ _ hi, Mx.len_row]; exact h.row i hi
  · rw [Mx.len_tab] at hi hj; exact ha i j hi hj
theorem OwnH.kp {w w' : World} {B : Nat} {v : Value} {G C : Nat → Nat} {r c : Nat} {f : Nat → Nat → Int} (h : OwnH w B v G C r c f) (hk : Kp w w') : OwnH w' B v G C r c f :=
  ⟨ownsRow_kp h.top hk, fun i hi => (h.row i hi).kp hk⟩
theorem OwnH.ext {w : World} {B : Nat} {v : Value} {G C : Nat → Nat} {r c : Nat} {f f' : Nat → Nat → Int} (h : OwnH w B v G C r c f) (e : ∀ i j, i < r → j < c → f i j = f' i j) : OwnH w B v G C r c f' :=
  ⟨h.top, fun i hi => by rw [← Mx.row_ext (fun j hj => e i j hi hj)]; exact h.row i hi⟩
theorem OwnH.head {w : World} {B : Nat} {G C : Nat → Nat} {r c g n cap : Nat} {f : Nat → Nat → Int} (h : OwnH w B (.slice (some ⟨g, 0, none⟩) n cap) G C r c f) {i : Nat} (hi : i < r) :
    w.cell? ⟨g, i, none⟩ = some (.slice (some ⟨G i, 0, none⟩) c (C i)) := by
  rcases h.top.2 with ⟨e, _⟩ | ⟨g', cap', cur, hv, hg, hh, hc, hm, hs, ht⟩
  · cases e
  · cases hv
    have ht' : cur.toList.take r = hds r c G C := by simpa using ht
    rw [cell_of_row _ _ i _ _ (0, 0) hh, ← Array.getElem?_toList, ← List.getElem?_take_of_lt hi, ht']
    simp [hds, hi]
theorem OwnH.el {w : World} {B : Nat} {v : Value} {G C : Nat → Nat} {r c : Nat} {f : Nat → Nat → Int} (h : OwnH w B v G C r c f) {i j : Nat} (hi : i < r) (hj : j < c) : w.cell? ⟨G i, j, none⟩ = some (.int .i64 (f i j)) := by
  have := own_cell (h.row i hi) j (by rw [Mx.len_row]; exact hj)
  rwa [Mx.row_at _ _ _ hj] at this
theorem OwnH.free {w : World} {B : Nat} {v : Value} {G C : Nat → Nat} {r c : Nat} {f : Nat → Nat → Int} (h : OwnH w B v G C r c f) {i : Nat} (hi : i < r) (j : Nat) : w.frozen? ⟨G i, j, none⟩ = false := own_free (h.row i hi) j
theorem OwnH.topFree {w : World} {B : Nat} {G C : Nat → Nat} {r c g n cap : Nat} {f : Nat → Nat → Int} (h : OwnH w B (.slice (some ⟨g, 0, none⟩) n cap) G C r c f) (i : Nat) : w.frozen? ⟨g, i, none⟩ = false := by
  rcases h.top.2 with ⟨e, _⟩ | ⟨g', cap', cur, hv, hg, hh, hc, hm, hs, ht⟩
  · cases e
  · cases hv; exact frozen_of_row w g i _ _ hh
theorem OwnH.topLe {w : World} {B : Nat} {G C : Nat → Nat} {r c g n cap : Nat} {f : Nat → Nat → Int} (h : OwnH w B (.slice (some ⟨g, 0, none⟩) n cap) G C r c f) : B ≤ g ∧ g < w.heap.size := World.ownsRow.lt h.top g rfl
theorem OwnH.lt {w : World} {B : Nat} {v : Value} {G C : Nat → Nat} {r c : Nat} {f : Nat → Nat → Int} (h : OwnH w B v G C r c f) {i : Nat} (hi : i < r) : B ≤ G i ∧ G i < w.heap.size := World.ownsRow.lt (h.row i hi) (G i) rfl
theorem OwnH.apartTop {w : World} {B : Nat} {G C : Nat → Nat} {r c g n cap : Nat} {f : Nat → Nat → Int} (h : OwnH w B (.slice (some ⟨g, 0, none⟩) n cap) G C r c f) {i : Nat} (hi : i < r) : G i ≠ g := fun e => top_ne h.top (h.row i hi) (by show some (G i) = some g; rw [e])
/-- A head is set to another row of the call's own. -/
theorem OwnH.set {w : World} {B : Nat} {G C : Nat → Nat} {r c g n cap : Nat} {f : Nat → Nat → Int} (h : OwnH w B (.slice (some ⟨g, 0, none⟩) n cap) G C r c f) {i : Nat} (hi : i < r) {x d : Nat} {l : Nat → Int} (hx : Own w B (.slice (some ⟨x, 0, none⟩) c d) (Mx.row c l)) :
    OwnH (w.setCell ⟨g, i, none⟩ (.slice (some ⟨x, 0, none⟩) c d)) B (.slice (some ⟨g, 0, none⟩) n cap) (fun k => if k = i then x else G k) (fun k => if k = i then d else C k) r c (fun k => if k = i then l else f k) := by
  refine ⟨?_, fun k hk => ?_⟩
  · rcases h.top.2 with ⟨e, _⟩ | ⟨g', cap', cur, hv, hg, hh, hc, hm, hs, ht⟩
    · cases e
    · cases hv
      refine ⟨by rw [len_hds, Nat.mul_one], .inr ⟨g, cap, cur.setIfInBounds i (.slice (some ⟨x, 0, none⟩) c d), rfl, hg, heap_setCell_same w g i _ _ _ hh, hc, hm, by rw [Array.size_setIfInBounds]; exact hs, ?_⟩⟩
      rw [Array.toList_setIfInBounds, List.take_set, ht, hds_set]
  · by_cases e : k = i
    · subst e
      simp only [if_true]
      exact own_store hx (fun e' => top_ne h.top hx (by show some x = some g; rw [e'])) _
    · simp only [if_neg e]
      exact own_store (h.row k hk) (h.apartTop hk) _

/-- Nothing but what stands in the blocks of these rows has turned. -/
structure Only (G : Nat → Nat) (r : Nat) (w w' : World) : Prop where
  os : w'.os = w.os
  tape : w'.tape = w.tape
  output : w'.output = w.output
  size : w.heap.size ≤ w'.heap.size
  block : ∀ b, b < w.heap.size → (∀ i, i < r → b ≠ G i) → w'.heap[b]? = w.heap[b]?
theorem Only.of {G : Nat → Nat} {r : Nat} {w w' : World} (h : Kp w w') : Only G r w w' := ⟨h.os, h.tape, h.output, h.size, fun b hb _ => h.block b hb⟩
theorem Only.refl (G : Nat → Nat) (r : Nat) (w : World) : Only G r w w := Only.of (Kp.rfl' w)
theorem Only.trans {G : Nat → Nat} {r : Nat} {a b c : World} (h : Only G r a b) (k : Only G r b c) : Only G r a c :=
  ⟨k.os.trans h.os, k.tape.trans h.tape, k.output.trans h.output, Nat.le_trans h.size k.size, fun i hi hn => (k.block i (Nat.lt_of_lt_of_le hi h.size) hn).trans (h.block i hi hn)⟩
theorem Only.drewN {G : Nat → Nat} {r : Nat} {a b : World} (h : Only G r a b) (n : Nat) : Only G r a (b.drewN n) := h.trans (Only.of ((Kp.rfl' b).drewN n))
theorem Only.put {G : Nat → Nat} {r : Nat} {a b : World} (h : Only G r a b) {i : Nat} (hi : i < r) (j : Nat) (u : Value) : Only G r a (b.setCell ⟨G i, j, none⟩ u) :=
  h.trans ⟨rfl, rfl, rfl, by simp [World.setCell], fun k _ hn => Below.heap_setCell _ _ _ _ (hn i hi)⟩
theorem Only.below {G : Nat → Nat} {r B : Nat} {w0 w w' : World} (h : Only G r w w') (hb : Below B w0 w) (hB : B ≤ w.heap.size) (hG : ∀ i, i < r → B ≤ G i) : Below B w0 w' :=
  hb.trans ⟨h.os, h.tape, h.output, h.size, fun k hk => h.block k (by omega) fun i hi e => by have := hG i hi; omega⟩
theorem Own.only {G : Nat → Nat} {r B : Nat} {w w' : World} {u : Value} {l : List Int} (h : Own w B u l) (ho : Only G r w w') (hn : ∀ b, u.ownBlock = some b → ∀ i, i < r → G i ≠ b) : Own w' B u l := by
  obtain ⟨h1, h2⟩ := h
  refine ⟨h1, ?_⟩
  rcases h2 with h2 | ⟨g, cap, cur, rfl, hg, hh, r⟩
  · exact .inl h2
  · refine .inr ⟨g, cap, cur, rfl, hg, ?_, r⟩
    rw [ho.block g ?_ fun i hi e => hn g rfl i hi e.symm]; exact hh
    rcases Nat.lt_or_ge g w.heap.size with hlt | hge
    · exact hlt
    · rw [Array.getElem?_eq_none hge] at hh; cases hh
/-- A store to another block leaves a row. -/
theorem Own.far {w : World} {B : Nat} {u : Value} {l : List Int} (h : Own w B u l) {a : Addr} (ha : u.ownBlock ≠ some a.block) (x : Value) : Own (w.setCell a x) B u l := by
  obtain ⟨h1, h2⟩ := h
  refine ⟨h1, ?_⟩
  rcases h2 with h2 | ⟨g, cap, cur, rfl, hg, hh, r⟩
  · exact .inl h2
  · refine .inr ⟨g, cap, cur, rfl, hg, ?_, r⟩
    rw [heap_setCell_other w a g x (fun e => ha (by show some g = some a.block; rw [e]))]; exact hh

/-- An append to another row leaves the matrix. -/
theorem OwnM.grown {w w' : World} {B : Nat} {v u : Value} {G C : Nat → Nat} {m : List (List Int)} (h : OwnM w B v G C m) (hg : w.grownBy w' u.ownBlock) (h1 : v.ownBlock = none ∨ v.ownBlock ≠ u.ownBlock) (h2 : ∀ i, i < m.length → some (G i) ≠ u.ownBlock) : OwnM w' B v G C m :=
  ⟨World.ownsRow.kept h.top hg h1, fun i hi => (h.row i hi).grown hg (.inr (h2 i hi)), h.apart⟩

theorem OwnM.liesM {w : World} {B n cap : Nat} {A : Option Addr} {G C : Nat → Nat} {m : List (List Int)} (h : OwnM w B (.slice A n cap) G C m) : LiesM w A m := by
  obtain ⟨A', c', e, hl, _⟩ := h.lies
  cases e; exact hl

/-- A matrix of the call's own, and a row of numbers beside it. -/
structure MatRow (w : World) (B : Nat) (g cap : Nat) (G C : Nat → Nat) (r c : Nat) (f : Nat → Nat → Int) (u : Value) (l : List Int) : Prop where
  mat : OwnM w B (.slice (some ⟨g, 0, none⟩) r cap) G C (Mx.tab r c f)
  row : Own w B u l
  far : ∀ b, u.ownBlock = some b → b ≠ g
  apart : ∀ b, u.ownBlock = some b → ∀ i, i < r → G i ≠ b
theorem MatRow.kp {w w' : World} {B g cap : Nat} {G C : Nat → Nat} {r c : Nat} {f : Nat → Nat → Int} {u : Value} {l : List Int} (h : MatRow w B g cap G C r c f u l) (hk : Kp w w') : MatRow w' B g cap G C r c f u l := ⟨h.mat.kp hk, h.row.kp hk, h.far, h.apart⟩
theorem MatRow.drewN {w : World} {B g cap : Nat} {G C : Nat → Nat} {r c : Nat} {f : Nat → Nat → Int} {u : Value} {l : List Int} (h : MatRow w B g cap G C r c f u l) (n : Nat) : MatRow (w.drewN n) B g cap G C r c f u l := h.kp ((Kp.rfl' w).drewN n)
theorem MatRow.start {w : World} {B g cap : Nat} {G C : Nat → Nat} {r c : Nat} {f : Nat → Nat → Int} (h : OwnM w B (.slice (some ⟨g, 0, none⟩) r cap) G C (Mx.tab r c f)) : MatRow w B g cap G C r c f (.slice none 0 0) [] :=
  ⟨h, Own.none _ _, (fun b hb => by cases hb), (fun b hb => by cases hb)⟩
theorem MatRow.ext {w : World} {B g cap : Nat} {G C : Nat → Nat} {r c : Nat} {f f' : Nat → Nat → Int} {u : Value} {l : List Int} (h : MatRow w B g cap G C r c f u l) (e : ∀ i j, i < r → j < c → f i j = f' i j) : MatRow w B g cap G C r c f' u l := ⟨h.mat.ext e, h.row, h.far, h.apart⟩
theorem MatRow.only {w w' : World} {B g cap : Nat} {G C : Nat → Nat} {r c : Nat} {f f' : Nat → Nat → Int} {u : Value} {l : List Int} (h : MatRow w B g cap G C r c f u l) (ho : Only G r w w') (hm : OwnM w' B (.slice (some ⟨g, 0, none⟩) r cap) G C (Mx.tab r c f')) : MatRow w' B g cap G C r c f' u l :=
  ⟨hm, h.row.only ho h.apart, h.far, h.apart⟩
theorem MatRow.put {w : World} {B g cap : Nat} {G C : Nat → Nat} {r c : Nat} {f : Nat → Nat → Int} {u : Value} {l : List Int} (h : MatRow w B g cap G C r c f u l) {i : Nat} (hi : i < r) (j : Nat) (x : Int) :
    MatRow (w.setCell ⟨G i, j, none⟩ (.int .i64 x)) B g cap G C r c (fun a b => if a = i ∧ b = j then x else f a b) u l :=
  h.only ((Only.refl G r w).put hi j _) (h.mat.put hi j x)
/-- An append to the row beside it. -/
theorem MatRow.push {w w' : World} {B g cap : Nat} {G C : Nat → Nat} {r c : Nat} {f : Nat → Nat → Int} {u u' : Value} {l l' : List Int} (h : MatRow w B g cap G C r c f u l) (h1 : Own w' B u' l') (hg : w.grownBy w' u.ownBlock) (ha : At w u u') : MatRow w' B g cap G C r c f u' l' := by
  have hl := World.ownsRow.lt h.mat.top g rfl
  have hG : ∀ i, i < r → G i < w.heap.size := fun i hi => (h.mat.lt (by rw [Mx.len_tab]; exact hi)).2
  refine ⟨h.mat.grown hg ?_ fun i hi e => ?_, h1, fun b hb => ?_, fun b hb i hi => ?_⟩
  · cases hu : u.ownBlock with
    | none => exact .inr (by intro e; cases e)
    | some b => exact .inr fun e => h.far b hu (Option.some.inj e).symm
  · rw [Mx.len_tab] at hi
    exact h.apart _ e.symm i hi rfl
  · rcases ha with e | e
    · exact h.far b (by rw [← e]; exact hb)
    · rw [e] at hb; have := Option.some.inj hb; omega
  · rcases ha with e | e
    · exact h.apart b (by rw [← e]; exact hb) i hi
    · rw [e] at hb; have := Option.some.inj hb; have := hG i hi; omega
/-- Two heads change places. -/
theorem MatRow.swap {w : World} {B g cap : Nat} {G C : Nat → Nat} {r c : Nat} {f : Nat → Nat → Int} {u : Value} {l : List Int} (h : MatRow w B g cap G C r c f u l) {a b : Nat} (ha : a < r) (hb : b < r) :
    MatRow ((w.setCell ⟨g, a, none⟩ (.slice (some ⟨G b, 0, none⟩) c (C b))).setCell ⟨g, b, none⟩ (.slice (some ⟨G a, 0, none⟩) c (C a))) B g cap
      (fun i => if i = b then G a else if i = a then G b else G i) (fun i => if i = b then C a else if i = a then C b else C i) r c (fun i => if i = b then f a else if i = a then f b else f i) u l := by
  have hw := h.mat.weak
  have ap : ∀ i j, i < r → j < r → i ≠ j → G i ≠ G j := fun i j hi hj => h.mat.apart i j (by rw [Mx.len_tab]; exact hi) (by rw [Mx.len_tab]; exact hj)
  have h1 := hw.set ha (hw.row b hb)
  have ra := own_store (hw.row a ha) (a := ⟨g, a, none⟩) (hw.apartTop ha) (Value.slice (some ⟨G b, 0, none⟩) c (C b))
  have h2 := h1.set hb ra
  refine ⟨h2.strong fun i j hi hj hne => ?_, (h.row.far (a := ⟨g, a, none⟩) (fun e => h.far _ e rfl) _).far (a := ⟨g, b, none⟩) (fun e => h.far _ e rfl) _, h.far, fun k hk i hi => ?_⟩
  · split <;> split <;> (try split) <;> (try split) <;> apply ap <;> omega
  · split
    · exact h.apart k hk a ha
    · split
      · exact h.apart k hk b hb
      · exact h.apart k hk i hi

/-- Row p comes to row a's place, and a new row to row p's. -/
theorem MatRow.rehead {w w' : World} {B g cap : Nat} {G C : Nat → Nat} {r c : Nat} {f : Nat → Nat → Int} {u : Value} {l : List Int} (h : MatRow w B g cap G C r c f u l) {a p : Nat} (ha : a < r) (hp : p < r)
    (hk : Kp (w.setCell ⟨g, a, none⟩ (.slice (some ⟨G p, 0, none⟩) c (C p))) w') {go co : Nat} {h1 : Nat → Int} (ho : Own w' w.heap.size (.slice (some ⟨go, 0, none⟩) c co) (Mx.row c h1)) :
    MatRow (w'.setCell ⟨g, p, none⟩ (.slice (some ⟨go, 0, none⟩) c co)) B g cap (fun i => if i = p then go else if i = a then G p else G i) (fun i => if i = p then co else if i = a then C p else C i) r c
      (fun i => if i = p then h1 else if i = a then f p else f i) u l := by
  have hw := h.mat.weak
  have ap : ∀ i j, i < r → j < r → i ≠ j → G i ≠ G j := fun i j hi hj => h.mat.apart i j (by rw [Mx.len_tab]; exact hi) (by rw [Mx.len_tab]; exact hj)
  have hB := hw.topLe
  have hgo : w.heap.size ≤ go := (World.ownsRow.lt ho go rfl).1
  have h2 := ((hw.set ha (hw.row p hp)).kp hk).set hp (ho.from (B' := B) (by omega))
  refine ⟨h2.strong fun i j hi hj hne => ?_, ((h.row.far (a := ⟨g, a, none⟩) (fun e => h.far _ e rfl) _).kp hk).far (a := ⟨g, p, none⟩) (fun e => h.far _ e rfl) _, h.far, fun k hk' i hi => ?_⟩
  · have hG : ∀ i, i < r → G i ≠ go := fun i hi => by have := (hw.lt hi).2; omega
    split <;> split <;> (try split) <;> (try split) <;> first | omega | exact hG _ (by omega) | exact (hG _ (by omega)).symm | (apply ap <;> omega)
  · have hlt := (World.ownsRow.lt h.row k hk').2
    split
    · omega
    · split
      · exact h.apart k hk' p hp
      · exact h.apart k hk' i hi

/-- A matrix made by make is a matrix of the call's own. -/
theorem Row.own {w : World} {B g n : Nat} {l : List Int} (h : Row w g l) (hB : B ≤ g) (hn : l.length = n) (hm : n ≤ 17000000000000) : Own w B (.slice (some ⟨g, 0, none⟩) n n) l := by
  subst hn
  refine ⟨by simp, .inr ⟨g, l.length, (ints l).toArray, rfl, hB, h, Nat.le_refl _, by unfold maxLen; omega, by simp, by simp [List.take_of_length_le]⟩⟩
theorem Grid.own {w : World} {B g : Nat} {G : Nat → Nat} {r c : Nat} {f : Nat → Nat → Int} (h : Grid w g G r c f) (hB : B ≤ g) (hr : r ≤ 1000) (hc : c ≤ 1000) : OwnM w B (.slice (some ⟨g, 0, none⟩) r r) G (fun _ => c) (Mx.tab r c f) := by
  refine OwnH.strong ⟨⟨by rw [len_hds, Nat.mul_one], .inr ⟨g, r, _, rfl, hB, h.head, Nat.le_refl _, by unfold maxLen; omega, by simp, ?_⟩⟩, fun i hi => (h.row i hi).own (by have := h.after i hi; omega) (Mx.len_row _ _) (by omega)⟩ h.apart
  simp [hds, List.take_of_length_le]
end Go.Proofs.Ytnjhdedhobgplaa

/- Contracts of package gauss, first part: subtract, below, clone. -/
namespace Go.Proofs.Ytnjhdedhobgplaa
open Go.ChangeShapes Go.WideShapes Go.ChangeAt Go.RowKit
set_option linter.unusedVariables false

theorem gval (a : Fp.F) : 0 ≤ (a.val : Int) ∧ (a.val : Int) ≤ 9972 := by have := a.isLt; omega
theorem val_less (a x b : Fp.F) : ((a.val : Int) + (9973 - (x.val : Int)) * (b.val : Int)) % 9973 = ((a - x * b).val : Int) := by
  rw [← Fp.ofInt_val, Fp.ofInt_add, Fp.ofInt_mul, Fp.ofInt_self, Fp.ofInt_self]
  have h : Fp.ofInt (9973 - (x.val : Int)) + x = 0 := by
    have h2 := Fp.ofInt_add (9973 - (x.val : Int)) (x.val : Int)
    rw [Fp.ofInt_self, show (9973 - (x.val : Int)) + (x.val : Int) = 9973 by omega] at h2
    rw [← h2]; decide
  generalize Fp.ofInt (9973 - (x.val : Int)) = y at *
  have : a + y * b = a - x * b := by
    have e : y = -x := by grind
    rw [e]; grind
  rw [this]
theorem less_bound (x b : Fp.F) : 0 ≤ (9973 - (x.val : Int)) * (b.val : Int) ∧ (9973 - (x.val : Int)) * (b.val : Int) ≤ 99450756 := by
  have h1 := gval x
  have h2 := gval b
  exact ⟨Int.mul_nonneg (by omega) h2.1, Int.mul_le_mul (show 9973 - (x.val : Int) ≤ 9973 by omega) h2.2 h2.1 (by decide)⟩
theorem less_mod (a x b : Fp.F) : ((a.val : Int) + (9973 - (x.val : Int)) * (b.val : Int)).tmod 9973 = ((a - x * b).val : Int) := by
  have h := less_bound x b
  rw [Int.tmod_eq_emod_of_nonneg (by have := gval a; omega), val_less]
theorem times_mod (a b : Fp.F) : ((a.val : Int) * (b.val : Int)).tmod 9973 = ((a * b).val : Int) := by
  have h1 := gval a
  have h2 := gval b
  rw [Int.tmod_eq_emod_of_nonneg (Int.mul_nonneg h1.1 h2.1), Fp.mul_val]
theorem times_bound (a b : Fp.F) : 0 ≤ (a.val : Int) * (b.val : Int) ∧ (a.val : Int) * (b.val : Int) ≤ 99440784 := by
  have h1 := gval a
  have h2 := gval b
  exact ⟨Int.mul_nonneg h1.1 h2.1, Int.mul_le_mul h1.2 h2.2 h2.1 (by decide)⟩



set_option maxRecDepth 100000 in
/-- copy(row, l): a row of noughts just made, and a slice of as many numbers. -/
theorem copy_row (w1 : World) (g n c : Nat) (A : Option Addr) (l : List Int) (ty : TypeId) (hr : Row w1 g (List.replicate n 0)) (hl : Lies w1 A l) (hn : n = l.length) :
    ∃ w2, (Builtin.copy_ #[22, 22] ty #[.slice (some ⟨g, 0, none⟩) n n, .slice A n c]).run Try.prog w1 = .ok (goInt n) w2 ∧
      Row w2 g l ∧ (∀ B w0, Below B w0 w1 → B ≤ g → Below B w0 w2) ∧ ∀ k, k ≠ g → w2.heap[k]? = w1.heap[k]? := by
  obtain ⟨i0, hi, hz0, hz1, hz2⟩ := info_parts int_info
  have hsz : (Try.prog.info? 3).map (·.size) = some 1 := by rw [hi]; simp [hz1]
  subst hn
  by_cases h0 : l.length = 0
  · obtain rfl : l = [] := List.eq_nil_of_length_eq_zero h0
    exact ⟨w1, run_copy_none w1 _ _ ty 3 _ A 0 0 0 c Try.underlying22 hsz (by simp), hr, fun _ _ h _ => h, fun _ _ => rfl⟩
  · obtain ⟨ad, rfl, _, _⟩ := hl 0 (by omega)
    have hlen : (ints l).length = l.length := by rw [ints, List.length_map]
    have hrun := run_copy_row (P := Try.prog) w1 22 22 ty 3 g 0 l.length l.length ad l.length c _ 3 (ints l) Try.underlying22 hsz hr (by rw [hlen]; exact (Nat.min_self _).symm)
      (fun j v hj => by
        have hj' : j < l.length := by
          rcases Nat.lt_or_ge j l.length with hlt | hge
          · exact hlt
          · rw [List.getElem?_eq_none (by simpa using hge)] at hj; cases hj
        obtain ⟨ad', e, _, hc⟩ := hl j hj'
        obtain rfl := Option.some.inj e
        rw [hc, ← hj]
        simp [hj']) (by rw [hlen]; simp) (fun v hv => by simp at hv; obtain ⟨y, _, rfl⟩ := hv; rfl)
    rw [hlen] at hrun
    refine ⟨_, hrun, ?_, fun B w0 hb hB => below_setRow hb hB _, fun k hk => setRow_other w1 g k _ hk⟩
    unfold Row
    rw [setRow_heap w1 g _ _ 3 (0, 0) hr]
    congr 3
    simp [ints]

end Go.Proofs.Ytnjhdedhobgplaa

/- Contracts of package euclid: Gcd and Bezout within and outside of their bounds. -/
namespace Go.Proofs.Ytnjhdedhobgplaa
open Go.ChangeShapes Go.WideShapes Go.ChangeAt Go.RowKit
set_option linter.unusedVariables false

/-- The error that the program gives for a number out of its range. -/
abbrev errRange : Value := .iface 47 (.int .i64 1)

set_option maxHeartbeats 800000 in
theorem gcd_in (a b : Int) (w : World) (h1 : -1000000 ≤ a) (h2 : a ≤ 1000000) (h3 : -1000000 ≤ b) (h4 : b ≤ 1000000) :
    Calls Try.prog 45 #[.int .i64 a, .int .i64 b] w fun e w' => e = .returned (.tuple #[.int .i64 (Int.gcd a b : Int), .nilIface]) ∧ Drew w w' := by
  go_enter Try.func45, Try.ntmps45
  go_wp2_with (first
    | (go_at_call 50; refine (allowed_yes _ _ (by omega) (by omega)).mono ?_; rintro e w' ⟨rfl, rfl⟩)
    | (go_at_call 49; refine (size_any _ _ (by omega) (by omega)).mono ?_; rintro e w' ⟨rfl, rfl⟩)
    | (go_at_call 51; refine (divisor_any _ _ _ (by omega) (by omega)).mono ?_; rintro e w' ⟨rfl, hd⟩))
  go_ret2
  exact ⟨rfl, hd⟩

set_option maxHeartbeats 800000 in
theorem gcd_out (a b : Int) (w : World) (h : ¬ (-1000000 ≤ a ∧ a ≤ 1000000 ∧ -1000000 ≤ b ∧ b ≤ 1000000)) :
    Calls Try.prog 45 #[.int .i64 a, .int .i64 b] w fun e w' => e = .returned (.tuple #[.int .i64 0, errRange]) ∧ Drew w w' := by
  by_cases ha : -1000000 ≤ a ∧ a ≤ 1000000
  · have hb : b < -1000000 ∨ 1000000 < b := by omega
    have H := Lib.hid hb
    clear h hb
    go_enter Try.func45, Try.ntmps45
    go_wp2_with fail
    refine (allowed_yes _ _ (by omega) (by omega)).mono ?_; rintro e w' ⟨rfl, rfl⟩
    go_wp2_with fail
    refine (allowed_no _ _ H.out).mono ?_; rintro e w' ⟨rfl, rfl⟩
    go_wp2_with fail
    go_ret2
    exact ⟨rfl, Drew.refl _⟩
  · have hb : a < -1000000 ∨ 1000000 < a := by omega
    have H := Lib.hid hb
    clear h hb ha
    go_enter Try.func45, Try.ntmps45
    go_wp2_with fail
    refine (allowed_no _ _ H.out).mono ?_; rintro e w' ⟨rfl, rfl⟩
    go_wp2_with fail
    go_ret2
    exact ⟨rfl, Drew.refl _⟩

/-- Bezout's answer: some x and y that are Bezout's numbers. -/
def SomeBez (a b : Int) (w : World) (e : Ending) (w' : World) : Prop :=
  ∃ x y : Int, Num.BezOk a b x y ∧ e = .returned (.tuple #[.int .i64 (Int.gcd a b : Int), .int .i64 x, .int .i64 y, .nilIface]) ∧ Drew w w'

set_option maxHeartbeats 800000 in
theorem bezout_out (a b : Int) (w : World) (h : ¬ (-1000000 ≤ a ∧ a ≤ 1000000 ∧ -1000000 ≤ b ∧ b ≤ 1000000)) :
    Calls Try.prog 42 #[.int .i64 a, .int .i64 b] w fun e w' => e = .returned (.tuple #[.int .i64 0, .int .i64 0, .int .i64 0, errRange]) ∧ Drew w w' := by
  have H := Lib.hid h
  clear h
  go_enter Try.func42, Try.ntmps42
  go_wp2_with fail
  refine (gcd_out _ _ _ H.out).mono ?_; rintro e w' ⟨rfl, hd⟩
  go_wp2_with fail
  refine bodyPost_ret (v := .tuple #[.int .i64 0, .int .i64 0, .int .i64 0, errRange]) (by simp [results, Try.results42, go_sem]) rfl ⟨rfl, hd⟩

set_option maxHeartbeats 800000 in
theorem bezout_zero (a : Int) (w : World) (h1 : -1000000 ≤ a) (h2 : a ≤ 1000000) :
    Calls Try.prog 42 #[.int .i64 a, .int .i64 0] w fun e w' => SomeBez a 0 w e w' := by
  go_enter Try.func42, Try.ntmps42
  go_wp2_with fail
  refine (gcd_in _ _ _ (by omega) (by omega) (by omega) (by omega)).mono ?_; rintro e w' ⟨rfl, hd⟩
  go_wp2_with fail
  refine (sign_any _ _).mono ?_; rintro e w'' ⟨rfl, rfl⟩
  go_wp2_with fail
  refine bodyPost_ret (v := .tuple #[.int .i64 (Int.gcd a 0 : Int), .int .i64 a.sign, .int .i64 0, .nilIface]) (by simp [results, Try.results42, go_sem]) rfl ⟨_, _, Num.bez_zero a, rfl, hd⟩

set_option maxHeartbeats 1600000 in
theorem bezout_in (a b : Int) (w : World) (h1 : -1000000 ≤ a) (h2 : a ≤ 1000000) (h3 : -1000000 ≤ b) (h4 : b ≤ 1000000) (h0 : b ≠ 0) :
    Calls Try.prog 42 #[.int .i64 a, .int .i64 b] w fun e w' => SomeBez a b w e w' := by
  have hne : (b == 0) = false := by rw [beq_eq_false_iff_ne]; exact h0
  have hgp := Num.gcd_pos a b h0
  have hgs := Num.gcd_small a b h0
  have hgd : Int.gcd a b ∣ b.natAbs := by rw [Int.gcd_eq_natAbs_gcd_natAbs]; exact Nat.gcd_dvd_right _ _
  have hms := Num.div_small b _ hgp hgd h0 h3 h4
  clear hgd
  go_enter Try.func42, Try.ntmps42
  go_wp2_with fail
  refine (gcd_in _ _ _ (by omega) (by omega) (by omega) (by omega)).mono ?_; rintro e w' ⟨rfl, hd⟩
  go_wp2_with fail
  refine (factor_any _ _ _ (by omega) (by omega) (by omega) (by omega) h0).mono ?_
  rintro e w1 ⟨x0, hx0, rfl, hd1⟩
  go_wp2_with fail
  refine (size_any _ _ (by omega) (by omega)).mono ?_; rintro e w'' ⟨rfl, rfl⟩
  go_wp2_with fail
  have hxb := hx0.2
  refine (residue_any _ _ _ (by omega) (by omega) (by omega) (by omega)).mono ?_; rintro e w'' ⟨rfl, rfl⟩
  have y0 := Int.emod_nonneg x0 (show (b.natAbs : Int) / (Int.gcd a b : Int) ≠ 0 by omega)
  have y1 := Int.emod_lt_of_pos x0 (show 0 < (b.natAbs : Int) / (Int.gcd a b : Int) by omega)
  generalize hx : x0 % ((b.natAbs : Int) / (Int.gcd a b : Int)) = x at *
  have HX := Lib.hid hx
  have HB := Lib.hid (Num.bez_of a b x0 h0 hx0)
  obtain ⟨s1, s2⟩ := Num.bez_small a b x (Int.gcd a b) h1 h2 (by omega) y0 (by omega)
  clear hx hxb hx0
  go_wp2_with fail
  go_quiet (fail)
  go_wp2_with fail
  refine bodyPost_ret (v := .tuple #[.int .i64 (Int.gcd a b : Int), .int .i64 x, .int .i64 (((Int.gcd a b : Int) - a * x).tdiv b), .nilIface]) (by simp [results, Try.results42, go_sem]) rfl ⟨x, _, HB.out x _ (by rw [← HX.out]; simp) rfl, rfl, (hd.trans hd1).more _⟩

theorem bezout_any (a b : Int) (w : World) (h1 : -1000000 ≤ a) (h2 : a ≤ 1000000) (h3 : -1000000 ≤ b) (h4 : b ≤ 1000000) :
    Calls Try.prog 42 #[.int .i64 a, .int .i64 b] w fun e w' => SomeBez a b w e w' := by
  by_cases h : b = 0
  · subst h; exact bezout_zero a w h1 h2
  · exact bezout_in a b w h1 h2 h3 h4 h

end Go.Proofs.Ytnjhdedhobgplaa

/- Contracts of package field: element, times, Add, Mul, Div, Pow, within and outside of their bounds. -/
namespace Go.Proofs.Ytnjhdedhobgplaa
open Go.ChangeShapes Go.WideShapes Go.ChangeAt Go.RowKit
set_option linter.unusedVariables false

/-- The error that the program gives where there is none. -/
abbrev errNone : Value := .iface 47 (.int .i64 5)

/-- An element of the field as the program has it. -/
abbrev el (a : Fp.F) : Value := .int .i64 (a.val : Int)

theorem element_any (n : Int) (w : World) (b : Bool) (hb : (decide (0 ≤ n) && decide (n ≤ 9972)) = b) :
    Calls Try.prog 26 #[.int .i64 n] w fun e w' => e = .returned (.bool b) ∧ w = w' := by
  have H := Lib.hid hb
  clear hb
  by_cases h1 : 0 ≤ n
  · go_enter Try.func26, Try.ntmps26
    go_wp2
    go_ret
    exact ⟨ret_bool (by rw [← H.out, decide_eq_true h1, Bool.true_and]; exact decide_eq_decide.2 (by omega)), rfl⟩
  · go_enter Try.func26, Try.ntmps26
    go_wp2
    go_ret
    exact ⟨ret_bool (by rw [← H.out, decide_eq_false (show ¬ 0 ≤ n by omega), Bool.false_and]), rfl⟩

theorem element_el (a : Fp.F) (w : World) :
    Calls Try.prog 26 #[el a] w fun e w' => e = .returned (.bool true) ∧ w = w' :=
  element_any _ w true (by have := Fp.val_bound a; simp; omega)

theorem prod_bound (a b : Fp.F) : 0 ≤ (a.val : Int) * (b.val : Int) ∧ (a.val : Int) * (b.val : Int) ≤ 99440784 := by
  have h1 := Fp.val_bound a
  have h2 := Fp.val_bound b
  have := Int.mul_le_mul h1.2 h2.2 h2.1 (by omega)
  exact ⟨Int.mul_nonneg h1.1 h2.1, by omega⟩

theorem times_el (a b : Fp.F) (w : World) :
    Calls Try.prog 27 #[el a, el b] w fun e w' => e = .returned (el (a * b)) ∧ w = w' := by
  have E := Lib.hid (Fp.mul_val a b)
  obtain ⟨p1, p2⟩ := prod_bound a b
  have h1 := Fp.val_bound a
  have h2 := Fp.val_bound b
  unfold el
  generalize (a.val : Int) = x at *
  generalize (b.val : Int) = y at *
  go_enter Try.func27, Try.ntmps27
  go_wp2
  go_ret
  exact ⟨ret_int (by rw [E.out]), rfl⟩

/-- Both are elements, or one is none. -/
abbrev Both (a b : Int) : Prop := (0 ≤ a ∧ a ≤ 9972) ∧ (0 ≤ b ∧ b ≤ 9972)


theorem mul_el (a b : Fp.F) (w : World) :
    Calls Try.prog 17 #[el a, el b] w fun e w' => e = .returned (.tuple #[el (a * b), .nilIface]) ∧ w = w' := by
  have H1 := Lib.hid (element_el a)
  have H2 := Lib.hid (element_el b)
  have H3 := Lib.hid (times_el a b)
  unfold el at *
  generalize (a.val : Int) = x at *
  generalize (b.val : Int) = y at *
  go_enter Try.func17, Try.ntmps17
  go_wp2_with fail
  refine (H1.out _).mono ?_; rintro e w' ⟨rfl, rfl⟩
  go_wp2_with fail
  refine (H2.out _).mono ?_; rintro e w' ⟨rfl, rfl⟩
  go_wp2_with fail
  refine (H3.out _).mono ?_; rintro e w' ⟨rfl, rfl⟩
  go_wp2_with fail
  go_ret2
  exact ⟨rfl, rfl⟩

theorem mul_out (a b : Int) (w : World) (h : ¬ Both a b) :
    Calls Try.prog 17 #[.int .i64 a, .int .i64 b] w fun e w' => e = .returned (.tuple #[.int .i64 0, errRange]) ∧ w = w' := by
  by_cases ha : 0 ≤ a ∧ a ≤ 9972
  · have HA := Lib.hid (show (decide (0 ≤ a) && decide (a ≤ 9972)) = true by simp; omega)
    have HB := Lib.hid (show (decide (0 ≤ b) && decide (b ≤ 9972)) = false by simp; omega)
    clear h ha
    go_enter Try.func17, Try.ntmps17
    go_wp2_with fail
    refine (element_any _ _ _ HA.out).mono ?_; rintro e w' ⟨rfl, rfl⟩
    go_wp2_with fail
    refine (element_any _ _ _ HB.out).mono ?_; rintro e w' ⟨rfl, rfl⟩
    go_wp2_with fail
    go_ret2
    exact ⟨rfl, rfl⟩
  · have HA := Lib.hid (show (decide (0 ≤ a) && decide (a ≤ 9972)) = false by simp; omega)
    clear h ha
    go_enter Try.func17, Try.ntmps17
    go_wp2_with fail
    refine (element_any _ _ _ HA.out).mono ?_; rintro e w' ⟨rfl, rfl⟩
    go_wp2_with fail
    go_ret2
    exact ⟨rfl, rfl⟩

theorem inv_unique {b x : Fp.F} (hb : b ≠ 0) (h : x * b = 1) : x = Fp.inv b := by
  have h2 := Fp.inv_mul hb
  generalize Fp.inv b = i at *
  exact Fp.mul_cancel hb (h.trans h2.symm)

/-- Bezout's number of an element and the prime is what undoes the element. -/
theorem bez_inv (b : Fp.F) (hb : b ≠ 0) (x y : Int) (h : Num.BezOk (b.val : Int) 9973 x y) : x = ((Fp.inv b).val : Int) := by
  obtain ⟨e, k, _⟩ := h
  have hg : Int.gcd (b.val : Int) 9973 = 1 := Fp.coprime b.val (Fp.ne_val hb) b.isLt
  have k := k (by decide)
  rw [hg] at e k
  have k2 : x < 9973 := by
    have : (((9973 : Int).natAbs / 1 : Nat) : Int) = 9973 := rfl
    omega
  have hx := Fp.ofInt_of x (by omega) (by omega)
  have hm : Fp.ofInt x * b = 1 := by
    refine Fp.val_inj ?_
    rw [Fp.mul_val, hx]
    have : (((1 : Fp.F).val : Nat) : Int) = 1 := rfl
    rw [this, Int.mul_comm]
    omega
  rw [← hx, inv_unique hb hm]

theorem div_el (a b : Fp.F) (w : World) (hb : b ≠ 0) :
    Calls Try.prog 38 #[el a, el b] w fun e w' => e = .returned (.tuple #[el (a * Fp.inv b), .nilIface]) ∧ Drew w w' := by
  have H1 := Lib.hid (element_el a)
  have H2 := Lib.hid (element_el b)
  have H3 := Lib.hid (times_el a (Fp.inv b))
  have hv := Fp.ne_val hb
  have h0 : (b.val : Int) ≠ 0 := by omega
  have hl := Fp.val_bound b
  have hne : ((b.val : Int) == 0) = false := by rw [beq_eq_false_iff_ne]; exact h0
  have HB := Lib.hid (bez_inv b hb)
  have HG := Lib.hid (show Int.gcd (b.val : Int) 9973 = 1 from Fp.coprime b.val hv b.isLt)
  clear hv
  unfold el at *
  generalize ((a * Fp.inv b).val : Int) = z at *
  generalize ((Fp.inv b).val : Int) = i at *
  generalize (a.val : Int) = x at *
  generalize (b.val : Int) = y at *
  go_enter Try.func38, Try.ntmps38
  go_wp2_with fail
  refine (H1.out _).mono ?_; rintro e w' ⟨rfl, rfl⟩
  go_wp2_with fail
  refine (H2.out _).mono ?_; rintro e w' ⟨rfl, rfl⟩
  go_wp2_with fail
  refine (bezout_any _ _ _ (by omega) (by omega) (by omega) (by omega)).mono ?_
  rintro e w1 ⟨x', y', hxy, rfl, hd⟩
  obtain rfl := HB.out _ _ hxy
  clear hxy
  go_wp2_with fail
  refine (H3.out _).mono ?_; rintro e w' ⟨rfl, rfl⟩
  go_wp2_with fail
  go_ret2
  exact ⟨rfl, hd⟩

theorem div_zero (a : Fp.F) (w : World) :
    Calls Try.prog 38 #[el a, .int .i64 0] w fun e w' => e = .returned (.tuple #[.int .i64 0, errNone]) ∧ w = w' := by
  have H1 := Lib.hid (element_el a)
  unfold el at *
  generalize (a.val : Int) = x at *
  go_enter Try.func38, Try.ntmps38
  go_wp2_with fail
  refine (H1.out _).mono ?_; rintro e w' ⟨rfl, rfl⟩
  go_wp2_with fail
  refine (element_any 0 _ true (by decide)).mono ?_; rintro e w' ⟨rfl, rfl⟩
  go_wp2_with fail
  go_ret2
  exact ⟨rfl, rfl⟩

theorem div_out (a b : Int) (w : World) (h : ¬ Both a b) :
    Calls Try.prog 38 #[.int .i64 a, .int .i64 b] w fun e w' => e = .returned (.tuple #[.int .i64 0, errRange]) ∧ w = w' := by
  by_cases ha : 0 ≤ a ∧ a ≤ 9972
  · have HA := Lib.hid (show (decide (0 ≤ a) && decide (a ≤ 9972)) = true by simp; omega)
    have HB := Lib.hid (show (decide (0 ≤ b) && decide (b ≤ 9972)) = false by simp; omega)
    clear h ha
    go_enter Try.func38, Try.ntmps38
    go_wp2_with fail
    refine (element_any _ _ _ HA.out).mono ?_; rintro e w' ⟨rfl, rfl⟩
    go_wp2_with fail
    refine (element_any _ _ _ HB.out).mono ?_; rintro e w' ⟨rfl, rfl⟩
    go_wp2_with fail
    go_ret2
    exact ⟨rfl, rfl⟩
  · have HA := Lib.hid (show (decide (0 ≤ a) && decide (a ≤ 9972)) = false by simp; omega)
    clear h ha
    go_enter Try.func38, Try.ntmps38
    go_wp2_with fail
    refine (element_any _ _ _ HA.out).mono ?_; rintro e w' ⟨rfl, rfl⟩
    go_wp2_with fail
    go_ret2
    exact ⟨rfl, rfl⟩


end Go.Proofs.Ytnjhdedhobgplaa

/- Contracts of package gauss, second part: clean. -/
namespace Go.Proofs.Ytnjhdedhobgplaa
open Go.ChangeShapes Go.WideShapes Go.ChangeAt Go.RowKit
set_option linter.unusedVariables false

end Go.Proofs.Ytnjhdedhobgplaa

/- Contracts of package mat, first part: zero, identity, checkRow, Check, checkBoth. -/
namespace Go.Proofs.Ytnjhdedhobgplaa
open Go.ChangeShapes Go.WideShapes Go.ChangeAt Go.RowKit
set_option linter.unusedVariables false



set_option maxRecDepth 100000 in
set_option maxHeartbeats 800000 in
theorem checkRow_any (A : Option Addr) (l : List Int) (n d c : Nat) (w : World) (ha : Lies w A l) (hn : l.length = n) (hb : c ≤ 1000) :
    Calls Try.prog 44 #[.slice A n d, .int .i64 (c : Int)] w fun e w' => e = .returned (errOf (Mx.rcode 0 9972 c l)) ∧ w = w' := by
  have HA := Lib.hid ha
  have HN := Lib.hid hn
  obtain ⟨v, hv⟩ : ∃ v, v = Mx.rcode 0 9972 c l := ⟨_, rfl⟩
  by_cases hc : n = c
  · subst hc
    have RNG := Lib.hid (fun (k : Nat) (hk : k < n) h2 => hv.trans (Mx.rcode_bad hn (k := k) (by omega) h2))
    have OKS := Lib.hid (fun h2 => hv.trans (Mx.rcode_ok (lo := 0) (hi := 9972) hn h2))
    rw [← hv]
    have e1 : ((n : Int) != (n : Int)) = false := by simp
    clear ha hn hv
    go_enter Try.func44, Try.ntmps44
    go_wp2_with fail
    go_loop [14] (fun i => ∃ k : Nat, k ≤ n ∧ i = .int .i64 (k : Int) ∧ ∀ j, j < k → 0 ≤ l.getD j 0 ∧ l.getD j 0 ≤ 9972) (fun i => n - (intOf i).toNat)
    case atStart => exact ⟨0, Nat.zero_le _, rfl, fun j hj => absurd hj (by omega)⟩
    case round =>
      obtain ⟨k, hk, rfl, hg⟩ := hrel
      have HG := Lib.hid hg
      clear hg
      by_cases hlt : k < n
      · obtain ⟨ad, rfl, _, hcx⟩ := HA.out k (by have := HN.out; omega)
        obtain ⟨x, hx⟩ : ∃ x, x = l.getD k 0 := ⟨_, rfl⟩
        rw [← hx] at hcx
        by_cases x0 : x < 0
        · have E := Lib.hid (RNG.out k hlt (by rw [← hx]; omega))
          clear hx
          go_wp2_with fail
          go_ret
          exact ⟨by rw [E.out]; rfl, rfl⟩
        · by_cases x1 : 9973 ≤ x
          · have E := Lib.hid (RNG.out k hlt (by rw [← hx]; omega))
            clear hx
            go_wp2_with fail
            go_ret
            exact ⟨by rw [E.out]; rfl, rfl⟩
          · have GG := Lib.hid (show ∀ j, j < k + 1 → 0 ≤ l.getD j 0 ∧ l.getD j 0 ≤ 9972 from fun j hj => by
              by_cases e : j = k
              · subst e; rw [← hx]; omega
              · exact HG.out j (by omega))
            clear hx
            go_wp2_with fail
            go_round
            case rel => exact ⟨k + 1, by omega, by go_num, GG.out⟩
            case measure => simp [intOf]; omega
      · have E := Lib.hid (OKS.out (fun j hj => HG.out j (by have := HN.out; omega)))
        go_wp2_with fail
        go_ret
        exact ⟨by rw [E.out]; rfl, rfl⟩
  · have E := Lib.hid (hv.trans (Mx.rcode_len (lo := 0) (hi := 9972) (by omega : l.length ≠ c)))
    rw [← hv]
    have e1 : ((n : Int) != (c : Int)) = true := by rw [bne_iff_ne]; omega
    clear ha hn hv hc
    go_enter Try.func44, Try.ntmps44
    go_wp2_with fail
    go_ret
    exact ⟨by rw [E.out]; rfl, rfl⟩

/-- The first k rows have no fault. -/
def rowsGo (lo hi : Int) (m : List (List Int)) (k : Nat) : Prop := Mx.rows lo hi (m.getD 0 []).length m = Mx.rows lo hi (m.getD 0 []).length (m.drop k)
theorem rows_go {lo hi : Int} {m : List (List Int)} {k : Nat} (hk : k < m.length) (h : rowsGo lo hi m k) (h0 : Mx.rcode lo hi (m.getD 0 []).length (m.getD k []) = 0) : rowsGo lo hi m (k + 1) := by
  unfold rowsGo at *
  rw [h, Mx.rows_drop hk, if_pos h0]

set_option maxRecDepth 100000 in
set_option maxHeartbeats 1600000 in
theorem Check_main (A : Option Addr) (m : List (List Int)) (n d q : Nat) (w : World) (ha : LiesM w A m) (hn : m.length = n) (hq : (m.getD 0 []).length = q) (h1 : 0 < n) (h2 : n ≤ 5) (h3 : 0 < q) (h4 : q ≤ 5) :
    Calls Try.prog 41 #[.slice A n d] w fun e w' => e = .returned (errOf (Mx.mcode 5 0 9972 m)) ∧ w = w' := by
  have hm : Mx.mcode 5 0 9972 m = Mx.rows 0 9972 (m.getD 0 []).length m := by
    unfold Mx.mcode
    rw [if_neg (by omega), if_neg (by omega)]
  rw [hm]
  obtain ⟨v, hv⟩ : ∃ v, v = Mx.rows 0 9972 (m.getD 0 []).length m := ⟨_, rfl⟩
  have hg0 : rowsGo 0 9972 m 0 := by unfold rowsGo; rw [List.drop_zero]
  have RNG := Lib.hid (fun (k : Nat) (hk : k < n) (hg : rowsGo 0 9972 m k) (h0 : Mx.rcode 0 9972 q (m.getD k []) ≠ 0) => show v = Mx.rcode 0 9972 q (m.getD k []) by
    unfold rowsGo at hg
    rw [hv, hg, Mx.rows_drop (by omega), hq, if_neg h0])
  have OKS := Lib.hid (fun (hg : rowsGo 0 9972 m n) => show v = 0 by
    unfold rowsGo at hg
    rw [hv, hg, Mx.rows_end (by omega)])
  have STP := Lib.hid (fun (k : Nat) (hk : k < n) (hg : rowsGo 0 9972 m k) (h0 : Mx.rcode 0 9972 q (m.getD k []) = 0) => rows_go (by omega) hg (by rw [hq]; exact h0))
  rw [← hv]
  obtain ⟨ad, A0, d0, rfl, _, hc0, _, hr0⟩ := ha 0 (by omega)
  rw [hq] at hc0
  rw [add_zero'] at hc0
  have HA := Lib.hid ha
  have HN := Lib.hid hn
  have G0 := Lib.hid hg0
  have e0 : ((n : Int) == 0) = false := by rw [beq_eq_false_iff_ne]; omega
  have e1 : ((q : Int) == 0) = false := by rw [beq_eq_false_iff_ne]; omega
  have e2 : ¬ (5 : Int) < n := by omega
  have e3 : ¬ (5 : Int) < q := by omega
  clear ha hn hg0 hm hv hq hr0
  go_enter Try.func41, Try.ntmps41
  go_wp2_with fail
  go_loop [30] (fun i => ∃ k : Nat, k ≤ n ∧ i = .int .i64 (k : Int) ∧ rowsGo 0 9972 m k) (fun i => n - (intOf i).toNat)
  case atStart => exact ⟨0, Nat.zero_le _, rfl, G0.out⟩
  case round =>
    obtain ⟨k, hk, rfl, hg⟩ := hrel
    have HG := Lib.hid hg
    clear hg
    by_cases hlt : k < n
    · obtain ⟨ad', A1, d1, ea, _, hc1, _, hr1⟩ := HA.out k (by have := HN.out; omega)
      obtain rfl := Option.some.inj ea
      have CR := Lib.hid (checkRow_any A1 (m.getD k []) _ d1 q w hr1 rfl (by omega))
      obtain ⟨p, hp⟩ : ∃ p, p = (m.getD k []).length := ⟨_, rfl⟩
      rw [← hp] at hc1 CR
      by_cases h0 : Mx.rcode 0 9972 q (m.getD k []) = 0
      · have ST := Lib.hid (STP.out k hlt HG.out h0)
        rw [h0] at CR
        clear hr1 hp h0
        go_wp2_with fail
        refine (CR.out).mono ?_; rintro e w' ⟨rfl, rfl⟩
        rw [errOf_zero]
        go_wp2_with fail
        go_round
        case rel => exact ⟨k + 1, by omega, by go_num, ST.out⟩
        case measure => simp [intOf]; omega
      · have E := Lib.hid (RNG.out k hlt HG.out h0)
        rw [errOf_ne _ h0] at CR
        have E2 := Lib.hid (show errOf v = .iface 47 (.int .i64 ((Mx.rcode 0 9972 q (m.getD k []) : Nat) : Int)) by rw [E.out, errOf_ne _ h0])
        generalize Mx.rcode 0 9972 q (m.getD k []) = z at *
        clear hr1 hp h0
        go_wp2_with fail
        refine (CR.out).mono ?_; rintro e w' ⟨rfl, rfl⟩
        go_wp2_with fail
        go_ret
        exact ⟨by rw [E2.out]; rfl, rfl⟩
    · have E := Lib.hid (OKS.out (by have h : k = n := by omega
                                     rw [← h]; exact HG.out))
      go_wp2_with fail
      go_ret
      exact ⟨by rw [E.out]; rfl, rfl⟩

set_option maxHeartbeats 800000 in
theorem Check_any (A : Option Addr) (m : List (List Int)) (n d : Nat) (w : World) (ha : LiesM w A m) (hn : m.length = n) :
    Calls Try.prog 41 #[.slice A n d] w fun e w' => e = .returned (errOf (Mx.mcode 5 0 9972 m)) ∧ w = w' := by
  by_cases h1 : n = 0
  · have hm : Mx.mcode 5 0 9972 m = 5 := by unfold Mx.mcode; rw [if_pos (by omega)]
    rw [hm]
    subst h1
    clear hm ha hn
    go_enter Try.func41, Try.ntmps41
    go_wp2
    go_ret
    exact ⟨rfl, rfl⟩
  obtain ⟨ad, A0, d0, rfl, _, hc0, _, hr0⟩ := ha 0 (by omega)
  rw [add_zero'] at hc0
  obtain ⟨q, hq⟩ : ∃ q, q = (m.getD 0 []).length := ⟨_, rfl⟩
  rw [← hq] at hc0
  have e0 : ((n : Int) == 0) = false := by rw [beq_eq_false_iff_ne]; omega
  have hn0 : (0 : Int) < n := by omega
  by_cases h2 : q = 0
  · have hm : Mx.mcode 5 0 9972 m = 5 := by unfold Mx.mcode; rw [if_pos (by omega)]
    rw [hm]
    subst h2
    clear hm ha hn hr0 h1 hq
    go_enter Try.func41, Try.ntmps41
    go_wp2
    go_ret
    exact ⟨rfl, rfl⟩
  have e1 : ((q : Int) == 0) = false := by rw [beq_eq_false_iff_ne]; omega
  by_cases h3 : 5 < n
  · have hm : Mx.mcode 5 0 9972 m = 4 := by unfold Mx.mcode; rw [if_neg (by omega), if_pos (by omega)]
    rw [hm]
    have e3 : (5 : Int) < n := by omega
    clear hm ha hn hr0 h1 hq h2 h3
    go_enter Try.func41, Try.ntmps41
    go_wp2
    go_ret
    exact ⟨rfl, rfl⟩
  by_cases h4 : 5 < q
  · have hm : Mx.mcode 5 0 9972 m = 4 := by unfold Mx.mcode; rw [if_neg (by omega), if_pos (by omega)]
    rw [hm]
    have e3 : ¬ (5 : Int) < n := by omega
    have e4 : (5 : Int) < q := by omega
    clear hm ha hn hr0 h1 hq h2 h3 h4
    go_enter Try.func41, Try.ntmps41
    go_wp2
    go_ret
    exact ⟨rfl, rfl⟩
  exact Check_main (some ad) m n d q w ha hn hq.symm (by omega) (by omega) (by omega) (by omega)

/-- What is wrong with two matrices: the first one's fault, else the second one's. -/
def mcode2 (a b : List (List Int)) : Nat := if Mx.mcode 5 0 9972 a = 0 then Mx.mcode 5 0 9972 b else Mx.mcode 5 0 9972 a
theorem mcode2_zero {a b : List (List Int)} (h : mcode2 a b = 0) : Mx.mcode 5 0 9972 a = 0 ∧ Mx.mcode 5 0 9972 b = 0 := by
  unfold mcode2 at h
  by_cases h0 : Mx.mcode 5 0 9972 a = 0
  · rw [if_pos h0] at h; exact ⟨h0, h⟩
  · rw [if_neg h0] at h; exact absurd h h0

end Go.Proofs.Ytnjhdedhobgplaa

/- Contracts of package gauss, third part: Steps, Rank. -/
namespace Go.Proofs.Ytnjhdedhobgplaa
open Go.ChangeShapes Go.WideShapes Go.ChangeAt Go.RowKit
set_option linter.unusedVariables false

/-- The matrix in steps, and the columns of its pivots. -/
def GotSteps (r c : Nat) (f : Nat → Nat → Fp.F) (w : World) (e : Ending) (w' : World) : Prop :=
  ∃ b g A d A' d', Stair r c c f b g ∧ e = .returned (.tuple #[.slice A r d, .slice A' b.length d', .nilIface]) ∧ LiesM w' A (Mx.matl r c g) ∧ Lies w' A' (cols b) ∧ Kp w w'
/-- No matrix, no columns, an error. -/
def FailsSteps (c : Nat) (w : World) (e : Ending) (w' : World) : Prop := e = .returned (.tuple #[.slice none 0 0, .slice none 0 0, errOf c]) ∧ Kp w w'


end Go.Proofs.Ytnjhdedhobgplaa

/- Plain facts for systems of equations over F: what is taken to noughts, the one answer that is nought at the free columns, step by step. No program is named here. -/
namespace Go.Proofs.Ytnjhdedhobgplaa.Mx
open Fp
set_option linter.unusedVariables false

/-- Where a matrix takes a row. -/
def tov (c : Nat) (f : Nat → Nat → F) (v : Nat → F) : Nat → F := fun i => sg c fun j => f i j * v j
theorem tov_congr {c : Nat} {f g : Nat → Nat → F} {v w : Nat → F} {i : Nat} (h : ∀ j, j < c → f i j = g i j) (h' : ∀ j, j < c → v j = w j) : tov c f v i = tov c g w i :=
  sg_congr fun j hj => by rw [h j hj, h' j hj]
theorem tov_more (c : Nat) (f : Nat → Nat → F) (v w : Nat → F) (a : F) (i : Nat) : tov c f (fun j => v j + a * w j) i = tov c f v i + a * tov c f w i := by
  unfold tov
  rw [← sg_times, ← sg_add]
  exact sg_congr fun j _ => by grind
theorem tov_less (c : Nat) (f : Nat → Nat → F) (v w : Nat → F) (i : Nat) : tov c f (fun j => v j - w j) i = tov c f v i - tov c f w i := by
  have h := tov_more c f v w (-1) i
  have e : (fun j => v j - w j) = fun j => v j + -1 * w j := by funext j; grind
  rw [e, h]; grind
theorem tov_none (c : Nat) (f : Nat → Nat → F) (i : Nat) : tov c f (fun _ => 0) i = 0 := by
  unfold tov
  rw [sg_congr (g := fun _ => 0) fun j _ => by grind, sg_none]
theorem tov_mul (r c : Nat) (s g : Nat → Nat → F) (v : Nat → F) (i : Nat) : tov c (mul r s g) v i = sg r fun x => s i x * tov c g v x :=
  congrFun (congrFun (mul_assoc r c s g (fun j _ => v j)) i) 0
/-- What comes of rows that are taken alike is taken alike. -/
theorem tov_come {r c : Nat} {f g : Nat → Nat → F} (h : ∃ s, Eqm r c f (mul r s g)) {v w : Nat → F} (e : ∀ x, x < r → tov c g v x = tov c g w x) {i : Nat} (hi : i < r) : tov c f v i = tov c f w i := by
  obtain ⟨s, hs⟩ := h
  rw [tov_congr (g := mul r s g) (fun j hj => hs i j hi hj) (fun _ _ => rfl), tov_congr (v := w) (g := mul r s g) (fun j hj => hs i j hi hj) (fun _ _ => rfl), tov_mul, tov_mul]
  exact sg_congr fun x hx => by rw [e x hx]

/-- The columns in which no row begins. -/
def fr (b : List Nat) (c : Nat) : List Nat := (List.range c).filter fun k => decide (k ∉ b)
theorem fr_zero (b : List Nat) : fr b 0 = [] := rfl
theorem fr_yes {b : List Nat} {k : Nat} (h : k ∈ b) : fr b (k + 1) = fr b k := by simp [fr, List.range_succ, h]
theorem fr_no {b : List Nat} {k : Nat} (h : k ∉ b) : fr b (k + 1) = fr b k ++ [k] := by simp [fr, List.range_succ, h]
theorem fr_mem {b : List Nat} {c k : Nat} : k ∈ fr b c ↔ k < c ∧ k ∉ b := by simp [fr]
theorem fr_le (b : List Nat) (c : Nat) : (fr b c).length ≤ c := by
  have := List.length_filter_le (fun k => decide (k ∉ b)) (List.range c)
  rwa [List.length_range] at this
theorem fr_pairs (b : List Nat) (c : Nat) : (fr b c).Pairwise (· < ·) := List.Pairwise.filter _ List.pairwise_lt_range
theorem count_not (p : Nat → Bool) : ∀ l : List Nat, (l.filter p).length + (l.filter fun k => !p k).length = l.length
  | [] => rfl
  | x :: l => by
    have := count_not p l
    by_cases h : p x = true
    · simp [h]; omega
    · simp [h]; omega
theorem Steps.count {r c : Nat} {b : List Nat} {g : Nat → Nat → F} (h : Steps r c b g) : b.length + (fr b c).length = c := by
  have e : b = (List.range c).filter fun k => decide (k ∈ b) := inc_same _ _ h.pairs (List.Pairwise.filter _ List.pairwise_lt_range) fun x => by
    simp only [List.mem_filter, List.mem_range, decide_eq_true_eq]
    exact ⟨fun hx => ⟨by obtain ⟨t, ht, rfl⟩ := h.mem hx; exact h.lt t ht, hx⟩, fun hx => hx.2⟩
  have := count_not (fun k => decide (k ∈ b)) (List.range c)
  rw [← e, List.length_range] at this
  have e2 : (List.range c).filter (fun k => !decide (k ∈ b)) = fr b c := by
    unfold fr; congr 1; funext k; simp
  rw [e2] at this
  exact this
theorem pv_mem {b : List Nat} {t : Nat} (ht : t < b.length) : pv b t ∈ b := by
  show b.getD t 0 ∈ b
  rw [List.getD_eq_getElem?_getD, List.getElem?_eq_getElem ht]; exact List.getElem_mem ht
theorem Steps.inj {r c : Nat} {b : List Nat} {g : Nat → Nat → F} (h : Steps r c b g) {s t : Nat} (hs : s < b.length) (ht : t < b.length) (e : pv b s = pv b t) : s = t := by
  rcases Nat.lt_trichotomy s t with hlt | he | hlt
  · have := h.inc s t hlt ht; omega
  · exact he
  · have := h.inc t s hlt hs; omega

/-- The row that is taken to noughts and is 1 at the free column k, nought at the other free ones: as far as the first t rows tell. -/
def nv (b : List Nat) (g : Nat → Nat → F) (k : Nat) : Nat → Nat → F
  | 0 => fun j => if j = k then 1 else 0
  | t + 1 => fun j => if j = pv b t then -(g t k) else nv b g k t j
theorem nv_off (b : List Nat) (g : Nat → Nat → F) (k : Nat) {j : Nat} : ∀ t, (∀ s, s < t → j ≠ pv b s) → nv b g k t j = if j = k then 1 else 0
  | 0, _ => rfl
  | t + 1, h => by
    show (if j = pv b t then _ else nv b g k t j) = _
    rw [if_neg (h t (Nat.lt_succ_self t)), nv_off b g k t fun s hs => h s (by omega)]
theorem nv_free (b : List Nat) (g : Nat → Nat → F) (k : Nat) {j : Nat} (h : j ∉ b) {t : Nat} (ht : t ≤ b.length) : nv b g k t j = if j = k then 1 else 0 :=
  nv_off b g k t fun s hs e => h (by rw [e]; exact pv_mem (by omega))
theorem Steps.nv_piv {r c : Nat} {b : List Nat} {g : Nat → Nat → F} (h : Steps r c b g) (k : Nat) : ∀ (t : Nat), t ≤ b.length → ∀ s, s < t → nv b g k t (pv b s) = -(g s k)
  | 0, _, s, hs => absurd hs (by omega)
  | t + 1, ht, s, hs => by
    show (if pv b s = pv b t then _ else nv b g k t (pv b s)) = _
    by_cases e : s = t
    · rw [e, if_pos rfl]
    · rw [if_neg fun e' => e (h.inj (by omega) (by omega) e'), h.nv_piv k t (by omega) s (by omega)]
theorem nv_congr {b : List Nat} {g g' : Nat → Nat → F} {k : Nat} : ∀ (t : Nat), (∀ s, s < t → g s k = g' s k) → nv b g k t = nv b g' k t
  | 0, _ => rfl
  | t + 1, h => by
    show (fun j => if j = pv b t then -(g t k) else nv b g k t j) = fun j => if j = pv b t then -(g' t k) else nv b g' k t j
    rw [h t (Nat.lt_succ_self t), nv_congr t fun s hs => h s (by omega)]
/-- It is taken to noughts. -/
theorem Steps.nv_zero {r c : Nat} {b : List Nat} {f g : Nat → Nat → F} (h : Steps r c b g) (e : Req r c f g) {k : Nat} (hk : k < c) (hkb : k ∉ b) {i : Nat} (hi : i < r) : tov c f (nv b g k b.length) i = 0 := by
  have hg : ∀ x, x < r → tov c g (nv b g k b.length) x = tov c g (fun _ => 0) x := fun x hx => by
    rw [tov_none]
    unfold tov
    by_cases hl : x < b.length
    · have hne : k ≠ pv b x := fun e => hkb (by rw [e]; exact pv_mem hl)
      rw [sg_two hk (h.lt x hl) hne fun j hj h1 h2 => ?_]
      · rw [nv_free b g k hkb (Nat.le_refl _), if_pos rfl, h.nv_piv k _ (Nat.le_refl _) x hl, h.piv x hl x hx, if_pos rfl]; grind
      · by_cases hjb : j ∈ b
        · obtain ⟨t, ht, rfl⟩ := h.mem hjb
          rw [h.piv t ht x hx, if_neg fun e => h2 (by rw [e])]; grind
        · rw [nv_free b g k hjb (Nat.le_refl _), if_neg h1]; grind
    · rw [sg_congr (g := fun _ => 0) fun j hj => by rw [h.zero x (by omega) hx j hj]; grind, sg_none]
  rw [tov_come e.1 hg hi, tov_none]

/-- Nought at the free columns. -/
def Off (b : List Nat) (c : Nat) (v : Nat → F) : Prop := ∀ j, j < c → j ∉ b → v j = 0
theorem Off.more {b : List Nat} {c : Nat} {v w : Nat → F} (h : Off b c v) (h' : Off b c w) (a : F) : Off b c (fun j => v j + a * w j) := fun j hj hb => by
  show v j + a * w j = 0
  rw [h j hj hb, h' j hj hb]; grind
theorem Off.less {b : List Nat} {c : Nat} {v w : Nat → F} (h : Off b c v) (h' : Off b c w) : Off b c (fun j => v j - w j) := fun j hj hb => by
  show v j - w j = 0
  rw [h j hj hb, h' j hj hb]; grind
/-- Taken to noughts, and nought at the free columns: nought. -/
theorem Steps.off_zero {r c : Nat} {b : List Nat} {f g : Nat → Nat → F} (h : Steps r c b g) (e : Req r c f g) {v : Nat → F} (ho : Off b c v) (hz : ∀ i, i < r → tov c f v i = 0) : ∀ j, j < c → v j = 0 := fun j hj => by
  by_cases hb : j ∈ b
  · obtain ⟨t, ht, rfl⟩ := h.mem hb
    have htr : t < r := Nat.lt_of_lt_of_le ht h.le
    have h1 : tov c g v t = 0 := by
      have := tov_come e.2 (v := v) (w := fun _ => 0) (fun x hx => by rw [hz x hx, tov_none]) htr
      rw [this, tov_none]
    unfold tov at h1
    rw [sg_one hj fun s hs hne => ?_, h.piv t ht t htr, if_pos rfl] at h1
    · rw [← h1]; grind
    · by_cases hsb : s ∈ b
      · obtain ⟨q, hq, rfl⟩ := h.mem hsb
        rw [h.piv q hq t htr, if_neg fun e => hne (by rw [e])]; grind
      · rw [ho s hs hsb]; grind
  · exact ho j hj hb
theorem Steps.off_one {r c : Nat} {b : List Nat} {f g : Nat → Nat → F} (h : Steps r c b g) (e : Req r c f g) {v w : Nat → F} (ho : Off b c v) (ho' : Off b c w) (hz : ∀ i, i < r → tov c f v i = tov c f w i) : ∀ j, j < c → v j = w j := fun j hj => by
  have := h.off_zero e (ho.less ho') (fun i hi => by rw [tov_less, hz i hi]; grind) j hj
  grind
/-- What is taken somewhere: something that is nought at the free columns is taken there. -/
theorem Steps.off_some {r c : Nat} {b : List Nat} {f g : Nat → Nat → F} (h : Steps r c b g) (e : Req r c f g) (z : Nat → F) : ∃ y, Off b c y ∧ ∀ i, i < r → tov c f y i = tov c f z i := by
  refine ⟨fun j => sg b.length fun t => if j = pv b t then tov c g z t else 0, fun j _ hb => ?_, fun i hi => tov_come e.1 (fun x hx => ?_) hi⟩
  · dsimp only
    rw [sg_congr (g := fun _ => 0) fun t ht => by rw [if_neg fun e => hb (by rw [e]; exact pv_mem ht)], sg_none]
  · by_cases hl : x < b.length
    · have hy : ∀ t, t < b.length → (sg b.length fun s => if pv b t = pv b s then tov c g z s else 0) = tov c g z t := fun t ht => by
        rw [sg_one ht fun s hs hne => by rw [if_neg fun e => hne (h.inj hs ht e.symm)], if_pos rfl]
      show sg c (fun j => g x j * sg b.length fun s => if j = pv b s then tov c g z s else 0) = _
      rw [sg_one (h.lt x hl) fun j hj hne => ?_, hy x hl, h.piv x hl x hx, if_pos rfl]
      · grind
      · by_cases hjb : j ∈ b
        · obtain ⟨t, ht, rfl⟩ := h.mem hjb
          rw [h.piv t ht x hx, if_neg fun e => hne (by rw [e])]; grind
        · rw [sg_congr (g := fun _ => 0) fun t ht => by rw [if_neg fun e => hjb (by rw [e]; exact pv_mem ht)], sg_none]; grind
    · have hz : ∀ v : Nat → F, tov c g v x = 0 := fun v => by
        unfold tov
        rw [sg_congr (g := fun _ => 0) fun j hj => by rw [h.zero x (by omega) hx j hj]; grind, sg_none]
      rw [hz, hz]

/-- THE answer of a system: nought at the free columns. -/
structure Ans (r c : Nat) (f : Nat → Nat → F) (tt0 : Nat → F) (b : List Nat) (x : Nat → F) : Prop where
  off : Off b c x
  sol : ∀ i, i < r → tov c f x i = tt0 i
/-- There is none at all. -/
def NoAns (r c : Nat) (f : Nat → Nat → F) (tt0 : Nat → F) : Prop := ¬ ∃ z : Nat → F, ∀ i, i < r → tov c f z i = tt0 i
theorem Ans.one {r c : Nat} {f g : Nat → Nat → F} {tt0 : Nat → F} {b : List Nat} {x y : Nat → F} (h : Steps r c b g) (e : Req r c f g) (hx : Ans r c f tt0 b x) (hy : Ans r c f tt0 b y) : ∀ j, j < c → x j = y j :=
  h.off_one e hx.off hy.off fun i hi => by rw [hx.sol i hi, hy.sol i hi]

/-- What comes of some rows. -/
def Comb (c : Nat) : List (Nat → F) → (Nat → F) → Prop
  | [], v => ∀ j, j < c → v j = 0
  | w :: ws, v => ∃ a, Comb c ws fun j => v j - a * w j
theorem Comb.congr {c : Nat} : ∀ {ws : List (Nat → F)} {u v : Nat → F}, Comb c ws u → (∀ j, j < c → u j = v j) → Comb c ws v
  | [], u, v, h, e => fun j hj => by rw [← e j hj]; exact h j hj
  | w :: ws, u, v, ⟨a, h⟩, e => ⟨a, h.congr fun j hj => by rw [e j hj]⟩
theorem Comb.less {c : Nat} (w : Nat → F) (a : F) : ∀ {ws : List (Nat → F)} {v : Nat → F}, Comb c ws v → (k : Nat) → (hk : k < ws.length) → (he : ws[k] = w) → Comb c ws fun j => v j - a * w j
  | [], v, h, k, hk, he => absurd hk (by simp)
  | w' :: ws, v, ⟨d, h⟩, 0, hk, he => by
    simp at he; subst he
    exact ⟨d - a, h.congr fun j _ => by grind⟩
  | w' :: ws, v, ⟨d, h⟩, k + 1, hk, he => by
    refine ⟨d, ?_⟩
    refine (Comb.less w a h k (by simpa using hk) (by simpa using he)).congr fun j _ => ?_
    grind
/-- Row i of f is where the k-th way moves. -/
theorem Comb.take {c : Nat} : ∀ {ws : List (Nat → F)} {v : Nat → F}, Comb c ws v → (k : Nat) → (hk : k < ws.length) → ∃ a, Comb c (ws.eraseIdx k) fun j => v j - a * ws[k] j
  | [], v, h, k, hk => absurd hk (by simp)
  | w :: ws, v, ⟨d, h⟩, 0, hk => ⟨d, by simpa using h⟩
  | w :: ws, v, ⟨d, h⟩, k + 1, hk => by
    obtain ⟨a, h2⟩ := h.take k (by simpa using hk)
    refine ⟨a, ?_⟩
    rw [List.eraseIdx_cons_succ]
    refine ⟨d, h2.congr fun j _ => ?_⟩
    simp only [List.getElem_cons_succ]
    grind
/-- Each of the rows moved along one: the same, but for so many times that one. -/
theorem Comb.moved {c : Nat} (w : Nat → F) (m : (Nat → F) → F) : ∀ {ws : List (Nat → F)} {v : Nat → F}, Comb c ws v → ∃ a, Comb c (ws.map fun u j => u j + m u * w j) fun j => v j - a * w j
  | [], v, h => ⟨0, fun j hj => by show v j - 0 * w j = 0; rw [h j hj]; grind⟩
  | u :: ws, v, ⟨d, h⟩ => by
    obtain ⟨a, h2⟩ := Comb.moved w m h
    exact ⟨a - d * m u, d, h2.congr fun j _ => by dsimp only; grind⟩
/-- What all ways take to nought, all that comes of them does. -/
theorem Comb.still {c : Nat} {f : Nat → Nat → F} {i : Nat} : ∀ {ws : List (Nat → F)} {v : Nat → F}, Comb c ws v → (∀ w, w ∈ ws → tov c f w i = 0) → tov c f v i = 0
  | [], v, h, _ => by rw [tov_congr (w := fun _ => 0) (fun _ _ => rfl) h, tov_none]
  | w :: ws, v, ⟨a, h⟩, h0 => by
    have h1 := h.still fun u hu => h0 u (List.mem_cons_of_mem _ hu)
    have h2 := tov_more c f v w (-a) i
    have e : (fun j => v j - a * w j) = fun j => v j + -a * w j := by funext j; grind
    rw [e, h2, h0 w (List.mem_cons_self ..)] at h1
    rw [← h1]; grind

/-- A way moved along another one until row i takes it where it should go. -/
def mv (c : Nat) (f : Nat → Nat → F) (i : Nat) (want : F) (w u : Nat → F) : Nat → F := fun j => u j + ((want - tov c f u i) * Fp.inv (tov c f w i)) * w j
theorem mv_there {c : Nat} {f : Nat → Nat → F} {i : Nat} {want : F} {w u : Nat → F} (h0 : tov c f w i ≠ 0) : tov c f (mv c f i want w u) i = want := by
  show tov c f (fun j => u j + ((want - tov c f u i) * Fp.inv (tov c f w i)) * w j) i = want
  rw [tov_more]
  have h1 := inv_mul h0
  generalize Fp.inv (tov c f w i) = v at *
  generalize tov c f w i = t at *
  have : (want - tov c f u i) * v * t = (want - tov c f u i) * (v * t) := by grind
  rw [this, h1]; grind
theorem mv_still {c : Nat} {f : Nat → Nat → F} {i s : Nat} {want : F} {w u : Nat → F} (h0 : tov c f w s = 0) : tov c f (mv c f i want w u) s = tov c f u s := by
  show tov c f (fun j => u j + ((want - tov c f u i) * Fp.inv (tov c f w i)) * w j) s = _
  rw [tov_more, h0]; grind
theorem mv_off {c : Nat} {f : Nat → Nat → F} {i : Nat} {want : F} {w u : Nat → F} {b : List Nat} (hw : Off b c w) (hu : Off b c u) : Off b c (mv c f i want w u) := hu.more hw _

/-- The first i rows are met by x and by what comes of x and the ways, and by nothing else that is nought at the free columns. -/
structure Srch (c : Nat) (f : Nat → Nat → F) (tt0 : Nat → F) (b : List Nat) (i : Nat) (x : Nat → F) (ws : List (Nat → F)) : Prop where
  offx : Off b c x
  offw : ∀ w, w ∈ ws → Off b c w
  solx : ∀ s, s < i → tov c f x s = tt0 s
  solw : ∀ w, w ∈ ws → ∀ s, s < i → tov c f w s = 0
  all : ∀ y, Off b c y → (∀ s, s < i → tov c f y s = tt0 s) → Comb c ws fun j => y j - x j

theorem comb_units (c : Nat) : ∀ (b : List Nat) (y : Nat → F), Off b c y → Comb c (b.map fun k j => if j = k then 1 else 0) y
  | [], y, h => fun j hj => h j hj (by simp)
  | k :: b, y, h => by
    refine ⟨y k, comb_units c b _ fun j hj hb => ?_⟩
    show y j - y k * (if j = k then 1 else 0) = 0
    by_cases e : j = k
    · rw [if_pos e, e]; grind
    · rw [if_neg e, h j hj (by simp [e, hb])]; grind
theorem Srch.start (c : Nat) (f : Nat → Nat → F) (tt0 : Nat → F) (b : List Nat) : Srch c f tt0 b 0 (fun _ => 0) (b.map fun k j => if j = k then 1 else 0) := by
  refine ⟨fun _ _ _ => rfl, fun w hw j hj hb => ?_, fun s hs => absurd hs (by omega), fun w _ s hs => absurd hs (by omega), fun y hy _ => (comb_units c b y hy).congr fun j _ => by grind⟩
  obtain ⟨k, hk, rfl⟩ := List.mem_map.1 hw
  show (if j = k then (1 : F) else 0) = 0
  rw [if_neg fun e => hb (by rw [e]; exact hk)]
theorem Srch.keep {c : Nat} {f : Nat → Nat → F} {tt0 : Nat → F} {b : List Nat} {i : Nat} {x : Nat → F} {ws : List (Nat → F)} (h : Srch c f tt0 b i x ws) (h0 : ∀ w, w ∈ ws → tov c f w i = 0) (hx : tov c f x i = tt0 i) : Srch c f tt0 b (i + 1) x ws :=
  ⟨h.offx, h.offw, fun s hs => by
    by_cases e : s = i
    · rw [e, hx]
    · exact h.solx s (by omega), fun w hw s hs => by
    by_cases e : s = i
    · rw [e, h0 w hw]
    · exact h.solw w hw s (by omega), fun y hy hs => h.all y hy fun s h' => hs s (by omega)⟩
theorem Srch.fail {r c : Nat} {f g : Nat → Nat → F} {tt0 : Nat → F} {b : List Nat} {i : Nat} {x : Nat → F} {ws : List (Nat → F)} (h : Srch c f tt0 b i x ws) (st : Steps r c b g) (e : Req r c f g) (hi : i < r) (h0 : ∀ w, w ∈ ws → tov c f w i = 0) (hx : tov c f x i ≠ tt0 i) : NoAns r c f tt0 := by
  rintro ⟨z, hz⟩
  obtain ⟨y, hy, hyz⟩ := st.off_some e z
  have h1 := (h.all y hy fun s hs => by rw [hyz s (by omega), hz s (by omega)]).still h0
  rw [tov_less, hyz i hi, hz i hi] at h1
  exact hx (by grind)
theorem Srch.move {c : Nat} {f : Nat → Nat → F} {tt0 : Nat → F} {b : List Nat} {i : Nat} {x : Nat → F} {ws : List (Nat → F)} (h : Srch c f tt0 b i x ws) (k : Nat) (hk : k < ws.length) (h0 : tov c f ws[k] i ≠ 0) :
    Srch c f tt0 b (i + 1) (mv c f i (tt0 i) ws[k] x) ((ws.eraseIdx k).map (mv c f i 0 ws[k])) := by
  have hw : ws[k] ∈ ws := List.getElem_mem hk
  have he : ∀ u, u ∈ ws.eraseIdx k → u ∈ ws := fun u hu => (List.eraseIdx_sublist ws k).subset hu
  refine ⟨mv_off (h.offw _ hw) h.offx, fun v hv => ?_, fun s hs => ?_, fun v hv s hs => ?_, fun y hy hs => ?_⟩
  · obtain ⟨u, hu, rfl⟩ := List.mem_map.1 hv
    exact mv_off (h.offw _ hw) (h.offw u (he u hu))
  · by_cases e : s = i
    · rw [e, mv_there h0]
    · rw [mv_still (h.solw _ hw s (by omega)), h.solx s (by omega)]
  · obtain ⟨u, hu, rfl⟩ := List.mem_map.1 hv
    by_cases e : s = i
    · rw [e, mv_there h0]
    · rw [mv_still (h.solw _ hw s (by omega)), h.solw u (he u hu) s (by omega)]
  · obtain ⟨a, h1⟩ := (h.all y hy fun s h' => hs s (by omega)).take k hk
    obtain ⟨d, h2⟩ := Comb.moved ws[k] (fun u => (0 - tov c f u i) * Fp.inv (tov c f ws[k] i)) h1
    have h3 : Comb c ((ws.eraseIdx k).map (mv c f i 0 ws[k])) fun j => (y j - mv c f i (tt0 i) ws[k] x j) + (-(a + d - (tt0 i - tov c f x i) * Fp.inv (tov c f ws[k] i))) * ws[k] j :=
      Comb.congr (c := c) h2 fun j _ => by
        show y j - x j - a * ws[k] j - d * ws[k] j = y j - (x j + ((tt0 i - tov c f x i) * Fp.inv (tov c f ws[k] i)) * ws[k] j) + _
        generalize (tt0 i - tov c f x i) * Fp.inv (tov c f ws[k] i) = q
        generalize ws[k] j = z
        generalize x j = z2
        generalize y j = z3
        grind
    have h4 := h3.still (f := f) (i := i) fun w hw' => by
      obtain ⟨u, hu, rfl⟩ := List.mem_map.1 hw'
      exact mv_there h0
    rw [tov_more, tov_less, mv_there h0, hs i (Nat.lt_succ_self i)] at h4
    have h5 : a + d - (tt0 i - tov c f x i) * Fp.inv (tov c f ws[k] i) = 0 := by
      generalize a + d - (tt0 i - tov c f x i) * Fp.inv (tov c f ws[k] i) = q at *
      generalize tov c f ws[k] i = t at *
      rcases Fp.mul_zero_or (a := q) (b := t) (by grind) with e | e
      · exact e
      · exact absurd e h0
    rw [h5] at h3
    exact h3.congr fun j _ => by grind
theorem Srch.done {r c : Nat} {f : Nat → Nat → F} {tt0 : Nat → F} {b : List Nat} {x : Nat → F} {ws : List (Nat → F)} (h : Srch c f tt0 b r x ws) : Ans r c f tt0 b x := ⟨h.offx, h.solx⟩

/-- The ways as rows of a matrix. -/
def wl (n : Nat) (w : Nat → Nat → F) : List (Nat → F) := (List.range n).map w
theorem len_wl (n : Nat) (w : Nat → Nat → F) : (wl n w).length = n := by simp [wl]
theorem wl_at (n : Nat) (w : Nat → Nat → F) {k : Nat} (hk : k < (wl n w).length) : (wl n w)[k] = w k := by simp [wl]
theorem wl_mem {n : Nat} {w : Nat → Nat → F} {v : Nat → F} : v ∈ wl n w ↔ ∃ k, k < n ∧ w k = v := by simp [wl]
theorem wl_erase (n : Nat) (w : Nat → Nat → F) (k : Nat) (hk : k < n + 1) : (wl (n + 1) w).eraseIdx k = wl n fun i => w (sk k i) := by
  refine List.ext_getElem (by simp [wl, List.length_eraseIdx, hk]) fun i h1 h2 => ?_
  rw [List.getElem_eraseIdx]
  have h3 : i < n := by simpa [wl] using h2
  by_cases e : i < k
  · simp [wl, e, sk]
  · simp [wl, e, sk]
theorem wl_map (n : Nat) (w : Nat → Nat → F) (m : (Nat → F) → Nat → F) : (wl n w).map m = wl n fun i => m (w i) := by simp [wl]
theorem wl_units (b : List Nat) : (b.map fun k j => if j = k then (1 : F) else 0) = wl b.length fun t j => if j = pv b t then 1 else 0 := by
  refine List.ext_getElem (by simp [wl]) fun i h1 h2 => ?_
  have : i < b.length := by simpa using h1
  simp [wl, pv, this]

/-- With one more column. -/
def aug (c : Nat) (f : Nat → Nat → F) (tt0 : Nat → F) : Nat → Nat → F := fun i j => if j = c then tt0 i else f i j
theorem Req.less {r c d : Nat} {f g : Nat → Nat → F} (h : Req r c f g) (hd : d ≤ c) : Req r d f g := by
  obtain ⟨⟨s, hs⟩, ⟨t, ht⟩⟩ := h
  exact ⟨⟨s, fun i j hi hj => hs i j hi (by omega)⟩, ⟨t, fun i j hi hj => ht i j hi (by omega)⟩⟩
theorem aug_less (r c : Nat) (f : Nat → Nat → F) (tt0 : Nat → F) : Eqm r c f (aug c f tt0) := fun i j _ hj => by
  show f i j = if j = c then tt0 i else f i j
  rw [if_neg (by omega)]
theorem aug_tov (c : Nat) (f : Nat → Nat → F) (tt0 : Nat → F) (y : Nat → F) (i : Nat) : tov (c + 1) (aug c f tt0) (fun j => if j = c then -1 else y j) i = tov c f y i - tt0 i := by
  show sg c _ + aug c f tt0 i c * (if c = c then -1 else y c) = _
  rw [if_pos rfl, show aug c f tt0 i c = tt0 i from if_pos rfl]
  have : sg c (fun j => aug c f tt0 i j * (if j = c then -1 else y j)) = tov c f y i := sg_congr fun j hj => by
    rw [if_neg (by omega), show aug c f tt0 i j = f i j from if_neg (by omega)]
  rw [this]; grind
/-- What f takes to to, its steps take to what stands behind them. -/
theorem aug_same {r c : Nat} {f a : Nat → Nat → F} {tt0 : Nat → F} (e : Req r (c + 1) (aug c f tt0) a) (y : Nat → F) : (∀ i, i < r → tov c f y i = tt0 i) ↔ ∀ i, i < r → tov c a y i = a i c := by
  have ha : ∀ i, tov (c + 1) a (fun j => if j = c then -1 else y j) i = tov c a y i - a i c := fun i => by
    have := aug_tov c a (fun i => a i c) y i
    rw [← this]
    refine tov_congr (fun j _ => ?_) fun _ _ => rfl
    show a i j = if j = c then a i c else a i j
    by_cases e : j = c
    · rw [if_pos e, e]
    · rw [if_neg e]
  constructor
  · intro h i hi
    have := tov_come e.2 (v := fun j => if j = c then -1 else y j) (w := fun _ => 0) (fun x hx => by rw [aug_tov, h x hx, tov_none]; grind) hi
    rw [ha, tov_none] at this; grind
  · intro h i hi
    have := tov_come e.1 (v := fun j => if j = c then -1 else y j) (w := fun _ => 0) (fun x hx => by rw [ha, h x hx, tov_none]; grind) hi
    rw [aug_tov, tov_none] at this; grind
/-- The answer read off. -/
def ov (b : List Nat) (a : Nat → Nat → F) (c : Nat) : Nat → Nat → F
  | 0 => fun _ => 0
  | t + 1 => fun j => if j = pv b t then a t c else ov b a c t j
theorem ov_off {b : List Nat} {a : Nat → Nat → F} {c j : Nat} : ∀ t, (∀ s, s < t → j ≠ pv b s) → ov b a c t j = 0
  | 0, _ => rfl
  | t + 1, h => by
    show (if j = pv b t then _ else ov b a c t j) = _
    rw [if_neg (h t (Nat.lt_succ_self t)), ov_off t fun s hs => h s (by omega)]
theorem Steps.ov_piv {r k c : Nat} {b : List Nat} {g a : Nat → Nat → F} (h : Steps r k b g) : ∀ (t : Nat), t ≤ b.length → ∀ s, s < t → ov b a c t (pv b s) = a s c
  | 0, _, s, hs => absurd hs (by omega)
  | t + 1, ht, s, hs => by
    show (if pv b s = pv b t then _ else ov b a c t (pv b s)) = _
    by_cases e : s = t
    · rw [e, if_pos rfl]
    · rw [if_neg fun e' => e (h.inj (by omega) (by omega) e'), h.ov_piv t (by omega) s (by omega)]
theorem aug_ans {r c : Nat} {f a : Nat → Nat → F} {tt0 : Nat → F} {b : List Nat} (h : Steps r c b a) (e : Req r (c + 1) (aug c f tt0) a) (h0 : ∀ i, b.length ≤ i → i < r → a i c = 0) : Ans r c f tt0 b (ov b a c b.length) := by
  have hoff : Off b c (ov b a c b.length) := fun j hj hb => ov_off _ fun s hs e => hb (by rw [e]; exact pv_mem hs)
  refine ⟨hoff, (aug_same e _).2 fun i hi => ?_⟩
  unfold tov
  by_cases hl : i < b.length
  · rw [sg_one (h.lt i hl) fun j hj hne => ?_, h.ov_piv _ (Nat.le_refl _) i hl, h.piv i hl i hi, if_pos rfl]
    · grind
    · by_cases hjb : j ∈ b
      · obtain ⟨t, ht, rfl⟩ := h.mem hjb
        rw [h.piv t ht i hi, if_neg fun e => hne (by rw [e])]; grind
      · rw [hoff j hj hjb]; grind
  · rw [sg_congr (g := fun _ => 0) fun j hj => by rw [h.zero i (by omega) hi j hj]; grind, sg_none, h0 i (by omega) hi]
theorem aug_not {r c : Nat} {f a : Nat → Nat → F} {tt0 : Nat → F} {b : List Nat} (h : Steps r c b a) (e : Req r (c + 1) (aug c f tt0) a) {i : Nat} (hb : b.length ≤ i) (hi : i < r) (h0 : a i c ≠ 0) : NoAns r c f tt0 := by
  rintro ⟨z, hz⟩
  have := (aug_same e z).1 hz i hi
  unfold tov at this
  rw [sg_congr (g := fun _ => 0) fun j hj => by rw [h.zero i hb hi j hj]; grind, sg_none] at this
  exact h0 this.symm
/-- How many steps there are with one more column. -/
theorem aug_rank {r c : Nat} {f g h : Nat → Nat → F} {tt0 : Nat → F} {b d : List Nat} (s : Stair r c c f b g) (t : Stair r (c + 1) (c + 1) (aug c f tt0) d h) :
    ((∃ z : Nat → F, ∀ i, i < r → tov c f z i = tt0 i) → d.length = b.length) ∧ (NoAns r c f tt0 → d.length = b.length + 1) := by
  obtain ⟨b2, a, hs, hr⟩ := steps_some r (c + 1) (aug c f tt0) c (by omega)
  have hfa : Req r c f a := (Req.of r c (aug_less r c f tt0)).trans (hr.less (by omega))
  obtain ⟨rfl, _⟩ := s.steps.unique hs (s.req.symm.trans hfa)
  by_cases h0 : ∀ i, b.length ≤ i → i < r → a i c = 0
  · have hs2 := hs.skip h0
    obtain ⟨rfl, _⟩ := t.steps.unique hs2 (t.req.symm.trans hr)
    exact ⟨fun _ => rfl, fun hn => absurd ⟨_, (aug_ans hs hr h0).sol⟩ hn⟩
  · have : ∃ i, b.length ≤ i ∧ i < r ∧ a i c ≠ 0 := Classical.byContradiction fun hn => h0 fun i h1 h2 => Classical.byContradiction fun h3 => hn ⟨i, h1, h2, h3⟩
    obtain ⟨i, h1, h2, h3⟩ := this
    have hs2 := hs.next h1 h2 h3
    have hle := hs.le
    obtain ⟨rfl, _⟩ := t.steps.unique hs2 ((t.req.symm.trans hr).trans (req_next a (by omega) h2 h3))
    refine ⟨fun hz => absurd hz (aug_not hs hr h1 h2 h3), fun _ => by simp⟩

/-- The rows that are taken to noughts, one behind the other. -/
def nm (b : List Nat) (g : Nat → Nat → F) (c : Nat) : Nat → Nat → F := fun i => nv b g (pv (fr b c) i) b.length
theorem fr_at {b : List Nat} {c i : Nat} (hi : i < (fr b c).length) : pv (fr b c) i < c ∧ pv (fr b c) i ∉ b := fr_mem.1 (pv_mem hi)
theorem fr_inj {b : List Nat} {c i j : Nat} (hi : i < (fr b c).length) (hj : j < (fr b c).length) (e : pv (fr b c) i = pv (fr b c) j) : i = j := by
  have hp := List.pairwise_iff_getElem.1 (fr_pairs b c)
  have e1 : (fr b c)[i] = (fr b c)[j] := by simpa [pv, hi, hj] using e
  rcases Nat.lt_trichotomy i j with h | h | h
  · have := hp i j hi hj h; omega
  · exact h
  · have := hp j i hj hi h; omega
/-- No one of them is made of the others. -/
theorem nm_rank {r c : Nat} {b d : List Nat} {g h : Nat → Nat → F} (s : Stair (fr b c).length c c (nm b g c) d h) : d.length = (fr b c).length := by
  refine Nat.le_antisymm s.le (sees_thru (p := (fr b c).length) ⟨one, fun j i => if j = pv (fr b c) i then 1 else 0, ?_⟩ s.thru)
  refine (one_mul _ _ _).trans fun i j hi hj => ?_
  show sg c (fun x => nm b g c i x * (if x = pv (fr b c) j then 1 else 0)) = one i j
  rw [sg_one (fr_at hj).1 fun x _ hne => by rw [if_neg hne]; grind, if_pos rfl]
  show nv b g (pv (fr b c) i) b.length (pv (fr b c) j) * 1 = _
  rw [nv_free b g _ (fr_at hj).2 (Nat.le_refl _)]
  unfold one
  by_cases e : i = j
  · rw [e, if_pos rfl, if_pos rfl]; grind
  · rw [if_neg fun e' => e (fr_inj hj hi e').symm, if_neg e]; grind
theorem fr_next {b : List Nat} {c k : Nat} (hk : k < c) (hkb : k ∉ b) : (fr b k).length < (fr b c).length ∧ pv (fr b c) (fr b k).length = k := by
  have h : ∀ n, ∃ l, fr b (k + 1 + n) = fr b k ++ k :: l := by
    intro n
    induction n with
    | zero => exact ⟨[], by rw [Nat.add_zero, fr_no hkb]⟩
    | succ n ih =>
      obtain ⟨l, hl⟩ := ih
      by_cases e : k + 1 + n ∈ b
      · exact ⟨l, by rw [← Nat.add_assoc, fr_yes e, hl]⟩
      · exact ⟨l ++ [k + 1 + n], by rw [← Nat.add_assoc, fr_no e, hl]; simp⟩
  obtain ⟨l, hl⟩ := h (c - (k + 1))
  rw [show k + 1 + (c - (k + 1)) = c by omega] at hl
  rw [hl]
  exact ⟨by simp, by simp [pv]⟩

/-- One answer, and so many times what is taken to noughts. -/
def tot (b : List Nat) (g : Nat → Nat → F) (x y : Nat → F) : Nat → Nat → F
  | 0 => y
  | k + 1 => if k ∈ b then tot b g x y k else fun j => tot b g x y k j + x k * nv b g k b.length j
theorem tot_free {b : List Nat} {g : Nat → Nat → F} {x y : Nat → F} {j : Nat} (hj : j ∉ b) : ∀ k, tot b g x y k j = y j + if j < k then x j else 0
  | 0 => by show y j = _; rw [if_neg (by omega)]; grind
  | k + 1 => by
    show (if k ∈ b then tot b g x y k else fun j => tot b g x y k j + x k * nv b g k b.length j) j = _
    by_cases hk : k ∈ b
    · rw [if_pos hk, tot_free hj k]
      have : j ≠ k := fun e => hj (by rw [e]; exact hk)
      by_cases h : j < k
      · rw [if_pos h, if_pos (by omega)]
      · rw [if_neg h, if_neg (by omega)]
    · rw [if_neg hk]
      show tot b g x y k j + x k * nv b g k b.length j = _
      rw [tot_free hj k, nv_free b g k hj (Nat.le_refl _)]
      by_cases e : j = k
      · rw [if_pos e, if_neg (by omega), if_pos (by omega), e]; grind
      · rw [if_neg e]
        by_cases h : j < k
        · rw [if_pos h, if_pos (by omega)]; grind
        · rw [if_neg h, if_neg (by omega)]; grind
theorem tot_sol {r c : Nat} {b : List Nat} {f g : Nat → Nat → F} {x y : Nat → F} (h : Steps r c b g) (e : Req r c f g) {i : Nat} (hi : i < r) : ∀ k, k ≤ c → tov c f (tot b g x y k) i = tov c f y i
  | 0, _ => rfl
  | k + 1, hk => by
    show tov c f (if k ∈ b then tot b g x y k else fun j => tot b g x y k j + x k * nv b g k b.length j) i = _
    by_cases hkb : k ∈ b
    · rw [if_pos hkb, tot_sol h e hi k (by omega)]
    · rw [if_neg hkb, tov_more, tot_sol h e hi k (by omega), h.nv_zero e (by omega) hkb hi]; grind
theorem tot_all {r c : Nat} {b : List Nat} {f g : Nat → Nat → F} {x y : Nat → F} (s : Stair r c c f b g) (hy : Ans r c f (tov c f x) b y) : ∀ j, j < c → tot b g x y c j = x j := fun j hj => by
  have h := s.steps.off_zero s.req (v := fun j => tot b g x y c j - x j) (fun j hj hb => by
    show tot b g x y c j - x j = 0
    rw [tot_free hb, hy.off j hj hb, if_pos hj]; grind) (fun i hi => by rw [tov_less, tot_sol s.steps s.req hi c (Nat.le_refl _), hy.sol i hi]; grind) j hj
  have h : tot b g x y c j - x j = 0 := h
  grind
end Go.Proofs.Ytnjhdedhobgplaa.Mx

/- Contracts of package solve, first part: what keeps what, unit, checkSide, the function that valueOf makes. -/
namespace Go.Proofs.Ytnjhdedhobgplaa
open Go.ChangeShapes Go.WideShapes Go.ChangeAt Go.RowKit
set_option linter.unusedVariables false

/-- Nothing but what stands in some blocks has turned. -/
structure Save (S : Nat → Prop) (w w' : World) : Prop where
  os : w'.os = w.os
  tape : w'.tape = w.tape
  output : w'.output = w.output
  size : w.heap.size ≤ w'.heap.size
  block : ∀ b, b < w.heap.size → ¬ S b → w'.heap[b]? = w.heap[b]?
theorem Save.of {S : Nat → Prop} {w w' : World} (h : Kp w w') : Save S w w' := ⟨h.os, h.tape, h.output, h.size, fun b hb _ => h.block b hb⟩
theorem Save.refl (S : Nat → Prop) (w : World) : Save S w w := Save.of (Kp.rfl' w)
theorem Save.trans {S : Nat → Prop} {a b c : World} (h : Save S a b) (k : Save S b c) : Save S a c :=
  ⟨k.os.trans h.os, k.tape.trans h.tape, k.output.trans h.output, Nat.le_trans h.size k.size, fun i hi hn => (k.block i (Nat.lt_of_lt_of_le hi h.size) hn).trans (h.block i hi hn)⟩
theorem Save.drewN {S : Nat → Prop} {a b : World} (h : Save S a b) (n : Nat) : Save S a (b.drewN n) := h.trans (Save.of ((Kp.rfl' b).drewN n))
theorem Save.put {S : Nat → Prop} {a b : World} (h : Save S a b) {p : Addr} (hp : S p.block) (u : Value) : Save S a (b.setCell p u) :=
  h.trans ⟨rfl, rfl, rfl, by simp [World.setCell], fun k _ hn => Below.heap_setCell _ _ _ _ (fun e => hn (by rw [e]; exact hp))⟩
theorem Save.below {S : Nat → Prop} {B : Nat} {w0 w w' : World} (h : Save S w w') (hb : Below B w0 w) (hB : B ≤ w.heap.size) (hS : ∀ b, S b → B ≤ b) : Below B w0 w' :=
  hb.trans ⟨h.os, h.tape, h.output, h.size, fun k hk => h.block k (by omega) fun e => by have := hS k e; omega⟩
theorem Save.cell {S : Nat → Prop} {w w' : World} (h : Save S w w') {a : Addr} {v : Value} (hc : w.cell? a = some v) (hn : ¬ S a.block) : w'.cell? a = some v :=
  (World.cell?_of_block (w := w) (h.block a.block (cell_lt hc) hn)).trans hc
theorem ownsRow_save {S : Nat → Prop} {w w' : World} {B n : Nat} {e : TypeId} {v : Value} {xs : List Value} (h : w.ownsRow B e 1 v n xs) (hk : Save S w w') (hn : ∀ b, v.ownBlock = some b → ¬ S b) : w'.ownsRow B e 1 v n xs := by
  obtain ⟨h1, h2⟩ := h
  refine ⟨h1, ?_⟩
  rcases h2 with h2 | ⟨g, cap, cur, rfl, hg, hh, r⟩
  · exact .inl h2
  · refine .inr ⟨g, cap, cur, rfl, hg, ?_, r⟩
    rw [hk.block g ?_ (hn g rfl)]; exact hh
    rcases Nat.lt_or_ge g w.heap.size with hlt | hge
    · exact hlt
    · rw [Array.getElem?_eq_none hge] at hh; cases hh
theorem Own.save {S : Nat → Prop} {w w' : World} {B : Nat} {v : Value} {l : List Int} (h : Own w B v l) (hk : Save S w w') (hn : ∀ b, v.ownBlock = some b → ¬ S b) : Own w' B v l := ownsRow_save h hk hn
theorem OwnM.save {S : Nat → Prop} {w w' : World} {B : Nat} {v : Value} {G C : Nat → Nat} {m : List (List Int)} (h : OwnM w B v G C m) (hk : Save S w w') (hn : ∀ b, v.ownBlock = Option.some b → ¬ S b) (hr : ∀ i, i < m.length → ¬ S (G i)) : OwnM w' B v G C m :=
  ⟨ownsRow_save h.top hk hn, fun i hi => (h.row i hi).save hk fun b hb => by
    have : G i = b := Option.some.inj hb
    rw [← this]; exact hr i hi, h.apart⟩

/-- A row of numbers of the field. -/
abbrev rowF (c : Nat) (u : Nat → Fp.F) : List Int := Mx.row c fun j => ((u j).val : Int)
theorem matl_row {n c : Nat} (W : Nat → Nat → Fp.F) {k : Nat} (hk : k < n) : (Mx.matl n c W).getD k [] = rowF c (W k) := Mx.tab_at _ _ _ _ hk

theorem more_mod (s a b : Fp.F) : ((s.val : Int) + (a.val : Int) * (b.val : Int)).tmod 9973 = ((s + a * b).val : Int) := by
  have h := times_bound a b
  rw [Int.tmod_eq_emod_of_nonneg (by have := gval s; omega), Mx.val_more]
theorem sub_mod (a b : Fp.F) : ((a.val : Int) - (b.val : Int) + 9973).tmod 9973 = ((a - b).val : Int) := by
  have h1 := gval a
  have h2 := gval b
  rw [Int.tmod_eq_emod_of_nonneg (by omega), ← Fp.ofInt_val]
  have h : Fp.ofInt ((a.val : Int) - (b.val : Int) + 9973) + b = a := by
    have := Fp.ofInt_add ((a.val : Int) - (b.val : Int) + 9973) (b.val : Int)
    rw [Fp.ofInt_self, show (a.val : Int) - (b.val : Int) + 9973 + (b.val : Int) = (a.val : Int) + 9973 by omega, Fp.ofInt_add, Fp.ofInt_self, show Fp.ofInt 9973 = 0 from rfl] at this
    rw [← this]; grind
  have : Fp.ofInt ((a.val : Int) - (b.val : Int) + 9973) = a - b := by rw [← h]; grind
  rw [this]

/-- The function that valueOf made stands over row i of f: its box names the row, which lies in what was there. -/
structure Val (w : World) (gp B0 c : Nat) (f : Nat → Nat → Fp.F) (i : Nat) : Prop where
  ex : ∃ A1 d1, w.cell? ⟨gp, 0, none⟩ = some (.slice A1 c d1) ∧ LiesIn w B0 A1 (rowF c (f i))
theorem Val.save {S : Nat → Prop} {w w' : World} {gp B0 c : Nat} {f : Nat → Nat → Fp.F} {i : Nat} (h : Val w gp B0 c f i) (hk : Save S w w') (hg : ¬ S gp) (hS : ∀ b, S b → B0 ≤ b) (hB : B0 ≤ w.heap.size) : Val w' gp B0 c f i := by
  obtain ⟨A1, d1, h1, h2⟩ := h.ex
  exact ⟨A1, d1, hk.cell h1 hg, h2.below (hk.below (Below.refl B0 w) hB hS)⟩
theorem Val.keep {w w' : World} {gp B0 c : Nat} {f : Nat → Nat → Fp.F} {i : Nat} (h : Val w gp B0 c f i) (hk : Kp w w') (hB : B0 ≤ w.heap.size) : Val w' gp B0 c f i :=
  h.save (Save.of (S := fun _ => False) hk) (fun h => h) (fun _ h => h.elim) hB





end Go.Proofs.Ytnjhdedhobgplaa

/- Plain facts on rows that go on by factors: the step as a matrix that moves the numbers on by one place, its powers, rows written as far as a place. No program is named here. -/
namespace Go.Proofs.Ytnjhdedhobgplaa
open Fp
set_option linter.unusedVariables false

namespace Mx
/-- Turned round, a sum is the same. -/
theorem sg_back : ∀ (n : Nat) (g : Nat → F), (sg n fun j => g (n - 1 - j)) = sg n g
  | 0, _ => rfl
  | n + 1, g => by
    rw [sg_first]
    have h := sg_back n g
    rw [sg_succ, ← h, show n + 1 - 1 - 0 = n by omega, sg_congr (g := fun j => g (n - 1 - j)) fun j hj => by rw [show n + 1 - 1 - (j + 1) = n - 1 - j by omega]]
    grind
/-- The step that moves the numbers on by one place. -/
def stp (n : Nat) (c : Nat → F) : Nat → Nat → F := fun i j => if i + 1 = n then c (n - 1 - j) else if j = i + 1 then 1 else 0
theorem stp_step {n : Nat} {c x : Nat → F} (hx : Goes n c x) (i : Nat) {a : Nat} (ha : a < n) : (sg n fun b => stp n c a b * x (i + b)) = x (i + 1 + a) := by
  by_cases e : a + 1 = n
  · rw [hx (i + 1 + a) (by omega), ← sg_back n fun k => c k * x (i + 1 + a - 1 - k)]
    exact sg_congr fun k hk => by
      unfold stp; rw [if_pos e, show i + 1 + a - 1 - (n - 1 - k) = i + k by omega]
  · rw [sg_one (k := a + 1) (by omega) fun j hj hne => by unfold stp; rw [if_neg e, if_neg hne]; grind]
    unfold stp
    rw [if_neg e, if_pos rfl, show i + (a + 1) = i + 1 + a by omega]; grind
/-- Its powers tell the row. -/
theorem stp_pow {n : Nat} {c x : Nat → F} (hx : Goes n c x) : ∀ (k i a : Nat), a < n → (sg n fun b => pwm n (stp n c) k a b * x (i + b)) = x (i + k + a)
  | 0, i, a, ha => by
    rw [sg_one ha fun j hj hne => by
      show (if a = j then (1 : F) else 0) * _ = 0
      rw [if_neg fun e => hne e.symm]; grind]
    show (if a = a then (1 : F) else 0) * _ = _
    rw [if_pos rfl, Nat.add_zero]; grind
  | k + 1, i, a, ha => by
    have h1 : (sg n fun b => pwm n (stp n c) (k + 1) a b * x (i + b)) = sg n fun b => mul n (pwm n (stp n c) k) (stp n c) a b * x (i + b) := sg_congr fun b hb => by
      rw [← pwm_snoc n (stp n c) k a b ha hb]
    have h2 : (sg n fun b => mul n (pwm n (stp n c) k) (stp n c) a b * x (i + b)) = sg n fun t => pwm n (stp n c) k a t * sg n fun b => stp n c t b * x (i + b) := by
      rw [sg_congr (g := fun b => sg n fun t => pwm n (stp n c) k a t * (stp n c t b * x (i + b))) fun b _ => by
        unfold mul; rw [← sg_by]; exact sg_congr fun t _ => by grind, sg_swap]
      exact sg_congr fun t _ => by rw [sg_times]
    rw [h1, h2, sg_congr (g := fun t => pwm n (stp n c) k a t * x (i + 1 + t)) fun t ht => by rw [stp_step hx i ht], stp_pow hx k (i + 1) a ha]
    congr 1; omega
/-- The number at a place is told by the first row of the step's power. -/
theorem stp_term {n : Nat} {c s : Nat → F} (hn : 0 < n) (k : Nat) : (sg n fun b => pwm n (stp n c) k 0 b * s b) = sq n c s k := by
  have h := stp_pow (sq_goes n c s hn) k 0 0 hn
  rw [show 0 + k + 0 = k by omega] at h
  rw [← h]
  exact sg_congr fun b hb => by rw [show 0 + b = b by omega, sq_start n c s hb]
end Mx

/-- The first i numbers of x, then noughts. -/
def far (x : Nat → Fp.F) (i : Nat) : Nat → Fp.F := fun j => if j < i then x j else 0
theorem far_step (x : Nat → Fp.F) {N i : Nat} (h : i < N) : (rowF N (far x i)).set i ((x i).val : Int) = rowF N (far x (i + 1)) := by
  unfold rowF
  rw [Mx.row_set]
  refine Mx.row_ext fun j hj => ?_
  unfold far
  by_cases e : j = i
  · subst e; rw [if_pos rfl, if_pos (by omega)]
  · rw [if_neg e]
    by_cases e2 : j < i
    · rw [if_pos e2, if_pos (by omega)]
    · rw [if_neg e2, if_neg (by omega)]
theorem far_all (x : Nat → Fp.F) (N : Nat) : rowF N (far x N) = rowF N x := Mx.row_ext fun j hj => by unfold far; rw [if_pos hj]
theorem far_take (x : Nat → Fp.F) {N i : Nat} (h : i ≤ N) : (rowF N (far x i)).take i = rowF i x := by
  refine List.ext_getElem (by rw [List.length_take, Mx.len_row, Mx.len_row]; omega) fun j h1 h2 => ?_
  rw [Mx.len_row] at h2
  simp [rowF, Mx.row, far, h2]
theorem far_start (s x : Nat → Fp.F) {N n m : Nat} (hm : m = min N n) (h : ∀ j, j < m → x j = s j) : (rowF n s).take m ++ List.replicate (N - m) 0 = rowF N (far x m) := by
  refine List.ext_getElem (by simp [rowF, Mx.row]; omega) fun j h1 h2 => ?_
  rw [Mx.len_row] at h2
  by_cases e : j < m
  · rw [List.getElem_append_left (by simp [rowF, Mx.row]; omega)]
    simp [rowF, Mx.row, far, e, h j e]
  · rw [List.getElem_append_right (by simp [rowF, Mx.row]; omega)]
    simp [rowF, Mx.row, far, e]

/-- What is wrong with factors and a beginning, as a number. -/
noncomputable def rcd (L S : List Int) : Nat :=
  open Classical in if L.length = 0 then 5 else if 5 < L.length then 4 else if S.length ≠ L.length then 3 else if ¬ (AllIn L 0 9972 ∧ AllIn S 0 9972) then 1 else 0
theorem rcd_none {L S : List Int} (h : L.length = 0) : rcd L S = 5 := by unfold rcd; rw [if_pos h]
theorem rcd_full {L S : List Int} (h : 5 < L.length) : rcd L S = 4 := by unfold rcd; rw [if_neg (by omega), if_pos h]
theorem rcd_shape {L S : List Int} (h0 : L.length ≠ 0) (h : ¬ 5 < L.length) (h1 : S.length ≠ L.length) : rcd L S = 3 := by unfold rcd; rw [if_neg h0, if_neg h, if_pos h1]
theorem rcd_range {L S : List Int} (h0 : L.length ≠ 0) (h : ¬ 5 < L.length) (h1 : S.length = L.length) (h3 : ¬ (AllIn L 0 9972 ∧ AllIn S 0 9972)) : rcd L S = 1 := by
  unfold rcd; rw [if_neg h0, if_neg h, if_neg (by omega), if_pos h3]
theorem rcd_ok {L S : List Int} (h0 : L.length ≠ 0) (h : ¬ 5 < L.length) (h1 : S.length = L.length) (h3 : AllIn L 0 9972) (h4 : AllIn S 0 9972) : rcd L S = 0 := by
  unfold rcd; rw [if_neg h0, if_neg h, if_neg (by omega), if_neg (fun e => e ⟨h3, h4⟩)]
theorem rcd_some (L S : List Int) : rcd L S = 0 ∨ rcd L S = 1 ∨ rcd L S = 3 ∨ rcd L S = 4 ∨ rcd L S = 5 := by
  unfold rcd; repeat' split
  all_goals simp
theorem rcd_zero {L S : List Int} (h : rcd L S = 0) : L.length ≠ 0 ∧ L.length ≤ 5 ∧ S.length = L.length ∧ AllIn L 0 9972 ∧ AllIn S 0 9972 := by
  by_cases h0 : L.length = 0
  · rw [rcd_none h0] at h; cases h
  · by_cases h1 : 5 < L.length
    · rw [rcd_full h1] at h; cases h
    · by_cases h2 : S.length = L.length
      · by_cases h3 : AllIn L 0 9972 ∧ AllIn S 0 9972
        · exact ⟨h0, by omega, h2, h3⟩
        · rw [rcd_range h0 h1 h2 h3] at h; cases h
      · rw [rcd_shape h0 h1 h2] at h; cases h

/-- Factors and a beginning, as many. -/
structure Rc (n : Nat) (c s : Nat → Fp.F) (L S : List Int) : Prop where
  fac : L = rowF n c
  beg : S = rowF n s
  pos : 0 < n
  le : n ≤ 5
theorem rrow_of {l : List Int} (h : AllIn l 0 9972) : ∃ t : Nat → Fp.F, l = rowF l.length t := by
  refine ⟨fun j => Fp.ofInt (l.getD j 0), ?_⟩
  refine (Mx.is_row l).trans (Mx.row_ext fun k hk => ?_)
  show l.getD k 0 = ((Fp.ofInt (l.getD k 0)).val : Int)
  rw [Fp.ofInt_val]
  have := h k hk
  omega
theorem rrow_in (q : Nat) (t : Nat → Fp.F) : AllIn (rowF q t) 0 9972 := fun k hk => by
  rw [Mx.len_row] at hk
  rw [Mx.row_at _ _ _ hk]
  exact Fp.val_bound (t k)
theorem rc_or (L S : List Int) : (∃ n c s, Rc n c s L S) ∨ rcd L S ≠ 0 := by
  by_cases h : rcd L S = 0
  · obtain ⟨h0, h1, h2, h3, h4⟩ := rcd_zero h
    obtain ⟨c, hc⟩ := rrow_of h3
    obtain ⟨s, hs⟩ := rrow_of h4
    rw [h2] at hs
    exact .inl ⟨L.length, c, s, hc, hs, by omega, h1⟩
  · exact .inr h
theorem Rc.code {n : Nat} {c s : Nat → Fp.F} {L S : List Int} (h : Rc n c s L S) : rcd L S = 0 := by
  have h1 := h.le
  have h2 := h.pos
  have e1 : L.length = n := by rw [h.fac, Mx.len_row]
  have e2 : S.length = n := by rw [h.beg, Mx.len_row]
  refine rcd_ok (by omega) (by omega) (by omega) ?_ ?_
  · rw [h.fac]; exact rrow_in _ _
  · rw [h.beg]; exact rrow_in _ _

end Go.Proofs.Ytnjhdedhobgplaa

/- A row of factors from a rule, as a list of factors. No program is named here. -/
namespace Go.Proofs.Ytnjhdedhobgplaa
open Fp
set_option linter.unusedVariables false

theorem rowF_vals (n : Nat) (f : Nat → Fp.F) : rowF n f = Pol.vals ((List.range n).map f) := by
  unfold rowF Mx.row Pol.vals
  rw [List.map_map]
  rfl

end Go.Proofs.Ytnjhdedhobgplaa

/- Plain facts on the resultant of two rows of factors: what is wrong, the matrix as the document lays it, its laws. No program is named here. -/
namespace Go.Proofs.Ytnjhdedhobgplaa
open Fp
set_option linter.unusedVariables false

namespace Mx
/-- One row: the factors with the highest power first, from one place on, the first k of them. -/
def shr (m at' k : Nat) (u : Nat → F) (j : Nat) : F := if at' ≤ j ∧ j < at' + k then u (m - (j - at')) else 0
theorem shr_none (m at' : Nat) (u : Nat → F) (j : Nat) : shr m at' 0 u j = 0 := if_neg (by omega)
theorem shr_here (m at' k : Nat) (u : Nat → F) : shr m at' (k + 1) u (at' + k) = u (m - k) := by
  unfold shr; rw [if_pos (by omega), show at' + k - at' = k by omega]
theorem shr_other (m at' k : Nat) (u : Nat → F) {j : Nat} (h : j ≠ at' + k) : shr m at' (k + 1) u j = shr m at' k u j := by
  unfold shr
  by_cases e : at' ≤ j ∧ j < at' + k
  · rw [if_pos e, if_pos (by omega)]
  · rw [if_neg e, if_neg (by omega)]
theorem syd_first {p q i : Nat} (f g : Nat → F) (h : i < q) (j : Nat) : syd p q f g i j = shr p i (p + 1) f j := by
  unfold syd shr
  rw [if_pos h]
  by_cases e : i ≤ j ∧ j ≤ i + p
  · rw [if_pos e, if_pos (by omega)]
  · rw [if_neg e, if_neg (by omega)]
theorem syd_last {p q i : Nat} (f g : Nat → F) (h : ¬ i < q) (j : Nat) : syd p q f g i j = shr q (i - q) (q + 1) g j := by
  unfold syd shr
  rw [if_neg h]
  by_cases e : i - q ≤ j ∧ j ≤ i - q + q
  · rw [if_pos e, if_pos (by omega)]
  · rw [if_neg e, if_neg (by omega)]

/-- The matrix of two rows of factors. -/
def smx (p q : List F) : Nat → Nat → F := syd (p.length - 1) (q.length - 1) (Pol.co p) (Pol.co q)
/-- The resultant of both. -/
def res (p q : List F) : F := dt (p.length - 1 + (q.length - 1)) (smx p q)
theorem res_is (p q : List F) : res p q = rs (p.length - 1) (q.length - 1) (Pol.co p) (Pol.co q) := dt_syd (co_deg p) (co_deg q)

theorem pw_sgn (a b : Nat) : pw (sgn a) b = if a % 2 = 1 ∧ b % 2 = 1 then -1 else 1 := by
  unfold sgn
  by_cases h : a % 2 = 0
  · rw [if_pos h, if_neg (by omega), pw_one_base]
  · rw [if_neg h, pw_half, show (-1 : F) * -1 = 1 by decide, pw_one_base, Fin.one_mul]
    by_cases h2 : b % 2 = 1
    · rw [if_pos h2, if_pos (by omega)]
    · rw [if_neg h2, if_neg (by omega)]
theorem res_turn (p q : List F) : res q p = (if (p.length - 1) % 2 = 1 ∧ (q.length - 1) % 2 = 1 then -1 else 1) * res p q := by
  rw [res_is, res_is, rs_turn, pw_sgn]

theorem cvp_cons (a : F) (p : Nat → F) (q : Nat → F) (t : Nat) : cvp (fun k => if k = 0 then a else p (k - 1)) q t = a * q t + if t = 0 then 0 else cvp p q (t - 1) := by
  unfold cvp
  cases t with
  | zero =>
    rw [sg_succ, sg_zero, if_pos rfl]
    show 0 + a * q 0 = a * q 0 + 0
    grind
  | succ t =>
    rw [if_neg (by omega), sg_first]
    congr 1
    exact sg_congr fun s hs => by show (if s + 1 = 0 then a else p (s + 1 - 1)) * _ = _; rw [if_neg (by omega), show s + 1 - 1 = s by omega, show t + 1 - (s + 1) = t - s by omega, show t + 1 - 1 - s = t - s by omega]
theorem co_pmul_cv (p q : List F) : Pol.co (Pol.pmul p q) = cvp (Pol.co p) (Pol.co q) := by
  induction p with
  | nil =>
    funext t
    unfold cvp
    rw [show Pol.pmul [] q = [] from rfl, Pol.co_nil, sg_congr (g := fun _ => 0) fun s _ => by rw [Pol.co_nil]; grind, sg_none]
  | cons a p ih =>
    funext t
    rw [show Pol.co (a :: p) = fun k => if k = 0 then a else Pol.co p (k - 1) from funext fun k => by cases k <;> simp [Pol.co_zero, Pol.co_succ], cvp_cons]
    show Pol.co (Pol.padd (Pol.times a q) (0 :: Pol.pmul p q)) t = _
    rw [Pol.co_padd, Pol.co_times]
    congr 1
    cases t with
    | zero => rw [Pol.co_zero, if_pos rfl]
    | succ t => rw [Pol.co_succ, if_neg (by omega), ih]; rfl
theorem res_mul {f g : List F} (h : List F) (nf : f ≠ []) (ng : g ≠ []) (tg : Pol.Tr g) : res (Pol.pmul f g) h = res f h * res g h := by
  have l := Pol.len_pmul f g nf ng
  have pf := List.length_pos_iff.2 nf
  have pg := List.length_pos_iff.2 ng
  rw [res_is, res_is, res_is, show (Pol.pmul f g).length - 1 = g.length - 1 + (f.length - 1) by omega, co_pmul_cv]
  exact rs_mul (co_deg f) (co_deg g) (co_deg h) (tg ng)
theorem res_lin (a : F) (h : List F) : res [-a, 1] h = Pol.ev h a := by
  rw [res_is, show Pol.co [-a, 1] = lin a from funext fun k => by
    unfold lin
    match k with
    | 0 => rfl
    | 1 => rfl
    | k + 2 => rw [if_neg (by omega), if_neg (by omega), Pol.co_out _ _ (by simp)]]
  exact (rs_lin a _ _).trans (co_vx h (by omega) a)
theorem res_one (h : List F) : res [1] h = 1 := by
  rw [res_is]
  show dt (0 + (h.length - 1)) _ = 1
  rw [Nat.zero_add, dt_congr (g := one) _ fun i j _ _ => ?_, dt_one]
  show (if i < 0 then _ else shf (Pol.co [1]) (i - 0) j) = if i = j then 1 else 0
  rw [if_neg (by omega), Nat.sub_zero]
  unfold shf
  by_cases e : i ≤ j
  · rw [if_pos e]
    by_cases e2 : i = j
    · rw [if_pos e2, e2, Nat.sub_self]; rfl
    · rw [if_neg e2, Pol.co_out _ _ (by simp; omega)]
  · rw [if_neg e, if_neg (by omega)]
theorem res_common {f g c : List F} (h : Pol.Gc f g c) (tf : Pol.Tr f) (tg : Pol.Tr g) (nf : f ≠ []) (ng : g ≠ []) (lo : 1 ≤ f.length + g.length - 2) (hi : f.length + g.length ≤ 7) : res f g = 0 ↔ 1 < c.length := by
  have pf := List.length_pos_iff.2 nf
  have pg := List.length_pos_iff.2 ng
  rw [res_is]
  exact rs_common h tf tg (by omega) (by omega) nf ng (by omega)
/-- A row of three factors, and its slope. -/
theorem res_twice (a b c : F) : res [c, b, a] [b, a * 2] = -a * (b * b - 4 * (a * c)) := by
  have e : res [c, b, a] [b, a * 2] = dt 3 (smx [c, b, a] [b, a * 2]) := rfl
  rw [e]
  have h0 : smx [c, b, a] [b, a * 2] 0 0 = a := rfl
  have h1 : smx [c, b, a] [b, a * 2] 0 1 = b := rfl
  have h2 : smx [c, b, a] [b, a * 2] 0 2 = c := rfl
  have h3 : smx [c, b, a] [b, a * 2] 1 0 = a * 2 := rfl
  have h4 : smx [c, b, a] [b, a * 2] 1 1 = b := rfl
  have h5 : smx [c, b, a] [b, a * 2] 1 2 = 0 := rfl
  have h6 : smx [c, b, a] [b, a * 2] 2 0 = 0 := rfl
  have h7 : smx [c, b, a] [b, a * 2] 2 1 = a * 2 := rfl
  have h8 : smx [c, b, a] [b, a * 2] 2 2 = b := rfl
  generalize smx [c, b, a] [b, a * 2] = f at *
  simp only [dt, sg, del, sk, sgn, h0, h1, h2, h3, h4, h5, h6, h7, h8, Nat.reduceAdd, Nat.reduceLT, Nat.reduceMod, if_true, if_false]
  grind
end Mx

/-- What is wrong with two rows, as a number. -/
noncomputable def recd (L M : List Int) : Nat := open Classical in if L.length = 0 ∨ M.length = 0 then 5 else if ¬ (AllIn L 0 9972 ∧ AllIn M 0 9972) then 1 else if L.getD (L.length - 1) 0 = 0 ∨ M.getD (M.length - 1) 0 = 0 then 3 else if ¬ (3 ≤ L.length + M.length ∧ L.length + M.length ≤ 7) then 4 else 0
theorem recd_none {L M : List Int} (h : L.length = 0 ∨ M.length = 0) : recd L M = 5 := by unfold recd; rw [if_pos h]
theorem recd_range {L M : List Int} (h0 : ¬ (L.length = 0 ∨ M.length = 0)) (h : ¬ (AllIn L 0 9972 ∧ AllIn M 0 9972)) : recd L M = 1 := by unfold recd; rw [if_neg h0, if_pos h]
theorem recd_shape {L M : List Int} (h0 : ¬ (L.length = 0 ∨ M.length = 0)) (h : AllIn L 0 9972 ∧ AllIn M 0 9972) (h1 : L.getD (L.length - 1) 0 = 0 ∨ M.getD (M.length - 1) 0 = 0) : recd L M = 3 := by
  unfold recd; rw [if_neg h0, if_neg fun e => e h, if_pos h1]
theorem recd_full {L M : List Int} (h0 : ¬ (L.length = 0 ∨ M.length = 0)) (h : AllIn L 0 9972 ∧ AllIn M 0 9972) (h1 : ¬ (L.getD (L.length - 1) 0 = 0 ∨ M.getD (M.length - 1) 0 = 0)) (h2 : ¬ (3 ≤ L.length + M.length ∧ L.length + M.length ≤ 7)) : recd L M = 4 := by
  unfold recd; rw [if_neg h0, if_neg fun e => e h, if_neg h1, if_pos h2]
theorem recd_ok {L M : List Int} (h0 : ¬ (L.length = 0 ∨ M.length = 0)) (h : AllIn L 0 9972 ∧ AllIn M 0 9972) (h1 : ¬ (L.getD (L.length - 1) 0 = 0 ∨ M.getD (M.length - 1) 0 = 0)) (h2 : 3 ≤ L.length + M.length ∧ L.length + M.length ≤ 7) : recd L M = 0 := by
  unfold recd; rw [if_neg h0, if_neg fun e => e h, if_neg h1, if_neg fun e => e h2]
theorem recd_some (L M : List Int) : recd L M = 0 ∨ recd L M = 1 ∨ recd L M = 3 ∨ recd L M = 4 ∨ recd L M = 5 := by
  unfold recd; repeat' split
  all_goals simp
theorem recd_zero {L M : List Int} (h : recd L M = 0) : ¬ (L.length = 0 ∨ M.length = 0) ∧ (AllIn L 0 9972 ∧ AllIn M 0 9972) ∧ ¬ (L.getD (L.length - 1) 0 = 0 ∨ M.getD (M.length - 1) 0 = 0) ∧ (3 ≤ L.length + M.length ∧ L.length + M.length ≤ 7) := by
  by_cases h0 : L.length = 0 ∨ M.length = 0
  · rw [recd_none h0] at h; cases h
  · by_cases h1 : AllIn L 0 9972 ∧ AllIn M 0 9972
    · by_cases h2 : L.getD (L.length - 1) 0 = 0 ∨ M.getD (M.length - 1) 0 = 0
      · rw [recd_shape h0 h1 h2] at h; cases h
      · by_cases h3 : 3 ≤ L.length + M.length ∧ L.length + M.length ≤ 7
        · exact ⟨h0, h1, h2, h3⟩
        · rw [recd_full h0 h1 h2 h3] at h; cases h
    · rw [recd_range h0 h1] at h; cases h
/-- Two rows of which there is a matrix. -/
structure Re (p q : List F) (L M : List Int) : Prop where
  l : L = Pol.vals p
  m : M = Pol.vals q
  tp : Pol.Tr p
  tq : Pol.Tr q
  np : p ≠ []
  nq : q ≠ []
  lo : 3 ≤ p.length + q.length
  hi : p.length + q.length ≤ 7
section
variable {p q : List F} {L M : List Int}
theorem Re.lenL (h : Re p q L M) : L.length = p.length := by rw [h.l, Pol.len_vals]
theorem Re.lenM (h : Re p q L M) : M.length = q.length := by rw [h.m, Pol.len_vals]
theorem Re.p0 (h : Re p q L M) : 0 < p.length := List.length_pos_iff.2 h.np
theorem Re.q0 (h : Re p q L M) : 0 < q.length := List.length_pos_iff.2 h.nq
theorem vals_in (p : List F) : AllIn (Pol.vals p) 0 9972 := fun k _ => by
  rw [Pol.vals_at]
  exact Fp.val_bound _
theorem last_ne {p : List F} (t : Pol.Tr p) (n : p ≠ []) : ¬ (Pol.vals p).getD ((Pol.vals p).length - 1) 0 = 0 := by
  rw [Pol.len_vals, Pol.vals_at]
  intro h
  refine t n (Fin.ext ?_)
  show _ = (0 : F).val
  have : ((0 : F).val) = 0 := rfl
  omega
theorem Re.code (h : Re p q L M) : recd L M = 0 := by
  have h1 := h.p0
  have h2 := h.q0
  have h3 := h.lenL
  have h4 := h.lenM
  have h5 := h.lo
  have h6 := h.hi
  refine recd_ok (by omega) ?_ ?_ (by omega)
  · rw [h.l, h.m]; exact ⟨vals_in p, vals_in q⟩
  · rw [h.l, h.m]; rintro (e | e)
    · exact last_ne h.tp h.np e
    · exact last_ne h.tq h.nq e
theorem Re.turn (h : Re p q L M) : Re q p M L := ⟨h.m, h.l, h.tq, h.tp, h.nq, h.np, by have := h.lo; omega, by have := h.hi; omega⟩
end
theorem vals_of {L : List Int} (h : AllIn L 0 9972) : ∃ p : List F, L = Pol.vals p := by
  obtain ⟨t, ht⟩ := rrow_of h
  exact ⟨(List.range L.length).map t, ht.trans (rowF_vals _ _)⟩
theorem tr_of {p : List F} (h : ¬ (Pol.vals p).getD ((Pol.vals p).length - 1) 0 = 0) : Pol.Tr p := fun _ e => h (by rw [Pol.len_vals, Pol.vals_at, e]; rfl)
theorem re_of {L M : List Int} (h : recd L M = 0) : ∃ p q, Re p q L M := by
  obtain ⟨h0, ⟨h1, h2⟩, h3, h4, h5⟩ := recd_zero h
  obtain ⟨p, rfl⟩ := vals_of h1
  obtain ⟨q, rfl⟩ := vals_of h2
  rw [Pol.len_vals, Pol.len_vals] at h0 h4 h5
  exact ⟨p, q, rfl, rfl, tr_of fun e => h3 (.inl e), tr_of fun e => h3 (.inr e), fun e => h0 (.inl (by rw [e]; rfl)), fun e => h0 (.inr (by rw [e]; rfl)), h4, h5⟩
theorem re_or (L M : List Int) : (∃ p q, Re p q L M) ∨ recd L M ≠ 0 := by
  by_cases h : recd L M = 0
  · exact .inl (re_of h)
  · exact .inr h

end Go.Proofs.Ytnjhdedhobgplaa
