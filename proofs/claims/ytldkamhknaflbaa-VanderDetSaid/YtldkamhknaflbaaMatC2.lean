/- Plain facts on what takes a matrix to noughts: its factors are sums of determinants of some rows and the same columns (with signs), and its values the determinants of x times the one less the matrix. No program is named here. -/
import Derived.Test.YtldkamhknaflbaaMatC
namespace Go.Proofs.Ytldkamhknaflbaa.Mx
open Fp
set_option linter.unusedVariables false

theorem dt_neg : ∀ (n : Nat) (f : Nat → Nat → F), dt n (fun i j => -(f i j)) = sgn n * dt n f
  | 0, f => by show (1 : F) = sgn 0 * 1; rw [show sgn 0 = 1 from rfl]; grind
  | n + 1, f => by
    rw [dt_succ, dt_succ, ← sg_times]
    refine sg_congr fun j _ => ?_
    have h := dt_neg n (del j f)
    have e : del j (fun i j => -(f i j)) = fun a b => -(del j f a b) := rfl
    rw [e, h, sgn_succ]; grind
/-- Rows and columns of these numbers. -/
def sub (f : Nat → Nat → F) (h : List Nat) : Nat → Nat → F := fun i j => f (h.getD i 0) (h.getD j 0)
/-- The sum of the determinants of k rows and the same columns: those of h, and some of t behind them. -/
def prin (f : Nat → Nat → F) : List Nat → List Nat → Nat → F
  | h, [], k => if h.length = k then dt k (sub f h) else 0
  | h, r :: t, k => if h.length = k then dt k (sub f h) else prin f (h ++ [r]) t k + prin f h t k
theorem prin_is (f : Nat → Nat → F) (h t : List Nat) : prin f h t h.length = dt h.length (sub f h) := by
  cases t with
  | nil => unfold prin; rw [if_pos rfl]
  | cons r t => unfold prin; rw [if_pos rfl]
theorem prin_cons (f : Nat → Nat → F) (h : List Nat) (r : Nat) (t : List Nat) {k : Nat} (hk : h.length ≠ k) : prin f h (r :: t) k = prin f (h ++ [r]) t k + prin f h t k := by
  rw [prin, if_neg hk]
theorem prin_over (f : Nat → Nat → F) : ∀ (t h : List Nat) (k : Nat), k < h.length → prin f h t k = 0
  | [], h, k, hk => by unfold prin; rw [if_neg (by omega)]
  | r :: t, h, k, hk => by
    rw [prin_cons f h r t (by omega), prin_over f t (h ++ [r]) k (by simp; omega), prin_over f t h k hk]; grind
theorem prin_far (f : Nat → Nat → F) : ∀ (t h : List Nat) (k : Nat), h.length + t.length < k → prin f h t k = 0
  | [], h, k, hk => by unfold prin; rw [if_neg (by simp at hk; omega)]
  | r :: t, h, k, hk => by
    simp only [List.length_cons] at hk
    rw [prin_cons f h r t (by omega), prin_far f t (h ++ [r]) k (by simp; omega), prin_far f t h k (by omega)]; grind
theorem prin_all (f : Nat → Nat → F) : ∀ (t h : List Nat), prin f h t (h.length + t.length) = dt (h.length + t.length) (sub f (h ++ t))
  | [], h => by rw [List.append_nil]; exact prin_is f h []
  | r :: t, h => by
    simp only [List.length_cons]
    have := prin_all f t (h ++ [r])
    simp only [List.length_append, List.length_cons, List.length_nil, List.append_assoc, List.singleton_append] at this
    rw [prin_cons f h r t (by omega), prin_far f t h _ (by omega), show h.length + (t.length + 1) = h.length + (0 + 1) + t.length by omega, this]; grind
theorem prin_one (f : Nat → Nat → F) : ∀ t : List Nat, prin f [] t 1 = (t.map fun r => f r r).foldr (· + ·) 0
  | [] => by unfold prin; rw [if_neg (by simp)]; rfl
  | r :: t => by
    rw [prin_cons f [] r t (by simp), prin_one f t]
    have := prin_is f [r] t
    simp only [List.length_cons, List.length_nil] at this
    rw [List.nil_append, this]
    have e : dt (0 + 1) (sub f [r]) = f r r := by
      rw [dt_succ, sg_succ, sg_zero]
      show 0 + sgn 0 * f r r * 1 = f r r
      rw [show sgn 0 = 1 from rfl]; grind
    rw [e]; rfl

/-- x in the middle behind the first rows, less the rows and columns of these numbers. -/
def chT (f : Nat → Nat → F) (x : F) (h t : List Nat) : Nat → Nat → F := fun a b => (if a = b ∧ h.length ≤ a then x else 0) - sub f (h ++ t) a b
/-- Its factors. -/
def chC (f : Nat → Nat → F) (h t : List Nat) (j : Nat) : F := sgn (h.length + t.length - j) * prin f h t (h.length + t.length - j)
theorem getD_skip (h : List Nat) (r : Nat) (t : List Nat) (a : Nat) : (h ++ r :: t).getD (sk h.length a) 0 = (h ++ t).getD a 0 := by
  unfold sk
  by_cases e : a < h.length
  · rw [if_pos e, List.getD_eq_getElem?_getD, List.getD_eq_getElem?_getD, List.getElem?_append_left e, List.getElem?_append_left e]
  · rw [if_neg e, List.getD_eq_getElem?_getD, List.getD_eq_getElem?_getD, List.getElem?_append_right (by omega), List.getElem?_append_right (by omega), show a + 1 - h.length = (a - h.length) + 1 by omega]; rfl
theorem chT_dt (f : Nat → Nat → F) (x : F) : ∀ (t h : List Nat), dt (h.length + t.length) (chT f x h t) = vx t.length (chC f h t) x
  | [], h => by
    show dt (h.length + 0) _ = vx 0 _ x
    rw [vx_zero, Nat.add_zero]
    have e : dt h.length (chT f x h []) = dt h.length (fun i j => -(sub f h i j)) := dt_congr _ fun a b ha hb => by
      unfold chT; rw [if_neg (by omega), List.append_nil]; grind
    rw [e, dt_neg]
    unfold chC
    show _ = sgn (h.length + 0 - 0) * prin f h [] (h.length + 0 - 0)
    rw [show h.length + 0 - 0 = h.length by omega, prin_is]
  | r :: t, h => by
    have h1 := chT_dt f x t h
    have h2 := chT_dt f x t (h ++ [r])
    have hl : (r :: t).length = t.length + 1 := rfl
    have hl2 : (h ++ [r]).length = h.length + 1 := by simp
    rw [hl2] at h2
    rw [hl]
    -- row h.length is x in its place, less a row
    have e0 : chT f x h (r :: t) = setr h.length (fun b => x * (if b = h.length then 1 else 0) + (-(sub f (h ++ r :: t) h.length b))) (chT f x h (r :: t)) := by
      funext a b
      unfold setr
      by_cases e : a = h.length
      · rw [if_pos e]
        unfold chT
        dsimp only
        by_cases e2 : b = h.length
        · rw [if_pos ⟨by omega, by omega⟩, if_pos e2, e]; grind
        · rw [if_neg (by omega), if_neg e2, e]; grind
      · rw [if_neg e]
    have hp : h.length < h.length + (t.length + 1) := by omega
    have s1 := dt_rlin (h.length + (t.length + 1)) h.length hp x 1 (fun b => if b = h.length then 1 else 0) (fun b => -(sub f (h ++ r :: t) h.length b)) (chT f x h (r :: t))
    have e1 : dt (h.length + (t.length + 1)) (setr h.length (fun b => if b = h.length then 1 else 0) (chT f x h (r :: t))) = vx t.length (chC f h t) x := by
      rw [← h1, show h.length + (t.length + 1) = (h.length + t.length) + 1 by omega, ← laplace_row (h.length + t.length) h.length _ _ (by omega),
        sg_one (k := h.length) (by omega) fun j _ hj => by rw [if_neg hj]; grind]
      rw [if_pos rfl, show sgn (h.length + h.length) = 1 by rw [sgn_add, sgn_two]]
      have : dt (h.length + t.length) (wo (chT f x h (r :: t)) h.length h.length) = dt (h.length + t.length) (chT f x h t) := dt_congr _ fun a b _ _ => by
        show chT f x h (r :: t) (sk h.length a) (sk h.length b) = _
        unfold chT sub
        rw [getD_skip, getD_skip]
        congr 1
        by_cases e : a = b ∧ h.length ≤ a
        · rw [if_pos e, if_pos ⟨by rw [e.1], by unfold sk; rw [if_neg (by omega)]; omega⟩]
        · rw [if_neg e, if_neg fun e3 => e ⟨sk_inj e3.1, by
            have := e3.2
            unfold sk at this
            split at this <;> omega⟩]
      rw [this]; grind
    have e2 : dt (h.length + (t.length + 1)) (setr h.length (fun b => -(sub f (h ++ r :: t) h.length b)) (chT f x h (r :: t))) = vx t.length (chC f (h ++ [r]) t) x := by
      rw [← h2, show h.length + (t.length + 1) = h.length + 1 + t.length by omega]
      refine dt_congr _ fun a b _ _ => ?_
      unfold setr chT
      rw [hl2, show h ++ [r] ++ t = h ++ r :: t by simp]
      by_cases e : a = h.length
      · rw [if_pos e, if_neg (by omega), e]; grind
      · rw [if_neg e]
        by_cases e4 : a = b ∧ h.length ≤ a
        · rw [if_pos e4, if_pos (by omega)]
        · rw [if_neg e4, if_neg (by omega)]
    have e3 : (fun b => x * (if b = h.length then 1 else 0) + 1 * (-(sub f (h ++ r :: t) h.length b))) = fun b => x * (if b = h.length then 1 else 0) + (-(sub f (h ++ r :: t) h.length b)) := by
      funext b; grind
    rw [e3, ← e0, e1, e2] at s1
    rw [s1, vx_shift, show (1 : F) * vx t.length (chC f (h ++ [r]) t) x = vx t.length (chC f (h ++ [r]) t) x by grind, ← vx_up (Nat.le_succ t.length) (chC f (h ++ [r]) t), vx_add]
    refine vx_congr (fun j hj => ?_) x
    unfold chC
    rw [hl, hl2]
    have hN : h.length + (t.length + 1) - j = h.length + 1 + t.length - j := by omega
    rw [hN]
    by_cases j0 : j = 0
    · subst j0
      rw [if_pos rfl, if_pos (Nat.zero_le _), prin_cons f h r t (by omega), prin_far f t h _ (by omega)]; grind
    · rw [if_neg j0, show h.length + t.length - (j - 1) = h.length + 1 + t.length - j by omega]
      by_cases j1 : j ≤ t.length
      · rw [if_pos j1, prin_cons f h r t (by omega)]; grind
      · rw [if_neg j1, show h.length + 1 + t.length - j = h.length by omega, prin_is, prin_is]; grind

/-- x times the one, less a matrix. -/
def chm (f : Nat → Nat → F) (x : F) : Nat → Nat → F := fun i j => (if i = j then x else 0) - f i j
/-- The factors of what takes a matrix to noughts. -/
def ch (n : Nat) (f : Nat → Nat → F) : Nat → F := chC f [] (List.range n)
theorem range_getD {n i : Nat} (h : i < n) : (List.range n).getD i 0 = i := by simp [h]
theorem ch_is (n : Nat) (f : Nat → Nat → F) (x : F) : dt n (chm f x) = vx n (ch n f) x := by
  have h := chT_dt f x (List.range n) []
  simp only [List.length_nil, List.length_range, Nat.zero_add] at h
  rw [ch, ← h]
  refine dt_congr n fun a b ha hb => ?_
  unfold chm chT sub
  rw [List.nil_append, range_getD ha, range_getD hb]
  congr 1
  by_cases e : a = b
  · rw [if_pos e, if_pos ⟨e, Nat.zero_le _⟩]
  · rw [if_neg e, if_neg fun h => e h.1]
theorem ch_one {n : Nat} (hn : n < 9973) {f g : Nat → Nat → F} (h : ∀ x, dt n (chm f x) = dt n (chm g x)) : ∀ k, k ≤ n → ch n f k = ch n g k :=
  vx_eq hn fun x => by rw [← ch_is, ← ch_is, h]
theorem ch_congr {n : Nat} (hn : n < 9973) {f g : Nat → Nat → F} (h : Eqm n n f g) : ∀ k, k ≤ n → ch n f k = ch n g k :=
  ch_one hn fun x => dt_congr n fun i j hi hj => by unfold chm; rw [h i j hi hj]
theorem ch_top (n : Nat) (f : Nat → Nat → F) : ch n f n = 1 := by
  unfold ch chC
  rw [List.length_range, show ([] : List Nat).length + n - n = 0 by simp, show sgn 0 = 1 from rfl]
  have := prin_is f [] (List.range n)
  rw [List.length_nil] at this
  rw [this]
  show (1 : F) * 1 = 1
  grind
theorem ch_low (n : Nat) (f : Nat → Nat → F) : ch n f 0 = sgn n * dt n f := by
  have h := ch_is n f 0
  rw [vx_at_zero] at h
  rw [← h, ← dt_neg]
  refine dt_congr n fun i j _ _ => ?_
  unfold chm
  by_cases e : i = j
  · rw [if_pos e]; grind
  · rw [if_neg e]; grind
theorem foldr_sg (g : Nat → F) : ∀ n, ((List.range n).map g).foldr (· + ·) 0 = sg n g
  | 0 => rfl
  | n + 1 => by
    have aux : ∀ (l : List F) (a : F), (l ++ [a]).foldr (· + ·) 0 = l.foldr (· + ·) 0 + a := fun l a => by
      induction l with
      | nil => show a + 0 = 0 + a; grind
      | cons b l ih => rw [List.cons_append, List.foldr_cons, ih, List.foldr_cons]; grind
    rw [List.range_succ, List.map_append, List.map_cons, List.map_nil, aux, foldr_sg g n, sg_succ]
theorem ch_mid (p : Nat) (f : Nat → Nat → F) : ch (p + 1) f p = -(sg (p + 1) fun i => f i i) := by
  unfold ch chC
  rw [List.length_range, show ([] : List Nat).length + (p + 1) - p = 1 by simp, show sgn 1 = -1 from rfl, prin_one, foldr_sg]; grind
theorem ch_flip {n : Nat} (hn : n < 9973) (f : Nat → Nat → F) : ∀ k, k ≤ n → ch n (flip f) k = ch n f k := ch_one hn fun x => by
  rw [← dt_flip n (chm f x)]
  refine dt_congr n fun i j _ _ => ?_
  show (if i = j then x else 0) - f j i = (if j = i then x else 0) - f j i
  by_cases e : i = j
  · rw [if_pos e, if_pos e.symm]
  · rw [if_neg e, if_neg fun h => e h.symm]

end Go.Proofs.Ytldkamhknaflbaa.Mx
