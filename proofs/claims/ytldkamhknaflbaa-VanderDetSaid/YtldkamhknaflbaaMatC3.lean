/- Plain facts: a product has the same factors the other way round (Sylvester); a matrix takes itself to noughts (Cayley, Hamilton), and what undoes it is made of its powers. No program is named here. -/
import Derived.Test.YtldkamhknaflbaaMatC2
namespace Go.Proofs.Ytldkamhknaflbaa.Mx
open Fp
set_option linter.unusedVariables false

/-- Noughts to the right of the first n rows and columns. -/
theorem dt_right : ∀ (n m : Nat) (g : Nat → Nat → F), (∀ i j, i < n → n ≤ j → j < n + m → g i j = 0) → dt (n + m) g = dt n g * dt m (fun i j => g (n + i) (n + j))
  | 0, m, g, _ => by
    have e : (fun i j => g (0 + i) (0 + j)) = g := funext fun i => funext fun j => by rw [Nat.zero_add, Nat.zero_add]
    rw [Nat.zero_add, e]
    show dt m g = 1 * dt m g
    grind
  | n + 1, m, g, h => by
    rw [show n + 1 + m = n + m + 1 by omega, dt_succ, dt_succ, ← sg_by, show n + m + 1 = (n + 1) + m by omega, sg_split]
    have e2 : (sg m fun i => sgn (n + 1 + i) * g 0 (n + 1 + i) * dt (n + m) (del (n + 1 + i) g)) = 0 := by
      rw [sg_congr (g := fun _ => 0) fun i hi => by rw [h 0 (n + 1 + i) (by omega) (by omega) (by omega)]; grind, sg_none]
    rw [e2]
    have e1 : (sg (n + 1) fun j => sgn j * g 0 j * dt (n + m) (del j g)) = sg (n + 1) fun j => sgn j * g 0 j * dt n (del j g) * dt m (fun i k => g (n + 1 + i) (n + 1 + k)) := sg_congr fun j hj => by
      have := dt_right n m (del j g) fun a b ha hb hb2 => by
        show g (a + 1) (sk j b) = 0
        unfold sk; rw [if_neg (by omega)]
        exact h _ _ (by omega) (by omega) (by omega)
      have e : dt m (fun i k => del j g (n + i) (n + k)) = dt m (fun i k => g (n + 1 + i) (n + 1 + k)) := dt_congr m fun i k _ _ => by
        show g (n + i + 1) (sk j (n + k)) = _
        unfold sk; rw [if_neg (by omega)]
        congr 1 <;> omega
      rw [this, e]; grind
    rw [e1]; grind
/-- Noughts below the first n rows and columns. -/
theorem dt_below (n m : Nat) (g : Nat → Nat → F) (h : ∀ i j, n ≤ i → i < n + m → j < n → g i j = 0) : dt (n + m) g = dt n g * dt m (fun i j => g (n + i) (n + j)) := by
  rw [← dt_flip (n + m) g, dt_right n m (flip g) (fun i j hi hj hj2 => h j i hj hj2 hi), dt_flip n g]
  congr 1
  exact dt_flip m fun i j => g (n + i) (n + j)

/-- Four matrices as one. -/
def four (n : Nat) (p q r s : Nat → Nat → F) : Nat → Nat → F := fun i j => if i < n then (if j < n then p i j else q i (j - n)) else (if j < n then r (i - n) j else s (i - n) (j - n))
theorem four_mul (n : Nat) (p q r s p' q' r' s' : Nat → Nat → F) :
    mul (n + n) (four n p q r s) (four n p' q' r' s') = four n (plus (mul n p p') (mul n q r')) (plus (mul n p q') (mul n q s')) (plus (mul n r p') (mul n s r')) (plus (mul n r q') (mul n s s')) := by
  funext i j
  unfold mul
  rw [sg_split]
  unfold four
  by_cases hi : i < n
  · rw [if_pos hi]
    by_cases hj : j < n
    · rw [if_pos hj]
      unfold plus
      congr 1
      · exact sg_congr fun x hx => by rw [if_pos hi, if_pos hx, if_pos hx, if_pos hj]
      · exact sg_congr fun x hx => by rw [if_pos hi, if_neg (by omega), if_neg (by omega), if_pos hj, Nat.add_sub_cancel_left]
    · rw [if_neg hj]
      unfold plus
      congr 1
      · exact sg_congr fun x hx => by rw [if_pos hi, if_pos hx, if_pos hx, if_neg hj]
      · exact sg_congr fun x hx => by rw [if_pos hi, if_neg (by omega), if_neg (by omega), if_neg hj, Nat.add_sub_cancel_left]
  · rw [if_neg hi]
    by_cases hj : j < n
    · rw [if_pos hj]
      unfold plus
      congr 1
      · exact sg_congr fun x hx => by rw [if_neg hi, if_pos hx, if_pos hx, if_pos hj]
      · exact sg_congr fun x hx => by rw [if_neg hi, if_neg (by omega), if_neg (by omega), if_pos hj, Nat.add_sub_cancel_left]
    · rw [if_neg hj]
      unfold plus
      congr 1
      · exact sg_congr fun x hx => by rw [if_neg hi, if_pos hx, if_pos hx, if_neg hj]
      · exact sg_congr fun x hx => by rw [if_neg hi, if_neg (by omega), if_neg (by omega), if_neg hj, Nat.add_sub_cancel_left]
def zer : Nat → Nat → F := fun _ _ => 0
def ngm (f : Nat → Nat → F) : Nat → Nat → F := fun i j => -(f i j)
theorem dt_four_high (n : Nat) (p q s : Nat → Nat → F) {r : Nat → Nat → F} (hr : Eqm n n r zer) : dt (n + n) (four n p q r s) = dt n p * dt n s := by
  rw [dt_below n n _ fun i j h1 h2 h3 => by unfold four; rw [if_neg (by omega), if_pos h3, hr _ _ (by omega) h3]; rfl]
  congr 1
  · exact dt_congr n fun i j hi hj => by unfold four; rw [if_pos hi, if_pos hj]
  · exact dt_congr n fun i j hi hj => by unfold four; rw [if_neg (by omega), if_neg (by omega), Nat.add_sub_cancel_left, Nat.add_sub_cancel_left]
theorem dt_four_low (n : Nat) (p r s : Nat → Nat → F) : dt (n + n) (four n p zer r s) = dt n p * dt n s := by
  rw [dt_right n n _ fun i j h1 h2 h3 => by unfold four; rw [if_pos h1, if_neg (by omega)]; rfl]
  congr 1
  · exact dt_congr n fun i j hi hj => by unfold four; rw [if_pos hi, if_pos hj]
  · exact dt_congr n fun i j hi hj => by unfold four; rw [if_neg (by omega), if_neg (by omega), Nat.add_sub_cancel_left, Nat.add_sub_cancel_left]
theorem mul_scal (n : Nat) (d : F) (f : Nat → Nat → F) {i j : Nat} (hj : j < n) : mul n f (scal d) i j = f i j * d := by
  unfold mul scal
  rw [sg_one hj fun k _ hk => by rw [if_neg hk]; grind, if_pos rfl]
theorem scal_mul (n : Nat) (d : F) (f : Nat → Nat → F) {i j : Nat} (hi : i < n) : mul n (scal d) f i j = d * f i j := by
  unfold mul scal
  rw [sg_one hi fun k _ hk => by rw [if_neg fun e => hk e.symm]; grind, if_pos rfl]
theorem mul_ngm (n : Nat) (f g : Nat → Nat → F) (i j : Nat) : mul n f (ngm g) i j = -(mul n f g i j) := by
  have : mul n f (ngm g) i j = (-1) * mul n f g i j := by
    unfold mul; rw [← sg_times]; exact sg_congr fun k _ => by show f i k * -(g k j) = _; grind
  rw [this]; grind
theorem ngm_mul (n : Nat) (f g : Nat → Nat → F) (i j : Nat) : mul n (ngm f) g i j = -(mul n f g i j) := by
  have : mul n (ngm f) g i j = (-1) * mul n f g i j := by
    unfold mul; rw [← sg_times]; exact sg_congr fun k _ => by show -(f i k) * g k j = _; grind
  rw [this]; grind
theorem pw_ne {x : F} (h : x ≠ 0) : ∀ n, pw x n ≠ 0
  | 0 => by rw [pw_zero]; decide
  | n + 1 => fun e => by
    rw [pw_succ] at e
    rcases mul_zero_or e with e | e
    · exact pw_ne h n e
    · exact h e
theorem scal_one : scal 1 = one := rfl
theorem chm_both (n : Nat) (a b : Nat → Nat → F) (x : F) : dt n (chm (mul n a b) x) = dt n (chm (mul n b a) x) := by
  by_cases h0 : x = 0
  · have e : ∀ f : Nat → Nat → F, dt n (chm f 0) = sgn n * dt n f := fun f => by
      rw [← dt_neg]
      exact dt_congr n fun i j _ _ => by unfold chm; split <;> grind
    rw [h0, e, e, dt_mul, dt_mul]; grind
  · have m1 := dt_mul (n + n) (four n (scal x) a b (scal 1)) (four n (scal 1) zer (ngm b) (scal 1))
    have m2 := dt_mul (n + n) (four n (scal 1) zer (ngm b) (scal x)) (four n (scal x) a b (scal 1))
    rw [four_mul, dt_four_low, dt_four_high n _ _ _ (fun i j hi hj => by
      show mul n b (scal 1) i j + mul n (scal 1) (ngm b) i j = 0
      rw [mul_scal n 1 b hj, scal_mul n 1 (ngm b) hi]; show b i j * 1 + 1 * -(b i j) = 0; grind)] at m1
    rw [four_mul, dt_four_low, dt_four_high n _ _ _ (fun i j hi hj => by
      show mul n (ngm b) (scal x) i j + mul n (scal x) b i j = 0
      rw [mul_scal n x (ngm b) hj, scal_mul n x b hi]; show -(b i j) * x + x * b i j = 0; grind)] at m2
    have d1 : dt n (scal 1) = 1 := by rw [dt_scal, pw_one_base]
    have p1 : dt n (plus (mul n (scal x) (scal 1)) (mul n a (ngm b))) = dt n (chm (mul n a b) x) := dt_congr n fun i j hi hj => by
      show mul n (scal x) (scal 1) i j + mul n a (ngm b) i j = _
      rw [mul_scal n 1 _ hj, mul_ngm]
      unfold chm scal; split <;> grind
    have s1 : dt n (plus (mul n b zer) (mul n (scal 1) (scal 1))) = 1 := by
      refine Eq.trans ?_ d1
      exact dt_congr n fun i j hi hj => by
        show mul n b zer i j + mul n (scal 1) (scal 1) i j = _
        have e : mul n b zer i j = 0 := by
          unfold mul
          rw [sg_congr (g := fun _ => 0) fun k _ => by show b i k * 0 = 0; grind, sg_none]
        rw [e, mul_scal n 1 _ hj]; grind
    have p2 : dt n (plus (mul n (scal 1) (scal x)) (mul n zer b)) = dt n (scal x) := dt_congr n fun i j hi hj => by
      show mul n (scal 1) (scal x) i j + mul n zer b i j = _
      have e : mul n zer b i j = 0 := by
        unfold mul
        rw [sg_congr (g := fun _ => 0) fun k _ => by show 0 * b k j = 0; grind, sg_none]
      rw [e, scal_mul n 1 _ hi]; grind
    have s2 : dt n (plus (mul n (ngm b) a) (mul n (scal x) (scal 1))) = dt n (chm (mul n b a) x) := dt_congr n fun i j hi hj => by
      show mul n (ngm b) a i j + mul n (scal x) (scal 1) i j = _
      rw [mul_scal n 1 _ hj, ngm_mul]
      unfold chm scal; split <;> grind
    rw [p1, s1, d1] at m1
    rw [p2, s2, d1] at m2
    have hne := pw_ne h0 n
    rw [dt_scal] at m2
    have : pw x n * (dt n (chm (mul n a b) x) - dt n (chm (mul n b a) x)) = 0 := by grind
    rcases mul_zero_or this with e | e
    · exact absurd e hne
    · grind
/-- A product has the same factors the other way round. -/
theorem ch_both {n : Nat} (hn : n < 9973) (a b : Nat → Nat → F) : ∀ k, k ≤ n → ch n (mul n a b) k = ch n (mul n b a) k := ch_one hn fun x => chm_both n a b x

/-- The sum of factors times powers. -/
def csum (n : Nat) (c : Nat → F) (f : Nat → Nat → F) (m : Nat) : Nat → Nat → F := fun i j => sg (m + 1) fun k => c k * pwm n f k i j
theorem csum_succ (n : Nat) (c : Nat → F) (f : Nat → Nat → F) (m i j : Nat) : csum n c f (m + 1) i j = csum n c f m i j + c (m + 1) * pwm n f (m + 1) i j := sg_succ _ _
/-- What is beside the rows and columns of x times the one less a matrix, in powers of x. -/
theorem adj_pol (p : Nat) (f : Nat → Nat → F) (i j : Nat) : IsP p fun x => adj p (chm f x) i j := by
  obtain ⟨c, hc⟩ := (IsP.dt p (fun a b => -(f (sk j a) (sk i b))) (fun a b => if sk j a = sk i b then 1 else 0)).times (sgn (i + j))
  refine ⟨c, fun x => ?_⟩
  rw [← hc]
  show sgn (i + j) * dt p (wo (chm f x) j i) = _
  congr 1
  refine dt_congr p fun a b _ _ => ?_
  show (if sk j a = sk i b then x else 0) - f (sk j a) (sk i b) = _
  split <;> grind
/-- A matrix takes itself to noughts. -/
theorem cayley (p : Nat) (hp : p + 1 < 9973) (f : Nat → Nat → F) : Eqm (p + 1) (p + 1) (csum (p + 1) (ch (p + 1) f) f (p + 1)) zer := by
  obtain ⟨B, hB⟩ : ∃ B : Nat → Nat → Nat → F, ∀ i j x, adj p (chm f x) i j = vx p (B i j) x :=
    ⟨fun i j => Classical.choose (adj_pol p f i j), fun i j => Classical.choose_spec (adj_pol p f i j)⟩
  -- what stands with x to the power k on both sides
  have HC : ∀ i j, i < p + 1 → j < p + 1 → ∀ k, k ≤ p + 1 → (if k = 0 then 0 else B i j (k - 1)) + (-1) * (if k ≤ p then sg (p + 1) (fun t => f i t * B t j k) else 0) = if i = j then ch (p + 1) f k else 0 := by
    intro i j hi hj
    refine vx_eq hp fun x => ?_
    have h := adj_right p (chm f x) i j hi hj
    have hl : mul (p + 1) (chm f x) (adj p (chm f x)) i j = x * vx p (B i j) x + (-1) * vx p (fun k => sg (p + 1) fun t => f i t * B t j k) x := by
      have e1 : mul (p + 1) (chm f x) (adj p (chm f x)) i j = (sg (p + 1) fun t => (if i = t then x else 0) * vx p (B t j) x) + (-1) * sg (p + 1) fun t => f i t * vx p (B t j) x := by
        unfold mul
        rw [← sg_times, ← sg_add]
        exact sg_congr fun t _ => by rw [hB]; unfold chm; grind
      have e2 : (sg (p + 1) fun t => (if i = t then x else 0) * vx p (B t j) x) = x * vx p (B i j) x := by
        rw [sg_one hi fun t _ ht => by rw [if_neg fun e => ht e.symm]; grind, if_pos rfl]
      have e3 : (sg (p + 1) fun t => f i t * vx p (B t j) x) = vx p (fun k => sg (p + 1) fun t => f i t * B t j k) x := by
        unfold vx
        rw [sg_congr (g := fun t => sg (p + 1) fun k => f i t * B t j k * pw x k) fun t _ => by rw [← sg_times]; exact sg_congr fun k _ => by grind, sg_swap]
        exact sg_congr fun k _ => by rw [sg_by]
      rw [e1, e2, e3]
    rw [hl, vx_shift, ← vx_up (Nat.le_succ p) (fun k => sg (p + 1) fun t => f i t * B t j k), vx_times, vx_add] at h
    rw [h]
    unfold scal
    by_cases e : i = j
    · rw [if_pos e, ch_is]
      exact vx_congr (fun k _ => by rw [if_pos e]) x
    · rw [if_neg e]
      rw [vx_congr (e := fun _ => 0) (fun k _ => by rw [if_neg e]) x]
      unfold vx
      rw [sg_congr (g := fun _ => 0) fun k _ => by grind, sg_none]
  let Bm : Nat → Nat → Nat → F := fun k i j => B i j k
  have S : ∀ m, m ≤ p → Eqm (p + 1) (p + 1) (csum (p + 1) (ch (p + 1) f) f m) (ngm (mul (p + 1) (pwm (p + 1) f (m + 1)) (Bm m))) := by
    intro m
    induction m with
    | zero =>
      intro _ i j hi hj
      have h := HC i j hi hj 0 (by omega)
      rw [if_pos rfl, if_pos (Nat.zero_le p)] at h
      have e := Eqm.mul (pwm_one (p + 1) f) (Eqm.rfl' (p + 1) (p + 1) (Bm 0)) i j hi hj
      show csum (p + 1) _ f 0 i j = -(mul (p + 1) (pwm (p + 1) f (0 + 1)) (Bm 0) i j)
      rw [e]
      show (sg (0 + 1) fun k => ch (p + 1) f k * pwm (p + 1) f k i j) = -(sg (p + 1) fun t => f i t * B t j 0)
      rw [sg_succ, sg_zero]
      show 0 + ch (p + 1) f 0 * (if i = j then 1 else 0) = _
      by_cases e2 : i = j
      · rw [if_pos e2] at h ⊢; grind
      · rw [if_neg e2] at h ⊢; grind
    | succ m ih =>
      intro hm i j hi hj
      have h0 := ih (by omega) i j hi hj
      rw [csum_succ, h0]
      -- B of m is the factor's one and what the matrix does to the next B
      have e1 : mul (p + 1) (pwm (p + 1) f (m + 1)) (Bm m) i j = mul (p + 1) (pwm (p + 1) f (m + 1)) (plus (scal (ch (p + 1) f (m + 1))) (mul (p + 1) f (Bm (m + 1)))) i j :=
        Eqm.mul (Eqm.rfl' (p + 1) (p + 1) _) (fun a b ha hb => by
          have h := HC a b ha hb (m + 1) (by omega)
          rw [if_neg (by omega), if_pos (by omega), show m + 1 - 1 = m from rfl] at h
          show B a b m = (if a = b then ch (p + 1) f (m + 1) else 0) + sg (p + 1) fun t => f a t * B t b (m + 1)
          rw [← h]; grind) i j hi hj
      have e2 : mul (p + 1) (pwm (p + 1) f (m + 1)) (mul (p + 1) f (Bm (m + 1))) i j = mul (p + 1) (pwm (p + 1) f (m + 1 + 1)) (Bm (m + 1)) i j := by
        rw [← mul_assoc]
        exact Eqm.mul (pwm_snoc (p + 1) f (m + 1)) (Eqm.rfl' (p + 1) (p + 1) _) i j hi hj
      show -(mul (p + 1) (pwm (p + 1) f (m + 1)) (Bm m) i j) + _ = -(mul (p + 1) (pwm (p + 1) f (m + 1 + 1)) (Bm (m + 1)) i j)
      rw [e1, mul_plus, ← e2]
      show -(mul (p + 1) (pwm (p + 1) f (m + 1)) (scal (ch (p + 1) f (m + 1))) i j + mul (p + 1) (pwm (p + 1) f (m + 1)) (mul (p + 1) f (Bm (m + 1))) i j) + _ = _
      rw [mul_scal (p + 1) _ _ hj]; grind
  intro i j hi hj
  have h := S p (Nat.le_refl p) i j hi hj
  rw [csum_succ, h]
  have e1 : mul (p + 1) (pwm (p + 1) f (p + 1)) (Bm p) i j = mul (p + 1) (pwm (p + 1) f (p + 1)) (scal (ch (p + 1) f (p + 1))) i j :=
    Eqm.mul (Eqm.rfl' (p + 1) (p + 1) _) (fun a b ha hb => by
      have h := HC a b ha hb (p + 1) (Nat.le_refl _)
      rw [if_neg (by omega), if_neg (by omega), show p + 1 - 1 = p from rfl] at h
      show B a b p = if a = b then ch (p + 1) f (p + 1) else 0
      rw [← h]; grind) i j hi hj
  show -(mul (p + 1) (pwm (p + 1) f (p + 1)) (Bm p) i j) + _ = 0
  rw [e1, mul_scal (p + 1) _ _ hj]; grind

theorem mul_sum (n m : Nat) (t : Nat → Nat → F) (c : Nat → F) (g : Nat → Nat → Nat → F) (i j : Nat) : mul n t (fun a b => sg m fun q => c q * g q a b) i j = sg m fun q => c q * mul n t (g q) i j := by
  unfold mul
  rw [sg_congr (g := fun k => sg m fun q => c q * (t i k * g q k j)) fun k _ => by rw [← sg_times]; exact sg_congr fun q _ => by grind, sg_swap]
  exact sg_congr fun q _ => by rw [sg_times]
/-- What undoes a matrix is made of its powers. -/
theorem undo_pol (p : Nat) (hp : p + 1 < 9973) {f t : Nat → Nat → F} (ht : Eqm (p + 1) (p + 1) (mul (p + 1) t f) one) {k : F} (hk : k * ch (p + 1) f 0 = -1) :
    Eqm (p + 1) (p + 1) t fun i j => sg (p + 1) fun q => ch (p + 1) f (q + 1) * k * pwm (p + 1) f q i j := fun i j hi hj => by
  have h := (Eqm.rfl' (p + 1) (p + 1) t).mul (cayley p hp f) i j hi hj
  have hz : mul (p + 1) t zer i j = 0 := by
    unfold mul
    rw [sg_congr (g := fun _ => 0) fun a _ => by show t i a * 0 = 0; grind, sg_none]
  rw [hz] at h
  have h1 : mul (p + 1) t (csum (p + 1) (ch (p + 1) f) f (p + 1)) i j = sg (p + 1 + 1) fun q => ch (p + 1) f q * mul (p + 1) t (pwm (p + 1) f q) i j := mul_sum _ _ _ _ _ _ _
  rw [h1, sg_first] at h
  have h2 : mul (p + 1) t (pwm (p + 1) f 0) i j = t i j := mul_one (p + 1) (p + 1) t i j hi hj
  have h3 : (sg (p + 1) fun q => ch (p + 1) f (q + 1) * mul (p + 1) t (pwm (p + 1) f (q + 1)) i j) = sg (p + 1) fun q => ch (p + 1) f (q + 1) * pwm (p + 1) f q i j := sg_congr fun q _ => by
    have e : mul (p + 1) t (pwm (p + 1) f (q + 1)) i j = pwm (p + 1) f q i j := by
      show mul (p + 1) t (mul (p + 1) f (pwm (p + 1) f q)) i j = _
      rw [← mul_assoc, Eqm.mul ht (Eqm.rfl' (p + 1) (p + 1) (pwm (p + 1) f q)) i j hi hj, one_mul (p + 1) (p + 1) _ i j hi hj]
    rw [e]
  rw [h2, h3] at h
  have h4 : (sg (p + 1) fun q => ch (p + 1) f (q + 1) * k * pwm (p + 1) f q i j) = k * sg (p + 1) fun q => ch (p + 1) f (q + 1) * pwm (p + 1) f q i j := by
    rw [← sg_times]; exact sg_congr fun q _ => by grind
  dsimp only
  rw [h4]
  grind

end Go.Proofs.Ytldkamhknaflbaa.Mx
