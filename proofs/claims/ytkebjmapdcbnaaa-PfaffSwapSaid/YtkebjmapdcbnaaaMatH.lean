/- Determinants of whole numbers: what is left by the prime, how great they may be, elimination without division, a middle that outweighs its row (Levy, Desplanques), Hadamard. No program is named here. -/
import Derived.Test.YtkebjmapdcbnaaaMatZ
namespace Go.Proofs.Ytkebjmapdcbnaaa.Zx
open Mx (sk sk_lt sk_zero)
set_option linter.unusedVariables false

theorem sg_ofInt (n : Nat) (f : Nat → Int) : Fp.ofInt (sg n f) = Mx.sg n fun i => Fp.ofInt (f i) := by
  induction n with
  | zero => rfl
  | succ n ih => rw [sg_succ, Fp.ofInt_add, ih]; rfl
theorem sgn_ofInt (j : Nat) : Fp.ofInt (sgn j) = Mx.sgn j := by
  unfold sgn Mx.sgn
  split <;> decide
/-- What the prime leaves of a determinant is that of what it leaves. -/
theorem dt_ofInt : ∀ (n : Nat) (f : Nat → Nat → Int), Fp.ofInt (dt n f) = Mx.dt n fun i j => Fp.ofInt (f i j)
  | 0, _ => rfl
  | n + 1, f => by
    rw [dt_succ, sg_ofInt, Mx.dt_succ]
    exact Mx.sg_congr fun j _ => by rw [Fp.ofInt_mul, Fp.ofInt_mul, sgn_ofInt, dt_ofInt n]; rfl

/-- Sizes. -/
def ab (x : Int) : Int := (x.natAbs : Int)
theorem ab_pos (x : Int) : 0 ≤ ab x := by unfold ab; omega
theorem ab_mul (x y : Int) : ab (x * y) = ab x * ab y := by unfold ab; rw [Int.natAbs_mul]; simp
theorem ab_sub (x y : Int) : ab (x - y) ≤ ab x + ab y := by unfold ab; omega
theorem ab_sub' (x y : Int) : ab x - ab y ≤ ab (x - y) := by unfold ab; omega
theorem ab_zero {x : Int} (h : ab x = 0) : x = 0 := by unfold ab at h; omega
theorem sg_le {n : Nat} {f g : Nat → Int} (h : ∀ i, i < n → f i ≤ g i) : sg n f ≤ sg n g := by
  induction n with
  | zero => exact Int.le_refl _
  | succ n ih => rw [sg_succ, sg_succ]; have := ih fun i hi => h i (by omega); have := h n (by omega); omega
theorem sg_nonneg {n : Nat} {f : Nat → Int} (h : ∀ i, i < n → 0 ≤ f i) : 0 ≤ sg n f := by
  induction n with
  | zero => exact Int.le_refl _
  | succ n ih => rw [sg_succ]; have := ih fun i hi => h i (by omega); have := h n (by omega); omega
theorem sg_shift (n : Nat) (f : Nat → Int) : sg (n + 1) f = f 0 + sg n fun i => f (i + 1) := by
  induction n with
  | zero => show 0 + f 0 = f 0 + 0; omega
  | succ n ih => rw [sg_succ, ih, sg_succ]; omega
/-- One term more. -/
theorem sg_extra {n k : Nat} (hk : k < n) (f : Nat → Int) (x : Int) : (sg n fun i => f i + if i = k then x else 0) = sg n f + x := by
  rw [sg_add, sg_one (k := k) hk fun i _ h => if_neg h, if_pos rfl]
def fb (M : Int) : Nat → Int
  | 0 => 1
  | n + 1 => (n + 1 : Nat) * (M * fb M n)
theorem fb_pos {M : Int} (h : 0 ≤ M) : ∀ n, 0 ≤ fb M n
  | 0 => by show (0 : Int) ≤ 1; omega
  | n + 1 => Int.mul_nonneg (by omega) (Int.mul_nonneg h (fb_pos h n))
theorem sg_ab {n : Nat} {f : Nat → Int} {B : Int} (h : ∀ i, i < n → ab (f i) ≤ B) : ab (sg n f) ≤ (n : Int) * B := by
  induction n with
  | zero => show ab 0 ≤ _; rw [show ((0 : Nat) : Int) * B = 0 by simp]; decide
  | succ n ih =>
    have h1 := ih fun i hi => h i (by omega)
    have h2 := h n (by omega)
    have h3 : ((n + 1 : Nat) : Int) * B = n * B + B := by rw [Int.natCast_add, Int.add_mul]; simp
    rw [sg_succ, h3]
    unfold ab at *
    omega
theorem sgn_ab (j : Nat) : ab (sgn j) = 1 := by unfold sgn; split <;> decide
/-- How great a determinant may be. -/
theorem dt_ab {M : Int} (hM : 0 ≤ M) : ∀ (n : Nat) (f : Nat → Nat → Int), (∀ i j, i < n → j < n → ab (f i j) ≤ M) → ab (dt n f) ≤ fb M n
  | 0, _, _ => by show ab 1 ≤ 1; decide
  | n + 1, f, h => by
    rw [dt_succ]
    refine sg_ab fun j hj => ?_
    have h1 := dt_ab hM n (del j f) fun a b ha hb => h (a + 1) (sk j b) (by omega) (sk_lt hb)
    rw [ab_mul, ab_mul, sgn_ab, Int.one_mul]
    exact Int.mul_le_mul (h 0 j (by omega) hj) h1 (ab_pos _) hM

/-- The first row, or the first column, has noughts behind its first number. -/
theorem dt_first (n : Nat) (f : Nat → Nat → Int) (h : ∀ j, 0 < j → j < n + 1 → f 0 j = 0) : dt (n + 1) f = f 0 0 * dt n fun i j => f (i + 1) (j + 1) := by
  rw [dt_succ, sg_one (Nat.succ_pos n) fun i hi hne => by rw [h i (by omega) hi]; grind]
  have e : del 0 f = fun i j => f (i + 1) (j + 1) := funext fun a => funext fun b => by show f (a + 1) (sk 0 b) = _; rw [sk_zero]
  rw [e]
  show (if 0 % 2 = 0 then (1 : Int) else -1) * f 0 0 * _ = _
  rw [if_pos rfl, Int.one_mul]
theorem dt_firstc (n : Nat) (f : Nat → Nat → Int) (h : ∀ i, 0 < i → i < n + 1 → f i 0 = 0) : dt (n + 1) f = f 0 0 * dt n fun i j => f (i + 1) (j + 1) := by
  rw [← dt_flip (n + 1) f, dt_first n (flip f) h, ← dt_flip n fun i j => f (i + 1) (j + 1)]
  rfl
/-- What is left when the first column is taken away, without division. -/
def schur (f : Nat → Nat → Int) : Nat → Nat → Int := fun i j => f 0 0 * f (i + 1) (j + 1) - f (i + 1) 0 * f 0 (j + 1)
def lowm (f : Nat → Nat → Int) : Nat → Nat → Int := fun i j => if i = 0 then (if j = 0 then 1 else 0) else if j = 0 then -(f i 0) else if i = j then f 0 0 else 0
theorem lowm_mul (n : Nat) (f : Nat → Nat → Int) {i : Nat} (hi : i < n) (j : Nat) : mul (n + 1) (lowm f) f (i + 1) j = f 0 0 * f (i + 1) j - f (i + 1) 0 * f 0 j := by
  show (sg (n + 1) fun x => (if i + 1 = 0 then (if x = 0 then (1 : Int) else 0) else if x = 0 then -(f (i + 1) 0) else if i + 1 = x then f 0 0 else 0) * f x j) = _
  rw [sg_two (k := 0) (l := i + 1) (by omega) (by omega) (by omega) fun x hx h1 h2 => by
    rw [if_neg (by omega), if_neg h1, if_neg (fun e => h2 e.symm)]; grind]
  rw [if_neg (by omega), if_pos rfl, if_neg (by omega), if_pos rfl]
  grind
theorem lowm_top (n : Nat) (f : Nat → Nat → Int) (j : Nat) : mul (n + 1) (lowm f) f 0 j = f 0 j := by
  show (sg (n + 1) fun x => (if 0 = 0 then (if x = 0 then (1 : Int) else 0) else if x = 0 then -(f 0 0) else if 0 = x then f 0 0 else 0) * f x j) = _
  rw [sg_one (k := 0) (by omega) fun x hx h1 => by rw [if_pos rfl, if_neg h1]; grind]
  rw [if_pos rfl, if_pos rfl]; grind
theorem elim (n : Nat) (f : Nat → Nat → Int) : f 0 0 ^ n * dt (n + 1) f = f 0 0 * dt n (schur f) := by
  have h1 : dt (n + 1) (lowm f) = f 0 0 ^ n := by
    rw [dt_first n (lowm f) fun j h _ => by show (if 0 = 0 then (if j = 0 then (1 : Int) else 0) else _) = 0; rw [if_pos rfl, if_neg (by omega)]]
    have e : (fun i j => lowm f (i + 1) (j + 1)) = scal (f 0 0) := funext fun i => funext fun j => by
      show (if i + 1 = 0 then (if j + 1 = 0 then (1 : Int) else 0) else if j + 1 = 0 then -(f (i + 1) 0) else if i + 1 = j + 1 then f 0 0 else 0) = if i = j then f 0 0 else 0
      rw [if_neg (by omega), if_neg (by omega)]
      by_cases h : i = j
      · rw [if_pos h, if_pos (by omega)]
      · rw [if_neg h, if_neg (by omega)]
    rw [e, dt_scal]
    show (if 0 = 0 then (if 0 = 0 then (1 : Int) else 0) else _) * _ = _
    rw [if_pos rfl, if_pos rfl, Int.one_mul]
  rw [← h1, ← dt_mul, dt_firstc n (mul (n + 1) (lowm f) f) fun i h hi => by
    obtain ⟨k, rfl⟩ : ∃ k, i = k + 1 := ⟨i - 1, by omega⟩
    rw [lowm_mul n f (by omega)]; grind]
  rw [lowm_top]
  congr 1
  exact dt_congr n fun i j hi hj => by rw [lowm_mul n f hi]; rfl

/-- In each row the number in the middle is more than all others together. -/
def Heavy (n : Nat) (f : Nat → Nat → Int) : Prop := ∀ i, i < n → (sg n fun j => ab (f i j)) < 2 * ab (f i i)
theorem Heavy.next {n : Nat} {f : Nat → Nat → Int} (h : Heavy (n + 1) f) : f 0 0 ≠ 0 ∧ Heavy n (schur f) := by
  have h0 := h 0 (by omega)
  rw [sg_shift] at h0
  have hR : 0 ≤ sg n fun j => ab (f 0 (j + 1)) := sg_nonneg fun j _ => ab_pos _
  have ha := ab_pos (f 0 0)
  refine ⟨fun e => ?_, fun i hi => ?_⟩
  · rw [e] at h0
    have : ab 0 = 0 := rfl
    omega
  · have h1 := h (i + 1) (by omega)
    rw [sg_shift] at h1
    have hc := ab_pos (f (i + 1) 0)
    have hB := ab_sub' (f 0 0 * f (i + 1) (i + 1)) (f (i + 1) 0 * f 0 (i + 1))
    rw [ab_mul, ab_mul] at hB
    have hS : (sg n fun j => ab (schur f i j)) ≤ sg n fun j => (ab (f 0 0) * ab (f (i + 1) (j + 1)) + ab (f (i + 1) 0) * ab (f 0 (j + 1))) + if j = i then ab (schur f i i) - (ab (f 0 0) * ab (f (i + 1) (i + 1)) + ab (f (i + 1) 0) * ab (f 0 (i + 1))) else 0 := sg_le fun j hj => by
      by_cases e : j = i
      · rw [if_pos e, e]; omega
      · rw [if_neg e]
        have := ab_sub (f 0 0 * f (i + 1) (j + 1)) (f (i + 1) 0 * f 0 (j + 1))
        rw [ab_mul, ab_mul] at this
        show ab (f 0 0 * f (i + 1) (j + 1) - f (i + 1) 0 * f 0 (j + 1)) ≤ _
        omega
    rw [sg_extra hi, sg_add, sg_times, sg_times] at hS
    have hB' : ab (f 0 0) * ab (f (i + 1) (i + 1)) - ab (f (i + 1) 0) * ab (f 0 (i + 1)) ≤ ab (schur f i i) := hB
    generalize ab (schur f i i) = y at *
    generalize (sg n fun j => ab (schur f i j)) = z at *
    generalize (sg n fun j => ab (f (i + 1) (j + 1))) = S at *
    generalize (sg n fun j => ab (f 0 (j + 1))) = R at *
    generalize ab (f (i + 1) (i + 1)) = d at *
    generalize ab (f 0 (i + 1)) = r at *
    generalize ab (f (i + 1) 0) = c at *
    generalize ab (f 0 0) = α at *
    have e1 : α * (S + c + 1) ≤ α * (2 * d) := Int.mul_le_mul_of_nonneg_left (by omega) ha
    have e2 : c * R ≤ c * α := Int.mul_le_mul_of_nonneg_left (by omega) hc
    have e3 : α * (S + c + 1) = α * S + c * α + α := by grind
    have e4 : α * (2 * d) = 2 * (α * d) := by grind
    rw [e3, e4] at e1
    omega
/-- Levy, Desplanques. -/
theorem heavy : ∀ (n : Nat) (f : Nat → Nat → Int), Heavy n f → dt n f ≠ 0
  | 0, _, _ => by show (1 : Int) ≠ 0; omega
  | n + 1, f, h => by
    obtain ⟨h1, h2⟩ := h.next
    intro e
    have := elim n f
    rw [e, Int.mul_zero] at this
    rcases Int.mul_eq_zero.1 this.symm with h3 | h3
    · exact h1 h3
    · exact heavy n _ h2 h3

/-- Sums of squares and products of rows. -/
def gm (m : Nat) (v : Nat → Nat → Int) : Nat → Nat → Int := fun i j => sg m fun x => v i x * v j x
theorem sq_pos (x : Int) : 0 ≤ x * x := by
  rcases Int.le_total 0 x with h | h
  · exact Int.mul_nonneg h h
  · have := Int.mul_nonneg (show 0 ≤ -x by omega) (show 0 ≤ -x by omega)
    rwa [Int.neg_mul_neg] at this
theorem gm_pos (m : Nat) (v : Nat → Nat → Int) (i : Nat) : 0 ≤ gm m v i i := sg_nonneg fun x _ => sq_pos _
theorem gm_comm (m : Nat) (v : Nat → Nat → Int) (i j : Nat) : gm m v i j = gm m v j i := sg_congr fun x _ => Int.mul_comm _ _
theorem sq_none {n : Nat} {f : Nat → Int} (h : (sg n fun x => f x * f x) = 0) : ∀ x, x < n → f x = 0 := by
  induction n with
  | zero => exact fun x hx => absurd hx (by omega)
  | succ n ih =>
    rw [sg_succ] at h
    have h1 : 0 ≤ sg n fun x => f x * f x := sg_nonneg fun x _ => sq_pos _
    have h2 := sq_pos (f n)
    intro x hx
    by_cases e : x = n
    · subst e
      rcases Int.mul_eq_zero.1 (show f x * f x = 0 by omega) with h | h <;> exact h
    · exact ih (by omega) x (by omega)
theorem pr_shift (n : Nat) (g : Nat → Int) : pr (n + 1) g = g 0 * pr n fun i => g (i + 1) := by
  induction n with
  | zero => show _ = _; simp only [pr]; grind
  | succ n ih => rw [pr, ih, pr]; grind
theorem pr_times (n : Nat) (a : Int) (g : Nat → Int) : (pr n fun i => a * g i) = a ^ n * pr n g := by
  induction n with
  | zero => simp only [pr, Int.pow_zero]; grind
  | succ n ih => rw [pr, ih, pr, Int.pow_succ]; grind
theorem pr_pos {n : Nat} {g : Nat → Int} (h : ∀ i, i < n → 0 ≤ g i) : 0 ≤ pr n g := by
  induction n with
  | zero => show (0 : Int) ≤ 1; omega
  | succ n ih => rw [pr]; exact Int.mul_nonneg (by first | exact ih (fun i hi => h i (by omega)) | exact h n (by omega)) (by first | exact h n (by omega) | exact ih (fun i hi => h i (by omega)))
theorem pr_le {n : Nat} {g k : Nat → Int} (h0 : ∀ i, i < n → 0 ≤ g i) (h : ∀ i, i < n → g i ≤ k i) : pr n g ≤ pr n k := by
  induction n with
  | zero => exact Int.le_refl _
  | succ n ih =>
    have h1 := ih (fun i hi => h0 i (by omega)) (fun i hi => h i (by omega))
    have h2 := pr_pos (n := n) fun i hi => h0 i (by omega)
    have h3 := h0 n (by omega)
    have h4 := h n (by omega)
    rw [pr, pr]
    first
      | exact Int.mul_le_mul h1 h4 h3 (by omega)
      | exact Int.mul_le_mul h4 h1 h2 (by omega)
theorem dt_times_all (n : Nat) (a : Int) (f : Nat → Nat → Int) : (dt n fun i j => a * f i j) = a ^ n * dt n f := by
  rw [← dt_scal, ← dt_mul]
  exact dt_congr n fun i j hi _ => by
    show a * f i j = sg n fun x => (if i = x then a else 0) * f x j
    rw [sg_one hi fun x _ h => by rw [if_neg fun e => h e.symm]; grind, if_pos rfl]
/-- The rows without what they have of the first one, without division. -/
def away (m : Nat) (v : Nat → Nat → Int) : Nat → Nat → Int := fun i x => gm m v 0 0 * v (i + 1) x - gm m v (i + 1) 0 * v 0 x
theorem away_gm (m : Nat) (v : Nat → Nat → Int) (i j : Nat) : gm m (away m v) i j = gm m v 0 0 * schur (gm m v) i j := by
  have e : gm m (away m v) i j = gm m v 0 0 * gm m v 0 0 * gm m v (i + 1) (j + 1) + -(gm m v 0 0 * gm m v (j + 1) 0) * gm m v (i + 1) 0 + (-(gm m v 0 0 * gm m v (i + 1) 0) * gm m v 0 (j + 1) + gm m v (i + 1) 0 * gm m v (j + 1) 0 * gm m v 0 0) := by
    conv => rhs; unfold gm
    rw [← sg_times m (_ * _), ← sg_times m (-(_)), ← sg_times m (-(_)), ← sg_times m (_ * _), ← sg_add, ← sg_add, ← sg_add]
    exact sg_congr fun x _ => by unfold away gm; grind
  rw [e]
  unfold schur
  rw [gm_comm m v 0 (j + 1)]
  grind
theorem hadamard_gm : ∀ (n m : Nat) (v : Nat → Nat → Int), dt n (gm m v) ≤ pr n fun i => gm m v i i
  | 0, _, _ => Int.le_refl _
  | n + 1, m, v => by
    have ha := gm_pos m v 0
    rcases Int.lt_or_eq_of_le ha with ha | ha
    · have ih := hadamard_gm n m (away m v)
      rw [show gm m (away m v) = fun i j => gm m v 0 0 * schur (gm m v) i j from funext fun i => funext fun j => away_gm m v i j, dt_times_all, pr_times] at ih
      have hp : 0 < gm m v 0 0 ^ n := Int.pow_pos ha
      have h1 : dt n (schur (gm m v)) ≤ pr n fun i => schur (gm m v) i i := Int.le_of_mul_le_mul_left ih hp
      have hB0 : ∀ i, i < n → 0 ≤ schur (gm m v) i i := fun i _ => by
        have h2 := gm_pos m (away m v) i
        rw [away_gm] at h2
        rcases (show schur (gm m v) i i < 0 ∨ 0 ≤ schur (gm m v) i i by omega) with h3 | h3
        · have := Int.mul_neg_of_pos_of_neg ha h3
          omega
        · exact h3
      have hB1 : ∀ i, i < n → schur (gm m v) i i ≤ gm m v 0 0 * gm m v (i + 1) (i + 1) := fun i _ => by
        have h2 := sq_pos (gm m v (i + 1) 0)
        unfold schur
        rw [gm_comm m v 0 (i + 1)]
        omega
      have h2 := pr_le hB0 hB1
      rw [pr_times] at h2
      have h3 := elim n (gm m v)
      have h4 : gm m v 0 0 * dt n (schur (gm m v)) ≤ gm m v 0 0 * (gm m v 0 0 ^ n * pr n fun i => gm m v (i + 1) (i + 1)) := Int.mul_le_mul_of_nonneg_left (Int.le_trans h1 h2) (by omega)
      rw [← h3, show gm m v 0 0 * (gm m v 0 0 ^ n * pr n fun i => gm m v (i + 1) (i + 1)) = gm m v 0 0 ^ n * (gm m v 0 0 * pr n fun i => gm m v (i + 1) (i + 1)) by grind] at h4
      rw [pr_shift]
      exact Int.le_of_mul_le_mul_left h4 hp
    · have hz : ∀ x, x < m → v 0 x = 0 := sq_none (n := m) (f := v 0) ha.symm
      rw [dt_zrow (k := 0) (by omega) fun j _ => show gm m v 0 j = 0 from by
        unfold gm
        rw [sg_congr (g := fun _ => 0) fun x hx => by rw [hz x hx]; grind, sg_none]]
      exact pr_pos fun i _ => gm_pos m v i
/-- Hadamard. -/
theorem hadamard (n : Nat) (f : Nat → Nat → Int) : dt n f * dt n f ≤ pr n fun i => sg n fun j => f i j * f i j := by
  have h := hadamard_gm n n f
  have e : dt n (gm n f) = dt n f * dt n f := by
    have := dt_mul n f (flip f)
    rw [dt_flip] at this
    exact this
  rw [e] at h
  exact h

end Go.Proofs.Ytkebjmapdcbnaaa.Zx
