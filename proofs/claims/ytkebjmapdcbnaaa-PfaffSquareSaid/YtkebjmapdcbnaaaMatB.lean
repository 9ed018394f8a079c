/- Elimination of whole numbers row by row, each row with a column of its own: what stands after each step is a determinant (Sylvester), and how the determinants of the first rows and columns come of it. No program is named here. -/
import Derived.Test.YtkebjmapdcbnaaaMatH
namespace Go.Proofs.Ytkebjmapdcbnaaa.Zx
open Mx (sk sk_lt sk_zero)
set_option linter.unusedVariables false

/-- The first t rows and row k; the columns taken and column j. -/
def bk (t k : Nat) : Nat → Nat := fun a => if a < t then a else k
def bj (t : Nat) (p : Nat → Nat) (j : Nat) : Nat → Nat := fun b => if b < t then p b else j
/-- What stands at (k, j) after t steps. -/
def bd (f : Nat → Nat → Int) (p : Nat → Nat) (t k j : Nat) : Int := dt (t + 1) fun a b => f (bk t k a) (bj t p j b)
/-- The number that step t took, 1 before the first. -/
def lp (f : Nat → Nat → Int) (p : Nat → Nat) : Nat → Int
  | 0 => 1
  | t + 1 => bd f p t t (p t)
theorem dt_single (f : Nat → Nat → Int) : dt 1 f = f 0 0 := by
  rw [dt_succ, sg_succ, sg_zero]
  show 0 + sgn 0 * f 0 0 * 1 = f 0 0
  rw [show sgn 0 = 1 from rfl]; grind
theorem dt_pair (f : Nat → Nat → Int) : dt 2 f = f 0 0 * f 1 1 - f 0 1 * f 1 0 := by
  rw [dt_succ, sg_succ, sg_succ, sg_zero]
  simp only [dt_single]
  show 0 + sgn 0 * f 0 0 * f 1 1 + sgn 1 * f 0 1 * f 1 0 = _
  rw [show sgn 0 = 1 from rfl, show sgn 1 = -1 from rfl]; grind
theorem bd_zero (f : Nat → Nat → Int) (p : Nat → Nat) (k j : Nat) : bd f p 0 k j = f k j := by unfold bd; rw [dt_single]; rfl

def Sylv (f : Nat → Nat → Int) (p : Nat → Nat) (t : Nat) : Prop :=
  ∀ (s : Nat) (K J : Nat → Nat), (∀ a, a < t → K a = a) → (∀ b, b < t → J b = p b) →
    lp f p t ^ s * dt (t + (s + 1)) (fun a b => f (K a) (J b)) = dt (s + 1) fun a b => bd f p t (K (t + a)) (J (t + b))
theorem Sylv.rec' {f : Nat → Nat → Int} {p : Nat → Nat} {t : Nat} (h : Sylv f p t) (k j : Nat) :
    lp f p t * bd f p (t + 1) k j = bd f p t t (p t) * bd f p t k j - bd f p t t j * bd f p t k (p t) := by
  have e := h 1 (bk (t + 1) k) (bj (t + 1) p j) (fun a ha => by unfold bk; rw [if_pos (by omega)]) (fun b hb => by unfold bj; rw [if_pos (by omega)])
  rw [Int.pow_succ, Int.pow_zero, Int.one_mul] at e
  have e2 : dt (t + (1 + 1)) (fun a b => f (bk (t + 1) k a) (bj (t + 1) p j b)) = bd f p (t + 1) k j := rfl
  rw [e2] at e
  rw [e]
  show dt 2 _ = _
  rw [dt_pair]
  have k0 : bk (t + 1) k (t + 0) = t := by unfold bk; rw [if_pos (by omega)]; rfl
  have k1 : bk (t + 1) k (t + 1) = k := by unfold bk; rw [if_neg (by omega)]
  have j0 : bj (t + 1) p j (t + 0) = p t := by unfold bj; rw [if_pos (by omega)]; rfl
  have j1 : bj (t + 1) p j (t + 1) = j := by unfold bj; rw [if_neg (by omega)]
  rw [k0, k1, j0, j1]
theorem sylv (f : Nat → Nat → Int) (p : Nat → Nat) : ∀ t, (∀ i, i < t → lp f p (i + 1) ≠ 0) → Sylv f p t
  | 0, _ => fun s K J _ _ => by
    show (1 : Int) ^ s * _ = _
    rw [Int.one_pow, Int.one_mul, show 0 + (s + 1) = s + 1 by omega]
    exact dt_congr _ fun a b _ _ => by rw [bd_zero, show 0 + a = a by omega, show 0 + b = b by omega]
  | t + 1, hz => fun s K J hK hJ => by
    have S := sylv f p t fun i hi => hz i (by omega)
    have IH := S (s + 1) K J (fun a ha => hK a (by omega)) (fun b hb => hJ b (by omega))
    have q0 := hz t (by omega)
    have l0 : lp f p t ≠ 0 := by
      rcases t with _ | t
      · show (1 : Int) ≠ 0; decide
      · exact hz t (by omega)
    obtain ⟨G, hG⟩ : ∃ G, G = fun a b => bd f p t (K (t + a)) (J (t + b)) := ⟨_, rfl⟩
    have g00 : G 0 0 = lp f p (t + 1) := by
      rw [hG]
      show bd f p t (K t) (J t) = bd f p t t (p t)
      rw [hK t (by omega), hJ t (by omega)]
    have el := elim (s + 1) G
    have sc : dt (s + 1) (schur G) = lp f p t ^ (s + 1) * dt (s + 1) fun a b => bd f p (t + 1) (K (t + 1 + a)) (J (t + 1 + b)) := by
      rw [← dt_times_all]
      refine dt_congr _ fun a b _ _ => ?_
      rw [S.rec']
      unfold schur
      rw [g00, hG]
      show lp f p (t + 1) * bd f p t (K (t + (a + 1))) (J (t + (b + 1))) - bd f p t (K (t + (a + 1))) (J t) * bd f p t (K t) (J (t + (b + 1))) = _
      rw [hK t (by omega), hJ t (by omega), show t + (a + 1) = t + 1 + a by omega, show t + (b + 1) = t + 1 + b by omega]
      show bd f p t t (p t) * _ - _ = _
      grind
    rw [← hG] at IH
    rw [sc, ← IH, g00] at el
    have hp : lp f p t ^ (s + 1) ≠ 0 := Int.pow_ne_zero l0
    rw [show t + (s + 1 + 1) = t + 1 + (s + 1) by omega, Int.pow_succ (lp f p (t + 1)) s] at el
    have el2 : (lp f p (t + 1) * lp f p t ^ (s + 1)) * (lp f p (t + 1) ^ s * dt (t + 1 + (s + 1)) fun a b => f (K a) (J b)) = (lp f p (t + 1) * lp f p t ^ (s + 1)) * dt (s + 1) fun a b => bd f p (t + 1) (K (t + 1 + a)) (J (t + 1 + b)) := by grind
    exact Int.eq_of_mul_eq_mul_left (Int.mul_ne_zero q0 hp) el2

/-- A step: what it divides by goes in. -/
theorem step_bd {f : Nat → Nat → Int} {p : Nat → Nat} {t : Nat} (hz : ∀ i, i < t → lp f p (i + 1) ≠ 0) (k j : Nat) :
    (bd f p t k j * lp f p (t + 1) - bd f p t k (p t) * bd f p t t j).tdiv (lp f p t) = bd f p (t + 1) k j := by
  have l0 : lp f p t ≠ 0 := by
    rcases t with _ | t
    · show (1 : Int) ≠ 0; decide
    · exact hz t (by omega)
  have := (sylv f p t hz).rec' k j
  rw [show bd f p t k j * lp f p (t + 1) - bd f p t k (p t) * bd f p t t j = lp f p t * bd f p (t + 1) k j by
    rw [this]; show bd f p t k j * bd f p t t (p t) - _ = _; grind]
  exact Int.mul_tdiv_cancel_left _ l0

theorem lp_dt (f : Nat → Nat → Int) (p : Nat → Nat) (t : Nat) : lp f p t = dt t fun a b => f a (p b) := by
  rcases t with _ | t
  · rfl
  · show dt (t + 1) (fun a b => f (bk t t a) (bj t p (p t) b)) = _
    refine dt_congr _ fun a b ha hb => ?_
    have e1 : bk t t a = a := by unfold bk; split <;> omega
    have e2 : bj t p (p t) b = p b := by
      unfold bj
      by_cases h : b < t
      · rw [if_pos h]
      · rw [if_neg h, show b = t by omega]
    rw [e1, e2]

/-- A row of which nothing is left in the first q columns: the first q rows and columns have no determinant. -/
theorem bd_null {f : Nat → Nat → Int} {p : Nat → Nat} {t q : Nat} (ht : t < q) (h0 : lp f p t ≠ 0) (h : ∀ j, j < q → bd f p t t j = 0) : dt q f = 0 := by
  obtain ⟨c, hc⟩ : ∃ c : Nat → Int, c = fun a => if a < t + 1 then sgn (t + a) * dt t (fun i b => f (sk a b) (p i)) else 0 := ⟨_, rfl⟩
  rw [← dt_flip]
  refine dt_null (y := c) (c := t) ht ?_ fun j hj => ?_
  · rw [hc]
    show (if t < t + 1 then sgn (t + t) * dt t (fun i b => f (sk t b) (p i)) else 0) ≠ 0
    rw [if_pos (by omega), show sgn (t + t) = 1 by unfold sgn; rw [if_pos (by omega)], Int.one_mul]
    rw [lp_dt, ← dt_flip] at h0
    rw [dt_congr t (g := flip fun a b => f a (p b)) fun i b hi hb => by show f (sk t b) (p i) = f b (p i); rw [show sk t b = b by unfold sk; rw [if_pos hb]]]
    exact h0
  · have e := h j hj
    unfold bd at e
    rw [← dt_flip, ← laplace t t _ (Nat.le_refl _)] at e
    rw [← e, sg_less (n := t + 1) (by omega) fun i h1 h2 => by rw [hc]; show flip f j i * (if i < t + 1 then _ else 0) = 0; rw [if_neg (by omega), Int.mul_zero]]
    refine sg_congr fun a ha => ?_
    rw [hc]
    show f a j * (if a < t + 1 then sgn (t + a) * dt t (fun i b => f (sk a b) (p i)) else 0) = sgn (t + a) * f (bk t t a) (bj t p j t) * dt t _
    rw [if_pos ha, show bk t t a = a by unfold bk; split <;> omega, show bj t p j t = j by unfold bj; rw [if_neg (by omega)]]
    rw [dt_congr t (f := wo _ t a) (g := fun i b => f (sk a b) (p i)) fun i b hi hb => by
      show f (bk t t (sk a b)) (bj t p j (sk t i)) = f (sk a b) (p i)
      have e3 : sk a b ≤ b + 1 := by unfold sk; split <;> omega
      rw [show sk t i = i by unfold sk; rw [if_pos hi], show bj t p j i = p i by unfold bj; rw [if_pos hi], show bk t t (sk a b) = sk a b by unfold bk; split <;> omega]]
    grind

theorem sp_sq {n : Nat} (s : Nat → Int) : sp n s = 0 ∨ sp n s * sp n s = 1 := by
  by_cases ho : ∃ k, k < n ∧ (s k < 0 ∨ (n : Int) ≤ s k)
  · obtain ⟨k, hk, h⟩ := ho
    exact .inl (sp_out hk h)
  · by_cases ht : ∃ a b, a < n ∧ b < n ∧ a ≠ b ∧ s a = s b
    · obtain ⟨a, b, ha, hb, hne, e⟩ := ht
      exact .inl (sp_twice ha hb hne e)
    · right
      have : sp n s * sp n s = dt n (mul n (fun i j => if s i = (j : Int) then 1 else 0) (flip fun i j => if s i = (j : Int) then 1 else 0)) := by
        rw [dt_mul, dt_flip]; rfl
      rw [this]
      refine Eq.trans ?_ (dt_one n)
      refine dt_congr n fun i k hi hk => ?_
      show (sg n fun x => (if s i = (x : Int) then (1 : Int) else 0) * (if s k = (x : Int) then 1 else 0)) = if i = k then 1 else 0
      have hb : 0 ≤ s i ∧ s i < n := by
        have : ¬ (s i < 0 ∨ (n : Int) ≤ s i) := fun h => ho ⟨i, hi, h⟩
        omega
      rw [sg_one (k := (s i).toNat) (by omega) fun x hx hne => by rw [if_neg (by omega), Int.zero_mul], if_pos (by omega), Int.one_mul]
      by_cases e : i = k
      · rw [if_pos e, if_pos (by rw [← e]; omega)]
      · rw [if_neg e, if_neg fun e2 => ht ⟨i, k, hi, hk, e, by omega⟩]
theorem sp_some {n : Nat} (s : Nat → Int) : sp n s = 1 ∨ sp n s = -1 ∨ sp n s = 0 := by
  rcases sp_sq (n := n) s with h | h
  · exact .inr (.inr h)
  · have : (sp n s - 1) * (sp n s + 1) = 0 := by grind
    rcases Int.mul_eq_zero.1 this with h | h
    · left; omega
    · right; left; omega

/-- The first q rows and columns, of the number that the last step took. -/
theorem lead_lp {f : Nat → Nat → Int} {p : Nat → Nat} {q : Nat} (hz : ∀ i, i < q → lp f p (i + 1) ≠ 0) (hf : ∀ i, i < q → ∀ j, j < p i → bd f p i i j = 0) :
    sp q (fun i => (p i : Int)) * lp f p q = dt q f := by
  by_cases ho : ∃ i, i < q ∧ q ≤ p i
  · obtain ⟨i, hi, h⟩ := ho
    rw [sp_out hi (.inr (by omega)), Int.zero_mul]
    refine (bd_null hi ?_ fun j hj => hf i hi j (by omega)).symm
    rcases i with _ | i
    · show (1 : Int) ≠ 0; decide
    · exact hz i (by omega)
  · have hp : ∀ i, i < q → p i < q := fun i hi => by
      rcases Nat.lt_or_ge (p i) q with h | h
      · exact h
      · exact absurd ⟨i, hi, h⟩ ho
    have e : lp f p q = dt q f * sp q (fun i => (p i : Int)) := by
      rw [lp_dt]
      have : sp q (fun i => (p i : Int)) = dt q (flip fun i j => if (p i : Int) = (j : Int) then 1 else 0) := by rw [dt_flip]; rfl
      rw [this, ← dt_mul]
      refine dt_congr q fun a b ha hb => ?_
      show f a (p b) = sg q fun x => f a x * (if (p b : Int) = (x : Int) then 1 else 0)
      rw [sg_one (k := p b) (hp b hb) fun x hx hne => by rw [if_neg (by omega), Int.mul_zero], if_pos rfl, Int.mul_one]
    have h0 : lp f p q ≠ 0 := by
      rcases q with _ | q
      · show (1 : Int) ≠ 0; decide
      · exact hz q (by omega)
    rcases sp_sq (n := q) (fun i => (p i : Int)) with h | h
    · rw [h, Int.mul_zero] at e; exact absurd e h0
    · rw [e]; grind

theorem bd_ab {f : Nat → Nat → Int} {p : Nat → Nat} {t k : Nat} {M : Int} {r c : Nat} (hM : 0 ≤ M) (h : ∀ i j, i < r → j < c → ab (f i j) ≤ M) (ht : t ≤ k) (hk : k < r) (hp : ∀ i, i < t → p i < c) {j : Nat} (hj : j < c) : ab (bd f p t k j) ≤ fb M (t + 1) := by
  refine dt_ab hM _ _ fun a b ha hb => h _ _ ?_ ?_
  · unfold bk; split <;> omega
  · unfold bj
    by_cases e : b < t
    · rw [if_pos e]; exact hp b e
    · rw [if_neg e]; exact hj
theorem fb_nine {n : Nat} (h : n ≤ 5) : fb 9 n ≤ 7085880 := by
  have : n = 0 ∨ n = 1 ∨ n = 2 ∨ n = 3 ∨ n = 4 ∨ n = 5 := by omega
  rcases this with e | e | e | e | e | e <;> rw [e] <;> decide +kernel
/-- Only the pivots so far count. -/
theorem bd_congr {f : Nat → Nat → Int} {p p' : Nat → Nat} {t : Nat} (h : ∀ i, i < t → p i = p' i) (k j : Nat) : bd f p t k j = bd f p' t k j := by
  unfold bd
  refine dt_congr _ fun a b ha hb => ?_
  have : bj t p j b = bj t p' j b := by
    unfold bj
    by_cases e : b < t
    · rw [if_pos e, if_pos e, h b e]
    · rw [if_neg e, if_neg e]
  rw [this]
theorem lp_congr {f : Nat → Nat → Int} {p p' : Nat → Nat} {t : Nat} (h : ∀ i, i < t → p i = p' i) : lp f p t = lp f p' t := by
  rcases t with _ | t
  · rfl
  · show bd f p t t (p t) = bd f p' t t (p' t)
    rw [bd_congr (fun i hi => h i (by omega)), h t (by omega)]

def upd (p : Nat → Nat) (k q : Nat) : Nat → Nat := fun i => if i = k then q else p i
theorem upd_lt {p : Nat → Nat} {k q i : Nat} (h : i < k) : upd p k q i = p i := by unfold upd; rw [if_neg (by omega)]
theorem upd_self (p : Nat → Nat) (k q : Nat) : upd p k q k = q := by unfold upd; rw [if_pos rfl]
theorem bd_upd {f : Nat → Nat → Int} {p : Nat → Nat} {k q t : Nat} (h : t ≤ k) (r j : Nat) : bd f (upd p k q) t r j = bd f p t r j := bd_congr (fun i hi => upd_lt (by omega)) r j
theorem lp_upd {f : Nat → Nat → Int} {p : Nat → Nat} {k q t : Nat} (h : t ≤ k) : lp f (upd p k q) t = lp f p t := lp_congr fun i hi => upd_lt (by omega)
theorem lp_next (f : Nat → Nat → Int) (p : Nat → Nat) (k q : Nat) : lp f (upd p k q) (k + 1) = bd f p k k q := by
  show bd f (upd p k q) k k (upd p k q k) = _
  rw [bd_upd (Nat.le_refl k), upd_self]
/-- The first k steps: the column that each took, the first that has not 0. -/
structure El (n : Nat) (x : Nat → Nat → Int) (p : Nat → Nat) (k : Nat) : Prop where
  lt : ∀ i, i < k → p i < n
  nz : ∀ i, i < k → lp x p (i + 1) ≠ 0
  first : ∀ i, i < k → ∀ j, j < p i → bd x p i i j = 0
theorem El.start (n : Nat) (x : Nat → Nat → Int) (p : Nat → Nat) : El n x p 0 := ⟨fun i hi => absurd hi (by omega), fun i hi => absurd hi (by omega), fun i hi => absurd hi (by omega)⟩
theorem El.next {n : Nat} {x : Nat → Nat → Int} {p : Nat → Nat} {k q : Nat} (h : El n x p k) (hq : q < n) (h1 : bd x p k k q ≠ 0) (h2 : ∀ j, j < q → bd x p k k j = 0) : El n x (upd p k q) (k + 1) := by
  refine ⟨fun i hi => ?_, fun i hi => ?_, fun i hi j hj => ?_⟩
  · by_cases e : i = k
    · rw [e, upd_self]; exact hq
    · rw [upd_lt (by omega)]; exact h.lt i (by omega)
  · by_cases e : i = k
    · rw [e, lp_next]; exact h1
    · rw [lp_upd (by omega)]; exact h.nz i (by omega)
  · by_cases e : i = k
    · rw [e, bd_upd (Nat.le_refl k)]
      rw [e, upd_self] at hj
      exact h2 j hj
    · rw [bd_upd (by omega)]
      rw [upd_lt (by omega)] at hj
      exact h.first i (by omega) j hj
theorem El.ne {n : Nat} {x : Nat → Nat → Int} {p : Nat → Nat} {k : Nat} (h : El n x p k) {t : Nat} (ht : t ≤ k) : lp x p t ≠ 0 := by
  rcases t with _ | t
  · show (1 : Int) ≠ 0; decide
  · exact h.nz t (by omega)
theorem El.lead {n : Nat} {x : Nat → Nat → Int} {p : Nat → Nat} {k : Nat} (h : El n x p k) : sp k (fun i => (p i : Int)) * lp x p k = dt k x := lead_lp h.nz h.first
theorem El.null {n : Nat} {x : Nat → Nat → Int} {p : Nat → Nat} {k : Nat} (h : El n x p k) (hz : ∀ j, j < n → bd x p k k j = 0) {q : Nat} (hk : k < q) (hq : q ≤ n) : dt q x = 0 :=
  bd_null hk (h.ne (Nat.le_refl k)) fun j hj => hz j (by omega)
theorem El.step {n : Nat} {x : Nat → Nat → Int} {p : Nat → Nat} {k : Nat} (h : El n x p k) {t : Nat} (ht : t < k) (r j : Nat) :
    (bd x p t r j * bd x p t t (p t) - bd x p t r (p t) * bd x p t t j).tdiv (lp x p t) = bd x p (t + 1) r j := step_bd (fun i hi => h.nz i (by omega)) r j
theorem El.bound {n : Nat} {x : Nat → Nat → Int} {p : Nat → Nat} {k : Nat} (h : El n x p k) (h5 : n ≤ 5) (hx : ∀ i j, i < n → j < n → ab (x i j) ≤ 9) {t r : Nat} (ht : t ≤ k) (hr : t ≤ r) (hr2 : r < n) {j : Nat} (hj : j < n) : -7085880 ≤ bd x p t r j ∧ bd x p t r j ≤ 7085880 := by
  have h1 := bd_ab (f := x) (p := p) (t := t) (k := r) (M := 9) (by omega) hx hr hr2 (fun i hi => h.lt i (by omega)) hj
  have h2 := fb_nine (n := t + 1) (by omega)
  unfold ab at h1
  omega
theorem dt_bound {n : Nat} {x : Nat → Nat → Int} (h5 : n ≤ 5) (hx : ∀ i j, i < n → j < n → ab (x i j) ≤ 9) {q : Nat} (hq : q ≤ n) : -7085880 ≤ dt q x ∧ dt q x ≤ 7085880 := by
  have h1 := dt_ab (M := 9) (by omega) q x fun i j hi hj => hx i j (by omega) (by omega)
  have h2 := fb_nine (n := q) (by omega)
  unfold ab at h1
  omega

end Go.Proofs.Ytkebjmapdcbnaaa.Zx
