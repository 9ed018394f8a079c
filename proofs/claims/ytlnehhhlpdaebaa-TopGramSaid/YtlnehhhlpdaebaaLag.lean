/- Plain facts on sums of two places (Lagrange, Gauss): how near they are. No program is named here. -/
namespace Go.Proofs.Ytlnehhhlpdaebaa.Lag
set_option linter.unusedVariables false

/-- A place, its square, a product, the area of two. -/
abbrev V := Int × Int
def nn (x : V) : Int := x.1 * x.1 + x.2 * x.2
def ip (x y : V) : Int := x.1 * y.1 + x.2 * y.2
def ar (x y : V) : Int := x.1 * y.2 - x.2 * y.1
/-- i times the one and j times the other. -/
def cb (u v : V) (i j : Int) : V := (i * u.1 + j * v.1, i * u.2 + j * v.2)
theorem nn_cb (u v : V) (i j : Int) : nn (cb u v i j) = nn u * i * i + 2 * ip u v * i * j + nn v * j * j := by unfold nn ip cb; grind
theorem ar_cb (u v : V) (i j k l : Int) : ar (cb u v i j) (cb u v k l) = (i * l - j * k) * ar u v := by unfold ar cb; grind
theorem lagrange (u v : V) : nn u * nn v - ip u v * ip u v = ar u v * ar u v := by unfold nn ip ar; grind
theorem sq_nn (j : Int) : 0 ≤ j * j := by
  by_cases h : 0 ≤ j
  · exact Int.mul_nonneg h h
  · have := Int.mul_pos (show 0 < -j by omega) (show 0 < -j by omega); grind
theorem nn_pos (x : V) : 0 ≤ nn x := by
  unfold nn
  have h1 := sq_nn x.1
  have h2 := sq_nn x.2
  omega
theorem nn_zero {x : V} (h : nn x = 0) : x = (0, 0) := by
  unfold nn at h
  have h1 := sq_nn x.1
  have h2 := sq_nn x.2
  have e1 : x.1 * x.1 = 0 := by omega
  have e2 : x.2 * x.2 = 0 := by omega
  rcases Int.mul_eq_zero.1 e1 with a | a <;> rcases Int.mul_eq_zero.1 e2 with b | b <;> exact Prod.ext a b

/-- A form whose middle is no more than the first one, which is no more than the last. -/
structure Red (a b c : Int) : Prop where
  pos : 0 < a
  le : a ≤ c
  low : -a ≤ b
  high : b ≤ a
theorem sq_ge {j : Int} (h : j ≠ 0) : 1 ≤ j * j := by
  rcases Int.lt_or_gt_of_ne h with h | h
  · have := Int.mul_pos (show 0 < -j by omega) (show 0 < -j by omega); grind
  · have := Int.mul_pos h h; omega
/-- With any of the second one it is no less than the last. -/
theorem Red.second {a b c : Int} (h : Red a b c) (i : Int) {j : Int} (hj : j ≠ 0) : c ≤ a * i * i + b * i * j + c * j * j := by
  obtain ⟨h1, h2, h3, h4⟩ := h
  have sj := sq_ge hj
  -- the middle: at worst less a times the product
  have mid : a * i * i - a * (i * j) ≤ a * i * i + b * i * j ∨ a * i * i + a * (i * j) ≤ a * i * i + b * i * j := by
    by_cases hs : 0 ≤ i * j
    · left
      have := Int.mul_le_mul_of_nonneg_right h3 hs
      grind
    · right
      have := Int.mul_le_mul_of_nonneg_right h4 (show 0 ≤ -(i * j) by omega)
      grind
  -- a times (i * i - i * j + j * j - 1) is not below 0
  have pos1 : 0 ≤ i * i - i * j + j * j - 1 := by
    have s1 := sq_nn (2 * i - j)
    have e : 4 * (i * i - i * j + j * j - 1) = (2 * i - j) * (2 * i - j) + 3 * (j * j) - 4 := by grind
    omega
  have pos2 : 0 ≤ i * i + i * j + j * j - 1 := by
    have s1 := sq_nn (2 * i + j)
    have e : 4 * (i * i + i * j + j * j - 1) = (2 * i + j) * (2 * i + j) + 3 * (j * j) - 4 := by grind
    omega
  have m1 := Int.mul_nonneg (show 0 ≤ a by omega) pos1
  have m2 := Int.mul_nonneg (show 0 ≤ a by omega) pos2
  have m3 := Int.mul_nonneg (show 0 ≤ c - a by omega) (show 0 ≤ j * j - 1 by omega)
  rcases mid with hm | hm <;> grind
theorem Red.first {a b c : Int} (h : Red a b c) {i j : Int} (hij : ¬ (i = 0 ∧ j = 0)) : a ≤ a * i * i + b * i * j + c * j * j := by
  by_cases hj : j = 0
  · have hi := sq_ge (fun e => hij ⟨e, hj⟩)
    have := Int.mul_le_mul_of_nonneg_left hi (show 0 ≤ a by have := h.pos; omega)
    rw [hj]; grind
  · exact Int.le_trans h.le (h.second i hj)
/-- Between the area's square and four thirds of it. -/
theorem Red.area {a b c : Int} (h : Red a b c) {d : Int} (hd : 4 * a * c - b * b = 4 * d) : d ≤ a * c ∧ 3 * (a * c) ≤ 4 * d := by
  obtain ⟨h1, h2, h3, h4⟩ := h
  have s := sq_nn b
  have t : b * b ≤ a * c := by
    have e1 := Int.mul_nonneg (show 0 ≤ a - b by omega) (show 0 ≤ a + b by omega)
    have e2 := Int.mul_le_mul_of_nonneg_left h2 (show 0 ≤ a by omega)
    grind
  constructor <;> grind

/-- The sums of two places. -/
def Sum (u v : V) (x : V) : Prop := ∃ i j, x = cb u v i j
/-- How near the nearest sums are: the nearest but 0, and the nearest two that are not on one line. -/
structure Mins (S : V → Prop) (a c : Int) : Prop where
  one : ∃ x, S x ∧ x ≠ (0, 0) ∧ nn x = a
  least : ∀ x, S x → x ≠ (0, 0) → a ≤ nn x
  two : ∃ x y, S x ∧ S y ∧ ar x y ≠ 0 ∧ nn x ≤ c ∧ nn y ≤ c
  next : ∀ x y, S x → S y → ar x y ≠ 0 → c ≤ nn x ∨ c ≤ nn y
theorem Mins.same {S : V → Prop} {a c a' c' : Int} (h : Mins S a c) (k : Mins S a' c') : a = a' ∧ c = c' := by
  obtain ⟨x, hx, x0, ex⟩ := h.one
  obtain ⟨x', hx', x0', ex'⟩ := k.one
  have h1 := h.least x' hx' x0'
  have h2 := k.least x hx x0
  obtain ⟨p, q, hp, hq, hpq, p1, q1⟩ := h.two
  obtain ⟨p', q', hp', hq', hpq', p1', q1'⟩ := k.two
  have h3 := h.next p' q' hp' hq' hpq'
  have h4 := k.next p q hp hq hpq
  constructor <;> omega
theorem Mins.congr {S T : V → Prop} {a c : Int} (h : Mins S a c) (e : ∀ x, S x ↔ T x) : Mins T a c := by
  obtain ⟨⟨x, h1, h2, h3⟩, h4, ⟨p, q, h5, h6, h7⟩, h8⟩ := h
  exact ⟨⟨x, (e x).1 h1, h2, h3⟩, fun x hx => h4 x ((e x).2 hx), ⟨p, q, (e p).1 h5, (e q).1 h6, h7⟩, fun x y hx hy => h8 x y ((e x).2 hx) ((e y).2 hy)⟩
/-- Two places whose form is so: their squares are the least. -/
theorem Red.mins {u v : V} (h : Red (nn u) (2 * ip u v) (nn v)) : Mins (Sum u v) (nn u) (nn v) := by
  have u0 : u ≠ (0, 0) := fun e => by have := h.pos; rw [e] at this; exact absurd this (by decide)
  have su : Sum u v u := ⟨1, 0, by unfold cb; exact Prod.ext (by simp) (by simp)⟩
  have sv : Sum u v v := ⟨0, 1, by unfold cb; exact Prod.ext (by simp) (by simp)⟩
  have a0 : ar u v ≠ 0 := fun e => by
    have h1 := lagrange u v
    rw [e] at h1
    have h2 := (h.area (d := nn u * nn v - ip u v * ip u v) (by grind)).2
    have h3 := Int.mul_pos h.pos (Int.lt_of_lt_of_le h.pos h.le)
    rw [h1] at h2
    omega
  refine ⟨⟨u, su, u0, rfl⟩, ?_, ⟨u, v, su, sv, a0, h.le, Int.le_refl _⟩, ?_⟩
  · rintro x ⟨i, j, rfl⟩ hx
    rw [nn_cb]
    exact h.first fun e => hx (by rw [e.1, e.2]; unfold cb; exact Prod.ext (by simp) (by simp))
  · rintro x y ⟨i, j, rfl⟩ ⟨k, l, rfl⟩ hxy
    rw [nn_cb, nn_cb]
    by_cases hj : j = 0
    · right
      refine h.second k fun hl => hxy ?_
      rw [ar_cb, hj, hl]; grind
    · exact .inl (h.second i hj)
/-- So many times the one added to the other one, and the one in the place of the other: the sums are the same. -/
theorem sum_turn (u v : V) (k : Int) (x : V) : Sum u v x ↔ Sum (cb u v k 1) u x := by
  constructor
  · rintro ⟨i, j, rfl⟩
    exact ⟨j, i - j * k, by unfold cb; exact Prod.ext (by dsimp only; grind) (by dsimp only; grind)⟩
  · rintro ⟨i, j, rfl⟩
    exact ⟨i * k + j, i, by unfold cb; exact Prod.ext (by dsimp only; grind) (by dsimp only; grind)⟩
theorem sum_swap (u v : V) (x : V) : Sum u v x ↔ Sum v u x := by
  constructor <;> (rintro ⟨i, j, rfl⟩; exact ⟨j, i, by unfold cb; exact Prod.ext (by dsimp only; grind) (by dsimp only; grind)⟩)
theorem sum_less (u v : V) (k : Int) (x : V) : Sum u v x ↔ Sum u (cb u v (-k) 1) x := by
  rw [sum_swap u, sum_swap u]
  constructor
  · rintro ⟨i, j, rfl⟩
    exact ⟨i, j + i * k, by unfold cb; exact Prod.ext (by dsimp only; grind) (by dsimp only; grind)⟩
  · rintro ⟨i, j, rfl⟩
    exact ⟨i, j - i * k, by unfold cb; exact Prod.ext (by dsimp only; grind) (by dsimp only; grind)⟩

end Go.Proofs.Ytlnehhhlpdaebaa.Lag
