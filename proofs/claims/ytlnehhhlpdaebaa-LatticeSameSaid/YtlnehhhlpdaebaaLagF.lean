/- Plain facts on a form of two places made small step by step (the document's way): the first number so many times from the other one, and both changed about; how large numbers get, and that it ends. No program is named here. -/
import Derived.Test.YtlnehhhlpdaebaaLag
namespace Go.Proofs.Ytlnehhhlpdaebaa.Lag
set_option linter.unusedVariables false

/-- a, b, c are the form of two places with the same sums as u and v. -/
def Fo (u v : V) (a b c : Int) : Prop := ∃ x y : V, a = nn x ∧ b = 2 * ip x y ∧ c = nn y ∧ (∀ z, Sum u v z ↔ Sum x y z) ∧ ar x y * ar x y = ar u v * ar u v
theorem Fo.start (u v : V) : Fo u v (nn u) (2 * ip u v) (nn v) := ⟨u, v, rfl, rfl, rfl, fun _ => Iff.rfl, rfl⟩
theorem Fo.swap {u v : V} {a b c : Int} (h : Fo u v a b c) : Fo u v c b a := by
  obtain ⟨x, y, rfl, rfl, rfl, h4, h5⟩ := h
  refine ⟨y, x, rfl, ?_, rfl, fun z => (h4 z).trans (sum_swap x y z), ?_⟩
  · unfold ip; grind
  · rw [← h5]; unfold ar; grind
theorem Fo.less {u v : V} {a b c : Int} (h : Fo u v a b c) (k : Int) : Fo u v a (b - 2 * k * a) (c - k * b + k * k * a) := by
  obtain ⟨x, y, rfl, rfl, rfl, h4, h5⟩ := h
  refine ⟨x, cb x y (-k) 1, rfl, ?_, ?_, fun z => (h4 z).trans (sum_less x y k z), ?_⟩
  · unfold ip nn cb; grind
  · unfold ip nn cb; grind
  · rw [← h5]; unfold ar cb; grind
/-- Both squares are above 0, and four times their product is the middle's square and the area's. -/
theorem Fo.facts {u v : V} {a b c : Int} (h : Fo u v a b c) (h0 : ar u v ≠ 0) : 0 < a ∧ 0 < c ∧ 4 * a * c - b * b = 4 * (ar u v * ar u v) := by
  obtain ⟨x, y, rfl, rfl, rfl, _, h5⟩ := h
  have l := lagrange x y
  have hx := nn_pos x
  have hy := nn_pos y
  have hp : 0 < ar u v * ar u v := by
    have := sq_ge h0
    omega
  have e : 4 * nn x * nn y - 2 * ip x y * (2 * ip x y) = 4 * (ar u v * ar u v) := by rw [← h5, ← l]; grind
  refine ⟨?_, ?_, e⟩
  · rcases Int.lt_or_eq_of_le hx with h | h
    · exact h
    · exfalso
      rw [← h] at l
      have := sq_nn (ip x y)
      omega
  · rcases Int.lt_or_eq_of_le hy with h | h
    · exact h
    · exfalso
      rw [← h] at l
      have := sq_nn (ip x y)
      omega
/-- At the end both are the least. -/
theorem Fo.end' {u v : V} {a b c : Int} (h : Fo u v a b c) (h0 : ar u v ≠ 0) (h1 : a ≤ c) (h2 : b ≤ a) (h3 : -a ≤ b) : Mins (Sum u v) a c := by
  obtain ⟨p1, p2, p3⟩ := h.facts h0
  obtain ⟨x, y, rfl, rfl, rfl, h4, h5⟩ := h
  have r : Red (nn x) (2 * ip x y) (nn y) := ⟨p1, h1, h3, h2⟩
  exact r.mins.congr fun z => (h4 z).symm
/-- The quotient that brings the middle near 0. -/
theorem near_zero {a b : Int} (ha : 0 < a) : -a ≤ b - 2 * ((b + a) / (2 * a)) * a ∧ b - 2 * ((b + a) / (2 * a)) * a ≤ a := by
  have h1 := Int.mul_ediv_add_emod (b + a) (2 * a)
  have h2 := Int.emod_nonneg (b + a) (show 2 * a ≠ 0 by omega)
  have h3 := Int.emod_lt_of_pos (b + a) (show 0 < 2 * a by omega)
  have e : 2 * ((b + a) / (2 * a)) * a = 2 * a * ((b + a) / (2 * a)) := by grind
  rw [e]
  omega
/-- A step makes neither square larger; all that is reckoned stays small. -/
theorem less_small {a b c d M : Int} (ha : 0 < a) (hd : 4 * a * c - b * b = 4 * d) (hd0 : 0 < d) (haM : a ≤ M) (hcM : c ≤ M) (hM : M ≤ 4000000) (hb : ¬ (-a ≤ b ∧ b ≤ a)) :
    (-8000000 ≤ b ∧ b ≤ 8000000) ∧ (-8000000 ≤ (b + a) / (2 * a) ∧ (b + a) / (2 * a) ≤ 8000000) ∧
    (c - (b + a) / (2 * a) * b + (b + a) / (2 * a) * ((b + a) / (2 * a)) * a ≤ c) ∧
    (-64000000000000 ≤ (b + a) / (2 * a) * b ∧ (b + a) / (2 * a) * b ≤ 64000000000000) ∧
    (0 ≤ (b + a) / (2 * a) * ((b + a) / (2 * a)) ∧ (b + a) / (2 * a) * ((b + a) / (2 * a)) ≤ 64000000000000) ∧
    (0 ≤ (b + a) / (2 * a) * ((b + a) / (2 * a)) * a ∧ (b + a) / (2 * a) * ((b + a) / (2 * a)) * a ≤ 256000000000000) ∧
    (-32000000 ≤ 2 * ((b + a) / (2 * a)) * a ∧ 2 * ((b + a) / (2 * a)) * a ≤ 32000000) ∧ (-16000000 ≤ 2 * ((b + a) / (2 * a)) ∧ 2 * ((b + a) / (2 * a)) ≤ 16000000) := by
  have nz := near_zero (b := b) ha
  obtain ⟨k, hk⟩ : ∃ k, k = (b + a) / (2 * a) := ⟨_, rfl⟩
  rw [← hk] at nz ⊢
  -- b is at most 2 M
  have hbb : b * b ≤ 4 * M * M := by
    have h1 : a * c ≤ M * M := by
      have c0 : 0 < c := by
        have h2 := sq_nn b
        rcases Int.lt_or_le 0 c with h | h
        · exact h
        · exfalso
          have := Int.mul_le_mul_of_nonneg_left h (show 0 ≤ 4 * a by omega)
          omega
      exact Int.le_trans (Int.mul_le_mul_of_nonneg_right haM (by omega)) (Int.mul_le_mul_of_nonneg_left hcM (by omega))
    have e1 : 4 * a * c = 4 * (a * c) := by grind
    have e2 : 4 * M * M = 4 * (M * M) := by grind
    omega
  have hbM : -(2 * M) ≤ b ∧ b ≤ 2 * M := by
    constructor
    · rcases Int.lt_or_le b (-(2 * M)) with h | h
      · exfalso
        have h1 := Int.mul_le_mul_of_nonneg_left (show 2 * M + 1 ≤ -b by omega) (show 0 ≤ -b by omega)
        have h2 := Int.mul_le_mul_of_nonneg_right (show 2 * M + 1 ≤ -b by omega) (show 0 ≤ 2 * M + 1 by omega)
        have e1 : -b * -b = b * b := by grind
        have e2 : (2 * M + 1) * (2 * M + 1) = 4 * M * M + 4 * M + 1 := by grind
        rw [e1] at h1
        omega
      · exact h
    · rcases Int.lt_or_le (2 * M) b with h | h
      · exfalso
        have h1 := Int.mul_le_mul_of_nonneg_left (show 2 * M + 1 ≤ b by omega) (show 0 ≤ b by omega)
        have h2 := Int.mul_le_mul_of_nonneg_right (show 2 * M + 1 ≤ b by omega) (show 0 ≤ 2 * M + 1 by omega)
        have e2 : (2 * M + 1) * (2 * M + 1) = 4 * M * M + 4 * M + 1 := by grind
        omega
      · exact h
  -- k a is small
  have ka : -(2 * M) ≤ k * a ∧ k * a ≤ 2 * M := by
    have e : 2 * k * a = 2 * (k * a) := by grind
    omega
  have kM : -(2 * M) ≤ k ∧ k ≤ 2 * M := by
    constructor
    · rcases Int.lt_or_le k (-(2 * M)) with h | h
      · exfalso
        have := Int.mul_le_mul_of_nonneg_left (show 1 ≤ a by omega) (show 0 ≤ -k by omega)
        have e : -k * a = -(k * a) := by grind
        omega
      · exact h
    · rcases Int.lt_or_le (2 * M) k with h | h
      · exfalso
        have := Int.mul_le_mul_of_nonneg_left (show 1 ≤ a by omega) (show 0 ≤ k by omega)
        omega
      · exact h
  have kb : (k * b).natAbs ≤ 8000000 * 8000000 := by
    rw [Int.natAbs_mul]; exact Nat.mul_le_mul (by omega) (by omega)
  have kk : (k * k).natAbs ≤ 8000000 * 8000000 := by
    rw [Int.natAbs_mul]; exact Nat.mul_le_mul (by omega) (by omega)
  have kk0 := sq_nn k
  have kka : (k * k * a).natAbs ≤ 8000000 * 8000000 := by
    rw [show k * k * a = k * (k * a) by grind, Int.natAbs_mul]; exact Nat.mul_le_mul (by omega) (by omega)
  have kka0 := Int.mul_nonneg kk0 (show 0 ≤ a by omega)
  have e2 : 2 * k * a = 2 * (k * a) := by grind
  refine ⟨by omega, by omega, ?_, by omega, by omega, by omega, by omega, by omega⟩
  -- the square is no larger
  have key : 4 * a * (k * b - k * k * a) = b * b - (b - 2 * k * a) * (b - 2 * k * a) := by grind
  have lt : (b - 2 * k * a) * (b - 2 * k * a) ≤ b * b := by
    obtain ⟨z, hz⟩ : ∃ z, z = b - 2 * k * a := ⟨_, rfl⟩
    rw [← hz] at nz ⊢
    have h1 : z * z ≤ a * a := by
      have : (z * z).natAbs ≤ a.natAbs * a.natAbs := by rw [Int.natAbs_mul]; exact Nat.mul_le_mul (by omega) (by omega)
      have e : (a * a).natAbs = a.natAbs * a.natAbs := Int.natAbs_mul a a
      have := sq_nn a
      omega
    have h2 : a * a ≤ b * b := by
      have : a.natAbs * a.natAbs ≤ b.natAbs * b.natAbs := Nat.mul_le_mul (by omega) (by omega)
      have e1 : (a * a).natAbs = a.natAbs * a.natAbs := Int.natAbs_mul a a
      have e2 : (b * b).natAbs = b.natAbs * b.natAbs := Int.natAbs_mul b b
      have := sq_nn a
      have := sq_nn b
      omega
    omega
  have pos : 0 ≤ 4 * a * (k * b - k * k * a) := by omega
  have : 0 ≤ k * b - k * k * a := by
    rcases Int.lt_or_le (k * b - k * k * a) 0 with h | h
    · exfalso
      have := Int.mul_le_mul_of_nonneg_left (show k * b - k * k * a ≤ -1 by omega) (show 0 ≤ 4 * a by omega)
      omega
    · exact h
  omega
end Go.Proofs.Ytlnehhhlpdaebaa.Lag
