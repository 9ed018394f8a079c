/- Plain facts on two congruences. -/
import Derived.Test.YteiblaajkakmdaaDoorCrtC
namespace Go.Proofs.YteiblaajkakmdaaDoor
set_option linter.unusedVariables false

theorem pairs_two (a b m n : Int) (p : Int × Int) : Pairs [a, b] [m, n] 2 p ↔ CrtM.More (CrtM.More (Pairs [a, b] [m, n] 0) (a, m)) (b, n) p := by
  rw [← pairs_succ]
  show Pairs [a, b] [m, n] 1 p ∨ _ ↔ _ ∨ _
  rw [← pairs_succ]
  exact Iff.rfl

theorem good_fine (a b m n : Int) (h1 : Good a m) (h2 : Good b n) : Fine [a, b] [m, n] := fun k hk => by
  have : k = 0 ∨ k = 1 := by have : k < 2 := hk; omega
  rcases this with rfl | rfl
  · exact h1
  · exact h2

/-- One congruence's own answer. -/
theorem sol_first (a b m n : Int) (h1 : Good a m) : CrtM.Sol (CrtM.More (Pairs [a, b] [m, n] 0) (a, m)) a m := by
  obtain ⟨m1, m2, r0, r1⟩ := h1
  have hl := CrtM.lcm_more _ 1 a m (CrtM.lcm_none _ (pairs_none [a, b] [m, n])) (by omega)
  have e : (Int.gcd 1 m : Int) = 1 := by simp
  rw [e, Int.ediv_one, Int.one_mul] at hl
  refine ⟨hl, r0, r1, ?_⟩
  rintro p (hp | rfl)
  · exact absurd hp (pairs_none _ _ p)
  · exact Int.emod_eq_of_lt r0 r1

/-- What Solve answers to two congruences. -/
theorem two_ans (a b m n x y c z s : Int) (h1 : Good a m) (h2 : Good b n) (hb : m * x + n * y = (Int.gcd m n : Int)) (h : Ans [a, b] [m, n] c z s) :
    (c = 6 ∧ ¬ (Int.gcd m n : Int) ∣ a - b) ∨ (c = 0 ∧ (Int.gcd m n : Int) ∣ a - b ∧ CrtM.Sol (Pairs [a, b] [m, n] 2) z s) := by
  have hf := good_fine a b m n h1 h2
  rcases h with ⟨h, _⟩ | ⟨_, h, _⟩ | ⟨_, _, f, _⟩ | ⟨_, _, _, no, rfl, _, _⟩ | ⟨_, _, _, hs, _, rfl⟩
  · exact absurd h (by simp)
  · exact absurd rfl h
  · exact absurd hf f
  · left
    refine ⟨rfl, fun hd => ?_⟩
    have n1 := h2.1
    have hd' : (Int.gcd m n : Int) ∣ (b - a) % n := by
      have e : (b - a) % n = (b - a) - n * ((b - a) / n) := by have := Int.emod_add_mul_ediv (b - a) n; omega
      rw [e]
      refine Int.dvd_sub ?_ (Int.dvd_mul_of_dvd_left (Int.gcd_dvd_right m n))
      have : b - a = -(a - b) := by omega
      rw [this]; exact Int.dvd_neg.2 hd
    have hb' : m % n * x + n * (y + m / n * x) = (Int.gcd m n : Int) := by
      have e : m % n = m - n * (m / n) := by have := Int.emod_add_mul_ediv m n; omega
      rw [← hb, e]; grind
    have hj := CrtM.join _ a m b n x (y + m / n * x) (sol_first a b m n h1) (by omega) h2.2.2.1 h2.2.2.2 hb' hd'
    exact CrtM.sol_not (CrtM.sol_of _ _ (fun p => (pairs_two a b m n p).symm) _ _ hj) no
  · right
    refine ⟨rfl, ?_, hs⟩
    have e1 : z % m = a := hs.2.2.2 (a, m) ⟨0, (show 0 < 2 by decide), rfl⟩
    have e2 : z % n = b := hs.2.2.2 (b, n) ⟨1, (show 1 < 2 by decide), rfl⟩
    have f1 : a = z - m * (z / m) := by have := Int.emod_add_mul_ediv z m; omega
    have f2 : b = z - n * (z / n) := by have := Int.emod_add_mul_ediv z n; omega
    have : a - b = n * (z / n) - m * (z / m) := by omega
    rw [this]
    exact Int.dvd_sub (Int.dvd_mul_of_dvd_left (Int.gcd_dvd_right m n)) (Int.dvd_mul_of_dvd_left (Int.gcd_dvd_left m n))

/-- The answer for coprime moduli, made of Bezout's numbers. -/
theorem two_coprime (a b m n x y z s : Int) (h1 : Good a m) (h2 : Good b n) (hb : m * x + n * y = 1) (hg : (Int.gcd m n : Int) = 1) (h : CrtM.Sol (Pairs [a, b] [m, n] 2) z s) :
    s = m * n ∧ z = (a * n * y + b * m * x) % (m * n) := by
  have n1 := h2.1
  have hl := CrtM.lcm_more _ m b n (sol_first a b m n h1).1 (by omega)
  rw [hg, Int.ediv_one] at hl
  have hl2 := CrtM.lcm_of _ _ (fun p => (pairs_two a b m n p).symm) _ hl
  have es := CrtM.lcm_one _ _ _ h.1 hl2
  refine ⟨es, ?_⟩
  have hm : CrtM.Meets (Pairs [a, b] [m, n] 2) (a * n * y + b * m * x) := by
    rintro p ⟨j, hj, rfl⟩
    have : j = 0 ∨ j = 1 := by omega
    rcases this with rfl | rfl
    · show (a * n * y + b * m * x) % m = a
      have e : a * n * y + b * m * x = a + m * (b * x - a * x) := by
        have : n * y = 1 - m * x := by omega
        have e2 : a * n * y = a * (n * y) := by grind
        rw [e2, this]; grind
      rw [e, Int.add_mul_emod_self_left]
      exact Int.emod_eq_of_lt h1.2.2.1 h1.2.2.2
    · show (a * n * y + b * m * x) % n = b
      have e : a * n * y + b * m * x = b + n * (a * y - b * y) := by
        have : m * x = 1 - n * y := by omega
        have e2 : b * m * x = b * (m * x) := by grind
        rw [e2, this]; grind
      rw [e, Int.add_mul_emod_self_left]
      exact Int.emod_eq_of_lt h2.2.2.1 h2.2.2.2
  have := (CrtM.sol_one _ _ _ _ _ h (CrtM.least _ _ s h.1 hm)).1
  rw [this, es]

/-- Bezout's numbers of two small numbers are small. -/
theorem bez_hundred (m n x y g : Int) (m1 : 1 ≤ m) (m2 : m ≤ 100) (n1 : 1 ≤ n) (n2 : n ≤ 100) (g1 : 1 ≤ g) (gm : g ≤ m) (x0 : 0 ≤ x) (x1 : x < n) (h : m * x + n * y = g) : x ≤ 100 ∧ -100 ≤ y ∧ y ≤ 100 := by
  have p0 : 0 ≤ m * x := Int.mul_nonneg (by omega) x0
  have p1 : m * x ≤ m * n := Int.mul_le_mul_of_nonneg_left (by omega) (by omega)
  refine ⟨by omega, ?_, ?_⟩
  · refine Int.le_of_mul_le_mul_left (a := n) ?_ (by omega)
    have : m * n ≤ 100 * n := Int.mul_le_mul_of_nonneg_right m2 (by omega)
    omega
  · refine Int.le_of_mul_le_mul_left (a := n) ?_ (by omega)
    have : n * 100 ≥ 100 := by omega
    omega

theorem one_ans (c x s : Int) (h : Ans [1] [4] c x s) : c = 0 ∧ x = 1 ∧ s = 4 := by
  have hs : CrtM.Sol (Pairs [1] [4] 1) 1 4 := by
    have hl := CrtM.lcm_more _ 1 1 4 (CrtM.lcm_none _ (pairs_none [1] [4])) (by decide)
    refine ⟨CrtM.lcm_of _ _ (fun p => pairs_succ [1] [4] 0 p) 4 hl, by decide, by decide, ?_⟩
    rintro p ⟨j, hj, rfl⟩
    obtain rfl : j = 0 := by omega
    decide
  have ha : Ans [1] [4] 0 1 4 := by
    refine .inr (.inr (.inr (.inr ⟨by decide, rfl, ?_, hs, by decide, rfl⟩)))
    intro k hk
    obtain rfl : k = 0 := by have : k < 1 := hk; omega
    exact ⟨by decide, by decide, by decide, by decide⟩
  exact ans_one _ _ _ _ _ _ _ _ h ha

end Go.Proofs.YteiblaajkakmdaaDoor
