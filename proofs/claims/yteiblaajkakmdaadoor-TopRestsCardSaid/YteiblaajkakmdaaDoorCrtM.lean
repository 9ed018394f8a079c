/- Plain facts on systems of congruences: joining one more, when there is no solution, and that there is but one least solution. No program is named here. -/
import Derived.KernelRfl
namespace Go.Proofs.YteiblaajkakmdaaDoor.CrtM
set_option linter.unusedVariables false

/-- x leaves all rests. -/
def Meets (S : Int × Int → Prop) (x : Int) : Prop := ∀ p, S p → x % p.2 = p.1
/-- step is the least common multiple of the moduli. -/
def IsLcm (S : Int × Int → Prop) (step : Int) : Prop := 0 < step ∧ (∀ p, S p → p.2 ∣ step) ∧ ∀ d, (∀ p, S p → p.2 ∣ d) → step ∣ d
/-- The least solution, and by what all are apart. -/
def Sol (S : Int × Int → Prop) (x step : Int) : Prop := IsLcm S step ∧ 0 ≤ x ∧ x < step ∧ Meets S x
def NoSol (S : Int × Int → Prop) : Prop := ∀ y, ¬ Meets S y
/-- One congruence more. -/
def More (S : Int × Int → Prop) (q : Int × Int) : Int × Int → Prop := fun p => S p ∨ p = q

theorem lcm_one (S : Int × Int → Prop) (a b : Int) (h : IsLcm S a) (h' : IsLcm S b) : a = b := by
  have h1 := h.2.2 b h'.2.1
  have h2 := h'.2.2 a h.2.1
  have := Int.le_of_dvd h'.1 h1
  have := Int.le_of_dvd h.1 h2
  omega

theorem dvd_of_mod_eq {a b m : Int} (h : a % m = b % m) : m ∣ a - b := by
  exact Int.dvd_of_emod_eq_zero (by rw [Int.sub_emod, h, Int.sub_self, Int.zero_emod])

theorem mod_eq_of_dvd {a b m : Int} (h : m ∣ a - b) : a % m = b % m := by
  obtain ⟨k, hk⟩ := h
  obtain rfl : a = b + m * k := by omega
  exact Int.add_mul_emod_self_left b m k

theorem meets_dvd (S : Int × Int → Prop) (step x y : Int) (hl : IsLcm S step) (hx : Meets S x) (hy : Meets S y) : step ∣ x - y :=
  hl.2.2 _ fun p hp => dvd_of_mod_eq ((hx p hp).trans (hy p hp).symm)

theorem eq_of_mod {x y m : Int} (hx : 0 ≤ x) (hx' : x < m) (hy : 0 ≤ y) (hy' : y < m) (h : m ∣ x - y) : x = y := by
  have e := mod_eq_of_dvd h
  rw [Int.emod_eq_of_lt hx hx', Int.emod_eq_of_lt hy hy'] at e
  exact e

theorem sol_one (S : Int × Int → Prop) (x a y b : Int) (h : Sol S x a) (h' : Sol S y b) : x = y ∧ a = b := by
  have e := lcm_one S a b h.1 h'.1
  subst e
  exact ⟨eq_of_mod h.2.1 h.2.2.1 h'.2.1 h'.2.2.1 (meets_dvd S a x y h.1 h.2.2.2 h'.2.2.2), rfl⟩

theorem sol_not {S : Int × Int → Prop} {x a : Int} (h : Sol S x a) (h' : NoSol S) : False := h' x h.2.2.2

theorem sol_of (S S' : Int × Int → Prop) (hs : ∀ p, S p ↔ S' p) (x a : Int) (h : Sol S x a) : Sol S' x a := by
  have : S = S' := funext fun p => propext (hs p)
  exact this ▸ h
theorem lcm_of (S S' : Int × Int → Prop) (hs : ∀ p, S p ↔ S' p) (a : Int) (h : IsLcm S a) : IsLcm S' a := by
  have : S = S' := funext fun p => propext (hs p)
  exact this ▸ h
theorem noSol_of (S S' : Int × Int → Prop) (hs : ∀ p, S p → S' p) (h : NoSol S) : NoSol S' := fun y hy => h y fun p hp => hy p (hs p hp)

theorem lcm_none (S : Int × Int → Prop) (h : ∀ p, ¬ S p) : IsLcm S 1 := ⟨by decide, fun p hp => absurd hp (h p), fun d _ => Int.one_dvd d⟩
theorem sol_none (S : Int × Int → Prop) (h : ∀ p, ¬ S p) : Sol S 0 1 := ⟨lcm_none S h, by decide, by decide, fun p hp => absurd hp (h p)⟩

/-- The greatest common divisor's parts. -/
theorem gcd_split (a m : Int) (hm : 0 < m) : ∃ g s t : Int, g = (Int.gcd a m : Int) ∧ 0 < g ∧ a = g * s ∧ m = g * t ∧ 0 < t ∧ m / g = t := by
  have hg : 0 < Int.gcd a m := Int.gcd_pos_of_ne_zero_right a (by omega)
  obtain ⟨s, hs⟩ := Int.gcd_dvd_left a m
  obtain ⟨t, ht⟩ := Int.gcd_dvd_right a m
  refine ⟨_, s, t, rfl, by omega, hs, ht, ?_, ?_⟩
  · refine Int.pos_of_mul_pos_right (a := (Int.gcd a m : Int)) ?_ (by omega)
    rw [← ht]; exact hm
  · conv => lhs; lhs; rw [ht]
    exact Int.mul_ediv_cancel_left t (by omega)

theorem gcd_mod (a m : Int) : Int.gcd (a % m) m = Int.gcd a m := by
  have e : a % m = a - m * (a / m) := by have := Int.emod_add_mul_ediv a m; omega
  refine Nat.dvd_antisymm (Int.ofNat_dvd.1 ?_) (Int.ofNat_dvd.1 ?_)
  · refine Int.dvd_coe_gcd ?_ (Int.gcd_dvd_right (a % m) m)
    have h1 := Int.gcd_dvd_left (a % m) m
    have h2 := Int.dvd_mul_of_dvd_left (c := a / m) (Int.gcd_dvd_right (a % m) m)
    have := Int.dvd_add h1 h2
    rwa [Int.emod_add_mul_ediv] at this
  · refine Int.dvd_coe_gcd ?_ (Int.gcd_dvd_right a m)
    have h1 := Int.gcd_dvd_left a m
    have h2 := Int.dvd_mul_of_dvd_left (c := a / m) (Int.gcd_dvd_right a m)
    have := Int.dvd_sub h1 h2
    rwa [← e] at this

theorem lcm_more (S : Int × Int → Prop) (step r m : Int) (h : IsLcm S step) (hm : 0 < m) : IsLcm (More S (r, m)) (step * (m / (Int.gcd step m : Int))) := by
  obtain ⟨g, s, t, e, hg, hs, ht, htp, hd⟩ := gcd_split step m hm
  rw [← e, hd]
  refine ⟨Int.mul_pos h.1 htp, ?_, ?_⟩
  · rintro p (hp | rfl)
    · exact Int.dvd_mul_of_dvd_left (h.2.1 p hp)
    · refine ⟨s, ?_⟩
      show step * t = m * s
      rw [hs, ht]; grind
  · intro d hd'
    have h1 : step ∣ d := h.2.2 d fun p hp => hd' p (.inl hp)
    have h2 : m ∣ d := hd' (r, m) (.inr rfl)
    have h3 : (Int.lcm step m : Int) ∣ d := Int.coe_lcm_dvd h1 h2
    have h4 : (Int.gcd step m : Int) * (Int.lcm step m : Int) = step * m := by
      have := Int.gcd_mul_lcm step m
      have h5 := h.1
      have e1 : ((step.natAbs : Nat) : Int) = step := by omega
      have e2 : ((m.natAbs : Nat) : Int) = m := by omega
      rw [← Int.natCast_mul, this, Int.natCast_mul, e1, e2]
    have h6 : (Int.lcm step m : Int) = step * t := by
      refine Int.eq_of_mul_eq_mul_left (a := g) (by omega) ?_
      rw [e, h4, ← e]
      conv => lhs; rw [ht]
      grind
    rw [← h6]; exact h3

/-- Without a common rest modulo the greatest common divisor there is no solution. -/
theorem clash (S : Int × Int → Prop) (x step r m : Int) (hl : IsLcm S step) (hx : Meets S x) (hm : 0 < m)
    (h : ¬ (Int.gcd step m : Int) ∣ r - x) : NoSol (More S (r, m)) := by
  intro y hy
  refine h ?_
  have h1 : step ∣ x - y := meets_dvd S step x y hl hx fun p hp => hy p (.inl hp)
  have h2 : y % m = r := hy (r, m) (.inr rfl)
  have h3 : m ∣ y - r := by
    refine ⟨y / m, ?_⟩
    have := Int.emod_add_mul_ediv y m
    omega
  have d1 := Int.dvd_trans (Int.gcd_dvd_left step m) h1
  have d2 := Int.dvd_trans (Int.gcd_dvd_right step m) h3
  have d3 := Int.dvd_add d1 d2
  have e : x - y + (y - r) = -(r - x) := by omega
  rw [e] at d3
  exact Int.dvd_neg.1 d3

/-- The join of the program: missing = (r - x) mod m, and Bezout's number of step mod m. -/
theorem join (S : Int × Int → Prop) (x step r m inv y : Int) (h : Sol S x step) (hm : 0 < m) (hr : 0 ≤ r) (hr' : r < m)
    (hb : step % m * inv + m * y = (Int.gcd step m : Int)) (hd : (Int.gcd step m : Int) ∣ (r - x) % m) :
    Sol (More S (r, m)) (x + step * ((r - x) % m / (Int.gcd step m : Int) * inv % (m / (Int.gcd step m : Int)))) (step * (m / (Int.gcd step m : Int))) := by
  have hl := lcm_more S step r m h.1 hm
  obtain ⟨g, s, t, e, hg, hs, ht, htp, hdv⟩ := gcd_split step m hm
  rw [← e] at hl hb hd ⊢
  rw [hdv] at hl ⊢
  obtain ⟨k, hk⟩ := hd
  have hkk : (r - x) % m / g = k := by rw [hk]; exact Int.mul_ediv_cancel_left k (by omega)
  rw [hkk]
  have n0 := Int.emod_nonneg (k * inv) (show t ≠ 0 by omega)
  have n1 := Int.emod_lt_of_pos (k * inv) htp
  have hsp := Int.emod_add_mul_ediv (k * inv) t
  generalize k * inv % t = n at *
  generalize k * inv / t = q at *
  have hst := h.1.1
  have p0 : 0 ≤ step * n := Int.mul_nonneg (by omega) n0
  have p1 : step * n + step ≤ step * t := by
    have : step * (n + 1) ≤ step * t := Int.mul_le_mul_of_nonneg_left (by omega) (by omega)
    rw [Int.mul_add, Int.mul_one] at this; exact this
  have hx := h.2.1
  have hx' := h.2.2.1
  refine ⟨hl, by omega, by omega, ?_⟩
  rintro p (hp | rfl)
  · have := h.2.2.2 p hp
    rw [← this]
    refine mod_eq_of_dvd ?_
    have : x + step * n - x = step * n := by omega
    rw [this]
    exact Int.dvd_mul_of_dvd_left (h.1.2.1 p hp)
  · show (x + step * n) % m = r
    have hr0 : r % m = r := Int.emod_eq_of_lt hr hr'
    conv => rhs; rw [← hr0]
    refine mod_eq_of_dvd ?_
    -- step n = step (k inv - t q); step inv = g mod m; g k = r - x mod m
    have hmod := Int.emod_add_mul_ediv step m
    have hrx := Int.emod_add_mul_ediv (r - x) m
    rw [hk] at hrx
    generalize step / m = c at *
    generalize (r - x) / m = c' at *
    generalize step % m = d at *
    refine ⟨c * k * inv - s * q - y * k - c', ?_⟩
    have e1 : n = k * inv - t * q := by omega
    have e2 : step = d + m * c := by omega
    have e3 : r = x + g * k + m * c' := by omega
    have e4 : step * t = m * s := by rw [hs, ht]; grind
    have e5 : step * n = step * inv * k - step * t * q := by rw [e1]; grind
    have e6 : step * inv = g - m * y + m * c * inv := by
      have : step * inv = d * inv + m * c * inv := by
        conv => lhs; rw [e2]
        grind
      omega
    rw [e5, e4, e6, e3]
    grind

/-- The reference: x + n step, n < m, tried one by one. -/
theorem tries_none (S : Int × Int → Prop) (x step r m : Int) (hl : IsLcm S step) (hx : Meets S x) (hm : 0 < m)
    (h : ∀ n : Int, 0 ≤ n → n < m → (x + n * step) % m ≠ r) : NoSol (More S (r, m)) := by
  intro y hy
  obtain ⟨k, hk⟩ := meets_dvd S step y x hl (fun p hp => hy p (.inl hp)) hx
  have h2 : y % m = r := hy (r, m) (.inr rfl)
  refine h (k % m) (Int.emod_nonneg k (by omega)) (Int.emod_lt_of_pos k hm) ?_
  rw [← h2]
  refine mod_eq_of_dvd ⟨-(k / m) * step, ?_⟩
  have := Int.emod_add_mul_ediv k m
  have e : k % m = k - m * (k / m) := by omega
  rw [e]
  have e2 : y = x + step * k := by omega
  rw [e2]; grind

theorem tries_hit (S : Int × Int → Prop) (x step r m n : Int) (hl : IsLcm S step) (hx : Meets S x) (h : (x + n * step) % m = r) : Meets (More S (r, m)) (x + n * step) := by
  rintro p (hp | rfl)
  · rw [← hx p hp]
    refine mod_eq_of_dvd ?_
    have : x + n * step - x = n * step := by omega
    rw [this]
    exact Int.dvd_mul_of_dvd_right (hl.2.1 p hp)
  · exact h

/-- From any solution to the least one. -/
theorem least (S : Int × Int → Prop) (x step : Int) (hl : IsLcm S step) (hx : Meets S x) : Sol S (x % step) step := by
  refine ⟨hl, Int.emod_nonneg x (by have := hl.1; omega), Int.emod_lt_of_pos x hl.1, fun p hp => ?_⟩
  rw [← hx p hp]
  exact Int.emod_emod_of_dvd x (hl.2.1 p hp)

theorem part_eq (a m : Int) (g : Int) (hg : 0 < g) (hd : g ∣ a) (hd' : g ∣ m) : a / g * m = a * (m / g) := by
  obtain ⟨s, rfl⟩ := hd
  obtain ⟨t, rfl⟩ := hd'
  rw [Int.mul_ediv_cancel_left _ (by omega), Int.mul_ediv_cancel_left _ (by omega)]
  grind

theorem lcm_more' (S : Int × Int → Prop) (step r m : Int) (h : IsLcm S step) (hm : 0 < m) : IsLcm (More S (r, m)) (step / (Int.gcd step m : Int) * m) := by
  have := lcm_more S step r m h hm
  rw [part_eq step m _ (by have := Int.gcd_pos_of_ne_zero_right step (show m ≠ 0 by omega); omega) (Int.gcd_dvd_left step m) (Int.gcd_dvd_right step m)]
  exact this

theorem gcd_bounds (S m : Int) (h1 : 1 ≤ S) (h2 : 1 ≤ m) : 1 ≤ (Int.gcd S m : Int) ∧ (Int.gcd S m : Int) ≤ m ∧ (Int.gcd S m : Int) ≤ S := by
  have hp : 0 < Int.gcd S m := Int.gcd_pos_of_ne_zero_right S (by omega)
  have a := Int.le_of_dvd (by omega) (Int.gcd_dvd_right S m)
  have b := Int.le_of_dvd (by omega) (Int.gcd_dvd_left S m)
  omega

end Go.Proofs.YteiblaajkakmdaaDoor.CrtM
