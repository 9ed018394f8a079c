/- Plain facts on whole numbers: what Bezout's numbers are, that there is just one pair in the bounds, and that Euclid's algorithm with signs keeps to them. No program is named here. -/
import Derived.Test.YtkebjmapdcbnaaaNum
namespace Go.Proofs.Ytkebjmapdcbnaaa.Num

/-- What the loop of the algorithm keeps. -/
def FacInv (a b a0 x0 a1 x1 : Int) : Prop :=
  b ∣ a0 - x0 * a ∧ b ∣ a1 - x1 * a ∧ Int.gcd a0 a1 = Int.gcd a b ∧ x0.natAbs * a1.natAbs + x1.natAbs * a0.natAbs ≤ b.natAbs ∧
    x0.natAbs ≤ b.natAbs ∧ x1.natAbs ≤ b.natAbs ∧ a0.natAbs ≤ 1000000 ∧ a1.natAbs ≤ 1000000

theorem fac_start (a b : Int) (ha : a.natAbs ≤ 1000000) (hb : b.natAbs ≤ 1000000) (h0 : b ≠ 0) : FacInv a b a 1 b 0 := by
  refine ⟨?_, ?_, rfl, ?_, ?_, ?_, ha, hb⟩
  · rw [Int.one_mul, Int.sub_self]; exact Int.dvd_zero b
  · rw [Int.zero_mul, Int.sub_zero]; exact Int.dvd_refl b
  · simp
  · simp; omega
  · simp

theorem int_split (a0 a1 : Int) : a0 - a0.tdiv a1 * a1 = a0.tmod a1 := by
  have := Int.tmod_add_mul_tdiv a0 a1
  rw [Int.mul_comm a1] at this
  omega

theorem abs_split (a0 a1 : Int) : a0.natAbs = a1.natAbs * (a0.tdiv a1).natAbs + (a0.tmod a1).natAbs := by
  rw [Int.natAbs_tdiv, Int.natAbs_tmod]
  exact (Nat.div_add_mod _ _).symm

theorem gcd_tmod (a0 a1 : Int) : Int.gcd a1 (a0.tmod a1) = Int.gcd a0 a1 := by
  rw [Int.gcd_eq_natAbs_gcd_natAbs, Int.gcd_eq_natAbs_gcd_natAbs, Int.natAbs_tmod]
  exact gcd_step _ _

theorem mul_q (x1 a0 a1 : Nat) (q r : Nat) (h : a0 = a1 * q + r) (B : Nat) (hB : x1 * a0 ≤ B) (h1 : 0 < a1) : q * x1 ≤ B ∧ q * a1 ≤ a0 ∧ q ≤ a0 := by
  have e : a1 * q ≤ a0 := by omega
  have hq : q ≤ a1 * q := Nat.le_mul_of_pos_left q h1
  have hq2 : q ≤ a0 := by omega
  refine ⟨?_, by rw [Nat.mul_comm]; exact e, hq2⟩
  have : x1 * q ≤ x1 * a0 := Nat.mul_le_mul_left x1 hq2
  rw [Nat.mul_comm]
  omega

theorem fac_step (a b a0 x0 a1 x1 : Int) (hi : FacInv a b a0 x0 a1 x1) (h1 : a1 ≠ 0) (hb : b.natAbs ≤ 1000000) :
    FacInv a b a1 x1 (a0 - a0.tdiv a1 * a1) (x0 - a0.tdiv a1 * x1) ∧
      (a0.tdiv a1).natAbs ≤ 1000000 ∧ (a0.tdiv a1 * a1).natAbs ≤ 1000000 ∧ (a0.tdiv a1 * x1).natAbs ≤ 1000000 := by
  obtain ⟨d0, d1, hg, hs, k0, k1, m0, m1⟩ := hi
  have hsp := abs_split a0 a1
  have h1' : 0 < a1.natAbs := by omega
  have hB : x1.natAbs * a0.natAbs ≤ b.natAbs := by omega
  obtain ⟨q1, q2, q3⟩ := mul_q x1.natAbs a0.natAbs a1.natAbs _ _ hsp b.natAbs hB h1'
  have e0 := int_split a0 a1
  have hlt : (a0.tmod a1).natAbs < a1.natAbs := by rw [Int.natAbs_tmod]; exact Nat.mod_lt _ h1'
  have hx : (x0 - a0.tdiv a1 * x1).natAbs ≤ x0.natAbs + (a0.tdiv a1).natAbs * x1.natAbs := by
    rw [← Int.natAbs_mul]; omega
  have key : x1.natAbs * (a0.tmod a1).natAbs + (x0 - a0.tdiv a1 * x1).natAbs * a1.natAbs ≤ b.natAbs := by
    have t1 : (x0 - a0.tdiv a1 * x1).natAbs * a1.natAbs ≤ (x0.natAbs + (a0.tdiv a1).natAbs * x1.natAbs) * a1.natAbs := Nat.mul_le_mul_right _ hx
    rw [Nat.add_mul] at t1
    have t2 : x1.natAbs * a0.natAbs = x1.natAbs * (a1.natAbs * (a0.tdiv a1).natAbs) + x1.natAbs * (a0.tmod a1).natAbs := by rw [← Nat.mul_add, ← hsp]
    have t3 : (a0.tdiv a1).natAbs * x1.natAbs * a1.natAbs = x1.natAbs * (a1.natAbs * (a0.tdiv a1).natAbs) := by
      rw [Nat.mul_comm (a0.tdiv a1).natAbs, Nat.mul_assoc, Nat.mul_comm (a0.tdiv a1).natAbs]
    omega
  refine ⟨⟨d1, ?_, ?_, ?_, k1, ?_, m1, ?_⟩, by omega, ?_, ?_⟩
  · have e : a0 - a0.tdiv a1 * a1 - (x0 - a0.tdiv a1 * x1) * a = (a0 - x0 * a) - a0.tdiv a1 * (a1 - x1 * a) := by
      rw [Int.sub_mul, Int.mul_sub, Int.mul_assoc]; omega
    rw [e]
    exact Int.dvd_sub d0 (Int.dvd_mul_of_dvd_right d1)
  · rw [e0, gcd_tmod]; exact hg
  · rw [e0]; exact key
  · have : (x0 - a0.tdiv a1 * x1).natAbs * 1 ≤ (x0 - a0.tdiv a1 * x1).natAbs * a1.natAbs := Nat.mul_le_mul_left _ h1'
    omega
  · rw [e0]; omega
  · rw [Int.natAbs_mul]; omega
  · rw [Int.natAbs_mul]; omega

/-- What the algorithm ends with: some number x with b dividing a x - g. -/
def FacOk (a b x : Int) : Prop := b ∣ (Int.gcd a b : Int) - x * a ∧ x.natAbs ≤ b.natAbs

theorem fac_end_neg (a b a0 x0 x1 : Int) (hi : FacInv a b a0 x0 0 x1) (h : a0 < 0) : FacOk a b (-x0) := by
  obtain ⟨d0, _, hg, _, k0, _, _, _⟩ := hi
  rw [Int.gcd_zero_right] at hg
  refine ⟨?_, by rw [Int.natAbs_neg]; exact k0⟩
  rw [← hg, Int.neg_mul]
  have e : ((a0.natAbs : Nat) : Int) - -(x0 * a) = -(a0 - x0 * a) := by omega
  rw [e]
  exact Int.dvd_neg.2 d0

theorem fac_end_pos (a b a0 x0 x1 : Int) (hi : FacInv a b a0 x0 0 x1) (h : 0 ≤ a0) : FacOk a b x0 := by
  obtain ⟨d0, _, hg, _, k0, _, _, _⟩ := hi
  rw [Int.gcd_zero_right] at hg
  refine ⟨?_, k0⟩
  rw [← hg]
  have e : ((a0.natAbs : Nat) : Int) - x0 * a = a0 - x0 * a := by omega
  rw [e]
  exact d0

theorem tmod_fix (n m : Int) (hm : 0 < m) : (n.tmod m < 0 → n.tmod m + m = n % m) ∧ (0 ≤ n.tmod m → n.tmod m = n % m) := by
  have e : n.tmod m = n % m - if 0 ≤ n ∨ m ∣ n then 0 else m.natAbs := Int.tmod_eq_emod
  have h0 := Int.emod_nonneg n (Int.ne_of_gt hm)
  have h1 := Int.emod_lt_of_pos n hm
  by_cases c : 0 ≤ n ∨ m ∣ n
  · rw [if_pos c] at e
    constructor <;> intro h <;> omega
  · rw [if_neg c] at e
    constructor <;> intro h <;> omega

theorem tmod_bound (n m : Int) (hm : 0 < m) : -m < n.tmod m ∧ n.tmod m < m := by
  have h1 := Int.natAbs_tmod n m
  have h2 := Nat.mod_lt n.natAbs (show 0 < m.natAbs by omega)
  omega

/-- Bezout's numbers: g, and x and y with a x + b y = g, x the least from 0 on if b is not 0. -/
def BezOk (a b x y : Int) : Prop :=
  a * x + b * y = (Int.gcd a b : Int) ∧ (b ≠ 0 → 0 ≤ x ∧ x < ((b.natAbs / Int.gcd a b : Nat) : Int)) ∧ (b = 0 → x = a.sign ∧ y = 0)

theorem gcd_pos (a b : Int) (hb : b ≠ 0) : 0 < Int.gcd a b := Int.gcd_pos_of_ne_zero_right a hb

theorem bez_zero (a : Int) : BezOk a 0 a.sign 0 := by
  refine ⟨?_, fun h => absurd rfl h, fun _ => ⟨rfl, rfl⟩⟩
  rw [Int.gcd_zero_right]
  rcases Int.lt_trichotomy a 0 with h | h | h
  · rw [Int.sign_eq_neg_one_of_neg h]; omega
  · subst h; decide
  · rw [Int.sign_eq_one_of_pos h]; omega

/-- From a number that will do to the least one. -/
theorem bez_of (a b x0 : Int) (hb : b ≠ 0) (hx : FacOk a b x0) :
    ∀ x y : Int, x = x0 % ((b.natAbs / Int.gcd a b : Nat) : Int) → y = ((Int.gcd a b : Int) - a * x).tdiv b → BezOk a b x y := by
  intro x y ex ey
  have hg := gcd_pos a b hb
  have hd : Int.gcd a b ∣ b.natAbs := by
    rw [Int.gcd_eq_natAbs_gcd_natAbs]; exact Nat.gcd_dvd_right _ _
  obtain ⟨m, hm⟩ := hd
  have em : b.natAbs / Int.gcd a b = m := by rw [hm]; exact Nat.mul_div_cancel_left m hg
  rw [em] at ex
  have hmp : 0 < m := by
    refine Nat.pos_of_ne_zero fun h => ?_
    subst h; omega
  have hda : (Int.gcd a b : Int) ∣ a := Int.gcd_dvd_left a b
  obtain ⟨a', ha'⟩ := hda
  have hx0 := Int.emod_nonneg x0 (show (m : Int) ≠ 0 by omega)
  have hx1 := Int.emod_lt_of_pos x0 (show (0 : Int) < (m : Int) by omega)
  have hsplit := Int.emod_add_mul_ediv x0 m
  have hbm : b ∣ (Int.gcd a b : Int) * (m : Int) := by
    have : ((b.natAbs : Nat) : Int) = (Int.gcd a b : Int) * (m : Int) := by rw [hm]; exact Int.natCast_mul _ _
    rw [← this]; exact Int.dvd_natAbs_self
  have hdiv : b ∣ (Int.gcd a b : Int) - a * x := by
    have e : (Int.gcd a b : Int) - a * x = ((Int.gcd a b : Int) - x0 * a) + (Int.gcd a b : Int) * (m : Int) * (a' * (x0 / m)) := by
      generalize (Int.gcd a b : Int) = g at *
      rw [ex]
      have : x0 % m = x0 - m * (x0 / m) := by omega
      rw [this]
      generalize x0 / (m : Int) = k
      subst ha'
      grind
    rw [e]
    exact Int.dvd_add hx.1 (Int.dvd_mul_of_dvd_left hbm)
  obtain ⟨k, hk⟩ := hdiv
  have ek : y = k := by rw [ey, hk]; exact Int.mul_tdiv_cancel_left k hb
  refine ⟨by rw [ek, ← hk]; omega, fun _ => by rw [em, ex]; exact ⟨hx0, hx1⟩, fun h => absurd h hb⟩

/-- The numbers on the way are small. -/
theorem bez_small (a b x : Int) (g : Nat) (h1 : -1000000 ≤ a) (h2 : a ≤ 1000000) (hg : g ≤ 1000000) (hx : 0 ≤ x) (hx' : x ≤ 1000000) :
    (-1000000000000 ≤ a * x ∧ a * x ≤ 1000000000000) ∧ (-2000000000000 ≤ ((g : Int) - a * x).tdiv b ∧ ((g : Int) - a * x).tdiv b ≤ 2000000000000) := by
  have e : (a * x).natAbs ≤ 1000000 * 1000000 := by
    rw [Int.natAbs_mul]
    exact Nat.mul_le_mul (by omega) (by omega)
  have e1 : (((g : Int) - a * x).tdiv b).natAbs ≤ ((g : Int) - a * x).natAbs := by
    rw [Int.natAbs_tdiv]
    exact Nat.div_le_self _ _
  omega

theorem div_small (b : Int) (g : Nat) (hg : 0 < g) (hd : g ∣ b.natAbs) (h0 : b ≠ 0) (h3 : -1000000 ≤ b) (h4 : b ≤ 1000000) :
    1 ≤ (b.natAbs : Int) / (g : Int) ∧ (b.natAbs : Int) / (g : Int) ≤ 1000000 := by
  have e : (b.natAbs : Int) / (g : Int) = ((b.natAbs / g : Nat) : Int) := by simp
  rw [e]
  have h1 : b.natAbs / g ≤ b.natAbs := Nat.div_le_self _ _
  have h2 : 1 ≤ b.natAbs / g := (Nat.le_div_iff_mul_le hg).2 (by have := Nat.le_of_dvd (by omega) hd; omega)
  omega

theorem gcd_small (a b : Int) (h0 : b ≠ 0) : Int.gcd a b ≤ b.natAbs := Nat.le_of_dvd (by omega) (Int.gcd_eq_natAbs_gcd_natAbs a b ▸ Nat.gcd_dvd_right _ _)

/-- There is just one such pair. -/
theorem bez_one (a b x y x' y' : Int) (h : BezOk a b x y) (h' : BezOk a b x' y') : x = x' ∧ y = y' := by
  by_cases hb : b = 0
  · have e := h.2.2 hb
    have e' := h'.2.2 hb
    exact ⟨by rw [e.1, e'.1], by rw [e.2, e'.2]⟩
  · obtain ⟨e, k, _⟩ := h
    obtain ⟨e', k', _⟩ := h'
    have k := k hb
    have k' := k' hb
    have hg := gcd_pos a b hb
    have hdb : (Int.gcd a b : Int) ∣ b := Int.gcd_dvd_right a b
    obtain ⟨m, hm⟩ := hdb
    -- m divides x - x'
    have key : m ∣ x - x' := by
      have q : ((x - x') * (Int.gcd a b : Int)) = b * (x * y' - x' * y) := by
        grind
      have q2 : (x - x') * (Int.gcd a b : Int) = (m * (x * y' - x' * y)) * (Int.gcd a b : Int) := by
        rw [q]; grind
      exact ⟨_, Int.eq_of_mul_eq_mul_right (by omega) q2⟩
    have em : ((b.natAbs / Int.gcd a b : Nat) : Int) = (m.natAbs : Int) := by
      have : b.natAbs = Int.gcd a b * m.natAbs := by
        have := congrArg Int.natAbs hm
        rw [Int.natAbs_mul] at this
        exact this
      rw [this, Nat.mul_div_cancel_left _ hg]
    rw [em] at k k'
    have ex : x = x' := by
      obtain ⟨t, ht⟩ := key
      have : (x - x').natAbs < m.natAbs := by omega
      rw [ht, Int.natAbs_mul] at this
      have : t = 0 := by
        refine Int.natAbs_eq_zero.1 (Nat.eq_zero_of_not_pos fun hp => ?_)
        have : m.natAbs * 1 ≤ m.natAbs * t.natAbs := Nat.mul_le_mul_left _ hp
        omega
      rw [this, Int.mul_zero] at ht
      omega
    refine ⟨ex, ?_⟩
    subst ex
    exact Int.eq_of_mul_eq_mul_left hb (by omega)

end Go.Proofs.Ytkebjmapdcbnaaa.Num
