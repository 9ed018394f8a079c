/- Plain facts on what divides all numbers of rows, and all determinants of one row and one column less (Smith). No program is named here. -/
import Derived.Test.YtlnehhhlpdaebaaMatLt
namespace Go.Proofs.Ytlnehhhlpdaebaa.Zx
set_option linter.unusedVariables false

/-- What divides all of the first n. -/
def gs : Nat → (Nat → Nat) → Nat
  | 0, _ => 0
  | n + 1, g => Nat.gcd (gs n g) (g n)
theorem gs_dvd {k : Nat} : ∀ {n : Nat} {g : Nat → Nat}, k ∣ gs n g ↔ ∀ i, i < n → k ∣ g i
  | 0, g => ⟨fun _ i hi => absurd hi (by omega), fun _ => ⟨0, rfl⟩⟩
  | n + 1, g => by
    show k ∣ Nat.gcd (gs n g) (g n) ↔ _
    rw [Nat.dvd_gcd_iff, gs_dvd]
    constructor
    · rintro ⟨h1, h2⟩ i hi
      by_cases e : i = n
      · rw [e]; exact h2
      · exact h1 i (by omega)
    · exact fun h => ⟨fun i hi => h i (by omega), h n (by omega)⟩
theorem gs_congr {n : Nat} {g h : Nat → Nat} (e : ∀ i, i < n → g i = h i) : gs n g = gs n h := by
  induction n with
  | zero => rfl
  | succ n ih => show Nat.gcd _ _ = Nat.gcd _ _; rw [ih fun i hi => e i (by omega), e n (by omega)]
/-- What divides all numbers of n rows and columns. -/
def gg (n : Nat) (f : Nat → Nat → Int) : Nat := gs n fun i => gs n fun j => (f i j).natAbs
theorem gg_dvd {k n : Nat} {f : Nat → Nat → Int} : k ∣ gg n f ↔ ∀ i j, i < n → j < n → (k : Int) ∣ f i j := by
  unfold gg
  rw [gs_dvd]
  constructor
  · exact fun h i j hi hj => Int.ofNat_dvd_left.2 (gs_dvd.1 (h i hi) j hj)
  · exact fun h i hi => gs_dvd.2 fun j hj => Int.ofNat_dvd_left.1 (h i j hi hj)
theorem gg_of (n : Nat) (f : Nat → Nat → Int) {i j : Nat} (hi : i < n) (hj : j < n) : ((gg n f : Nat) : Int) ∣ f i j := gg_dvd.1 (Nat.dvd_refl _) i j hi hj
theorem gg_congr {n : Nat} {f g : Nat → Nat → Int} (h : Eqm n n f g) : gg n f = gg n g := gs_congr fun i hi => gs_congr fun j hj => by rw [h i j hi hj]
theorem gg_flip (n : Nat) (f : Nat → Nat → Int) : gg n (flip f) = gg n f :=
  Nat.dvd_antisymm (gg_dvd.2 fun i j hi hj => gg_of n (flip f) hj hi) (gg_dvd.2 fun i j hi hj => gg_of n f hj hi)
theorem dvd_sg {k : Int} : ∀ {n : Nat} {f : Nat → Int}, (∀ i, i < n → k ∣ f i) → k ∣ sg n f
  | 0, _, _ => ⟨0, by rw [sg_zero]; omega⟩
  | n + 1, f, h => by rw [sg_succ]; exact Int.dvd_add (dvd_sg fun i hi => h i (by omega)) (h n (by omega))
theorem gg_mul_right {n : Nat} (t k : Nat → Nat → Int) : gg n k ∣ gg n (mul n t k) := gg_dvd.2 fun i j _ hj => dvd_sg fun x hx => Int.dvd_trans (gg_of n k hx hj) ⟨t i x, by grind⟩
theorem gg_mul_left {n : Nat} (t k : Nat → Nat → Int) : gg n t ∣ gg n (mul n t k) := gg_dvd.2 fun i j hi _ => dvd_sg fun x hx => Int.dvd_trans (gg_of n t hi hx) ⟨k x j, rfl⟩
/-- Rows with the same sums. -/
theorem Eql.gg {n : Nat} {m k : Nat → Nat → Int} (h : Eql n m k) : Zx.gg n m = Zx.gg n k := by
  obtain ⟨t, ht⟩ := h.1.of
  obtain ⟨s, hs⟩ := h.2.of
  refine Nat.dvd_antisymm ?_ ?_
  · rw [gg_congr hs]; exact gg_mul_right s m
  · rw [gg_congr ht]; exact gg_mul_right t k

theorem mul_scal' (n : Nat) (d : Int) (f : Nat → Nat → Int) {i j : Nat} (hj : j < n) : mul n f (scal d) i j = f i j * d := by
  unfold mul scal
  rw [sg_one hj fun k _ hk => by rw [if_neg hk]; grind, if_pos rfl]
theorem scal_mul' (n : Nat) (d : Int) (f : Nat → Nat → Int) {i j : Nat} (hi : i < n) : mul n (scal d) f i j = d * f i j := by
  unfold mul scal
  rw [sg_one hi fun k _ hk => by rw [if_neg fun e => hk e.symm]; grind, if_pos rfl]
/-- What is beside the rows and columns of a product. -/
theorem adj_mul {p : Nat} {t k : Nat → Nat → Int} (h : dt (p + 1) (mul (p + 1) t k) ≠ 0) : Eqm (p + 1) (p + 1) (adj p (mul (p + 1) t k)) (mul (p + 1) (adj p k) (adj p t)) := by
  intro i j hi hj
  -- both, times the product, are the determinant in the middle; and back by what is beside it
  have e1 : Eqm (p + 1) (p + 1) (mul (p + 1) (mul (p + 1) (adj p k) (adj p t)) (mul (p + 1) t k)) (scal (dt (p + 1) (mul (p + 1) t k))) := fun a b ha hb => by
    rw [mul_assoc, ← mul_assoc (p + 1) (p + 1) (adj p t) t k]
    have h1 : Eqm (p + 1) (p + 1) (mul (p + 1) (mul (p + 1) (adj p t) t) k) (mul (p + 1) (scal (dt (p + 1) t)) k) := Eqm.mul (adj_left p t) (Eqm.rfl' _ _ _)
    rw [Eqm.mul (Eqm.rfl' (p + 1) (p + 1) (adj p k)) h1 a b ha hb]
    have h2 : Eqm (p + 1) (p + 1) (mul (p + 1) (scal (dt (p + 1) t)) k) (fun x y => dt (p + 1) t * k x y) := fun x y hx hy => scal_mul' _ _ _ hx
    rw [Eqm.mul (Eqm.rfl' (p + 1) (p + 1) (adj p k)) h2 a b ha hb]
    have h3 : mul (p + 1) (adj p k) (fun x y => dt (p + 1) t * k x y) a b = dt (p + 1) t * mul (p + 1) (adj p k) k a b := by
      unfold mul; rw [← sg_times]; exact sg_congr fun x _ => by grind
    rw [h3, adj_left p k a b ha hb, dt_mul]
    unfold scal; split <;> grind
  have e2 : mul (p + 1) (mul (p + 1) (mul (p + 1) (adj p k) (adj p t)) (mul (p + 1) t k)) (adj p (mul (p + 1) t k)) i j = dt (p + 1) (mul (p + 1) t k) * adj p (mul (p + 1) t k) i j := by
    rw [Eqm.mul e1 (Eqm.rfl' (p + 1) (p + 1) _) i j hi hj, scal_mul' _ _ _ hi]
  have e3 : mul (p + 1) (mul (p + 1) (mul (p + 1) (adj p k) (adj p t)) (mul (p + 1) t k)) (adj p (mul (p + 1) t k)) i j = mul (p + 1) (adj p k) (adj p t) i j * dt (p + 1) (mul (p + 1) t k) := by
    rw [mul_assoc, Eqm.mul (Eqm.rfl' (p + 1) (p + 1) _) (adj_right p (mul (p + 1) t k)) i j hi hj, mul_scal' _ _ _ hj]
  rw [e2] at e3
  exact Int.eq_of_mul_eq_mul_left h (by rw [e3]; grind)
/-- What divides all determinants of one row and one column less. -/
def gmi (p : Nat) (m : Nat → Nat → Int) : Nat := gg (p + 1) (adj p m)
theorem gmi_flip (p : Nat) (m : Nat → Nat → Int) : gmi p (flip m) = gmi p m := by unfold gmi; rw [adj_flip, gg_flip]
theorem Eql.gmi {p : Nat} {m k : Nat → Nat → Int} (h : Eql (p + 1) m k) (h0 : dt (p + 1) m ≠ 0) : Zx.gmi p m = Zx.gmi p k := by
  have hk0 : dt (p + 1) k ≠ 0 := fun e => h0 (by have := h.det; rw [e] at this; omega)
  have one : ∀ {a b : Nat → Nat → Int}, In (p + 1) a b → dt (p + 1) a ≠ 0 → Zx.gmi p b ∣ Zx.gmi p a := fun {a b} hab ha => by
    obtain ⟨t, ht⟩ := hab.of
    have hd : dt (p + 1) (mul (p + 1) t b) ≠ 0 := by rw [← dt_congr _ ht]; exact ha
    have e : Eqm (p + 1) (p + 1) (adj p a) (adj p (mul (p + 1) t b)) := fun i j hi hj => by
      show sgn (i + j) * dt p (wo a j i) = sgn (i + j) * dt p (wo (mul (p + 1) t b) j i)
      rw [dt_congr p (f := wo a j i) (g := wo (mul (p + 1) t b) j i) fun x y hx hy => ht (Mx.sk j x) (Mx.sk i y) (Mx.sk_lt hx) (Mx.sk_lt hy)]
    unfold Zx.gmi
    rw [gg_congr (e.trans (adj_mul hd))]
    exact gg_mul_left _ _
  exact Nat.dvd_antisymm (one h.2 hk0) (one h.1 h0)
/-- The same, by its own definition: with the signs left out. -/
theorem gmi_is (p : Nat) (m : Nat → Nat → Int) : gmi p m = gg (p + 1) fun i j => dt p (wo m i j) := by
  have a1 : ∀ i j, adj p m i j = sgn (i + j) * dt p (wo m j i) := fun _ _ => rfl
  have s2 : ∀ k, sgn k * sgn k = 1 := fun k => by unfold sgn; split <;> rfl
  refine Nat.dvd_antisymm (gg_dvd.2 fun i j hi hj => ?_) (gg_dvd.2 fun i j hi hj => ?_)
  · have h := gg_of (p + 1) (adj p m) hj hi
    rw [a1] at h
    refine Int.dvd_trans h ⟨sgn (j + i), ?_⟩
    have := s2 (j + i)
    generalize dt p (wo m i j) = d at *
    generalize sgn (j + i) = s at *
    grind
  · rw [a1]
    exact Int.dvd_trans (gg_of (p + 1) (fun i j => dt p (wo m i j)) hj hi) ⟨sgn (i + j), by grind⟩
theorem gmi_det (p : Nat) (m : Nat → Nat → Int) : ((gmi p m : Nat) : Int) ∣ dt (p + 1) m := by
  rw [← laplace p 0 m (Nat.zero_le p)]
  exact dvd_sg fun j hj => by
    have h := gg_of (p + 1) (fun i j => dt p (wo m i j)) (i := 0) (j := j) (by omega) hj
    rw [← gmi_is] at h
    exact Int.dvd_trans h ⟨sgn (0 + j) * m 0 j, by grind⟩
/-- The determinant over what divides all of those, so many times, makes any row a sum. -/
theorem lat_part {p : Nat} {m : Nat → Nat → Int} (h0 : dt (p + 1) m ≠ 0) {l : Int} (hl : dt (p + 1) m ∣ (gmi p m : Int) * l) (x : Nat → Int) : Lat (p + 1) m fun j => l * x j := by
  refine (lat_det h0 _).2 fun i hi => ?_
  rw [← laplace_row p i (fun j => l * x j) m (by omega)]
  exact dvd_sg fun k hk => by
    have h := gg_of (p + 1) (fun i j => dt p (wo m i j)) (i := i) (j := k) hi hk
    rw [← gmi_is] at h
    obtain ⟨q, hq⟩ := h
    obtain ⟨r, hr⟩ := hl
    rw [hq]
    refine ⟨r * (sgn (i + k) * x k * q), ?_⟩
    have : sgn (i + k) * (l * x k) * (((gmi p m : Nat) : Int) * q) = ((gmi p m : Nat) : Int) * l * (sgn (i + k) * x k * q) := by grind
    rw [this, hr]; grind
/-- Determinants of two rows are multiples of the square of what divides all. -/
theorem gg_sq (m : Nat → Nat → Int) {n a b c d : Nat} (ha : a < n) (hb : b < n) (hc : c < n) (hd : d < n) : (((gg n m * gg n m : Nat)) : Int) ∣ m a b * m c d := by
  rw [Int.natCast_mul]; exact Int.mul_dvd_mul (gg_of n m ha hb) (gg_of n m hc hd)
theorem dt_2 (f : Nat → Nat → Int) : dt 2 f = f 0 0 * f 1 1 - f 0 1 * f 1 0 := by
  rw [dt_succ, sg_succ, sg_succ, sg_zero, dt_succ, dt_succ, sg_succ, sg_zero, sg_succ, sg_zero]
  show 0 + sgn 0 * f 0 0 * (0 + sgn 0 * f 1 1 * 1) + sgn 1 * f 0 1 * (0 + sgn 0 * f 1 0 * 1) = _
  rw [show sgn 0 = 1 from rfl, show sgn 1 = -1 from rfl]; grind
theorem gg_gmi (m : Nat → Nat → Int) : gg 3 m * gg 3 m ∣ gmi 2 m := by
  rw [gmi_is]
  refine gg_dvd.2 fun i j hi hj => ?_
  rw [dt_2]
  have k : ∀ a x, x < 2 → Mx.sk a x < 3 := fun a x hx => Mx.sk_lt hx
  exact Int.dvd_sub (gg_sq m (k i 0 (by omega)) (k j 0 (by omega)) (k i 1 (by omega)) (k j 1 (by omega))) (gg_sq m (k i 0 (by omega)) (k j 1 (by omega)) (k i 1 (by omega)) (k j 0 (by omega)))
theorem gg_det2 (m : Nat → Nat → Int) : (((gg 2 m * gg 2 m : Nat)) : Int) ∣ dt 2 m := by
  rw [dt_2]
  exact Int.dvd_sub (gg_sq m (by omega) (by omega) (by omega) (by omega)) (gg_sq m (by omega) (by omega) (by omega) (by omega))
theorem dt_adj3 {m : Nat → Nat → Int} (h0 : dt 3 m ≠ 0) : dt 3 (adj 2 m) = dt 3 m * dt 3 m := by
  have h1 := dt_congr 3 (adj_right 2 m)
  rw [dt_mul, dt_scal] at h1
  exact Int.eq_of_mul_eq_mul_left h0 (by rw [h1]; grind)
/-- What is beside what is beside. -/
theorem adj_adj {m : Nat → Nat → Int} (h0 : dt 3 m ≠ 0) : Eqm 3 3 (adj 2 (adj 2 m)) fun i j => dt 3 m * m i j := fun i j hi hj => by
  have e1 : mul 3 (mul 3 m (adj 2 m)) (adj 2 (adj 2 m)) i j = dt 3 m * adj 2 (adj 2 m) i j := by
    rw [Eqm.mul (adj_right 2 m) (Eqm.rfl' 3 3 _) i j hi hj, scal_mul' _ _ _ hi]
  have e2 : mul 3 (mul 3 m (adj 2 m)) (adj 2 (adj 2 m)) i j = m i j * (dt 3 m * dt 3 m) := by
    rw [mul_assoc, Eqm.mul (Eqm.rfl' 3 3 m) (adj_right 2 (adj 2 m)) i j hi hj, mul_scal' _ _ _ hj, dt_adj3 h0]
  rw [e1] at e2
  exact Int.eq_of_mul_eq_mul_left h0 (by rw [e2]; grind)
theorem gmi_sq {m : Nat → Nat → Int} (h0 : dt 3 m ≠ 0) : (((gmi 2 m * gmi 2 m : Nat)) : Int) ∣ dt 3 m * (gg 3 m : Int) := by
  -- it divides the determinant times each number
  have h1 : ∀ i j, i < 3 → j < 3 → (((gmi 2 m * gmi 2 m : Nat)) : Int) ∣ dt 3 m * m i j := fun i j hi hj => by
    have ea := adj_adj h0 i j hi hj
    dsimp only at ea
    rw [← ea]
    show _ ∣ sgn (i + j) * dt 2 (wo (adj 2 m) j i)
    rw [dt_2]
    have k : ∀ a x, x < 2 → Mx.sk a x < 3 := fun a x hx => Mx.sk_lt hx
    have h := Int.dvd_sub (gg_sq (adj 2 m) (k j 0 (by omega)) (k i 0 (by omega)) (k j 1 (by omega)) (k i 1 (by omega))) (gg_sq (adj 2 m) (k j 0 (by omega)) (k i 1 (by omega)) (k j 1 (by omega)) (k i 0 (by omega)))
    exact Int.dvd_trans h ⟨sgn (i + j), by show _ * _ = _ * _; rw [Int.mul_comm]; rfl⟩
  have h2 : gmi 2 m * gmi 2 m ∣ gg 3 fun i j => dt 3 m * m i j := gg_dvd.2 h1
  have h3 : (gg 3 fun i j => dt 3 m * m i j) ∣ (dt 3 m).natAbs * gg 3 m := by
    -- the greatest one goes through: divide by the determinant
    have hpos : 0 < (dt 3 m).natAbs := Int.natAbs_pos.2 h0
    have hd : (dt 3 m).natAbs ∣ gg 3 fun i j => dt 3 m * m i j := gg_dvd.2 fun i j _ _ => Int.dvd_trans (Int.natAbs_dvd.2 (Int.dvd_refl _)) ⟨m i j, rfl⟩
    obtain ⟨q, hq⟩ := hd
    rw [hq]
    refine Nat.mul_dvd_mul_left _ (gg_dvd.2 fun i j hi hj => ?_)
    have := gg_of 3 (fun i j => dt 3 m * m i j) hi hj
    rw [hq, Int.natCast_mul] at this
    obtain ⟨r, hr⟩ := this
    have hs : ((dt 3 m).natAbs : Int) = dt 3 m ∨ ((dt 3 m).natAbs : Int) = -(dt 3 m) := by omega
    rcases hs with hs | hs
    · rw [hs] at hr
      exact ⟨r, Int.eq_of_mul_eq_mul_left h0 (by rw [hr]; grind)⟩
    · rw [hs] at hr
      exact ⟨-r, Int.eq_of_mul_eq_mul_left h0 (by rw [hr]; grind)⟩
  have h4 := Nat.dvd_trans h2 h3
  have h5 : (((gmi 2 m * gmi 2 m : Nat)) : Int) ∣ (((dt 3 m).natAbs * gg 3 m : Nat) : Int) := Int.natCast_dvd_natCast.2 h4
  have h6 : (((dt 3 m).natAbs * gg 3 m : Nat) : Int) = ((dt 3 m).natAbs : Int) * (gg 3 m : Int) := Int.natCast_mul _ _
  rw [h6] at h5
  have hs : ((dt 3 m).natAbs : Int) = dt 3 m ∨ ((dt 3 m).natAbs : Int) = -(dt 3 m) := by omega
  rcases hs with hs | hs
  · rw [hs] at h5; exact h5
  · rw [hs] at h5
    exact Int.dvd_trans h5 ⟨-1, by grind⟩

end Go.Proofs.Ytlnehhhlpdaebaa.Zx
