/- Plain facts on the sums of rows of whole numbers (lattices): by determinants, the determinant of rows with the same sums, the one form of such rows (Hermite). No program is named here. -/
import Derived.Test.YtgfhmffkdhfoeaaDoorMatZ
namespace Go.Proofs.YtgfhmffkdhfoeaaDoor.Zx
set_option linter.unusedVariables false

/-- x is a sum of rows of m, each so many times. -/
def Lat (n : Nat) (m : Nat → Nat → Int) (x : Nat → Int) : Prop := ∃ c : Nat → Int, ∀ j, j < n → x j = sg n fun i => c i * m i j
theorem Lat.add {n : Nat} {m : Nat → Nat → Int} {x y : Nat → Int} (hx : Lat n m x) (hy : Lat n m y) : Lat n m fun j => x j + y j := by
  obtain ⟨c, hc⟩ := hx
  obtain ⟨d, hd⟩ := hy
  exact ⟨fun i => c i + d i, fun j hj => by dsimp only; rw [hc j hj, hd j hj, ← sg_add]; exact sg_congr fun i _ => by grind⟩
theorem Lat.times {n : Nat} {m : Nat → Nat → Int} {x : Nat → Int} (hx : Lat n m x) (a : Int) : Lat n m fun j => a * x j := by
  obtain ⟨c, hc⟩ := hx
  exact ⟨fun i => a * c i, fun j hj => by dsimp only; rw [hc j hj, ← sg_times]; exact sg_congr fun i _ => by grind⟩
theorem Lat.congr {n : Nat} {m : Nat → Nat → Int} {x y : Nat → Int} (hx : Lat n m x) (h : ∀ j, j < n → x j = y j) : Lat n m y := by
  obtain ⟨c, hc⟩ := hx
  exact ⟨c, fun j hj => by rw [← h j hj, hc j hj]⟩
theorem Lat.less {n : Nat} {m : Nat → Nat → Int} {x y : Nat → Int} (hx : Lat n m x) (hy : Lat n m y) : Lat n m fun j => x j - y j :=
  (hx.add (hy.times (-1))).congr fun j _ => by grind
theorem Lat.row {n : Nat} (m : Nat → Nat → Int) {i : Nat} (hi : i < n) : Lat n m (m i) :=
  ⟨fun k => if k = i then 1 else 0, fun j _ => by rw [sg_one hi fun k _ hk => by dsimp only; rw [if_neg hk]; grind]; dsimp only; rw [if_pos rfl]; grind⟩
theorem Lat.nought (n : Nat) (m : Nat → Nat → Int) : Lat n m fun _ => 0 := ⟨fun _ => 0, fun j _ => by rw [sg_congr (g := fun _ => 0) fun i _ => by grind, sg_none]⟩
theorem Lat.mat {n : Nat} {m k : Nat → Nat → Int} {x : Nat → Int} (h : Eqm n n m k) (hx : Lat n m x) : Lat n k x := by
  obtain ⟨c, hc⟩ := hx
  exact ⟨c, fun j hj => by rw [hc j hj]; exact sg_congr fun i hi => by rw [h i j hi hj]⟩
/-- Each row of m is a sum of rows of k. -/
def In (n : Nat) (m k : Nat → Nat → Int) : Prop := ∀ i, i < n → Lat n k (m i)
theorem In.of {n : Nat} {m k : Nat → Nat → Int} (h : In n m k) : ∃ t, Eqm n n m (mul n t k) := by
  have : ∃ t : Nat → Nat → Int, ∀ i, i < n → ∀ j, j < n → m i j = sg n fun x => t i x * k x j :=
    ⟨fun i => if hi : i < n then Classical.choose (h i hi) else fun _ => 0, fun i hi j hj => by
      have := Classical.choose_spec (h i hi) j hj
      dsimp only
      rw [dif_pos hi]; exact this⟩
  obtain ⟨t, ht⟩ := this
  exact ⟨t, fun i j hi hj => ht i hi j hj⟩
theorem In.lat {n : Nat} {m k : Nat → Nat → Int} {x : Nat → Int} (h : In n m k) (hx : Lat n m x) : Lat n k x := by
  obtain ⟨t, ht⟩ := h.of
  obtain ⟨c, hc⟩ := hx
  refine ⟨fun y => sg n fun i => c i * t i y, fun j hj => ?_⟩
  rw [hc j hj]
  have e1 : (sg n fun i => c i * m i j) = sg n fun i => sg n fun y => c i * t i y * k y j := sg_congr fun i hi => by
    rw [ht i j hi hj]
    show c i * (sg n fun y => t i y * k y j) = _
    rw [← sg_times]; exact sg_congr fun y _ => by grind
  rw [e1, sg_swap]
  exact sg_congr fun y _ => by rw [sg_by]
theorem In.rfl' (n : Nat) (m : Nat → Nat → Int) : In n m m := fun i hi => Lat.row m hi
theorem In.trans {n : Nat} {a b c : Nat → Nat → Int} (h : In n a b) (k : In n b c) : In n a c := fun i hi => k.lat (h i hi)
/-- Rows with the same sums. -/
def Eql (n : Nat) (m k : Nat → Nat → Int) : Prop := In n m k ∧ In n k m
theorem Eql.symm {n : Nat} {m k : Nat → Nat → Int} (h : Eql n m k) : Eql n k m := ⟨h.2, h.1⟩
theorem Eql.trans {n : Nat} {a b c : Nat → Nat → Int} (h : Eql n a b) (k : Eql n b c) : Eql n a c := ⟨h.1.trans k.1, k.2.trans h.2⟩
theorem Eql.rfl' (n : Nat) (m : Nat → Nat → Int) : Eql n m m := ⟨In.rfl' n m, In.rfl' n m⟩
theorem Eql.lat {n : Nat} {m k : Nat → Nat → Int} (h : Eql n m k) (x : Nat → Int) : Lat n m x ↔ Lat n k x := ⟨h.1.lat, h.2.lat⟩
/-- Rows with the same sums have the same determinant, but for its sign. -/
theorem In.dvd {n : Nat} {m k : Nat → Nat → Int} (h : In n m k) : dt n k ∣ dt n m := by
  obtain ⟨t, ht⟩ := h.of
  rw [dt_congr n ht, dt_mul]
  exact ⟨dt n t, by grind⟩
theorem Eql.det {n : Nat} {m k : Nat → Nat → Int} (h : Eql n m k) : (dt n m).natAbs = (dt n k).natAbs :=
  Nat.dvd_antisymm (Int.natAbs_dvd_natAbs.2 h.2.dvd) (Int.natAbs_dvd_natAbs.2 h.1.dvd)
/-- A row added to another one, so many times. -/
theorem eql_add {n : Nat} (m : Nat → Nat → Int) {a b : Nat} (ha : a < n) (hb : b < n) (hne : a ≠ b) (k : Int) : Eql n (setr a (fun j => m a j + k * m b j) m) m := by
  have e : ∀ i, i ≠ a → setr a (fun j => m a j + k * m b j) m i = m i := fun i h => funext fun j => if_neg h
  have ea : setr a (fun j => m a j + k * m b j) m a = fun j => m a j + k * m b j := funext fun j => if_pos rfl
  refine ⟨fun i hi => ?_, fun i hi => ?_⟩
  · by_cases h : i = a
    · rw [h, ea]; exact (Lat.row m ha).add ((Lat.row m hb).times k)
    · rw [e i h]; exact Lat.row m hi
  · by_cases h : i = a
    · have r1 := Lat.row (setr a (fun j => m a j + k * m b j) m) ha
      have r2 := Lat.row (setr a (fun j => m a j + k * m b j) m) hb
      rw [ea] at r1
      rw [e b (fun h => hne h.symm)] at r2
      rw [h]
      exact (r1.less (r2.times k)).congr fun j _ => by grind
    · have := Lat.row (setr a (fun j => m a j + k * m b j) m) hi
      rwa [e i h] at this
theorem eql_neg {n : Nat} (m : Nat → Nat → Int) {a : Nat} (ha : a < n) : Eql n (setr a (fun j => -(m a j)) m) m := by
  have e : ∀ i, i ≠ a → setr a (fun j => -(m a j)) m i = m i := fun i h => funext fun j => if_neg h
  have ea : setr a (fun j => -(m a j)) m a = fun j => -(m a j) := funext fun j => if_pos rfl
  refine ⟨fun i hi => ?_, fun i hi => ?_⟩
  · by_cases h : i = a
    · rw [h, ea]; exact ((Lat.row m ha).times (-1)).congr fun j _ => by grind
    · rw [e i h]; exact Lat.row m hi
  · by_cases h : i = a
    · have r1 := Lat.row (setr a (fun j => -(m a j)) m) ha
      rw [ea] at r1
      rw [h]; exact (r1.times (-1)).congr fun j _ => by grind
    · have := Lat.row (setr a (fun j => -(m a j)) m) hi
      rwa [e i h] at this
theorem eql_swap {n : Nat} (m : Nat → Nat → Int) {a b : Nat} (ha : a < n) (hb : b < n) : Eql n (fun i j => m (if i = a then b else if i = b then a else i) j) m := by
  have hlt : ∀ i, i < n → (if i = a then b else if i = b then a else i) < n := fun i hi => by split; exact hb; split; exact ha; exact hi
  refine ⟨fun i hi => Lat.row m (hlt i hi), fun i hi => ?_⟩
  have := Lat.row (n := n) (fun i j => m (if i = a then b else if i = b then a else i) j) (hlt i hi)
  have e : (if (if i = a then b else if i = b then a else i) = a then b else if (if i = a then b else if i = b then a else i) = b then a else (if i = a then b else if i = b then a else i)) = i := by
    by_cases h1 : i = a
    · rw [if_pos h1]
      by_cases h2 : b = a
      · rw [if_pos h2, h2, h1]
      · rw [if_neg h2, if_pos rfl, h1]
    · rw [if_neg h1]
      by_cases h2 : i = b
      · rw [if_pos h2, if_pos rfl, h2]
      · rw [if_neg h2, if_neg h1, if_neg h2]
  rw [e] at this
  exact this

/-- A row in the place of each one, by determinants. -/
theorem dt_each (p : Nat) (m : Nat → Nat → Int) (x : Nat → Int) {j : Nat} (hj : j < p + 1) : (sg (p + 1) fun i => dt (p + 1) (setr i x m) * m i j) = dt (p + 1) m * x j := by
  have e1 : (sg (p + 1) fun i => dt (p + 1) (setr i x m) * m i j) = sg (p + 1) fun i => sg (p + 1) fun k => x k * (adj p m k i * m i j) := sg_congr fun i hi => by
    rw [← laplace_row p i x m (by omega), ← sg_by]
    exact sg_congr fun k _ => by show sgn (i + k) * x k * dt p (wo m i k) * m i j = x k * (sgn (k + i) * dt p (wo m i k) * m i j); rw [Nat.add_comm k i]; grind
  rw [e1, sg_swap, sg_one hj fun k hk hne => by
    rw [sg_times]
    have := adj_left p m k j hk hj
    show x k * mul (p + 1) (adj p m) m k j = 0
    rw [this]
    unfold scal; rw [if_neg hne]; grind]
  rw [sg_times]
  have := adj_left p m j j hj hj
  show x j * mul (p + 1) (adj p m) m j j = _
  rw [this]
  unfold scal; rw [if_pos rfl]; grind
/-- A row is a sum of rows just if all determinants with it in the place of one are multiples of the determinant. -/
theorem lat_det {p : Nat} {m : Nat → Nat → Int} (h0 : dt (p + 1) m ≠ 0) (x : Nat → Int) : Lat (p + 1) m x ↔ ∀ i, i < p + 1 → dt (p + 1) m ∣ dt (p + 1) (setr i x m) := by
  constructor
  · rintro ⟨c, hc⟩ i hi
    have e : dt (p + 1) (setr i x m) = dt (p + 1) m * c i := by
      have h := cramer (p + 1) i (flip m) c hi
      rw [dt_flip] at h
      rw [← h, ← dt_flip]
      refine dt_congr _ fun a b ha hb => ?_
      show (if b = i then x a else m b a) = if b = i then (sg (p + 1) fun t => m t a * c t) else m b a
      by_cases e : b = i
      · rw [if_pos e, if_pos e, hc a ha]; exact sg_congr fun t _ => by grind
      · rw [if_neg e, if_neg e]
    exact ⟨c i, e⟩
  · intro h
    refine ⟨fun i => dt (p + 1) (setr i x m) / dt (p + 1) m, fun j hj => ?_⟩
    have e := dt_each p m x hj
    have e2 : (sg (p + 1) fun i => dt (p + 1) (setr i x m) * m i j) = dt (p + 1) m * sg (p + 1) fun i => dt (p + 1) (setr i x m) / dt (p + 1) m * m i j := by
      rw [← sg_times]
      exact sg_congr fun i hi => by
        have := Int.mul_ediv_cancel' (h i hi)
        generalize dt (p + 1) (setr i x m) / dt (p + 1) m = q at *
        rw [← this]; grind
    rw [e2] at e
    exact (Int.eq_of_mul_eq_mul_left h0 e).symm
/-- The determinant, so many times, is a sum at each place. -/
theorem lat_times {p : Nat} {m : Nat → Nat → Int} (h0 : dt (p + 1) m ≠ 0) (y : Nat → Int) : Lat (p + 1) m fun j => dt (p + 1) m * y j := by
  refine (lat_det h0 _).2 fun i hi => ?_
  have := dt_rlin (p + 1) i hi (dt (p + 1) m) 0 y y m
  have e : (fun j => dt (p + 1) m * y j + 0 * y j) = fun j => dt (p + 1) m * y j := funext fun j => by grind
  rw [e] at this
  rw [this]
  exact ⟨dt (p + 1) (setr i y m), by grind⟩

/-- Noughts below the middle. -/
theorem dt_upper : ∀ (n : Nat) (f : Nat → Nat → Int), (∀ i j, i < n → j < n → j < i → f i j = 0) → dt n f = pr n fun i => f i i := by
  have low : ∀ (n : Nat) (f : Nat → Nat → Int), (∀ i j, i < n → j < n → i < j → f i j = 0) → dt n f = pr n fun i => f i i := by
    intro n
    induction n with
    | zero => exact fun _ _ => rfl
    | succ n ih =>
      intro f h
      have front : ∀ (n : Nat) (g : Nat → Int), pr (n + 1) g = g 0 * pr n fun i => g (i + 1) := fun n g => by
        induction n with
        | zero => show pr 0 g * g 0 = g 0 * pr 0 _; unfold pr; grind
        | succ n ih => show pr (n + 1) g * g (n + 1) = g 0 * (pr n (fun i => g (i + 1)) * g (n + 1)); rw [ih]; grind
      rw [dt_succ, sg_one (k := 0) (Nat.succ_pos n) (fun j hj hne => by rw [h 0 j (Nat.succ_pos n) hj (by omega)]; grind), front]
      have s0 : ∀ b, Mx.sk 0 b = b + 1 := fun b => by unfold Mx.sk; rw [if_neg (Nat.not_lt_zero b)]
      have e : dt n (del 0 f) = pr n fun i => f (i + 1) (i + 1) := by
        rw [ih (del 0 f) fun i j hi hj hlt => by unfold del; rw [s0]; exact h _ _ (by omega) (by omega) (by omega)]
        exact pr_congr fun i _ => by unfold del; rw [s0]
      rw [e, show sgn 0 = 1 from rfl]; grind
  intro n f h
  rw [← dt_flip]
  exact low n (flip f) fun i j hi hj hlt => h j i hj hi hlt
/-- The form of rows (Hermite). -/
structure Hnf (n : Nat) (a : Nat → Nat → Int) : Prop where
  low : ∀ i j, i < n → j < i → a i j = 0
  pos : ∀ i, i < n → 0 < a i i
  red : ∀ i j, i < j → j < n → 0 ≤ a i j ∧ a i j < a j j
/-- A sum that begins with noughts: the next number is a multiple of the middle. -/
theorem Hnf.lead {n : Nat} {a : Nat → Nat → Int} (h : Hnf n a) {x : Nat → Int} (hx : Lat n a x) {k : Nat} (hk : k < n) (hz : ∀ j, j < k → x j = 0) : a k k ∣ x k := by
  obtain ⟨c, hc⟩ := hx
  have hcz : ∀ i, i < k → c i = 0 := fun i => by
    induction i using Nat.strongRecOn with
    | _ i ih =>
      intro hi
      have e := hc i (by omega)
      rw [hz i hi, sg_one (k := i) (by omega) fun t ht hne => by
        rcases Nat.lt_or_ge t i with h1 | h1
        · rw [ih t h1 (by omega)]; grind
        · rw [h.low t i ht (by omega)]; grind] at e
      rcases Int.mul_eq_zero.1 e.symm with h1 | h1
      · exact h1
      · have := h.pos i (by omega); omega
  have e := hc k hk
  rw [sg_one hk fun t ht hne => by
    rcases Nat.lt_or_ge t k with h1 | h1
    · rw [hcz t h1]; grind
    · rw [h.low t k ht (by omega)]; grind] at e
  exact ⟨c k, by rw [e]; grind⟩
/-- Rows with the same sums have but one form. -/
theorem Hnf.one {n : Nat} {a b : Nat → Nat → Int} (ha : Hnf n a) (hb : Hnf n b) (h : Eql n a b) : Eqm n n a b := by
  have hd : ∀ k, k < n → a k k = b k k := fun k hk => by
    have h1 := ha.lead (h.2 k hk) hk fun j hj => hb.low k j hk hj
    have h2 := hb.lead (h.1 k hk) hk fun j hj => ha.low k j hk hj
    have p1 := ha.pos k hk
    have p2 := hb.pos k hk
    exact Int.le_antisymm (Int.le_of_dvd p2 h1) (Int.le_of_dvd p1 h2)
  intro i j hi hj
  have hx : Lat n a fun j => a i j - b i j := (Lat.row a hi).less (h.2 i hi)
  have key : ∀ k, k < n → a i k - b i k = 0 := fun k => by
    induction k using Nat.strongRecOn with
    | _ k ih =>
      intro hk
      rcases Nat.lt_trichotomy k i with h1 | h1 | h1
      · rw [ha.low i k hi h1, hb.low i k hi h1]; rfl
      · rw [h1, hd i hi]; omega
      · obtain ⟨q, hq⟩ := ha.lead hx hk fun j hj => ih j hj (by omega)
        have r1 := ha.red i k h1 hk
        have r2 := hb.red i k h1 hk
        rw [← hd k hk] at r2
        have p := ha.pos k hk
        have : q = 0 := by
          rcases Int.lt_trichotomy q 0 with h2 | h2 | h2
          · have := Int.mul_le_mul_of_nonneg_left (show q ≤ -1 by omega) (show 0 ≤ a k k by omega); omega
          · exact h2
          · have := Int.mul_le_mul_of_nonneg_left (show 1 ≤ q by omega) (show 0 ≤ a k k by omega); omega
        rw [hq, this]; omega
  have := key j hj
  omega
/-- The product of the middle is the determinant, but for its sign. -/
theorem Hnf.det {n : Nat} {a m : Nat → Nat → Int} (ha : Hnf n a) (h : Eql n a m) : (pr n fun i => a i i) = ((dt n m).natAbs : Int) := by
  have hp : ∀ k, k ≤ n → 0 < pr k fun i => a i i := fun k => by
    induction k with
    | zero => intro _; show (0 : Int) < 1; decide
    | succ k ih => intro hk; exact Int.mul_pos (ih (by omega)) (ha.pos k (by omega))
  rw [← h.det, dt_upper n a fun i j hi hj hlt => ha.low i j hi hlt]
  have := hp n (Nat.le_refl n)
  omega

end Go.Proofs.YtgfhmffkdhfoeaaDoor.Zx
