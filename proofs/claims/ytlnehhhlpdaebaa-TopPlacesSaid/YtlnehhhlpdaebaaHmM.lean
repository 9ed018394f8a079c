/- Hermite's form of rows of whole numbers, mathematics alone: Euclid's steps on two rows, how large numbers get, what stands behind each column. No program is named here. -/
import Derived.Test.YtlnehhhlpdaebaaMatLt
import Derived.Test.YtlnehhhlpdaebaaMatH
namespace Go.Proofs.Ytlnehhhlpdaebaa.Zx
set_option linter.unusedVariables false

theorem ab_of {x : Int} (h : 0 ≤ x) : ab x = x := by unfold ab; omega
theorem ab_neg (x : Int) : ab (-x) = ab x := by unfold ab; omega
theorem ab_one {x : Int} (h : x ≠ 0) : 1 ≤ ab x := by unfold ab; omega
/-- Row a less so many times row b that its number at k is from 0 on and less than b's. -/
def rdc (k : Nat) (b a : Nat → Int) : Nat → Int := fun j => a j - a k / b k * b j
theorem rdc_at (k : Nat) (b a : Nat → Int) : rdc k b a k = a k % b k := by
  have := Int.emod_def (a k) (b k)
  unfold rdc; rw [this, Int.mul_comm]
/-- What of two rows A and B has become by Euclid's steps at place k: x and y, and by how often A and B are in them. -/
structure Cof (n : Nat) (C : Int) (k : Nat) (A B x y : Nat → Int) (U0 V0 U1 V1 : Int) : Prop where
  u0 : 0 ≤ U0 ∧ U0 ≤ C
  v0 : 0 ≤ V0 ∧ V0 ≤ C
  u1 : 0 ≤ U1 ∧ U1 ≤ C
  v1 : 0 ≤ V1 ∧ V1 ≤ C
  a : ab (x k) * V1 + ab (y k) * V0 = ab (A k)
  b : ab (x k) * U1 + ab (y k) * U0 = ab (B k)
  bx : ∀ j, j < n → ab (x j) ≤ U0 * ab (A j) + V0 * ab (B j)
  by' : ∀ j, j < n → ab (y j) ≤ U1 * ab (A j) + V1 * ab (B j)
  cx : ab (x k) ≤ C
  cy : ab (y k) ≤ C
theorem Cof.start {n : Nat} {C : Int} {k : Nat} {A B : Nat → Int} (hC : 1 ≤ C) (hA : ab (A k) ≤ C) (hB : ab (B k) ≤ C) : Cof n C k A B A B 1 0 0 1 :=
  ⟨by omega, by omega, by omega, by omega, by omega, by omega, fun j _ => by omega, fun j _ => by omega, hA, hB⟩
theorem Cof.swap {n : Nat} {C : Int} {k : Nat} {A B x y : Nat → Int} {U0 V0 U1 V1 : Int} (h : Cof n C k A B x y U0 V0 U1 V1) : Cof n C k A B y x U1 V1 U0 V0 :=
  ⟨h.u1, h.v1, h.u0, h.v0, by rw [Int.add_comm]; exact h.a, by rw [Int.add_comm]; exact h.b, h.by', h.bx, h.cy, h.cx⟩
theorem step_id {X Y Q V0 V1 z : Int} (h : X * V1 + Y * V0 = z) (Y' : Int) (hq : Q * X + Y' = Y) : X * (V1 + Q * V0) + Y' * V0 = z := by
  rw [← h, ← hq]; grind
theorem le_by {X V Y W z : Int} (hX : 1 ≤ X) (hV : 0 ≤ V) (hY : 0 ≤ Y) (hW : 0 ≤ W) (h : X * V + Y * W = z) : V ≤ z := by
  have h1 := Int.mul_le_mul_of_nonneg_right hX hV
  have h2 := Int.mul_nonneg hY hW
  omega
theorem step_le {q a b Q U0 V0 U1 V1 A B : Int} (h0 : 0 ≤ Q) (hq : ab q = Q) (ha : ab a ≤ U1 * A + V1 * B) (hb : ab b ≤ U0 * A + V0 * B) : ab (a - q * b) ≤ (U1 + Q * U0) * A + (V1 + Q * V0) * B := by
  have h1 := ab_sub a (q * b)
  rw [ab_mul, hq] at h1
  have h2 := Int.mul_le_mul_of_nonneg_left hb h0
  have e : (U1 + Q * U0) * A + (V1 + Q * V0) * B = (U1 * A + V1 * B) + Q * (U0 * A + V0 * B) := by grind
  rw [e]; omega
theorem Cof.step {n : Nat} {C : Int} {k : Nat} {A B x y : Nat → Int} {U0 V0 U1 V1 : Int} (h : Cof n C k A B x y U0 V0 U1 V1) (hA : ab (A k) ≤ C) (hB : ab (B k) ≤ C) (hx : x k ≠ 0) {q : Int}
    (hq : ab q * ab (x k) + ab (y k - q * x k) = ab (y k)) :
    Cof n C k A B x (fun j => y j - q * x j) U0 V0 (U1 + ab q * U0) (V1 + ab q * V0) := by
  have hX := ab_one hx
  have p0 := ab_pos q
  have pu := Int.mul_nonneg p0 h.u0.1
  have pv := Int.mul_nonneg p0 h.v0.1
  have a1 := step_id h.a _ hq
  have b1 := step_id h.b _ hq
  have n1 := h.u1.1
  have n2 := h.v1.1
  have hU : 0 ≤ U1 + ab q * U0 := by omega
  have hV : 0 ≤ V1 + ab q * V0 := by omega
  refine ⟨h.u0, h.v0, ⟨hU, Int.le_trans (le_by hX hU (ab_pos _) h.u0.1 b1) hB⟩, ⟨hV, Int.le_trans (le_by hX hV (ab_pos _) h.v0.1 a1) hA⟩, a1, b1, h.bx, fun j hj => step_le p0 rfl (h.by' j hj) (h.bx j hj), h.cx, ?_⟩
  have h1 := Int.mul_nonneg p0 (ab_pos (x k))
  have h2 := h.cy
  show ab (y k - q * x k) ≤ C
  omega
theorem cof_le {C U V a b z : Int} (hU : 0 ≤ U ∧ U ≤ C) (hV : 0 ≤ V ∧ V ≤ C) (ha : 0 ≤ a) (hb : 0 ≤ b) (h : z ≤ U * a + V * b) : z ≤ C * (a + b) := by
  have h1 := Int.mul_le_mul_of_nonneg_right hU.2 ha
  have h2 := Int.mul_le_mul_of_nonneg_right hV.2 hb
  have e : C * (a + b) = C * a + C * b := by grind
  omega
theorem Cof.lex {n : Nat} {C : Int} {k : Nat} {A B x y : Nat → Int} {U0 V0 U1 V1 : Int} (h : Cof n C k A B x y U0 V0 U1 V1) {j : Nat} (hj : j < n) : ab (x j) ≤ C * (ab (A j) + ab (B j)) := cof_le h.u0 h.v0 (ab_pos _) (ab_pos _) (h.bx j hj)
theorem Cof.ley {n : Nat} {C : Int} {k : Nat} {A B x y : Nat → Int} {U0 V0 U1 V1 : Int} (h : Cof n C k A B x y U0 V0 U1 V1) {j : Nat} (hj : j < n) : ab (y j) ≤ C * (ab (A j) + ab (B j)) := h.swap.lex hj
theorem Cof.zero {n : Nat} {C : Int} {k : Nat} {A B x y : Nat → Int} {U0 V0 U1 V1 : Int} (h : Cof n C k A B x y U0 V0 U1 V1) {j : Nat} (hj : j < n) (ha : A j = 0) (hb : B j = 0) : x j = 0 ∧ y j = 0 := by
  have z : ab 0 = 0 := rfl
  have h1 := h.bx j hj
  have h2 := h.by' j hj
  rw [ha, hb, z] at h1 h2
  have h3 := ab_pos (x j)
  have h4 := ab_pos (y j)
  exact ⟨ab_zero (by omega), ab_zero (by omega)⟩
/-- What is taken from a row in a step is no larger than what the row may be behind it. -/
theorem Cof.times {n : Nat} {C : Int} {k : Nat} {A B x y : Nat → Int} {U0 V0 U1 V1 : Int} (h : Cof n C k A B x y U0 V0 U1 V1) (hA : ab (A k) ≤ C) (hB : ab (B k) ≤ C) (hx : x k ≠ 0) {q : Int}
    (hq : ab q * ab (x k) + ab (y k - q * x k) = ab (y k)) {j : Nat} (hj : j < n) : ab (q * x j) ≤ C * (ab (A j) + ab (B j)) := by
  have s := h.step hA hB hx hq
  refine cof_le (U := U1 + ab q * U0) (V := V1 + ab q * V0) s.u1 s.v1 (ab_pos _) (ab_pos _) ?_
  have h1 := h.bx j hj
  have h2 := Int.mul_le_mul_of_nonneg_left h1 (ab_pos q)
  have h3 := Int.mul_nonneg h.u1.1 (ab_pos (A j))
  have h4 := Int.mul_nonneg h.v1.1 (ab_pos (B j))
  rw [ab_mul]
  have e : (U1 + ab q * U0) * ab (A j) + (V1 + ab q * V0) * ab (B j) = (U1 * ab (A j) + V1 * ab (B j)) + ab q * (U0 * ab (A j) + V0 * ab (B j)) := by grind
  rw [e]; omega
/-- The quotient that leaves a rest from 0 on. -/
theorem floor_q {a b : Int} (ha : 0 ≤ a) (hb : 0 < b) : ab (a / b) * ab b + ab (a - a / b * b) = ab a := by
  have h1 := Int.mul_ediv_add_emod a b
  have h2 := Int.emod_nonneg a (Int.ne_of_gt hb)
  have h3 := Int.ediv_nonneg ha (Int.le_of_lt hb)
  have e : a - a / b * b = a % b := by rw [Int.mul_comm (a / b) b]; omega
  rw [e, ab_of h3, ab_of (Int.le_of_lt hb), ab_of h2, ab_of ha, Int.mul_comm]
  omega

/-- Rows from k on of which the first t have been turned so that their number at k is from 0 on. -/
structure Ngs (n k t : Nat) (f0 f : Nat → Nat → Int) : Prop where
  eql : Eql n f f0
  top : ∀ r, r < k → f r = f0 r
  rest : ∀ r, k + t ≤ r → f r = f0 r
  nn : ∀ r, k ≤ r → r < k + t → 0 ≤ f r k
  ab : ∀ r j, ab (f r j) = ab (f0 r j)
theorem Ngs.start (n k : Nat) (f : Nat → Nat → Int) : Ngs n k 0 f f := ⟨Eql.rfl' n f, fun _ _ => rfl, fun _ _ => rfl, fun r h1 h2 => absurd h2 (by omega), fun _ _ => rfl⟩
theorem setr_at (a : Nat) (u : Nat → Int) (f : Nat → Nat → Int) : setr a u f a = u := funext fun j => if_pos rfl
theorem setr_ne {a r : Nat} (h : r ≠ a) (u : Nat → Int) (f : Nat → Nat → Int) : setr a u f r = f r := funext fun j => if_neg h
theorem Ngs.keep {n k t : Nat} {f0 f : Nat → Nat → Int} (h : Ngs n k t f0 f) (h0 : 0 ≤ f (k + t) k) : Ngs n k (t + 1) f0 f :=
  ⟨h.eql, h.top, fun r hr => h.rest r (by omega), fun r h1 h2 => by
    rcases Nat.lt_or_ge r (k + t) with h3 | h3
    · exact h.nn r h1 h3
    · rw [show r = k + t by omega]; exact h0, h.ab⟩
theorem Ngs.turn {n k t : Nat} {f0 f : Nat → Nat → Int} (h : Ngs n k t f0 f) (ht : k + t < n) (h0 : f (k + t) k < 0) : Ngs n k (t + 1) f0 (setr (k + t) (fun j => -(f (k + t) j)) f) :=
  ⟨(eql_neg f ht).trans h.eql, fun r hr => by rw [setr_ne (by omega)]; exact h.top r hr, fun r hr => by rw [setr_ne (by omega)]; exact h.rest r (by omega), fun r h1 h2 => by
    rcases Nat.lt_or_ge r (k + t) with h3 | h3
    · rw [setr_ne (by omega)]; exact h.nn r h1 h3
    · rw [show r = k + t by omega, setr_at]; omega, fun r j => by
    by_cases e : r = k + t
    · rw [e, setr_at, ab_neg]; exact h.ab _ j
    · rw [setr_ne e]; exact h.ab r j⟩

/-- Rows k and i change places, the one less so many times the other. -/
def prs (k i : Nat) (f : Nat → Nat → Int) : Nat → Nat → Int := fun r => if r = i then rdc k (f i) (f k) else if r = k then f i else f r
/-- Euclid's steps on rows k and i of g. -/
structure Prs (n k i : Nat) (L : Int) (g f : Nat → Nat → Int) : Prop where
  eql : Eql n f g
  oth : ∀ r, r ≠ k → r ≠ i → f r = g r
  nk : 0 ≤ f k k
  ni : 0 ≤ f i k
  cof : ∃ U0 V0 U1 V1, Cof n L k (g k) (g i) (f k) (f i) U0 V0 U1 V1
theorem Prs.start {n k i : Nat} {L : Int} {g : Nat → Nat → Int} (hL : 1 ≤ L) (h1 : 0 ≤ g k k) (h2 : g k k ≤ L) (h3 : 0 ≤ g i k) (h4 : g i k ≤ L) : Prs n k i L g g :=
  ⟨Eql.rfl' n g, fun _ _ _ => rfl, h1, h3, 1, 0, 0, 1, Cof.start hL (by rw [ab_of h1]; exact h2) (by rw [ab_of h3]; exact h4)⟩
theorem Prs.step {n k i : Nat} {L : Int} {g f : Nat → Nat → Int} (h : Prs n k i L g f) (hk : k < n) (hi : i < n) (hne : k ≠ i) (h1 : 0 ≤ g k k) (h2 : g k k ≤ L) (h3 : 0 ≤ g i k) (h4 : g i k ≤ L) (h0 : f i k ≠ 0) :
    Prs n k i L g (prs k i f) ∧ (prs k i f) i k < f i k ∧ (∀ j, j < n → ab (f k j) ≤ L * (ab (g k j) + ab (g i j)) ∧ ab (f k k / f i k * f i j) ≤ L * (ab (g k j) + ab (g i j))) := by
  have ni := h.ni
  have hp : 0 < f i k := by omega
  obtain ⟨U0, V0, U1, V1, c⟩ := h.cof
  have hA : ab (g k k) ≤ L := by rw [ab_of h1]; exact h2
  have hB : ab (g i k) ≤ L := by rw [ab_of h3]; exact h4
  have hq := floor_q h.nk hp
  have e1 : prs k i f k = f i := by unfold prs; rw [if_neg hne, if_pos rfl]
  have e2 : prs k i f i = rdc k (f i) (f k) := by unfold prs; rw [if_pos rfl]
  have hm := Int.emod_nonneg (f k k) h0
  have hl := Int.emod_lt_of_pos (f k k) hp
  refine ⟨⟨?_, fun r hr1 hr2 => ?_, by rw [e1]; exact ni, by rw [e2, rdc_at]; exact hm, U1, V1, _, _, by rw [e1, e2]; exact c.swap.step hA hB h0 hq⟩, by rw [e2, rdc_at]; exact hl, fun j hj => ⟨c.lex hj, c.swap.times hA hB h0 hq hj⟩⟩
  · have a1 := eql_add f hk hi hne (-(f k k / f i k))
    have a2 := eql_swap (setr k (fun j => f k j + -(f k k / f i k) * f i j) f) hi hk
    have e : (fun r j => setr k (fun j => f k j + -(f k k / f i k) * f i j) f (if r = i then k else if r = k then i else r) j) = prs k i f := by
      funext r j
      unfold prs
      by_cases r1 : r = i
      · rw [if_pos r1, if_pos r1, setr_at]; unfold rdc; grind
      · rw [if_neg r1, if_neg r1]
        by_cases r2 : r = k
        · rw [if_pos r2, if_pos r2, setr_ne (fun e => hne e.symm)]
        · rw [if_neg r2, if_neg r2, setr_ne r2]
    rw [e] at a2
    exact a2.trans (a1.trans h.eql)
  · unfold prs; rw [if_neg hr2, if_neg hr1]; exact h.oth r hr1 hr2

/-- How large numbers get in a column of which those of the rows are at most L, behind t rows. -/
def bt (L : Int) : Nat → Int
  | 0 => L
  | t + 1 => L * (bt L t + L)
theorem bt_le {L : Int} (hL : 1 ≤ L) : ∀ t, L ≤ bt L t
  | 0 => Int.le_refl L
  | t + 1 => by
    have h := bt_le hL t
    have := Int.mul_le_mul_of_nonneg_right hL (show 0 ≤ bt L t + L by omega)
    show L ≤ L * (bt L t + L)
    omega
theorem bt_up {L : Int} (hL : 1 ≤ L) (t : Nat) : bt L t ≤ bt L (t + 1) := by
  have h := bt_le hL t
  have := Int.mul_le_mul_of_nonneg_right hL (show 0 ≤ bt L t + L by omega)
  show bt L t ≤ L * (bt L t + L)
  omega
/-- Column k as far as row i: rows between have 0 there. -/
structure Gat (n k i : Nat) (L : Int) (f0 f : Nat → Nat → Int) : Prop where
  eql : Eql n f f0
  top : ∀ r, r < k → f r = f0 r
  low : ∀ r j, k ≤ r → r < n → j < k → f r j = 0
  nn : ∀ r, k ≤ r → r < n → 0 ≤ f r k
  cl : ∀ r, k ≤ r → r < n → f r k ≤ L
  z : ∀ r, k < r → r < i → f r k = 0
  b1 : ∀ r j, k ≤ r → r < i → j < n → ab (f r j) ≤ bt L (i - k - 1)
  b2 : ∀ r j, i ≤ r → r < n → j < n → ab (f r j) ≤ L
theorem Gat.start {n k : Nat} {L : Int} {f0 f : Nat → Nat → Int} (hk : k < n) (h : Ngs n k (n - k) f0 f) (hl : ∀ r j, k ≤ r → r < n → j < k → f0 r j = 0) (hb : ∀ r j, k ≤ r → r < n → j < n → ab (f0 r j) ≤ L) : Gat n k (k + 1) L f0 f := by
  have b : ∀ r j, k ≤ r → r < n → j < n → ab (f r j) ≤ L := fun r j h1 h2 h3 => by rw [h.ab]; exact hb r j h1 h2 h3
  have nn : ∀ r, k ≤ r → r < n → 0 ≤ f r k := fun r h1 h2 => h.nn r h1 (by omega)
  refine ⟨h.eql, h.top, fun r j h1 h2 h3 => ab_zero ?_, nn, fun r h1 h2 => ?_, fun r h1 h2 => absurd h2 (by omega), fun r j h1 h2 h3 => ?_, fun r j h1 h2 h3 => b r j (by omega) h2 h3⟩
  · rw [h.ab, hl r j h1 h2 h3]; rfl
  · have := b r k h1 h2 hk
    rwa [ab_of (nn r h1 h2)] at this
  · rw [show k + 1 - k - 1 = 0 by omega]; exact b r j h1 (by omega) h3
theorem Gat.next {n k i : Nat} {L : Int} {f0 g f : Nat → Nat → Int} (h : Gat n k i L f0 g) (hL : 1 ≤ L) (hki : k < i) (hi : i < n) (hp : Prs n k i L g f) (hz : f i k = 0) : Gat n k (i + 1) L f0 f := by
  obtain ⟨U0, V0, U1, V1, c⟩ := hp.cof
  have e : i + 1 - k - 1 = (i - k - 1) + 1 := by omega
  have oth : ∀ r, r ≠ k → r ≠ i → f r = g r := hp.oth
  have bd : ∀ j, j < n → L * (ab (g k j) + ab (g i j)) ≤ bt L (i + 1 - k - 1) := fun j hj => by
    have h1 := h.b1 k j (Nat.le_refl k) hki hj
    have h2 := h.b2 i j (Nat.le_refl i) hi hj
    rw [e]
    exact Int.mul_le_mul_of_nonneg_left (by omega) (by omega)
  have z2 : ∀ j, j < k → f k j = 0 ∧ f i j = 0 := fun j hj => c.zero (by omega) (h.low k j (Nat.le_refl k) (by omega) hj) (h.low i j (by omega) hi hj)
  refine ⟨hp.eql.trans h.eql, fun r hr => by rw [oth r (by omega) (by omega)]; exact h.top r hr, fun r j h1 h2 h3 => ?_, fun r h1 h2 => ?_, fun r h1 h2 => ?_, fun r h1 h2 => ?_, fun r j h1 h2 h3 => ?_, fun r j h1 h2 h3 => ?_⟩
  · by_cases e1 : r = k
    · rw [e1]; exact (z2 j h3).1
    · by_cases e2 : r = i
      · rw [e2]; exact (z2 j h3).2
      · rw [oth r e1 e2]; exact h.low r j h1 h2 h3
  · by_cases e1 : r = k
    · rw [e1]; exact hp.nk
    · by_cases e2 : r = i
      · rw [e2]; exact hp.ni
      · rw [oth r e1 e2]; exact h.nn r h1 h2
  · by_cases e1 : r = k
    · rw [e1, ← ab_of hp.nk]; exact c.cx
    · by_cases e2 : r = i
      · rw [e2, ← ab_of hp.ni]; exact c.cy
      · rw [oth r e1 e2]; exact h.cl r h1 h2
  · by_cases e2 : r = i
    · rw [e2]; exact hz
    · rw [oth r (by omega) e2]; exact h.z r h1 (by omega)
  · by_cases e1 : r = k
    · rw [e1]; exact Int.le_trans (c.lex h3) (bd j h3)
    · by_cases e2 : r = i
      · rw [e2]; exact Int.le_trans (c.ley h3) (bd j h3)
      · rw [oth r e1 e2]
        have h4 := h.b1 r j h1 (by omega) h3
        have h5 := bt_up hL (i - k - 1)
        rw [e]; omega
  · rw [oth r (by omega) (by omega)]; exact h.b2 r j (by omega) h2 h3

/-- The first t rows less so many times row k. -/
def upr (k t : Nat) (g : Nat → Nat → Int) : Nat → Nat → Int := fun r => if r < t then rdc k (g k) (g r) else g r
theorem upr_eql {n k : Nat} (hk : k < n) (g : Nat → Nat → Int) : ∀ t, t ≤ k → Eql n (upr k t g) g
  | 0, _ => by
    have : upr k 0 g = g := funext fun r => if_neg (Nat.not_lt_zero r)
    rw [this]; exact Eql.rfl' n g
  | t + 1, ht => by
    have h := upr_eql hk g t (by omega)
    have e : setr t (fun j => upr k t g t j + -(g t k / g k k) * upr k t g k j) (upr k t g) = upr k (t + 1) g := by
      funext r j
      have e1 : upr k t g t = g t := if_neg (Nat.lt_irrefl t)
      have e2 : upr k t g k = g k := if_neg (by omega)
      by_cases r1 : r = t
      · rw [r1, setr_at, e1, e2]
        unfold upr; rw [if_pos (by omega)]; unfold rdc; grind
      · rw [setr_ne r1]
        unfold upr
        by_cases r2 : r < t
        · rw [if_pos r2, if_pos (by omega)]
        · rw [if_neg r2, if_neg (by omega)]
    have h2 := eql_add (upr k t g) (show t < n by omega) hk (show t ≠ k by omega) (-(g t k / g k k))
    rw [e] at h2
    exact h2.trans h

theorem upr_step {k t : Nat} (ht : t < k) (g : Nat → Nat → Int) (r j : Nat) : setr t (rdc k (upr k t g k) (upr k t g t)) (upr k t g) r j = upr k (t + 1) g r j := by
  have e1 : upr k t g t = g t := if_neg (Nat.lt_irrefl t)
  have e2 : upr k t g k = g k := if_neg (by omega)
  by_cases r1 : r = t
  · rw [r1, setr_at, e1, e2]
    unfold upr; rw [if_pos (by omega)]
  · rw [setr_ne r1]
    unfold upr
    by_cases r2 : r < t
    · rw [if_pos r2, if_pos (by omega)]
    · rw [if_neg r2, if_neg (by omega)]
/-- Bounds for the rows from column k on, and for those above it (of at most three rows). -/
def lbd : Nat → Int
  | 0 => 20
  | 1 => 16400
  | _ => 537920000
def ubd : Nat → Int
  | 0 => 0
  | 1 => 16400
  | _ => 9000000000000
theorem lbd_one (k : Nat) : 1 ≤ lbd k := by
  match k with
  | 0 => decide
  | 1 => decide
  | _ + 2 => show (1 : Int) ≤ 537920000; omega
theorem lbd_le (k : Nat) : lbd k ≤ 537920000 := by
  match k with
  | 0 => decide
  | 1 => decide
  | _ + 2 => show (537920000 : Int) ≤ 537920000; omega
theorem ubd_le (k : Nat) : ubd k ≤ 9000000000000 := by
  match k with
  | 0 => decide
  | 1 => decide
  | _ + 2 => show (9000000000000 : Int) ≤ 9000000000000; omega
theorem bt_lbd {n k t : Nat} (h3 : n ≤ 3) (hk : k < n) (ht : t ≤ n - k - 1) : bt (lbd k) t ≤ lbd (k + 1) := by
  have hk3 : k = 0 ∨ k = 1 ∨ k = 2 := by omega
  rcases hk3 with e | e | e
  · have ht3 : t = 0 ∨ t = 1 ∨ t = 2 := by omega
    rcases ht3 with e2 | e2 | e2 <;> rw [e, e2] <;> decide
  · have ht3 : t = 0 ∨ t = 1 := by omega
    rcases ht3 with e2 | e2 <;> rw [e, e2] <;> decide
  · rw [e, show t = 0 by omega]; decide
/-- In Euclid's steps on rows k and i numbers stay small. -/
theorem Gat.bound {n k i : Nat} {f0 g : Nat → Nat → Int} (h : Gat n k i (lbd k) f0 g) (h3 : n ≤ 3) (hk : k < n) (hki : k < i) (hi : i < n) (hb : ∀ t, t ≤ n - k - 1 → bt (lbd k) t ≤ 537920000) {j : Nat} (hj : j < n) (hL : 0 ≤ lbd k) : lbd k * (ab (g k j) + ab (g i j)) ≤ 537920000 := by
  have h1 := h.b1 k j (Nat.le_refl k) hki hj
  have h2 := h.b2 i j (Nat.le_refl i) hi hj
  have h4 := Int.mul_le_mul_of_nonneg_left (show ab (g k j) + ab (g i j) ≤ bt (lbd k) (i - k - 1) + lbd k by omega) hL
  exact Int.le_trans h4 (hb (i - k - 1 + 1) (by omega))
/-- The form as far as column k. -/
structure Fm (n k : Nat) (f0 f : Nat → Nat → Int) : Prop where
  eql : Eql n f f0
  low : ∀ i j, i < n → j < k → j < i → f i j = 0
  pos : ∀ j, j < k → 0 < f j j
  red : ∀ i j, i < j → j < k → 0 ≤ f i j ∧ f i j < f j j
  bl : ∀ i j, k ≤ i → i < n → j < n → ab (f i j) ≤ lbd k
  bu : ∀ i j, i < k → i < n → j < n → ab (f i j) ≤ ubd k
theorem Fm.start {n : Nat} {f : Nat → Nat → Int} (h : ∀ i j, i < n → j < n → ab (f i j) ≤ 20) : Fm n 0 f f :=
  ⟨Eql.rfl' n f, fun i j _ h => absurd h (by omega), fun j h => absurd h (by omega), fun i j _ h => absurd h (by omega), fun i j _ hi hj => h i j hi hj, fun i j hi => absurd hi (by omega)⟩
theorem floor_ab {a b : Int} (hb : 0 < b) : ab (a / b) ≤ ab a := by
  have h1 := Int.mul_ediv_add_emod a b
  have h2 := Int.emod_nonneg a (Int.ne_of_gt hb)
  have h3 := Int.emod_lt_of_pos a hb
  rcases Int.lt_or_le a 0 with h | h
  · have h4 : a / b < 0 := Int.ediv_neg_of_neg_of_pos h hb
    have h5 : a ≤ a / b := by
      have e : b * (a / b) ≤ a := by omega
      have := Int.mul_le_mul_of_nonneg_left (show a / b ≤ -1 by omega) (show 0 ≤ b - 1 by omega)
      have e2 : (b - 1) * (a / b) = b * (a / b) - a / b := by grind
      have e3 : (b - 1) * (-1 : Int) = 1 - b := by grind
      omega
    unfold ab; omega
  · have h4 := Int.ediv_nonneg h (Int.le_of_lt hb)
    have h5 := Int.ediv_le_self b h
    unfold ab; omega
/-- What a row above loses. -/
theorem up_bound {n k : Nat} {L U : Int} {f : Nat → Nat → Int} {r : Nat} (hk : k < n) (hL : ∀ j, j < n → ab (f k j) ≤ L) (hU : ∀ j, j < n → ab (f r j) ≤ U) (hz : ∀ j, j < k → f k j = 0) (hp : 0 < f k k) {j : Nat} (hj : j < n) :
    (j < k → f r k / f k k * f k j = 0) ∧ (j = k → ab (f r k / f k k * f k j) ≤ U + L) ∧ ab (f r k / f k k * f k j) ≤ U * L := by
  refine ⟨fun h => by rw [hz j h]; grind, fun h => ?_, ?_⟩
  · rw [h]
    have h1 := Int.mul_ediv_add_emod (f r k) (f k k)
    have h2 := Int.emod_nonneg (f r k) (Int.ne_of_gt hp)
    have h3 := Int.emod_lt_of_pos (f r k) hp
    have h4 := hU k hk
    have h5 := hL k hk
    rw [Int.mul_comm] at h1
    generalize f r k / f k k * f k k = z at *
    unfold ab at *; omega
  · rw [ab_mul]
    have h1 := floor_ab (a := f r k) hp
    have h2 := hU k hk
    have h3 := hL j hj
    have h4 := ab_pos (f r k / f k k)
    have h5 := ab_pos (f k j)
    exact Int.le_trans (Int.mul_le_mul_of_nonneg_right (Int.le_trans h1 h2) h5) (Int.mul_le_mul_of_nonneg_left h3 (by omega))
/-- Behind column k: what the rows above it lose stays in bounds. -/
theorem Fm.mid {n k : Nat} {f0 g f : Nat → Nat → Int} (h : Fm n k f0 g) (h3 : n ≤ 3) (hk : k < n) (hg : Gat n k n (lbd k) g f) (hp : f k k ≠ 0) :
    (∀ r, r < k → ∀ j, j < n → ab (f r j) ≤ 9000000000000 ∧ ab (f r k / f k k * f k j) ≤ 9000537920000) ∧ 0 < f k k := by
  have hp' : 0 < f k k := by have := hg.nn k (Nat.le_refl k) hk; omega
  have hL : ∀ j, j < n → ab (f k j) ≤ 537920000 := fun j hj => Int.le_trans (hg.b1 k j (Nat.le_refl k) hk hj) (Int.le_trans (bt_lbd h3 hk (Nat.le_refl _)) (lbd_le _))
  refine ⟨fun r hr j hj => ?_, hp'⟩
  have hU : ∀ j, j < n → ab (f r j) ≤ ubd k := fun j hj => by rw [hg.top r hr]; exact h.bu r j hr (by omega) hj
  have b := up_bound hk hL hU (fun j hj => hg.low k j (Nat.le_refl k) hk hj) hp' hj
  have hu := ubd_le k
  refine ⟨Int.le_trans (hU j hj) hu, ?_⟩
  rcases Nat.lt_trichotomy j k with h1 | h1 | h1
  · rw [b.1 h1]; decide
  · have := b.2.1 h1; omega
  · have hk1 : k = 1 := by omega
    have := b.2.2
    rw [hk1] at this ⊢
    have e : ubd 1 * 537920000 ≤ 9000000000000 := by decide
    omega
theorem Fm.next {n k : Nat} {f0 g f : Nat → Nat → Int} (h : Fm n k f0 g) (h3 : n ≤ 3) (hk : k < n) (hg : Gat n k n (lbd k) g f) (hp : f k k ≠ 0) : Fm n (k + 1) f0 (upr k k f) := by
  have hp' := (h.mid h3 hk hg hp).2
  have hb : ∀ r j, k ≤ r → r < n → j < n → ab (f r j) ≤ lbd (k + 1) := fun r j h1 h2 hj => Int.le_trans (hg.b1 r j h1 h2 hj) (bt_lbd h3 hk (Nat.le_refl _))
  have er : ∀ r, r < k → upr k k f r = rdc k (f k) (f r) := fun r hr => if_pos hr
  have en : ∀ r, k ≤ r → upr k k f r = f r := fun r hr => if_neg (by omega)
  have hz : ∀ j, j < k → f k j = 0 := fun j hj => hg.low k j (Nat.le_refl k) hk hj
  have el : ∀ r j, r < k → j < k → upr k k f r j = g r j := fun r j hr hj => by
    rw [er r hr]; unfold rdc; rw [hz j hj, hg.top r hr]; grind
  refine ⟨(upr_eql hk f k (Nat.le_refl k)).trans (hg.eql.trans h.eql), fun i j hi hj hlt => ?_, fun j hj => ?_, fun i j hlt hj => ?_, fun i j h1 h2 hj => by rw [en i (by omega)]; exact hb i j (by omega) h2 hj, fun i j hi hi2 hj => ?_⟩
  · rcases Nat.lt_or_ge i k with h1 | h1
    · rw [el i j h1 (by omega)]; exact h.low i j hi (by omega) hlt
    · rw [en i h1]
      by_cases e : j = k
      · rw [e]; exact hg.z i (by omega) hi
      · exact hg.low i j h1 hi (by omega)
  · rcases Nat.lt_or_ge j k with h1 | h1
    · rw [el j j h1 h1]; exact h.pos j h1
    · rw [show j = k by omega, en k (Nat.le_refl k)]; exact hp'
  · rcases Nat.lt_or_ge j k with h1 | h1
    · rw [el i j (by omega) h1, el j j h1 h1]; exact h.red i j hlt h1
    · rw [show j = k by omega, en k (Nat.le_refl k), er i (by omega), rdc_at]
      exact ⟨Int.emod_nonneg _ hp, Int.emod_lt_of_pos _ hp'⟩
  · rcases Nat.lt_or_ge i k with h1 | h1
    · rw [er i h1]
      have m := (h.mid h3 hk hg hp).1 i h1
      have hub : ubd (k + 1) = 9000000000000 := by
        match k, h1 with
        | 1, _ => rfl
        | _ + 2, _ => rfl
      rw [hub]
      rcases Nat.lt_trichotomy j k with h4 | h4 | h4
      · unfold rdc; rw [hz j h4]
        have := (m j hj).1
        rw [show f i j - f i k / f k k * 0 = f i j by grind]; exact this
      · rw [h4, rdc_at]
        have h5 := Int.emod_nonneg (f i k) hp
        have h6 := Int.emod_lt_of_pos (f i k) hp'
        have h7 := hb k k (Nat.le_refl k) hk hk
        have h8 := lbd_le (k + 1)
        rw [ab_of (Int.le_of_lt hp')] at h7
        rw [ab_of h5]; omega
      · have hk1 : k = 1 := by omega
        have hL : ∀ j, j < n → ab (f k j) ≤ 537920000 := fun j hj => Int.le_trans (hb k j (Nat.le_refl k) hk hj) (lbd_le _)
        have hU : ∀ j, j < n → ab (f i j) ≤ ubd k := fun j hj => by rw [hg.top i h1]; exact h.bu i j h1 (by omega) hj
        have b := (up_bound hk hL hU hz hp' hj).2.2
        have c := hU j hj
        have d := ab_sub (f i j) (f i k / f k k * f k j)
        rw [show ubd k = 16400 by rw [hk1]; rfl] at b c
        show ab (f i j - f i k / f k k * f k j) ≤ 9000000000000
        omega
    · rw [show i = k by omega, en k (Nat.le_refl k)]
      refine Int.le_trans (hb k j (Nat.le_refl k) hk hj) ?_
      match k with
      | 0 => decide
      | 1 => decide
      | _ + 2 => show (537920000 : Int) ≤ 9000000000000; omega
theorem Fm.hnf {n : Nat} {f0 f : Nat → Nat → Int} (h : Fm n n f0 f) : Hnf n f := ⟨fun i j hi hj => h.low i j hi (by omega) hj, h.pos, h.red⟩
/-- Noughts in the first columns of the last rows: no determinant. -/
theorem dt_flat : ∀ (n k : Nat) (f : Nat → Nat → Int), k < n → (∀ r j, k ≤ r → r < n → j ≤ k → f r j = 0) → (∀ i j, i < n → j < k → j < i → f i j = 0) → dt n f = 0
  | n + 1, 0, f, _, h, _ => by
    rw [dt_firstc n f fun i hi hn => h i 0 (Nat.zero_le _) hn (Nat.le_refl _), h 0 0 (Nat.le_refl _) (by omega) (Nat.le_refl _)]; grind
  | n + 1, k + 1, f, hk, h, hl => by
    rw [dt_firstc n f fun i hi hn => hl i 0 hn (by omega) hi, dt_flat n k (fun i j => f (i + 1) (j + 1)) (by omega) (fun r j h1 h2 h3 => h (r + 1) (j + 1) (by omega) (by omega) (by omega)) fun i j h1 h2 h3 => hl (i + 1) (j + 1) (by omega) (by omega) (by omega)]; grind
theorem Fm.none {n k : Nat} {f0 g f : Nat → Nat → Int} (h : Fm n k f0 g) (hk : k < n) {L : Int} (hg : Gat n k n L g f) (hz : f k k = 0) : dt n f0 = 0 := by
  have e := (hg.eql.trans h.eql).det
  have d : dt n f = 0 := dt_flat n k f hk (fun r j h1 h2 h3 => by
    rcases Nat.lt_or_ge j k with h4 | h4
    · exact hg.low r j h1 h2 h4
    · rw [show j = k by omega]
      by_cases e : r = k
      · rw [e]; exact hz
      · exact hg.z r (by omega) h2) fun i j hi hj hlt => by
    rcases Nat.lt_or_ge i k with h4 | h4
    · rw [hg.top i h4]; exact h.low i j hi hj hlt
    · exact hg.low i j h4 hi hj
  rw [d] at e
  omega
theorem Hnf.ne {n : Nat} {a m : Nat → Nat → Int} (ha : Hnf n a) (h : Eql n a m) : dt n m ≠ 0 := fun e => by
  have h1 := ha.det h
  rw [e] at h1
  have hp : ∀ k, k ≤ n → 0 < pr k fun i => a i i := fun k => by
    induction k with
    | zero => intro _; show (0 : Int) < 1; decide
    | succ k ih => intro hk; exact Int.mul_pos (ih (by omega)) (ha.pos k (by omega))
  have := hp n (Nat.le_refl n)
  rw [h1] at this
  exact absurd this (by decide)
theorem pr_ge {g : Nat → Int} : ∀ (n : Nat), (∀ i, i < n → 1 ≤ g i) → (1 ≤ pr n g ∧ ∀ i, i < n → g i ≤ pr n g)
  | 0, _ => ⟨by show (1 : Int) ≤ 1; omega, fun i hi => absurd hi (by omega)⟩
  | n + 1, h => by
    obtain ⟨h1, h2⟩ := pr_ge n fun i hi => h i (by omega)
    have h3 := h n (by omega)
    have h4 := Int.mul_le_mul_of_nonneg_left h3 (show 0 ≤ pr n g by omega)
    have h5 := Int.mul_le_mul_of_nonneg_right h1 (show 0 ≤ g n by omega)
    refine ⟨by show 1 ≤ pr n g * g n; omega, fun i hi => ?_⟩
    show g i ≤ pr n g * g n
    by_cases e : i = n
    · rw [e]; omega
    · have := h2 i (by omega); omega
/-- The numbers of the form are at most the determinant. -/
theorem Hnf.le {n : Nat} {a m : Nat → Nat → Int} (ha : Hnf n a) (h : Eql n a m) {M : Int} (hM : ab (dt n m) ≤ M) {i j : Nat} (hi : i < n) (hj : j < n) : 0 ≤ a i j ∧ a i j ≤ M := by
  have h1 := ha.det h
  have h2 := pr_ge n fun i hi => (show 1 ≤ a i i by have := ha.pos i hi; omega)
  have h3 := h2.2 j hj
  have h4 := ha.pos j hj
  unfold ab at hM
  rcases Nat.lt_trichotomy i j with h5 | h5 | h5
  · have := ha.red i j h5 hj; omega
  · rw [h5]; omega
  · rw [ha.low i j hi h5]; omega

/-- What is left of a row, the first t rows of the form taken from it. -/
def lft (a : Nat → Nat → Int) (x : Nat → Int) : Nat → Nat → Int
  | 0 => x
  | t + 1 => rdc t (a t) (lft a x t)
theorem lft_lat {n : Nat} {a : Nat → Nat → Int} (x : Nat → Int) : ∀ t, t ≤ n → Lat n a fun j => x j - lft a x t j
  | 0, _ => (Lat.nought n a).congr fun j _ => by show (0 : Int) = x j - x j; omega
  | t + 1, ht => ((lft_lat x t (by omega)).add ((Lat.row a (show t < n by omega)).times (lft a x t t / a t t))).congr fun j _ => by
    show x j - lft a x t j + lft a x t t / a t t * a t j = x j - (lft a x t j - lft a x t t / a t t * a t j)
    omega
theorem lft_low {n : Nat} {a : Nat → Nat → Int} (ha : Hnf n a) (x : Nat → Int) : ∀ t, t ≤ n → ∀ j, j < t → 0 ≤ lft a x t j ∧ lft a x t j < a j j
  | 0, _, j, h => absurd h (by omega)
  | t + 1, ht, j, h => by
    by_cases e : j = t
    · rw [e]
      have hp := ha.pos t (by omega)
      show 0 ≤ rdc t (a t) (lft a x t) t ∧ rdc t (a t) (lft a x t) t < a t t
      rw [rdc_at]
      exact ⟨Int.emod_nonneg _ (Int.ne_of_gt hp), Int.emod_lt_of_pos _ hp⟩
    · have := lft_low ha x t (by omega) j (by omega)
      show 0 ≤ lft a x t j - lft a x t t / a t t * a t j ∧ lft a x t j - lft a x t t / a t t * a t j < a j j
      rw [ha.low t j (by omega) (by omega)]
      rw [show lft a x t j - lft a x t t / a t t * 0 = lft a x t j by grind]
      exact this
/-- A row is a sum just if nothing is left of it. -/
theorem lft_iff {n : Nat} {a : Nat → Nat → Int} (ha : Hnf n a) (x : Nat → Int) : (∀ j, j < n → lft a x n j = 0) ↔ Lat n a x := by
  constructor
  · intro h
    exact (lft_lat x n (Nat.le_refl n)).congr fun j hj => by rw [h j hj]; omega
  · intro h
    have hl : Lat n a (lft a x n) := (h.less (lft_lat x n (Nat.le_refl n))).congr fun j _ => by omega
    intro j
    induction j using Nat.strongRecOn with
    | _ j ih =>
      intro hj
      obtain ⟨q, hq⟩ := ha.lead hl hj fun i hi => ih i hi (by omega)
      have b := lft_low ha x n (Nat.le_refl n) j hj
      have p := ha.pos j hj
      have : q = 0 := by
        rcases Int.lt_trichotomy q 0 with h2 | h2 | h2
        · have := Int.mul_le_mul_of_nonneg_left (show q ≤ -1 by omega) (show 0 ≤ a j j by omega); omega
        · exact h2
        · have := Int.mul_le_mul_of_nonneg_left (show 1 ≤ q by omega) (show 0 ≤ a j j by omega); omega
      rw [hq, this]; omega
/-- How large what is left of a row gets. -/
def lfb : Nat → Int
  | 0 => 100
  | t + 1 => lfb t * 48001
theorem lft_bd {n : Nat} {a : Nat → Nat → Int} (ha : Hnf n a) (hb : ∀ i j, i < n → j < n → 0 ≤ a i j ∧ a i j ≤ 48000) (x : Nat → Int) (hx : ∀ j, j < n → ab (x j) ≤ 100) : ∀ t, t ≤ n → ∀ j, j < n → ab (lft a x t j) ≤ lfb t
  | 0, _, j, hj => hx j hj
  | t + 1, ht, j, hj => by
    have h1 := lft_bd ha hb x hx t (by omega) j hj
    have h2 := lft_bd ha hb x hx t (by omega) t (by omega)
    have h3 := floor_ab (a := lft a x t t) (ha.pos t (by omega))
    have h4 := hb t j (by omega) hj
    have h5 := ab_sub (lft a x t j) (lft a x t t / a t t * a t j)
    have h6 : ab (lft a x t t / a t t * a t j) ≤ lfb t * 48000 := by
      rw [ab_mul, ab_of h4.1]
      have p := ab_pos (lft a x t t / a t t)
      exact Int.le_trans (Int.mul_le_mul_of_nonneg_left h4.2 p) (Int.mul_le_mul_of_nonneg_right (Int.le_trans h3 h2) (by omega))
    show ab (lft a x t j - lft a x t t / a t t * a t j) ≤ lfb t * 48001
    omega
theorem lft_step {n : Nat} {a : Nat → Nat → Int} (ha : Hnf n a) (hb : ∀ i j, i < n → j < n → 0 ≤ a i j ∧ a i j ≤ 48000) (x : Nat → Int) (hx : ∀ j, j < n → ab (x j) ≤ 100) (h3 : n ≤ 3) {t j : Nat} (ht : t < n) (hj : j < n) :
    ab (lft a x t j) ≤ 1000000000000000 ∧ ab (lft a x t t / a t t * a t j) ≤ 4000000000000000000 := by
  have h1 := lft_bd ha hb x hx t (by omega) j hj
  have h2 := lft_bd ha hb x hx t (by omega) t (by omega)
  have h3' := floor_ab (a := lft a x t t) (ha.pos t (by omega))
  have h4 := hb t j (by omega) hj
  have hl : lfb t ≤ 230409600100 * 1 := by
    have : t = 0 ∨ t = 1 ∨ t = 2 := by omega
    rcases this with e | e | e <;> rw [e] <;> decide
  have h6 : ab (lft a x t t / a t t * a t j) ≤ lfb t * 48000 := by
    rw [ab_mul, ab_of h4.1]
    have p := ab_pos (lft a x t t / a t t)
    exact Int.le_trans (Int.mul_le_mul_of_nonneg_left h4.2 p) (Int.mul_le_mul_of_nonneg_right (Int.le_trans h3' h2) (by omega))
  omega
theorem fb_twenty {n : Nat} (h : n ≤ 3) : fb 20 n ≤ 48000 := by
  have : n = 0 ∨ n = 1 ∨ n = 2 ∨ n = 3 := by omega
  rcases this with e | e | e | e <;> rw [e] <;> decide +kernel
theorem dt_twenty {n : Nat} {x : Nat → Nat → Int} (h : n ≤ 3) (hx : ∀ i j, i < n → j < n → ab (x i j) ≤ 20) : ab (dt n x) ≤ 48000 :=
  Int.le_trans (dt_ab (M := 20) (by omega) n x hx) (fb_twenty h)
end Go.Proofs.Ytlnehhhlpdaebaa.Zx
