/- Several texts, one behind the other: HmM, OwnH, HmC2, HmC3, Clone, HmC4, RowsG, Seq, HmC5, Bz, SmC4, SmC5, MxRef, MxRef2, ZRef, MxRef3, MxRef4, HdsV, ZDet, ZDetH, HmRf1, GcdZ, SmRef, Told, ErrK, ErrG, SmSays. -/
import Derived.Test.YtmimbioffnolaaaDoorSmithSaysProofG2
import Derived.StillTailTactics
import Derived.Deep.LoopGhost
import Derived.Deep.RegionHeld3
import Derived.Test.YtmimbioffnolaaaDoorSmithSaysProofG1
import Derived.BigQuiet
import Derived.Test.YtmimbioffnolaaaDoorProg
import Derived.WalkKit
import Derived.LaidEql
import Derived.Stop.Asserts
import Derived.RowKitTokens
import Derived.Handy
import Derived.ProofKit
import Derived.OpenShut
import Derived.Lib.Hide

/- Hermite's form of rows of whole numbers, mathematics alone: Euclid's steps on two rows, how large numbers get, what stands behind each column. No program is named here. -/
namespace Go.Proofs.YtmimbioffnolaaaDoor.Zx
set_option linter.unusedVariables false

theorem ab_of {x : Int} (h : 0 ≤ x) : ab x = x := by unfold ab; omega
theorem ab_neg (x : Int) : ab (-x) = ab x := by unfold ab; omega
theorem ab_one {x : Int} (h : x ≠ 0) : 1 ≤ ab x := by unfold ab; omega
/-- Row a less so many times row b that its number at k is from 0 on and less than b's. -/
def rdc (k : Nat) (b a : Nat → Int) : Nat → Int := fun j => a j - a k / b k * b j
theorem rdc_at (k : Nat) (b a : Nat → Int) : rdc k b a k = a k % b k := by
  have := Int.emod_def (a k) (b k)
  unfold rdc; rw [this, Int.mul_comm]
/-- What of two rows A and B has become by Euclid's steps at place k: x and y, and by how often A and B are in them. -/
structure Cof (n : Nat) (C : Int) (k : Nat) (A B x y : Nat → Int) (U0 V0 U1 V1 : Int) : Prop where
  u0 : 0 ≤ U0 ∧ U0 ≤ C
  v0 : 0 ≤ V0 ∧ V0 ≤ C
  u1 : 0 ≤ U1 ∧ U1 ≤ C
  v1 : 0 ≤ V1 ∧ V1 ≤ C
  a : ab (x k) * V1 + ab (y k) * V0 = ab (A k)
  b : ab (x k) * U1 + ab (y k) * U0 = ab (B k)
  bx : ∀ j, j < n → ab (x j) ≤ U0 * ab (A j) + V0 * ab (B j)
  by' : ∀ j, j < n → ab (y j) ≤ U1 * ab (A j) + V1 * ab (B j)
  cx : ab (x k) ≤ C
  cy : ab (y k) ≤ C
theorem Cof.start {n : Nat} {C : Int} {k : Nat} {A B : Nat → Int} (hC : 1 ≤ C) (hA : ab (A k) ≤ C) (hB : ab (B k) ≤ C) : Cof n C k A B A B 1 0 0 1 :=
  ⟨by omega, by omega, by omega, by omega, by omega, by omega, fun j _ => by omega, fun j _ => by omega, hA, hB⟩
theorem Cof.swap {n : Nat} {C : Int} {k : Nat} {A B x y : Nat → Int} {U0 V0 U1 V1 : Int} (h : Cof n C k A B x y U0 V0 U1 V1) : Cof n C k A B y x U1 V1 U0 V0 :=
  ⟨h.u1, h.v1, h.u0, h.v0, by rw [Int.add_comm]; exact h.a, by rw [Int.add_comm]; exact h.b, h.by', h.bx, h.cy, h.cx⟩
theorem step_id {X Y Q V0 V1 z : Int} (h : X * V1 + Y * V0 = z) (Y' : Int) (hq : Q * X + Y' = Y) : X * (V1 + Q * V0) + Y' * V0 = z := by
  rw [← h, ← hq]; grind
theorem le_by {X V Y W z : Int} (hX : 1 ≤ X) (hV : 0 ≤ V) (hY : 0 ≤ Y) (hW : 0 ≤ W) (h : X * V + Y * W = z) : V ≤ z := by
  have h1 := Int.mul_le_mul_of_nonneg_right hX hV
  have h2 := Int.mul_nonneg hY hW
  omega
theorem step_le {q a b Q U0 V0 U1 V1 A B : Int} (h0 : 0 ≤ Q) (hq : ab q = Q) (ha : ab a ≤ U1 * A + V1 * B) (hb : ab b ≤ U0 * A + V0 * B) : ab (a - q * b) ≤ (U1 + Q * U0) * A + (V1 + Q * V0) * B := by
  have h1 := ab_sub a (q * b)
  rw [ab_mul, hq] at h1
  have h2 := Int.mul_le_mul_of_nonneg_left hb h0
  have e : (U1 + Q * U0) * A + (V1 + Q * V0) * B = (U1 * A + V1 * B) + Q * (U0 * A + V0 * B) := by grind
  rw [e]; omega
theorem Cof.step {n : Nat} {C : Int} {k : Nat} {A B x y : Nat → Int} {U0 V0 U1 V1 : Int} (h : Cof n C k A B x y U0 V0 U1 V1) (hA : ab (A k) ≤ C) (hB : ab (B k) ≤ C) (hx : x k ≠ 0) {q : Int}
    (hq : ab q * ab (x k) + ab (y k - q * x k) = ab (y k)) :
    Cof n C k A B x (fun j => y j - q * x j) U0 V0 (U1 + ab q * U0) (V1 + ab q * V0) := by
  have hX := ab_one hx
  have p0 := ab_pos q
  have pu := Int.mul_nonneg p0 h.u0.1
  have pv := Int.mul_nonneg p0 h.v0.1
  have a1 := step_id h.a _ hq
  have b1 := step_id h.b _ hq
  have n1 := h.u1.1
  have n2 := h.v1.1
  have hU : 0 ≤ U1 + ab q * U0 := by omega
  have hV : 0 ≤ V1 + ab q * V0 := by omega
  refine ⟨h.u0, h.v0, ⟨hU, Int.le_trans (le_by hX hU (ab_pos _) h.u0.1 b1) hB⟩, ⟨hV, Int.le_trans (le_by hX hV (ab_pos _) h.v0.1 a1) hA⟩, a1, b1, h.bx, fun j hj => step_le p0 rfl (h.by' j hj) (h.bx j hj), h.cx, ?_⟩
  have h1 := Int.mul_nonneg p0 (ab_pos (x k))
  have h2 := h.cy
  show ab (y k - q * x k) ≤ C
  omega
theorem cof_le {C U V a b z : Int} (hU : 0 ≤ U ∧ U ≤ C) (hV : 0 ≤ V ∧ V ≤ C) (ha : 0 ≤ a) (hb : 0 ≤ b) (h : z ≤ U * a + V * b) : z ≤ C * (a + b) := by
  have h1 := Int.mul_le_mul_of_nonneg_right hU.2 ha
  have h2 := Int.mul_le_mul_of_nonneg_right hV.2 hb
  have e : C * (a + b) = C * a + C * b := by grind
  omega
theorem Cof.lex {n : Nat} {C : Int} {k : Nat} {A B x y : Nat → Int} {U0 V0 U1 V1 : Int} (h : Cof n C k A B x y U0 V0 U1 V1) {j : Nat} (hj : j < n) : ab (x j) ≤ C * (ab (A j) + ab (B j)) := cof_le h.u0 h.v0 (ab_pos _) (ab_pos _) (h.bx j hj)
theorem Cof.ley {n : Nat} {C : Int} {k : Nat} {A B x y : Nat → Int} {U0 V0 U1 V1 : Int} (h : Cof n C k A B x y U0 V0 U1 V1) {j : Nat} (hj : j < n) : ab (y j) ≤ C * (ab (A j) + ab (B j)) := h.swap.lex hj
theorem Cof.zero {n : Nat} {C : Int} {k : Nat} {A B x y : Nat → Int} {U0 V0 U1 V1 : Int} (h : Cof n C k A B x y U0 V0 U1 V1) {j : Nat} (hj : j < n) (ha : A j = 0) (hb : B j = 0) : x j = 0 ∧ y j = 0 := by
  have z : ab 0 = 0 := rfl
  have h1 := h.bx j hj
  have h2 := h.by' j hj
  rw [ha, hb, z] at h1 h2
  have h3 := ab_pos (x j)
  have h4 := ab_pos (y j)
  exact ⟨ab_zero (by omega), ab_zero (by omega)⟩
/-- What is taken from a row in a step is no larger than what the row may be behind it. -/
theorem Cof.times {n : Nat} {C : Int} {k : Nat} {A B x y : Nat → Int} {U0 V0 U1 V1 : Int} (h : Cof n C k A B x y U0 V0 U1 V1) (hA : ab (A k) ≤ C) (hB : ab (B k) ≤ C) (hx : x k ≠ 0) {q : Int}
    (hq : ab q * ab (x k) + ab (y k - q * x k) = ab (y k)) {j : Nat} (hj : j < n) : ab (q * x j) ≤ C * (ab (A j) + ab (B j)) := by
  have s := h.step hA hB hx hq
  refine cof_le (U := U1 + ab q * U0) (V := V1 + ab q * V0) s.u1 s.v1 (ab_pos _) (ab_pos _) ?_
  have h1 := h.bx j hj
  have h2 := Int.mul_le_mul_of_nonneg_left h1 (ab_pos q)
  have h3 := Int.mul_nonneg h.u1.1 (ab_pos (A j))
  have h4 := Int.mul_nonneg h.v1.1 (ab_pos (B j))
  rw [ab_mul]
  have e : (U1 + ab q * U0) * ab (A j) + (V1 + ab q * V0) * ab (B j) = (U1 * ab (A j) + V1 * ab (B j)) + ab q * (U0 * ab (A j) + V0 * ab (B j)) := by grind
  rw [e]; omega
/-- The quotient that leaves a rest from 0 on. -/
theorem floor_q {a b : Int} (ha : 0 ≤ a) (hb : 0 < b) : ab (a / b) * ab b + ab (a - a / b * b) = ab a := by
  have h1 := Int.mul_ediv_add_emod a b
  have h2 := Int.emod_nonneg a (Int.ne_of_gt hb)
  have h3 := Int.ediv_nonneg ha (Int.le_of_lt hb)
  have e : a - a / b * b = a % b := by rw [Int.mul_comm (a / b) b]; omega
  rw [e, ab_of h3, ab_of (Int.le_of_lt hb), ab_of h2, ab_of ha, Int.mul_comm]
  omega

/-- Rows from k on of which the first t have been turned so that their number at k is from 0 on. -/
structure Ngs (n k t : Nat) (f0 f : Nat → Nat → Int) : Prop where
  eql : Eql n f f0
  top : ∀ r, r < k → f r = f0 r
  rest : ∀ r, k + t ≤ r → f r = f0 r
  nn : ∀ r, k ≤ r → r < k + t → 0 ≤ f r k
  ab : ∀ r j, ab (f r j) = ab (f0 r j)
theorem Ngs.start (n k : Nat) (f : Nat → Nat → Int) : Ngs n k 0 f f := ⟨Eql.rfl' n f, fun _ _ => rfl, fun _ _ => rfl, fun r h1 h2 => absurd h2 (by omega), fun _ _ => rfl⟩
theorem setr_at (a : Nat) (u : Nat → Int) (f : Nat → Nat → Int) : setr a u f a = u := funext fun j => if_pos rfl
theorem setr_ne {a r : Nat} (h : r ≠ a) (u : Nat → Int) (f : Nat → Nat → Int) : setr a u f r = f r := funext fun j => if_neg h
theorem Ngs.keep {n k t : Nat} {f0 f : Nat → Nat → Int} (h : Ngs n k t f0 f) (h0 : 0 ≤ f (k + t) k) : Ngs n k (t + 1) f0 f :=
  ⟨h.eql, h.top, fun r hr => h.rest r (by omega), fun r h1 h2 => by
    rcases Nat.lt_or_ge r (k + t) with h3 | h3
    · exact h.nn r h1 h3
    · rw [show r = k + t by omega]; exact h0, h.ab⟩
theorem Ngs.turn {n k t : Nat} {f0 f : Nat → Nat → Int} (h : Ngs n k t f0 f) (ht : k + t < n) (h0 : f (k + t) k < 0) : Ngs n k (t + 1) f0 (setr (k + t) (fun j => -(f (k + t) j)) f) :=
  ⟨(eql_neg f ht).trans h.eql, fun r hr => by rw [setr_ne (by omega)]; exact h.top r hr, fun r hr => by rw [setr_ne (by omega)]; exact h.rest r (by omega), fun r h1 h2 => by
    rcases Nat.lt_or_ge r (k + t) with h3 | h3
    · rw [setr_ne (by omega)]; exact h.nn r h1 h3
    · rw [show r = k + t by omega, setr_at]; omega, fun r j => by
    by_cases e : r = k + t
    · rw [e, setr_at, ab_neg]; exact h.ab _ j
    · rw [setr_ne e]; exact h.ab r j⟩

/-- Rows k and i change places, the one less so many times the other. -/
def prs (k i : Nat) (f : Nat → Nat → Int) : Nat → Nat → Int := fun r => if r = i then rdc k (f i) (f k) else if r = k then f i else f r
/-- Euclid's steps on rows k and i of g. -/
structure Prs (n k i : Nat) (L : Int) (g f : Nat → Nat → Int) : Prop where
  eql : Eql n f g
  oth : ∀ r, r ≠ k → r ≠ i → f r = g r
  nk : 0 ≤ f k k
  ni : 0 ≤ f i k
  cof : ∃ U0 V0 U1 V1, Cof n L k (g k) (g i) (f k) (f i) U0 V0 U1 V1
theorem Prs.start {n k i : Nat} {L : Int} {g : Nat → Nat → Int} (hL : 1 ≤ L) (h1 : 0 ≤ g k k) (h2 : g k k ≤ L) (h3 : 0 ≤ g i k) (h4 : g i k ≤ L) : Prs n k i L g g :=
  ⟨Eql.rfl' n g, fun _ _ _ => rfl, h1, h3, 1, 0, 0, 1, Cof.start hL (by rw [ab_of h1]; exact h2) (by rw [ab_of h3]; exact h4)⟩
theorem Prs.step {n k i : Nat} {L : Int} {g f : Nat → Nat → Int} (h : Prs n k i L g f) (hk : k < n) (hi : i < n) (hne : k ≠ i) (h1 : 0 ≤ g k k) (h2 : g k k ≤ L) (h3 : 0 ≤ g i k) (h4 : g i k ≤ L) (h0 : f i k ≠ 0) :
    Prs n k i L g (prs k i f) ∧ (prs k i f) i k < f i k ∧ (∀ j, j < n → ab (f k j) ≤ L * (ab (g k j) + ab (g i j)) ∧ ab (f k k / f i k * f i j) ≤ L * (ab (g k j) + ab (g i j))) := by
  have ni := h.ni
  have hp : 0 < f i k := by omega
  obtain ⟨U0, V0, U1, V1, c⟩ := h.cof
  have hA : ab (g k k) ≤ L := by rw [ab_of h1]; exact h2
  have hB : ab (g i k) ≤ L := by rw [ab_of h3]; exact h4
  have hq := floor_q h.nk hp
  have e1 : prs k i f k = f i := by unfold prs; rw [if_neg hne, if_pos rfl]
  have e2 : prs k i f i = rdc k (f i) (f k) := by unfold prs; rw [if_pos rfl]
  have hm := Int.emod_nonneg (f k k) h0
  have hl := Int.emod_lt_of_pos (f k k) hp
  refine ⟨⟨?_, fun r hr1 hr2 => ?_, by rw [e1]; exact ni, by rw [e2, rdc_at]; exact hm, U1, V1, _, _, by rw [e1, e2]; exact c.swap.step hA hB h0 hq⟩, by rw [e2, rdc_at]; exact hl, fun j hj => ⟨c.lex hj, c.swap.times hA hB h0 hq hj⟩⟩
  · have a1 := eql_add f hk hi hne (-(f k k / f i k))
    have a2 := eql_swap (setr k (fun j => f k j + -(f k k / f i k) * f i j) f) hi hk
    have e : (fun r j => setr k (fun j => f k j + -(f k k / f i k) * f i j) f (if r = i then k else if r = k then i else r) j) = prs k i f := by
      funext r j
      unfold prs
      by_cases r1 : r = i
      · rw [if_pos r1, if_pos r1, setr_at]; unfold rdc; grind
      · rw [if_neg r1, if_neg r1]
        by_cases r2 : r = k
        · rw [if_pos r2, if_pos r2, setr_ne (fun e => hne e.symm)]
        · rw [if_neg r2, if_neg r2, setr_ne r2]
    rw [e] at a2
    exact a2.trans (a1.trans h.eql)
  · unfold prs; rw [if_neg hr2, if_neg hr1]; exact h.oth r hr1 hr2

/-- How large numbers get in a column of which those of the rows are at most L, behind t rows. -/
def bt (L : Int) : Nat → Int
  | 0 => L
  | t + 1 => L * (bt L t + L)
theorem bt_le {L : Int} (hL : 1 ≤ L) : ∀ t, L ≤ bt L t
  | 0 => Int.le_refl L
  | t + 1 => by
    have h := bt_le hL t
    have := Int.mul_le_mul_of_nonneg_right hL (show 0 ≤ bt L t + L by omega)
    show L ≤ L * (bt L t + L)
    omega
theorem bt_up {L : Int} (hL : 1 ≤ L) (t : Nat) : bt L t ≤ bt L (t + 1) := by
  have h := bt_le hL t
  have := Int.mul_le_mul_of_nonneg_right hL (show 0 ≤ bt L t + L by omega)
  show bt L t ≤ L * (bt L t + L)
  omega
/-- Column k as far as row i: rows between have 0 there. -/
structure Gat (n k i : Nat) (L : Int) (f0 f : Nat → Nat → Int) : Prop where
  eql : Eql n f f0
  top : ∀ r, r < k → f r = f0 r
  low : ∀ r j, k ≤ r → r < n → j < k → f r j = 0
  nn : ∀ r, k ≤ r → r < n → 0 ≤ f r k
  cl : ∀ r, k ≤ r → r < n → f r k ≤ L
  z : ∀ r, k < r → r < i → f r k = 0
  b1 : ∀ r j, k ≤ r → r < i → j < n → ab (f r j) ≤ bt L (i - k - 1)
  b2 : ∀ r j, i ≤ r → r < n → j < n → ab (f r j) ≤ L
theorem Gat.start {n k : Nat} {L : Int} {f0 f : Nat → Nat → Int} (hk : k < n) (h : Ngs n k (n - k) f0 f) (hl : ∀ r j, k ≤ r → r < n → j < k → f0 r j = 0) (hb : ∀ r j, k ≤ r → r < n → j < n → ab (f0 r j) ≤ L) : Gat n k (k + 1) L f0 f := by
  have b : ∀ r j, k ≤ r → r < n → j < n → ab (f r j) ≤ L := fun r j h1 h2 h3 => by rw [h.ab]; exact hb r j h1 h2 h3
  have nn : ∀ r, k ≤ r → r < n → 0 ≤ f r k := fun r h1 h2 => h.nn r h1 (by omega)
  refine ⟨h.eql, h.top, fun r j h1 h2 h3 => ab_zero ?_, nn, fun r h1 h2 => ?_, fun r h1 h2 => absurd h2 (by omega), fun r j h1 h2 h3 => ?_, fun r j h1 h2 h3 => b r j (by omega) h2 h3⟩
  · rw [h.ab, hl r j h1 h2 h3]; rfl
  · have := b r k h1 h2 hk
    rwa [ab_of (nn r h1 h2)] at this
  · rw [show k + 1 - k - 1 = 0 by omega]; exact b r j h1 (by omega) h3
theorem Gat.next {n k i : Nat} {L : Int} {f0 g f : Nat → Nat → Int} (h : Gat n k i L f0 g) (hL : 1 ≤ L) (hki : k < i) (hi : i < n) (hp : Prs n k i L g f) (hz : f i k = 0) : Gat n k (i + 1) L f0 f := by
  obtain ⟨U0, V0, U1, V1, c⟩ := hp.cof
  have e : i + 1 - k - 1 = (i - k - 1) + 1 := by omega
  have oth : ∀ r, r ≠ k → r ≠ i → f r = g r := hp.oth
  have bd : ∀ j, j < n → L * (ab (g k j) + ab (g i j)) ≤ bt L (i + 1 - k - 1) := fun j hj => by
    have h1 := h.b1 k j (Nat.le_refl k) hki hj
    have h2 := h.b2 i j (Nat.le_refl i) hi hj
    rw [e]
    exact Int.mul_le_mul_of_nonneg_left (by omega) (by omega)
  have z2 : ∀ j, j < k → f k j = 0 ∧ f i j = 0 := fun j hj => c.zero (by omega) (h.low k j (Nat.le_refl k) (by omega) hj) (h.low i j (by omega) hi hj)
  refine ⟨hp.eql.trans h.eql, fun r hr => by rw [oth r (by omega) (by omega)]; exact h.top r hr, fun r j h1 h2 h3 => ?_, fun r h1 h2 => ?_, fun r h1 h2 => ?_, fun r h1 h2 => ?_, fun r j h1 h2 h3 => ?_, fun r j h1 h2 h3 => ?_⟩
  · by_cases e1 : r = k
    · rw [e1]; exact (z2 j h3).1
    · by_cases e2 : r = i
      · rw [e2]; exact (z2 j h3).2
      · rw [oth r e1 e2]; exact h.low r j h1 h2 h3
  · by_cases e1 : r = k
    · rw [e1]; exact hp.nk
    · by_cases e2 : r = i
      · rw [e2]; exact hp.ni
      · rw [oth r e1 e2]; exact h.nn r h1 h2
  · by_cases e1 : r = k
    · rw [e1, ← ab_of hp.nk]; exact c.cx
    · by_cases e2 : r = i
      · rw [e2, ← ab_of hp.ni]; exact c.cy
      · rw [oth r e1 e2]; exact h.cl r h1 h2
  · by_cases e2 : r = i
    · rw [e2]; exact hz
    · rw [oth r (by omega) e2]; exact h.z r h1 (by omega)
  · by_cases e1 : r = k
    · rw [e1]; exact Int.le_trans (c.lex h3) (bd j h3)
    · by_cases e2 : r = i
      · rw [e2]; exact Int.le_trans (c.ley h3) (bd j h3)
      · rw [oth r e1 e2]
        have h4 := h.b1 r j h1 (by omega) h3
        have h5 := bt_up hL (i - k - 1)
        rw [e]; omega
  · rw [oth r (by omega) (by omega)]; exact h.b2 r j (by omega) h2 h3

/-- The first t rows less so many times row k. -/
def upr (k t : Nat) (g : Nat → Nat → Int) : Nat → Nat → Int := fun r => if r < t then rdc k (g k) (g r) else g r
theorem upr_eql {n k : Nat} (hk : k < n) (g : Nat → Nat → Int) : ∀ t, t ≤ k → Eql n (upr k t g) g
  | 0, _ => by
    have : upr k 0 g = g := funext fun r => if_neg (Nat.not_lt_zero r)
    rw [this]; exact Eql.rfl' n g
  | t + 1, ht => by
    have h := upr_eql hk g t (by omega)
    have e : setr t (fun j => upr k t g t j + -(g t k / g k k) * upr k t g k j) (upr k t g) = upr k (t + 1) g := by
      funext r j
      have e1 : upr k t g t = g t := if_neg (Nat.lt_irrefl t)
      have e2 : upr k t g k = g k := if_neg (by omega)
      by_cases r1 : r = t
      · rw [r1, setr_at, e1, e2]
        unfold upr; rw [if_pos (by omega)]; unfold rdc; grind
      · rw [setr_ne r1]
        unfold upr
        by_cases r2 : r < t
        · rw [if_pos r2, if_pos (by omega)]
        · rw [if_neg r2, if_neg (by omega)]
    have h2 := eql_add (upr k t g) (show t < n by omega) hk (show t ≠ k by omega) (-(g t k / g k k))
    rw [e] at h2
    exact h2.trans h

theorem upr_step {k t : Nat} (ht : t < k) (g : Nat → Nat → Int) (r j : Nat) : setr t (rdc k (upr k t g k) (upr k t g t)) (upr k t g) r j = upr k (t + 1) g r j := by
  have e1 : upr k t g t = g t := if_neg (Nat.lt_irrefl t)
  have e2 : upr k t g k = g k := if_neg (by omega)
  by_cases r1 : r = t
  · rw [r1, setr_at, e1, e2]
    unfold upr; rw [if_pos (by omega)]
  · rw [setr_ne r1]
    unfold upr
    by_cases r2 : r < t
    · rw [if_pos r2, if_pos (by omega)]
    · rw [if_neg r2, if_neg (by omega)]
/-- Bounds for the rows from column k on, and for those above it (of at most three rows). -/
def lbd : Nat → Int
  | 0 => 20
  | 1 => 16400
  | _ => 537920000
def ubd : Nat → Int
  | 0 => 0
  | 1 => 16400
  | _ => 9000000000000
theorem lbd_one (k : Nat) : 1 ≤ lbd k := by
  match k with
  | 0 => decide
  | 1 => decide
  | _ + 2 => show (1 : Int) ≤ 537920000; omega
theorem lbd_le (k : Nat) : lbd k ≤ 537920000 := by
  match k with
  | 0 => decide
  | 1 => decide
  | _ + 2 => show (537920000 : Int) ≤ 537920000; omega
theorem ubd_le (k : Nat) : ubd k ≤ 9000000000000 := by
  match k with
  | 0 => decide
  | 1 => decide
  | _ + 2 => show (9000000000000 : Int) ≤ 9000000000000; omega
theorem bt_lbd {n k t : Nat} (h3 : n ≤ 3) (hk : k < n) (ht : t ≤ n - k - 1) : bt (lbd k) t ≤ lbd (k + 1) := by
  have hk3 : k = 0 ∨ k = 1 ∨ k = 2 := by omega
  rcases hk3 with e | e | e
  · have ht3 : t = 0 ∨ t = 1 ∨ t = 2 := by omega
    rcases ht3 with e2 | e2 | e2 <;> rw [e, e2] <;> decide
  · have ht3 : t = 0 ∨ t = 1 := by omega
    rcases ht3 with e2 | e2 <;> rw [e, e2] <;> decide
  · rw [e, show t = 0 by omega]; decide
/-- In Euclid's steps on rows k and i numbers stay small. -/
theorem Gat.bound {n k i : Nat} {f0 g : Nat → Nat → Int} (h : Gat n k i (lbd k) f0 g) (h3 : n ≤ 3) (hk : k < n) (hki : k < i) (hi : i < n) (hb : ∀ t, t ≤ n - k - 1 → bt (lbd k) t ≤ 537920000) {j : Nat} (hj : j < n) (hL : 0 ≤ lbd k) : lbd k * (ab (g k j) + ab (g i j)) ≤ 537920000 := by
  have h1 := h.b1 k j (Nat.le_refl k) hki hj
  have h2 := h.b2 i j (Nat.le_refl i) hi hj
  have h4 := Int.mul_le_mul_of_nonneg_left (show ab (g k j) + ab (g i j) ≤ bt (lbd k) (i - k - 1) + lbd k by omega) hL
  exact Int.le_trans h4 (hb (i - k - 1 + 1) (by omega))
/-- The form as far as column k. -/
structure Fm (n k : Nat) (f0 f : Nat → Nat → Int) : Prop where
  eql : Eql n f f0
  low : ∀ i j, i < n → j < k → j < i → f i j = 0
  pos : ∀ j, j < k → 0 < f j j
  red : ∀ i j, i < j → j < k → 0 ≤ f i j ∧ f i j < f j j
  bl : ∀ i j, k ≤ i → i < n → j < n → ab (f i j) ≤ lbd k
  bu : ∀ i j, i < k → i < n → j < n → ab (f i j) ≤ ubd k
theorem Fm.start {n : Nat} {f : Nat → Nat → Int} (h : ∀ i j, i < n → j < n → ab (f i j) ≤ 20) : Fm n 0 f f :=
  ⟨Eql.rfl' n f, fun i j _ h => absurd h (by omega), fun j h => absurd h (by omega), fun i j _ h => absurd h (by omega), fun i j _ hi hj => h i j hi hj, fun i j hi => absurd hi (by omega)⟩
theorem floor_ab {a b : Int} (hb : 0 < b) : ab (a / b) ≤ ab a := by
  have h1 := Int.mul_ediv_add_emod a b
  have h2 := Int.emod_nonneg a (Int.ne_of_gt hb)
  have h3 := Int.emod_lt_of_pos a hb
  rcases Int.lt_or_le a 0 with h | h
  · have h4 : a / b < 0 := Int.ediv_neg_of_neg_of_pos h hb
    have h5 : a ≤ a / b := by
      have e : b * (a / b) ≤ a := by omega
      have := Int.mul_le_mul_of_nonneg_left (show a / b ≤ -1 by omega) (show 0 ≤ b - 1 by omega)
      have e2 : (b - 1) * (a / b) = b * (a / b) - a / b := by grind
      have e3 : (b - 1) * (-1 : Int) = 1 - b := by grind
      omega
    unfold ab; omega
  · have h4 := Int.ediv_nonneg h (Int.le_of_lt hb)
    have h5 := Int.ediv_le_self b h
    unfold ab; omega
/-- What a row above loses. -/
theorem up_bound {n k : Nat} {L U : Int} {f : Nat → Nat → Int} {r : Nat} (hk : k < n) (hL : ∀ j, j < n → ab (f k j) ≤ L) (hU : ∀ j, j < n → ab (f r j) ≤ U) (hz : ∀ j, j < k → f k j = 0) (hp : 0 < f k k) {j : Nat} (hj : j < n) :
    (j < k → f r k / f k k * f k j = 0) ∧ (j = k → ab (f r k / f k k * f k j) ≤ U + L) ∧ ab (f r k / f k k * f k j) ≤ U * L := by
  refine ⟨fun h => by rw [hz j h]; grind, fun h => ?_, ?_⟩
  · rw [h]
    have h1 := Int.mul_ediv_add_emod (f r k) (f k k)
    have h2 := Int.emod_nonneg (f r k) (Int.ne_of_gt hp)
    have h3 := Int.emod_lt_of_pos (f r k) hp
    have h4 := hU k hk
    have h5 := hL k hk
    rw [Int.mul_comm] at h1
    generalize f r k / f k k * f k k = z at *
    unfold ab at *; omega
  · rw [ab_mul]
    have h1 := floor_ab (a := f r k) hp
    have h2 := hU k hk
    have h3 := hL j hj
    have h4 := ab_pos (f r k / f k k)
    have h5 := ab_pos (f k j)
    exact Int.le_trans (Int.mul_le_mul_of_nonneg_right (Int.le_trans h1 h2) h5) (Int.mul_le_mul_of_nonneg_left h3 (by omega))
/-- Behind column k: what the rows above it lose stays in bounds. -/
theorem Fm.mid {n k : Nat} {f0 g f : Nat → Nat → Int} (h : Fm n k f0 g) (h3 : n ≤ 3) (hk : k < n) (hg : Gat n k n (lbd k) g f) (hp : f k k ≠ 0) :
    (∀ r, r < k → ∀ j, j < n → ab (f r j) ≤ 9000000000000 ∧ ab (f r k / f k k * f k j) ≤ 9000537920000) ∧ 0 < f k k := by
  have hp' : 0 < f k k := by have := hg.nn k (Nat.le_refl k) hk; omega
  have hL : ∀ j, j < n → ab (f k j) ≤ 537920000 := fun j hj => Int.le_trans (hg.b1 k j (Nat.le_refl k) hk hj) (Int.le_trans (bt_lbd h3 hk (Nat.le_refl _)) (lbd_le _))
  refine ⟨fun r hr j hj => ?_, hp'⟩
  have hU : ∀ j, j < n → ab (f r j) ≤ ubd k := fun j hj => by rw [hg.top r hr]; exact h.bu r j hr (by omega) hj
  have b := up_bound hk hL hU (fun j hj => hg.low k j (Nat.le_refl k) hk hj) hp' hj
  have hu := ubd_le k
  refine ⟨Int.le_trans (hU j hj) hu, ?_⟩
  rcases Nat.lt_trichotomy j k with h1 | h1 | h1
  · rw [b.1 h1]; decide
  · have := b.2.1 h1; omega
  · have hk1 : k = 1 := by omega
    have := b.2.2
    rw [hk1] at this ⊢
    have e : ubd 1 * 537920000 ≤ 9000000000000 := by decide
    omega
theorem Fm.next {n k : Nat} {f0 g f : Nat → Nat → Int} (h : Fm n k f0 g) (h3 : n ≤ 3) (hk : k < n) (hg : Gat n k n (lbd k) g f) (hp : f k k ≠ 0) : Fm n (k + 1) f0 (upr k k f) := by
  have hp' := (h.mid h3 hk hg hp).2
  have hb : ∀ r j, k ≤ r → r < n → j < n → ab (f r j) ≤ lbd (k + 1) := fun r j h1 h2 hj => Int.le_trans (hg.b1 r j h1 h2 hj) (bt_lbd h3 hk (Nat.le_refl _))
  have er : ∀ r, r < k → upr k k f r = rdc k (f k) (f r) := fun r hr => if_pos hr
  have en : ∀ r, k ≤ r → upr k k f r = f r := fun r hr => if_neg (by omega)
  have hz : ∀ j, j < k → f k j = 0 := fun j hj => hg.low k j (Nat.le_refl k) hk hj
  have el : ∀ r j, r < k → j < k → upr k k f r j = g r j := fun r j hr hj => by
    rw [er r hr]; unfold rdc; rw [hz j hj, hg.top r hr]; grind
  refine ⟨(upr_eql hk f k (Nat.le_refl k)).trans (hg.eql.trans h.eql), fun i j hi hj hlt => ?_, fun j hj => ?_, fun i j hlt hj => ?_, fun i j h1 h2 hj => by rw [en i (by omega)]; exact hb i j (by omega) h2 hj, fun i j hi hi2 hj => ?_⟩
  · rcases Nat.lt_or_ge i k with h1 | h1
    · rw [el i j h1 (by omega)]; exact h.low i j hi (by omega) hlt
    · rw [en i h1]
      by_cases e : j = k
      · rw [e]; exact hg.z i (by omega) hi
      · exact hg.low i j h1 hi (by omega)
  · rcases Nat.lt_or_ge j k with h1 | h1
    · rw [el j j h1 h1]; exact h.pos j h1
    · rw [show j = k by omega, en k (Nat.le_refl k)]; exact hp'
  · rcases Nat.lt_or_ge j k with h1 | h1
    · rw [el i j (by omega) h1, el j j h1 h1]; exact h.red i j hlt h1
    · rw [show j = k by omega, en k (Nat.le_refl k), er i (by omega), rdc_at]
      exact ⟨Int.emod_nonneg _ hp, Int.emod_lt_of_pos _ hp'⟩
  · rcases Nat.lt_or_ge i k with h1 | h1
    · rw [er i h1]
      have m := (h.mid h3 hk hg hp).1 i h1
      have hub : ubd (k + 1) = 9000000000000 := by
        match k, h1 with
        | 1, _ => rfl
        | _ + 2, _ => rfl
      rw [hub]
      rcases Nat.lt_trichotomy j k with h4 | h4 | h4
      · unfold rdc; rw [hz j h4]
        have := (m j hj).1
        rw [show f i j - f i k / f k k * 0 = f i j by grind]; exact this
      · rw [h4, rdc_at]
        have h5 := Int.emod_nonneg (f i k) hp
        have h6 := Int.emod_lt_of_pos (f i k) hp'
        have h7 := hb k k (Nat.le_refl k) hk hk
        have h8 := lbd_le (k + 1)
        rw [ab_of (Int.le_of_lt hp')] at h7
        rw [ab_of h5]; omega
      · have hk1 : k = 1 := by omega
        have hL : ∀ j, j < n → ab (f k j) ≤ 537920000 := fun j hj => Int.le_trans (hb k j (Nat.le_refl k) hk hj) (lbd_le _)
        have hU : ∀ j, j < n → ab (f i j) ≤ ubd k := fun j hj => by rw [hg.top i h1]; exact h.bu i j h1 (by omega) hj
        have b := (up_bound hk hL hU hz hp' hj).2.2
        have c := hU j hj
        have d := ab_sub (f i j) (f i k / f k k * f k j)
        rw [show ubd k = 16400 by rw [hk1]; rfl] at b c
        show ab (f i j - f i k / f k k * f k j) ≤ 9000000000000
        omega
    · rw [show i = k by omega, en k (Nat.le_refl k)]
      refine Int.le_trans (hb k j (Nat.le_refl k) hk hj) ?_
      match k with
      | 0 => decide
      | 1 => decide
      | _ + 2 => show (537920000 : Int) ≤ 9000000000000; omega
theorem Fm.hnf {n : Nat} {f0 f : Nat → Nat → Int} (h : Fm n n f0 f) : Hnf n f := ⟨fun i j hi hj => h.low i j hi (by omega) hj, h.pos, h.red⟩
/-- Noughts in the first columns of the last rows: no determinant. -/
theorem dt_flat : ∀ (n k : Nat) (f : Nat → Nat → Int), k < n → (∀ r j, k ≤ r → r < n → j ≤ k → f r j = 0) → (∀ i j, i < n → j < k → j < i → f i j = 0) → dt n f = 0
  | n + 1, 0, f, _, h, _ => by
    rw [dt_firstc n f fun i hi hn => h i 0 (Nat.zero_le _) hn (Nat.le_refl _), h 0 0 (Nat.le_refl _) (by omega) (Nat.le_refl _)]; grind
  | n + 1, k + 1, f, hk, h, hl => by
    rw [dt_firstc n f fun i hi hn => hl i 0 hn (by omega) hi, dt_flat n k (fun i j => f (i + 1) (j + 1)) (by omega) (fun r j h1 h2 h3 => h (r + 1) (j + 1) (by omega) (by omega) (by omega)) fun i j h1 h2 h3 => hl (i + 1) (j + 1) (by omega) (by omega) (by omega)]; grind
theorem Fm.none {n k : Nat} {f0 g f : Nat → Nat → Int} (h : Fm n k f0 g) (hk : k < n) {L : Int} (hg : Gat n k n L g f) (hz : f k k = 0) : dt n f0 = 0 := by
  have e := (hg.eql.trans h.eql).det
  have d : dt n f = 0 := dt_flat n k f hk (fun r j h1 h2 h3 => by
    rcases Nat.lt_or_ge j k with h4 | h4
    · exact hg.low r j h1 h2 h4
    · rw [show j = k by omega]
      by_cases e : r = k
      · rw [e]; exact hz
      · exact hg.z r (by omega) h2) fun i j hi hj hlt => by
    rcases Nat.lt_or_ge i k with h4 | h4
    · rw [hg.top i h4]; exact h.low i j hi hj hlt
    · exact hg.low i j h4 hi hj
  rw [d] at e
  omega
theorem Hnf.ne {n : Nat} {a m : Nat → Nat → Int} (ha : Hnf n a) (h : Eql n a m) : dt n m ≠ 0 := fun e => by
  have h1 := ha.det h
  rw [e] at h1
  have hp : ∀ k, k ≤ n → 0 < pr k fun i => a i i := fun k => by
    induction k with
    | zero => intro _; show (0 : Int) < 1; decide
    | succ k ih => intro hk; exact Int.mul_pos (ih (by omega)) (ha.pos k (by omega))
  have := hp n (Nat.le_refl n)
  rw [h1] at this
  exact absurd this (by decide)
theorem pr_ge {g : Nat → Int} : ∀ (n : Nat), (∀ i, i < n → 1 ≤ g i) → (1 ≤ pr n g ∧ ∀ i, i < n → g i ≤ pr n g)
  | 0, _ => ⟨by show (1 : Int) ≤ 1; omega, fun i hi => absurd hi (by omega)⟩
  | n + 1, h => by
    obtain ⟨h1, h2⟩ := pr_ge n fun i hi => h i (by omega)
    have h3 := h n (by omega)
    have h4 := Int.mul_le_mul_of_nonneg_left h3 (show 0 ≤ pr n g by omega)
    have h5 := Int.mul_le_mul_of_nonneg_right h1 (show 0 ≤ g n by omega)
    refine ⟨by show 1 ≤ pr n g * g n; omega, fun i hi => ?_⟩
    show g i ≤ pr n g * g n
    by_cases e : i = n
    · rw [e]; omega
    · have := h2 i (by omega); omega
/-- The numbers of the form are at most the determinant. -/
theorem Hnf.le {n : Nat} {a m : Nat → Nat → Int} (ha : Hnf n a) (h : Eql n a m) {M : Int} (hM : ab (dt n m) ≤ M) {i j : Nat} (hi : i < n) (hj : j < n) : 0 ≤ a i j ∧ a i j ≤ M := by
  have h1 := ha.det h
  have h2 := pr_ge n fun i hi => (show 1 ≤ a i i by have := ha.pos i hi; omega)
  have h3 := h2.2 j hj
  have h4 := ha.pos j hj
  unfold ab at hM
  rcases Nat.lt_trichotomy i j with h5 | h5 | h5
  · have := ha.red i j h5 hj; omega
  · rw [h5]; omega
  · rw [ha.low i j hi h5]; omega

/-- What is left of a row, the first t rows of the form taken from it. -/
def lft (a : Nat → Nat → Int) (x : Nat → Int) : Nat → Nat → Int
  | 0 => x
  | t + 1 => rdc t (a t) (lft a x t)
theorem lft_lat {n : Nat} {a : Nat → Nat → Int} (x : Nat → Int) : ∀ t, t ≤ n → Lat n a fun j => x j - lft a x t j
  | 0, _ => (Lat.nought n a).congr fun j _ => by show (0 : Int) = x j - x j; omega
  | t + 1, ht => ((lft_lat x t (by omega)).add ((Lat.row a (show t < n by omega)).times (lft a x t t / a t t))).congr fun j _ => by
    show x j - lft a x t j + lft a x t t / a t t * a t j = x j - (lft a x t j - lft a x t t / a t t * a t j)
    omega
theorem lft_low {n : Nat} {a : Nat → Nat → Int} (ha : Hnf n a) (x : Nat → Int) : ∀ t, t ≤ n → ∀ j, j < t → 0 ≤ lft a x t j ∧ lft a x t j < a j j
  | 0, _, j, h => absurd h (by omega)
  | t + 1, ht, j, h => by
    by_cases e : j = t
    · rw [e]
      have hp := ha.pos t (by omega)
      show 0 ≤ rdc t (a t) (lft a x t) t ∧ rdc t (a t) (lft a x t) t < a t t
      rw [rdc_at]
      exact ⟨Int.emod_nonneg _ (Int.ne_of_gt hp), Int.emod_lt_of_pos _ hp⟩
    · have := lft_low ha x t (by omega) j (by omega)
      show 0 ≤ lft a x t j - lft a x t t / a t t * a t j ∧ lft a x t j - lft a x t t / a t t * a t j < a j j
      rw [ha.low t j (by omega) (by omega)]
      rw [show lft a x t j - lft a x t t / a t t * 0 = lft a x t j by grind]
      exact this
/-- A row is a sum just if nothing is left of it. -/
theorem lft_iff {n : Nat} {a : Nat → Nat → Int} (ha : Hnf n a) (x : Nat → Int) : (∀ j, j < n → lft a x n j = 0) ↔ Lat n a x := by
  constructor
  · intro h
    exact (lft_lat x n (Nat.le_refl n)).congr fun j hj => by rw [h j hj]; omega
  · intro h
    have hl : Lat n a (lft a x n) := (h.less (lft_lat x n (Nat.le_refl n))).congr fun j _ => by omega
    intro j
    induction j using Nat.strongRecOn with
    | _ j ih =>
      intro hj
      obtain ⟨q, hq⟩ := ha.lead hl hj fun i hi => ih i hi (by omega)
      have b := lft_low ha x n (Nat.le_refl n) j hj
      have p := ha.pos j hj
      have : q = 0 := by
        rcases Int.lt_trichotomy q 0 with h2 | h2 | h2
        · have := Int.mul_le_mul_of_nonneg_left (show q ≤ -1 by omega) (show 0 ≤ a j j by omega); omega
        · exact h2
        · have := Int.mul_le_mul_of_nonneg_left (show 1 ≤ q by omega) (show 0 ≤ a j j by omega); omega
      rw [hq, this]; omega
/-- How large what is left of a row gets. -/
def lfb : Nat → Int
  | 0 => 100
  | t + 1 => lfb t * 48001
theorem lft_bd {n : Nat} {a : Nat → Nat → Int} (ha : Hnf n a) (hb : ∀ i j, i < n → j < n → 0 ≤ a i j ∧ a i j ≤ 48000) (x : Nat → Int) (hx : ∀ j, j < n → ab (x j) ≤ 100) : ∀ t, t ≤ n → ∀ j, j < n → ab (lft a x t j) ≤ lfb t
  | 0, _, j, hj => hx j hj
  | t + 1, ht, j, hj => by
    have h1 := lft_bd ha hb x hx t (by omega) j hj
    have h2 := lft_bd ha hb x hx t (by omega) t (by omega)
    have h3 := floor_ab (a := lft a x t t) (ha.pos t (by omega))
    have h4 := hb t j (by omega) hj
    have h5 := ab_sub (lft a x t j) (lft a x t t / a t t * a t j)
    have h6 : ab (lft a x t t / a t t * a t j) ≤ lfb t * 48000 := by
      rw [ab_mul, ab_of h4.1]
      have p := ab_pos (lft a x t t / a t t)
      exact Int.le_trans (Int.mul_le_mul_of_nonneg_left h4.2 p) (Int.mul_le_mul_of_nonneg_right (Int.le_trans h3 h2) (by omega))
    show ab (lft a x t j - lft a x t t / a t t * a t j) ≤ lfb t * 48001
    omega
theorem lft_step {n : Nat} {a : Nat → Nat → Int} (ha : Hnf n a) (hb : ∀ i j, i < n → j < n → 0 ≤ a i j ∧ a i j ≤ 48000) (x : Nat → Int) (hx : ∀ j, j < n → ab (x j) ≤ 100) (h3 : n ≤ 3) {t j : Nat} (ht : t < n) (hj : j < n) :
    ab (lft a x t j) ≤ 1000000000000000 ∧ ab (lft a x t t / a t t * a t j) ≤ 4000000000000000000 := by
  have h1 := lft_bd ha hb x hx t (by omega) j hj
  have h2 := lft_bd ha hb x hx t (by omega) t (by omega)
  have h3' := floor_ab (a := lft a x t t) (ha.pos t (by omega))
  have h4 := hb t j (by omega) hj
  have hl : lfb t ≤ 230409600100 * 1 := by
    have : t = 0 ∨ t = 1 ∨ t = 2 := by omega
    rcases this with e | e | e <;> rw [e] <;> decide
  have h6 : ab (lft a x t t / a t t * a t j) ≤ lfb t * 48000 := by
    rw [ab_mul, ab_of h4.1]
    have p := ab_pos (lft a x t t / a t t)
    exact Int.le_trans (Int.mul_le_mul_of_nonneg_left h4.2 p) (Int.mul_le_mul_of_nonneg_right (Int.le_trans h3' h2) (by omega))
  omega
theorem fb_twenty {n : Nat} (h : n ≤ 3) : fb 20 n ≤ 48000 := by
  have : n = 0 ∨ n = 1 ∨ n = 2 ∨ n = 3 := by omega
  rcases this with e | e | e | e <;> rw [e] <;> decide +kernel
theorem dt_twenty {n : Nat} {x : Nat → Nat → Int} (h : n ≤ 3) (hx : ∀ i j, i < n → j < n → ab (x i j) ≤ 20) : ab (dt n x) ≤ 48000 :=
  Int.le_trans (dt_ab (M := 20) (by omega) n x hx) (fb_twenty h)
end Go.Proofs.YtmimbioffnolaaaDoor.Zx

/- More on matrices of the call's own: heads that change places, a row of numbers beside them, and what a store into their rows leaves. For all packages. -/
namespace Go.Proofs.YtmimbioffnolaaaDoor
open Go.ChangeShapes Go.WideShapes Go.ChangeAt Go.RowKit
set_option linter.unusedVariables false

/-- The heads of r rows of c numbers. -/
def hds (r c : Nat) (G C : Nat → Nat) : List Value := (List.range r).map fun i => Value.slice (some ⟨G i, 0, none⟩) c (C i)
theorem len_hds (r c : Nat) (G C : Nat → Nat) : (hds r c G C).length = r := by simp [hds]
theorem heads_tab (G C : Nat → Nat) (r c : Nat) (f : Nat → Nat → Int) : heads G C (Mx.tab r c f) = hds r c G C := by
  unfold heads hds
  rw [Mx.len_tab]
  refine List.map_congr_left fun i hi => ?_
  rw [Mx.tab_len _ _ _ _ (List.mem_range.1 hi)]
theorem hds_set (r c : Nat) (G C : Nat → Nat) (i x d : Nat) :
    (hds r c G C).set i (Value.slice (some ⟨x, 0, none⟩) c d) = hds r c (fun k => if k = i then x else G k) (fun k => if k = i then d else C k) := by
  refine List.ext_getElem (by simp [hds]) fun k h1 h2 => ?_
  simp only [hds, List.getElem_set, List.getElem_map, List.getElem_range]
  by_cases e : i = k
  · subst e; simp
  · rw [if_neg e, if_neg (fun e' => e e'.symm), if_neg (fun e' => e e'.symm)]

/-- As OwnM, but two heads may name the same row. -/
structure OwnH (w : World) (B : Nat) (v : Value) (G C : Nat → Nat) (r c : Nat) (f : Nat → Nat → Int) : Prop where
  top : w.ownsRow B 24 1 v r (hds r c G C)
  row : ∀ i, i < r → Own w B (.slice (some ⟨G i, 0, none⟩) c (C i)) (Mx.row c (f i))
theorem OwnM.weak {w : World} {B : Nat} {v : Value} {G C : Nat → Nat} {r c : Nat} {f : Nat → Nat → Int} (h : OwnM w B v G C (Mx.tab r c f)) : OwnH w B v G C r c f := by
  refine ⟨?_, fun i hi => ?_⟩
  · have := h.top
    rwa [heads_tab, Mx.len_tab] at this
  · have := h.row i (by rw [Mx.len_tab]; exact hi)
    rwa [Mx.tab_at _ _ _ _ hi, Mx.len_row] at this
theorem OwnH.strong {w : World} {B : Nat} {v : Value} {G C : Nat → Nat} {r c : Nat} {f : Nat → Nat → Int} (h : OwnH w B v G C r c f) (ha : ∀ i j, i < r → j < r → i ≠ j → G i ≠ G j) : OwnM w B v G C (Mx.tab r c f) := by
  refine ⟨?_, fun i hi => ?_, fun i j hi hj => ?_⟩
  · rw [heads_tab, Mx.len_tab]; exact h.top
  · rw [Mx.len_tab] at hi
    rw [Mx.tab_at _ _ _ _ hi, Mx.len_row]; exact h.row i hi
  · rw [Mx.len_tab] at hi hj; exact ha i j hi hj
theorem OwnH.kp {w w' : World} {B : Nat} {v : Value} {G C : Nat → Nat} {r c : Nat} {f : Nat → Nat → Int} (h : OwnH w B v G C r c f) (hk : Kp w w') : OwnH w' B v G C r c f :=
  ⟨ownsRow_kp h.top hk, fun i hi => (h.row i hi).kp hk⟩
theorem OwnH.ext {w : World} {B : Nat} {v : Value} {G C : Nat → Nat} {r c : Nat} {f f' : Nat → Nat → Int} (h : OwnH w B v G C r c f) (e : ∀ i j, i < r → j < c → f i j = f' i j) : OwnH w B v G C r c f' :=
  ⟨h.top, fun i hi => by rw [← Mx.row_ext (fun j hj => e i j hi hj)]; exact h.row i hi⟩
theorem OwnH.head {w : World} {B : Nat} {G C : Nat → Nat} {r c g n cap : Nat} {f : Nat → Nat → Int} (h : OwnH w B (.slice (some ⟨g, 0, none⟩) n cap) G C r c f) {i : Nat} (hi : i < r) :
    w.cell? ⟨g, i, none⟩ = some (.slice (some ⟨G i, 0, none⟩) c (C i)) := by
  rcases h.top.2 with ⟨e, _⟩ | ⟨g', cap', cur, hv, hg, hh, hc, hm, hs, ht⟩
  · cases e
  · cases hv
    have ht' : cur.toList.take r = hds r c G C := by simpa using ht
    rw [cell_of_row _ _ i _ _ (0, 0) hh, ← Array.getElem?_toList, ← List.getElem?_take_of_lt hi, ht']
    simp [hds, hi]
theorem OwnH.el {w : World} {B : Nat} {v : Value} {G C : Nat → Nat} {r c : Nat} {f : Nat → Nat → Int} (h : OwnH w B v G C r c f) {i j : Nat} (hi : i < r) (hj : j < c) : w.cell? ⟨G i, j, none⟩ = some (.int .i64 (f i j)) := by
  have := own_cell (h.row i hi) j (by rw [Mx.len_row]; exact hj)
  rwa [Mx.row_at _ _ _ hj] at this
theorem OwnH.free {w : World} {B : Nat} {v : Value} {G C : Nat → Nat} {r c : Nat} {f : Nat → Nat → Int} (h : OwnH w B v G C r c f) {i : Nat} (hi : i < r) (j : Nat) : w.frozen? ⟨G i, j, none⟩ = false := own_free (h.row i hi) j
theorem OwnH.topFree {w : World} {B : Nat} {G C : Nat → Nat} {r c g n cap : Nat} {f : Nat → Nat → Int} (h : OwnH w B (.slice (some ⟨g, 0, none⟩) n cap) G C r c f) (i : Nat) : w.frozen? ⟨g, i, none⟩ = false := by
  rcases h.top.2 with ⟨e, _⟩ | ⟨g', cap', cur, hv, hg, hh, hc, hm, hs, ht⟩
  · cases e
  · cases hv; exact frozen_of_row w g i _ _ hh
theorem OwnH.topLe {w : World} {B : Nat} {G C : Nat → Nat} {r c g n cap : Nat} {f : Nat → Nat → Int} (h : OwnH w B (.slice (some ⟨g, 0, none⟩) n cap) G C r c f) : B ≤ g ∧ g < w.heap.size := World.ownsRow.lt h.top g rfl
theorem OwnH.lt {w : World} {B : Nat} {v : Value} {G C : Nat → Nat} {r c : Nat} {f : Nat → Nat → Int} (h : OwnH w B v G C r c f) {i : Nat} (hi : i < r) : B ≤ G i ∧ G i < w.heap.size := World.ownsRow.lt (h.row i hi) (G i) rfl
theorem OwnH.apartTop {w : World} {B : Nat} {G C : Nat → Nat} {r c g n cap : Nat} {f : Nat → Nat → Int} (h : OwnH w B (.slice (some ⟨g, 0, none⟩) n cap) G C r c f) {i : Nat} (hi : i < r) : G i ≠ g := fun e => top_ne h.top (h.row i hi) (by show some (G i) = some g; rw [e])
/-- A head is set to another row of the call's own. -/
theorem OwnH.set {w : World} {B : Nat} {G C : Nat → Nat} {r c g n cap : Nat} {f : Nat → Nat → Int} (h : OwnH w B (.slice (some ⟨g, 0, none⟩) n cap) G C r c f) {i : Nat} (hi : i < r) {x d : Nat} {l : Nat → Int} (hx : Own w B (.slice (some ⟨x, 0, none⟩) c d) (Mx.row c l)) :
    OwnH (w.setCell ⟨g, i, none⟩ (.slice (some ⟨x, 0, none⟩) c d)) B (.slice (some ⟨g, 0, none⟩) n cap) (fun k => if k = i then x else G k) (fun k => if k = i then d else C k) r c (fun k => if k = i then l else f k) := by
  refine ⟨?_, fun k hk => ?_⟩
  · rcases h.top.2 with ⟨e, _⟩ | ⟨g', cap', cur, hv, hg, hh, hc, hm, hs, ht⟩
    · cases e
    · cases hv
      refine ⟨by rw [len_hds, Nat.mul_one], .inr ⟨g, cap, cur.setIfInBounds i (.slice (some ⟨x, 0, none⟩) c d), rfl, hg, heap_setCell_same w g i _ _ _ hh, hc, hm, by rw [Array.size_setIfInBounds]; exact hs, ?_⟩⟩
      rw [Array.toList_setIfInBounds, List.take_set, ht, hds_set]
  · by_cases e : k = i
    · subst e
      simp only [if_true]
      exact own_store hx (fun e' => top_ne h.top hx (by show some x = some g; rw [e'])) _
    · simp only [if_neg e]
      exact own_store (h.row k hk) (h.apartTop hk) _

/-- Nothing but what stands in the blocks of these rows has turned. -/
structure Only (G : Nat → Nat) (r : Nat) (w w' : World) : Prop where
  os : w'.os = w.os
  tape : w'.tape = w.tape
  output : w'.output = w.output
  size : w.heap.size ≤ w'.heap.size
  block : ∀ b, b < w.heap.size → (∀ i, i < r → b ≠ G i) → w'.heap[b]? = w.heap[b]?
theorem Only.of {G : Nat → Nat} {r : Nat} {w w' : World} (h : Kp w w') : Only G r w w' := ⟨h.os, h.tape, h.output, h.size, fun b hb _ => h.block b hb⟩
theorem Only.refl (G : Nat → Nat) (r : Nat) (w : World) : Only G r w w := Only.of (Kp.rfl' w)
theorem Only.trans {G : Nat → Nat} {r : Nat} {a b c : World} (h : Only G r a b) (k : Only G r b c) : Only G r a c :=
  ⟨k.os.trans h.os, k.tape.trans h.tape, k.output.trans h.output, Nat.le_trans h.size k.size, fun i hi hn => (k.block i (Nat.lt_of_lt_of_le hi h.size) hn).trans (h.block i hi hn)⟩
theorem Only.drewN {G : Nat → Nat} {r : Nat} {a b : World} (h : Only G r a b) (n : Nat) : Only G r a (b.drewN n) := h.trans (Only.of ((Kp.rfl' b).drewN n))
theorem Only.put {G : Nat → Nat} {r : Nat} {a b : World} (h : Only G r a b) {i : Nat} (hi : i < r) (j : Nat) (u : Value) : Only G r a (b.setCell ⟨G i, j, none⟩ u) :=
  h.trans ⟨rfl, rfl, rfl, by simp [World.setCell], fun k _ hn => Below.heap_setCell _ _ _ _ (hn i hi)⟩
theorem Only.below {G : Nat → Nat} {r B : Nat} {w0 w w' : World} (h : Only G r w w') (hb : Below B w0 w) (hB : B ≤ w.heap.size) (hG : ∀ i, i < r → B ≤ G i) : Below B w0 w' :=
  hb.trans ⟨h.os, h.tape, h.output, h.size, fun k hk => h.block k (by omega) fun i hi e => by have := hG i hi; omega⟩
theorem Own.only {G : Nat → Nat} {r B : Nat} {w w' : World} {u : Value} {l : List Int} (h : Own w B u l) (ho : Only G r w w') (hn : ∀ b, u.ownBlock = some b → ∀ i, i < r → G i ≠ b) : Own w' B u l := by
  obtain ⟨h1, h2⟩ := h
  refine ⟨h1, ?_⟩
  rcases h2 with h2 | ⟨g, cap, cur, rfl, hg, hh, r⟩
  · exact .inl h2
  · refine .inr ⟨g, cap, cur, rfl, hg, ?_, r⟩
    rw [ho.block g ?_ fun i hi e => hn g rfl i hi e.symm]; exact hh
    rcases Nat.lt_or_ge g w.heap.size with hlt | hge
    · exact hlt
    · rw [Array.getElem?_eq_none hge] at hh; cases hh
/-- A store to another block leaves a row. -/
theorem Own.far {w : World} {B : Nat} {u : Value} {l : List Int} (h : Own w B u l) {a : Addr} (ha : u.ownBlock ≠ some a.block) (x : Value) : Own (w.setCell a x) B u l := by
  obtain ⟨h1, h2⟩ := h
  refine ⟨h1, ?_⟩
  rcases h2 with h2 | ⟨g, cap, cur, rfl, hg, hh, r⟩
  · exact .inl h2
  · refine .inr ⟨g, cap, cur, rfl, hg, ?_, r⟩
    rw [heap_setCell_other w a g x (fun e => ha (by show some g = some a.block; rw [e]))]; exact hh

/-- An append to another row leaves the matrix. -/
theorem OwnM.grown {w w' : World} {B : Nat} {v u : Value} {G C : Nat → Nat} {m : List (List Int)} (h : OwnM w B v G C m) (hg : w.grownBy w' u.ownBlock) (h1 : v.ownBlock = none ∨ v.ownBlock ≠ u.ownBlock) (h2 : ∀ i, i < m.length → some (G i) ≠ u.ownBlock) : OwnM w' B v G C m :=
  ⟨World.ownsRow.kept h.top hg h1, fun i hi => (h.row i hi).grown hg (.inr (h2 i hi)), h.apart⟩

theorem OwnM.liesM {w : World} {B n cap : Nat} {A : Option Addr} {G C : Nat → Nat} {m : List (List Int)} (h : OwnM w B (.slice A n cap) G C m) : LiesM w A m := by
  obtain ⟨A', c', e, hl, _⟩ := h.lies
  cases e; exact hl

/-- A matrix of the call's own, and a row of numbers beside it. -/
structure MatRow (w : World) (B : Nat) (g cap : Nat) (G C : Nat → Nat) (r c : Nat) (f : Nat → Nat → Int) (u : Value) (l : List Int) : Prop where
  mat : OwnM w B (.slice (some ⟨g, 0, none⟩) r cap) G C (Mx.tab r c f)
  row : Own w B u l
  far : ∀ b, u.ownBlock = some b → b ≠ g
  apart : ∀ b, u.ownBlock = some b → ∀ i, i < r → G i ≠ b
theorem MatRow.kp {w w' : World} {B g cap : Nat} {G C : Nat → Nat} {r c : Nat} {f : Nat → Nat → Int} {u : Value} {l : List Int} (h : MatRow w B g cap G C r c f u l) (hk : Kp w w') : MatRow w' B g cap G C r c f u l := ⟨h.mat.kp hk, h.row.kp hk, h.far, h.apart⟩
theorem MatRow.drewN {w : World} {B g cap : Nat} {G C : Nat → Nat} {r c : Nat} {f : Nat → Nat → Int} {u : Value} {l : List Int} (h : MatRow w B g cap G C r c f u l) (n : Nat) : MatRow (w.drewN n) B g cap G C r c f u l := h.kp ((Kp.rfl' w).drewN n)
theorem MatRow.start {w : World} {B g cap : Nat} {G C : Nat → Nat} {r c : Nat} {f : Nat → Nat → Int} (h : OwnM w B (.slice (some ⟨g, 0, none⟩) r cap) G C (Mx.tab r c f)) : MatRow w B g cap G C r c f (.slice none 0 0) [] :=
  ⟨h, Own.none _ _, (fun b hb => by cases hb), (fun b hb => by cases hb)⟩
theorem MatRow.ext {w : World} {B g cap : Nat} {G C : Nat → Nat} {r c : Nat} {f f' : Nat → Nat → Int} {u : Value} {l : List Int} (h : MatRow w B g cap G C r c f u l) (e : ∀ i j, i < r → j < c → f i j = f' i j) : MatRow w B g cap G C r c f' u l := ⟨h.mat.ext e, h.row, h.far, h.apart⟩
theorem MatRow.only {w w' : World} {B g cap : Nat} {G C : Nat → Nat} {r c : Nat} {f f' : Nat → Nat → Int} {u : Value} {l : List Int} (h : MatRow w B g cap G C r c f u l) (ho : Only G r w w') (hm : OwnM w' B (.slice (some ⟨g, 0, none⟩) r cap) G C (Mx.tab r c f')) : MatRow w' B g cap G C r c f' u l :=
  ⟨hm, h.row.only ho h.apart, h.far, h.apart⟩
theorem MatRow.put {w : World} {B g cap : Nat} {G C : Nat → Nat} {r c : Nat} {f : Nat → Nat → Int} {u : Value} {l : List Int} (h : MatRow w B g cap G C r c f u l) {i : Nat} (hi : i < r) (j : Nat) (x : Int) :
    MatRow (w.setCell ⟨G i, j, none⟩ (.int .i64 x)) B g cap G C r c (fun a b => if a = i ∧ b = j then x else f a b) u l :=
  h.only ((Only.refl G r w).put hi j _) (h.mat.put hi j x)
/-- An append to the row beside it. -/
theorem MatRow.push {w w' : World} {B g cap : Nat} {G C : Nat → Nat} {r c : Nat} {f : Nat → Nat → Int} {u u' : Value} {l l' : List Int} (h : MatRow w B g cap G C r c f u l) (h1 : Own w' B u' l') (hg : w.grownBy w' u.ownBlock) (ha : At w u u') : MatRow w' B g cap G C r c f u' l' := by
  have hl := World.ownsRow.lt h.mat.top g rfl
  have hG : ∀ i, i < r → G i < w.heap.size := fun i hi => (h.mat.lt (by rw [Mx.len_tab]; exact hi)).2
  refine ⟨h.mat.grown hg ?_ fun i hi e => ?_, h1, fun b hb => ?_, fun b hb i hi => ?_⟩
  · cases hu : u.ownBlock with
    | none => exact .inr (by intro e; cases e)
    | some b => exact .inr fun e => h.far b hu (Option.some.inj e).symm
  · rw [Mx.len_tab] at hi
    exact h.apart _ e.symm i hi rfl
  · rcases ha with e | e
    · exact h.far b (by rw [← e]; exact hb)
    · rw [e] at hb; have := Option.some.inj hb; omega
  · rcases ha with e | e
    · exact h.apart b (by rw [← e]; exact hb) i hi
    · rw [e] at hb; have := Option.some.inj hb; have := hG i hi; omega
/-- Two heads change places. -/
theorem MatRow.swap {w : World} {B g cap : Nat} {G C : Nat → Nat} {r c : Nat} {f : Nat → Nat → Int} {u : Value} {l : List Int} (h : MatRow w B g cap G C r c f u l) {a b : Nat} (ha : a < r) (hb : b < r) :
    MatRow ((w.setCell ⟨g, a, none⟩ (.slice (some ⟨G b, 0, none⟩) c (C b))).setCell ⟨g, b, none⟩ (.slice (some ⟨G a, 0, none⟩) c (C a))) B g cap
      (fun i => if i = b then G a else if i = a then G b else G i) (fun i => if i = b then C a else if i = a then C b else C i) r c (fun i => if i = b then f a else if i = a then f b else f i) u l := by
  have hw := h.mat.weak
  have ap : ∀ i j, i < r → j < r → i ≠ j → G i ≠ G j := fun i j hi hj => h.mat.apart i j (by rw [Mx.len_tab]; exact hi) (by rw [Mx.len_tab]; exact hj)
  have h1 := hw.set ha (hw.row b hb)
  have ra := own_store (hw.row a ha) (a := ⟨g, a, none⟩) (hw.apartTop ha) (Value.slice (some ⟨G b, 0, none⟩) c (C b))
  have h2 := h1.set hb ra
  refine ⟨h2.strong fun i j hi hj hne => ?_, (h.row.far (a := ⟨g, a, none⟩) (fun e => h.far _ e rfl) _).far (a := ⟨g, b, none⟩) (fun e => h.far _ e rfl) _, h.far, fun k hk i hi => ?_⟩
  · split <;> split <;> (try split) <;> (try split) <;> apply ap <;> omega
  · split
    · exact h.apart k hk a ha
    · split
      · exact h.apart k hk b hb
      · exact h.apart k hk i hi

/-- Row p comes to row a's place, and a new row to row p's. -/
theorem MatRow.rehead {w w' : World} {B g cap : Nat} {G C : Nat → Nat} {r c : Nat} {f : Nat → Nat → Int} {u : Value} {l : List Int} (h : MatRow w B g cap G C r c f u l) {a p : Nat} (ha : a < r) (hp : p < r)
    (hk : Kp (w.setCell ⟨g, a, none⟩ (.slice (some ⟨G p, 0, none⟩) c (C p))) w') {go co : Nat} {h1 : Nat → Int} (ho : Own w' w.heap.size (.slice (some ⟨go, 0, none⟩) c co) (Mx.row c h1)) :
    MatRow (w'.setCell ⟨g, p, none⟩ (.slice (some ⟨go, 0, none⟩) c co)) B g cap (fun i => if i = p then go else if i = a then G p else G i) (fun i => if i = p then co else if i = a then C p else C i) r c
      (fun i => if i = p then h1 else if i = a then f p else f i) u l := by
  have hw := h.mat.weak
  have ap : ∀ i j, i < r → j < r → i ≠ j → G i ≠ G j := fun i j hi hj => h.mat.apart i j (by rw [Mx.len_tab]; exact hi) (by rw [Mx.len_tab]; exact hj)
  have hB := hw.topLe
  have hgo : w.heap.size ≤ go := (World.ownsRow.lt ho go rfl).1
  have h2 := ((hw.set ha (hw.row p hp)).kp hk).set hp (ho.from (B' := B) (by omega))
  refine ⟨h2.strong fun i j hi hj hne => ?_, ((h.row.far (a := ⟨g, a, none⟩) (fun e => h.far _ e rfl) _).kp hk).far (a := ⟨g, p, none⟩) (fun e => h.far _ e rfl) _, h.far, fun k hk' i hi => ?_⟩
  · have hG : ∀ i, i < r → G i ≠ go := fun i hi => by have := (hw.lt hi).2; omega
    split <;> split <;> (try split) <;> (try split) <;> first | omega | exact hG _ (by omega) | exact (hG _ (by omega)).symm | (apply ap <;> omega)
  · have hlt := (World.ownsRow.lt h.row k hk').2
    split
    · omega
    · split
      · exact h.apart k hk' p hp
      · exact h.apart k hk' i hi

/-- A matrix made by make is a matrix of the call's own. -/
theorem Row.own {w : World} {B g n : Nat} {l : List Int} (h : Row w g l) (hB : B ≤ g) (hn : l.length = n) (hm : n ≤ 17000000000000) : Own w B (.slice (some ⟨g, 0, none⟩) n n) l := by
  subst hn
  refine ⟨by simp, .inr ⟨g, l.length, (ints l).toArray, rfl, hB, h, Nat.le_refl _, by unfold maxLen; omega, by simp, by simp [List.take_of_length_le]⟩⟩
theorem Grid.own {w : World} {B g : Nat} {G : Nat → Nat} {r c : Nat} {f : Nat → Nat → Int} (h : Grid w g G r c f) (hB : B ≤ g) (hr : r ≤ 1000) (hc : c ≤ 1000) : OwnM w B (.slice (some ⟨g, 0, none⟩) r r) G (fun _ => c) (Mx.tab r c f) := by
  refine OwnH.strong ⟨⟨by rw [len_hds, Nat.mul_one], .inr ⟨g, r, _, rfl, hB, h.head, Nat.le_refl _, by unfold maxLen; omega, by simp, ?_⟩⟩, fun i hi => (h.row i hi).own (by have := h.after i hi; omega) (Mx.len_row _ _) (by omega)⟩ h.apart
  simp [hds, List.take_of_length_le]
end Go.Proofs.YtmimbioffnolaaaDoor

/- Contracts of package hermite, second part: a row turned about, and the step that takes a multiple of one row from another one. -/
namespace Go.Proofs.YtmimbioffnolaaaDoor
open Go.ChangeShapes Go.WideShapes Go.ChangeAt Go.RowKit
set_option linter.unusedVariables false

/-- Nothing but one block has turned. -/
abbrev But (z : Nat) (w w' : World) : Prop := Only (fun _ => z) 1 w w'
theorem Only.cell {G : Nat → Nat} {r : Nat} {w w' : World} (h : Only G r w w') {p : Addr} {v : Value} (hc : w.cell? p = some v) (hn : ∀ i, i < r → p.block ≠ G i) : w'.cell? p = some v :=
  (World.cell?_of_block (w := w) (h.block p.block (cell_lt hc) hn)).trans hc
theorem But.put {z : Nat} {a b : World} (h : But z a b) (j : Nat) (u : Value) : But z a (b.setCell ⟨z, j, none⟩ u) := Only.put (G := fun _ => z) (i := 0) h (Nat.zero_lt_one) j u
theorem But.wide {z : Nat} {a b : World} (h : But z a b) {G : Nat → Nat} {r i : Nat} (hi : i < r) (e : G i = z) : Only G r a b :=
  ⟨h.os, h.tape, h.output, h.size, fun k hk hn => h.block k hk fun _ _ => by rw [← e]; exact hn i hi⟩
theorem OwnM.turned1 {w w' : World} {B g n cap : Nat} {G C : Nat → Nat} {r c : Nat} {f : Nat → Nat → Int} (h : OwnM w B (.slice (some ⟨g, 0, none⟩) n cap) G C (Mx.tab r c f)) {a : Nat} (ha : a < r) {y : Nat → Int}
    (ho : But (G a) w w') (hy : Own w' B (.slice (some ⟨G a, 0, none⟩) c (C a)) (Mx.row c y)) : OwnM w' B (.slice (some ⟨g, 0, none⟩) n cap) G C (Mx.tab r c (Zx.setr a y f)) := by
  have hw := h.weak
  have ap : ∀ i j, i < r → j < r → i ≠ j → G i ≠ G j := fun i j hi hj => h.apart i j (by rw [Mx.len_tab]; exact hi) (by rw [Mx.len_tab]; exact hj)
  refine OwnH.strong ⟨?_, fun i hi => ?_⟩ ap
  · have ht := hw.top
    rcases ht.2 with ⟨h1, h2⟩ | ⟨g', cap', cur, e, hg, hh, rr⟩
    · exact ⟨ht.1, .inl ⟨h1, h2⟩⟩
    · refine ⟨ht.1, .inr ⟨g', cap', cur, e, hg, ?_, rr⟩⟩
      cases e
      rw [ho.block g ?_ fun _ _ => (hw.apartTop ha).symm]; exact hh
      exact hw.topLe.2
  · by_cases e : i = a
    · rw [e, Zx.setr_at]; exact hy
    · rw [Zx.setr_ne e]
      exact (hw.row i hi).only ho fun b hb _ _ => by
        have := Option.some.inj hb
        rw [← this]; exact fun e' => ap i a hi ha e e'.symm

theorem tmod_floor {a b : Int} (hb : 0 < b) : (a.tmod b < 0 → a.tmod b + b = a % b) ∧ (¬ a.tmod b < 0 → a.tmod b = a % b) := by
  have h1 := Int.mul_tdiv_add_tmod a b
  have h2 := Int.tmod_lt_of_pos a hb
  have h3 : -b < a.tmod b := by
    have e := Int.natAbs_tmod a b
    have l := Nat.mod_lt a.natAbs (show 0 < b.natAbs by omega)
    omega
  constructor
  · intro h
    have e : a = a.tmod b + b + b * (a.tdiv b - 1) := by grind
    rw [show a % b = (a.tmod b + b + b * (a.tdiv b - 1)) % b by rw [← e], Int.add_mul_emod_self_left, Int.emod_eq_of_lt (by omega) (by omega)]
  · intro h
    have e : a = a.tmod b + b * (a.tdiv b) := by grind
    rw [show a % b = (a.tmod b + b * (a.tdiv b)) % b by rw [← e], Int.add_mul_emod_self_left, Int.emod_eq_of_lt (by omega) (by omega)]
theorem tdiv_floor {a b : Int} (hb : 0 < b) : (a - a % b).tdiv b = a / b := by
  have h1 := Int.mul_ediv_add_emod a b
  rw [show a - a % b = b * (a / b) by omega, Int.mul_tdiv_cancel_left _ (by omega)]

set_option maxRecDepth 100000 in
set_option maxHeartbeats 800000 in
theorem neg_any (z cz n B : Nat) (y : Nat → Int) (w : World) (ho : Own w B (.slice (some ⟨z, 0, none⟩) n cz) (Mx.row n y)) (hn : n ≤ 1000) (hy : ∀ j, j < n → -1000000000000000 ≤ y j ∧ y j ≤ 1000000000000000) :
    Calls Tryd.prog 43 #[.slice (some ⟨z, 0, none⟩) n cz] w fun e w' =>
      e = .returned (.tuple #[]) ∧ Own w' B (.slice (some ⟨z, 0, none⟩) n cz) (Mx.row n fun j => -(y j)) ∧ But z w w' := by
  have HO := Lib.hid ho
  have HY := Lib.hid hy
  clear ho hy
  go_enter Tryd.func43, Tryd.ntmps43
  go_wp2_with fail
  go_loopw [5] (fun i wr => ∃ k : Nat, k ≤ n ∧ i = .int .i64 (k : Int) ∧ Own wr B (.slice (some ⟨z, 0, none⟩) n cz) (Mx.row n fun j => if j < k then -(y j) else y j) ∧ But z w wr) (fun i _ => n - (intOf i).toNat)
  case atStart => exact ⟨0, Nat.zero_le _, rfl, by
    rw [show (Mx.row n fun j => if j < 0 then -(y j) else y j) = Mx.row n y from Mx.row_ext fun j _ => by rw [if_neg (by omega)]]
    exact HO.out, Only.refl _ _ _⟩
  case round =>
    obtain ⟨k, hk, rfl, ho, hon⟩ := hrel
    by_cases hlt : k < n
    · have x6 := own_cell ho k (by rw [Mx.len_row]; exact hlt)
      have x7 := own_free ho k
      rw [Mx.row_at _ _ _ hlt, if_neg (by omega)] at x6
      have hyk := HY.out k hlt
      obtain ⟨yk, hyk'⟩ : ∃ v, v = y k := ⟨_, rfl⟩
      rw [← hyk'] at x6 hyk
      have hw : IntKind.i64.wrap (-yk) = -yk := IntWalk.i64_in _ (by omega)
      have HQ := Lib.hid hyk'
      have HO2 := Lib.hid ho
      have HK2 := Lib.hid hon
      clear ho hon hyk' hyk
      go_wp2_with fail
      go_roundw
      case rel =>
        refine ⟨k + 1, by omega, by go_num, ?_, HK2.out.put k _⟩
        have := own_put HO2.out k (-yk)
        rw [Mx.row_set] at this
        rw [show (Mx.row n fun j => if j < k + 1 then -(y j) else y j) = Mx.row n fun j => if j = k then -yk else if j < k then -(y j) else y j from Mx.row_ext fun j _ => by
          by_cases e : j = k
          · rw [if_pos e, if_pos (by omega), e, HQ.out]
          · rw [if_neg e]
            by_cases e2 : j < k
            · rw [if_pos e2, if_pos (by omega)]
            · rw [if_neg e2, if_neg (by omega)]]
        exact this
      case measure => simp [intOf]; omega
    · obtain rfl : k = n := by omega
      have HO2 := Lib.hid (show Own wr B (.slice (some ⟨z, 0, none⟩) k cz) (Mx.row k fun j => -(y j)) by
        rw [show (Mx.row k fun j => -(y j)) = Mx.row k fun j => if j < k then -(y j) else y j from Mx.row_ext fun j hj => by rw [if_pos hj]]
        exact ho)
      have HK2 := Lib.hid hon
      clear ho hon
      go_wp2_with fail
      go_end0
      exact ⟨rfl, HO2.out, HK2.out⟩

set_option maxRecDepth 100000 in
/-- The step that a row makes: what it holds. -/
theorem reduc_any (A : Option Addr) (n c k : Nat) (w : World) :
    Calls Tryd.prog 31 #[.slice A n c, .int .i64 (k : Int)] w fun e w' =>
      ∃ P R, e = .returned (.func (.func 44) #[] #[.pointer (some ⟨P, 0, none⟩), .pointer (some ⟨R, 0, none⟩)]) ∧
        (w.heap.size ≤ P ∧ w.heap.size ≤ R) ∧ w'.cell? ⟨P, 0, none⟩ = some (.int .i64 (k : Int)) ∧ w'.cell? ⟨R, 0, none⟩ = some (.slice A n c) ∧ Kp w w' := by
  go_enter Tryd.func31, Tryd.ntmps31
  go_wp2_with fail
  go_ret
  have s1 : (w.alloc (.cells #[.slice A n c] 24)).heap.size = w.heap.size + 1 := by simp
  refine ⟨w.heap.size + 1, w.heap.size, rfl, ⟨by omega, by omega⟩, ?_, ?_, ((Kp.rfl' w).new _).new _⟩
  · exact cell_made _ _ _ _ 0 s1.symm
  · have k3 : Kp (w.alloc (.cells #[.slice A n c] 24)) _ := (Kp.rfl' _).new (.cells #[.int .i64 (k : Int)] 3)
    exact (k3.cell (p := ⟨w.heap.size, 0, none⟩) (by rw [s1]; show w.heap.size < _; omega)).trans (cell_made _ _ _ _ 0 rfl)

/-- What the step's boxes and the row that it stands over hold. -/
structure RedAt (w : World) (P R Z n c k : Nat) (b : Nat → Int) : Prop where
  at' : w.cell? ⟨P, 0, none⟩ = some (.int .i64 (k : Int))
  row : w.cell? ⟨R, 0, none⟩ = some (.slice (some ⟨Z, 0, none⟩) n c)
  el : ∀ j, j < n → w.cell? ⟨Z, j, none⟩ = some (.int .i64 (b j))
theorem RedAt.but {w w' : World} {P R Z n c k z : Nat} {b : Nat → Int} (h : RedAt w P R Z n c k b) (ho : But z w w') (hP : P ≠ z) (hR : R ≠ z) (hZ : Z ≠ z) : RedAt w' P R Z n c k b :=
  ⟨ho.cell h.at' fun _ _ => hP, ho.cell h.row fun _ _ => hR, fun j hj => ho.cell (h.el j hj) fun _ _ => hZ⟩

set_option maxRecDepth 100000 in
set_option maxHeartbeats 1600000 in
theorem red_any (P R Z n c k z cz B : Nat) (b y : Nat → Int) (w : World) (hs : RedAt w P R Z n c k b) (ho : Own w B (.slice (some ⟨z, 0, none⟩) n cz) (Mx.row n y))
    (hP : P ≠ z) (hR : R ≠ z) (hZ : Z ≠ z) (hk : k < n) (hn : n ≤ 1000) (h0 : 0 < b k) (hbk : b k ≤ 1000000000000000)
    (hy : ∀ j, j < n → (-1000000000000000 ≤ y j ∧ y j ≤ 1000000000000000) ∧ -4000000000000000000 ≤ y k / b k * b j ∧ y k / b k * b j ≤ 4000000000000000000) :
    Calls Tryd.prog 44 #[.slice (some ⟨z, 0, none⟩) n cz, .pointer (some ⟨P, 0, none⟩), .pointer (some ⟨R, 0, none⟩)] w fun e w' =>
      e = .returned (.tuple #[]) ∧ Own w' B (.slice (some ⟨z, 0, none⟩) n cz) (Mx.row n (Zx.rdc k b y)) ∧ But z w w' := by
  have HO := Lib.hid ho
  have HS := Lib.hid hs
  have HY := Lib.hid hy
  have KEEP := Lib.hid (fun (w' : World) (h : But z w w') => hs.but h hP hR hZ)
  have x1 := hs.at'
  have x2 := hs.row
  have x3 := hs.el k hk
  have x4 := own_cell ho k (by rw [Mx.len_row]; exact hk)
  rw [Mx.row_at _ _ _ hk] at x4
  have hyk := (hy k hk).1
  have tf := tmod_floor (a := y k) h0
  have df := tdiv_floor (a := y k) h0
  have em1 := Int.emod_nonneg (y k) (Int.ne_of_gt h0)
  have em2 := Int.emod_lt_of_pos (y k) h0
  obtain ⟨q, hq⟩ : ∃ q, q = y k / b k := ⟨_, rfl⟩
  have hqb : q.natAbs ≤ (y k).natAbs := by
    have := Zx.floor_ab (a := y k) h0
    unfold Zx.ab at this
    rw [hq]; omega
  rw [← hq] at df
  obtain ⟨yk, hyk'⟩ : ∃ v, v = y k := ⟨_, rfl⟩
  obtain ⟨bk, hbk'⟩ : ∃ v, v = b k := ⟨_, rfl⟩
  rw [← hyk'] at x4 hyk tf df em1 em2 hqb
  rw [← hbk'] at x3 tf df h0 hbk em1 em2
  have HQ := Lib.hid hq
  have e0 : (bk == 0) = false := by rw [beq_eq_false_iff_ne]; omega
  obtain ⟨rr, hrr⟩ : ∃ rr, rr = yk % bk := ⟨_, rfl⟩
  rw [← hrr] at tf df em1 em2
  obtain ⟨t, ht⟩ : ∃ t, t = yk.tmod bk := ⟨_, rfl⟩
  have htr : IntKind.i64.wrap (yk.tmod bk) = t := by
    rw [ht]; refine IntWalk.i64_in _ ?_
    have := Int.natAbs_tmod yk bk
    rcases Int.lt_or_le (yk.tmod bk) 0 with h | h
    · have := tf.1 (by rw [ht] at *; exact h); omega
    · have := tf.2 (by omega); omega
  have ht2 : yk.tmod bk = t := ht.symm
  rw [ht2] at tf
  have hws : IntKind.i64.wrap (yk - rr) = yk - rr := IntWalk.i64_in _ (by omega)
  have hwd : IntKind.i64.wrap q = q := IntWalk.i64_in _ (by omega)
  have hP0 := hP
  have HT := Lib.hid tf
  clear ho hs hy hP hR hZ hyk' hbk' hq hrr ht
  go_enter Tryd.func44, Tryd.ntmps44
  go_wp2_with fail
  go_quiet (fail)
  by_cases ht0 : t < 0
  · have et : t + bk = rr := HT.out.1 ht0
    have hwa : IntKind.i64.wrap (t + bk) = rr := by rw [et]; exact IntWalk.i64_in _ (by omega)
    have hd0 : decide (t < 0) = true := decide_eq_true ht0
    clear et
    go_wp2_with fail
    go_quiet (fail)
    go_wp2_with fail
    go_loopw [38] (fun i wr => ∃ j : Nat, j ≤ n ∧ i = .int .i64 (j : Int) ∧ Own wr B (.slice (some ⟨z, 0, none⟩) n cz) (Mx.row n fun t => if t < j then Zx.rdc k b y t else y t) ∧ But z w wr) (fun i _ => n - (intOf i).toNat)
    case atStart => exact ⟨0, Nat.zero_le _, rfl, by
      rw [show (Mx.row n fun j => if j < 0 then Zx.rdc k b y j else y j) = Mx.row n y from Mx.row_ext fun j _ => by rw [if_neg (by omega)]]
      exact HO.out, (Only.refl _ _ w).drewN _⟩
    case round =>
      clear x1 x2 x3 x4
      obtain ⟨j, hj, rfl, ho, hon⟩ := hrel
      by_cases hlt : j < n
      · have hd := KEEP.out wr hon
        have x2 := hd.row
        have x5 := hd.el j hlt
        have x6 := own_cell ho j (by rw [Mx.len_row]; exact hlt)
        have x7 := own_free ho j
        rw [Mx.row_at _ _ _ hlt, if_neg (by omega)] at x6
        have hyj := HY.out j hlt
        rw [← HQ.out] at hyj
        have HJ := Lib.hid (show Zx.rdc k b y j = y j - q * b j by unfold Zx.rdc; rw [← HQ.out])
        have HO2 := Lib.hid ho
        have HK2 := Lib.hid hon
        obtain ⟨yj, hyj'⟩ : ∃ v, v = y j := ⟨_, rfl⟩
        obtain ⟨bj, hbj'⟩ : ∃ v, v = b j := ⟨_, rfl⟩
        rw [← hyj'] at x6 hyj HJ
        rw [← hbj'] at x5 hyj HJ
        have hw1 : IntKind.i64.wrap (q * bj) = q * bj := IntWalk.i64_in _ (by omega)
        have hw2 : IntKind.i64.wrap (yj - q * bj) = yj - q * bj := IntWalk.i64_in _ (by omega)
        clear ho hon hyj' hbj' hyj hd
        go_wp2_with fail
        go_roundw
        case rel =>
          refine ⟨j + 1, by omega, by go_num, ?_, HK2.out.put j _⟩
          have := own_put HO2.out j (yj - q * bj)
          rw [Mx.row_set] at this
          rw [show (Mx.row n fun t => if t < j + 1 then Zx.rdc k b y t else y t) = Mx.row n fun t => if t = j then yj - q * bj else if t < j then Zx.rdc k b y t else y t from Mx.row_ext fun t _ => by
            by_cases e : t = j
            · rw [if_pos e, if_pos (by omega), e, HJ.out]
            · rw [if_neg e]
              by_cases e2 : t < j
              · rw [if_pos e2, if_pos (by omega)]
              · rw [if_neg e2, if_neg (by omega)]]
          exact this
        case measure => simp [intOf]; omega
      · obtain rfl : j = n := by omega
        have HO2 := Lib.hid (show Own wr B (.slice (some ⟨z, 0, none⟩) j cz) (Mx.row j (Zx.rdc k b y)) by
          rw [show Mx.row j (Zx.rdc k b y) = Mx.row j fun t => if t < j then Zx.rdc k b y t else y t from Mx.row_ext fun t ht => by rw [if_pos ht]]
          exact ho)
        have HK2 := Lib.hid hon
        clear ho hon
        go_wp2_with fail
        go_end0
        exact ⟨rfl, HO2.out, HK2.out⟩
  · have et : t = rr := HT.out.2 (by omega)
    have hd0 : decide (t < 0) = false := decide_eq_false ht0
    subst et
    go_wp2_with fail
    go_quiet (fail)
    go_wp2_with fail
    go_loopw [38] (fun i wr => ∃ j : Nat, j ≤ n ∧ i = .int .i64 (j : Int) ∧ Own wr B (.slice (some ⟨z, 0, none⟩) n cz) (Mx.row n fun t => if t < j then Zx.rdc k b y t else y t) ∧ But z w wr) (fun i _ => n - (intOf i).toNat)
    case atStart => exact ⟨0, Nat.zero_le _, rfl, by
      rw [show (Mx.row n fun j => if j < 0 then Zx.rdc k b y j else y j) = Mx.row n y from Mx.row_ext fun j _ => by rw [if_neg (by omega)]]
      exact HO.out, (Only.refl _ _ w).drewN _⟩
    case round =>
      clear x1 x2 x3 x4
      obtain ⟨j, hj, rfl, ho, hon⟩ := hrel
      by_cases hlt : j < n
      · have hd := KEEP.out wr hon
        have x2 := hd.row
        have x5 := hd.el j hlt
        have x6 := own_cell ho j (by rw [Mx.len_row]; exact hlt)
        have x7 := own_free ho j
        rw [Mx.row_at _ _ _ hlt, if_neg (by omega)] at x6
        have hyj := HY.out j hlt
        rw [← HQ.out] at hyj
        have HJ := Lib.hid (show Zx.rdc k b y j = y j - q * b j by unfold Zx.rdc; rw [← HQ.out])
        have HO2 := Lib.hid ho
        have HK2 := Lib.hid hon
        obtain ⟨yj, hyj'⟩ : ∃ v, v = y j := ⟨_, rfl⟩
        obtain ⟨bj, hbj'⟩ : ∃ v, v = b j := ⟨_, rfl⟩
        rw [← hyj'] at x6 hyj HJ
        rw [← hbj'] at x5 hyj HJ
        have hw1 : IntKind.i64.wrap (q * bj) = q * bj := IntWalk.i64_in _ (by omega)
        have hw2 : IntKind.i64.wrap (yj - q * bj) = yj - q * bj := IntWalk.i64_in _ (by omega)
        clear ho hon hyj' hbj' hyj hd
        go_wp2_with fail
        go_roundw
        case rel =>
          refine ⟨j + 1, by omega, by go_num, ?_, HK2.out.put j _⟩
          have := own_put HO2.out j (yj - q * bj)
          rw [Mx.row_set] at this
          rw [show (Mx.row n fun t => if t < j + 1 then Zx.rdc k b y t else y t) = Mx.row n fun t => if t = j then yj - q * bj else if t < j then Zx.rdc k b y t else y t from Mx.row_ext fun t _ => by
            by_cases e : t = j
            · rw [if_pos e, if_pos (by omega), e, HJ.out]
            · rw [if_neg e]
              by_cases e2 : t < j
              · rw [if_pos e2, if_pos (by omega)]
              · rw [if_neg e2, if_neg (by omega)]]
          exact this
        case measure => simp [intOf]; omega
      · obtain rfl : j = n := by omega
        have HO2 := Lib.hid (show Own wr B (.slice (some ⟨z, 0, none⟩) j cz) (Mx.row j (Zx.rdc k b y)) by
          rw [show Mx.row j (Zx.rdc k b y) = Mx.row j fun t => if t < j then Zx.rdc k b y t else y t from Mx.row_ext fun t ht => by rw [if_pos ht]]
          exact ho)
        have HK2 := Lib.hid hon
        clear ho hon
        go_wp2_with fail
        go_end0
        exact ⟨rfl, HO2.out, HK2.out⟩
end Go.Proofs.YtmimbioffnolaaaDoor

/- Contracts of package hermite, third part: the rows from one on are made 0 in a column, but for the first of them. -/
namespace Go.Proofs.YtmimbioffnolaaaDoor
open Go.ChangeShapes Go.WideShapes Go.ChangeAt Go.RowKit
set_option linter.unusedVariables false

theorem neg_mat {B g cap n : Nat} {G C : Nat → Nat} {f : Nat → Nat → Int} {a : Nat} (w : World) (h : OwnM w B (.slice (some ⟨g, 0, none⟩) n cap) G C (Mx.tab n n f)) (ha : a < n) (hn : n ≤ 3) (hy : ∀ j, j < n → Zx.ab (f a j) ≤ 1000000000000000) :
    Calls Tryd.prog 43 #[.slice (some ⟨G a, 0, none⟩) n (C a)] w fun e w' =>
      e = .returned (.tuple #[]) ∧ OwnM w' B (.slice (some ⟨g, 0, none⟩) n cap) G C (Mx.tab n n (Zx.setr a (fun j => -(f a j)) f)) ∧ But (G a) w w' :=
  (neg_any (G a) (C a) n B (f a) w (h.weak.row a ha) (by omega) fun j hj => by have := hy j hj; unfold Zx.ab at this; omega).mono fun _ _ hq => ⟨hq.1, h.turned1 ha hq.2.2 hq.2.1, hq.2.2⟩
theorem red_mat {B g cap n : Nat} {G C : Nat → Nat} {f : Nat → Nat → Int} {a i k P R : Nat} (w : World) (h : OwnM w B (.slice (some ⟨g, 0, none⟩) n cap) G C (Mx.tab n n f)) (ha : a < n) (hi : i < n) (hne : a ≠ i) (hk : k < n) (hn : n ≤ 3)
    (hP : w.cell? ⟨P, 0, none⟩ = some (.int .i64 (k : Int))) (hR : w.cell? ⟨R, 0, none⟩ = some (.slice (some ⟨G i, 0, none⟩) n (C i))) (nP : P ≠ G a) (nR : R ≠ G a) (h0 : 0 < f i k) (hb : f i k ≤ 1000000000000000)
    (hy : ∀ j, j < n → Zx.ab (f a j) ≤ 1000000000000000 ∧ Zx.ab (f a k / f i k * f i j) ≤ 1000000000000000) :
    Calls Tryd.prog 44 #[.slice (some ⟨G a, 0, none⟩) n (C a), .pointer (some ⟨P, 0, none⟩), .pointer (some ⟨R, 0, none⟩)] w fun e w' =>
      e = .returned (.tuple #[]) ∧ OwnM w' B (.slice (some ⟨g, 0, none⟩) n cap) G C (Mx.tab n n (Zx.setr a (Zx.rdc k (f i) (f a)) f)) ∧ But (G a) w w' :=
  (red_any P R (G i) n (C i) k (G a) (C a) B (f i) (f a) w ⟨hP, hR, fun j hj => h.weak.el hi hj⟩ (h.weak.row a ha) nP nR
    (fun e => h.apart i a (by rw [Mx.len_tab]; exact hi) (by rw [Mx.len_tab]; exact ha) (fun e' => hne e'.symm) e) hk (by omega) h0 hb fun j hj => by have := hy j hj; unfold Zx.ab at this; omega).mono fun _ _ hq => ⟨hq.1, h.turned1 ha hq.2.2 hq.2.1, hq.2.2⟩
theorem But.below {z B : Nat} {w w' : World} (h : But z w w') (hz : B ≤ z) (hB : B ≤ w.heap.size) : Below B w w' :=
  Only.below h (Below.refl _ _) hB fun _ _ => hz
theorem OwnM.swap {w : World} {B g cap : Nat} {G C : Nat → Nat} {r c : Nat} {f : Nat → Nat → Int} (h : OwnM w B (.slice (some ⟨g, 0, none⟩) r cap) G C (Mx.tab r c f)) {a b : Nat} (ha : a < r) (hb : b < r) :
    OwnM ((w.setCell ⟨g, a, none⟩ (.slice (some ⟨G b, 0, none⟩) c (C b))).setCell ⟨g, b, none⟩ (.slice (some ⟨G a, 0, none⟩) c (C a))) B (.slice (some ⟨g, 0, none⟩) r cap)
      (fun i => if i = b then G a else if i = a then G b else G i) (fun i => if i = b then C a else if i = a then C b else C i) (Mx.tab r c fun i => if i = b then f a else if i = a then f b else f i) :=
  ((MatRow.start h).swap ha hb).mat
theorem below_trans {B : Nat} {a b c : World} (h : Below B a b) (k : Below B b c) : Below B a c := h.trans k

set_option maxRecDepth 100000 in
set_option maxHeartbeats 3200000 in
theorem gather_any {B g cap n k p : Nat} {G C : Nat → Nat} {f0 : Nat → Nat → Int} (w : World) (hp : k + p = n) (h1 : 0 < p) (hn : n ≤ 3) (hB : B ≤ w.heap.size) (h : OwnM w B (.slice (some ⟨g, 0, none⟩) n cap) G C (Mx.tab n n f0))
    (hl : ∀ r j, k ≤ r → r < n → j < k → f0 r j = 0) (hb : ∀ r j, k ≤ r → r < n → j < n → Zx.ab (f0 r j) ≤ Zx.lbd k) (c : Nat) :
    Calls Tryd.prog 30 #[.slice (some ⟨g, k, none⟩) p c, .int .i64 (k : Int)] w fun e w' =>
      ∃ G C f, e = .returned (.tuple #[]) ∧ OwnM w' B (.slice (some ⟨g, 0, none⟩) n cap) G C (Mx.tab n n f) ∧ Zx.Gat n k n (Zx.lbd k) f0 f ∧ Below B w w' := by
  have HO := Lib.hid h
  have HP := Lib.hid hp
  have HL := Lib.hid hl
  have HB := Lib.hid hb
  have hkn : k < n := by omega
  have LB := Lib.hid (Zx.lbd_one k)
  have LE := Lib.hid (Zx.lbd_le k)
  have hBg := h.weak.topLe.1
  clear h hp hl hb
  go_enter Tryd.func30, Tryd.ntmps30
  go_wp2_with fail
  go_loopw [5, 9] (fun _ i wr => ∃ (t : Nat) (f : Nat → Nat → Int), t ≤ p ∧ i = .int .i64 (t : Int) ∧ OwnM wr B (.slice (some ⟨g, 0, none⟩) n cap) G C (Mx.tab n n f) ∧ Zx.Ngs n k t f0 f ∧ Below B w wr) (fun _ i _ => p - (intOf i).toNat)
  case atStart => exact ⟨0, f0, Nat.zero_le _, rfl, HO.out, Zx.Ngs.start n k f0, Below.refl _ _⟩
  case round =>
    obtain ⟨t, f, ht, rfl, ho, hs, hw⟩ := hrel
    have HM := Lib.hid ho
    have HS := Lib.hid hs
    have HW := Lib.hid hw
    clear ho hs hw
    by_cases hlt : t < p
    · have hkt : k + t < n := by have := HP.out; omega
      have x1 := HM.out.weak.head hkt
      have x2 := HM.out.weak.el hkt hkn
      by_cases hneg : f (k + t) k < 0
      · have NG := Lib.hid (neg_mat wr HM.out hkt hn fun j hj => by
          rw [HS.out.ab]
          have a1 := HB.out (k + t) j (by omega) hkt hj
          have a2 := LE.out; omega)
        have HS2 := Lib.hid (HS.out.turn hkt hneg)
        have hz : B ≤ G (k + t) := (HM.out.weak.lt hkt).1
        have hd : decide (f (k + t) k < 0) = true := decide_eq_true hneg
        have hwb : B ≤ wr.heap.size := Nat.le_trans hB HW.out.size
        clear hneg
        generalize f (k + t) k = x at *
        go_wp2_with fail
        refine (NG.out).mono ?_; rintro e w2 ⟨rfl, ho2, hb2⟩
        have HM2 := Lib.hid ho2
        have HW2 := Lib.hid (below_trans HW.out (hb2.below hz hwb))
        clear ho2 hb2
        go_wp2_with fail
        go_roundw
        case rel => exact ⟨t + 1, _, by omega, by go_num, HM2.out, HS2.out, HW2.out⟩
        case measure => simp [intOf]; omega
      · have HS2 := Lib.hid (HS.out.keep (by omega))
        have hd : decide (f (k + t) k < 0) = false := decide_eq_false hneg
        clear hneg
        generalize f (k + t) k = x at *
        go_wp2_with fail
        go_roundw
        case rel => exact ⟨t + 1, f, by omega, by go_num, HM.out, HS2.out, HW.out⟩
        case measure => simp [intOf]; omega
    · have GS := Lib.hid (show Zx.Gat n k (k + 1) (Zx.lbd k) f0 f from Zx.Gat.start hkn (by
        have e : n - k = t := by
          have := HP.out
          omega
        rw [e]; exact HS.out) HL.out HB.out)
      have e0 : decide (t < p) = false := decide_eq_false hlt
      clear ht hlt
      go_wp2_with fail
      go_loopw [6] (fun i wq => ∃ (i' : Nat) (G C : Nat → Nat) (f : Nat → Nat → Int), 1 ≤ i' ∧ i' ≤ p ∧ i = .int .i64 (i' : Int) ∧ OwnM wq B (.slice (some ⟨g, 0, none⟩) n cap) G C (Mx.tab n n f) ∧ Zx.Gat n k (k + i') (Zx.lbd k) f0 f ∧ Below B w wq) (fun i _ => p - (intOf i).toNat)
      case atStart => exact ⟨1, G, C, f, Nat.le_refl _, h1, rfl, HM.out, GS.out, HW.out⟩
      case round =>
        clear GS HM HS HW
        obtain ⟨i, G, C, f, hi1, hi2, rfl, ho, hs, hw⟩ := hrel
        have HM := Lib.hid ho
        have HS := Lib.hid hs
        have HW := Lib.hid hw
        clear ho hs hw
        by_cases hlt : i < p
        · have hki : k + i < n := by have := HP.out; omega
          have hkk : k < k + i := by omega
          have GC := Lib.hid (show (0 ≤ f k k ∧ f k k ≤ Zx.lbd k) ∧ (0 ≤ f (k + i) k ∧ f (k + i) k ≤ Zx.lbd k) from ⟨⟨HS.out.nn k (Nat.le_refl k) hkn, HS.out.cl k (Nat.le_refl k) hkn⟩, ⟨HS.out.nn _ (by omega) hki, HS.out.cl _ (by omega) hki⟩⟩)
          go_wp2_with fail
          go_loopg [33] (f (k + i) k).toNat (fun q _ wr => ∃ (G C : Nat → Nat) (h : Nat → Nat → Int), OwnM wr B (.slice (some ⟨g, 0, none⟩) n cap) G C (Mx.tab n n h) ∧ Zx.Prs n k (k + i) (Zx.lbd k) f h ∧ Below B w wr ∧ (h (k + i) k).toNat = q)
          case atStart => exact ⟨G, C, f, HM.out, Zx.Prs.start LB.out GC.out.1.1 GC.out.1.2 GC.out.2.1 GC.out.2.2, HW.out, rfl⟩
          case round =>
            clear HM HW
            obtain ⟨G, C, h, ho, hs, hw, hq⟩ := hrel
            have HM := Lib.hid ho
            have HR := Lib.hid hs
            have HW := Lib.hid hw
            have HQ := Lib.hid hq
            clear ho hs hw hq
            have y1 := HM.out.weak.head hki
            have y2 := HM.out.weak.el hki hkn
            have y0 := HM.out.weak.head hkn
            by_cases h0 : h (k + i) k = 0
            · have HS2 := Lib.hid (show Zx.Gat n k (k + (i + 1)) (Zx.lbd k) f0 h from HS.out.next LB.out hkk hki HR.out h0)
              rw [h0] at y2
              clear h0
              go_wp2_with fail
              go_roundw
              case rel => exact ⟨i + 1, G, C, h, by omega, by omega, by go_num, HM.out, HS2.out, HW.out⟩
              case measure => simp [intOf]; omega
            · have hne : k ≠ k + i := by omega
              have hst := HR.out.step hkn hki hne GC.out.1.1 GC.out.1.2 GC.out.2.1 GC.out.2.2 h0
              have hx0 := HR.out.ni
              have hpos : 0 < h (k + i) k := by omega
              obtain ⟨U0, V0, U1, V1, cf⟩ := HR.out.cof
              have hxl : h (k + i) k ≤ 1000000000000000 := by
                have a1 := cf.cy
                have a2 := LE.out
                rw [Zx.ab_of hx0] at a1
                omega
              have bnd : ∀ j, j < n → Zx.ab (h k j) ≤ 1000000000000000 ∧ Zx.ab (h k k / h (k + i) k * h (k + i) j) ≤ 1000000000000000 := fun j hj => by
                have a1 := hst.2.2 j hj
                have a2 := HS.out.bound hn hkn hkk hki (fun t ht => Int.le_trans (Zx.bt_lbd hn hkn ht) (Zx.lbd_le _)) hj (by have := LB.out; omega)
                omega
              have kd : Kp wr wr.drew := (Kp.rfl' wr).drewN 1
              have hGk := HM.out.weak.lt hkn
              have hsz : wr.drew.heap.size = wr.heap.size := rfl
              have RD := Lib.hid (reduc_any (some ⟨G (k + i), 0, none⟩) n (C (k + i)) k wr.drew)
              have ST := Lib.hid (fun (w1 : World) (P R : Nat) (hk1 : Kp wr.drew w1) (hPR : wr.drew.heap.size ≤ P ∧ wr.drew.heap.size ≤ R) c1 c2 =>
                red_mat w1 (HM.out.kp (kd.trans hk1)) hkn hki hne hkn hn c1 c2 (P := P) (R := R) (fun e => by have a := hPR.1; have b := hGk.2; omega) (fun e => by have a := hPR.2; have b := hGk.2; omega) hpos hxl bnd)
              have HX := Lib.hid hst
              have SK := Lib.hid (fun (w' : World) (h : Kp wr w') => (show w'.cell? ⟨g, k, none⟩ = some (.slice (some ⟨G k, 0, none⟩) n (C k)) ∧ w'.cell? ⟨g, k + i, none⟩ = some (.slice (some ⟨G (k + i), 0, none⟩) n (C (k + i))) from
                ⟨(h.cell (cell_lt y0)).trans y0, (h.cell (cell_lt y1)).trans y1⟩))
              have SB := Lib.hid (fun (w1 w' : World) (h : Kp wr w1) (hb : But (G k) w1 w') => (show w'.cell? ⟨g, k, none⟩ = some (.slice (some ⟨G k, 0, none⟩) n (C k)) ∧ w'.cell? ⟨g, k + i, none⟩ = some (.slice (some ⟨G (k + i), 0, none⟩) n (C (k + i))) from
                ⟨hb.cell ((h.cell (cell_lt y0)).trans y0) fun _ _ => (HM.out.weak.apartTop hkn).symm, hb.cell ((h.cell (cell_lt y1)).trans y1) fun _ _ => (HM.out.weak.apartTop hkn).symm⟩))
              have HG := Lib.hid hGk
              have hwb : B ≤ wr.heap.size := Nat.le_trans hB HW.out.size
              have e1 : ((h (k + i) k) != 0) = true := by rw [bne_iff_ne]; exact h0
              have HF := Lib.hid (show ∀ r j, (if r = k + i then Zx.setr k (Zx.rdc k (h (k + i)) (h k)) h k else if r = k then Zx.setr k (Zx.rdc k (h (k + i)) (h k)) h (k + i) else Zx.setr k (Zx.rdc k (h (k + i)) (h k)) h r) j = Zx.prs k (k + i) h r j from fun r j => by
                rw [Zx.setr_at, Zx.setr_ne (fun e => hne e.symm)]
                unfold Zx.prs
                by_cases r1 : r = k + i
                · rw [if_pos r1, if_pos r1]
                · rw [if_neg r1, if_neg r1]
                  by_cases r2 : r = k
                  · rw [if_pos r2, if_pos r2]
                  · rw [if_neg r2, if_neg r2, Zx.setr_ne r2])
              clear hst hpos hxl bnd cf hx0 hGk h0 hsz
              generalize h (k + i) k = x at y2 e1
              go_wp2_with fail
              go_region_held3 (fun w' => w'.cell? ⟨g, k, none⟩ = some (.slice (some ⟨G k, 0, none⟩) n (C k)) ∧ w'.cell? ⟨g, k + i, none⟩ = some (.slice (some ⟨G (k + i), 0, none⟩) n (C (k + i))))
                (first
                | exact SK.out _ (Kp.rfl' _)
                | exact SK.out _ kd
                | exact SK.out _ (kd.trans k1)
                | exact SB.out _ _ (kd.trans k1) hb2)
                ((first
                | (go_at_call 31; (with_reducible refine (RD.out).mono ?_); rintro e w1 ⟨P, R, rfl, hPR, c1, c2, k1⟩)
                | (go_at_call 44; (with_reducible refine (ST.out w1 P R k1 hPR c1 c2).mono ?_); rintro e w2 ⟨rfl, ho2, hb2⟩)))
              have kk := kd.trans k1
              have hz : B ≤ G k := HG.out.1
              have HW2 := Lib.hid (below_trans HW.out (below_trans (kk.mono hwb) (hb2.below hz (Nat.le_trans hwb kk.size))))
              have HM2 := Lib.hid ho2
              clear ho2 hb2 k1 c1 c2 hPR kk kd y0 y1 y2 SK SB
              have z1 := HM2.out.weak.head hki
              have z2 := HM2.out.weak.head hkn
              have z3 := HM2.out.weak.topFree (k + i)
              have z4 := HM2.out.weak.topFree k
              have z5 : (w2.setCell ⟨g, k, none⟩ (.slice (some ⟨G (k + i), 0, none⟩) n (C (k + i)))).cell? ⟨g, k + i, none⟩ = some (.slice (some ⟨G (k + i), 0, none⟩) n (C (k + i))) := by
                have hne' : (⟨g, k, none⟩ : Addr) ≠ ⟨g, k + i, none⟩ := fun e' => hne (by injection e')
                rw [World.cell?_setCell_other (w := w2) (v := .slice (some ⟨G (k + i), 0, none⟩) n (C (k + i))) (h := hne')]; exact z1
              have z6 : (w2.setCell ⟨g, k, none⟩ (.slice (some ⟨G (k + i), 0, none⟩) n (C (k + i)))).frozen? ⟨g, k + i, none⟩ = false := (HM2.out.weak.set hkn (HM2.out.weak.row _ hki)).topFree (k + i)
              obtain ⟨G', hG'⟩ : ∃ G' : Nat → Nat, G' = fun r => if r = k + i then G k else if r = k then G (k + i) else G r := ⟨_, rfl⟩
              obtain ⟨C', hC'⟩ : ∃ C' : Nat → Nat, C' = fun r => if r = k + i then C k else if r = k then C (k + i) else C r := ⟨_, rfl⟩
              have SW := HM2.out.swap hkn hki
              rw [← hG', ← hC'] at SW
              have SW := Lib.hid (SW.ext (f' := Zx.prs k (k + i) h) fun r j _ _ => HF.out r j)
              have HW3 := Lib.hid (below_drewN' (Below.setCell (Below.setCell HW2.out (p := ⟨g, k, none⟩) hBg (.slice (some ⟨G (k + i), 0, none⟩) n (C (k + i)))) (p := ⟨g, k + i, none⟩) hBg (.slice (some ⟨G k, 0, none⟩) n (C k))) 1)
              have HQ2 := Lib.hid (show (Zx.prs k (k + i) h (k + i) k).toNat < (h (k + i) k).toNat by
                have a1 := HX.out.1.ni
                have a2 := HX.out.2.1
                omega)
              clear hG' hC' HF hne
              go_wp2_with fail
              go_region_law (fail)
              all_goals
                go_wp2_with fail
                go_roundg (Zx.prs k (k + i) h (k + i) k).toNat
                case measure => rw [← HQ.out]; exact HQ2.out
                case rel => exact ⟨G', C', Zx.prs k (k + i) h, SW.out.kp ((Kp.rfl' _).drewN 1), HX.out.1, HW3.out, rfl⟩
        · obtain rfl : i = p := by omega
          have HS2 := Lib.hid (show Zx.Gat n k n (Zx.lbd k) f0 f by rw [HP.out] at HS; exact HS.out)
          clear hlt
          go_wp2_with fail
          go_end0
          exact ⟨G, C, f, rfl, HM.out, HS2.out, HW.out⟩
end Go.Proofs.YtmimbioffnolaaaDoor

/- slices.Clone of a row of numbers, for all packages. -/
namespace Go.Proofs.YtmimbioffnolaaaDoor
open Go.ChangeShapes Go.WideShapes Go.ChangeAt Go.RowKit
set_option linter.unusedVariables false

theorem sclone_any (A : Option Addr) (l : List Int) (c : Nat) (w : World) (hl : Lies w A l) (hn : l.length ≤ 1000000) :
    Calls Tryd.prog 29 #[.slice A l.length c] w fun e w' => SomeRow l w e w' := by
  have HL := Lib.hid hl
  have q22 : ∀ (w : World) (a : Option Addr) (n c n' c' : Nat), (binOp .eql 24 (.slice a n c) (.slice none n' c')).run Tryd.prog w = .ok (.bool a.isNone) w := fun w a n c n' c' => Lib.run_eql_slice_nil w _ _ a n c n' c' Tryd.underlying24
  rcases A with _ | ad
  · obtain rfl : l = [] := by
      rcases Nat.eq_zero_or_pos l.length with h0 | h0
      · exact List.eq_nil_of_length_eq_zero h0
      · obtain ⟨ad, h, _⟩ := hl 0 h0; cases h
    clear hl
    go_enter Tryd.func29, Tryd.ntmps29
    go_wp2_with fail
    go_ret
    exact ⟨_, rfl, Own.none _ _, Kp.rfl' _⟩
  · clear hl
    have hm : Own (w.alloc (.cells #[] 3)) w.heap.size (.slice (some ⟨w.heap.size, 0, none⟩) 0 0) [] := World.ownsRow_made w #[] 0 (Nat.le_refl _) (Nat.zero_le _) rfl
    have HM := Lib.hid hm
    have HK := Lib.hid ((Kp.rfl' w).new (.cells #[] 3))
    clear hm
    go_enter Tryd.func29, Tryd.ntmps29
    go_wp2_with (at_builtin; refine wpList_cat rfl _ _ rfl w.heap.size _ [] l (some ad) l.length c rfl rfl rfl HM.out (HL.out.keep HK.out) (by simp; omega) (by simp) ?_; intro v' w' h1 h2 _)
    have HO := Lib.hid h1
    have HK' := Lib.hid (own_below HM.out HK.out (by simp) h2)
    clear h1 h2
    go_wp2_with fail
    go_ret
    exact ⟨v', rfl, HO.out, HK'.out⟩

end Go.Proofs.YtmimbioffnolaaaDoor

/- Contracts of package hermite, fourth part: the form of a matrix. -/
namespace Go.Proofs.YtmimbioffnolaaaDoor
open Go.ChangeShapes Go.WideShapes Go.ChangeAt Go.RowKit
set_option linter.unusedVariables false

/-- A square matrix of up to three rows of numbers from -20 to 20. -/
structure Shh (n : Nat) (x : Nat → Nat → Int) (m : List (List Int)) : Prop where
  eq : m = Mx.tab n n x
  n0 : 0 < n
  n3 : n ≤ 3
  ab : ∀ i j, i < n → j < n → -20 ≤ x i j ∧ x i j ≤ 20
theorem Shh.len {n : Nat} {x : Nat → Nat → Int} {m : List (List Int)} (h : Shh n x m) : m.length = n := by rw [h.eq, Mx.len_tab]
theorem shh_or (m : List (List Int)) {n : Nat} (hn : m.length = n) : (∃ x, Shh n x m) ∨ qcode 3 (-20) 20 m ≠ 0 := by
  by_cases h : qcode 3 (-20) 20 m = 0
  · left
    have hm : Mx.mcode 3 (-20) 20 m = 0 ∧ m.length = (m.getD 0 []).length := by
      unfold qcode at h
      by_cases h0 : Mx.mcode 3 (-20) 20 m = 0 ∧ m.length ≠ (m.getD 0 []).length
      · rw [if_pos h0] at h; cases h
      · rw [if_neg h0] at h
        exact ⟨h, Classical.byContradiction fun e => h0 ⟨h, e⟩⟩
    obtain ⟨h1, h2⟩ := hm
    unfold Mx.mcode at h1
    by_cases c1 : m.length = 0 ∨ (m.getD 0 []).length = 0
    · rw [if_pos c1] at h1; cases h1
    rw [if_neg c1] at h1
    by_cases c2 : 3 < m.length ∨ 3 < (m.getD 0 []).length
    · rw [if_pos c2] at h1; cases h1
    rw [if_neg c2] at h1
    have hr := Mx.rows_zero h1
    have hl : ∀ i, i < m.length → (m.getD i []).length = n := fun i hi => by rw [(Mx.rcode_zero (hr i hi)).1, ← h2, hn]
    refine ⟨fun i j => (m.getD i []).getD j 0, ⟨?_, by omega, by omega, fun i j hi hj => ?_⟩⟩
    · have := Mx.is_tab hl
      rw [hn] at this
      exact this
    · exact (Mx.rcode_zero (hr i (by omega))).2 j (by rw [hl i (by omega)]; exact hj)
  · exact .inr h
theorem Shh.code {n : Nat} {x : Nat → Nat → Int} {m : List (List Int)} (h : Shh n x m) : qcode 3 (-20) 20 m = 0 := by
  obtain ⟨rfl, h0, h5, hab⟩ := h
  have e0 : ((Mx.tab n n x).getD 0 []).length = n := Mx.tab_len n n x 0 h0
  have hm : Mx.mcode 3 (-20) 20 (Mx.tab n n x) = 0 := by
    unfold Mx.mcode
    rw [Mx.len_tab, e0, if_neg (by omega), if_neg (by omega)]
    refine Mx.rows_ok fun i hi => ?_
    rw [Mx.len_tab] at hi
    refine Mx.rcode_ok (Mx.tab_len n n x i hi) fun k hk => ?_
    rw [Mx.tab_len n n x i hi] at hk
    rw [Mx.tab_el n n x i k hi hk]
    exact hab i k hi hk
  unfold qcode
  rw [if_neg (fun h => h.2 (by rw [Mx.len_tab, e0])), hm]
theorem Shh.small {n : Nat} {x : Nat → Nat → Int} {m : List (List Int)} (h : Shh n x m) : ∀ i j, i < n → j < n → Zx.ab (x i j) ≤ 20 := fun i j hi hj => by
  have := h.ab i j hi hj
  unfold Zx.ab; omega

theorem ownM_slice {w : World} {B : Nat} {v : Value} {G C : Nat → Nat} {m : List (List Int)} {k : Nat} (h : OwnM w B v G C m) (hk : m.length = k) (h0 : 0 < k) : ∃ g cap, v = .slice (some ⟨g, 0, none⟩) k cap ∧ k ≤ cap := by
  rcases h.top.2 with ⟨_, e⟩ | ⟨g, cap, cur, rfl, _, _, hnc, _⟩
  · omega
  · exact ⟨g, cap, by rw [hk], by omega⟩
/-- The form of a matrix, or that it has no determinant. -/
def FormIs (n : Nat) (x : Nat → Nat → Int) (w : World) (e : Ending) (w' : World) : Prop :=
  (Zx.dt n x = 0 ∧ e = .returned (.tuple #[.slice none 0 0, .iface 45 (.int .i64 6)]) ∧ Kp w w') ∨
  (∃ g cap G C a, Zx.Hnf n a ∧ Zx.Eql n a x ∧ e = .returned (.tuple #[.slice (some ⟨g, 0, none⟩) n cap, .nilIface]) ∧ OwnM w' w.heap.size (.slice (some ⟨g, 0, none⟩) n cap) G C (Mx.tab n n a) ∧ n ≤ cap ∧ Kp w w')
theorem Form_bad (A : Option Addr) (m : List (List Int)) (n d : Nat) (w : World) (ha : LiesM w A m) (hn : m.length = n) (h : qcode 3 (-20) 20 m ≠ 0) :
    Calls Tryd.prog 21 #[.slice A n d] w fun e w' => e = .returned (.tuple #[.slice none 0 0, errOf (qcode 3 (-20) 20 m)]) ∧ Kp w w' := by
  have C := Lib.hid (HChk_any A m n d w ha hn)
  rw [errOf_ne _ h] at C ⊢
  generalize qcode 3 (-20) 20 m = z at *
  clear ha hn h
  go_enter Tryd.func21, Tryd.ntmps21
  go_wp2_with fail
  refine (C.out).mono ?_; rintro e w' ⟨rfl, hk⟩
  have HK := Lib.hid hk
  clear hk
  go_wp2_with fail
  go_ret2
  exact ⟨rfl, HK.out⟩

set_option maxRecDepth 100000 in
set_option maxHeartbeats 6400000 in
theorem Form_main (A : Option Addr) (m : List (List Int)) (x : Nat → Nat → Int) (n d : Nat) (w : World) (s : Shh n x m) (ha : LiesM w A m) :
    Calls Tryd.prog 21 #[.slice A n d] w fun e w' => FormIs n x w e w' := by
  have ck0 := HChk_any A m n d w ha s.len
  rw [s.code, errOf_zero] at ck0
  have CK := Lib.hid ck0
  rw [s.eq] at ha
  have HA := Lib.hid ha
  have F0 := Lib.hid (Zx.Fm.start s.small)
  have hn0 : 0 < n := s.n0
  have hn3 : n ≤ 3 := s.n3
  clear ha s ck0
  go_enter Tryd.func21, Tryd.ntmps21
  go_wp2_with fail
  refine (CK.out).mono ?_; rintro e w1 ⟨rfl, hk1⟩
  have HK1 := Lib.hid hk1
  clear hk1
  go_wp2_with fail
  go_loopw [5, 7, 19] (fun v _ i wr => ∃ (k : Nat) (G C : Nat → Nat), k ≤ n ∧ i = .int .i64 (k : Int) ∧ OwnM wr w.heap.size v G C (Mx.tab k n x) ∧ Kp w wr) (fun _ _ i _ => n - (intOf i).toNat)
  case atStart => exact ⟨0, fun _ => 0, fun _ => 0, Nat.zero_le _, rfl, ownM_none _ _ _ _, HK1.out⟩
  case round =>
    obtain ⟨k, G, C, hk, rfl, ho, hkp⟩ := hrel
    have HO := Lib.hid ho
    have HK := Lib.hid hkp
    by_cases hlt : k < n
    · obtain ⟨ad, A1, d1, rfl, _, x1, _, l1⟩ := (HA.out.keep hkp).row hlt
      clear ho hkp
      have cl0 := sclone_any A1 (Mx.row n fun j => x k j) d1 wr l1 (by rw [Mx.len_row]; omega)
      rw [Mx.len_row] at cl0
      have CL := Lib.hid cl0
      clear l1 cl0
      have HS := Lib.hid (show Mx.tab (k + 1) n x = Mx.tab k n x ++ [Mx.row n fun j => x k j] by exact Mx.tab_snoc k n x)
      go_wp2_with fail
      refine (CL.out).mono ?_; rintro e w2 ⟨v1, rfl, h1, kp2⟩
      obtain ⟨g, gc, rfl, hg, hgc⟩ := own_some h1 (by rw [Mx.len_row]; exact hn0)
      rw [Mx.len_row] at h1 hgc ⊢
      have HU := Lib.hid h1
      have HQ := Lib.hid kp2
      have OM := Lib.hid (HO.out.kp kp2)
      have HAP := Lib.hid (show ∀ i, i < (Mx.tab k n x).length → G i ≠ g from fun i hi => by have := (HO.out.lt hi).2; omega)
      clear h1 kp2
      go_wp2_with (at_builtin; refine wpList_pushM rfl _ _ rfl w.heap.size _ G C (Mx.tab k n x) _ g n gc _ 1 (Mx.len_row _ _) rfl rfl (OM.out.new _) (cell_made _ _ _ _ 0 rfl) ((HU.out.from HK.out.size).new _) HAP.out (by rw [Mx.len_tab]; omega) (Nat.le_trans HK.out.size (Nat.le_trans HQ.out.size ((Kp.rfl' _).new _).size)) ?_; intro v' w' G' C' ho' hk')
      have HO' := Lib.hid ho'
      have HK' := Lib.hid (hk' w (Nat.le_refl _) ((HK.out.trans HQ.out).new _))
      clear ho' hk'
      go_wp2_with fail
      go_roundw
      case rel => exact ⟨k + 1, G', C', by omega, by go_num, by rw [HS.out]; exact HO'.out, HK'.out⟩
      case measure => simp [intOf]; omega
    · obtain rfl : n = k := by omega
      obtain ⟨g, cap, rfl, hnc⟩ := ownM_slice ho (Mx.len_tab _ _ _) hn0
      have HKP := Lib.hid hkp
      have hws : w.heap.size ≤ wr.heap.size := hkp.size
      clear ho hkp hk hlt HK1 HK CK HA
      go_wp2_with fail
      go_loopw [2, 3, 8, 9, 11, 31] (fun _ _ _ _ _ i wq => ∃ (k : Nat) (G C : Nat → Nat) (f : Nat → Nat → Int), k ≤ n ∧ i = .int .i64 (k : Int) ∧ OwnM wq w.heap.size (.slice (some ⟨g, 0, none⟩) n cap) G C (Mx.tab n n f) ∧ Zx.Fm n k x f ∧ Kp w wq) (fun _ _ _ _ _ i _ => n - (intOf i).toNat)
      case atStart => exact ⟨0, G, C, x, Nat.zero_le _, rfl, HO.out, F0.out, HKP.out⟩
      case round =>
        clear HO HKP hws F0
        obtain ⟨k, G, C, f, hk, rfl, ho, hf, hkp⟩ := hrel
        have HM := Lib.hid ho
        have HF := Lib.hid hf
        have HK := Lib.hid hkp
        clear ho hf hkp
        by_cases hlt : k < n
        · have hck : ¬ cap = k := by omega
          have hkc : k ≤ cap := by omega
          have GA := Lib.hid (gather_any (B := w.heap.size) (g := g) (cap := cap) (n := n) (k := k) (p := n - k) (G := G) (C := C) (f0 := f) wr (by omega) (by omega) hn3 HK.out.size HM.out (fun r j h1 h2 h3 => HF.out.low r j h2 h3 (by omega)) (fun r j h1 h2 h3 => HF.out.bl r j h1 h2 h3) (cap - k))
          go_wp2_with fail
          refine (GA.out).mono ?_; rintro e w2 ⟨G1, C1, f1, rfl, ho2, hg2, hb2⟩
          have HM2 := Lib.hid ho2
          have HG2 := Lib.hid hg2
          have HK2 := Lib.hid (show Kp w w2 from below_trans HK.out hb2)
          clear ho2 hg2 hb2 GA HM HK
          have y0 := HM2.out.weak.head hlt
          have y1 := HM2.out.weak.el hlt hlt
          by_cases h0 : f1 k k = 0
          · have Z := Lib.hid (show Zx.dt n x = 0 from HF.out.none hlt HG2.out h0)
            rw [h0] at y1
            clear h0
            go_wp2_with fail
            go_ret2
            exact .inl ⟨Z.out, rfl, HK2.out⟩
          · have MID := Lib.hid (HF.out.mid hn3 hlt HG2.out h0)
            have NX := Lib.hid (HF.out.next hn3 hlt HG2.out h0)
            have e1 : (f1 k k == 0) = false := by rw [beq_eq_false_iff_ne]; exact h0
            have RD := Lib.hid (reduc_any (some ⟨G1 k, 0, none⟩) n (C1 k) k w2)
            have BK := Lib.hid (show f1 k k ≤ 1000000000000000 by
              have a1 := HG2.out.cl k (Nat.le_refl k) hlt
              have a2 := Zx.lbd_le k
              omega)
            clear h0
            generalize hx : f1 k k = xk at y1 e1
            clear hx
            go_wp2_with fail
            refine (RD.out).mono ?_; rintro e w3 ⟨P, R, rfl, hPR, c1, c2, k1⟩
            have HPR := Lib.hid hPR
            have C1' := Lib.hid c1
            have C2' := Lib.hid c2
            have HM3 := Lib.hid (HM2.out.kp k1)
            have HGL := Lib.hid (show ∀ i, i < n → w.heap.size ≤ G1 i ∧ G1 i < w2.heap.size from fun i hi => HM2.out.weak.lt hi)
            have HK3 := Lib.hid (show Kp w w3 from HK2.out.trans k1)
            clear hPR c1 c2 k1 y0 y1 RD
            go_wp2_with fail
            go_loopw [11, 58] (fun _ i wq => ∃ t : Nat, t ≤ k ∧ i = .int .i64 (t : Int) ∧ OwnM wq w.heap.size (.slice (some ⟨g, 0, none⟩) n cap) G1 C1 (Mx.tab n n (Zx.upr k t f1)) ∧ Only G1 n w3 wq) (fun _ i _ => k - (intOf i).toNat)
            case atStart => exact ⟨0, Nat.zero_le _, rfl, HM3.out.ext (fun i j _ _ => by unfold Zx.upr; rw [if_neg (Nat.not_lt_zero i)]), Only.refl _ _ _⟩
            case round =>
              obtain ⟨t, ht, rfl, ho, hon⟩ := hrel
              have HM4 := Lib.hid ho
              have HN := Lib.hid hon
              clear ho hon
              by_cases hlt2 : t < k
              · have htn : t < n := by omega
                have ek : Zx.upr k t f1 k = f1 k := if_neg (by omega)
                have et : Zx.upr k t f1 t = f1 t := if_neg (Nat.lt_irrefl t)
                have RM := red_mat (B := w.heap.size) (g := g) (cap := cap) (n := n) (G := G1) (C := C1) (f := Zx.upr k t f1) (a := t) (i := k) (k := k) (P := P) (R := R) wr HM4.out htn hlt (by omega) hlt hn3
                  (HN.out.cell C1'.out fun i hi e => by
                    have a := HGL.out i hi
                    have b := HPR.out.1
                    have c : P = G1 i := e
                    omega)
                  (HN.out.cell C2'.out fun i hi e => by
                    have a := HGL.out i hi
                    have b := HPR.out.2
                    have c : R = G1 i := e
                    omega)
                  (fun e => by have a := HGL.out t htn; have b := HPR.out.1; omega) (fun e => by have a := HGL.out t htn; have b := HPR.out.2; omega)
                  (by rw [ek]; exact MID.out.2) (by rw [ek]; exact BK.out) (fun j hj => by
                    rw [ek, et]
                    have a := MID.out.1 t hlt2 j hj
                    omega)
                have RM := Lib.hid RM
                have UP := Lib.hid (Zx.upr_step hlt2 f1)
                have y3 := HM4.out.weak.head htn
                have htc : t < n := htn
                clear ek et
                go_wp2_with fail
                refine (RM.out).mono ?_; rintro e w4 ⟨rfl, ho4, hb4⟩
                have HM5 := Lib.hid (ho4.ext fun i j _ _ => UP.out i j)
                have HN5 := Lib.hid (HN.out.trans (hb4.wide htn rfl))
                clear ho4 hb4
                go_wp2_with fail
                go_roundw
                case rel => exact ⟨t + 1, by omega, by go_num, HM5.out, HN5.out⟩
                case measure => simp [intOf]; omega
              · obtain rfl : t = k := by omega
                have HK5 := Lib.hid (show Kp w wr from HN.out.below HK3.out HK3.out.size fun i hi => (HGL.out i hi).1)
                clear ht hlt2
                go_wp2_with fail
                go_roundw
                case rel => exact ⟨t + 1, G1, C1, _, by omega, by go_num, HM4.out, NX.out, HK5.out⟩
                case measure => simp [intOf]; omega
        · obtain rfl : n = k := by omega
          go_wp2_with fail
          go_ret2
          exact .inr ⟨g, cap, G, C, f, HF.out.hnf, HF.out.eql, rfl, HM.out, hnc, HK.out⟩
end Go.Proofs.YtmimbioffnolaaaDoor

/- Comparing rows and matrices, small matrices just laid down: for all packages. -/
namespace Go.Proofs.YtmimbioffnolaaaDoor
open Go.ChangeShapes Go.WideShapes Go.ChangeAt Go.RowKit
set_option linter.unusedVariables false

set_option maxHeartbeats 1600000 in
theorem ints_drew (A B : Option Addr) (l m : List Int) (c d : Nat) (w : World) (ha : Lies w A l) (hb : Lies w B m) (hn : l.length ≤ 1000000) (hm : m.length ≤ 1000000) :
    Calls Tryd.prog 10 #[.slice A l.length c, .slice B m.length d] w fun e w' => Tells (l = m) e ∧ Drew w w' := by
  have HA := Lib.hid ha
  have HB := Lib.hid hb
  obtain ⟨n, hn'⟩ : ∃ n, n = l.length := ⟨_, rfl⟩
  obtain ⟨q, hq'⟩ : ∃ q, q = m.length := ⟨_, rfl⟩
  rw [← hn'] at hn ⊢
  rw [← hq'] at hm ⊢
  have HN := Lib.hid hn'
  have HQ := Lib.hid hq'
  clear ha hb hn' hq'
  by_cases he : n = q
  · subst he
    have hne : ((n : Int) != (n : Int)) = false := by simp
    go_enter Tryd.func10, Tryd.ntmps10
    go_wp2_with fail
    go_loopw [5] (fun i wr => ∃ k : Nat, k ≤ n ∧ i = .int .i64 (k : Int) ∧ (∀ j, j < k → l.getD j 0 = m.getD j 0) ∧ Drew w wr) (fun i _ => n - (intOf i).toNat)
    case atStart => exact ⟨0, Nat.zero_le _, rfl, fun j hj => absurd hj (by omega), Drew.refl _⟩
    case round =>
      obtain ⟨k, hk, rfl, hg, hkp⟩ := hrel
      have HG := Lib.hid hg
      have HK := Lib.hid hkp
      clear hg hkp
      by_cases hlt : k < n
      · obtain ⟨ad, rfl, _, hc⟩ := (HA.out.keep HK.out.kp) k (by have := HN.out; omega)
        obtain ⟨bd, rfl, _, hd⟩ := (HB.out.keep HK.out.kp) k (by have := HQ.out; omega)
        obtain ⟨x, hx⟩ : ∃ x, x = l.getD k 0 := ⟨_, rfl⟩
        obtain ⟨y, hy⟩ : ∃ y, y = m.getD k 0 := ⟨_, rfl⟩
        rw [← hx] at hc
        rw [← hy] at hd
        by_cases hxy : x = y
        · have GG := Lib.hid (show ∀ j, j < k + 1 → l.getD j 0 = m.getD j 0 from fun j hj => by
            by_cases e : j = k
            · subst e; rw [← hx, ← hy]; exact hxy
            · exact HG.out j (by omega))
          have hb : (x != y) = false := by rw [hxy]; simp
          clear hx hy hxy
          go_wp2_with fail
          go_quiet (fail)
          go_wp2_with fail
          go_roundw
          case rel => exact ⟨k + 1, by omega, by go_num, GG.out, HK.out.more _⟩
          case measure => simp [intOf]; omega
        · have NF := Lib.hid (show ¬ l = m from fun e => hxy (by rw [hx, hy, e]))
          have hb : (x != y) = true := by rw [bne_iff_ne]; exact hxy
          clear hx hy hxy
          go_wp2_with fail
          go_quiet (fail)
          go_wp2_with fail
          go_ret
          exact ⟨.inr ⟨NF.out, rfl⟩, HK.out.more _⟩
      · have YES := Lib.hid (show l = m from list_same l m (by rw [← HN.out, ← HQ.out]) fun j hj => HG.out j (by have := HN.out; omega))
        go_wp2_with fail
        go_ret
        exact ⟨.inl ⟨YES.out, rfl⟩, HK.out⟩
  · have hne : ((n : Int) != (q : Int)) = true := by rw [bne_iff_ne]; omega
    have NF := Lib.hid (show ¬ l = m from fun e => he (by rw [HN.out, HQ.out, e]))
    clear he
    go_enter Tryd.func10, Tryd.ntmps10
    go_wp2_with fail
    go_ret
    exact ⟨.inr ⟨NF.out, rfl⟩, Drew.refl _⟩
theorem rows_same (a b : List (List Int)) (h : a.length = b.length) (h2 : ∀ k, k < a.length → a.getD k [] = b.getD k []) : a = b := by
  refine List.ext_getElem h fun k h3 h4 => ?_
  have := h2 k h3
  rwa [List.getD_eq_getElem?_getD, List.getD_eq_getElem?_getD, List.getElem?_eq_getElem h3, List.getElem?_eq_getElem h4] at this

/-- No row is longer than a slice may be. -/
def Modest (m : List (List Int)) : Prop := m.length ≤ 1000000 ∧ ∀ k, k < m.length → (m.getD k []).length ≤ 1000000
theorem modest_tab {r c : Nat} (g : Nat → Nat → Int) (hr : r ≤ 1000000) (hc : c ≤ 1000000) : Modest (Mx.tab r c g) :=
  ⟨by rw [Mx.len_tab]; exact hr, fun k hk => by rw [Mx.len_tab] at hk; rw [Mx.tab_len _ _ _ _ hk]; exact hc⟩
theorem modest_nil : Modest [] := ⟨by decide, fun k hk => absurd hk (by simp)⟩


theorem cell_just (w : World) (cs : Array Value) (e : TypeId) (g k : Nat) (h : g = w.heap.size) : (w.alloc (.cells cs e)).cell? ⟨g, k, none⟩ = cs[k]? := by
  subst h
  exact cell_of_row _ _ k _ e (0, 0) (heap_alloc_new w _)
/-- What came in: the rows up to the capacity, each with its numbers up to its own; its rows are the first of them. -/
theorem liesM_open {w : World} {a : Addr} {len cap : Nat} {A : Nat → Option Addr} {L C : Nat → Nat} {Z : Nat → List Int} (hl : len ≤ cap)
    (h : ∀ r, r < cap → w.cell? (a.add r) = some (.slice (A r) (L r) (C r)) ∧ L r ≤ C r ∧ C r ≤ maxLen ∧ (Z r).length = C r ∧ (∀ n ∈ Z r, (Lit.int .i64 n).wf = true) ∧ (A r = none → C r = 0) ∧
      ∀ a', A r = some a' → 0 ≤ a'.block ∧ ∀ c, c < C r → w.cell? (a'.add c) = some (.int .i64 ((Z r).getD c 0))) :
    ((List.range len).map fun r => (Z r).take (L r)).length = len ∧ LiesM w (some a) ((List.range len).map fun r => (Z r).take (L r)) := by
  refine ⟨by simp, fun k hk => ?_⟩
  have hk' : k < len := by simpa using hk
  obtain ⟨h1, h2, _, h4, _, h6, h7⟩ := h k (by omega)
  have e : ((List.range len).map fun r => (Z r).take (L r)).getD k [] = (Z k).take (L k) := by simp [hk']
  have el : ((Z k).take (L k)).length = L k := by rw [List.length_take]; omega
  rw [e, el]
  refine ⟨a, A k, C k, rfl, ?_, h1, h2, ?_⟩
  · have := cell_lt h1; rwa [block_add] at this
  · cases hA : A k with
    | none =>
      intro j hj
      have := h6 hA
      rw [el] at hj
      omega
    | some a' => exact (lies_take (w := w) (x := a') h2 h4 (fun i hi => (h7 a' hA).2 i (by omega))).2
/-- Two rows of two, and the heads of both, just laid down. -/
def laid22 (w : World) (x : Nat → Nat → Int) : World :=
  ((w.alloc (.cells #[.int .i64 (x 0 0), .int .i64 (x 0 1)] 3)).alloc (.cells #[.int .i64 (x 1 0), .int .i64 (x 1 1)] 3)).alloc (.cells #[.slice (some ⟨w.heap.size, 0, none⟩) 2 2, .slice (some ⟨w.heap.size + 1, 0, none⟩) 2 2] 24)
theorem laid22_kp (w : World) (x : Nat → Nat → Int) : Kp w (laid22 w x) := (((Kp.rfl' w).new _).new _).new _
theorem laid22_size (w : World) (x : Nat → Nat → Int) : (laid22 w x).heap.size = w.heap.size + 3 := by simp [laid22]
theorem laid22_lies (w : World) (x : Nat → Nat → Int) : LiesM (laid22 w x) (some ⟨w.heap.size + 2, 0, none⟩) (Mx.tab 2 2 x) := by
  have h0 : Lies (w.alloc (.cells #[.int .i64 (x 0 0), .int .i64 (x 0 1)] 3)) (some ⟨w.heap.size, 0, none⟩) (Mx.row 2 (x 0)) := lies_new' w _ [x 0 0, x 0 1] _ rfl
  have h1 : Lies ((w.alloc (.cells #[.int .i64 (x 0 0), .int .i64 (x 0 1)] 3)).alloc (.cells #[.int .i64 (x 1 0), .int .i64 (x 1 1)] 3)) (some ⟨w.heap.size + 1, 0, none⟩) (Mx.row 2 (x 1)) :=
    lies_new' (w.alloc _) _ [x 1 0, x 1 1] _ (by simp)
  have k2 := ((Kp.rfl' (w.alloc (.cells #[.int .i64 (x 0 0), .int .i64 (x 0 1)] 3))).new (.cells #[.int .i64 (x 1 0), .int .i64 (x 1 1)] 3)).new (.cells #[.slice (some ⟨w.heap.size, 0, none⟩) 2 2, .slice (some ⟨w.heap.size + 1, 0, none⟩) 2 2] 24)
  have k3 := (Kp.rfl' ((w.alloc (.cells #[.int .i64 (x 0 0), .int .i64 (x 0 1)] 3)).alloc (.cells #[.int .i64 (x 1 0), .int .i64 (x 1 1)] 3))).new (.cells #[.slice (some ⟨w.heap.size, 0, none⟩) 2 2, .slice (some ⟨w.heap.size + 1, 0, none⟩) 2 2] 24)
  have hs : w.heap.size + 2 < (laid22 w x).heap.size := by rw [laid22_size]; omega
  intro k hk
  rw [Mx.len_tab] at hk
  match k, hk with
  | 0, _ => exact ⟨_, some ⟨w.heap.size, 0, none⟩, 2, rfl, hs, by rw [add_at]; unfold laid22; rw [cell_just _ _ _ _ _ (by simp)]; simp [Mx.tab, Mx.row], by simp [Mx.tab, Mx.row], h0.keep k2⟩
  | 1, _ => exact ⟨_, some ⟨w.heap.size + 1, 0, none⟩, 2, rfl, hs, by rw [add_at]; unfold laid22; rw [cell_just _ _ _ _ _ (by simp)]; simp [Mx.tab, Mx.row], by simp [Mx.tab, Mx.row], h1.keep k3⟩

def n22 (a b c d : Int) : Nat → Nat → Int := fun i j => if i = 0 then (if j = 0 then a else b) else (if j = 0 then c else d)
/-- The same with the numbers and the block as they stand in a walk. -/
abbrev lit22 (w : World) (g : Nat) (a b c d : Int) : World :=
  ((w.alloc (.cells #[.int .i64 a, .int .i64 b] 3)).alloc (.cells #[.int .i64 c, .int .i64 d] 3)).alloc (.cells #[.slice (some ⟨g, 0, none⟩) 2 2, .slice (some ⟨g + 1, 0, none⟩) 2 2] 24)
theorem lit22_lies (w : World) (g : Nat) (a b c d : Int) (h : g = w.heap.size) : LiesM (lit22 w g a b c d) (some ⟨g + 1 + 1, 0, none⟩) (Mx.tab 2 2 (n22 a b c d)) := by
  subst h
  exact laid22_lies w (n22 a b c d)
theorem lit22_kp (w : World) (g : Nat) (a b c d : Int) : Kp w (lit22 w g a b c d) := (((Kp.rfl' w).new _).new _).new _
theorem lit22_size (w : World) (g : Nat) (a b c d : Int) : (lit22 w g a b c d).heap.size = w.heap.size + 1 + 1 + 1 := by simp [lit22]

end Go.Proofs.YtmimbioffnolaaaDoor

/- slices.Equal of rows of numbers and slices.EqualFunc of matrices with it. For all packages. -/
namespace Go.Proofs.YtmimbioffnolaaaDoor
open Go.ChangeShapes Go.WideShapes Go.ChangeAt Go.RowKit
set_option linter.unusedVariables false


end Go.Proofs.YtmimbioffnolaaaDoor

/- Contracts of package hermite, fifth part: what is wrong with rows, Check, Form, Same, Has. -/
namespace Go.Proofs.YtmimbioffnolaaaDoor
open Go.ChangeShapes Go.WideShapes Go.ChangeAt Go.RowKit
set_option linter.unusedVariables false

/-- What is wrong with rows of whole numbers. -/
def hcd (m : List (List Int)) : Nat := if qcode 3 (-20) 20 m ≠ 0 then qcode 3 (-20) 20 m else if Zx.dt m.length (fun i j => (m.getD i []).getD j 0) = 0 then 6 else 0
theorem hcd_le (m : List (List Int)) : hcd m ≤ 6 := by
  unfold hcd
  have := qcode_le 3 (-20) 20 m
  split
  · omega
  · split <;> omega
theorem Shh.hcd {n : Nat} {x : Nat → Nat → Int} {m : List (List Int)} (h : Shh n x m) : Go.Proofs.YtmimbioffnolaaaDoor.hcd m = if Zx.dt n x = 0 then 6 else 0 := by
  have c := h.code
  have e : Zx.dt m.length (fun i j => (m.getD i []).getD j 0) = Zx.dt n x := by
    rw [h.len, h.eq]
    exact Zx.dt_congr n fun i j hi hj => Mx.tab_el n n x i j hi hj
  unfold Go.Proofs.YtmimbioffnolaaaDoor.hcd
  rw [if_neg (fun h' => h' c), e]
/-- Rows that have a form. -/
structure Hm (n : Nat) (x : Nat → Nat → Int) (m : List (List Int)) : Prop where
  sh : Shh n x m
  ne : Zx.dt n x ≠ 0
theorem Hm.code {n : Nat} {x : Nat → Nat → Int} {m : List (List Int)} (h : Hm n x m) : hcd m = 0 := by rw [h.sh.hcd, if_neg h.ne]
theorem hm_or (m : List (List Int)) {n : Nat} (hn : m.length = n) : (∃ x, Hm n x m) ∨ hcd m ≠ 0 := by
  rcases shh_or m hn with ⟨x, s⟩ | h
  · by_cases d : Zx.dt n x = 0
    · right; rw [s.hcd, if_pos d]; decide
    · exact .inl ⟨x, s, d⟩
  · right
    unfold hcd
    rw [if_pos h]; exact h
theorem Form_no (A : Option Addr) (m : List (List Int)) (n d : Nat) (w : World) (ha : LiesM w A m) (hn : m.length = n) (h : hcd m ≠ 0) :
    Calls Tryd.prog 21 #[.slice A n d] w fun e w' => e = .returned (.tuple #[.slice none 0 0, errOf (hcd m)]) ∧ Kp w w' := by
  by_cases hq : qcode 3 (-20) 20 m = 0
  · rcases shh_or m hn with ⟨x, s⟩ | h'
    · have hd : Zx.dt n x = 0 := Classical.byContradiction fun e => h (by rw [s.hcd, if_neg e])
      rw [s.hcd, if_pos hd]
      exact (Form_main A m x n d w s ha).mono fun e w' hq => by
        rcases hq with ⟨_, h1, h2⟩ | ⟨g, cap, G, C, a, h1, h2, _⟩
        · exact ⟨h1, h2⟩
        · exact absurd hd (h1.ne h2)
    · exact absurd hq h'
  · rw [show hcd m = qcode 3 (-20) 20 m by unfold hcd; rw [if_pos hq]]
    exact Form_bad A m n d w ha hn hq
/-- The form of rows, in memory of the call's own. -/
def GotH (n : Nat) (x : Nat → Nat → Int) (w : World) (e : Ending) (w' : World) : Prop :=
  ∃ g cap G C a, Zx.Hnf n a ∧ Zx.Eql n a x ∧ (∀ i j, i < n → j < n → 0 ≤ a i j ∧ a i j ≤ 48000) ∧ e = .returned (.tuple #[.slice (some ⟨g, 0, none⟩) n cap, .nilIface]) ∧ OwnM w' w.heap.size (.slice (some ⟨g, 0, none⟩) n cap) G C (Mx.tab n n a) ∧ n ≤ cap ∧ Kp w w'
theorem Form_ok {n : Nat} {x : Nat → Nat → Int} {m : List (List Int)} (s : Hm n x m) (A : Option Addr) (d : Nat) (w : World) (ha : LiesM w A m) :
    Calls Tryd.prog 21 #[.slice A n d] w fun e w' => GotH n x w e w' :=
  (Form_main A m x n d w s.sh ha).mono fun e w' hq => by
    rcases hq with ⟨h1, _⟩ | ⟨g, cap, G, C, a, h1, h2, h3, h4, h5, h6⟩
    · exact absurd h1 s.ne
    · exact ⟨g, cap, G, C, a, h1, h2, fun i j hi hj => h1.le h2 (Zx.dt_twenty s.sh.n3 s.sh.small) hi hj, h3, h4, h5, h6⟩

theorem HCheck_any (A : Option Addr) (m : List (List Int)) (n d : Nat) (w : World) (ha : LiesM w A m) (hn : m.length = n) :
    Calls Tryd.prog 16 #[.slice A n d] w fun e w' => e = .returned (errOf (hcd m)) ∧ Kp w w' := by
  rcases hm_or m hn with ⟨x, s⟩ | h
  · rw [s.code, errOf_zero]
    have C := Lib.hid (Form_ok s A d w ha)
    clear ha hn s
    go_enter Tryd.func16, Tryd.ntmps16
    go_wp2_with fail
    refine (C.out).mono ?_; rintro e w' ⟨g, cap, G, C, a, _, _, _, rfl, _, _, hk⟩
    have HK := Lib.hid hk
    clear hk
    go_wp2_with fail
    go_ret
    exact ⟨rfl, HK.out⟩
  · have C := Lib.hid (Form_no A m n d w ha hn h)
    generalize errOf (hcd m) = z at *
    clear ha hn h
    go_enter Tryd.func16, Tryd.ntmps16
    go_wp2_with fail
    refine (C.out).mono ?_; rintro e w' ⟨rfl, hk⟩
    have HK := Lib.hid hk
    clear hk
    go_wp2_with fail
    go_ret
    exact ⟨rfl, HK.out⟩

theorem tab_eq {n : Nat} {a b : Nat → Nat → Int} : Mx.tab n n a = Mx.tab n n b ↔ Zx.Eqm n n a b := by
  constructor
  · intro h i j hi hj
    rw [← Mx.tab_el n n a i j hi hj, h, Mx.tab_el n n b i j hi hj]
  · exact fun h => Mx.tab_ext h
def GotSame (P : Prop) (w : World) (e : Ending) (w' : World) : Prop := ∃ b : Bool, (b = true ↔ P) ∧ e = .returned (.tuple #[.bool b, .nilIface]) ∧ Kp w w'
end Go.Proofs.YtmimbioffnolaaaDoor

/- Contracts of package euclid: Gcd and Bezout within and outside of their bounds. -/
namespace Go.Proofs.YtmimbioffnolaaaDoor
open Go.ChangeShapes Go.WideShapes Go.ChangeAt Go.RowKit
set_option linter.unusedVariables false

/-- The error that the program gives for a number out of its range. -/
abbrev errRange : Value := .iface 45 (.int .i64 1)

set_option maxHeartbeats 800000 in
theorem gcd_in (a b : Int) (w : World) (h1 : -1000000 ≤ a) (h2 : a ≤ 1000000) (h3 : -1000000 ≤ b) (h4 : b ≤ 1000000) :
    Calls Tryd.prog 22 #[.int .i64 a, .int .i64 b] w fun e w' => e = .returned (.tuple #[.int .i64 (Int.gcd a b : Int), .nilIface]) ∧ Drew w w' := by
  go_enter Tryd.func22, Tryd.ntmps22
  go_wp2_with (first
    | (go_at_call 32; refine (allowed_yes _ _ (by omega) (by omega)).mono ?_; rintro e w' ⟨rfl, rfl⟩)
    | (go_at_call 34; refine (size_any _ _ (by omega) (by omega)).mono ?_; rintro e w' ⟨rfl, rfl⟩)
    | (go_at_call 33; refine (divisor_any _ _ _ (by omega) (by omega)).mono ?_; rintro e w' ⟨rfl, hd⟩))
  go_ret2
  exact ⟨rfl, hd⟩

set_option maxHeartbeats 800000 in
theorem gcd_out (a b : Int) (w : World) (h : ¬ (-1000000 ≤ a ∧ a ≤ 1000000 ∧ -1000000 ≤ b ∧ b ≤ 1000000)) :
    Calls Tryd.prog 22 #[.int .i64 a, .int .i64 b] w fun e w' => e = .returned (.tuple #[.int .i64 0, errRange]) ∧ Drew w w' := by
  by_cases ha : -1000000 ≤ a ∧ a ≤ 1000000
  · have hb : b < -1000000 ∨ 1000000 < b := by omega
    have H := Lib.hid hb
    clear h hb
    go_enter Tryd.func22, Tryd.ntmps22
    go_wp2_with fail
    refine (allowed_yes _ _ (by omega) (by omega)).mono ?_; rintro e w' ⟨rfl, rfl⟩
    go_wp2_with fail
    refine (allowed_no _ _ H.out).mono ?_; rintro e w' ⟨rfl, rfl⟩
    go_wp2_with fail
    go_ret2
    exact ⟨rfl, Drew.refl _⟩
  · have hb : a < -1000000 ∨ 1000000 < a := by omega
    have H := Lib.hid hb
    clear h hb ha
    go_enter Tryd.func22, Tryd.ntmps22
    go_wp2_with fail
    refine (allowed_no _ _ H.out).mono ?_; rintro e w' ⟨rfl, rfl⟩
    go_wp2_with fail
    go_ret2
    exact ⟨rfl, Drew.refl _⟩

end Go.Proofs.YtmimbioffnolaaaDoor

/- Contracts of package smith, fourth part: divisor, Parts, Index. -/
namespace Go.Proofs.YtmimbioffnolaaaDoor
open Go.ChangeShapes Go.WideShapes Go.ChangeAt Go.RowKit Go.Shelf
set_option linter.unusedVariables false
attribute [local go_sem] Oper.semAt_some

theorem boxed_low {W W' : World} {B C : Nat} {t : TypeId} {v : Value} (h : Boxed W B t v) (k : Below C W W') (hB : B < C) : Boxed W' B t v := (k.block B hB).trans h
theorem boxed_keptT {T : Nat → Prop} {W W' : World} {B : Nat} {t : TypeId} {v : Value} (h : Boxed W B t v) (k : Kept T W W') (hB : ¬ T B) : Boxed W' B t v := (k.block B h.lt hB).trans h
theorem kept_setCell {T : Nat → Prop} (W : World) (p : Addr) (v : Value) (h : T p.block) : Kept T W (W.setCell p v) :=
  ⟨rfl, rfl, rfl, by simp [World.setCell], fun k hk ht => Below.heap_setCell W p v k fun e => ht (e ▸ h)⟩

set_option maxRecDepth 100000 in
set_option maxHeartbeats 3200000 in
/-- smith.divisor of the determinants: what divides them all. -/
theorem divisor_all (B0 B1 n dm many : Nat) (M : Option Addr) (f : Nat → Nat → Int) (hf : ∀ i j, i < n → j < n → (f i j).natAbs ≤ 20) (hn3 : n ≤ 3) (hm : many ≤ 3) (hm1 : 1 ≤ many)
    (wm : World) (hM : LiesM wm M (Mx.tab n n f)) (w : World) (km : Kp wm w) (c0 : w.cell? ⟨B0, 0, none⟩ = some (.slice M n dm)) (c1 : w.cell? ⟨B1, 0, none⟩ = some (.int .i64 (many : Int))) :
    Calls Tryd.prog 17 #[.func (.func 23) #[] #[.pointer (some ⟨B0, 0, none⟩), .pointer (some ⟨B1, 0, none⟩)]] w fun e w' =>
      e = .returned (.tuple #[.int .i64 (Zx.dvs n f many : Int), .nilIface]) ∧ Kp w w' := by
  have b0 : B0 < w.heap.size := cell_lt c0
  have b1 : B1 < w.heap.size := cell_lt c1
  refine callsIn_wide.1 (callsIn_of_wp_marks (F := Fence.wide) (n := 13) Tryd.func17 rfl trivial ?_ rfl)
  simp only [Tryd.ntmps17, List.size_toArray, List.length_cons, List.length_nil, Nat.reduceAdd, Nat.reduceSub, Array.replicate_succ, Array.replicate_zero, List.push_toArray, List.append_toArray, List.nil_append, List.cons_append]
  gi_wp2
  obtain ⟨w3, hw3⟩ : ∃ y, y = ((w.alloc (.cells #[.int .i64 0] 3)).alloc (.cells #[.nilIface] 28)).alloc (.cells #[.int .i64 0] 3) := ⟨_, rfl⟩
  rw [← hw3]
  have s3 : w3.heap.size = w.heap.size + 3 := by rw [hw3]; simp
  have k3 : Kp w w3 := by rw [hw3]; exact (((Kp.rfl' w).new _).new _).new _
  have r0 : Boxed w3 w.heap.size 3 (.int .i64 0) := by rw [hw3]; exact ((Boxed.new w _ _).alloc _).alloc _
  have r1 : Boxed w3 (w.heap.size + 1) 28 .nilIface := by
    rw [hw3]; have := (Boxed.new (w.alloc (.cells #[.int .i64 0] 3)) 28 .nilIface).alloc (.cells #[.int .i64 0] 3); rw [World.size_alloc] at this; exact this
  have r2 : Boxed w3 (w.heap.size + 1 + 1) 3 (.int .i64 0) := by
    rw [hw3]; have := Boxed.new ((w.alloc (.cells #[.int .i64 0] 3)).alloc (.cells #[.nilIface] 28)) 3 (.int .i64 0); rw [World.size_alloc, World.size_alloc] at this; exact this
  clear hw3
  have S3 := Lib.hid s3
  have km3 : Kp wm w3 := km.trans k3
  have wmw := km.size
  have MI := Lib.hid (minors_in B0 B1 n dm many M f hf hn3 hm hm1 (fun k => k = w.heap.size + 1 + 1 ∨ k = w3.heap.size + 1) (by omega) (by omega) wm hM (fun k h => by omega) w3 km3 ((k3.cell (p := ⟨B0, 0, none⟩) b0).trans c0) ((k3.cell (p := ⟨B1, 0, none⟩) b1).trans c1))
  have hI : ∀ (s : List Int) (A B : World), ((∀ y, y ∈ s → y.natAbs ≤ 216000) ∧ Boxed A (w.heap.size + 1 + 1) 3 (.int .i64 (Zx.gl s : Int)) ∧ Boxed A w.heap.size 3 (.int .i64 0) ∧ Boxed A (w.heap.size + 1) 28 .nilIface ∧ Kp w A) → Below w3.heap.size A B →
      ((∀ y, y ∈ s → y.natAbs ≤ 216000) ∧ Boxed B (w.heap.size + 1 + 1) 3 (.int .i64 (Zx.gl s : Int)) ∧ Boxed B w.heap.size 3 (.int .i64 0) ∧ Boxed B (w.heap.size + 1) 28 .nilIface ∧ Kp w B) := fun s A B h k =>
    ⟨h.1, boxed_low h.2.1 k (by omega), boxed_low h.2.2.1 k (by omega), boxed_low h.2.2.2.1 k (by omega), Below.trans h.2.2.2.2 (k.mono (by omega))⟩
  have s4 : w.heap.size + 1 + 1 < w3.heap.size := by omega
  clear s3 hf hM c0 c1 km km3 hn3 hm hm1
  refine wpIn_rangeLow (F := Fence.wide) (n := 13) rfl (by decide) (gf := 23) (lb := #[.pointer (some ⟨B0, 0, none⟩), .pointer (some ⟨B1, 0, none⟩)]) rfl trivial (enters_of Tryd.func23 (by kernel_rfl) rfl) (T0 := fun k => k = w.heap.size + 1 + 1)
    (fun k h => by omega)
    MI.out (fun _ => rfl)
    (fun (s : List Int) A => (∀ y, y ∈ s → y.natAbs ≤ 216000) ∧ Boxed A (w.heap.size + 1 + 1) 3 (.int .i64 (Zx.gl s : Int)) ∧ Boxed A w.heap.size 3 (.int .i64 0) ∧ Boxed A (w.heap.size + 1) 28 .nilIface ∧ Kp w A)
    hI
    ⟨fun y hy => (by cases hy), r2, r0, r1, k3⟩
    (fun x a' A => x.natAbs ≤ 216000 ∧ a' = { tmps := #[.func (.func 23) #[] #[.pointer (some ⟨B0, 0, none⟩), .pointer (some ⟨B1, 0, none⟩)], undef, .pointer (some ⟨w.heap.size, 0, none⟩), .pointer (some ⟨w.heap.size + 1, 0, none⟩), .pointer (some ⟨w.heap.size + 1 + 1, 0, none⟩),
      .int .i64 x, undef, undef, .func (.func 23) #[] #[.pointer (some ⟨B0, 0, none⟩), .pointer (some ⟨B1, 0, none⟩)], .int .i64 x, undef, undef, undef, undef, undef, undef, undef, undef, undef, undef, undef], defers := [] })
    (fun x a' A r o hr h => h)
    ?assign ?body ?done
  case assign =>
    rintro pre x A K hlt hi hx hK
    unfold miEnc
    gi_wp2
    exact hK _ _ (Kp.rfl' _) ⟨hx, rfl⟩
  case body =>
    rintro pre x a' A hlt ⟨r, hr⟩ ⟨hb, i2, i0, i1, hk⟩ ⟨hx, rfl⟩ _
    have ca := i2.cell
    have fa := i2.frozen
    have gb := Zx.gl_le hb
    have GC := Lib.hid (gcd_in (Zx.gl pre : Int) x A (by omega) (by omega) (by omega) (by omega))
    have SN := Lib.hid (show Int.gcd (Zx.gl pre : Int) x = Zx.gl (pre ++ [x]) from (Zx.gl_snoc pre x).symm)
    generalize Int.gcd (Zx.gl pre : Int) x = q at *
    have FIN := Lib.hid (fun (A2 : World) (k : Kp A A2) => (show A2.cell? ⟨w.heap.size + 1 + 1, 0, none⟩ = some (.int .i64 (Zx.gl pre : Int)) ∧ A2.frozen? ⟨w.heap.size + 1 + 1, 0, none⟩ = false ∧ ∀ B, B = A2.setCell ⟨w.heap.size + 1 + 1, 0, none⟩ (.int .i64 (q : Int)) →
      Kept (fun k => k = w.heap.size + 1 + 1) A B ∧ ((∀ y, y ∈ pre ++ [x] → y.natAbs ≤ 216000) ∧ Boxed B (w.heap.size + 1 + 1) 3 (.int .i64 (Zx.gl (pre ++ [x]) : Int)) ∧ Boxed B w.heap.size 3 (.int .i64 0) ∧ Boxed B (w.heap.size + 1) 28 .nilIface ∧ Kp w B) from by
        have j2 := boxed_low i2 k i2.lt
        refine ⟨j2.cell, j2.frozen, fun B hB => ?_⟩
        have ks := kept_setCell (T := fun k => k = w.heap.size + 1 + 1) A2 ⟨w.heap.size + 1 + 1, 0, none⟩ (.int .i64 (q : Int)) rfl
        rw [← hB] at ks
        refine ⟨(Kept.of k).trans ks, fun y hy => ?_, ?_, boxed_keptT (boxed_low i0 k i0.lt) ks (by omega), boxed_keptT (boxed_low i1 k i1.lt) ks (by omega), Below.trans (hk.trans k) (ks.below (fun i hi ht => by omega) (hk.trans k).size)⟩
        · rcases List.mem_append.1 hy with hy | hy
          · exact hb y hy
          · rw [List.mem_singleton.1 hy]; exact hx
        · rw [hB, ← SN.out]; exact j2.set _))
    clear hb i2 i0 i1 hk hx gb hr
    gi_wp2
    refine ⟨trivial, ?_⟩
    refine (CallsIn.inRound _ (callsIn_wide.2 GC.out)).mono ?_; rintro e A2 ⟨rfl, hd⟩
    obtain ⟨x1, x2, x3⟩ := FIN.out A2 hd.kp
    have X3 := Lib.hid x3
    clear hd ca fa x3
    gi_wp2
    exact X3.out _ rfl
  case done =>
    rintro xs A hlt rfl ⟨hb, i2, i0, i1, hk⟩ hD
    have ca := i2.cell
    have x0 := i0.cell
    have f0 := i0.frozen
    have x1 := i1.cell
    have f1 := i1.frozen
    have ne1 : w.heap.size ≠ w.heap.size + 1 := by omega
    have DV := Lib.hid (show Zx.gl (Zx.mns f (Zx.chn n many) (Zx.chn n many)) = Zx.dvs n f many from rfl)
    have II := Lib.hid (show Boxed A w.heap.size 3 (.int .i64 0) ∧ Boxed A (w.heap.size + 1) 28 .nilIface ∧ Kp w A from ⟨i0, i1, hk⟩)
    have HD := Lib.hid hD
    generalize Zx.gl (Zx.mns f (Zx.chn n many) (Zx.chn n many)) = g at *
    clear hb i2 i0 i1 hk hD
    gi_wp2
    obtain ⟨W', hW'⟩ : ∃ W', W' = ((A.setCell ⟨w.heap.size, 0, none⟩ (.int .i64 (g : Int))).setCell ⟨w.heap.size + 1, 0, none⟩ .nilIface) := ⟨_, rfl⟩
    rw [← hW']
    have j0 : Boxed W' w.heap.size 3 (.int .i64 (g : Int)) := by rw [hW']; exact (II.out.1.set _).other ne1 _
    have j1 : Boxed W' (w.heap.size + 1) 28 .nilIface := by rw [hW']; exact (II.out.2.1.other ne1.symm _).set _
    have kW : Kp w W' := by rw [hW']; exact (II.out.2.2.put (p := ⟨w.heap.size, 0, none⟩) (Nat.le_refl _) _).put (p := ⟨w.heap.size + 1, 0, none⟩) (Nat.le_succ _) _
    have hK : W'.heap[w3.heap.size]? = some (.deferred (some [])) := by
      rw [hW', Below.heap_setCell _ ⟨w.heap.size + 1, 0, none⟩ _ w3.heap.size (by show w3.heap.size ≠ w.heap.size + 1; omega), Below.heap_setCell _ ⟨w.heap.size, 0, none⟩ _ w3.heap.size (by show w3.heap.size ≠ w.heap.size; omega)]
      exact HD.out
    refine ⟨by simp, .inl ⟨_, _, rfl, run_takeDeferred hK, ?_⟩⟩
    have q0 := (boxed_low j0 (below_putObj (B := w3.heap.size) W' w3.heap.size (.deferred none) (Nat.le_refl _)) (by omega)).cell
    have q1 := (boxed_low j1 (below_putObj (B := w3.heap.size) W' w3.heap.size (.deferred none) (Nat.le_refl _)) (by omega)).cell
    refine ⟨.tuple #[.int .i64 (g : Int), .nilIface], by simp [results, Tryd.results17, go_sem, q0, q1], by rw [← DV.out], Below.trans kW (below_putObj W' _ _ (by omega))⟩
end Go.Proofs.YtmimbioffnolaaaDoor

/- Contracts of package smith, fifth part: Parts, Index. -/
namespace Go.Proofs.YtmimbioffnolaaaDoor
open Go.ChangeShapes Go.WideShapes Go.ChangeAt Go.RowKit Go.Shelf
set_option linter.unusedVariables false

theorem Parts_no (A : Option Addr) (m : List (List Int)) (n d : Nat) (w : World) (ha : LiesM w A m) (hn : m.length = n) (h : hcd m ≠ 0) :
    Calls Tryd.prog 8 #[.slice A n d] w fun e w' => e = .returned (.tuple #[.slice none 0 0, errOf (hcd m)]) ∧ Kp w w' := by
  have hc := HCheck_any A m n d w ha hn
  rw [errOf_ne _ h] at hc ⊢
  have C := Lib.hid hc
  clear ha hn h hc
  generalize hcd m = z at *
  go_enter Tryd.func8, Tryd.ntmps8
  go_wp2_with fail
  refine (C.out).mono ?_; rintro e w' ⟨rfl, hk⟩
  have HK := Lib.hid hk
  clear hk
  go_wp2_with fail
  go_ret2
  exact ⟨rfl, HK.out⟩
theorem Index_no (A : Option Addr) (m : List (List Int)) (n d : Nat) (w : World) (ha : LiesM w A m) (hn : m.length = n) (h : hcd m ≠ 0) :
    Calls Tryd.prog 11 #[.slice A n d] w fun e w' => e = .returned (.tuple #[.int .i64 0, errOf (hcd m)]) ∧ Kp w w' := by
  have hc := Parts_no A m n d w ha hn h
  rw [errOf_ne _ h] at hc ⊢
  have C := Lib.hid hc
  clear ha hn h hc
  generalize hcd m = z at *
  go_enter Tryd.func11, Tryd.ntmps11
  go_wp2_with fail
  refine (C.out).mono ?_; rintro e w' ⟨rfl, hk⟩
  have HK := Lib.hid hk
  clear hk
  go_wp2_with fail
  go_ret2
  exact ⟨rfl, HK.out⟩

/-- The parts, in memory of the call's own. -/
def GotP (n : Nat) (x : Nat → Nat → Int) (w : World) (e : Ending) (w' : World) : Prop :=
  ∃ g, e = .returned (.tuple #[.slice (some ⟨g, 0, none⟩) n n, .nilIface]) ∧ Row w' g (Zx.spp n x) ∧ w.heap.size ≤ g ∧ Kp w w'
theorem quo_nat (a b : Nat) (h : a ≤ 1000000000000000000) : wrap64 ((a : Int) / (b : Int)) = ((a / b : Nat) : Int) := by
  rw [← Int.natCast_ediv]
  have := Nat.div_le_self a b
  generalize a / b = q at *
  exact wrap64_id ⟨by omega, by omega⟩

set_option maxRecDepth 100000 in
set_option maxHeartbeats 3200000 in
theorem Parts_ok {n : Nat} {x : Nat → Nat → Int} {m : List (List Int)} (s : Hm n x m) (A : Option Addr) (d : Nat) (w : World) (ha : LiesM w A m) :
    Calls Tryd.prog 8 #[.slice A n d] w fun e w' => GotP n x w e w' := by
  have n0 := s.sh.n0
  have n3 := s.sh.n3
  have hf : ∀ i j, i < n → j < n → (x i j).natAbs ≤ 20 := fun i j hi hj => by have := s.sh.ab i j hi hj; omega
  have hc := HCheck_any A m n d w ha s.sh.len
  rw [s.code, errOf_zero] at hc
  have C := Lib.hid hc
  have HA := Lib.hid (show LiesM w A (Mx.tab n n x) by rw [← s.sh.eq]; exact ha)
  have DV := Lib.hid (fun (k : Nat) (hk : k < n) (w' : World) (kw : Kp w w') (B0 B1 : Nat) (c0 : w'.cell? ⟨B0, 0, none⟩ = some (.slice A n d)) (c1 : w'.cell? ⟨B1, 0, none⟩ = some (.int .i64 ((k + 1 : Nat) : Int))) =>
    divisor_all B0 B1 n d (k + 1) A x hf n3 (by omega) (by omega) w HA.out w' kw c0 c1)
  have PP := Lib.hid (fun k (hk : k ≤ n) => Zx.pv_pos n3 s.ne hk)
  have PL := Lib.hid (fun k (hk : k ≤ n) => Zx.pv_le hf n3 (show k ≤ 3 by omega))
  have PS := Lib.hid (fun k => Zx.pv_succ n x k)
  have SP := Lib.hid (Zx.pv_spp x n0 n3)
  clear hc ha s hf
  obtain ⟨i0, hi, hz0, hz1, hz2⟩ := info_parts int_info
  go_enter Tryd.func8, Tryd.ntmps8
  go_wp2_with fail
  refine (C.out).mono ?_; rintro e w' ⟨rfl, hk⟩
  have HK := Lib.hid hk
  have hsz := hk.size
  clear hk C
  go_wp2_with (at_make; refine wpList_make_full _ rfl _ _ 24 rfl w'.heap.size 3 i0 (.int .i64 0) 1 Tryd.underlying24 hi hz0 hz1 _ _ _ _ n rfl rfl rfl rfl (by rw [hz2]; omega) (by unfold maxLen; omega) (Nat.le_refl _) ?_; intro w1 hown hgrow)
  have R1 := Lib.hid (show Row w1 w'.heap.size (Mx.row n fun j => if j < 0 then ((Zx.pv n x (j + 1) / Zx.pv n x j : Nat) : Int) else 0) by
    rw [show (Mx.row n fun j => if j < 0 then ((Zx.pv n x (j + 1) / Zx.pv n x j : Nat) : Int) else 0) = List.replicate n 0 by
      rw [show (fun j => if j < 0 then ((Zx.pv n x (j + 1) / Zx.pv n x j : Nat) : Int) else 0) = fun _ => (0 : Int) from funext fun j => by rw [if_neg (by omega)]]
      unfold Mx.row; simp [List.map_const']]
    exact row_made hown)
  have K1 := Lib.hid ((show Kp w' w1 from (Kp.rfl' w').grown hgrow (by simp) (fun k hk => by cases hk)))
  have g0 := hsz
  obtain ⟨g, hg⟩ : ∃ g, g = w'.heap.size := ⟨_, rfl⟩
  rw [← hg] at R1 g0 ⊢
  have KW := Lib.hid (HK.out.trans K1.out)
  clear hown hgrow hi hz0 hz1 hz2 hg hsz K1 HK
  go_wp2_with fail
  go_loopw [6, 7, 8, 9, 20] (fun b _ _ _ i wr => ∃ k : Nat, k ≤ n ∧ i = .int .i64 (k : Int) ∧ b = .int .i64 (Zx.pv n x k : Int) ∧ Row wr g (Mx.row n fun j => if j < k then ((Zx.pv n x (j + 1) / Zx.pv n x j : Nat) : Int) else 0) ∧ Kp w wr) (fun _ _ _ _ i _ => n - (intOf i).toNat)
  case atStart => exact ⟨0, Nat.zero_le _, rfl, rfl, R1.out, KW.out⟩
  case round =>
    clear R1 KW
    obtain ⟨k, hk, rfl, rfl, hr, hkp⟩ := hrel
    have HR := Lib.hid hr
    have HK := Lib.hid hkp
    by_cases hlt : k < n
    · have NX := Lib.hid (fun (wz : World) (h : Row wz g (Mx.row n fun j => if j < k then ((Zx.pv n x (j + 1) / Zx.pv n x j : Nat) : Int) else 0)) => (show Row (wz.setCell ⟨g, k, none⟩ (.int .i64 ((Zx.pv n x (k + 1) / Zx.pv n x k : Nat) : Int))) g (Mx.row n fun j => if j < k + 1 then ((Zx.pv n x (j + 1) / Zx.pv n x j : Nat) : Int) else 0) from by
        have := h.put k ((Zx.pv n x (k + 1) / Zx.pv n x k : Nat) : Int)
        rw [Mx.row_set] at this
        rwa [show (Mx.row n fun j => if j < k + 1 then ((Zx.pv n x (j + 1) / Zx.pv n x j : Nat) : Int) else 0) = Mx.row n fun j => if j = k then ((Zx.pv n x (k + 1) / Zx.pv n x k : Nat) : Int) else if j < k then ((Zx.pv n x (j + 1) / Zx.pv n x j : Nat) : Int) else 0 from Mx.row_ext fun j _ => by
          by_cases e : j = k
          · subst e; rw [if_pos rfl, if_pos (by omega)]
          · rw [if_neg e]
            by_cases h : j < k
            · rw [if_pos h, if_pos (by omega)]
            · rw [if_neg h, if_neg (by omega)]]))
      have DK := Lib.hid (DV.out k hlt)
      have p0 := PP.out k hk
      have p1 := PL.out (k + 1) hlt
      have QN := quo_nat (Zx.pv n x (k + 1)) (Zx.pv n x k) (by omega)
      have pe := PS.out k
      rw [← pe] at DK
      have CELL := Lib.hid (fun (wz : World) (kz : Kp wr wz) => (show wz.cell? ⟨g, k, none⟩ = some (.int .i64 0) ∧ wz.frozen? ⟨g, k, none⟩ = false from by
        have h := HR.out.keep kz
        refine ⟨?_, h.free k⟩
        have := h.cell k (by rw [Mx.len_row]; exact hlt)
        rwa [Mx.row_at _ _ _ hlt, if_neg (by omega)] at this))
      obtain ⟨pr, hpr⟩ : ∃ pr, pr = Zx.pv n x (k + 1) := ⟨_, rfl⟩
      rw [← hpr] at NX DK p1 QN pe
      have HPR := Lib.hid hpr
      clear hpr
      generalize Zx.pv n x k = bf at *
      have q0 : ((bf : Int) == 0) = false := by rw [beq_eq_false_iff_ne]; omega
      have q1 : (bf : Int) ≠ 0 := by omega
      have hw1 : IntKind.i64.wrap ((k : Int) + 1) = ((k + 1 : Nat) : Int) := by rw [Int.natCast_add]; exact IntWalk.i64_in _ (by omega)
      clear hr hkp p0 p1 pe
      go_wp2_with fail
      refine (minors_any _ _ _ _ _).mono ?_; rintro e w2 ⟨rfl, hw2⟩
      have k2 : Kp wr w2 := by rw [hw2]; exact ((Kp.rfl' wr).new _).new _
      have v0 : w2.cell? ⟨wr.heap.size, 0, none⟩ = some (.slice A n d) := by
        rw [hw2]; exact (((Kp.rfl' _).new _).cell (p := ⟨wr.heap.size, 0, none⟩) (by simp)).trans ((cell_made wr _ _ wr.heap.size 0 rfl).trans rfl)
      have v1 : w2.cell? ⟨wr.heap.size + 1, 0, none⟩ = some (.int .i64 ((k + 1 : Nat) : Int)) := by
        rw [hw2]; exact (cell_made _ _ _ (wr.heap.size + 1) 0 (by simp)).trans rfl
      have D2 := Lib.hid (DK.out w2 (HK.out.trans k2) wr.heap.size (wr.heap.size + 1) v0 v1)
      have K2 := Lib.hid k2
      clear hw2 k2 v0 v1
      go_wp2_with fail
      refine (D2.out).mono ?_; rintro e w3 ⟨rfl, k3⟩
      have K3 := Lib.hid (K2.out.trans k3)
      obtain ⟨x1, x2⟩ := CELL.out w3 K3.out
      clear k3
      go_wp2_with fail
      go_roundw
      case rel => exact ⟨k + 1, by omega, by go_num, by rw [HPR.out], NX.out w3 (HR.out.keep K3.out), (HK.out.trans K3.out).put (p := ⟨g, k, none⟩) (by show w.heap.size ≤ g; exact g0) _⟩
      case measure => simp [intOf]; omega
    · obtain rfl : n = k := by omega
      have FR := Lib.hid (show Row wr g (Zx.spp n x) by
        rw [← SP.out, show (Mx.row n fun k => ((Zx.pv n x (k + 1) / Zx.pv n x k : Nat) : Int)) = Mx.row n fun j => if j < n then ((Zx.pv n x (j + 1) / Zx.pv n x j : Nat) : Int) else 0 from Mx.row_ext fun j hj => by rw [if_pos hj]]
        exact hr)
      clear hr hkp HR
      go_wp2_with fail
      go_ret2
      exact ⟨g, rfl, FR.out, g0, HK.out⟩
theorem prz_pos {g : Nat → Int} : ∀ {k : Nat}, (∀ i, i < k → 1 ≤ g i) → 1 ≤ Zx.pr k g
  | 0, _ => Int.le_refl _
  | k + 1, h => by
    have h1 := prz_pos fun i hi => h i (Nat.lt_succ_of_lt hi)
    have h2 := h k (Nat.lt_succ_self k)
    show 1 ≤ Zx.pr k g * g k
    have := Int.mul_le_mul h1 h2 (by omega) (by omega)
    omega
theorem prz_le {g : Nat → Int} {k : Nat} : ∀ (j : Nat), (∀ i, i < k + j → 1 ≤ g i) → Zx.pr k g ≤ Zx.pr (k + j) g
  | 0, _ => Int.le_refl _
  | j + 1, h => by
    have h1 := prz_le (k := k) j fun i hi => h i (by omega)
    have h0 := prz_pos (k := k + j) fun i hi => h i (by omega)
    have h2 := h (k + j) (by omega)
    refine Int.le_trans h1 ?_
    show Zx.pr (k + j) g ≤ Zx.pr (k + j) g * g (k + j)
    have := Int.mul_le_mul (Int.le_refl (Zx.pr (k + j) g)) h2 (by omega) (by omega)
    omega

set_option maxRecDepth 100000 in
set_option maxHeartbeats 1600000 in
theorem Index_ok {n : Nat} {x : Nat → Nat → Int} {m : List (List Int)} (s : Hm n x m) (A : Option Addr) (d : Nat) (w : World) (ha : LiesM w A m) :
    Calls Tryd.prog 11 #[.slice A n d] w fun e w' => e = .returned (.tuple #[.int .i64 ((Zx.dt n x).natAbs : Int), .nilIface]) ∧ Kp w w' := by
  have PT := Zx.spp_pts s.sh.n0 s.sh.n3 s.ne
  have n3 := s.sh.n3
  have C := Lib.hid (Parts_ok s A d w ha)
  have TW := Zx.dt_twenty s.sh.n3 s.sh.small
  obtain ⟨D, hD⟩ : ∃ D : Nat, D = (Zx.dt n x).natAbs := ⟨_, rfl⟩
  have PR := PT.prod
  rw [← hD] at PR ⊢
  have D5 : D ≤ 48000 := by rw [hD]; unfold Zx.ab at TW; omega
  have BD := Lib.hid (fun k (hk : k ≤ n) => (show 1 ≤ Zx.pr k (fun i => (Zx.spp n x).getD i 0) ∧ Zx.pr k (fun i => (Zx.spp n x).getD i 0) ≤ 48000 from by
    refine ⟨prz_pos fun i hi => PT.pos i (by omega), ?_⟩
    have := prz_le (g := fun i => (Zx.spp n x).getD i 0) (k := k) (n - k) fun i hi => PT.pos i (by omega)
    rw [show k + (n - k) = n by omega, PR] at this
    omega))
  have LN := Lib.hid PT.len
  have PRD := Lib.hid PR
  have STP := Lib.hid (fun k => (show Zx.pr (k + 1) (fun i => (Zx.spp n x).getD i 0) = Zx.pr k (fun i => (Zx.spp n x).getD i 0) * (Zx.spp n x).getD k 0 from rfl))
  obtain ⟨P, hP⟩ : ∃ P : Nat → Int, P = fun k => Zx.pr k (fun i => (Zx.spp n x).getD i 0) := ⟨_, rfl⟩
  have P0 := Lib.hid (show P 0 = 1 by rw [hP]; rfl)
  have BD' := Lib.hid (show ∀ k, k ≤ n → 1 ≤ P k ∧ P k ≤ 48000 by rw [hP]; exact BD.out)
  have STP' := Lib.hid (show ∀ k, P (k + 1) = P k * (Zx.spp n x).getD k 0 by rw [hP]; exact STP.out)
  have PRD' := Lib.hid (show P n = (D : Int) by rw [hP]; exact PRD.out)
  clear PT TW PR ha s hD D5 BD STP PRD hP
  go_enter Tryd.func11, Tryd.ntmps11
  go_wp2_with fail
  refine (C.out).mono ?_; rintro e w1 ⟨g, rfl, hr, hg, hk⟩
  have HR := Lib.hid hr
  have HK := Lib.hid hk
  clear hr hk C
  go_wp2_with fail
  go_loop [6, 8, 19] (fun v _ i => ∃ k : Nat, k ≤ n ∧ i = .int .i64 (k : Int) ∧ v = .int .i64 (P k)) (fun _ _ i => n - (intOf i).toNat)
  case atStart => exact ⟨0, Nat.zero_le _, rfl, by rw [P0.out]⟩
  case round =>
    obtain ⟨k, hk, rfl, rfl⟩ := hrel
    by_cases hlt : k < n
    · have x1 := HR.out.cell k (by rw [LN.out]; exact hlt)
      have b1 := BD'.out (k + 1) hlt
      have ST := Lib.hid (STP'.out k)
      rw [STP'.out k] at b1
      generalize (Zx.spp n x).getD k 0 = y at *
      have hw1 : IntKind.i64.wrap (P k * y) = P k * y := IntWalk.i64_in _ (by omega)
      clear b1
      go_wp2_with fail
      go_round
      case rel => exact ⟨k + 1, by omega, by go_num, by rw [ST.out]⟩
      case measure => simp [intOf]; omega
    · obtain rfl : n = k := by omega
      go_wp2_with fail
      go_ret2
      exact ⟨by rw [← PRD'.out]; rfl, HK.out⟩
end Go.Proofs.YtmimbioffnolaaaDoor

/- Contracts of the document's answer on matrices (package rankmereref1: Mod, Unit, Flip, Copy, MatMul, MatAdd, Matrix, Field). For all packages. -/
namespace Go.Proofs.YtmimbioffnolaaaDoor
open Go.ChangeShapes Go.WideShapes Go.ChangeAt Go.RowKit
set_option linter.unusedVariables false

theorem own_made {w : World} {base g n : Nat} (h : w.ownsRow base 3 1 (.slice (some ⟨g, 0, none⟩) n n) n (madeCells #[.int .i64 0] (n * 1)).toList) : Own w base (.slice (some ⟨g, 0, none⟩) n n) (Mx.row n fun _ => 0) := by
  unfold Own
  rw [Mx.len_row, ← Mx.row_rep]
  rw [toList_madeCells_one, Nat.mul_one] at h
  simpa [ints] using h
theorem rval (a : Fp.F) : 0 ≤ (a.val : Int) ∧ (a.val : Int) ≤ 9972 := by have := a.isLt; omega
theorem rprod (a b : Fp.F) : 0 ≤ (a.val : Int) * (b.val : Int) ∧ (a.val : Int) * (b.val : Int) ≤ 99440784 := by
  have h1 := rval a
  have h2 := rval b
  exact ⟨Int.mul_nonneg h1.1 h2.1, Int.mul_le_mul h1.2 h2.2 h2.1 (by decide)⟩
theorem rzero : ((0 : Fp.F).val : Int) = 0 := rfl


/-- A matrix that the call made. -/
def Made (r c : Nat) (f : Nat → Nat → Fp.F) (w : World) (e : Ending) (w' : World) : Prop := ∃ A d, e = .returned (.slice A r d) ∧ LiesM w' A (Mx.matl r c f) ∧ Kp w w'
/-- The same, to be written to. -/
def MadeOwn (r c : Nat) (f : Nat → Nat → Fp.F) (w : World) (e : Ending) (w' : World) : Prop := ∃ v G C, e = .returned v ∧ OwnM w' w.heap.size v G C (Mx.matl r c f) ∧ Kp w w'



end Go.Proofs.YtmimbioffnolaaaDoor

/- Contracts of the document's answer on matrices, second part: Copy, MatMul, MatAdd, Matrix, Field. For all packages. -/
namespace Go.Proofs.YtmimbioffnolaaaDoor
open Go.ChangeShapes Go.WideShapes Go.ChangeAt Go.RowKit
set_option linter.unusedVariables false

/-- Where the heads lie. -/
theorem OwnM.some {w : World} {B : Nat} {v : Value} {G C : Nat → Nat} {m : List (List Int)} (h : OwnM w B v G C m) (h0 : 0 < m.length) : ∃ g c, v = .slice (.some ⟨g, 0, .none⟩) m.length c ∧ B ≤ g := by
  rcases h.top.2 with ⟨_, h1⟩ | ⟨g, cap, cur, e, hg, _⟩
  · omega
  · exact ⟨g, cap, e, hg⟩




end Go.Proofs.YtmimbioffnolaaaDoor

/- Contracts of the document's answer on matrices of whole numbers: Copy, Without. For all packages. -/
namespace Go.Proofs.YtmimbioffnolaaaDoor
open Go.ChangeShapes Go.WideShapes Go.ChangeAt Go.RowKit
set_option linter.unusedVariables false


set_option maxRecDepth 100000 in
set_option maxHeartbeats 6400000 in
theorem rWithoutZ_any (A : Option Addr) (f : Nat → Nat → Int) (p a b d : Nat) (w : World) (ha : LiesM w A (Mx.tab (p + 1) (p + 1) f)) (hpa : a ≤ p) (hpb : b ≤ p) (hp : p ≤ 1000) :
    Calls Tryd.prog 15 #[.slice A ((p + 1 : Nat) : Int).toNat d, .int .i64 (a : Int), .int .i64 (b : Int)] w fun e w' => ∃ A d, e = .returned (.slice A p d) ∧ LiesM w' A (Mx.tab p p (Zx.wo f a b)) ∧ Kp w w' := by
  rw [Int.toNat_natCast]
  have HA := Lib.hid ha
  clear ha
  obtain ⟨n, hn⟩ : ∃ n, n = p + 1 := ⟨_, rfl⟩
  rw [← hn] at HA ⊢
  have HN := Lib.hid hn
  have hn1 : n ≤ 1001 := by omega
  clear hn
  go_enter Tryd.func15, Tryd.ntmps15
  go_wp2_with fail
  go_loopw [7, 8] (fun v i wr => ∃ (k : Nat) (G C : Nat → Nat), k ≤ n ∧ i = .int .i64 (k : Int) ∧ OwnM wr w.heap.size v G C (Mx.tab (ct a k) p (Zx.wo f a b)) ∧ Kp w wr) (fun _ i _ => n - (intOf i).toNat)
  case atStart => exact ⟨0, fun _ => 0, fun _ => 0, Nat.zero_le _, rfl, by rw [ct_zero]; exact ownM_none _ _ _ _, Kp.rfl' _⟩
  case round =>
    obtain ⟨k, G, C, hk, rfl, ho, hkp⟩ := hrel
    obtain ⟨wo', hwo⟩ : ∃ x, x = wr := ⟨_, rfl⟩
    subst hwo
    have HO := Lib.hid ho
    have HK := Lib.hid hkp
    clear ho hkp
    by_cases hlt : k < n
    · by_cases hka : k = a
      · subst hka
        have e1 : ((k : Int) == (k : Int)) = true := by simp
        have HC := Lib.hid (ct_skip k)
        go_wp2_with fail
        go_roundw
        case rel => exact ⟨k + 1, G, C, by omega, by go_num, by rw [HC.out]; exact HO.out, HK.out⟩
        case measure => simp [intOf]; omega
      · have e1 : ((k : Int) == (a : Int)) = false := by rw [beq_eq_false_iff_ne]; omega
        have hp0 : 0 < p := by have := HN.out; omega
        have HC := Lib.hid (ct_next hka)
        have HSK := Lib.hid (sk_ct hka)
        have HS := Lib.hid (show Mx.tab (ct a k + 1) p (Zx.wo f a b) = Mx.tab (ct a k) p (Zx.wo f a b) ++ [Mx.row p fun j => f k (Mx.sk b j)] by
          rw [Mx.tab_snoc]
          congr 2
          refine Mx.row_ext fun j _ => ?_
          show f (Mx.sk a (ct a k)) (Mx.sk b j) = _
          rw [HSK.out])
        have HCL := Lib.hid (show ct a k ≤ 2000 by have := ct_le (a := a) (p := p) (t := k) hpa (by have := HN.out; omega); omega)
        clear hka
        obtain ⟨ad, A1, d1, rfl, _, x1, _, l1⟩ := (HA.out.keep HK.out).row hlt
        have L1 := Lib.hid l1
        have X1 := Lib.hid x1
        clear l1 x1
        go_wp2_with fail
        go_loopw [9, 10] (fun u i wq => ∃ t : Nat, t ≤ n ∧ i = .int .i64 (t : Int) ∧ Own wq wo'.heap.size u (Mx.row (ct b t) fun j => f k (Mx.sk b j)) ∧ Kp wo' wq) (fun _ i _ => n - (intOf i).toNat)
        case atStart => exact ⟨0, Nat.zero_le _, rfl, by rw [ct_zero]; exact Own.none _ _, Kp.rfl' _⟩
        case round =>
          obtain ⟨t, ht, rfl, hu, hkq⟩ := hrel
          have HU := Lib.hid hu
          have HQ := Lib.hid hkq
          have x2 := (hkq.cell (p := ad.add k) (cell_lt X1.out)).trans X1.out
          by_cases hlt2 : t < n
          · by_cases htb : t = b
            · subst htb
              have e2 : ((t : Int) != (t : Int)) = false := by simp
              have HC2 := Lib.hid (ct_skip t)
              clear hu hkq
              go_wp2_with fail
              go_roundw
              case rel => exact ⟨t + 1, by omega, by go_num, by rw [HC2.out]; exact HU.out, HQ.out⟩
              case measure => simp [intOf]; omega
            · have e2 : ((t : Int) != (b : Int)) = true := by rw [bne_iff_ne]; omega
              have HC2 := Lib.hid (ct_next htb)
              have HSK2 := Lib.hid (sk_ct htb)
              obtain ⟨ad1, rfl, _, x3⟩ := (L1.out.keep hkq).el hlt2
              have hlen : (Mx.row (ct b t) fun j => f k (Mx.sk b j)).length + 1 ≤ 17000000000000 := by
                rw [Mx.len_row]; have := ct_le (a := b) (p := p) (t := t) hpb (by have := HN.out; omega); omega
              have HSN := Lib.hid (show Mx.row (ct b t + 1) (fun j => f k (Mx.sk b j)) = (Mx.row (ct b t) fun j => f k (Mx.sk b j)) ++ [f k t] by
                rw [Mx.row_snoc, HSK2.out])
              have hsz := HQ.out.size
              generalize f k t = z at *
              obtain ⟨wd, hwd⟩ : ∃ x, x = wr := ⟨_, rfl⟩
              subst hwd
              clear hu hkq htb
              go_wp2_with (at_builtin; refine wpList_push rfl _ _ rfl wo'.heap.size _ (Mx.row (ct b t) fun j => f k (Mx.sk b j)) z wd.heap.size 1 rfl rfl (HU.out.new _) (by simp; done) hlen (Nat.le_trans hsz ((Kp.rfl' _).new _).size) ?_; intro v' w' h1 h2 _)
              have HU' := Lib.hid h1
              have HQ' := Lib.hid (own_below (HU.out.new _) (HQ.out.new _) (Nat.le_trans hsz ((Kp.rfl' _).new _).size) h2)
              clear h1 h2
              go_wp2_with fail
              go_roundw
              case rel => exact ⟨t + 1, by omega, by go_num, by rw [HC2.out, HSN.out]; exact HU'.out, HQ'.out⟩
              case measure => simp [intOf]; omega
          · obtain rfl : t = n := by omega
            rw [show ct b t = p by rw [HN.out]; exact ct_end hpb] at HU
            obtain ⟨g, gc, rfl, hg, hgc⟩ := own_some HU.out (by rw [Mx.len_row]; exact hp0)
            rw [Mx.len_row] at HU hgc ⊢
            clear hu hkq
            have OM := Lib.hid (HO.out.kp HQ.out)
            have HAP := Lib.hid (show ∀ i, i < (Mx.tab (ct a k) p (Zx.wo f a b)).length → G i ≠ g from fun i hi => by have := (HO.out.lt hi).2; omega)
            have HLE := Lib.hid (show (Mx.tab (ct a k) p (Zx.wo f a b)).length + 1 ≤ 1000000 by rw [Mx.len_tab]; have := HCL.out; omega)
            go_wp2_with (at_builtin; refine wpList_pushM rfl _ _ rfl w.heap.size _ G C (Mx.tab (ct a k) p (Zx.wo f a b)) _ g p gc _ 1 (Mx.len_row _ _) rfl rfl (OM.out.new _) (cell_made _ _ _ _ 0 rfl) ((HU.out.from HK.out.size).new _) HAP.out HLE.out (Nat.le_trans HK.out.size (Nat.le_trans HQ.out.size ((Kp.rfl' _).new _).size)) ?_; intro v' w' G' C' ho' hk')
            have HO' := Lib.hid ho'
            have HK' := Lib.hid (hk' w (Nat.le_refl _) ((HK.out.trans HQ.out).new _))
            clear ho' hk'
            go_wp2_with fail
            go_roundw
            case rel => exact ⟨k + 1, G', C', by omega, by go_num, by rw [HC.out, HS.out]; exact HO'.out, HK'.out⟩
            case measure => simp [intOf]; omega
    · obtain rfl : k = n := by omega
      obtain ⟨A, d2, rfl, hl, _⟩ := HO.out.lies
      rw [Mx.len_tab, show ct a k = p by rw [HN.out]; exact ct_end hpa] at *
      have HL := Lib.hid hl
      clear hl
      go_wp2_with fail
      go_ret
      exact ⟨A, d2, rfl, HL.out, HK.out⟩

end Go.Proofs.YtmimbioffnolaaaDoor

/- Contracts of the document's answer on matrices, third part: All, Matrix, Field. For all packages. -/
namespace Go.Proofs.YtmimbioffnolaaaDoor
open Go.ChangeShapes Go.WideShapes Go.ChangeAt Go.RowKit
set_option linter.unusedVariables false

/-- The first k rows have no fault. -/
def rowsUp (lo hi : Int) (m : List (List Int)) (k : Nat) : Prop := Mx.rows lo hi (m.getD 0 []).length m = Mx.rows lo hi (m.getD 0 []).length (m.drop k)
theorem rowsUp_go {lo hi : Int} {m : List (List Int)} {k : Nat} (hk : k < m.length) (h : rowsUp lo hi m k) (h0 : Mx.rcode lo hi (m.getD 0 []).length (m.getD k []) = 0) : rowsUp lo hi m (k + 1) := by
  unfold rowsUp at *
  rw [h, Mx.rows_drop hk, if_pos h0]

set_option maxRecDepth 100000 in
set_option maxHeartbeats 3200000 in
theorem rMatrix_main (A : Option Addr) (m : List (List Int)) (n d q most : Nat) (lo hi : Int) (w : World) (ha : LiesM w A m) (hn : m.length = n) (hq : (m.getD 0 []).length = q) (h1 : 0 < n) (h2 : n ≤ most) (h3 : 0 < q) (h4 : q ≤ most) (hmo : most ≤ 1000) :
    Calls Tryd.prog 20 #[.slice A n d, .int .i64 (most : Int), .int .i64 lo, .int .i64 hi] w fun e w' => e = .returned (.int .i64 (Mx.mcode most lo hi m : Int)) ∧ Drew w w' := by
  have hm : Mx.mcode most lo hi m = Mx.rows lo hi (m.getD 0 []).length m := by
    unfold Mx.mcode
    rw [if_neg (by omega), if_neg (by omega)]
  rw [hm]
  obtain ⟨v, hv⟩ : ∃ v, v = Mx.rows lo hi (m.getD 0 []).length m := ⟨_, rfl⟩
  have hg0 : rowsUp lo hi m 0 := by unfold rowsUp; rw [List.drop_zero]
  have RNG := Lib.hid (fun (k : Nat) (hk : k < n) (hg : rowsUp lo hi m k) (h0 : Mx.rcode lo hi q (m.getD k []) ≠ 0) => show v = Mx.rcode lo hi q (m.getD k []) by
    unfold rowsUp at hg
    rw [hv, hg, Mx.rows_drop (by omega), hq, if_neg h0])
  have OKS := Lib.hid (fun (hg : rowsUp lo hi m n) => show v = 0 by
    unfold rowsUp at hg
    rw [hv, hg, Mx.rows_end (by omega)])
  have STP := Lib.hid (fun (k : Nat) (hk : k < n) (hg : rowsUp lo hi m k) (h0 : Mx.rcode lo hi q (m.getD k []) = 0) => rowsUp_go (by omega) hg (by rw [hq]; exact h0))
  rw [← hv]
  obtain ⟨ad, A0, d0, rfl, hlt0, hc0, _, hr0⟩ := ha 0 (by omega)
  rw [hq] at hc0
  rw [add_zero'] at hc0
  have HA := Lib.hid ha
  have HN := Lib.hid hn
  have G0 := Lib.hid hg0
  have C0 := Lib.hid hc0
  have e0 : ((n : Int) == 0) = false := by rw [beq_eq_false_iff_ne]; omega
  have e1 : ((q : Int) == 0) = false := by rw [beq_eq_false_iff_ne]; omega
  have e2 : ¬ (most : Int) < n := by omega
  have e3 : ¬ (most : Int) < q := by omega
  clear ha hn hg0 hm hv hq hr0
  go_enter Tryd.func20, Tryd.ntmps20
  go_wp2_with fail
  clear hc0
  go_loopw [9] (fun i wr => ∃ k : Nat, k ≤ n ∧ i = .int .i64 (k : Int) ∧ rowsUp lo hi m k ∧ Drew w wr) (fun i _ => n - (intOf i).toNat)
  case atStart => exact ⟨0, Nat.zero_le _, rfl, G0.out, Drew.refl _⟩
  case round =>
    obtain ⟨k, hk, rfl, hg, hdr⟩ := hrel
    have HG := Lib.hid hg
    have HD := Lib.hid hdr
    have hc0 := (hdr.kp.cell (p := ad) hlt0).trans C0.out
    by_cases hlt : k < n
    · obtain ⟨ad', A1, d1, ea, _, hc1, _, hr1⟩ := (HA.out.keep hdr.kp) k (by have := HN.out; omega)
      obtain rfl := Option.some.inj ea
      have AL := Lib.hid (fun (wx : World) (hx : Kp wr wx) (hl : (m.getD k []).length ≤ 1000000) => all_any A1 (m.getD k []) d1 lo hi wx (hr1.keep hx) hl)
      obtain ⟨p, hp⟩ : ∃ p, p = (m.getD k []).length := ⟨_, rfl⟩
      rw [← hp] at hc1 AL
      clear hg hdr hr1
      by_cases hpq : p = q
      · subst hpq
        have e4 : ((p : Int) != (p : Int)) = false := by simp
        have ALL := Lib.hid (fun (wx : World) (hx : Kp wr wx) => AL.out wx hx (by omega))
        by_cases hin : AllIn (m.getD k []) lo hi
        · have ST := Lib.hid (STP.out k hlt HG.out (Mx.rcode_ok hp.symm (fun j hj => hin j hj)))
          have IN := Lib.hid hin
          clear hin hp AL
          go_wp2_with fail
          go_quiet (fail)
          go_wp2_with fail
          refine (ALL.out _ ((Kp.rfl' wr).drewN _)).mono ?_; rintro e w' ⟨ht, rfl⟩
          obtain rfl := tells_yes ht IN.out
          go_wp2_with fail
          go_roundw
          case rel => exact ⟨k + 1, by omega, by go_num, ST.out, HD.out.more _⟩
          case measure => simp [intOf]; omega
        · have EV := Lib.hid ((RNG.out k hlt HG.out (by rw [Mx.rcode_bad' hp.symm hin]; decide)).trans (Mx.rcode_bad' hp.symm hin))
          have NIN := Lib.hid hin
          clear hin hp AL
          go_wp2_with fail
          go_quiet (fail)
          go_wp2_with fail
          refine (ALL.out _ ((Kp.rfl' wr).drewN _)).mono ?_; rintro e w' ⟨ht, rfl⟩
          obtain rfl := tells_no ht NIN.out
          go_wp2_with fail
          go_ret
          exact ⟨by rw [EV.out]; rfl, HD.out.more _⟩
      · have e4 : ((p : Int) != (q : Int)) = true := by rw [bne_iff_ne]; omega
        have hne : (m.getD k []).length ≠ q := by omega
        have EV := Lib.hid ((RNG.out k hlt HG.out (by rw [Mx.rcode_len hne]; decide)).trans (Mx.rcode_len hne))
        clear hp hpq hne AL
        go_wp2_with fail
        go_quiet (fail)
        go_wp2_with fail
        go_ret
        exact ⟨by rw [EV.out]; rfl, HD.out.more _⟩
    · have EV := Lib.hid (OKS.out (by have h : k = n := by omega
                                      rw [← h]; exact HG.out))
      clear hg hdr
      go_wp2_with fail
      go_ret
      exact ⟨by rw [EV.out]; rfl, HD.out⟩

set_option maxHeartbeats 1600000 in
theorem rMatrix_any (A : Option Addr) (m : List (List Int)) (n d most : Nat) (lo hi : Int) (w : World) (ha : LiesM w A m) (hn : m.length = n) (hmo : most ≤ 1000) :
    Calls Tryd.prog 20 #[.slice A n d, .int .i64 (most : Int), .int .i64 lo, .int .i64 hi] w fun e w' => e = .returned (.int .i64 (Mx.mcode most lo hi m : Int)) ∧ Drew w w' := by
  by_cases h1 : n = 0
  · have hm : Mx.mcode most lo hi m = 5 := by unfold Mx.mcode; rw [if_pos (by omega)]
    rw [hm]
    subst h1
    clear hm ha hn
    go_enter Tryd.func20, Tryd.ntmps20
    go_wp2
    go_ret
    exact ⟨rfl, Drew.refl _⟩
  obtain ⟨ad, A0, d0, rfl, _, hc0, _, hr0⟩ := ha 0 (by omega)
  rw [add_zero'] at hc0
  obtain ⟨q, hq⟩ : ∃ q, q = (m.getD 0 []).length := ⟨_, rfl⟩
  rw [← hq] at hc0
  have e0 : ((n : Int) == 0) = false := by rw [beq_eq_false_iff_ne]; omega
  have hn0 : (0 : Int) < n := by omega
  by_cases h2 : q = 0
  · have hm : Mx.mcode most lo hi m = 5 := by unfold Mx.mcode; rw [if_pos (by omega)]
    rw [hm]
    subst h2
    clear hm ha hn hr0 h1 hq
    go_enter Tryd.func20, Tryd.ntmps20
    go_wp2
    go_ret
    exact ⟨rfl, Drew.refl _⟩
  have e1 : ((q : Int) == 0) = false := by rw [beq_eq_false_iff_ne]; omega
  by_cases h3 : most < n
  · have hm : Mx.mcode most lo hi m = 4 := by unfold Mx.mcode; rw [if_neg (by omega), if_pos (by omega)]
    rw [hm]
    have e3 : (most : Int) < n := by omega
    clear hm ha hn hr0 h1 hq h2 h3
    go_enter Tryd.func20, Tryd.ntmps20
    go_wp2
    go_ret
    exact ⟨rfl, Drew.refl _⟩
  by_cases h4 : most < q
  · have hm : Mx.mcode most lo hi m = 4 := by unfold Mx.mcode; rw [if_neg (by omega), if_pos (by omega)]
    rw [hm]
    have e3 : ¬ (most : Int) < n := by omega
    have e4 : (most : Int) < q := by omega
    clear hm ha hn hr0 h1 hq h2 h3 h4
    go_enter Tryd.func20, Tryd.ntmps20
    go_wp2
    go_ret
    exact ⟨rfl, Drew.refl _⟩
  exact rMatrix_main (some ad) m n d q most lo hi w ha hn hq.symm (by omega) (by omega) (by omega) (by omega) hmo


end Go.Proofs.YtmimbioffnolaaaDoor

/- Contracts of the document's answer on matrices, fourth part: Without, DetMod, Square. For all packages. -/
namespace Go.Proofs.YtmimbioffnolaaaDoor
open Go.ChangeShapes Go.WideShapes Go.ChangeAt Go.RowKit
set_option linter.unusedVariables false

theorem wo_del (f : Nat → Nat → Fp.F) (j : Nat) : wo f 0 j = Mx.del j f := by
  funext a b
  unfold wo Mx.del
  congr 1

set_option maxRecDepth 100000 in
set_option maxHeartbeats 6400000 in
theorem rWithout_any (A : Option Addr) (f : Nat → Nat → Fp.F) (p a b d : Nat) (w : World) (ha : LiesM w A (Mx.matl (p + 1) (p + 1) f)) (hpa : a ≤ p) (hpb : b ≤ p) (hp : p ≤ 1000) :
    Calls Tryd.prog 15 #[.slice A ((p + 1 : Nat) : Int).toNat d, .int .i64 (a : Int), .int .i64 (b : Int)] w fun e w' => Made p p (wo f a b) w e w' := by
  rw [Int.toNat_natCast]
  have HA := Lib.hid ha
  clear ha
  obtain ⟨n, hn⟩ : ∃ n, n = p + 1 := ⟨_, rfl⟩
  rw [← hn] at HA ⊢
  have HN := Lib.hid hn
  have hn1 : n ≤ 1001 := by omega
  clear hn
  go_enter Tryd.func15, Tryd.ntmps15
  go_wp2_with fail
  go_loopw [7, 8] (fun v i wr => ∃ (k : Nat) (G C : Nat → Nat), k ≤ n ∧ i = .int .i64 (k : Int) ∧ OwnM wr w.heap.size v G C (Mx.matl (ct a k) p (wo f a b)) ∧ Kp w wr) (fun _ i _ => n - (intOf i).toNat)
  case atStart => exact ⟨0, fun _ => 0, fun _ => 0, Nat.zero_le _, rfl, by rw [ct_zero]; exact ownM_none _ _ _ _, Kp.rfl' _⟩
  case round =>
    obtain ⟨k, G, C, hk, rfl, ho, hkp⟩ := hrel
    obtain ⟨wo', hwo⟩ : ∃ x, x = wr := ⟨_, rfl⟩
    subst hwo
    have HO := Lib.hid ho
    have HK := Lib.hid hkp
    clear ho hkp
    by_cases hlt : k < n
    · by_cases hka : k = a
      · subst hka
        have e1 : ((k : Int) == (k : Int)) = true := by simp
        have HC := Lib.hid (ct_skip k)
        go_wp2_with fail
        go_roundw
        case rel => exact ⟨k + 1, G, C, by omega, by go_num, by rw [HC.out]; exact HO.out, HK.out⟩
        case measure => simp [intOf]; omega
      · have e1 : ((k : Int) == (a : Int)) = false := by rw [beq_eq_false_iff_ne]; omega
        have hp0 : 0 < p := by have := HN.out; omega
        have HC := Lib.hid (ct_next hka)
        have HSK := Lib.hid (sk_ct hka)
        have HS := Lib.hid (show Mx.matl (ct a k + 1) p (wo f a b) = Mx.matl (ct a k) p (wo f a b) ++ [Mx.row p fun j => ((f k (Mx.sk b j)).val : Int)] by
          rw [Mx.matl, Mx.tab_snoc]
          congr 2
          refine Mx.row_ext fun j _ => ?_
          show ((f (Mx.sk a (ct a k)) (Mx.sk b j)).val : Int) = _
          rw [HSK.out])
        have HCL := Lib.hid (show ct a k ≤ 2000 by have := ct_le (a := a) (p := p) (t := k) hpa (by have := HN.out; omega); omega)
        clear hka
        obtain ⟨ad, A1, d1, rfl, _, x1, _, l1⟩ := (HA.out.keep HK.out).row hlt
        have L1 := Lib.hid l1
        have X1 := Lib.hid x1
        clear l1 x1
        go_wp2_with fail
        go_loopw [9, 10] (fun u i wq => ∃ t : Nat, t ≤ n ∧ i = .int .i64 (t : Int) ∧ Own wq wo'.heap.size u (Mx.row (ct b t) fun j => ((f k (Mx.sk b j)).val : Int)) ∧ Kp wo' wq) (fun _ i _ => n - (intOf i).toNat)
        case atStart => exact ⟨0, Nat.zero_le _, rfl, by rw [ct_zero]; exact Own.none _ _, Kp.rfl' _⟩
        case round =>
          obtain ⟨t, ht, rfl, hu, hkq⟩ := hrel
          have HU := Lib.hid hu
          have HQ := Lib.hid hkq
          have x2 := (hkq.cell (p := ad.add k) (cell_lt X1.out)).trans X1.out
          by_cases hlt2 : t < n
          · by_cases htb : t = b
            · subst htb
              have e2 : ((t : Int) != (t : Int)) = false := by simp
              have HC2 := Lib.hid (ct_skip t)
              clear hu hkq
              go_wp2_with fail
              go_roundw
              case rel => exact ⟨t + 1, by omega, by go_num, by rw [HC2.out]; exact HU.out, HQ.out⟩
              case measure => simp [intOf]; omega
            · have e2 : ((t : Int) != (b : Int)) = true := by rw [bne_iff_ne]; omega
              have HC2 := Lib.hid (ct_next htb)
              have HSK2 := Lib.hid (sk_ct htb)
              obtain ⟨ad1, rfl, _, x3⟩ := (L1.out.keep hkq).el hlt2
              have hlen : (Mx.row (ct b t) fun j => ((f k (Mx.sk b j)).val : Int)).length + 1 ≤ 17000000000000 := by
                rw [Mx.len_row]; have := ct_le (a := b) (p := p) (t := t) hpb (by have := HN.out; omega); omega
              have HSN := Lib.hid (show Mx.row (ct b t + 1) (fun j => ((f k (Mx.sk b j)).val : Int)) = (Mx.row (ct b t) fun j => ((f k (Mx.sk b j)).val : Int)) ++ [((f k t).val : Int)] by
                rw [Mx.row_snoc, HSK2.out])
              have hsz := HQ.out.size
              generalize ((f k t).val : Int) = z at *
              obtain ⟨wd, hwd⟩ : ∃ x, x = wr := ⟨_, rfl⟩
              subst hwd
              clear hu hkq htb
              go_wp2_with (at_builtin; refine wpList_push rfl _ _ rfl wo'.heap.size _ (Mx.row (ct b t) fun j => ((f k (Mx.sk b j)).val : Int)) z wd.heap.size 1 rfl rfl (HU.out.new _) (by simp; done) hlen (Nat.le_trans hsz ((Kp.rfl' _).new _).size) ?_; intro v' w' h1 h2 _)
              have HU' := Lib.hid h1
              have HQ' := Lib.hid (own_below (HU.out.new _) (HQ.out.new _) (Nat.le_trans hsz ((Kp.rfl' _).new _).size) h2)
              clear h1 h2
              go_wp2_with fail
              go_roundw
              case rel => exact ⟨t + 1, by omega, by go_num, by rw [HC2.out, HSN.out]; exact HU'.out, HQ'.out⟩
              case measure => simp [intOf]; omega
          · obtain rfl : t = n := by omega
            rw [show ct b t = p by rw [HN.out]; exact ct_end hpb] at HU
            obtain ⟨g, gc, rfl, hg, hgc⟩ := own_some HU.out (by rw [Mx.len_row]; exact hp0)
            rw [Mx.len_row] at HU hgc ⊢
            clear hu hkq
            have OM := Lib.hid (HO.out.kp HQ.out)
            have HAP := Lib.hid (show ∀ i, i < (Mx.matl (ct a k) p (wo f a b)).length → G i ≠ g from fun i hi => by have := (HO.out.lt hi).2; omega)
            have HLE := Lib.hid (show (Mx.matl (ct a k) p (wo f a b)).length + 1 ≤ 1000000 by rw [Mx.len_matl]; have := HCL.out; omega)
            go_wp2_with (at_builtin; refine wpList_pushM rfl _ _ rfl w.heap.size _ G C (Mx.matl (ct a k) p (wo f a b)) _ g p gc _ 1 (Mx.len_row _ _) rfl rfl (OM.out.new _) (cell_made _ _ _ _ 0 rfl) ((HU.out.from HK.out.size).new _) HAP.out HLE.out (Nat.le_trans HK.out.size (Nat.le_trans HQ.out.size ((Kp.rfl' _).new _).size)) ?_; intro v' w' G' C' ho' hk')
            have HO' := Lib.hid ho'
            have HK' := Lib.hid (hk' w (Nat.le_refl _) ((HK.out.trans HQ.out).new _))
            clear ho' hk'
            go_wp2_with fail
            go_roundw
            case rel => exact ⟨k + 1, G', C', by omega, by go_num, by rw [HC.out, HS.out]; exact HO'.out, HK'.out⟩
            case measure => simp [intOf]; omega
    · obtain rfl : k = n := by omega
      obtain ⟨A, d2, rfl, hl, _⟩ := HO.out.lies
      rw [Mx.len_matl, show ct a k = p by rw [HN.out]; exact ct_end hpa] at *
      have HL := Lib.hid hl
      clear hl
      go_wp2_with fail
      go_ret
      exact ⟨A, d2, rfl, HL.out, HK.out⟩

/-- The sign of a place as a whole number. -/
def sgnI (j : Nat) : Int := if j % 2 = 0 then 1 else -1
theorem sgnI_some (j : Nat) : sgnI j = 1 ∨ sgnI j = -1 := by unfold sgnI; split <;> simp
theorem sgnI_succ (j : Nat) : sgnI (j + 1) = -(sgnI j) := by
  unfold sgnI
  by_cases h : j % 2 = 0
  · rw [if_pos h, if_neg (by omega)]
  · rw [if_neg h, if_pos (by omega)]; rfl
theorem sgnI_F (j : Nat) : Fp.ofInt (sgnI j) = Mx.sgn j := by
  unfold sgnI Mx.sgn
  split <;> decide
theorem det_step (s x d : Fp.F) (k : Nat) : ((s.val : Int) + sgnI k * (x.val : Int) * (d.val : Int)) % 9973 = ((s + Mx.sgn k * x * d).val : Int) := by
  rw [← Fp.ofInt_val, Fp.ofInt_add, Fp.ofInt_mul, Fp.ofInt_mul, Fp.ofInt_self, Fp.ofInt_self, Fp.ofInt_self, sgnI_F]
theorem det_bound (x d : Fp.F) (k : Nat) : (-9972 ≤ sgnI k * (x.val : Int) ∧ sgnI k * (x.val : Int) ≤ 9972) ∧ -99440784 ≤ sgnI k * (x.val : Int) * (d.val : Int) ∧ sgnI k * (x.val : Int) * (d.val : Int) ≤ 99440784 := by
  have h := rprod x d
  have hx := rval x
  rcases sgnI_some k with e | e
  · rw [e, Int.one_mul]; omega
  · rw [e, Int.neg_one_mul, Int.neg_mul]; omega


set_option maxHeartbeats 1600000 in
theorem rSquare_any (A : Option Addr) (m : List (List Int)) (n d most : Nat) (lo hi : Int) (w : World) (ha : LiesM w A m) (hn : m.length = n) (hmo : most ≤ 1000) :
    Calls Tryd.prog 12 #[.slice A n d, .int .i64 (most : Int), .int .i64 lo, .int .i64 hi] w fun e w' => e = .returned (.int .i64 (qcode most lo hi m : Int)) ∧ Drew w w' := by
  have MX := Lib.hid (rMatrix_any A m n d most lo hi w ha hn hmo)
  by_cases h0 : Mx.mcode most lo hi m = 0
  · have h0n : 0 < m.length := by
      rcases Nat.eq_zero_or_pos m.length with h | h
      · exfalso; unfold Mx.mcode at h0; rw [if_pos (.inl h)] at h0; cases h0
      · exact h
    obtain ⟨ad, A0, d0, rfl, hl0, hc0, _, _⟩ := ha 0 h0n
    rw [add_zero'] at hc0
    have HC := Lib.hid hc0
    have EV := Lib.hid (show qcode most lo hi m = if n ≠ (m.getD 0 []).length then 3 else 0 by
      unfold qcode
      rw [h0, hn]
      by_cases h : n ≠ (m.getD 0 []).length
      · rw [if_pos ⟨rfl, h⟩, if_pos h]
      · rw [if_neg (fun h' => h h'.2), if_neg h])
    rw [h0] at MX
    have hn0 : (0 : Int) < n := by omega
    generalize (m.getD 0 []).length = q at *
    generalize qcode most lo hi m = z at *
    have HN0 := Lib.hid hn0
    clear ha h0 hn h0n hc0
    by_cases hq : n = q
    · subst hq
      have E2 := Lib.hid (show z = 0 by rw [EV.out, if_neg (fun h => h rfl)])
      have e1 : ((n : Int) != (n : Int)) = false := by simp
      go_enter Tryd.func12, Tryd.ntmps12
      go_wp2_with fail
      refine (MX.out).mono ?_; rintro e w1 ⟨rfl, hd⟩
      have HD := Lib.hid hd
      have hc := (hd.kp.cell (p := ad) hl0).trans HC.out
      clear hd
      go_wp2_with fail
      go_ret
      exact ⟨by rw [E2.out]; rfl, HD.out⟩
    · have E2 := Lib.hid (show z = 3 by rw [EV.out, if_pos hq])
      have e1 : ((n : Int) != (q : Int)) = true := by rw [bne_iff_ne]; omega
      go_enter Tryd.func12, Tryd.ntmps12
      go_wp2_with fail
      refine (MX.out).mono ?_; rintro e w1 ⟨rfl, hd⟩
      have HD := Lib.hid hd
      have hc := (hd.kp.cell (p := ad) hl0).trans HC.out
      clear hd
      go_wp2_with fail
      go_ret
      exact ⟨by rw [E2.out]; rfl, HD.out⟩
  · have EV : qcode most lo hi m = Mx.mcode most lo hi m := by unfold qcode; rw [if_neg (fun h => h0 h.1)]
    rw [EV]
    have e1 : ((Mx.mcode most lo hi m : Int) == 0) = false := by rw [beq_eq_false_iff_ne]; omega
    generalize Mx.mcode most lo hi m = z at *
    clear ha hn EV h0
    go_enter Tryd.func12, Tryd.ntmps12
    go_wp2_with fail
    refine (MX.out).mono ?_; rintro e w1 ⟨rfl, hd⟩
    have HD := Lib.hid hd
    clear hd
    go_wp2_with fail
    go_ret
    exact ⟨rfl, HD.out⟩
end Go.Proofs.YtmimbioffnolaaaDoor

/- A row of heads of the call's own, whatever they point to: append of one, and the matrix that lies. For all packages. -/
namespace Go.Proofs.YtmimbioffnolaaaDoor
open Go.ChangeShapes Go.WideShapes Go.ChangeAt Go.RowKit
set_option linter.unusedVariables false

/-- The slice value v is the call's own and holds k heads. -/
def HdsV (w : World) (B : Nat) (v : Value) (k : Nat) (H : Nat → Value) : Prop := w.ownsRow B 24 1 v k ((List.range k).map H)
theorem hdsV_none (w : World) (B : Nat) (H : Nat → Value) : HdsV w B (.slice none 0 0) 0 H := World.ownsRow_nil _ _ _ _
theorem HdsV.kp {w w' : World} {B k : Nat} {v : Value} {H : Nat → Value} (h : HdsV w B v k H) (hk : Kp w w') : HdsV w' B v k H := ownsRow_kp h hk
theorem HdsV.new {w : World} {B k : Nat} {v : Value} {H : Nat → Value} (h : HdsV w B v k H) (o : Obj) : HdsV (w.alloc o) B v k H := h.kp ((Kp.rfl' w).new o)
/-- Where they lie, and what lies beneath. -/
theorem HdsV.form {w : World} {B k : Nat} {v : Value} {H : Nat → Value} (h : HdsV w B v k H) : ∃ A c, v = .slice A k c ∧ k ≤ c ∧ ∀ i, i < k → ∃ ad, A = some ad ∧ ad.block < w.heap.size ∧ w.cell? (ad.add i) = some (H i) := by
  rcases h.2 with ⟨rfl, h0⟩ | ⟨g, cap, cur, hv, hg, hh, hc, hm, hs, ht⟩
  · obtain rfl : k = 0 := h0
    exact ⟨Option.none, 0, rfl, Nat.le_refl _, fun i hi => absurd hi (by omega)⟩
  · refine ⟨_, cap, hv, hc, fun i hi => ⟨_, rfl, ?_, ?_⟩⟩
    · rcases Nat.lt_or_ge g w.heap.size with h' | h'
      · exact h'
      · rw [Array.getElem?_eq_none h'] at hh; cases hh
    · have ht' : cur.toList.take k = (List.range k).map H := by simpa using ht
      rw [add_at, cell_of_row _ _ i _ _ (0, 0) hh, ← Array.getElem?_toList, ← List.getElem?_take_of_lt hi, ht']
      simp [hi]
theorem HdsV.lies {w : World} {B k : Nat} {v : Value} {H : Nat → Value} {m : List (List Int)} (h : HdsV w B v k H) (hm : m.length = k) (hr : ∀ i, i < k → ∃ A' c, H i = .slice A' (m.getD i []).length c ∧ (m.getD i []).length ≤ c ∧ Lies w A' (m.getD i [])) : ∃ A c, v = .slice A k c ∧ k ≤ c ∧ LiesM w A m := by
  obtain ⟨A, c, hv, hc, hx⟩ := h.form
  refine ⟨A, c, hv, hc, fun i hi => ?_⟩
  obtain ⟨ad, e, hl, hcell⟩ := hx i (by omega)
  obtain ⟨A', c', e2, h2, h3⟩ := hr i (by omega)
  exact ⟨ad, A', c', e, hl, by rw [hcell, e2], h2, h3⟩

section
variable {ops : Array Oper} {rest : List Oper} {o : Oper} {a : Act} {w : World} {K : Act → World → Prop} {Q : Exit → Act → World → Prop}
/-- out = append(out, head). -/
theorem wpList_pushV (hgd : o.guard = Option.none) (s x : Operand) (ho : o.op = .call { callee := .builtin .append, args := #[s, x], argTypes := #[22, 22] })
    (B : Nat) (v : Value) (k : Nat) (H : Nat → Value) (u : Value) (gb cb : Nat) (hs : a.eval s = v) (hx : a.eval x = .slice (some ⟨gb, 0, none⟩) 1 cb) (hown : HdsV w B v k H)
    (hcell : w.cell? ⟨gb, 0, none⟩ = some u) (hu : u.oneCell' = true) (hlen : k + 1 ≤ 1000000) (hB : B ≤ w.heap.size)
    (h : ∀ v' w', HdsV w' B v' (k + 1) (fun i => if i = k then u else H i) → (∀ w0 : World, w0.heap.size ≤ B → Kp w0 w → Kp w0 w') → wpList Tryd.prog ops Q rest (a.put o.dst v') w') : wpList Tryd.prog ops Q (o :: rest) a w := by
  obtain ⟨i0, hi, hz0, hz1, hz2⟩ := info_parts ints_info
  obtain ⟨v', w', hrun, h1, h2, _, h3⟩ := run_append_own_at (P := Tryd.prog) w B 22 o.type 24 i0 (.slice Option.none 0 0) 1 24 Tryd.underlying22 hi hz0 hz1 hz2 rfl (by decide) v k ((List.range k).map H) hown ⟨gb, 0, Option.none⟩ 1 cb [u] rfl
    (fun j u' hj => by
      match j, hj with
      | 0, hj => simp at hj; subst hj; rw [add_at]; exact hcell) (fun u' hu' => by simp at hu'; subst hu'; exact hu) (by unfold maxLen; omega) (by omega) hB
  refine wpList_plain hgd fun _ hK => ?_
  unfold Oper.wp execOp
  simp only [ho, resolve, invoke, builtin, Sem.run_bind, Sem.run_pure, Result.andThen_ok, List.map_toArray, List.map_cons, List.map_nil, hs, hx, hrun]
  refine hK _ _ (h v' w' ?_ fun w0 hw0 hk0 => Below.grown hk0 h2 hk0.size fun k hk => Nat.le_trans hw0 (World.ownsRow.lt hown k hk).1)
  have e1 : (List.range k).map (fun i => if i = k then u else H i) = (List.range k).map H := List.map_congr_left fun i hi => by
    have := List.mem_range.1 hi
    rw [if_neg (by omega)]
  have e2 : (List.range (k + 1)).map (fun i => if i = k then u else H i) = (List.range k).map H ++ [u] := by
    rw [List.range_succ, List.map_append, e1, List.map_singleton, if_pos rfl]
  unfold HdsV
  rw [e2]
  exact h1
end

end Go.Proofs.YtmimbioffnolaaaDoor

/- The document's determinant of whole numbers, and its corner of a matrix. For all packages. -/
namespace Go.Proofs.YtmimbioffnolaaaDoor
open Go.ChangeShapes Go.WideShapes Go.ChangeAt Go.RowKit
set_option linter.unusedVariables false

theorem Zx.sgn_I (j : Nat) : Zx.sgn j = sgnI j := rfl
theorem Zx.wo_del (f : Nat → Nat → Int) (j : Nat) : Zx.wo f 0 j = Zx.del j f := by
  funext a b
  unfold Zx.wo Zx.del
  congr 1

/-- The products and sums of an expansion by the first row are small. -/
theorem exp_bound {p : Nat} {f : Nat → Nat → Int} (hp : p < 5) (h : ∀ i j, i < p + 1 → j < p + 1 → -9 ≤ f i j ∧ f i j ≤ 9) {k : Nat} (hk : k ≤ p + 1) :
    (-500000000 ≤ (Zx.sg k fun j => Zx.sgn j * f 0 j * Zx.dt p (Zx.del j f)) ∧ (Zx.sg k fun j => Zx.sgn j * f 0 j * Zx.dt p (Zx.del j f)) ≤ 500000000) ∧
      (k < p + 1 → (-9 ≤ sgnI k * f 0 k ∧ sgnI k * f 0 k ≤ 9) ∧ -70000000 ≤ sgnI k * f 0 k * Zx.dt p (Zx.del k f) ∧ sgnI k * f 0 k * Zx.dt p (Zx.del k f) ≤ 70000000) := by
  have hd : ∀ j, j < p + 1 → -7085880 ≤ Zx.dt p (Zx.del j f) ∧ Zx.dt p (Zx.del j f) ≤ 7085880 := fun j hj => by
    refine Zx.dt_bound (n := p) (by omega) (fun a b ha hb => ?_) (Nat.le_refl p)
    have := h (a + 1) (Mx.sk j b) (by omega) (Mx.sk_lt hb)
    show Zx.ab (f (a + 1) (Mx.sk j b)) ≤ 9
    unfold Zx.ab; omega
  have hm : ∀ j, j < p + 1 → (-9 ≤ sgnI j * f 0 j ∧ sgnI j * f 0 j ≤ 9) ∧ -70000000 ≤ sgnI j * f 0 j * Zx.dt p (Zx.del j f) ∧ sgnI j * f 0 j * Zx.dt p (Zx.del j f) ≤ 70000000 := fun j hj => by
    have h1 := hd j hj
    have h2 := h 0 j (by omega) hj
    have h3 : -9 ≤ sgnI j * f 0 j ∧ sgnI j * f 0 j ≤ 9 := by
      rcases sgnI_some j with e | e <;> rw [e] <;> omega
    generalize sgnI j * f 0 j = a at *
    generalize Zx.dt p (Zx.del j f) = b at *
    have e : (a * b).natAbs ≤ 9 * 7085880 := by
      rw [Int.natAbs_mul]
      exact Nat.mul_le_mul (by omega) (by omega)
    omega
  refine ⟨?_, fun hk' => hm k hk'⟩
  have : ∀ q, q ≤ p + 1 → -(70000000 * (q : Int)) ≤ (Zx.sg q fun j => Zx.sgn j * f 0 j * Zx.dt p (Zx.del j f)) ∧ (Zx.sg q fun j => Zx.sgn j * f 0 j * Zx.dt p (Zx.del j f)) ≤ 70000000 * (q : Int) := by
    intro q
    induction q with
    | zero => intro _; rw [Zx.sg_zero]; omega
    | succ q ih =>
      intro hq
      have h1 := ih (by omega)
      have h2 := (hm q (by omega)).2
      rw [Zx.sg_succ, Zx.sgn_I]
      omega
  have := this k hk
  omega

set_option maxRecDepth 100000 in
set_option maxHeartbeats 6400000 in
theorem rDet_step (A : Option Addr) (f : Nat → Nat → Int) (p n d : Nat) (w : World) (ha : LiesM w A (Mx.tab n n f)) (hn : n = p + 1) (hp : p < 5) (hf : ∀ i j, i < n → j < n → -9 ≤ f i j ∧ f i j ≤ 9)
    (ih : ∀ (A : Option Addr) (f : Nat → Nat → Int) (d : Nat) (w : World), (∀ i j, i < p → j < p → -9 ≤ f i j ∧ f i j ≤ 9) → LiesM w A (Mx.tab p p f) → Calls Tryd.prog 7 #[.slice A p d] w fun e w' => e = .returned (.int .i64 (Zx.dt p f)) ∧ Kp w w') :
    Calls Tryd.prog 7 #[.slice A n d] w fun e w' => e = .returned (.int .i64 (Zx.dt n f)) ∧ Kp w w' := by
  have HA := Lib.hid ha
  have IH := Lib.hid ih
  have hdt : Zx.dt n f = Zx.sg n fun j => Zx.sgn j * f 0 j * Zx.dt p (Zx.del j f) := by rw [hn]; rfl
  rw [hdt]
  have h0 : 0 < n := by omega
  have hn1 : n ≤ 1001 := by omega
  have e0 : ((n : Int) == 0) = false := by rw [beq_eq_false_iff_ne]; omega
  have WO := Lib.hid (fun (k : Nat) (w : World) (hk : k < n) (h : LiesM w A (Mx.tab n n f)) => show Calls Tryd.prog 15 #[.slice A n d, .int .i64 0, .int .i64 (k : Int)] w fun e w' => ∃ A d, e = .returned (.slice A p d) ∧ LiesM w' A (Mx.tab p p (Zx.del k f)) ∧ Kp w w' by
    subst hn
    have := rWithoutZ_any A f p 0 k d w h (Nat.zero_le _) (by omega) (by omega)
    rw [Int.toNat_natCast, Zx.wo_del] at this
    exact this)
  have BND := Lib.hid (fun (k : Nat) (hk : k ≤ n) => exp_bound (p := p) (f := f) hp (by rw [← hn]; exact hf) (k := k) (by omega))
  have BND2 := Lib.hid (fun (k : Nat) (hk : k < n) => (exp_bound (p := p) (f := f) hp (by rw [← hn]; exact hf) (k := k) (by omega)).2 (by omega))
  have DB := Lib.hid (fun (k : Nat) (hk : k < n) => show ∀ i j, i < p → j < p → -9 ≤ Zx.del k f i j ∧ Zx.del k f i j ≤ 9 from fun i j hi hj => hf (i + 1) (Mx.sk k j) (by omega) (by rw [hn]; exact Mx.sk_lt hj))
  clear ha ih hdt hn hf
  go_enter Tryd.func7, Tryd.ntmps7
  go_wp2_with fail
  go_loopw [3, 4, 5] (fun s g i wr => ∃ k : Nat, k ≤ n ∧ i = .int .i64 (k : Int) ∧ g = .int .i64 (sgnI k) ∧ s = .int .i64 (Zx.sg k fun j => Zx.sgn j * f 0 j * Zx.dt p (Zx.del j f)) ∧ Kp w wr) (fun _ _ i _ => n - (intOf i).toNat)
  case atStart => exact ⟨0, Nat.zero_le _, rfl, rfl, rfl, Kp.rfl' _⟩
  case round =>
    obtain ⟨k, hk, rfl, rfl, rfl, hkp⟩ := hrel
    have HK := Lib.hid hkp
    by_cases hlt : k < n
    · obtain ⟨ad, A0, d0, ea, hl0, x1, _, l1⟩ := (HA.out.keep hkp).row h0
      subst ea
      rw [add_zero'] at x1
      obtain ⟨ad1, ea, hl1, x2⟩ := l1.el hlt
      subst ea
      obtain ⟨s, hs⟩ : ∃ s, s = Zx.sg k fun j => Zx.sgn j * f 0 j * Zx.dt p (Zx.del j f) := ⟨_, rfl⟩
      have hbs := (BND.out k hk).1
      have hbm := BND2.out k hlt
      have hs2 : (Zx.sg (k + 1) fun j => Zx.sgn j * f 0 j * Zx.dt p (Zx.del j f)) = s + sgnI k * f 0 k * Zx.dt p (Zx.del k f) := by rw [Zx.sg_succ, hs, Zx.sgn_I]
      rw [← hs] at hbs ⊢
      have HSG := Lib.hid (sgnI_succ k)
      have hsg := sgnI_some k
      have hneg : IntKind.i64.wrap (-(sgnI k)) = -(sgnI k) := IntWalk.i64_in _ (by omega)
      have D1 := Lib.hid (DB.out k hlt)
      clear l1 hs
      by_cases hz : f 0 k = 0
      · have HS := Lib.hid (show s = Zx.sg (k + 1) fun j => Zx.sgn j * f 0 j * Zx.dt p (Zx.del j f) by rw [hs2, hz]; simp)
        rw [hz] at x2
        generalize sgnI k = gi at *
        clear hbs hbm hkp hz hs2
        go_wp2_with fail
        go_roundw
        case rel => exact ⟨k + 1, by omega, by go_num, by rw [HSG.out], by rw [HS.out], HK.out⟩
        case measure => simp [intOf]; omega
      · have e1 : ((f 0 k) != 0) = true := by rw [bne_iff_ne]; exact hz
        have HI := Lib.hid (fun A' d' w' h => IH.out A' (Zx.del k f) d' w' D1.out h)
        have HS := Lib.hid hs2
        generalize (f 0 k) = xv at *
        generalize (Zx.dt p (Zx.del k f)) = dv at *
        generalize sgnI k = gi at *
        obtain ⟨y, hy⟩ : ∃ y, y = gi * xv := ⟨_, rfl⟩
        rw [← hy] at hbm HS
        obtain ⟨z, hz'⟩ : ∃ z, z = y * dv := ⟨_, rfl⟩
        rw [← hz'] at hbm HS
        have hw1 : IntKind.i64.wrap (gi * xv) = y := by rw [← hy]; exact IntWalk.i64_in _ (by omega)
        have hw2 : IntKind.i64.wrap (y * dv) = z := by rw [← hz']; exact IntWalk.i64_in _ (by omega)
        have hw3 : IntKind.i64.wrap (s + z) = s + z := IntWalk.i64_in _ (by omega)
        have kd : Kp wr wr.drew := (Kp.rfl' wr).drewN 1
        have W1 := Lib.hid (WO.out k wr.drew hlt (HA.out.keep (hkp.trans kd)))
        have SK := Lib.hid (fun (w' : World) (h : Kp wr w') => (show w'.cell? ad = some (.slice (some ad1) n d0) ∧ w'.cell? (ad1.add k) = some (.int .i64 xv) ∧ Kp wr w' from
          ⟨(h.cell (p := ad) hl0).trans x1, (h.cell (p := ad1.add k) (by rw [block_add]; exact hl1)).trans x2, h⟩))
        clear hbs hbm hkp hz hs2 hy hz' hsg
        go_wp2_with fail
        go_region_held3 (fun w' => w'.cell? ad = some (.slice (some ad1) n d0) ∧ w'.cell? (ad1.add k) = some (.int .i64 xv) ∧ Kp wr w')
          (first
          | exact SK.out _ (Kp.rfl' _)
          | exact SK.out _ kd
          | exact SK.out _ (kd.trans k1)
          | exact SK.out _ ((kd.trans k1).trans k2))
          ((first
          | (go_at_call 15; (with_reducible refine (W1.out).mono ?_); rintro e w1 ⟨A1, c1, rfl, l1, k1⟩)
          | (go_at_call 7; (with_reducible refine (HI.out A1 c1 _ l1).mono ?_); rintro e w2 ⟨rfl, k2⟩)))
        have HK2 := Lib.hid (HK.out.trans ((kd.trans k1).trans k2))
        clear k1 k2 l1 x1 x2
        go_wp2_with fail
        go_roundw
        case rel => exact ⟨k + 1, by omega, by go_num, by rw [HSG.out], by rw [HS.out], HK2.out⟩
        case measure => simp [intOf]; omega
    · obtain rfl : k = n := by omega
      clear hkp
      go_wp2_with fail
      go_ret
      exact ⟨rfl, HK.out⟩

theorem rDet_any : ∀ (n : Nat) (hn : n ≤ 5) (A : Option Addr) (f : Nat → Nat → Int) (d : Nat) (w : World) (hf : ∀ i j, i < n → j < n → -9 ≤ f i j ∧ f i j ≤ 9) (ha : LiesM w A (Mx.tab n n f)),
    Calls Tryd.prog 7 #[.slice A n d] w fun e w' => e = .returned (.int .i64 (Zx.dt n f)) ∧ Kp w w'
  | 0, _, A, f, d, w, hf, ha => by
    have e1 : Zx.dt 0 f = 1 := rfl
    rw [e1]
    clear ha hf
    go_enter Tryd.func7, Tryd.ntmps7
    go_wp2
    go_ret
    exact ⟨rfl, Kp.rfl' _⟩
  | p + 1, hp, A, f, d, w, hf, ha => rDet_step A f p (p + 1) d w ha rfl (by omega) hf (fun A f d w hf h => rDet_any p (by omega) A f d w hf h)

theorem row_take {n k : Nat} (g : Nat → Int) (h : k ≤ n) : (Mx.row n g).take k = Mx.row k g := by
  unfold Mx.row
  rw [← List.map_take, List.take_range, Nat.min_eq_left h]


end Go.Proofs.YtmimbioffnolaaaDoor

/- The document's determinant of whole numbers, of up to six rows of larger numbers. For all packages. -/
namespace Go.Proofs.YtmimbioffnolaaaDoor
open Go.ChangeShapes Go.WideShapes Go.ChangeAt Go.RowKit
set_option linter.unusedVariables false

theorem Zx.fb_hundred {n : Nat} (h : n ≤ 5) : Zx.fb 100 n ≤ 1200000000000 := by
  have : n = 0 ∨ n = 1 ∨ n = 2 ∨ n = 3 ∨ n = 4 ∨ n = 5 := by omega
  rcases this with e | e | e | e | e | e <;> rw [e] <;> decide +kernel
theorem Zx.dt_boundH {n : Nat} {x : Nat → Nat → Int} (h5 : n ≤ 5) (hx : ∀ i j, i < n → j < n → Zx.ab (x i j) ≤ 100) {q : Nat} (hq : q ≤ n) : -1200000000000 ≤ Zx.dt q x ∧ Zx.dt q x ≤ 1200000000000 := by
  have h1 := Zx.dt_ab (M := 100) (by omega) q x fun i j hi hj => hx i j (by omega) (by omega)
  have h2 := Zx.fb_hundred (n := q) (by omega)
  unfold Zx.ab at h1
  omega

/-- The products and sums of an expansion by the first row are small. -/
theorem exp_boundH {p : Nat} {f : Nat → Nat → Int} (hp : p < 6) (h : ∀ i j, i < p + 1 → j < p + 1 → -100 ≤ f i j ∧ f i j ≤ 100) {k : Nat} (hk : k ≤ p + 1) :
    (-720000000000000 ≤ (Zx.sg k fun j => Zx.sgn j * f 0 j * Zx.dt p (Zx.del j f)) ∧ (Zx.sg k fun j => Zx.sgn j * f 0 j * Zx.dt p (Zx.del j f)) ≤ 720000000000000) ∧
      (k < p + 1 → (-100 ≤ sgnI k * f 0 k ∧ sgnI k * f 0 k ≤ 100) ∧ -120000000000000 ≤ sgnI k * f 0 k * Zx.dt p (Zx.del k f) ∧ sgnI k * f 0 k * Zx.dt p (Zx.del k f) ≤ 120000000000000) := by
  have hd : ∀ j, j < p + 1 → -1200000000000 ≤ Zx.dt p (Zx.del j f) ∧ Zx.dt p (Zx.del j f) ≤ 1200000000000 := fun j hj => by
    refine Zx.dt_boundH (n := p) (by omega) (fun a b ha hb => ?_) (Nat.le_refl p)
    have := h (a + 1) (Mx.sk j b) (by omega) (Mx.sk_lt hb)
    show Zx.ab (f (a + 1) (Mx.sk j b)) ≤ 100
    unfold Zx.ab; omega
  have hm : ∀ j, j < p + 1 → (-100 ≤ sgnI j * f 0 j ∧ sgnI j * f 0 j ≤ 100) ∧ -120000000000000 ≤ sgnI j * f 0 j * Zx.dt p (Zx.del j f) ∧ sgnI j * f 0 j * Zx.dt p (Zx.del j f) ≤ 120000000000000 := fun j hj => by
    have h1 := hd j hj
    have h2 := h 0 j (by omega) hj
    have h3 : -100 ≤ sgnI j * f 0 j ∧ sgnI j * f 0 j ≤ 100 := by
      rcases sgnI_some j with e | e <;> rw [e] <;> omega
    generalize sgnI j * f 0 j = a at *
    generalize Zx.dt p (Zx.del j f) = b at *
    have e : (a * b).natAbs ≤ 100 * 1200000000000 := by
      rw [Int.natAbs_mul]
      exact Nat.mul_le_mul (by omega) (by omega)
    omega
  refine ⟨?_, fun hk' => hm k hk'⟩
  have : ∀ q, q ≤ p + 1 → -(120000000000000 * (q : Int)) ≤ (Zx.sg q fun j => Zx.sgn j * f 0 j * Zx.dt p (Zx.del j f)) ∧ (Zx.sg q fun j => Zx.sgn j * f 0 j * Zx.dt p (Zx.del j f)) ≤ 120000000000000 * (q : Int) := by
    intro q
    induction q with
    | zero => intro _; rw [Zx.sg_zero]; omega
    | succ q ih =>
      intro hq
      have h1 := ih (by omega)
      have h2 := (hm q (by omega)).2
      rw [Zx.sg_succ, Zx.sgn_I]
      omega
  have := this k hk
  omega

set_option maxRecDepth 100000 in
set_option maxHeartbeats 6400000 in
theorem rDetH_step (A : Option Addr) (f : Nat → Nat → Int) (p n d : Nat) (w : World) (ha : LiesM w A (Mx.tab n n f)) (hn : n = p + 1) (hp : p < 6) (hf : ∀ i j, i < n → j < n → -100 ≤ f i j ∧ f i j ≤ 100)
    (ih : ∀ (A : Option Addr) (f : Nat → Nat → Int) (d : Nat) (w : World), (∀ i j, i < p → j < p → -100 ≤ f i j ∧ f i j ≤ 100) → LiesM w A (Mx.tab p p f) → Calls Tryd.prog 7 #[.slice A p d] w fun e w' => e = .returned (.int .i64 (Zx.dt p f)) ∧ Kp w w') :
    Calls Tryd.prog 7 #[.slice A n d] w fun e w' => e = .returned (.int .i64 (Zx.dt n f)) ∧ Kp w w' := by
  have HA := Lib.hid ha
  have IH := Lib.hid ih
  have hdt : Zx.dt n f = Zx.sg n fun j => Zx.sgn j * f 0 j * Zx.dt p (Zx.del j f) := by rw [hn]; rfl
  rw [hdt]
  have h0 : 0 < n := by omega
  have hn1 : n ≤ 1001 := by omega
  have e0 : ((n : Int) == 0) = false := by rw [beq_eq_false_iff_ne]; omega
  have WO := Lib.hid (fun (k : Nat) (w : World) (hk : k < n) (h : LiesM w A (Mx.tab n n f)) => show Calls Tryd.prog 15 #[.slice A n d, .int .i64 0, .int .i64 (k : Int)] w fun e w' => ∃ A d, e = .returned (.slice A p d) ∧ LiesM w' A (Mx.tab p p (Zx.del k f)) ∧ Kp w w' by
    subst hn
    have := rWithoutZ_any A f p 0 k d w h (Nat.zero_le _) (by omega) (by omega)
    rw [Int.toNat_natCast, Zx.wo_del] at this
    exact this)
  have BND := Lib.hid (fun (k : Nat) (hk : k ≤ n) => exp_boundH (p := p) (f := f) hp (by rw [← hn]; exact hf) (k := k) (by omega))
  have BND2 := Lib.hid (fun (k : Nat) (hk : k < n) => (exp_boundH (p := p) (f := f) hp (by rw [← hn]; exact hf) (k := k) (by omega)).2 (by omega))
  have DB := Lib.hid (fun (k : Nat) (hk : k < n) => show ∀ i j, i < p → j < p → -100 ≤ Zx.del k f i j ∧ Zx.del k f i j ≤ 100 from fun i j hi hj => hf (i + 1) (Mx.sk k j) (by omega) (by rw [hn]; exact Mx.sk_lt hj))
  clear ha ih hdt hn hf
  go_enter Tryd.func7, Tryd.ntmps7
  go_wp2_with fail
  go_loopw [3, 4, 5] (fun s g i wr => ∃ k : Nat, k ≤ n ∧ i = .int .i64 (k : Int) ∧ g = .int .i64 (sgnI k) ∧ s = .int .i64 (Zx.sg k fun j => Zx.sgn j * f 0 j * Zx.dt p (Zx.del j f)) ∧ Kp w wr) (fun _ _ i _ => n - (intOf i).toNat)
  case atStart => exact ⟨0, Nat.zero_le _, rfl, rfl, rfl, Kp.rfl' _⟩
  case round =>
    obtain ⟨k, hk, rfl, rfl, rfl, hkp⟩ := hrel
    have HK := Lib.hid hkp
    by_cases hlt : k < n
    · obtain ⟨ad, A0, d0, ea, hl0, x1, _, l1⟩ := (HA.out.keep hkp).row h0
      subst ea
      rw [add_zero'] at x1
      obtain ⟨ad1, ea, hl1, x2⟩ := l1.el hlt
      subst ea
      obtain ⟨s, hs⟩ : ∃ s, s = Zx.sg k fun j => Zx.sgn j * f 0 j * Zx.dt p (Zx.del j f) := ⟨_, rfl⟩
      have hbs := (BND.out k hk).1
      have hbm := BND2.out k hlt
      have hs2 : (Zx.sg (k + 1) fun j => Zx.sgn j * f 0 j * Zx.dt p (Zx.del j f)) = s + sgnI k * f 0 k * Zx.dt p (Zx.del k f) := by rw [Zx.sg_succ, hs, Zx.sgn_I]
      rw [← hs] at hbs ⊢
      have HSG := Lib.hid (sgnI_succ k)
      have hsg := sgnI_some k
      have hneg : IntKind.i64.wrap (-(sgnI k)) = -(sgnI k) := IntWalk.i64_in _ (by omega)
      have D1 := Lib.hid (DB.out k hlt)
      clear l1 hs
      by_cases hz : f 0 k = 0
      · have HS := Lib.hid (show s = Zx.sg (k + 1) fun j => Zx.sgn j * f 0 j * Zx.dt p (Zx.del j f) by rw [hs2, hz]; simp)
        rw [hz] at x2
        generalize sgnI k = gi at *
        clear hbs hbm hkp hz hs2
        go_wp2_with fail
        go_roundw
        case rel => exact ⟨k + 1, by omega, by go_num, by rw [HSG.out], by rw [HS.out], HK.out⟩
        case measure => simp [intOf]; omega
      · have e1 : ((f 0 k) != 0) = true := by rw [bne_iff_ne]; exact hz
        have HI := Lib.hid (fun A' d' w' h => IH.out A' (Zx.del k f) d' w' D1.out h)
        have HS := Lib.hid hs2
        generalize (f 0 k) = xv at *
        generalize (Zx.dt p (Zx.del k f)) = dv at *
        generalize sgnI k = gi at *
        obtain ⟨y, hy⟩ : ∃ y, y = gi * xv := ⟨_, rfl⟩
        rw [← hy] at hbm HS
        obtain ⟨z, hz'⟩ : ∃ z, z = y * dv := ⟨_, rfl⟩
        rw [← hz'] at hbm HS
        have hw1 : IntKind.i64.wrap (gi * xv) = y := by rw [← hy]; exact IntWalk.i64_in _ (by omega)
        have hw2 : IntKind.i64.wrap (y * dv) = z := by rw [← hz']; exact IntWalk.i64_in _ (by omega)
        have hw3 : IntKind.i64.wrap (s + z) = s + z := IntWalk.i64_in _ (by omega)
        have kd : Kp wr wr.drew := (Kp.rfl' wr).drewN 1
        have W1 := Lib.hid (WO.out k wr.drew hlt (HA.out.keep (hkp.trans kd)))
        have SK := Lib.hid (fun (w' : World) (h : Kp wr w') => (show w'.cell? ad = some (.slice (some ad1) n d0) ∧ w'.cell? (ad1.add k) = some (.int .i64 xv) ∧ Kp wr w' from
          ⟨(h.cell (p := ad) hl0).trans x1, (h.cell (p := ad1.add k) (by rw [block_add]; exact hl1)).trans x2, h⟩))
        clear hbs hbm hkp hz hs2 hy hz' hsg
        go_wp2_with fail
        go_region_held3 (fun w' => w'.cell? ad = some (.slice (some ad1) n d0) ∧ w'.cell? (ad1.add k) = some (.int .i64 xv) ∧ Kp wr w')
          (first
          | exact SK.out _ (Kp.rfl' _)
          | exact SK.out _ kd
          | exact SK.out _ (kd.trans k1)
          | exact SK.out _ ((kd.trans k1).trans k2))
          ((first
          | (go_at_call 15; (with_reducible refine (W1.out).mono ?_); rintro e w1 ⟨A1, c1, rfl, l1, k1⟩)
          | (go_at_call 7; (with_reducible refine (HI.out A1 c1 _ l1).mono ?_); rintro e w2 ⟨rfl, k2⟩)))
        have HK2 := Lib.hid (HK.out.trans ((kd.trans k1).trans k2))
        clear k1 k2 l1 x1 x2
        go_wp2_with fail
        go_roundw
        case rel => exact ⟨k + 1, by omega, by go_num, by rw [HSG.out], by rw [HS.out], HK2.out⟩
        case measure => simp [intOf]; omega
    · obtain rfl : k = n := by omega
      clear hkp
      go_wp2_with fail
      go_ret
      exact ⟨rfl, HK.out⟩

theorem rDetH_any : ∀ (n : Nat) (hn : n ≤ 6) (A : Option Addr) (f : Nat → Nat → Int) (d : Nat) (w : World) (hf : ∀ i j, i < n → j < n → -100 ≤ f i j ∧ f i j ≤ 100) (ha : LiesM w A (Mx.tab n n f)),
    Calls Tryd.prog 7 #[.slice A n d] w fun e w' => e = .returned (.int .i64 (Zx.dt n f)) ∧ Kp w w'
  | 0, _, A, f, d, w, hf, ha => by
    have e1 : Zx.dt 0 f = 1 := rfl
    rw [e1]
    clear ha hf
    go_enter Tryd.func7, Tryd.ntmps7
    go_wp2
    go_ret
    exact ⟨rfl, Kp.rfl' _⟩
  | p + 1, hp, A, f, d, w, hf, ha => rDetH_step A f p (p + 1) d w ha rfl (by omega) hf (fun A f d w hf h => rDetH_any p (by omega) A f d w hf h)
end Go.Proofs.YtmimbioffnolaaaDoor

/- Contracts of the document's answer on rows of whole numbers: Abs, what is wrong with rows. -/
namespace Go.Proofs.YtmimbioffnolaaaDoor
open Go.ChangeShapes Go.WideShapes Go.ChangeAt Go.RowKit
set_option linter.unusedVariables false

theorem absZ_any (n : Int) (w : World) (h1 : -4000000000000000000 ≤ n) (h2 : n ≤ 4000000000000000000) :
    Calls Tryd.prog 6 #[.int .i64 n] w fun e w' => e = .returned (.int .i64 (Zx.ab n)) ∧ w = w' := by
  by_cases h : n < 0
  · rw [show Zx.ab n = -n by unfold Zx.ab; omega]
    have hw : IntKind.i64.wrap (-n) = -n := IntWalk.i64_in _ (by omega)
    go_enter Tryd.func6, Tryd.ntmps6
    go_wp2
    go_ret
    exact ⟨rfl, rfl⟩
  · rw [show Zx.ab n = n by unfold Zx.ab; omega]
    go_enter Tryd.func6, Tryd.ntmps6
    go_wp2
    go_ret
    exact ⟨rfl, rfl⟩
theorem Shh.det {n : Nat} {x : Nat → Nat → Int} {m : List (List Int)} (s : Shh n x m) (A : Option Addr) (d : Nat) (w : World) (ha : LiesM w A m) :
    Calls Tryd.prog 7 #[.slice A n d] w fun e w' => e = .returned (.int .i64 (Zx.dt n x)) ∧ Kp w w' :=
  rDetH_any n (by have := s.n3; omega) A x d w (fun i j hi hj => by have := s.ab i j hi hj; omega) (by rw [← s.eq]; exact ha)
theorem rHRows_any (A : Option Addr) (m : List (List Int)) (n d : Nat) (w : World) (ha : LiesM w A m) (hn : m.length = n) :
    Calls Tryd.prog 4 #[.slice A n d] w fun e w' => e = .returned (.int .i64 (hcd m : Int)) ∧ Kp w w' := by
  have SQ := rSquare_any A m n d 3 (-20) 20 w ha hn (by omega)
  have hq5 := qcode_le 3 (-20) 20 m
  rcases shh_or m hn with ⟨x, s⟩ | h
  · rw [s.code] at SQ
    have SQ := Lib.hid SQ
    have DT := Lib.hid (fun w' (k : Kp w w') => s.det A d w' (ha.keep k))
    have hc := s.hcd
    by_cases hd : Zx.dt n x = 0
    · rw [if_pos hd] at hc
      rw [hc]
      rw [hd] at DT
      clear ha hn s hd hc hq5
      go_enter Tryd.func4, Tryd.ntmps4
      go_wp2_with fail
      refine (SQ.out).mono ?_; rintro e w1 ⟨rfl, hd1⟩
      have K1 := Lib.hid hd1.kp
      clear hd1
      go_wp2_with fail
      refine (DT.out w1 K1.out).mono ?_; rintro e w2 ⟨rfl, k2⟩
      have K2 := Lib.hid (K1.out.trans k2)
      clear k2
      go_wp2_with fail
      go_ret
      exact ⟨rfl, K2.out⟩
    · rw [if_neg hd] at hc
      rw [hc]
      have e0 : (Zx.dt n x == 0) = false := by rw [beq_eq_false_iff_ne]; exact hd
      generalize Zx.dt n x = D at *
      clear ha hn s hd hc hq5
      go_enter Tryd.func4, Tryd.ntmps4
      go_wp2_with fail
      refine (SQ.out).mono ?_; rintro e w1 ⟨rfl, hd1⟩
      have K1 := Lib.hid hd1.kp
      clear hd1
      go_wp2_with fail
      refine (DT.out w1 K1.out).mono ?_; rintro e w2 ⟨rfl, k2⟩
      have K2 := Lib.hid (K1.out.trans k2)
      clear k2
      go_wp2_with fail
      go_ret
      exact ⟨rfl, K2.out⟩
  · have hc : hcd m = qcode 3 (-20) 20 m := by unfold hcd; rw [if_pos h]
    rw [hc]
    have e0 : (((qcode 3 (-20) 20 m : Nat) : Int) == 0) = false := by rw [beq_eq_false_iff_ne]; omega
    have SQ := Lib.hid SQ
    generalize qcode 3 (-20) 20 m = z at *
    clear ha hn h hc hq5
    go_enter Tryd.func4, Tryd.ntmps4
    go_wp2_with fail
    refine (SQ.out).mono ?_; rintro e w1 ⟨rfl, hd1⟩
    have K1 := Lib.hid hd1.kp
    clear hd1
    go_wp2_with fail
    go_ret
    exact ⟨rfl, K1.out⟩
end Go.Proofs.YtmimbioffnolaaaDoor

/- Contracts of the document's answer: greatest common divisors of numbers of any size, what divides all numbers of a row. For all packages. -/
namespace Go.Proofs.YtmimbioffnolaaaDoor
open Go.ChangeShapes Go.WideShapes Go.ChangeAt Go.RowKit
set_option linter.unusedVariables false

theorem absN_any (n : Int) (w : World) (h1 : -4000000000000000000 ≤ n) (h2 : n ≤ 4000000000000000000) :
    Calls Tryd.prog 6 #[.int .i64 n] w fun e w' => e = .returned (.int .i64 (n.natAbs : Int)) ∧ w = w' := by
  by_cases h : n < 0
  · rw [show (n.natAbs : Int) = -n by omega]
    have hw : IntKind.i64.wrap (-n) = -n := IntWalk.i64_in _ (by omega)
    go_enter Tryd.func6, Tryd.ntmps6
    go_wp2
    go_ret
    exact ⟨rfl, rfl⟩
  · rw [show (n.natAbs : Int) = n by omega]
    go_enter Tryd.func6, Tryd.ntmps6
    go_wp2
    go_ret
    exact ⟨rfl, rfl⟩
theorem gcdZ_any (k : Nat) : ∀ (a b : Int) (w : World), b.natAbs ≤ k → -4000000000000000000 ≤ a → a ≤ 4000000000000000000 → -4000000000000000000 ≤ b → b ≤ 4000000000000000000 →
    Calls Tryd.prog 13 #[.int .i64 a, .int .i64 b] w fun e w' => e = .returned (.int .i64 (Int.gcd a b : Int)) ∧ w = w' := by
  have base : ∀ (a : Int) (w : World), -4000000000000000000 ≤ a → a ≤ 4000000000000000000 → Calls Tryd.prog 13 #[.int .i64 a, .int .i64 0] w fun e w' => e = .returned (.int .i64 (Int.gcd a 0 : Int)) ∧ w = w' := by
    intro a w h1 h2
    have E := Lib.hid (show (a.natAbs : Int) = (Int.gcd a 0 : Int) by rw [Int.gcd_zero_right])
    go_enter Tryd.func13, Tryd.ntmps13
    go_wp2_with fail
    refine (absN_any _ _ h1 h2).mono ?_; rintro e w' ⟨rfl, rfl⟩
    go_wp2_with fail
    go_ret
    exact ⟨by rw [← E.out]; rfl, rfl⟩
  induction k with
  | zero =>
    intro a b w hk h1 h2 h3 h4
    obtain rfl : b = 0 := by omega
    exact base a w h1 h2
  | succ k ih =>
    intro a b w hk h1 h2 h3 h4
    by_cases h : b = 0
    · subst h
      exact base a w h1 h2
    · have hb : (b == 0) = false := by rw [beq_eq_false_iff_ne]; exact h
      have hm : (a.tmod b).natAbs < b.natAbs := by rw [Int.natAbs_tmod]; exact Nat.mod_lt _ (by omega)
      have E := Lib.hid (Num.gcd_tmod a b)
      have IH := Lib.hid (ih b (a.tmod b))
      have HM := Lib.hid hm
      clear ih hm base
      go_enter Tryd.func13, Tryd.ntmps13
      go_wp2_with fail
      have hm := HM.out
      refine (IH.out _ (by omega) h3 h4 (by omega) (by omega)).mono ?_; rintro e w' ⟨rfl, rfl⟩
      go_wp2_with fail
      go_ret
      exact ⟨by rw [E.out]; rfl, rfl⟩
theorem gs_le {M : Nat} : ∀ (n : Nat) (g : Nat → Nat), (∀ i, i < n → g i ≤ M) → Zx.gs n g ≤ M
  | 0, g, _ => Nat.zero_le M
  | n + 1, g, h => by
    have h1 := gs_le n g fun i hi => h i (by omega)
    have h2 := h n (by omega)
    show Nat.gcd (Zx.gs n g) (g n) ≤ M
    rcases Nat.eq_zero_or_pos (g n) with e | e
    · rw [e, Nat.gcd_zero_right]; exact h1
    · exact Nat.le_trans (Nat.le_of_dvd e (Nat.gcd_dvd_right _ _)) h2
/-- Greatest common divisors of what was there and one more. -/
theorem gcd_nat (g : Nat) (a : Int) : (Int.gcd (g : Int) a) = Nat.gcd g a.natAbs := rfl
theorem contentZ_any (A : Option Addr) (y : Nat → Int) (n c M : Nat) (w : World) (hn : n ≤ 1000000) (hl : Lies w A (Mx.row n y)) (hM : M ≤ 4000000000000000000) (hb : ∀ j, j < n → (y j).natAbs ≤ M) :
    Calls Tryd.prog 14 #[.slice A n c] w fun e w' => e = .returned (.int .i64 (Zx.gs n fun j => (y j).natAbs : Nat)) ∧ w = w' := by
  have HL := Lib.hid hl
  have BD := Lib.hid hb
  have GB := Lib.hid (fun k (hk : k ≤ n) => gs_le (M := M) k (fun j => (y j).natAbs) fun i hi => hb i (by omega))
  have GC := Lib.hid (fun (g : Nat) (b : Int) (w : World) (h1 : g ≤ M) (h2 : b.natAbs ≤ M) => gcdZ_any b.natAbs (g : Int) b w (Nat.le_refl _) (by omega) (by omega) (by omega) (by omega))
  clear hl hb
  go_enter Tryd.func14, Tryd.ntmps14
  go_wp2_with fail
  go_loop [3, 4] (fun v i => ∃ (k : Nat) (g : Nat), k ≤ n ∧ i = .int .i64 (k : Int) ∧ v = .int .i64 (g : Int) ∧ g = Zx.gs k fun j => (y j).natAbs) (fun _ i => n - (intOf i).toNat)
  case atStart => exact ⟨0, 0, Nat.zero_le _, rfl, rfl, rfl⟩
  case round =>
    obtain ⟨k, g, hk, rfl, rfl, hg⟩ := hrel
    have b1 := GB.out k hk
    rw [← hg] at b1
    have HG := Lib.hid hg
    clear hg
    by_cases hlt : k < n
    · obtain ⟨ad, rfl, _, x1⟩ := HL.out.el hlt
      have b2 := BD.out k hlt
      have ST := Lib.hid (show (Zx.gs (k + 1) fun j => (y j).natAbs) = Int.gcd (g : Int) (y k) by rw [gcd_nat, HG.out]; rfl)
      generalize y k = a at *
      have C := Lib.hid (GC.out g a w b1 b2)
      generalize Int.gcd (g : Int) a = q at *
      clear b1 b2
      go_wp2_with fail
      refine (C.out).mono ?_; rintro e w' ⟨rfl, rfl⟩
      go_wp2_with fail
      go_round
      case rel => exact ⟨k + 1, q, by omega, by go_num, rfl, ST.out.symm⟩
      case measure => simp [intOf]; omega
    · obtain rfl : n = k := by omega
      clear b1
      go_wp2_with fail
      go_ret
      exact ⟨by rw [HG.out]; rfl, rfl⟩
end Go.Proofs.YtmimbioffnolaaaDoor

/- The document's answer on parts of rows. -/
namespace Go.Proofs.YtmimbioffnolaaaDoor
open Go.ChangeShapes Go.WideShapes Go.ChangeAt Go.RowKit
set_option linter.unusedVariables false

theorem gcd_most {a b M : Nat} (ha : a ≤ M) (hb : b ≤ M) : Nat.gcd a b ≤ M := by
  rcases Nat.eq_zero_or_pos a with e | e
  · rw [e, Nat.gcd_zero_left]; exact hb
  · exact Nat.le_trans (Nat.le_of_dvd e (Nat.gcd_dvd_left a b)) ha
theorem quo_natR (a b : Nat) (h : a ≤ 1000000000000000000) : wrap64 ((a : Int) / (b : Int)) = ((a / b : Nat) : Int) := by
  rw [← Int.natCast_ediv]
  have := Nat.div_le_self a b
  generalize a / b = q at *
  exact wrap64_id ⟨by omega, by omega⟩
theorem quo_natW (a b : Nat) (h : a ≤ 1000000000000000000) : IntKind.i64.wrap ((a : Int) / (b : Int)) = ((a / b : Nat) : Int) := by
  rw [← Int.natCast_ediv]
  have := Nat.div_le_self a b
  generalize a / b = q at *
  exact IntWalk.i64_in _ (by omega)
theorem gs_zero (g : Nat → Nat) : Zx.gs 0 g = 0 := rfl
theorem gs_succ (n : Nat) (g : Nat → Nat) : Zx.gs (n + 1) g = Nat.gcd (Zx.gs n g) (g n) := rfl

set_option maxRecDepth 100000 in
set_option maxHeartbeats 3200000 in
theorem rParts_any {n : Nat} {x : Nat → Nat → Int} {m : List (List Int)} (s : Hm n x m) (A : Option Addr) (d : Nat) (w : World) (ha : LiesM w A m) :
    Calls Tryd.prog 5 #[.slice A n d] w fun e w' => ∃ A' d', e = .returned (.slice A' n d') ∧ Lies w' A' (Zx.spp n x) ∧ Kp w w' := by
  have n0 := s.sh.n0
  have n3 := s.sh.n3
  obtain ⟨p, hp⟩ : ∃ p, n = p + 1 := ⟨n - 1, by omega⟩
  have SM := s.sh.ab
  have HT := Lib.hid (fun w' (k : Kp w w') => show LiesM w' A (Mx.tab n n x) from by rw [← s.sh.eq]; exact ha.keep k)
  have DT := Lib.hid (fun w' (k : Kp w w') => s.sh.det A d w' (ha.keep k))
  have TW := Zx.dt_twenty s.sh.n3 s.sh.small
  unfold Zx.ab at TW
  have AB := Lib.hid (fun w => show Calls Tryd.prog 6 #[.int .i64 (Zx.dt n x)] w fun e w' => e = .returned (.int .i64 ((Zx.dt n x).natAbs : Int)) ∧ w = w' from absZ_any (Zx.dt n x) w (by omega) (by omega))
  have WO := Lib.hid (fun (w' : World) (k : Kp w w') (a b : Nat) (ha : a < n) (hb : b < n) => (show Calls Tryd.prog 15 #[.slice A n d, .int .i64 (a : Int), .int .i64 (b : Int)] w' fun e w'' => ∃ A' d', e = .returned (.slice A' p d') ∧ LiesM w'' A' (Mx.tab p p (Zx.wo x a b)) ∧ Kp w' w'' from by
    have h := HT.out w' k
    rw [hp] at h
    have h2 := rWithoutZ_any A x p a b d w' h (by omega) (by omega) (by omega)
    rw [Int.toNat_natCast, ← hp] at h2
    exact h2))
  have WB : ∀ a b, a < n → b < n → ∀ i j, i < p → j < p → -100 ≤ Zx.wo x a b i j ∧ Zx.wo x a b i j ≤ 100 := fun a b _ _ i j hi hj => by
    have := SM (Mx.sk a i) (Mx.sk b j) (by have := Mx.sk_lt (a := a) hi; omega) (by have := Mx.sk_lt (a := b) hj; omega)
    show -100 ≤ x (Mx.sk a i) (Mx.sk b j) ∧ x (Mx.sk a i) (Mx.sk b j) ≤ 100
    omega
  have DW := Lib.hid (fun (w' : World) (a b : Nat) (ha : a < n) (hb : b < n) (A' : Option Addr) (d' : Nat) (h : LiesM w' A' (Mx.tab p p (Zx.wo x a b))) => rDetH_any p (by omega) A' (Zx.wo x a b) d' w' (WB a b ha hb) h)
  obtain ⟨E, hE⟩ : ∃ E : Nat → Nat → Int, E = fun a b => Zx.dt p (Zx.wo x a b) := ⟨_, rfl⟩
  have EB : ∀ a b, a < n → b < n → (E a b).natAbs ≤ 1200000000000 := fun a b ha hb => by
    have h := Zx.dt_boundH (n := p) (x := Zx.wo x a b) (by omega) (fun i j hi hj => by have := WB a b ha hb i j hi hj; unfold Zx.ab; omega) (Nat.le_refl p)
    rw [hE]; dsimp only; omega
  have DE := Lib.hid (show ∀ a b, Zx.dt p (Zx.wo x a b) = E a b by rw [hE]; exact fun a b => rfl)
  have EBH := Lib.hid EB
  have CT := Lib.hid (fun (a : Nat) (ha : a < n) (R : Option Addr) (cr : Nat) (w' : World) (h : Lies w' R (Mx.row n (x a))) => contentZ_any R (x a) n cr 20 w' (by omega) h (by decide) (fun j hj => by have := SM a j ha hj; omega))
  have GC := Lib.hid (fun (a : Nat) (b : Int) (w : World) (h1 : a ≤ 1200000000000) (h2 : b.natAbs ≤ 1200000000000) => (show Calls Tryd.prog 13 #[.int .i64 (a : Int), .int .i64 b] w fun e w' => e = .returned (.int .i64 ((Nat.gcd a b.natAbs : Nat) : Int)) ∧ w = w' from gcdZ_any b.natAbs (a : Int) b w (Nat.le_refl _) (by omega) (by omega) (by omega) (by omega)))
  obtain ⟨u, hu⟩ : ∃ u : Nat → Nat, u = fun a => Zx.gs n fun j => (x a j).natAbs := ⟨_, rfl⟩
  obtain ⟨v, hv⟩ : ∃ v : Nat → Nat, v = fun a => Zx.gs n fun j => (E a j).natAbs := ⟨_, rfl⟩
  have UB := Lib.hid (show ∀ a, a < n → u a ≤ 1200000000000 by rw [hu]; exact fun a ha => gs_le n _ fun j hj => by have := SM a j ha hj; omega)
  have VB := Lib.hid (show ∀ a, a < n → v a ≤ 1200000000000 by rw [hv]; exact fun a ha => gs_le n _ fun j hj => EB a j ha hj)
  have UE := Lib.hid (show ∀ a, (Zx.gs n fun j => (x a j).natAbs) = u a by rw [hu]; exact fun a => rfl)
  have VE := Lib.hid (show ∀ a, (Zx.gs n fun j => (E a j).natAbs) = v a by rw [hv]; exact fun a => rfl)
  have GU := Lib.hid (fun k (hk : k ≤ n) => gs_le (M := 1200000000000) k u fun i hi => UB.out i (by omega))
  have GV := Lib.hid (fun k (hk : k ≤ n) => gs_le (M := 1200000000000) k v fun i hi => VB.out i (by omega))
  have GE := Lib.hid (fun a (ha : a < n) k (hk : k ≤ n) => gs_le (M := 1200000000000) k (fun j => (E a j).natAbs) fun i hi => EB a i ha (by omega))
  have ONE := Lib.hid (show Zx.gs n u = Zx.gg n x by rw [hu]; rfl)
  have TWO := Lib.hid (show p = 2 → Zx.gs n v = Zx.gmi p x by
    intro h2
    rw [hv, hE, Zx.gmi_is, hp]; rfl)
  have SPP := Lib.hid (show Zx.spp n x = if n = 1 then [((Zx.dt n x).natAbs : Int)] else if n = 2 then [(Zx.gg n x : Int), (((Zx.dt n x).natAbs / Zx.gg n x : Nat) : Int)] else [(Zx.gg n x : Int), ((Zx.gmi p x / Zx.gg n x : Nat) : Int), (((Zx.dt n x).natAbs / Zx.gmi p x : Nat) : Int)] by
    rcases (by omega : n = 1 ∨ n = 2 ∨ n = 3) with rfl | rfl | rfl
    · rfl
    · rfl
    · obtain rfl : p = 2 := by omega
      rfl)
  have GP := Lib.hid (show 0 < Zx.gg n x from Zx.gg_pos n0 s.ne)
  have MP := Lib.hid (show 0 < Zx.gmi p x from Zx.gmi_pos (by rw [← hp]; exact s.ne))
  have HP := Lib.hid hp
  have TWH := Lib.hid TW
  clear ha s hE hu hv SM WB EB TW hp
  generalize Zx.dt n x = D at *
  go_enter Tryd.func5, Tryd.ntmps5
  go_wp2_with fail
  go_loopw [3, 4, 5, 6] (fun a b i _ wr => ∃ k : Nat, k ≤ n ∧ i = .int .i64 (k : Int) ∧ a = .int .i64 (Zx.gs k u : Int) ∧ b = .int .i64 (Zx.gs k v : Int) ∧ Kp w wr) (fun _ _ i _ _ => n - (intOf i).toNat)
  case atStart => exact ⟨0, Nat.zero_le _, rfl, rfl, rfl, Kp.rfl' w⟩
  case round =>
    obtain ⟨k, hk, rfl, rfl, rfl, hkp⟩ := hrel
    have HK := Lib.hid hkp
    by_cases hlt : k < n
    · obtain ⟨ad, R, cr, rfl, _, x1, _, lr⟩ := (HT.out wr hkp).row hlt
      have C1 := Lib.hid (CT.out k hlt R cr wr lr)
      have b1 := GU.out k hk
      have b2 := UB.out k hlt
      have b3 := GV.out k hk
      have C2 := Lib.hid (fun (w : World) => GC.out (Zx.gs k u) (u k : Int) w b1 (by omega))
      have SU := Lib.hid (show Zx.gs (k + 1) u = Nat.gcd (Zx.gs k u) (u k : Int).natAbs from rfl)
      have SV := Lib.hid (show Zx.gs (k + 1) v = Nat.gcd (Zx.gs k v) (v k) from rfl)
      have UK := Lib.hid (UE.out k)
      have VK := Lib.hid (VE.out k)
      rw [← SU.out] at C2
      rw [UK.out] at C1
      clear lr hkp b2
      go_wp2_with fail
      refine (C1.out).mono ?_; rintro e w' ⟨rfl, rfl⟩
      go_wp2_with fail
      refine (C2.out _).mono ?_; rintro e w' ⟨rfl, rfl⟩
      clear x1 C1 C2
      go_wp2_with fail
      obtain ⟨wo, hwo⟩ : ∃ z, z = wr := ⟨_, rfl⟩
      subst hwo
      go_loopw [4, 6] (fun b j wr => ∃ t : Nat, t ≤ n ∧ j = .int .i64 (t : Int) ∧ b = .int .i64 ((Nat.gcd (Zx.gs k v) (Zx.gs t fun j => (E k j).natAbs) : Nat) : Int) ∧ Kp w wr) (fun _ j _ => n - (intOf j).toNat)
      case atStart => exact ⟨0, Nat.zero_le _, rfl, by rw [gs_zero, Nat.gcd_zero_right], HK.out⟩
      case round =>
        obtain ⟨t, ht, rfl, rfl, hkq⟩ := hrel
        have HQ := Lib.hid hkq
        by_cases htt : t < n
        · have W1 := Lib.hid (WO.out wr hkq k t hlt htt)
          have b4 := gcd_most b3 (GE.out k hlt t ht)
          have b5 := EBH.out k t hlt htt
          have C3 := Lib.hid (fun (w : World) => GC.out (Nat.gcd (Zx.gs k v) (Zx.gs t fun j => (E k j).natAbs)) (E k t) w b4 b5)
          have ST := Lib.hid (show Nat.gcd (Nat.gcd (Zx.gs k v) (Zx.gs t fun j => (E k j).natAbs)) (E k t).natAbs = Nat.gcd (Zx.gs k v) (Zx.gs (t + 1) fun j => (E k j).natAbs) from Nat.gcd_assoc _ _ _)
          have D1 := Lib.hid (fun (w' : World) (A' : Option Addr) (d' : Nat) (h : LiesM w' A' (Mx.tab p p (Zx.wo x k t))) => (show Calls Tryd.prog 7 #[.slice A' p d'] w' fun e w'' => e = .returned (.int .i64 (E k t)) ∧ Kp w' w'' from by rw [← DE.out]; exact DW.out w' k t hlt htt A' d' h))
          rw [ST.out] at C3
          generalize Nat.gcd (Zx.gs k v) (Zx.gs t fun j => (E k j).natAbs) = q at *
          clear hkq b4 b5
          go_wp2_with fail
          refine (W1.out).mono ?_; rintro e w2 ⟨A', d', rfl, l2, k2⟩
          have D2 := Lib.hid (D1.out w2 A' d' l2)
          have K2 := Lib.hid (HQ.out.trans k2)
          clear l2 k2 W1 D1
          go_wp2_with fail
          refine (D2.out).mono ?_; rintro e w3 ⟨rfl, k3⟩
          have K3 := Lib.hid (K2.out.trans k3)
          clear k3
          go_wp2_with fail
          refine (C3.out _).mono ?_; rintro e w4 ⟨rfl, rfl⟩
          go_wp2_with fail
          go_roundw
          case rel => exact ⟨t + 1, by omega, by go_num, rfl, K3.out⟩
          case measure => simp [intOf]; omega
        · obtain rfl : n = t := by omega
          rw [VK.out, ← SV.out]
          clear hkq
          go_wp2_with fail
          go_roundw
          case rel => exact ⟨k + 1, by omega, by go_num, rfl, rfl, HQ.out⟩
          case measure => simp [intOf]; omega
    · obtain rfl : n = k := by omega
      rw [ONE.out]
      have D0 := Lib.hid (DT.out wr hkp)
      have DB := TWH.out
      clear hkp
      go_wp2_with fail
      refine (D0.out).mono ?_; rintro e w2 ⟨rfl, k2⟩
      have K2 := Lib.hid (HK.out.trans k2)
      clear k2
      go_wp2_with fail
      refine (AB.out w2).mono ?_; rintro e w3 ⟨rfl, rfl⟩
      rcases (by omega : n = 1 ∨ n = 2 ∨ n = 3) with h1 | h1 | h1
      · have e1 : ((n : Int) == 1) = true := by rw [beq_iff_eq]; omega
        have SPE := SPP.out
        rw [if_pos h1] at SPE
        have SPX := Lib.hid SPE
        clear SPE
        have H1 := Lib.hid h1
        clear h1
        go_wp2_with fail
        go_ret
        refine ⟨some ⟨w2.heap.size, 0, none⟩, 1, ?_, by rw [SPX.out]; exact lies_new w2 _ [((D.natAbs : Nat) : Int)], K2.out.new _⟩
        rw [H1.out]; rfl
      · have e1 : ((n : Int) == 1) = false := by rw [beq_eq_false_iff_ne]; omega
        have e2 : ((n : Int) == 2) = true := by rw [beq_iff_eq]; omega
        have SPE := SPP.out
        rw [if_neg (by omega), if_pos h1] at SPE
        have H1 := Lib.hid h1
        have gp := GP.out
        have Q1 := quo_natR D.natAbs (Zx.gg n x) (by omega)
        generalize Zx.gg n x = g1 at *
        have SPX := Lib.hid SPE
        clear SPE
        have z1 : ((g1 : Int) == 0) = false := by rw [beq_eq_false_iff_ne]; omega
        have z2 : (g1 : Int) ≠ 0 := by omega
        clear h1 gp
        go_wp2_with fail
        go_ret
        refine ⟨some ⟨w2.heap.size, 0, none⟩, 2, ?_, by rw [SPX.out]; exact lies_new w2 _ [(g1 : Int), ((D.natAbs / g1 : Nat) : Int)], K2.out.new _⟩
        rw [H1.out]; rfl
      · have e1 : ((n : Int) == 1) = false := by rw [beq_eq_false_iff_ne]; omega
        have e2 : ((n : Int) == 2) = false := by rw [beq_eq_false_iff_ne]; omega
        have SPE := SPP.out
        rw [if_neg (by omega), if_neg (by omega)] at SPE
        have H1 := Lib.hid h1
        have gp := GP.out
        have mp := MP.out
        have mb := GV.out n (Nat.le_refl _)
        rw [TWO.out (by have := HP.out; omega)] at mb ⊢
        have Q1 := quo_natW (Zx.gmi p x) (Zx.gg n x) (by omega)
        have Q2 := quo_natW D.natAbs (Zx.gmi p x) (by omega)
        generalize Zx.gg n x = g1 at *
        generalize Zx.gmi p x = g2 at *
        have SPX := Lib.hid SPE
        clear SPE
        have z1 : ((g1 : Int) == 0) = false := by rw [beq_eq_false_iff_ne]; omega
        have z2 : (g1 : Int) ≠ 0 := by omega
        have z3 : ((g2 : Int) == 0) = false := by rw [beq_eq_false_iff_ne]; omega
        have z4 : (g2 : Int) ≠ 0 := by omega
        have z5 : g1 ≠ 0 := by omega
        have z6 : g2 ≠ 0 := by omega
        clear h1 gp mp mb
        go_wp2_with fail
        go_region_law (fail)
        all_goals
          go_wp2_with fail
          go_ret
          refine ⟨some ⟨w2.heap.size, 0, none⟩, 3, ?_, by rw [SPX.out]; exact (lies_new w2 _ [(g1 : Int), ((g2 / g1 : Nat) : Int), ((D.natAbs / g2 : Nat) : Int)]).keep ((Kp.rfl' _).drewN 1), (K2.out.new _).drewN 1⟩
          rw [H1.out]; rfl
end Go.Proofs.YtmimbioffnolaaaDoor

/- Contracts of plain.Told and rankmeresame.Error: of nil and of an Errno. Go's own text of errors.As is walked, by closed facts on the model's entries for internal/reflectlite at this translation's numbers. The one premise: the variable errors.errorType holds its type. -/
namespace Go.Proofs.YtmimbioffnolaaaDoor.Told
open Go.RowKit Go.Extern.Stop Go.Stop Go.Extern
set_option linter.unusedVariables false

theorem valueOfP (t : Addr) (w : World) : (ReflectliteValue.unpack (.iface 56 (.pointer (some t)))).run Tryd.prog w
    = .ok (.agg #[.pointer (some ⟨1, 56, none⟩), .pointer (some ⟨w.heap.size, 0, none⟩), .int .u64 150]) (w.alloc (.cells #[.pointer (some t)] 56)) := by kernel_rfl
theorem typeP (a : Addr) (w : World) : (ReflectliteValue.methodAny (ReflectliteValue.valueError "reflectlite.Value.Type" 0) (fun t _ _ _ => ReflectliteType.toType t) #[.agg #[.pointer (some ⟨1, 56, none⟩), .pointer (some a), .int .u64 150]]).run Tryd.prog w
    = .ok (.iface 81 (.agg #[.pointer (some ⟨1, 56, none⟩)])) w := by kernel_rfl
theorem methodKind (h : Value) (w : World) : (Go.method 226 81 (.agg #[h]) "Kind").run Tryd.prog w = .ok (66, h) w := by kernel_rfl
theorem kindP (w : World) : ((ReflectliteType.abiMethod fun t => (fun a : Nat => Value.int IntKind.u8 (a : Int)) <$> Rtype.kind t) #[.pointer (some ⟨1, 56, none⟩)]).run Tryd.prog w = .ok (.int .u8 22) w := by kernel_rfl
theorem kindE (w : World) : ((ReflectliteType.abiMethod fun t => (fun a : Nat => Value.int IntKind.u8 (a : Int)) <$> Rtype.kind t) #[.pointer (some ⟨1, 45, none⟩)]).run Tryd.prog w = .ok (.int .u8 2) w := by kernel_rfl
theorem rlm (z : Sem Value) (f : TypeId → Addr → Nat → Nat → Sem Value) (v : Value) :
    ReflectliteValue.method z f #[v] = (do match ← ReflectliteValue.parts v with | none => z | some (t, a, fl) => f t a fl (fl % 32)) := rfl
theorem partsP (a : Addr) (w : World) : (ReflectliteValue.parts (.agg #[.pointer (some ⟨1, 56, none⟩), .pointer (some a), .int .u64 150])).run Tryd.prog w = .ok (some (56, a, 150)) w := by kernel_rfl
theorem isNilP (a p : Addr) (W : World) (ha : W.cell? a = some (.pointer (some p))) :
    (ReflectliteValue.method (ReflectliteValue.valueError "reflectlite.Value.IsNil" 0) ReflectliteValue.isNil #[.agg #[.pointer (some ⟨1, 56, none⟩), .pointer (some a), .int .u64 150]]).run Tryd.prog W = .ok (.bool false) W := by
  rw [rlm]
  simp only [Sem.run_bind, partsP, Result.andThen]
  simp [ReflectliteValue.isNil, loadVar, isAgg, underlying, Tryd.underlying56, ha, Result.andThen]
theorem methodElem (h : Value) (w : World) : (Go.method 226 81 (.agg #[h]) "Elem").run Tryd.prog w = .ok (76, .agg #[h]) w := by kernel_rfl
theorem methodImplements (h : Value) (w : World) : (Go.method 226 81 (.agg #[h]) "Implements").run Tryd.prog w = .ok (77, .agg #[h]) w := by kernel_rfl
theorem methodAssignableTo (h : Value) (w : World) : (Go.method 226 81 (.agg #[h]) "AssignableTo").run Tryd.prog w = .ok (74, .agg #[h]) w := by kernel_rfl
theorem elemP (w : World) : (ReflectliteType.method ReflectliteType.elem #[.agg #[.pointer (some ⟨1, 56, none⟩)]]).run Tryd.prog w = .ok (.iface 81 (.agg #[.pointer (some ⟨1, 45, none⟩)])) w := by kernel_rfl
theorem implementsE (w : World) : (ReflectliteType.relation "Implements" ReflectliteType.implements_ #[.agg #[.pointer (some ⟨1, 45, none⟩)], .iface 81 (.agg #[.pointer (some ⟨1, 28, none⟩)])]).run Tryd.prog w = .ok (.bool true) w := by kernel_rfl
theorem typeOfE (v : Value) (w : World) : (ReflectliteType.typeOf #[.iface 45 v]).run Tryd.prog w = .ok (.iface 81 (.agg #[.pointer (some ⟨1, 45, none⟩)])) w := by kernel_rfl
theorem assignableE (w : World) : (ReflectliteType.relation "AssignableTo" ReflectliteType.assignableTo #[.agg #[.pointer (some ⟨1, 45, none⟩)], .iface 81 (.agg #[.pointer (some ⟨1, 45, none⟩)])]).run Tryd.prog w = .ok (.bool true) w := by kernel_rfl
theorem valueOfE (n : Int) (w : World) : (ReflectliteValue.unpack (.iface 45 (.int .i64 n))).run Tryd.prog w
    = .ok (.agg #[.pointer (some ⟨1, 45, none⟩), .pointer (some ⟨w.heap.size, 0, none⟩), .int .u64 130]) (w.alloc (.cells #[.int .i64 n] 45)) := by kernel_rfl
theorem elemOfP (w : World) : (Rtype.elem? 56).run Tryd.prog w = .ok (some 45) w := by kernel_rfl
theorem mkE (p : Addr) (w : World) : (ReflectliteValue.mk 45 p ReflectliteValue.flagAddr).run Tryd.prog w = .ok (.agg #[.pointer (some ⟨1, 45, none⟩), .pointer (some p), .int .u64 386]) w := by kernel_rfl
theorem elemVP (a p : Addr) (W : World) (ha : W.cell? a = some (.pointer (some p))) :
    (ReflectliteValue.method (ReflectliteValue.valueError "reflectlite.Value.Elem" 0) ReflectliteValue.elem #[.agg #[.pointer (some ⟨1, 56, none⟩), .pointer (some a), .int .u64 150]]).run Tryd.prog W
      = .ok (.agg #[.pointer (some ⟨1, 45, none⟩), .pointer (some p), .int .u64 386]) W := by
  rw [rlm]
  simp only [Sem.run_bind, partsP, Result.andThen]
  simp [ReflectliteValue.elem, loadVar, isAgg, underlying, Tryd.underlying56, ha, Result.andThen, elemOfP, mkE]
theorem rls (v x : Value) : ReflectliteValue.set #[v, x] = (do
    let (some (dst, a, fl), some (src, b, _)) := (← ReflectliteValue.parts v, ← ReflectliteValue.parts x)
      | unsupported (.noEntry "extern/(internal/reflectlite.Value).Set.zeroValue")
    if fl / ReflectliteValue.flagAddr % 2 == 0 then unsupported (.noEntry "extern/(internal/reflectlite.Value).Set.unaddressable")
    let val ← loadVar src b
    if ← Rtype.directlyAssignable dst src then storeVar dst a val
    else if ← Rtype.implements dst src then
      if (← Rtype.kind src) == 20 then
        match val with
        | .nilIface => unsupported (.noEntry "extern/reflectlite: a nil value of one interface type handed on as a value of another")
        | _ => storeVar dst a val
      else storeVar dst a (.iface src val)
    else panicString ("reflectlite.Set: value of type " ++ (← Rtype.spelt src) ++ " is not assignable to type " ++ (← Rtype.spelt dst))
    pure (.tuple #[])) := rfl
theorem partsEa (a : Addr) (w : World) : (ReflectliteValue.parts (.agg #[.pointer (some ⟨1, 45, none⟩), .pointer (some a), .int .u64 386])).run Tryd.prog w = .ok (some (45, a, 386)) w := by kernel_rfl
theorem partsE (a : Addr) (w : World) : (ReflectliteValue.parts (.agg #[.pointer (some ⟨1, 45, none⟩), .pointer (some a), .int .u64 130])).run Tryd.prog w = .ok (some (45, a, 130)) w := by kernel_rfl
theorem directE (w : World) : (Rtype.directlyAssignable 45 45).run Tryd.prog w = .ok true w := by kernel_rfl
theorem setE (ta b : Addr) (n : Int) (old : Value) (W : World) (hb : W.cell? b = some (.int .i64 n)) (ht : W.cell? ta = some old) (hf : W.frozen? ta = false) :
    (ReflectliteValue.set #[.agg #[.pointer (some ⟨1, 45, none⟩), .pointer (some ta), .int .u64 386], .agg #[.pointer (some ⟨1, 45, none⟩), .pointer (some b), .int .u64 130]]).run Tryd.prog W
      = .ok (.tuple #[]) (W.setCell ta (.int .i64 n)) := by
  rw [rls]
  simp only [Sem.run_bind, partsEa, partsE, Result.andThen]
  simp [ReflectliteValue.flagAddr, loadVar, isAgg, underlying, Tryd.underlying45, hb, Result.andThen, directE, storeVar, Value.cells, storeCells, Addr.add]
  rw [run_store Tryd.prog W ta _ _ (by rfl)]
  simp [ht, hf]

/-- The variable errors.errorType holds its type. -/
abbrev Laid (w : World) : Prop := w.cell? ⟨0, 0, none⟩ = some (.iface 81 (.agg #[.pointer (some ⟨1, 28, none⟩)]))

theorem laid_lt {w : World} (h : Laid w) : 0 < w.heap.size := by
  have h1 : w.cell? ⟨0, 0, none⟩ = some (.iface 81 (.agg #[.pointer (some ⟨1, 28, none⟩)])) := h
  rcases Nat.lt_or_ge 0 w.heap.size with h' | h'
  · exact h'
  · have e : w.heap[0]? = none := Array.getElem?_eq_none h'
    simp [World.cell?, e] at h1

set_option maxHeartbeats 4000000 in
theorem as_hit (n : Int) (t : Addr) (old : Value) (w : World) (hg : Laid w) (ht0 : w.cell? t = some old) (hf0 : w.frozen? t = false) :
    Calls Tryd.prog 26 #[.iface 45 (.int .i64 n), .iface 56 (.pointer (some t))] w fun ev w' => ev = .returned (.bool true) ∧ w' = ((((w.alloc (.cells #[.pointer (some t)] 56)).alloc (.cells #[.pointer (some ⟨1, 56, none⟩), .pointer (some ⟨w.heap.size, 0, none⟩), .int .u64 150] 67)).alloc (.cells #[.pointer (some ⟨1, 56, none⟩), .pointer (some ⟨w.heap.size, 0, none⟩), .int .u64 150] 67)).alloc (.cells #[.int .i64 n] 45)).setCell t (.int .i64 n) := by
  have h6 := @run_callFunc_extern Tryd.prog 37 _ (fun args => ReflectliteValue.unpack (args.getD 0 (.tuple #[]))) Tryd.func37 (by kernel_rfl) (by kernel_rfl) (by kernel_rfl) (by kernel_rfl)
  have h7 := @run_callFunc_extern Tryd.prog 38 _ (ReflectliteValue.methodAny (ReflectliteValue.valueError "reflectlite.Value.Type" 0) (fun t _ _ _ => ReflectliteType.toType t)) Tryd.func38 (by kernel_rfl) (by kernel_rfl) (by kernel_rfl) (by kernel_rfl)
  have h8 := @run_callFunc_extern Tryd.prog 39 _ (ReflectliteValue.method (ReflectliteValue.valueError "reflectlite.Value.IsNil" 0) ReflectliteValue.isNil) Tryd.func39 (by kernel_rfl) (by kernel_rfl) (by kernel_rfl) (by kernel_rfl)
  have h27 := @run_callFunc_extern Tryd.prog 66 _ (ReflectliteType.abiMethod fun t => do pure (.int .u8 (← Rtype.kind t))) Tryd.func66 (by kernel_rfl) (by kernel_rfl) (by kernel_rfl) (by kernel_rfl)
  have h37 := @run_callFunc_extern Tryd.prog 76 _ (ReflectliteType.method ReflectliteType.elem) Tryd.func76 (by kernel_rfl) (by kernel_rfl) (by kernel_rfl) (by kernel_rfl)
  have h38 := @run_callFunc_extern Tryd.prog 77 _ (ReflectliteType.relation "Implements" ReflectliteType.implements_) Tryd.func77 (by kernel_rfl) (by kernel_rfl) (by kernel_rfl) (by kernel_rfl)
  have h10 := @run_callFunc_extern Tryd.prog 46 _ ReflectliteType.typeOf Tryd.func46 (by kernel_rfl) (by kernel_rfl) (by kernel_rfl) (by kernel_rfl)
  have h35 := @run_callFunc_extern Tryd.prog 74 _ (ReflectliteType.relation "AssignableTo" ReflectliteType.assignableTo) Tryd.func74 (by kernel_rfl) (by kernel_rfl) (by kernel_rfl) (by kernel_rfl)
  have h11 := @run_callFunc_extern Tryd.prog 47 _ (ReflectliteValue.method (ReflectliteValue.valueError "reflectlite.Value.Elem" 0) ReflectliteValue.elem) Tryd.func47 (by kernel_rfl) (by kernel_rfl) (by kernel_rfl) (by kernel_rfl)
  have h12 := @run_callFunc_extern Tryd.prog 48 _ ReflectliteValue.set Tryd.func48 (by kernel_rfl) (by kernel_rfl) (by kernel_rfl) (by kernel_rfl)
  have tO := typeOfE
  have mA := methodAssignableTo
  have a25 := assignableE
  have v25 := valueOfE
  have f6 := valueOfP
  have f7 := typeP
  have mK := methodKind
  have mE := methodElem
  have mI := methodImplements
  have k27 := kindP
  have k25 := kindE
  have e27 := elemP
  have i25 := implementsE
  have n8 := isNilP ⟨w.heap.size, 0, none⟩ t ((w.alloc (.cells #[.pointer (some t)] 56)).alloc (.cells #[.pointer (some ⟨1, 56, none⟩), .pointer (some ⟨w.heap.size, 0, none⟩), .int .u64 150] 67)) (by simp)
  have hlt : 0 < w.heap.size := laid_lt hg
  have hg2 : ((w.alloc (.cells #[.pointer (some t)] 56)).alloc (.cells #[.pointer (some ⟨1, 56, none⟩), .pointer (some ⟨w.heap.size, 0, none⟩), .int .u64 150] 67)).cell? ⟨0, 0, none⟩ = some (.iface 81 (.agg #[.pointer (some ⟨1, 28, none⟩)])) := by
    rw [World.cell?_alloc_lt _ _ ⟨0, 0, none⟩ (by show 0 < (w.heap.push _).size; rw [Array.size_push]; omega), World.cell?_alloc_lt _ _ ⟨0, 0, none⟩ hlt]; exact hg
  have htl : t.block < w.heap.size := by
    rcases Nat.lt_or_ge t.block w.heap.size with h | h
    · exact h
    · simp [World.cell?, Array.getElem?_eq_none h] at ht0
  have el := elemVP ⟨w.heap.size, 0, none⟩ t (((w.alloc (.cells #[.pointer (some t)] 56)).alloc (.cells #[.pointer (some ⟨1, 56, none⟩), .pointer (some ⟨w.heap.size, 0, none⟩), .int .u64 150] 67)).alloc (.cells #[.pointer (some ⟨1, 56, none⟩), .pointer (some ⟨w.heap.size, 0, none⟩), .int .u64 150] 67)) (by rw [World.cell?_alloc_lt _ _ ⟨w.heap.size, 0, none⟩ (by simp; omega)]; simp)
  have st := setE t ⟨w.heap.size + 1 + 1 + 1, 0, none⟩ n old ((((w.alloc (.cells #[.pointer (some t)] 56)).alloc (.cells #[.pointer (some ⟨1, 56, none⟩), .pointer (some ⟨w.heap.size, 0, none⟩), .int .u64 150] 67)).alloc (.cells #[.pointer (some ⟨1, 56, none⟩), .pointer (some ⟨w.heap.size, 0, none⟩), .int .u64 150] 67)).alloc (.cells #[.int .i64 n] 45))
    (by rw [World.cell?_alloc_at _ _ _ _ (by simp)]; rfl)
    (by rw [World.cell?_alloc_lt _ _ t (by simp; omega), World.cell?_alloc_lt _ _ t (by simp; omega), World.cell?_alloc_lt _ _ t (by simp; omega), World.cell?_alloc_lt _ _ t htl]; exact ht0)
    (by rw [World.frozen?_alloc_old _ _ t (by simp; omega), World.frozen?_alloc_old _ _ t (by simp; omega), World.frozen?_alloc_old _ _ t (by simp; omega), World.frozen?_alloc_old _ _ t (Nat.ne_of_lt htl)]; exact hf0)
  go_enter Tryd.func26, Tryd.ntmps26
  go_wp2
  refine wp_loop_rounds 1 ?_
  rw [rounds_succ]
  go_wp2
  go_ret
  exact ⟨rfl, rfl⟩

end Go.Proofs.YtmimbioffnolaaaDoor.Told

/- Contracts of plain.Told and rankmeresame.Error: of nil and of an Errno; nothing that was there turns. The one premise: the variable errors.errorType holds its type. -/
namespace Go.Proofs.YtmimbioffnolaaaDoor
open Go.RowKit Go.Proofs.YtmimbioffnolaaaDoor.Told
set_option linter.unusedVariables false

theorem laid_kp {w w' : World} (h : Laid w) (hg : Kp w w') : Laid w' :=
  (hg.cell (p := ⟨0, 0, none⟩) (laid_lt h)).trans h

theorem toldK_nil (w : World) :
    Calls Tryd.prog 19 #[.nilIface] w fun e w' => e = .returned (.int .i64 0) ∧ w = w' := by
  go_enter Tryd.func19, Tryd.ntmps19
  go_wp2
  go_ret
  exact ⟨rfl, rfl⟩

set_option maxHeartbeats 4000000 in
theorem toldK_hit (n : Int) (w : World) (hg : Laid w) :
    Calls Tryd.prog 19 #[.iface 45 (.int .i64 n)] w fun e w' => e = .returned (.int .i64 n) ∧ Kp w w' := by
  have hgA := Lib.hid (laid_kp hg ((Kp.rfl' w).new (.cells #[.int .i64 0] 45)))
  clear hg
  go_enter Tryd.func19, Tryd.ntmps19
  go_wp2_with (go_at_call 26; refine (as_hit n _ (.int .i64 0) _ hgA.out (by simp) (by simp)).mono ?_; rintro e w' ⟨rfl, rfl⟩)
  go_ret
  exact ⟨rfl, ((((((Kp.rfl' w).new _).new _).new _).new _).new _)⟩

/-- rankmeresame.Error on no error. -/
theorem errorK_nil (c : Int) (w : World) (b : Bool) (hb : ((0 : Int) == c) = b) :
    Calls Tryd.prog 9 #[.nilIface, .int .i64 c] w fun e w' => e = .returned (.bool b) ∧ Kp w w' := by
  have H := Lib.hid hb
  clear hb
  go_enter Tryd.func9, Tryd.ntmps9
  go_wp2_with (go_at_call 19; refine (toldK_nil _).mono ?_; rintro e w' ⟨rfl, rfl⟩)
  go_ret
  exact ⟨congrArg (fun b => Ending.returned (.bool b)) H.out, Kp.rfl' _⟩

/-- rankmeresame.Error on an Errno. -/
theorem errorK_hit (n c : Int) (w : World) (hg : Laid w) (hn : 0 ≤ n ∧ n ≤ 100) (b : Bool) (hb : (n == c) = b) :
    Calls Tryd.prog 9 #[.iface 45 (.int .i64 n), .int .i64 c] w fun e w' => e = .returned (.bool b) ∧ Kp w w' := by
  have H := Lib.hid hb
  have HG := Lib.hid hg
  clear hb hg
  go_enter Tryd.func9, Tryd.ntmps9
  go_wp2_with (go_at_call 19; refine (toldK_hit _ _ HG.out).mono ?_; rintro e w' ⟨rfl, hw⟩)
  go_ret
  exact ⟨congrArg (fun b => Ending.returned (.bool b)) H.out, hw⟩

end Go.Proofs.YtmimbioffnolaaaDoor

/- rankmeresame.Error at the errors by number. -/
namespace Go.Proofs.YtmimbioffnolaaaDoor
open Go.ChangeShapes Go.WideShapes Go.ChangeAt Go.RowKit
set_option linter.unusedVariables false

/-- Error says yes to the error that is told. -/
theorem error_says (c : Nat) (w : World) (hl : Told.Laid w) (hc : c ≤ 100) :
    Calls Tryd.prog 9 #[errOf c, .int .i64 (c : Int)] w fun e w' => e = .returned (.bool true) ∧ Kp w w' := by
  by_cases h : c = 0
  · subst h; exact errorK_nil 0 w true rfl
  · rw [errOf_ne c h]
    exact errorK_hit c c w hl (by omega) true (by simp)

end Go.Proofs.YtmimbioffnolaaaDoor

/- The law SmithSays. -/
namespace Go.Proofs.YtmimbioffnolaaaDoor
open Go.ChangeShapes Go.WideShapes Go.ChangeAt Go.RowKit
set_option linter.unusedVariables false

set_option maxRecDepth 100000 in
set_option maxHeartbeats 1600000 in
theorem walk_SmithSays_ok {n : Nat} {x : Nat → Nat → Int} {m : List (List Int)} (s : Hm n x m) (A : Option Addr) (c : Nat) (w : World) (hL : Told.Laid w) (ha : LiesM w A m) :
    Calls Tryd.prog 3 #[.slice A n c] w fun e w' => e = .returned (.bool true) ∧ Kp w w' := by
  have RM := Lib.hid (fun w' (q : Kp w w') => (show Calls Tryd.prog 4 #[.slice A n c] w' fun e w'' => e = .returned (.int .i64 0) ∧ Kp w' w'' from by
    have h := rHRows_any A m n c w' (ha.keep q) s.sh.len
    rwa [s.code] at h))
  have RP := Lib.hid (fun w' (q : Kp w w') => rParts_any s A c w' (ha.keep q))
  have DT := Lib.hid (fun w' (q : Kp w w') => s.sh.det A c w' (ha.keep q))
  have TW := Zx.dt_twenty s.sh.n3 s.sh.small
  unfold Zx.ab at TW
  have AB := Lib.hid (fun w => show Calls Tryd.prog 6 #[.int .i64 (Zx.dt n x)] w fun e w' => e = .returned (.int .i64 ((Zx.dt n x).natAbs : Int)) ∧ w = w' from absZ_any (Zx.dt n x) w (by omega) (by omega))
  have OP := Lib.hid (fun w' (q : Kp w w') => Parts_ok s A c w' (ha.keep q))
  have OI := Lib.hid (fun w' (q : Kp w w') => Index_ok s A c w' (ha.keep q))
  have ER := Lib.hid (fun (w' : World) (q : Kp w w') => (show Calls Tryd.prog 9 #[.nilIface, .int .i64 0] w' fun e w'' => e = .returned (.bool true) ∧ Kp w' w'' from by
    have h := error_says 0 w' (laid_kp hL q) (by decide)
    rwa [errOf_zero] at h))
  have SL := Lib.hid (Zx.spp_pts s.sh.n0 s.sh.n3 s.ne).len
  have n3 := s.sh.n3
  have EQ := Lib.hid (fun (w' : World) (A1 A2 : Option Addr) (d1 d2 : Nat) (h1 : Lies w' A1 (Zx.spp n x)) (h2 : Lies w' A2 (Zx.spp n x)) => same_eq A1 A2 (Zx.spp n x) (Zx.spp n x) n n d1 d2 w' h1 h2 SL.out.symm SL.out.symm (by omega) rfl)
  clear s ha hL TW
  generalize Zx.dt n x = D at *
  have ee : ((D.natAbs : Int) == (D.natAbs : Int)) = true := by simp
  go_enter Tryd.func3, Tryd.ntmps3
  go_wp2_with fail
  refine (RM.out w (Kp.rfl' w)).mono ?_; rintro e1 w1 ⟨rfl, k1⟩
  have K1 := Lib.hid k1; clear k1
  go_wp2_with fail
  refine (RP.out w1 K1.out).mono ?_; rintro e1 w2 ⟨A2, d2, rfl, l2, k2⟩
  have K2 := Lib.hid (K1.out.trans k2)
  have L2 := Lib.hid l2
  clear k2 l2
  go_wp2_with fail
  refine (DT.out w2 K2.out).mono ?_; rintro e1 w3 ⟨rfl, k3⟩
  have K3 := Lib.hid (K2.out.trans k3)
  have L3 := Lib.hid (L2.out.keep k3)
  clear k3 L2
  go_wp2_with fail
  refine (AB.out w3).mono ?_; rintro e1 w3' ⟨rfl, rfl⟩
  go_wp2_with fail
  refine (OP.out w3 K3.out).mono ?_; rintro e1 w4 ⟨g, rfl, hr, _, k4⟩
  have K4 := Lib.hid (K3.out.trans k4)
  have L4 := Lib.hid (L3.out.keep k4)
  have R4 := Lib.hid hr.lies
  clear k4 hr L3
  go_wp2_with fail
  refine (ER.out w4 K4.out).mono ?_; rintro e1 w5 ⟨rfl, k5⟩
  have K5 := Lib.hid (K4.out.trans k5)
  have E5 := Lib.hid (EQ.out w5 (some ⟨g, 0, none⟩) A2 n d2 (R4.out.keep k5) (L4.out.keep k5))
  clear k5 L4 R4
  go_wp2_with fail
  refine (E5.out).mono ?_; rintro e1 w6 ⟨rfl, k6⟩
  have K6 := Lib.hid (K5.out.trans k6)
  clear k6
  go_wp2_with fail
  refine (OI.out w6 K6.out).mono ?_; rintro e1 w7 ⟨rfl, k7⟩
  have K7 := Lib.hid (K6.out.trans k7)
  clear k7
  go_wp2_with fail
  refine (ER.out w7 K7.out).mono ?_; rintro e1 w8 ⟨rfl, k8⟩
  have K8 := Lib.hid (K7.out.trans k8)
  clear k8
  go_wp2_with fail
  go_ret
  exact ⟨rfl, K8.out⟩
set_option maxRecDepth 100000 in
set_option maxHeartbeats 1600000 in
theorem walk_SmithSays_no (A : Option Addr) (m : List (List Int)) (n c : Nat) (w : World) (hL : Told.Laid w) (ha : LiesM w A m) (hn : m.length = n) (hz : hcd m ≠ 0) :
    Calls Tryd.prog 3 #[.slice A n c] w fun e w' => e = .returned (.bool true) ∧ Kp w w' := by
  have RM := Lib.hid (fun w' (q : Kp w w') => rHRows_any A m n c w' (ha.keep q) hn)
  have OP := Lib.hid (fun w' (q : Kp w w') => Parts_no A m n c w' (ha.keep q) hn hz)
  have OI := Lib.hid (fun w' (q : Kp w w') => Index_no A m n c w' (ha.keep q) hn hz)
  have h6 := hcd_le m
  have ER := Lib.hid (fun (w' : World) (q : Kp w w') => error_says (hcd m) w' (laid_kp hL q) (by omega))
  have hzb : (((hcd m : Nat) : Int) == 0) = false := by rw [beq_eq_false_iff_ne]; omega
  have SN := Lib.hid same_nil
  generalize hcd m = z at *
  obtain ⟨v, hv⟩ : ∃ v, v = errOf z := ⟨_, rfl⟩
  rw [← hv] at OP OI ER
  clear ha hL hn hz h6 hv
  go_enter Tryd.func3, Tryd.ntmps3
  go_wp2_with fail
  refine (RM.out w (Kp.rfl' w)).mono ?_; rintro e1 w1 ⟨rfl, k1⟩
  have K1 := Lib.hid k1; clear k1
  go_wp2_with fail
  refine (OP.out w1 K1.out).mono ?_; rintro e1 w4 ⟨rfl, k4⟩
  have K4 := Lib.hid (K1.out.trans k4)
  clear k4
  go_wp2_with fail
  refine (ER.out w4 K4.out).mono ?_; rintro e1 w5 ⟨rfl, k5⟩
  have K5 := Lib.hid (K4.out.trans k5)
  clear k5
  go_wp2_with fail
  refine (SN.out w5).mono ?_; rintro e1 w6 ⟨rfl, k6⟩
  have K6 := Lib.hid (K5.out.trans k6)
  clear k6
  go_wp2_with fail
  refine (OI.out w6 K6.out).mono ?_; rintro e1 w7 ⟨rfl, k7⟩
  have K7 := Lib.hid (K6.out.trans k7)
  clear k7
  go_wp2_with fail
  refine (ER.out w7 K7.out).mono ?_; rintro e1 w8 ⟨rfl, k8⟩
  have K8 := Lib.hid (K7.out.trans k8)
  clear k8
  go_wp2_with fail
  go_ret
  exact ⟨rfl, K8.out⟩
theorem walk_SmithSays (A : Option Addr) (m : List (List Int)) (c : Nat) (w : World) (hL : Told.Laid w) (ha : LiesM w A m) :
    Calls Tryd.prog 3 #[.slice A m.length c] w fun e w' => e = .returned (.bool true) ∧ Kp w w' := by
  rcases hm_or m rfl with ⟨x, s⟩ | h
  · exact walk_SmithSays_ok s A c w hL ha
  · exact walk_SmithSays_no A m m.length c w hL ha rfl h
end Go.Proofs.YtmimbioffnolaaaDoor
