/- Plain facts on the program's way with two places: the nearest multiple of the one taken from the other one, changed about while it gets nearer; what is a sum of both. No program is named here. -/
import Derived.Test.YtlnehhhlpdaebaaLagF
namespace Go.Proofs.Ytlnehhhlpdaebaa.Lag
set_option linter.unusedVariables false

/-- The whole number next to n through d. -/
def nrst (n d : Int) : Int := if d < 2 * n.tmod d then n.tdiv d + 1 else if 2 * n.tmod d < -d then n.tdiv d - 1 else n.tdiv d
theorem nrst_facts {n d : Int} (hd : 0 < d) : -d ≤ 2 * (n - nrst n d * d) ∧ 2 * (n - nrst n d * d) ≤ d ∧ (n - nrst n d * d).natAbs ≤ n.natAbs := by
  have e : d * n.tdiv d + n.tmod d = n := Int.mul_tdiv_add_tmod n d
  have h1 : n.tmod d < d := Int.tmod_lt_of_pos n hd
  have h2 : -d < n.tmod d := by
    have := Int.tmod_lt_of_pos (-n) hd
    rw [Int.neg_tmod] at this; omega
  have h3 : 0 ≤ n → 0 ≤ n.tmod d := fun h => Int.tmod_nonneg d h
  have h4 : n ≤ 0 → n.tmod d ≤ 0 := fun h => by
    have := Int.tmod_nonneg d (show 0 ≤ -n by omega)
    rw [Int.neg_tmod] at this; omega
  have h5 : (n.tmod d).natAbs ≤ n.natAbs := by
    rw [Int.natAbs_tmod]; exact Nat.mod_le _ _
  obtain ⟨q, hq⟩ : ∃ q, q = n.tdiv d := ⟨_, rfl⟩
  obtain ⟨r, hr⟩ : ∃ r, r = n.tmod d := ⟨_, rfl⟩
  rw [← hq, ← hr] at e
  rw [← hr] at h1 h2 h3 h4 h5
  unfold nrst
  rw [← hq, ← hr]
  split
  · have e1 : n - (q + 1) * d = r - d := by grind
    rw [e1]; omega
  · split
    · have e1 : n - (q - 1) * d = r + d := by grind
      rw [e1]; omega
    · have e1 : n - q * d = r := by grind
      rw [e1]; omega

/-- A place with the nearest multiple of another one taken from it. -/
def shrt (x y : V) : V := (y.1 - nrst (ip y x) (nn x) * x.1, y.2 - nrst (ip y x) (nn x) * x.2)
theorem shrt_cb (x y : V) : shrt x y = cb x y (-(nrst (ip y x) (nn x))) 1 := by
  unfold shrt cb; exact Prod.ext (by dsimp only; grind) (by dsimp only; grind)
theorem ip_shrt (x y : V) : ip x (shrt x y) = ip y x - nrst (ip y x) (nn x) * nn x := by
  obtain ⟨t, ht⟩ : ∃ t, t = nrst (ip y x) (nn x) := ⟨_, rfl⟩
  unfold shrt; rw [← ht]; unfold ip nn; grind
/-- It is no further than it was. -/
theorem nn_shrt {x : V} (y : V) (hx : 0 < nn x) : nn (shrt x y) ≤ nn y := by
  have h := (nrst_facts (n := ip y x) hx).2.2
  have e1 := lagrange x y
  have e2 := lagrange x (shrt x y)
  have e3 : ar x (shrt x y) = ar x y := by
    obtain ⟨t, ht⟩ : ∃ t, t = nrst (ip y x) (nn x) := ⟨_, rfl⟩
    unfold shrt; rw [← ht]; unfold ar; grind
  rw [e3] at e2
  have e4 : ip x y = ip y x := by unfold ip; grind
  rw [ip_shrt] at e2
  rw [e4] at e1
  obtain ⟨z, hz⟩ : ∃ z, z = ip y x - nrst (ip y x) (nn x) * nn x := ⟨_, rfl⟩
  rw [← hz] at h e2
  have h6 : z * z ≤ ip y x * ip y x := by
    have k1 : (z * z).natAbs ≤ (ip y x * ip y x).natAbs := by rw [Int.natAbs_mul, Int.natAbs_mul]; exact Nat.mul_le_mul h h
    have k2 := sq_nn z
    have k3 := sq_nn (ip y x)
    omega
  rcases Int.lt_or_le (nn y) (nn (shrt x y)) with hl | hl
  · exfalso
    have := Int.mul_lt_mul_of_pos_left hl hx
    omega
  · exact hl

/-- Two places x, y with the same sums as u and v, and as large an area, neither one too far. -/
structure Way (u v x y : V) : Prop where
  sum : ∀ z, Sum u v z ↔ Sum x y z
  area : ar x y * ar x y = ar u v * ar u v
  one : nn x ≤ 2000000
  two : nn y ≤ 2000000
theorem Way.start {u v : V} (h1 : nn u ≤ 2000000) (h2 : nn v ≤ 2000000) : Way u v u v := ⟨fun _ => Iff.rfl, rfl, h1, h2⟩
theorem Way.swap {u v x y : V} (h : Way u v x y) : Way u v y x := ⟨fun z => (h.sum z).trans (sum_swap x y z), by rw [← h.area]; unfold ar; grind, h.two, h.one⟩
theorem Way.pos {u v x y : V} (h : Way u v x y) (h0 : ar u v ≠ 0) : 0 < nn x := by
  have h1 := nn_pos x
  rcases Int.lt_or_eq_of_le h1 with h2 | h2
  · exact h2
  · exfalso
    have h3 := nn_zero h2.symm
    have h4 := h.area
    have h5 := sq_ge h0
    rw [h3] at h4
    have e : ar (0, 0) y = 0 := by unfold ar; grind
    rw [e] at h4; omega
theorem Way.short {u v x y : V} (h : Way u v x y) (h0 : ar u v ≠ 0) : Way u v x (shrt x y) := by
  refine ⟨fun z => (h.sum z).trans ?_, ?_, h.one, Int.le_trans (nn_shrt y (h.pos h0)) h.two⟩
  · rw [shrt_cb]; exact sum_less x y _ z
  · rw [← h.area, shrt_cb, show ar x (cb x y (-(nrst (ip y x) (nn x))) 1) = ar x y by unfold ar cb; grind]
/-- What the two least are. -/
structure GotS (u v : V) (a c : Int) : Prop where
  mins : Mins (Sum u v) a c
  pos : 1 ≤ a
  le : a ≤ c
  high : c ≤ 2000000
  low : ar u v * ar u v ≤ a * c
  top : 3 * (a * c) ≤ 4 * (ar u v * ar u v)
theorem GotS.one {u v : V} {a c b d : Int} (h : GotS u v a c) (k : GotS u v b d) : a = b ∧ c = d := h.mins.same k.mins
theorem GotS.congr {u v x y : V} {a c : Int} (h : GotS u v a c) (e : ∀ z, Sum u v z ↔ Sum x y z) (f : ar x y * ar x y = ar u v * ar u v) : GotS x y a c :=
  ⟨h.mins.congr e, h.pos, h.le, h.high, by rw [f]; exact h.low, by rw [f]; exact h.top⟩
theorem Way.got {u v x y : V} (h : Way u v x (shrt x y)) (h0 : ar u v ≠ 0) (hl : nn x ≤ nn (shrt x y)) : GotS u v (nn x) (nn (shrt x y)) := by
  have p := h.pos h0
  obtain ⟨f1, f2, _⟩ := nrst_facts (n := ip y x) p
  rw [← ip_shrt] at f1 f2
  have r : Red (nn x) (2 * ip x (shrt x y)) (nn (shrt x y)) := ⟨p, hl, f1, f2⟩
  have l := lagrange x (shrt x y)
  rw [h.area] at l
  obtain ⟨r1, r2⟩ := r.area (d := ar u v * ar u v) (by rw [← l]; grind)
  exact ⟨r.mins.congr fun z => (h.sum z).symm, by omega, hl, h.two, r1, r2⟩
/-- By the form of two places, however it came: a, b, c with the same sums. -/
theorem Fo.got {u v : V} {a b c : Int} (h : Fo u v a b c) (h0 : ar u v ≠ 0) (h1 : a ≤ c) (h2 : b ≤ a) (h3 : -a ≤ b) (h4 : c ≤ 2000000) : GotS u v a c := by
  have m := h.end' h0 h1 h2 h3
  obtain ⟨p1, p2, p3⟩ := h.facts h0
  obtain ⟨r1, r2⟩ := Red.area (a := a) (b := b) (c := c) ⟨p1, h1, h3, h2⟩ p3
  exact ⟨m, by omega, h1, h4, r1, r2⟩
/-- Any sum but none of both is as far as the nearest. -/
theorem GotS.least {u v : V} {a c : Int} (h : GotS u v a c) (h0 : ar u v ≠ 0) {i j : Int} (hij : ¬ (i = 0 ∧ j = 0)) : a ≤ nn (cb u v i j) := by
  refine h.mins.least _ ⟨i, j, rfl⟩ fun e => hij ?_
  have e1 : ar (cb u v i j) v = i * ar u v := by unfold ar cb; grind
  have e2 : ar u (cb u v i j) = j * ar u v := by unfold ar cb; grind
  rw [e] at e1 e2
  rw [show ar (0, 0) v = 0 by unfold ar; grind] at e1
  rw [show ar u (0, 0) = 0 by unfold ar; grind] at e2
  exact ⟨(Int.mul_eq_zero.1 e1.symm).resolve_right h0, (Int.mul_eq_zero.1 e2.symm).resolve_right h0⟩
/-- What is a sum, by Cramer's rule. -/
theorem sum_iff {u v : V} (h0 : ar u v ≠ 0) (p : V) : Sum u v p ↔ (ar p v).tmod (ar u v) = 0 ∧ (ar u p).tmod (ar u v) = 0 := by
  constructor
  · rintro ⟨i, j, rfl⟩
    have e1 : ar (cb u v i j) v = ar u v * i := by unfold ar cb; grind
    have e2 : ar u (cb u v i j) = ar u v * j := by unfold ar cb; grind
    rw [e1, e2]
    exact ⟨Int.mul_tmod_right _ _, Int.mul_tmod_right _ _⟩
  · rintro ⟨h1, h2⟩
    obtain ⟨i, hi⟩ := Int.dvd_of_tmod_eq_zero h1
    obtain ⟨j, hj⟩ := Int.dvd_of_tmod_eq_zero h2
    refine ⟨i, j, ?_⟩
    have e1 : ar u v * p.1 = ar p v * u.1 + ar u p * v.1 := by unfold ar; grind
    have e2 : ar u v * p.2 = ar p v * u.2 + ar u p * v.2 := by unfold ar; grind
    rw [hi, hj] at e1 e2
    unfold cb
    refine Prod.ext (Int.eq_of_mul_eq_mul_left h0 ?_) (Int.eq_of_mul_eq_mul_left h0 ?_)
    · dsimp only; rw [e1]; grind
    · dsimp only; rw [e2]; grind
theorem sum_abs {u v : V} {n : Int} (h0 : ar u v ≠ 0) (hn : n = ar u v ∨ n = -ar u v) (p : V) : Sum u v p ↔ (ar p v).tmod n = 0 ∧ (ar u p).tmod n = 0 := by
  rw [sum_iff h0]
  rcases hn with rfl | rfl
  · exact Iff.rfl
  · rw [Int.tmod_neg, Int.tmod_neg]

/-- How large the coordinates of a place are. -/
theorem side {x y M : Int} (hM : x * x + y * y ≤ 2000000) : (-1500 ≤ x ∧ x ≤ 1500) ∧ (-1500 ≤ y ∧ y ≤ 1500) := by
  have one : ∀ {a b : Int}, a * a + b * b ≤ 2000000 → -1500 ≤ a ∧ a ≤ 1500 := by
    intro a b h
    have hb := sq_nn b
    have hs : a.natAbs * a.natAbs ≤ 2000000 := by
      have e : (a * a).natAbs = a.natAbs * a.natAbs := Int.natAbs_mul a a
      have := sq_nn a
      omega
    rcases Nat.lt_or_ge 1500 a.natAbs with h1 | h1
    · exfalso
      have := Nat.mul_le_mul h1 h1
      omega
    · omega
  exact ⟨one hM, one (a := y) (b := x) (by omega)⟩
/-- A product of two numbers of such sizes. -/
theorem prod_le {x y : Int} (a b : Nat) (h1 : -(a : Int) ≤ x ∧ x ≤ a) (h2 : -(b : Int) ≤ y ∧ y ≤ b) : -((a * b : Nat) : Int) ≤ x * y ∧ x * y ≤ ((a * b : Nat) : Int) := by
  have : (x * y).natAbs ≤ a * b := by rw [Int.natAbs_mul]; exact Nat.mul_le_mul (by omega) (by omega)
  omega
theorem nrst_le {n d : Int} {M : Nat} (hd : 0 < d) (hn : -(M : Int) ≤ n ∧ n ≤ M) : -(2 * (M : Int)) ≤ nrst n d ∧ nrst n d ≤ 2 * (M : Int) := by
  obtain ⟨h1, h2, h3⟩ := nrst_facts (n := n) hd
  obtain ⟨t, ht⟩ : ∃ t, t = nrst n d := ⟨_, rfl⟩
  rw [← ht] at h1 h2 h3 ⊢
  have h4 : (t * d).natAbs ≤ 2 * M := by omega
  rw [Int.natAbs_mul] at h4
  have h5 : t.natAbs * 1 ≤ t.natAbs * d.natAbs := Nat.mul_le_mul_left _ (by omega)
  omega
end Go.Proofs.Ytlnehhhlpdaebaa.Lag
