/- Several texts, one behind the other: MatE, MatD, MatA, Ct, MatL, MatZ, MatH, MatB, BaC1, Clone, BaC2, DeM, OwnH, DeC1. -/
import Derived.Test.YtbdpcpodmmhjaaaTopRealProofG2
import Derived.StillTailTactics
import Derived.Test.YtbdpcpodmmhjaaaTopRealProofG1
import Derived.Deep.LoopGhost

/- Plain facts on matrices over the field: rows that come of one another, the form in steps, that there is but one, its rank; the next step. No program is named here. -/
namespace Go.Proofs.Ytbdpcpodmmhjaaa.Mx
open Fp
set_option linter.unusedVariables false

/-- The rows of each come of the rows of the other. -/
def Req (r c : Nat) (f g : Nat → Nat → F) : Prop := (∃ s, Eqm r c f (mul r s g)) ∧ ∃ t, Eqm r c g (mul r t f)
theorem Req.of (r c : Nat) {f g : Nat → Nat → F} (h : Eqm r c f g) : Req r c f g := ⟨⟨one, h.trans (one_mul r c g).symm⟩, ⟨one, h.symm.trans (one_mul r c f).symm⟩⟩
theorem Req.refl (r c : Nat) (f : Nat → Nat → F) : Req r c f f := Req.of r c (Eqm.rfl' r c f)
theorem Req.symm {r c : Nat} {f g : Nat → Nat → F} (h : Req r c f g) : Req r c g f := ⟨h.2, h.1⟩
theorem come {r c : Nat} {f g k : Nat → Nat → F} (h : ∃ s, Eqm r c f (mul r s g)) (h' : ∃ s, Eqm r c g (mul r s k)) : ∃ s, Eqm r c f (mul r s k) := by
  obtain ⟨s, h⟩ := h
  obtain ⟨t, h'⟩ := h'
  refine ⟨mul r s t, h.trans ?_⟩
  rw [mul_assoc]
  exact (Eqm.rfl' r r s).mul h'
theorem Req.trans {r c : Nat} {f g k : Nat → Nat → F} (h : Req r c f g) (h' : Req r c g k) : Req r c f k := ⟨come h.1 h'.1, come h'.2 h.2⟩

/-- Each row of g is a row of f times d, and e times row t of f. -/
theorem come_of {r c : Nat} {f g : Nat → Nat → F} (d e : Nat → F) (w : Nat → Nat) (t : Nat) (ht : t < r) (hw : ∀ i, i < r → w i < r) (h : ∀ i j, i < r → j < c → g i j = d i * f (w i) j + e i * f t j) : ∃ s, Eqm r c g (mul r s f) := by
  refine ⟨fun i x => (if x = w i then d i else 0) + (if x = t then e i else 0), fun i j hi hj => ?_⟩
  rw [h i j hi hj]
  show _ = sg r (fun x => ((if x = w i then d i else 0) + (if x = t then e i else 0)) * f x j)
  have : sg r (fun x => ((if x = w i then d i else 0) + (if x = t then e i else 0)) * f x j) = sg r (fun x => (if x = w i then d i else 0) * f x j) + sg r (fun x => (if x = t then e i else 0) * f x j) := by
    rw [← sg_add]; exact sg_congr fun x _ => by grind
  rw [this, sg_one (hw i hi) fun x _ hne => by rw [if_neg hne]; grind, sg_one ht fun x _ hne => by rw [if_neg hne]; grind, if_pos rfl, if_pos rfl]

/-- Two rows change places. -/
def swp (a b i : Nat) : Nat := if i = a then b else if i = b then a else i
theorem swp_lt {a b r i : Nat} (ha : a < r) (hb : b < r) (hi : i < r) : swp a b i < r := by
  unfold swp
  split
  · exact hb
  · split <;> assumption
theorem swp_swp (a b i : Nat) : swp a b (swp a b i) = i := by unfold swp; split <;> split <;> (try split) <;> omega
theorem req_swap {r c a b : Nat} (f : Nat → Nat → F) (ha : a < r) (hb : b < r) : Req r c f (fun i j => f (swp a b i) j) := by
  refine ⟨come_of (fun _ => 1) (fun _ => 0) (swp a b) a ha (fun i hi => swp_lt ha hb hi) (fun i j _ _ => ?_), come_of (fun _ => 1) (fun _ => 0) (swp a b) a ha (fun i hi => swp_lt ha hb hi) (fun i j _ _ => ?_)⟩
  · rw [swp_swp]; grind
  · grind
/-- A row is taken times what is not nought. -/
theorem req_scale {r c t : Nat} (f : Nat → Nat → F) (ht : t < r) {a : F} (h0 : a ≠ 0) : Req r c f (fun i j => if i = t then f i j * a else f i j) := by
  refine ⟨come_of (fun i => if i = t then inv a else 1) (fun _ => 0) id t ht (fun i hi => hi) (fun i j _ _ => ?_), come_of (fun i => if i = t then a else 1) (fun _ => 0) id t ht (fun i hi => hi) (fun i j _ _ => ?_)⟩
  · by_cases e : i = t
    · subst e
      have := inv_mul h0
      simp only [id, if_true]
      generalize f i j = x at *
      generalize inv a = y at *
      have : y * (x * a) = (y * a) * x := by grind
      grind
    · simp only [id, if_neg e]; grind
  · by_cases e : i = t
    · subst e; simp only [id, if_true]; grind
    · simp only [id, if_neg e]; grind
/-- From each other row a row is taken some times. -/
theorem req_sub {r c t : Nat} (f : Nat → Nat → F) (ht : t < r) (h : Nat → F) : Req r c f (fun i j => if i = t then f i j else f i j - h i * f t j) := by
  refine ⟨come_of (fun _ => 1) (fun i => if i = t then 0 else h i) id t ht (fun i hi => hi) (fun i j _ _ => ?_), come_of (fun _ => 1) (fun i => if i = t then 0 else -(h i)) id t ht (fun i hi => hi) (fun i j _ _ => ?_)⟩
  · by_cases e : i = t
    · subst e; simp only [id, if_true]; grind
    · simp only [id, if_neg e, if_true]; grind
  · by_cases e : i = t
    · subst e; simp only [id, if_true]; grind
    · simp only [id, if_neg e]; grind

/-- The pivot's column of a step. -/
abbrev pv (b : List Nat) (t : Nat) : Nat := b.getD t 0
/-- In steps, as far as the first k columns: b are the columns in which the rows begin. -/
structure Steps (r k : Nat) (b : List Nat) (g : Nat → Nat → F) : Prop where
  inc : ∀ s t, s < t → t < b.length → pv b s < pv b t
  lt : ∀ t, t < b.length → pv b t < k
  le : b.length ≤ r
  piv : ∀ t, t < b.length → ∀ i, i < r → g i (pv b t) = if i = t then 1 else 0
  lead : ∀ t, t < b.length → ∀ j, j < pv b t → g t j = 0
  zero : ∀ i, b.length ≤ i → i < r → ∀ j, j < k → g i j = 0
theorem steps_none (r : Nat) (g : Nat → Nat → F) : Steps r 0 [] g :=
  ⟨fun s t _ h => absurd h (by simp), fun t h => absurd h (by simp), Nat.zero_le _, fun t h => absurd h (by simp), fun t h => absurd h (by simp), fun i _ _ j h => absurd h (by omega)⟩
/-- A column in which no row begins. -/
theorem Steps.skip {r k : Nat} {b : List Nat} {g : Nat → Nat → F} (h : Steps r k b g) (h0 : ∀ i, b.length ≤ i → i < r → g i k = 0) : Steps r (k + 1) b g :=
  ⟨h.inc, fun t ht => Nat.lt_succ_of_lt (h.lt t ht), h.le, h.piv, h.lead, fun i h1 h2 j hj => by
    by_cases e : j = k
    · rw [e]; exact h0 i h1 h2
    · exact h.zero i h1 h2 j (by omega)⟩
theorem Steps.congr {r k : Nat} {b : List Nat} {g g' : Nat → Nat → F} (h : Steps r k b g) (e : Eqm r k g g') : Steps r k b g' := by
  refine ⟨h.inc, h.lt, h.le, fun t ht i hi => ?_, fun t ht j hj => ?_, fun i h1 h2 j hj => ?_⟩
  · rw [← e i _ hi (h.lt t ht)]; exact h.piv t ht i hi
  · rw [← e t j (Nat.lt_of_lt_of_le ht h.le) (Nat.lt_trans hj (h.lt t ht))]; exact h.lead t ht j hj
  · rw [← e i j h2 hj]; exact h.zero i h1 h2 j hj
theorem pv_snoc_lt (b : List Nat) (k t : Nat) (h : t < b.length) : pv (b ++ [k]) t = pv b t := by simp [pv, List.getElem?_append_left h]
theorem pv_snoc (b : List Nat) (k : Nat) : pv (b ++ [k]) b.length = k := by simp [pv]

/-- The next step: row a, not nought at column k, comes to the top, begins with 1, and is taken away from all others. -/
def nxt (p a k : Nat) (g : Nat → Nat → F) : Nat → Nat → F := fun i j =>
  if i = p then g a j * inv (g a k) else g (swp p a i) j - g (swp p a i) k * (g a j * inv (g a k))
theorem Steps.next {r k : Nat} {b : List Nat} {g : Nat → Nat → F} (h : Steps r k b g) {a : Nat} (ha : b.length ≤ a) (hr : a < r) (h0 : g a k ≠ 0) : Steps r (k + 1) (b ++ [k]) (nxt b.length a k g) := by
  have hl : (b ++ [k]).length = b.length + 1 := by simp
  have hi := mul_inv h0
  -- what row a is below column k
  have za : ∀ j, j < k → g a j = 0 := fun j hj => h.zero a ha hr j hj
  have sw : ∀ i, i < b.length → swp b.length a i = i := fun i hi => by unfold swp; rw [if_neg (by omega), if_neg (by omega)]
  have swr : ∀ i, i < r → swp b.length a i < r := fun i hi => swp_lt (by omega) hr hi
  have sge : ∀ i, b.length < i → b.length ≤ swp b.length a i := fun i hi => by unfold swp; rw [if_neg (by omega)]; split <;> omega
  have low : ∀ i j, j < k → i ≠ b.length → nxt b.length a k g i j = g (swp b.length a i) j := fun i j hj hne => by
    unfold nxt
    rw [if_neg hne, za j hj]; grind
  have lowp : ∀ j, j < k → nxt b.length a k g b.length j = 0 := fun j hj => by
    unfold nxt
    rw [if_pos rfl, za j hj]; grind
  refine ⟨fun s t hs ht => ?_, fun t ht => ?_, by omega, fun t ht i hir => ?_, fun t ht j hj => ?_, fun i h1 h2 j hj => ?_⟩
  · rw [hl] at ht
    by_cases e : t = b.length
    · rw [e, pv_snoc, pv_snoc_lt b k s (by omega)]; exact h.lt s (by omega)
    · rw [pv_snoc_lt b k s (by omega), pv_snoc_lt b k t (by omega)]; exact h.inc s t hs (by omega)
  · rw [hl] at ht
    by_cases e : t = b.length
    · rw [e, pv_snoc]; omega
    · rw [pv_snoc_lt b k t (by omega)]; have := h.lt t (by omega); omega
  · rw [hl] at ht
    by_cases e : t = b.length
    · rw [e, pv_snoc]
      unfold nxt
      by_cases e2 : i = b.length
      · rw [if_pos e2, if_pos e2]; exact hi
      · rw [if_neg e2, if_neg e2, hi]; grind
    · have ht' : t < b.length := by omega
      rw [pv_snoc_lt b k t ht']
      have hk := h.lt t ht'
      by_cases e2 : i = b.length
      · rw [e2, lowp _ hk, if_neg (by omega)]
      · rw [low i _ hk e2, h.piv t ht' _ (swr i hir)]
        by_cases e3 : i = t
        · rw [if_pos e3, if_pos (by rw [e3]; exact sw t ht')]
        · rw [if_neg e3, if_neg (fun e4 => e3 (by have := congrArg (swp b.length a) e4; rw [swp_swp, sw t ht'] at this; exact this))]
  · rw [hl] at ht
    by_cases e : t = b.length
    · rw [e, pv_snoc] at hj
      rw [e]; exact lowp j hj
    · have ht' : t < b.length := by omega
      rw [pv_snoc_lt b k t ht'] at hj
      rw [low t j (Nat.lt_trans hj (h.lt t ht')) e, sw t ht']
      exact h.lead t ht' j hj
  · rw [hl] at h1
    by_cases e : j = k
    · rw [e]
      unfold nxt
      rw [if_neg (by omega), hi]; grind
    · rw [low i j (by omega) (by omega)]
      exact h.zero _ (sge i (by omega)) (swr i h2) j (by omega)
theorem inv_ne_zero {a : F} (h : a ≠ 0) : inv a ≠ 0 := fun e => by
  have := inv_mul h
  rw [e] at this
  exact one_ne (by rw [← this]; grind)
theorem req_next {r c p a k : Nat} (g : Nat → Nat → F) (hp : p < r) (ha : a < r) (h0 : g a k ≠ 0) : Req r c g (nxt p a k g) := by
  have h1 := req_swap (c := c) g hp ha
  have h2 := req_scale (c := c) (fun i j => g (swp p a i) j) hp (inv_ne_zero h0)
  have h3 := req_sub (c := c) (fun i j => if i = p then g (swp p a i) j * inv (g a k) else g (swp p a i) j) hp (fun i => g (swp p a i) k)
  refine ((h1.trans h2).trans h3).trans (Req.of r c fun i j _ _ => ?_)
  have e : swp p a p = a := by unfold swp; rw [if_pos rfl]
  unfold nxt
  by_cases hi : i = p
  · subst hi; rw [if_pos rfl, if_pos rfl, if_pos rfl, e]
  · rw [if_neg hi, if_neg hi, if_neg hi, if_pos rfl, e]

/-- What comes of the rows. -/
def Span (r c : Nat) (g : Nat → Nat → F) (v : Nat → F) : Prop := ∃ x : Nat → F, ∀ j, j < c → v j = sg r (fun i => x i * g i j)
theorem span_req {r c : Nat} {f g : Nat → Nat → F} (h : Req r c f g) {v : Nat → F} (hv : Span r c f v) : Span r c g v := by
  obtain ⟨⟨s, hs⟩, _⟩ := h
  obtain ⟨x, hx⟩ := hv
  refine ⟨fun i => sg r (fun t => x t * s t i), fun j hj => ?_⟩
  rw [hx j hj, sg_congr (g := fun i => x i * mul r s g i j) fun i hi => by rw [hs i j hi hj]]
  have := congrFun (congrFun (mul_assoc r r (fun _ => x) s g) 0) j
  exact this.symm
theorem span_row {r c : Nat} (g : Nat → Nat → F) {t : Nat} (ht : t < r) : Span r c g (g t) := by
  refine ⟨fun i => if i = t then 1 else 0, fun j _ => ?_⟩
  dsimp only
  rw [sg_one ht fun i _ hne => by rw [if_neg hne]; grind, if_pos rfl]; grind
/-- What comes of rows in steps is told by its numbers where they begin. -/
theorem Steps.told {r c : Nat} {b : List Nat} {g : Nat → Nat → F} (h : Steps r c b g) {v : Nat → F} (hv : Span r c g v) : ∀ j, j < c → v j = sg b.length (fun t => v (pv b t) * g t j) := by
  obtain ⟨x, hx⟩ := hv
  have hp : ∀ t, t < b.length → v (pv b t) = x t := fun t ht => by
    have htr := Nat.lt_of_lt_of_le ht h.le
    rw [hx _ (h.lt t ht), sg_one htr fun i hi hne => by rw [h.piv t ht i hi, if_neg hne]; grind, h.piv t ht t htr, if_pos rfl]; grind
  intro j hj
  rw [hx j hj, sg_less h.le fun i h1 h2 => by rw [h.zero i h1 h2 j hj]; grind]
  exact sg_congr fun t ht => by rw [hp t ht]
/-- Where it begins, a row begins. -/
theorem Steps.begins {r c : Nat} {b : List Nat} {g : Nat → Nat → F} (h : Steps r c b g) {v : Nat → F} (hv : Span r c g v) {k : Nat} (hk : k < c) (h0 : ∀ j, j < k → v j = 0) (h1 : v k ≠ 0) : k ∈ b := by
  rw [h.told hv k hk] at h1
  obtain ⟨t, ht, hne⟩ := sg_ne h1
  have n1 : v (pv b t) ≠ 0 := fun e => hne (by rw [e]; grind)
  have n2 : g t k ≠ 0 := fun e => hne (by rw [e]; grind)
  have l1 : k ≤ pv b t := Nat.le_of_not_lt fun hlt => n1 (h0 _ hlt)
  have l2 : pv b t ≤ k := Nat.le_of_not_lt fun hlt => n2 (h.lead t ht k hlt)
  have e : pv b t = k := by omega
  rw [← e]
  show b.getD t 0 ∈ b
  rw [List.getD_eq_getElem?_getD, List.getElem?_eq_getElem ht]
  exact List.getElem_mem ht
theorem Steps.mem {r c : Nat} {b : List Nat} {g : Nat → Nat → F} (h : Steps r c b g) {k : Nat} (hk : k ∈ b) : ∃ t, t < b.length ∧ pv b t = k := by
  obtain ⟨t, ht, rfl⟩ := List.mem_iff_getElem.1 hk
  exact ⟨t, ht, by simp [pv, ht]⟩
theorem inc_same : ∀ (a b : List Nat), a.Pairwise (· < ·) → b.Pairwise (· < ·) → (∀ x, x ∈ a ↔ x ∈ b) → a = b
  | [], [], _, _, _ => rfl
  | [], y :: b, _, _, h => absurd ((h y).2 (List.mem_cons_self ..)) (by simp)
  | x :: a, [], _, _, h => absurd ((h x).1 (List.mem_cons_self ..)) (by simp)
  | x :: a, y :: b, ha, hb, h => by
    have ha' := List.pairwise_cons.1 ha
    have hb' := List.pairwise_cons.1 hb
    have exy : x = y := by
      rcases List.mem_cons.1 ((h x).1 (List.mem_cons_self ..)) with e | e
      · exact e
      · rcases List.mem_cons.1 ((h y).2 (List.mem_cons_self ..)) with e' | e'
        · exact e'.symm
        · have := hb'.1 x e; have := ha'.1 y e'; omega
    subst exy
    rw [inc_same a b ha'.2 hb'.2 fun z => ?_]
    constructor
    · intro hz
      rcases List.mem_cons.1 ((h z).1 (List.mem_cons_of_mem _ hz)) with e | e
      · have := ha'.1 z hz; omega
      · exact e
    · intro hz
      rcases List.mem_cons.1 ((h z).2 (List.mem_cons_of_mem _ hz)) with e | e
      · have := hb'.1 z hz; omega
      · exact e
theorem Steps.pairs {r c : Nat} {b : List Nat} {g : Nat → Nat → F} (h : Steps r c b g) : b.Pairwise (· < ·) := by
  refine List.pairwise_iff_getElem.2 fun i j hi hj hij => ?_
  have := h.inc i j hij hj
  simpa [pv, hi, hj] using this
/-- There is but one form in steps of the same rows. -/
theorem Steps.unique {r c : Nat} {b d : List Nat} {g k : Nat → Nat → F} (h : Steps r c b g) (h' : Steps r c d k) (e : Req r c g k) : b = d ∧ Eqm r c g k := by
  have one' : ∀ {b d : List Nat} {g k : Nat → Nat → F}, Steps r c b g → Steps r c d k → Req r c g k → ∀ x, x ∈ b → x ∈ d := fun {b d g k} h h' e x hx => by
    obtain ⟨t, ht, rfl⟩ := h.mem hx
    have htr := Nat.lt_of_lt_of_le ht h.le
    refine h'.begins (span_req e (span_row g htr)) (h.lt t ht) (fun j hj => h.lead t ht j hj) ?_
    rw [h.piv t ht t htr, if_pos rfl]; exact one_ne
  have hbd : b = d := inc_same b d h.pairs h'.pairs fun x => ⟨one' h h' e x, one' h' h e.symm x⟩
  subst hbd
  refine ⟨rfl, fun i j hi hj => ?_⟩
  by_cases hl : i < b.length
  · have ht := h'.told (span_req e (span_row g hi)) j hj
    rw [ht, sg_one hl fun t ht2 hne => by rw [h.piv t ht2 i hi, if_neg (fun e2 => hne e2.symm)]; grind, h.piv i hl i hi, if_pos rfl]; grind
  · rw [h.zero i (by omega) hi j hj, h'.zero i (by omega) hi j hj]

/-- How many steps a matrix has: it goes through so many, and shows so many. -/
theorem Steps.thru {r c : Nat} {b : List Nat} {f g : Nat → Nat → F} (h : Steps r c b g) (e : Req r c f g) : Thru r c b.length f := by
  obtain ⟨⟨s, hs⟩, _⟩ := e
  refine ⟨s, g, hs.trans fun i j hi hj => ?_⟩
  exact sg_less h.le fun t h1 h2 => by rw [h.zero t h1 h2 j hj]; grind
theorem Steps.sees {r c : Nat} {b : List Nat} {f g : Nat → Nat → F} (h : Steps r c b g) (e : Req r c f g) : Sees r c b.length f := by
  obtain ⟨_, ⟨t, ht⟩⟩ := e
  refine ⟨t, fun j s => if j = pv b s then 1 else 0, fun i s hi hs => ?_⟩
  have hir := Nat.lt_of_lt_of_le hi h.le
  rw [← mul_assoc]
  have e1 : mul c (mul r t f) (fun j s => if j = pv b s then (1 : F) else 0) i s = sg c (fun j => g i j * if j = pv b s then (1 : F) else 0) := sg_congr fun j hj => by rw [ht i j hir hj]
  rw [e1, sg_one (h.lt s hs) fun j _ hne => by rw [if_neg hne]; grind, if_pos rfl, h.piv s hs i hir]
  show _ = if i = s then (1 : F) else 0
  split <;> grind

end Go.Proofs.Ytbdpcpodmmhjaaa.Mx

/- Plain facts on determinants over the field, by the first row: linear in each column, nought with two equal columns, the sign with two exchanged; which matrices can be undone. No program is named here. -/
namespace Go.Proofs.Ytbdpcpodmmhjaaa.Mx
open Fp
set_option linter.unusedVariables false

/-- The sign of a place. -/
def sgn (j : Nat) : F := if j % 2 = 0 then 1 else -1
theorem sgn_succ (j : Nat) : sgn (j + 1) = -(sgn j) := by
  unfold sgn
  by_cases h : j % 2 = 0
  · rw [if_pos h, if_neg (by omega)]
  · rw [if_neg h, if_pos (by omega)]; grind
/-- Without the first row and column j. -/
def del (j : Nat) (f : Nat → Nat → F) : Nat → Nat → F := fun a b => f (a + 1) (sk j b)
/-- The determinant, by the first row. -/
def dt : Nat → (Nat → Nat → F) → F
  | 0, _ => 1
  | n + 1, f => sg (n + 1) fun j => sgn j * f 0 j * dt n (del j f)
theorem dt_succ (n : Nat) (f : Nat → Nat → F) : dt (n + 1) f = sg (n + 1) fun j => sgn j * f 0 j * dt n (del j f) := rfl
theorem dt_congr : ∀ (n : Nat) {f g : Nat → Nat → F}, Eqm n n f g → dt n f = dt n g
  | 0, _, _, _ => rfl
  | n + 1, f, g, h => sg_congr fun j hj => by
    have e : dt n (del j f) = dt n (del j g) := dt_congr n fun a b ha hb => h (a + 1) (sk j b) (by omega) (sk_lt hb)
    rw [h 0 j (Nat.succ_pos n) hj, e]

/-- Column c in the place of its own. -/
def setc (c : Nat) (u : Nat → F) (f : Nat → Nat → F) : Nat → Nat → F := fun i j => if j = c then u i else f i j
/-- Where a column comes to stand when column j is gone. -/
def un (j c : Nat) : Nat := if c < j then c else c - 1
theorem sk_un {j c : Nat} (h : j ≠ c) : sk j (un j c) = c := by
  unfold un
  by_cases e : c < j
  · rw [if_pos e]; unfold sk; rw [if_pos e]
  · rw [if_neg e]; unfold sk; rw [if_neg (by omega)]; omega
theorem un_lt {j c n : Nat} (h : j ≠ c) (hc : c < n + 1) (hj : j < n + 1) : un j c < n := by unfold un; split <;> omega
theorem sk_eq {j c b : Nat} (h : j ≠ c) : sk j b = c ↔ b = un j c := ⟨fun e => sk_inj (e.trans (sk_un h).symm), fun e => by rw [e, sk_un h]⟩
theorem del_same (c : Nat) (u : Nat → F) (f : Nat → Nat → F) : del c (setc c u f) = del c f := by
  funext a b
  show (if sk c b = c then u (a + 1) else f (a + 1) (sk c b)) = _
  rw [if_neg (sk_ne c b)]; rfl
theorem del_other {j c : Nat} (h : j ≠ c) (u : Nat → F) (f : Nat → Nat → F) : del j (setc c u f) = setc (un j c) (fun a => u (a + 1)) (del j f) := by
  funext a b
  show (if sk j b = c then u (a + 1) else f (a + 1) (sk j b)) = if b = un j c then u (a + 1) else f (a + 1) (sk j b)
  by_cases e : b = un j c
  · rw [if_pos e, if_pos ((sk_eq h).2 e)]
  · rw [if_neg e, if_neg fun e' => e ((sk_eq h).1 e')]
theorem dt_lin : ∀ (n c : Nat) (hc : c < n) (a b : F) (u w : Nat → F) (f : Nat → Nat → F),
    dt n (setc c (fun i => a * u i + b * w i) f) = a * dt n (setc c u f) + b * dt n (setc c w f)
  | 0, c, hc, _, _, _, _, _ => absurd hc (by omega)
  | n + 1, c, hc, a, b, u, w, f => by
    rw [dt_succ, dt_succ, dt_succ, ← sg_times, ← sg_times, ← sg_add]
    refine sg_congr fun j hj => ?_
    by_cases h : j = c
    · subst h
      rw [del_same, del_same, del_same]
      show sgn j * (if j = j then a * u 0 + b * w 0 else f 0 j) * dt n (del j f) = a * (sgn j * (if j = j then u 0 else f 0 j) * dt n (del j f)) + b * (sgn j * (if j = j then w 0 else f 0 j) * dt n (del j f))
      rw [if_pos rfl, if_pos rfl, if_pos rfl]; grind
    · rw [del_other h, del_other h, del_other h, dt_lin n (un j c) (un_lt h hc hj) a b (fun i => u (i + 1)) (fun i => w (i + 1))]
      show sgn j * (if j = c then a * u 0 + b * w 0 else f 0 j) * _ = a * (sgn j * (if j = c then u 0 else f 0 j) * _) + b * (sgn j * (if j = c then w 0 else f 0 j) * _)
      rw [if_neg h, if_neg h, if_neg h]; grind
theorem setc_self (c : Nat) (f : Nat → Nat → F) : setc c (fun i => f i c) f = f := by
  funext i j
  show (if j = c then f i c else f i j) = f i j
  by_cases h : j = c
  · rw [if_pos h, h]
  · rw [if_neg h]
theorem setc_setc (c : Nat) (u w : Nat → F) (f : Nat → Nat → F) : setc c u (setc c w f) = setc c u f := by
  funext i j
  show (if j = c then u i else if j = c then w i else f i j) = if j = c then u i else f i j
  by_cases h : j = c
  · rw [if_pos h, if_pos h]
  · rw [if_neg h, if_neg h, if_neg h]
theorem setc_comm {c d : Nat} (h : c ≠ d) (u w : Nat → F) (f : Nat → Nat → F) : setc c u (setc d w f) = setc d w (setc c u f) := by
  funext i j
  show (if j = c then u i else if j = d then w i else f i j) = if j = d then w i else if j = c then u i else f i j
  by_cases h1 : j = c
  · rw [if_pos h1, if_neg (by omega), if_pos h1]
  · rw [if_neg h1, if_neg h1]
theorem dt_plus (n c : Nat) (hc : c < n) (u w : Nat → F) (f : Nat → Nat → F) : dt n (setc c (fun i => u i + w i) f) = dt n (setc c u f) + dt n (setc c w f) := by
  have := dt_lin n c hc 1 1 u w f
  rw [show (fun i => (1 : F) * u i + 1 * w i) = fun i => u i + w i by funext i; grind] at this
  rw [this]; grind
theorem dt_times (n c : Nat) (hc : c < n) (a : F) (u : Nat → F) (f : Nat → Nat → F) : dt n (setc c (fun i => a * u i) f) = a * dt n (setc c u f) := by
  have := dt_lin n c hc a 0 u u f
  rw [show (fun i => a * u i + 0 * u i) = fun i => a * u i by funext i; grind] at this
  rw [this]; grind
theorem dt_sum (n c : Nat) (hc : c < n) (f : Nat → Nat → F) (a : Nat → F) (u : Nat → Nat → F) : ∀ m, dt n (setc c (fun i => sg m fun t => a t * u t i) f) = sg m fun t => a t * dt n (setc c (u t) f)
  | 0 => by
    have := dt_times n c hc 0 (fun _ => 0) f
    rw [show (fun i => (0 : F) * (fun _ => 0) i) = fun _ => (0 : F) by funext i; grind] at this
    show dt n (setc c (fun _ => 0) f) = 0
    rw [this]; grind
  | m + 1 => by
    have := dt_plus n c hc (fun i => sg m fun t => a t * u t i) (fun i => a m * u m i) f
    rw [dt_times n c hc, dt_sum n c hc f a u m] at this
    exact this

/-- A sum with two terms that are not nought. -/
theorem sg_two {n : Nat} {f : Nat → F} {k l : Nat} (hk : k < n) (hl : l < n) (hne : k ≠ l) (h : ∀ i, i < n → i ≠ k → i ≠ l → f i = 0) : sg n f = f k + f l := by
  have e : sg n f = sg n (fun i => if i = k then f k else 0) + sg n (fun i => if i = l then f l else 0) := by
    rw [← sg_add]
    refine sg_congr fun i hi => ?_
    by_cases h1 : i = k
    · subst h1; rw [if_pos rfl, if_neg hne]; grind
    · by_cases h2 : i = l
      · subst h2; rw [if_neg h1, if_pos rfl]; grind
      · rw [h i hi h1 h2, if_neg h1, if_neg h2]; grind
  rw [e, sg_one hk fun i _ h1 => by rw [if_neg h1], sg_one hl fun i _ h1 => by rw [if_neg h1], if_pos rfl, if_pos rfl]
/-- Two equal columns side by side. -/
theorem dt_next : ∀ (n c : Nat) (hc : c + 1 < n) (f : Nat → Nat → F), (∀ i, i < n → f i c = f i (c + 1)) → dt n f = 0
  | 0, c, hc, _, _ => absurd hc (by omega)
  | n + 1, c, hc, f, h => by
    rw [dt_succ, sg_two (k := c) (l := c + 1) (by omega) hc (by omega) fun j hj h1 h2 => ?_]
    · have e : dt n (del c f) = dt n (del (c + 1) f) := dt_congr n fun a b ha hb => by
        show f (a + 1) (sk c b) = f (a + 1) (sk (c + 1) b)
        by_cases e : b = c
        · have e1 : sk c b = c + 1 := by unfold sk; rw [if_neg (by omega), e]
          have e2 : sk (c + 1) b = c := by unfold sk; rw [if_pos (by omega), e]
          rw [e1, e2]; exact (h (a + 1) (by omega)).symm
        · have e1 : sk c b = sk (c + 1) b := by unfold sk; split <;> split <;> omega
          rw [e1]
      rw [e, sgn_succ, h 0 (by omega)]; grind
    · have : dt n (del j f) = 0 := by
        rcases Nat.lt_or_ge j c with hlt | hge
        · refine dt_next n (c - 1) (by omega) (del j f) fun a ha => ?_
          show f (a + 1) (sk j (c - 1)) = f (a + 1) (sk j (c - 1 + 1))
          have e1 : sk j (c - 1) = c := by unfold sk; rw [if_neg (by omega)]; omega
          have e2 : sk j (c - 1 + 1) = c + 1 := by unfold sk; rw [if_neg (by omega)]; omega
          rw [e1, e2]; exact h (a + 1) (by omega)
        · refine dt_next n c (by omega) (del j f) fun a ha => ?_
          show f (a + 1) (sk j c) = f (a + 1) (sk j (c + 1))
          have e1 : sk j c = c := by unfold sk; rw [if_pos (by omega)]
          have e2 : sk j (c + 1) = c + 1 := by unfold sk; rw [if_pos (by omega)]
          rw [e1, e2]; exact h (a + 1) (by omega)
      rw [this]; grind
/-- From nought with two equal columns: the sign turns when they change places. -/
theorem dt_anti {n c d : Nat} (hc : c < n) (hd : d < n) (hne : c ≠ d) (hz : ∀ (w : Nat → F) (g : Nat → Nat → F), dt n (setc c w (setc d w g)) = 0) (u w : Nat → F) (f : Nat → Nat → F) :
    dt n (setc c u (setc d w f)) = -(dt n (setc c w (setc d u f))) := by
  have h := hz (fun i => u i + w i) f
  rw [dt_plus n c hc, setc_comm hne u, setc_comm hne w, dt_plus n d hd, dt_plus n d hd, ← setc_comm hne, ← setc_comm hne, ← setc_comm hne, ← setc_comm hne, hz u, hz w] at h
  grind
theorem next_zero {n c : Nat} (hc : c + 1 < n) (w : Nat → F) (g : Nat → Nat → F) : dt n (setc c w (setc (c + 1) w g)) = 0 := dt_next n c hc _ fun i _ => by
  show (if c = c then w i else _) = if c + 1 = c then w i else if c + 1 = c + 1 then w i else _
  rw [if_pos rfl, if_neg (by omega), if_pos rfl]
/-- Two equal columns, wherever they stand. -/
theorem both_zero {n c : Nat} : ∀ (d : Nat), c + d + 1 < n → ∀ (w : Nat → F) (g : Nat → Nat → F), dt n (setc c w (setc (c + d + 1) w g)) = 0
  | 0, h, w, g => next_zero h w g
  | d + 1, h, w, g => by
    -- columns c + d + 1 and c + d + 2 change places
    have h1 : dt n (setc c w (setc (c + (d + 1) + 1) w g)) = dt n (setc (c + d + 1) (fun i => g i (c + d + 1)) (setc (c + d + 1 + 1) w (setc c w g))) := by
      refine dt_congr n fun i j _ _ => ?_
      show (if j = c then w i else if j = c + (d + 1) + 1 then w i else g i j) = if j = c + d + 1 then g i (c + d + 1) else if j = c + d + 1 + 1 then w i else if j = c then w i else g i j
      by_cases e1 : j = c
      · rw [if_pos e1, if_neg (by omega), if_neg (by omega), if_pos e1]
      · by_cases e2 : j = c + (d + 1) + 1
        · rw [if_neg e1, if_pos e2, if_neg (by omega), if_pos (by omega)]
        · by_cases e3 : j = c + d + 1
          · rw [if_neg e1, if_neg e2, if_pos e3, e3]
          · rw [if_neg e1, if_neg e2, if_neg e3, if_neg (by omega), if_neg e1]
    rw [h1, dt_anti (by omega) (by omega) (by omega) (fun w g => next_zero (by omega) w g)]
    have h2 : setc (c + d + 1) w (setc (c + d + 1 + 1) (fun i => g i (c + d + 1)) (setc c w g)) = setc c w (setc (c + d + 1) w (setc (c + d + 1 + 1) (fun i => g i (c + d + 1)) g)) := by
      rw [setc_comm (show c + d + 1 + 1 ≠ c by omega), setc_comm (show c + d + 1 ≠ c by omega)]
    rw [h2, both_zero d (by omega)]; grind
theorem dt_equal {n c d : Nat} (hc : c < n) (hd : d < n) (hne : c ≠ d) (w : Nat → F) (g : Nat → Nat → F) : dt n (setc c w (setc d w g)) = 0 := by
  rcases Nat.lt_or_ge c d with h | h
  · have := both_zero (n := n) (c := c) (d - c - 1) (by omega) w g
    rw [show c + (d - c - 1) + 1 = d by omega] at this
    exact this
  · have := both_zero (n := n) (c := d) (c - d - 1) (by omega) w g
    rw [show d + (c - d - 1) + 1 = c by omega] at this
    rw [setc_comm hne]; exact this
/-- Column d in the place of column c: nought. -/
theorem dt_copy {n c d : Nat} (hc : c < n) (hd : d < n) (hne : c ≠ d) (f : Nat → Nat → F) : dt n (setc c (fun i => f i d) f) = 0 := by
  have := dt_equal hc hd hne (fun i => f i d) f
  rw [setc_self] at this
  exact this
theorem dt_swap {n c d : Nat} (hc : c < n) (hd : d < n) (hne : c ≠ d) (f : Nat → Nat → F) : dt n (setc c (fun i => f i d) (setc d (fun i => f i c) f)) = -(dt n f) := by
  rw [dt_anti hc hd hne (fun w g => dt_equal hc hd hne w g)]
  have : setc c (fun i => f i c) (setc d (fun i => f i d) f) = f := by rw [setc_self d, setc_self c]
  rw [this]
/-- What is taken to noughts by something that is not has no determinant. -/
theorem dt_null {n : Nat} {f : Nat → Nat → F} {y : Nat → F} {c : Nat} (hc : c < n) (h1 : y c ≠ 0) (h : ∀ i, i < n → sg n (fun j => f i j * y j) = 0) : dt n f = 0 := by
  -- the determinant with the sum of all columns, each so many times, in the place of column c
  have e1 : dt n (setc c (fun i => sg n fun t => y t * f i t) f) = 0 := by
    have : dt n (setc c (fun i => sg n fun t => y t * f i t) f) = dt n (setc c (fun i => (0 : F) * f i c) f) := dt_congr n fun i j hi _ => by
      show (if j = c then sg n (fun t => y t * f i t) else f i j) = if j = c then (0 : F) * f i c else f i j
      rw [show sg n (fun t => y t * f i t) = (0 : F) * f i c by
        rw [sg_congr (g := fun j => f i j * y j) fun t _ => by grind, h i hi]; grind]
    rw [this, dt_times n c hc]; grind
  have e2 := dt_sum n c hc f y (fun t i => f i t) n
  rw [e1, sg_one hc fun t ht hne => by rw [dt_copy hc ht (fun e => hne e.symm)]; grind, setc_self] at e2
  exact (mul_zero_or e2.symm).resolve_left h1

/-- Of any matrix there is the form in steps. -/
theorem steps_some (r c : Nat) (f : Nat → Nat → F) : ∀ k, k ≤ c → ∃ b g, Steps r k b g ∧ Req r c f g
  | 0, _ => ⟨[], f, steps_none r f, Req.refl r c f⟩
  | k + 1, hk => by
    obtain ⟨b, g, hs, hr⟩ := steps_some r c f k (by omega)
    by_cases h0 : ∀ i, b.length ≤ i → i < r → g i k = 0
    · exact ⟨b, g, hs.skip h0, hr⟩
    · obtain ⟨a, hn⟩ := Classical.not_forall.1 h0
      obtain ⟨ha, hn⟩ := Classical.not_imp.1 hn
      obtain ⟨har, hne⟩ := Classical.not_imp.1 hn
      exact ⟨b ++ [k], nxt b.length a k g, hs.next ha har hne, hr.trans (req_next g (by omega) har hne)⟩
/-- As many steps as columns: they begin one behind the other. -/
theorem Steps.full {n : Nat} {b : List Nat} {g : Nat → Nat → F} (h : Steps n n b g) (hl : b.length = n) : Eqm n n g one := by
  have hp : ∀ t, t < n → t ≤ pv b t := fun t => by
    induction t with
    | zero => intro _; omega
    | succ t ih => intro ht; have := ih (by omega); have := h.inc t (t + 1) (by omega) (by omega); omega
  have hq : ∀ d t, t + d + 1 = n → pv b t ≤ t := fun d => by
    induction d with
    | zero => intro t ht; have := h.lt t (by omega); omega
    | succ d ih => intro t ht; have := ih (t + 1) (by omega); have := h.inc t (t + 1) (by omega) (by omega); omega
  intro i j hi hj
  have e : pv b j = j := by have := hp j hj; have := hq (n - j - 1) j (by omega); omega
  have := h.piv j (by omega) i hi
  rw [e] at this
  exact this
/-- Fewer steps than columns: something that is not nought is taken to noughts. -/
theorem Steps.null {r c : Nat} {b : List Nat} {f g : Nat → Nat → F} (h : Steps r c b g) (e : Req r c f g) (hl : b.length < c) : ∃ (y : Nat → F) (k : Nat), k < c ∧ y k ≠ 0 ∧ ∀ i, i < r → sg c (fun j => f i j * y j) = 0 := by
  -- a column in which no row begins
  have free : ∃ k, k < c ∧ k ∉ b := by
    refine Classical.byContradiction fun hn => ?_
    have all : ∀ k, k < c → k ∈ b := fun k hk => Classical.byContradiction fun hk' => hn ⟨k, hk, hk'⟩
    have hs : b = List.range c := inc_same b (List.range c) h.pairs List.pairwise_lt_range fun x => by
      rw [List.mem_range]
      exact ⟨fun hx => by obtain ⟨t, ht, rfl⟩ := h.mem hx; exact h.lt t ht, all x⟩
    rw [hs, List.length_range] at hl
    omega
  obtain ⟨k, hk, hkb⟩ := free
  have hne : ∀ t, t < b.length → pv b t ≠ k := fun t ht e => hkb (by rw [← e]; show b.getD t 0 ∈ b; rw [List.getD_eq_getElem?_getD, List.getElem?_eq_getElem ht]; exact List.getElem_mem ht)
  refine ⟨fun j => (if j = k then 1 else 0) + sg b.length (fun t => if j = pv b t then -(g t k) else 0), k, hk, ?_, ?_⟩
  · dsimp only
    rw [if_pos rfl, sg_congr (g := fun _ => 0) fun t ht => by rw [if_neg fun e => hne t ht e.symm], sg_none]
    intro e; exact one_ne (by grind)
  · -- it is so for g, whose rows tell those of f
    have hg : ∀ i, i < r → sg c (fun j => g i j * ((if j = k then 1 else 0) + sg b.length (fun t => if j = pv b t then -(g t k) else 0))) = 0 := fun i hi => by
      have s1 : sg c (fun j => g i j * ((if j = k then 1 else 0) + sg b.length (fun t => if j = pv b t then -(g t k) else 0))) =
          sg c (fun j => g i j * (if j = k then 1 else 0)) + sg c (fun j => sg b.length (fun t => g i j * (if j = pv b t then -(g t k) else 0))) := by
        rw [← sg_add]
        refine sg_congr fun j _ => ?_
        rw [sg_times]; grind
      rw [s1, sg_one hk fun j _ hne => by rw [if_neg hne]; grind, if_pos rfl, sg_swap]
      have s2 : sg b.length (fun t => sg c (fun j => g i j * (if j = pv b t then -(g t k) else 0))) = sg b.length (fun t => (if i = t then (1 : F) else 0) * -(g t k)) := sg_congr fun t ht => by
        rw [sg_one (h.lt t ht) fun j _ hne => by rw [if_neg hne]; grind, if_pos rfl, h.piv t ht i hi]
      rw [s2]
      by_cases hib : i < b.length
      · rw [sg_one hib fun t _ hne => by rw [if_neg fun e => hne e.symm]; grind, if_pos rfl]; grind
      · rw [sg_congr (g := fun _ => 0) fun t ht => by rw [if_neg (by omega)]; grind, sg_none, h.zero i (by omega) hi k hk]; grind
    obtain ⟨⟨s, hs⟩, _⟩ := e
    intro i hi
    rw [sg_congr (g := fun j => mul r s g i j * ((if j = k then 1 else 0) + sg b.length (fun t => if j = pv b t then -(g t k) else 0))) fun j hj => by rw [hs i j hi hj]]
    have := congrFun (congrFun (mul_assoc r c s g (fun j _ => (if j = k then 1 else 0) + sg b.length (fun t => if j = pv b t then -(g t k) else 0))) i) 0
    refine this.trans ?_
    show sg r (fun x => s i x * sg c (fun j => g x j * ((if j = k then 1 else 0) + sg b.length (fun t => if j = pv b t then -(g t k) else 0)))) = 0
    rw [sg_congr (g := fun _ => 0) fun x hx => by rw [hg x hx]; grind, sg_none]
/-- What has a determinant can be undone. -/
theorem undo {n : Nat} {f : Nat → Nat → F} (h : dt n f ≠ 0) : ∃ t, Eqm n n (mul n t f) one := by
  obtain ⟨b, g, hs, hr⟩ := steps_some n n f n (Nat.le_refl _)
  by_cases hl : b.length = n
  · obtain ⟨_, ⟨t, ht⟩⟩ := hr
    exact ⟨t, ht.symm.trans (hs.full hl)⟩
  · obtain ⟨y, k, hk, hy, hz⟩ := hs.null hr (by have := hs.le; omega)
    exact absurd (dt_null hk hy hz) h
/-- Rows of what can be undone, done to a matrix: the same rows. -/
theorem req_undo {n c : Nat} {t k : Nat → Nat → F} (h : Eqm n n (mul n t k) one) (f : Nat → Nat → F) : Req n c f (mul n k f) := by
  refine ⟨⟨t, ?_⟩, ⟨k, Eqm.rfl' _ _ _⟩⟩
  rw [← mul_assoc]
  exact ((h.mul (Eqm.rfl' n c f)).trans (one_mul n c f)).symm

end Go.Proofs.Ytbdpcpodmmhjaaa.Mx

/- Plain facts on determinants over the field: of a product, of the transposed, in the rows; signs of orders. No program is named here. -/
namespace Go.Proofs.Ytbdpcpodmmhjaaa.Mx
open Fp
set_option linter.unusedVariables false

/-- As many different ones among as many: all of them. -/
theorem perm_of : ∀ (r l : List Nat), r.Nodup → (∀ x ∈ r, x ∈ l) → l.length = r.length → l.Perm r
  | [], l, _, _, h => by
    have : l = [] := List.eq_nil_of_length_eq_zero (by simpa using h)
    rw [this]
  | x :: r, l, hn, hm, h => by
    have hx : x ∈ l := hm x List.mem_cons_self
    have h1 := List.perm_cons_erase hx
    obtain ⟨n1, n2⟩ := List.nodup_cons.1 hn
    have h2 := perm_of r (l.erase x) n2 (fun y hy => by
      have hne : y ≠ x := fun e => n1 (by rw [← e]; exact hy)
      exact (List.mem_erase_of_ne hne).2 (hm y (List.mem_cons_of_mem _ hy))) (by
      rw [List.length_erase_of_mem hx, h]; simp)
    exact h1.trans (h2.cons x)
/-- A rule that takes n to n and never twice the same takes each. -/
theorem onto {n : Nat} {s : Nat → Nat} (hs : ∀ i, i < n → s i < n) (hi : ∀ i j, i < n → j < n → s i = s j → i = j) {k : Nat} (hk : k < n) : ∃ i, i < n ∧ s i = k := by
  have hnd : ((List.range n).map s).Nodup := by
    rw [List.nodup_iff_pairwise_ne, List.pairwise_map]
    refine List.Pairwise.imp_of_mem ?_ (List.nodup_range (n := n))
    intro a b ha hb hne e
    exact hne (hi a b (List.mem_range.1 ha) (List.mem_range.1 hb) e)
  have hp := perm_of ((List.range n).map s) (List.range n) hnd (fun x hx => by
    obtain ⟨i, h1, rfl⟩ := List.mem_map.1 hx
    exact List.mem_range.2 (hs i (List.mem_range.1 h1))) (by simp)
  have := (hp.mem_iff (a := k)).1 (List.mem_range.2 hk)
  obtain ⟨i, h1, h2⟩ := List.mem_map.1 this
  exact ⟨i, List.mem_range.1 h1, h2⟩
/-- A rule that misses none of n has no two alike. -/
theorem into {n : Nat} {s : Nat → Nat} (hs : ∀ k, k < n → ∃ i, i < n ∧ s i = k) : (∀ i, i < n → s i < n) ∧ ∀ i j, i < n → j < n → s i = s j → i = j := by
  have hp := perm_of (List.range n) ((List.range n).map s) List.nodup_range (fun x hx => by
    obtain ⟨i, h1, h2⟩ := hs x (List.mem_range.1 hx)
    exact List.mem_map.2 ⟨i, List.mem_range.2 h1, h2⟩) (by simp)
  refine ⟨fun i hi => List.mem_range.1 (hp.mem_iff.1 (List.mem_map.2 ⟨i, List.mem_range.2 hi, rfl⟩)), ?_⟩
  have hnd : ((List.range n).map s).Nodup := hp.nodup_iff.2 List.nodup_range
  rw [List.nodup_iff_pairwise_ne, List.pairwise_iff_getElem] at hnd
  intro i j hi hj e
  refine Classical.byContradiction fun hne => ?_
  rcases Nat.lt_or_ge i j with h | h
  · exact hnd i j (by simpa using hi) (by simpa using hj) h (by simpa using e)
  · exact hnd j i (by simpa using hj) (by simpa using hi) (by omega) (by simpa using e.symm)

/-- Linear in each column, and nought with two equal columns. -/
structure Alt (n : Nat) (M : (Nat → Nat → F) → F) : Prop where
  congr : ∀ f g, Eqm n n f g → M f = M g
  lin : ∀ c, c < n → ∀ (a b : F) (u w : Nat → F) (f : Nat → Nat → F), M (setc c (fun i => a * u i + b * w i) f) = a * M (setc c u f) + b * M (setc c w f)
  zero : ∀ c d, c < n → d < n → c ≠ d → ∀ (w : Nat → F) (f : Nat → Nat → F), M (setc c w (setc d w f)) = 0
theorem Alt.plus {n : Nat} {M : (Nat → Nat → F) → F} (h : Alt n M) {c : Nat} (hc : c < n) (u w : Nat → F) (f : Nat → Nat → F) : M (setc c (fun i => u i + w i) f) = M (setc c u f) + M (setc c w f) := by
  have := h.lin c hc 1 1 u w f
  rw [show (fun i => (1 : F) * u i + 1 * w i) = fun i => u i + w i by funext i; grind] at this
  rw [this]; grind
theorem Alt.times {n : Nat} {M : (Nat → Nat → F) → F} (h : Alt n M) {c : Nat} (hc : c < n) (a : F) (u : Nat → F) (f : Nat → Nat → F) : M (setc c (fun i => a * u i) f) = a * M (setc c u f) := by
  have := h.lin c hc a 0 u u f
  rw [show (fun i => a * u i + 0 * u i) = fun i => a * u i by funext i; grind] at this
  rw [this]; grind
theorem Alt.sum {n : Nat} {M : (Nat → Nat → F) → F} (h : Alt n M) {c : Nat} (hc : c < n) (f : Nat → Nat → F) (a : Nat → F) (u : Nat → Nat → F) : ∀ m, M (setc c (fun i => sg m fun t => a t * u t i) f) = sg m fun t => a t * M (setc c (u t) f)
  | 0 => by
    have := h.times hc 0 (fun _ => 0) f
    rw [show (fun i => (0 : F) * (fun _ => 0) i) = fun _ => (0 : F) by funext i; grind] at this
    show M (setc c (fun _ => 0) f) = 0
    rw [this]; grind
  | m + 1 => by
    have := h.plus hc (fun i => sg m fun t => a t * u t i) (fun i => a m * u m i) f
    rw [h.times hc, h.sum hc f a u m] at this
    exact this
theorem Alt.anti {n : Nat} {M : (Nat → Nat → F) → F} (h : Alt n M) {c d : Nat} (hc : c < n) (hd : d < n) (hne : c ≠ d) (u w : Nat → F) (f : Nat → Nat → F) :
    M (setc c u (setc d w f)) = -(M (setc c w (setc d u f))) := by
  have h0 := h.zero c d hc hd hne (fun i => u i + w i) f
  rw [h.plus hc, setc_comm hne u, setc_comm hne w, h.plus hd, h.plus hd, ← setc_comm hne, ← setc_comm hne, ← setc_comm hne, ← setc_comm hne, h.zero c d hc hd hne u, h.zero c d hc hd hne w] at h0
  grind
theorem dt_alt (n : Nat) : Alt n (dt n) := ⟨fun f g h => dt_congr n h, fun c hc a b u w f => dt_lin n c hc a b u w f, fun c d hc hd hne w f => dt_equal hc hd hne w f⟩

/-- Each column is one of those of the unit matrix. -/
def pick (s : Nat → Nat) : Nat → Nat → F := fun i j => if i = s j then 1 else 0
/-- Two places change. -/
def sw (a b : Nat) (j : Nat) : Nat := if j = a then b else if j = b then a else j
theorem sw_left (a b : Nat) : sw a b a = b := by unfold sw; rw [if_pos rfl]
theorem sw_right (a b : Nat) : sw a b b = a := by
  unfold sw
  by_cases h : b = a
  · rw [if_pos h]; exact h
  · rw [if_neg h, if_pos rfl]
theorem sw_none {a b j : Nat} (h1 : j ≠ a) (h2 : j ≠ b) : sw a b j = j := by unfold sw; rw [if_neg h1, if_neg h2]
theorem sw_sw (a b j : Nat) : sw a b (sw a b j) = j := by
  by_cases h1 : j = a
  · subst h1; rw [sw_left, sw_right]
  · by_cases h2 : j = b
    · subst h2; rw [sw_right, sw_left]
    · rw [sw_none h1 h2, sw_none h1 h2]
theorem sw_lt {a b j n : Nat} (ha : a < n) (hb : b < n) (hj : j < n) : sw a b j < n := by
  unfold sw
  by_cases h1 : j = a
  · rw [if_pos h1]; exact hb
  · rw [if_neg h1]
    by_cases h2 : j = b
    · rw [if_pos h2]; exact ha
    · rw [if_neg h2]; exact hj
theorem sw_inj {a b i j : Nat} (h : sw a b i = sw a b j) : i = j := by rw [← sw_sw a b i, h, sw_sw]
theorem pick_sw (s : Nat → Nat) (a b : Nat) : pick (fun j => s (sw a b j)) = setc a (fun i => pick s i b) (setc b (fun i => pick s i a) (pick s)) := by
  funext i j
  show (if i = s (sw a b j) then (1 : F) else 0) = if j = a then pick s i b else if j = b then pick s i a else pick s i j
  by_cases h1 : j = a
  · rw [if_pos h1, h1, sw_left]; rfl
  · rw [if_neg h1]
    by_cases h2 : j = b
    · rw [if_pos h2, h2, sw_right]; rfl
    · rw [if_neg h2, sw_none h1 h2]; rfl
theorem Alt.swap {n : Nat} {M : (Nat → Nat → F) → F} (h : Alt n M) {c d : Nat} (hc : c < n) (hd : d < n) (hne : c ≠ d) (f : Nat → Nat → F) : M (setc c (fun i => f i d) (setc d (fun i => f i c) f)) = -(M f) := by
  rw [h.anti hc hd hne]
  have : setc c (fun i => f i c) (setc d (fun i => f i d) f) = f := by rw [setc_self d, setc_self c]
  rw [this]
theorem Alt.pick_swap {n : Nat} {M : (Nat → Nat → F) → F} (h : Alt n M) (s : Nat → Nat) {a b : Nat} (ha : a < n) (hb : b < n) (hne : a ≠ b) : M (pick (fun j => s (sw a b j))) = -(M (pick s)) := by
  rw [pick_sw, h.swap ha hb hne]
theorem Alt.same {n : Nat} {M : (Nat → Nat → F) → F} (h : Alt n M) (f : Nat → Nat → F) {c d : Nat} (hc : c < n) (hd : d < n) (hne : c ≠ d) (e : ∀ i, f i c = f i d) : M f = 0 := by
  have h0 := h.zero c d hc hd hne (fun i => f i d) f
  rw [setc_self, show (fun i => f i d) = fun i => f i c from funext fun i => (e i).symm, setc_self] at h0
  exact h0
/-- Rules that take n to n, never twice the same: all come of the first one by exchanges. -/
theorem by_swaps {n : Nat} {P : (Nat → Nat) → Prop} (h0 : ∀ s, (∀ j, j < n → s j = j) → P s)
    (h1 : ∀ s a b, a < n → b < n → a ≠ b → (∀ i, i < n → s i < n) → (∀ i j, i < n → j < n → s i = s j → i = j) → P (fun j => s (sw a b j)) → P s) :
    ∀ (m at' : Nat) (s : Nat → Nat), at' + m = n → (∀ i, i < n → s i < n) → (∀ i j, i < n → j < n → s i = s j → i = j) → (∀ j, j < at' → s j = j) → P s
  | 0, at', s, hm, _, _, hf => h0 s fun j hj => hf j (by omega)
  | m + 1, at', s, hm, hs, hi, hf => by
    obtain ⟨k, hk, e⟩ := onto hs hi (k := at') (by omega)
    have hge : at' ≤ k := by
      refine Classical.byContradiction fun hn => ?_
      have := hf k (by omega); omega
    by_cases hka : k = at'
    · refine by_swaps h0 h1 m (at' + 1) s (by omega) hs hi fun j hj => ?_
      by_cases h : j = at'
      · rw [h, ← hka, e, hka]
      · exact hf j (by omega)
    · refine h1 s at' k (by omega) hk (fun e => hka e.symm) hs hi ?_
      refine by_swaps h0 h1 m (at' + 1) _ (by omega) (fun i hi' => hs _ (sw_lt (by omega) hk hi')) (fun i j h2 h3 e2 => sw_inj (hi _ _ (sw_lt (by omega) hk h2) (sw_lt (by omega) hk h3) e2)) fun j hj => ?_
      show s (sw at' k j) = j
      by_cases h : j = at'
      · rw [h, sw_left, e]
      · rw [sw_none h (by omega)]; exact hf j (by omega)
theorem sg_pick {n : Nat} (s : Nat → Nat) (j : Nat) (hs : s j < n) (a : Nat → F) : sg n (fun t => a t * pick s t j) = a (s j) := by
  rw [sg_one hs fun t _ hne => by show a t * (if t = s j then (1 : F) else 0) = 0; rw [if_neg hne]; grind]
  show a (s j) * (if s j = s j then (1 : F) else 0) = a (s j)
  rw [if_pos rfl]; grind
theorem sk_zero (b : Nat) : sk 0 b = b + 1 := by unfold sk; rw [if_neg (Nat.not_lt_zero b)]
theorem dt_one : ∀ n, dt n one = 1
  | 0 => rfl
  | n + 1 => by
    rw [dt_succ, sg_one (Nat.succ_pos n) fun j _ hne => by show sgn j * (if 0 = j then (1 : F) else 0) * _ = 0; rw [if_neg (fun e => hne e.symm)]; grind]
    have : dt n (del 0 one) = dt n one := dt_congr n fun a b _ _ => by
      show (if a + 1 = sk 0 b then (1 : F) else 0) = if a = b then (1 : F) else 0
      rw [sk_zero]
      by_cases h : a = b
      · rw [if_pos h, if_pos (by omega)]
      · rw [if_neg h, if_neg (by omega)]
    rw [this, dt_one n]
    show sgn 0 * (if 0 = 0 then (1 : F) else 0) * 1 = 1
    rw [if_pos rfl, show sgn 0 = 1 from rfl]; grind
/-- Of all columns that are columns of the unit matrix. -/
theorem Alt.picked {n : Nat} {M : (Nat → Nat → F) → F} (h : Alt n M) (s : Nat → Nat) (hs : ∀ i, i < n → s i < n) : M (pick s) = M one * dt n (pick s) := by
  by_cases hi : ∀ i j, i < n → j < n → s i = s j → i = j
  · refine by_swaps (P := fun s => M (pick s) = M one * dt n (pick s)) (fun s hf => ?_) (fun s a b ha hb hne _ _ e => ?_) n 0 s (by omega) hs hi (fun j hj => absurd hj (by omega))
    · have : Eqm n n (pick s) one := fun i j _ hj => by show (if i = s j then (1 : F) else 0) = if i = j then 1 else 0; rw [hf j hj]
      rw [h.congr _ _ this, dt_congr n this, dt_one]; grind
    · rw [h.pick_swap s ha hb hne, (dt_alt n).pick_swap s ha hb hne] at e
      grind
  · obtain ⟨c, hn⟩ := Classical.not_forall.1 hi
    obtain ⟨d, hn⟩ := Classical.not_forall.1 hn
    obtain ⟨hc, hn⟩ := Classical.not_imp.1 hn
    obtain ⟨hd, hn⟩ := Classical.not_imp.1 hn
    obtain ⟨e, hne⟩ := Classical.not_imp.1 hn
    have e1 : ∀ i, pick s i c = pick s i d := fun i => by show (if i = s c then (1 : F) else 0) = if i = s d then 1 else 0; rw [e]
    rw [h.same _ hc hd hne e1, (dt_alt n).same _ hc hd hne e1]; grind
/-- The first k columns are columns of the unit matrix, the others as they come. -/
def front (k : Nat) (s : Nat → Nat) (f : Nat → Nat → F) : Nat → Nat → F := fun i j => if j < k then pick s i j else f i j
theorem Alt.fronts {n : Nat} {M : (Nat → Nat → F) → F} (h : Alt n M) : ∀ (m k : Nat) (s : Nat → Nat) (f : Nat → Nat → F), k + m = n → (∀ i, i < n → s i < n) → M (front k s f) = M one * dt n (front k s f)
  | 0, k, s, f, hm, hs => by
    have : Eqm n n (front k s f) (pick s) := fun i j _ hj => by unfold front; rw [if_pos (by omega)]
    rw [h.congr _ _ this, dt_congr n this]; exact h.picked s hs
  | m + 1, k, s, f, hm, hs => by
    have hk : k < n := by omega
    have e : Eqm n n (front k s f) (setc k (fun i => sg n fun t => f t k * one i t) (front k s f)) := fun i j hi hj => by
      show front k s f i j = if j = k then sg n (fun t => f t k * one i t) else front k s f i j
      by_cases hjk : j = k
      · rw [if_pos hjk, sg_one hi fun t _ hne => by show f t k * (if i = t then (1 : F) else 0) = 0; rw [if_neg (fun e => hne e.symm)]; grind]
        show (if j < k then _ else f i j) = f i k * (if i = i then (1 : F) else 0)
        rw [if_neg (by omega), if_pos rfl, hjk]; grind
      · rw [if_neg hjk]
    rw [h.congr _ _ e, dt_congr n e, h.sum hk, (dt_alt n).sum hk, ← sg_times]
    refine sg_congr fun t ht => ?_
    have e2 : setc k (fun i => one i t) (front k s f) = front (k + 1) (fun j => if j = k then t else s j) f := by
      funext i j
      show (if j = k then one i t else if j < k then pick s i j else f i j) = if j < k + 1 then (if i = (if j = k then t else s j) then (1 : F) else 0) else f i j
      by_cases h1 : j = k
      · rw [if_pos h1, if_pos (by omega), if_pos h1]; rfl
      · rw [if_neg h1, if_neg h1]
        by_cases h2 : j < k
        · rw [if_pos h2, if_pos (by omega)]; rfl
        · rw [if_neg h2, if_neg (by omega)]
    rw [e2, h.fronts m (k + 1) _ f (by omega) fun i hi => by
      by_cases h1 : i = k
      · rw [if_pos h1]; exact ht
      · rw [if_neg h1]; exact hs i hi]
    grind
/-- There is one such rule, up to what it says of the unit matrix. -/
theorem Alt.is {n : Nat} {M : (Nat → Nat → F) → F} (h : Alt n M) (f : Nat → Nat → F) : M f = M one * dt n f := by
  have := h.fronts n 0 (fun _ => 0) f (by omega)
  by_cases hn : n = 0
  · subst hn
    rw [h.congr f one fun i j hi => absurd hi (by omega)]
    show M one = M one * 1
    grind
  · have := this fun i hi => by omega
    exact this

theorem mul_setc (n c : Nat) (f : Nat → Nat → F) (u : Nat → F) (g : Nat → Nat → F) : mul n f (setc c u g) = setc c (fun i => sg n fun x => f i x * u x) (mul n f g) := by
  funext i j
  show sg n (fun x => f i x * (if j = c then u x else g x j)) = if j = c then sg n (fun x => f i x * u x) else sg n (fun x => f i x * g x j)
  by_cases h : j = c
  · rw [if_pos h]; exact sg_congr fun x _ => by rw [if_pos h]
  · rw [if_neg h]; exact sg_congr fun x _ => by rw [if_neg h]
/-- Cauchy, Binet. -/
theorem dt_mul (n : Nat) (f g : Nat → Nat → F) : dt n (mul n f g) = dt n f * dt n g := by
  have h : Alt n fun g => dt n (mul n f g) := by
    refine ⟨fun a b e => dt_congr n ((Eqm.rfl' n n f).mul e), fun c hc a b u w k => ?_, fun c d hc hd hne w k => ?_⟩
    · rw [mul_setc, mul_setc, mul_setc]
      have : (fun i => sg n fun x => f i x * (a * u x + b * w x)) = fun i => a * (sg n fun x => f i x * u x) + b * (sg n fun x => f i x * w x) := by
        funext i
        rw [← sg_times, ← sg_times, ← sg_add]
        exact sg_congr fun x _ => by grind
      rw [this]; exact dt_lin n c hc a b _ _ _
    · rw [mul_setc, mul_setc]; exact dt_equal hc hd hne _ _
  have := h.is g
  rw [this, show dt n (mul n f one) = dt n f from dt_congr n (mul_one n n f)]

/-- Row r in the place of its own. -/
def setr (r : Nat) (u : Nat → F) (f : Nat → Nat → F) : Nat → Nat → F := fun i j => if i = r then u j else f i j
theorem setr_flip (r : Nat) (u : Nat → F) (f : Nat → Nat → F) : setr r u f = flip (setc r u (flip f)) := rfl
theorem del_setr_zero (j : Nat) (u : Nat → F) (f : Nat → Nat → F) : del j (setr 0 u f) = del j f := by
  funext a b
  show (if a + 1 = 0 then u (sk j b) else f (a + 1) (sk j b)) = f (a + 1) (sk j b)
  rw [if_neg (by omega)]
theorem del_setr (j r : Nat) (u : Nat → F) (f : Nat → Nat → F) : del j (setr (r + 1) u f) = setr r (fun b => u (sk j b)) (del j f) := by
  funext a b
  show (if a + 1 = r + 1 then u (sk j b) else f (a + 1) (sk j b)) = if a = r then u (sk j b) else f (a + 1) (sk j b)
  by_cases h : a = r
  · rw [if_pos h, if_pos (by omega)]
  · rw [if_neg h, if_neg (by omega)]
/-- Linear in each row. -/
theorem dt_rlin : ∀ (n r : Nat) (hr : r < n) (a b : F) (u w : Nat → F) (f : Nat → Nat → F),
    dt n (setr r (fun j => a * u j + b * w j) f) = a * dt n (setr r u f) + b * dt n (setr r w f)
  | 0, r, hr, _, _, _, _, _ => absurd hr (by omega)
  | n + 1, 0, _, a, b, u, w, f => by
    rw [dt_succ, dt_succ, dt_succ, ← sg_times, ← sg_times, ← sg_add]
    refine sg_congr fun j hj => ?_
    rw [del_setr_zero, del_setr_zero, del_setr_zero]
    show sgn j * (a * u j + b * w j) * dt n (del j f) = a * (sgn j * u j * dt n (del j f)) + b * (sgn j * w j * dt n (del j f))
    grind
  | n + 1, r + 1, hr, a, b, u, w, f => by
    rw [dt_succ, dt_succ, dt_succ, ← sg_times, ← sg_times, ← sg_add]
    refine sg_congr fun j hj => ?_
    rw [del_setr, del_setr, del_setr, dt_rlin n r (by omega) a b (fun b => u (sk j b)) (fun b => w (sk j b))]
    have : ∀ v : Nat → F, setr (r + 1) v f 0 j = f 0 j := fun v => by show (if 0 = r + 1 then v j else f 0 j) = f 0 j; rw [if_neg (by omega)]
    rw [this, this, this]; grind
/-- Two equal rows. -/
theorem dt_rows {n : Nat} {f : Nat → Nat → F} {r s : Nat} (hr : r < n) (hs : s < n) (hne : r ≠ s) (e : ∀ j, j < n → f r j = f s j) : dt n f = 0 := by
  have h1 : Eqm n n (mul n (setr r (fun j => one s j) one) f) f := fun i j hi hj => by
    show sg n (fun x => (if i = r then one s x else one i x) * f x j) = f i j
    by_cases h : i = r
    · rw [sg_congr (g := fun x => one s x * f x j) fun x _ => by rw [if_pos h]]
      have := one_mul n n f s j hs hj
      exact this.trans (by rw [h, e j hj])
    · rw [sg_congr (g := fun x => one i x * f x j) fun x _ => by rw [if_neg h]]
      exact one_mul n n f i j hi hj
  have h2 : dt n (setr r (fun j => one s j) one) = 0 := by
    have : Eqm n n (setr r (fun j => one s j) one) (setc r (fun i => (0 : F) * 0) (setr r (fun j => one s j) one)) := fun i j hi hj => by
      show (if i = r then one s j else one i j) = if j = r then (0 : F) * 0 else if i = r then one s j else one i j
      by_cases hj : j = r
      · rw [if_pos hj]
        by_cases hi : i = r
        · rw [if_pos hi]; show (if s = j then (1 : F) else 0) = 0 * 0; rw [if_neg (by omega)]; rfl
        · rw [if_neg hi]; show (if i = j then (1 : F) else 0) = 0 * 0; rw [if_neg (by omega)]; rfl
      · rw [if_neg hj]
    rw [dt_congr n this, dt_times n r hr 0 (fun _ => 0)]; grind
  rw [← dt_congr n h1, dt_mul, h2]; grind
theorem dt_flip (n : Nat) (f : Nat → Nat → F) : dt n (flip f) = dt n f := by
  have h : Alt n fun g => dt n (flip g) := by
    refine ⟨fun a b e => dt_congr n fun i j hi hj => e j i hj hi, fun c hc a b u w k => dt_rlin n c hc a b u w (flip k), fun c d hc hd hne w k => ?_⟩
    refine dt_rows hc hd hne fun j _ => ?_
    show (if c = c then w j else _) = if d = c then w j else if d = d then w j else _
    rw [if_pos rfl, if_neg (fun e => hne e.symm), if_pos rfl]
  have := h.is f
  rw [this, show dt n (flip one) = 1 from (dt_congr n fun i j _ _ => by show (if j = i then (1 : F) else 0) = if i = j then 1 else 0; by_cases e : i = j <;> simp [e, eq_comm]).trans (dt_one n)]
  grind
/-- Two rows change places. -/
theorem dt_rswap {n : Nat} (f : Nat → Nat → F) {a b : Nat} (ha : a < n) (hb : b < n) (hne : a ≠ b) : dt n (fun i j => f (sw a b i) j) = -(dt n f) := by
  rw [← dt_flip n f, ← dt_flip n fun i j => f (sw a b i) j, ← (dt_alt n).swap ha hb hne]
  congr 1
  funext i j
  show f (sw a b j) i = if j = a then f b i else if j = b then f a i else f j i
  by_cases h1 : j = a
  · rw [if_pos h1, h1, sw_left]
  · rw [if_neg h1]
    by_cases h2 : j = b
    · rw [if_pos h2, h2, sw_right]
    · rw [if_neg h2, sw_none h1 h2]
theorem dt_cswap {n : Nat} (f : Nat → Nat → F) {a b : Nat} (ha : a < n) (hb : b < n) (hne : a ≠ b) : dt n (fun i j => f i (sw a b j)) = -(dt n f) := by
  rw [← dt_flip n f, ← dt_flip n fun i j => f i (sw a b j)]
  exact dt_rswap (flip f) ha hb hne
theorem setr_self (r : Nat) (f : Nat → Nat → F) : setr r (fun j => f r j) f = f := by
  funext i j
  show (if i = r then f r j else f i j) = f i j
  by_cases h : i = r
  · rw [if_pos h, h]
  · rw [if_neg h]
/-- So many times one row added to another one. -/
theorem dt_add {n : Nat} (f : Nat → Nat → F) {a b : Nat} (ha : a < n) (hb : b < n) (hne : a ≠ b) (k : F) : dt n (setr a (fun j => f a j + k * f b j) f) = dt n f := by
  have h := dt_rlin n a ha 1 k (fun j => f a j) (fun j => f b j) f
  rw [show (fun j => (1 : F) * f a j + k * f b j) = fun j => f a j + k * f b j by funext j; grind, setr_self] at h
  have h2 : dt n (setr a (fun j => f b j) f) = 0 := dt_rows ha hb hne fun j _ => by
    show (if a = a then f b j else f a j) = if b = a then f b j else f b j
    rw [if_pos rfl, if_neg (fun e => hne e.symm)]
  rw [h, h2]; grind
theorem dt_scale {n : Nat} (f : Nat → Nat → F) {a : Nat} (ha : a < n) (k : F) : dt n (setr a (fun j => k * f a j) f) = k * dt n f := by
  have h := dt_rlin n a ha k 0 (fun j => f a j) (fun j => f a j) f
  rw [show (fun j => k * f a j + (0 : F) * f a j) = fun j => k * f a j by funext j; grind, setr_self] at h
  rw [h]; grind
theorem dt_rplus {n : Nat} (f : Nat → Nat → F) {a : Nat} (ha : a < n) (u : Nat → F) : dt n (setr a (fun j => f a j + u j) f) = dt n f + dt n (setr a u f) := by
  have h := dt_rlin n a ha 1 1 (fun j => f a j) u f
  rw [show (fun j => (1 : F) * f a j + 1 * u j) = fun j => f a j + u j by funext j; grind, setr_self] at h
  rw [h]; grind

theorem dt_zrow {n : Nat} {f : Nat → Nat → F} {k : Nat} (hk : k < n) (h : ∀ j, j < n → f k j = 0) : dt n f = 0 := by
  have h1 := dt_scale f hk 0
  rw [show (0 : F) * dt n f = 0 by grind] at h1
  rw [← h1]
  refine dt_congr n fun i j hi hj => ?_
  show f i j = if i = k then (0 : F) * f k j else f i j
  by_cases e : i = k
  · rw [if_pos e, e, h j hj]; grind
  · rw [if_neg e]
/-- The sign of an order of whole numbers: the determinant of its matrix. -/
def sp (n : Nat) (s : Nat → Int) : F := dt n fun i j => if s i = (j : Int) then 1 else 0
theorem sp_congr {n : Nat} {s t : Nat → Int} (h : ∀ i, i < n → s i = t i) : sp n s = sp n t := dt_congr n fun i j hi _ => by rw [h i hi]
theorem sp_id {n : Nat} {s : Nat → Int} (h : ∀ i, i < n → s i = (i : Int)) : sp n s = 1 := by
  rw [← dt_one n]
  refine dt_congr n fun i j hi _ => ?_
  rw [h i hi]
  show (if (i : Int) = (j : Int) then (1 : F) else 0) = if i = j then 1 else 0
  by_cases e : i = j
  · rw [if_pos e, if_pos (by omega)]
  · rw [if_neg e, if_neg (by omega)]
theorem sp_swap {n : Nat} (s : Nat → Int) {a b : Nat} (ha : a < n) (hb : b < n) (hne : a ≠ b) : sp n (fun i => s (sw a b i)) = -(sp n s) :=
  dt_rswap (fun i j => if s i = (j : Int) then 1 else 0) ha hb hne
theorem sp_out {n : Nat} {s : Nat → Int} {k : Nat} (hk : k < n) (h : s k < 0 ∨ (n : Int) ≤ s k) : sp n s = 0 := dt_zrow hk fun j hj => by rw [if_neg (by omega)]
theorem sp_twice {n : Nat} {s : Nat → Int} {a b : Nat} (ha : a < n) (hb : b < n) (hne : a ≠ b) (h : s a = s b) : sp n s = 0 := dt_rows ha hb hne fun j _ => by rw [h]
/-- Only of n numbers, each once, is there a sign. -/
theorem sp_miss {n : Nat} {s : Nat → Int} {k : Nat} (hk : k < n) (h : ∀ i, i < n → s i ≠ (k : Int)) : sp n s = 0 := by
  unfold sp
  have e : Eqm n n (fun i j => if s i = (j : Int) then (1 : F) else 0) (setc k (fun i => (0 : F) * 0) (fun i j => if s i = (j : Int) then (1 : F) else 0)) := fun i j hi hj => by
    show (if s i = (j : Int) then (1 : F) else 0) = if j = k then (0 : F) * 0 else if s i = (j : Int) then 1 else 0
    by_cases e : j = k
    · rw [if_pos e, e, if_neg (h i hi)]; grind
    · rw [if_neg e]
  rw [dt_congr n e, dt_times n k hk 0 (fun _ => 0)]; grind

/-- One place after the other has its own number, the others as they are, and what stood at the first place comes last: places t and before. -/
def turn (e t : Nat) (b : Nat) : Nat := if b < t then b + 1 else if b = t then 0 else sk e b
theorem turn_next (e t : Nat) (ht : t + 1 < e) : (fun b => turn e (t + 1) b) = fun b => turn e t (sw t (t + 1) b) := by
  funext b
  show turn e (t + 1) b = turn e t (sw t (t + 1) b)
  by_cases h1 : b = t
  · subst h1
    rw [sw_left]; unfold turn sk
    rw [if_pos (by omega), if_neg (by omega), if_neg (by omega), if_pos (by omega)]
  · by_cases h2 : b = t + 1
    · subst h2
      rw [sw_right]; unfold turn
      rw [if_neg (by omega), if_pos rfl, if_neg (by omega), if_pos rfl]
    · rw [sw_none h1 h2]; unfold turn
      by_cases h3 : b < t
      · rw [if_pos (by omega), if_pos h3]
      · rw [if_neg (by omega), if_neg h2, if_neg h3, if_neg h1]
theorem dt_turn {m : Nat} (k : Nat → Nat → F) (e : Nat) : ∀ t, t < e → t < m → dt m (fun i b => k i (turn e t b)) = sgn t * dt m (fun i b => k i (sk e b))
  | 0, h, hm => by
    have : (fun i b => k i (turn e 0 b)) = fun i b => k i (sk e b) := by
      funext i b
      congr 1
      unfold turn sk
      rw [if_neg (by omega)]
      by_cases h0 : b = 0
      · rw [if_pos h0, if_pos (by omega), h0]
      · rw [if_neg h0]
    rw [this, show sgn 0 = 1 from rfl]; grind
  | t + 1, h, hm => by
    have := dt_cswap (n := m) (fun i b => k i (turn e t b)) (a := t) (b := t + 1) (by omega) hm (by omega)
    rw [dt_turn k e t (by omega) (by omega)] at this
    have e1 : (fun i b => k i (turn e (t + 1) b)) = fun i b => k i (turn e t (sw t (t + 1) b)) := by
      funext i b
      exact congrArg (k i) (congrFun (turn_next e t h) b)
    rw [e1, this, sgn_succ]; grind

/-- The product of the first k. -/
def pr : Nat → (Nat → F) → F
  | 0, _ => 1
  | k + 1, g => pr k g * g k
theorem pr_congr {k : Nat} {g h : Nat → F} (e : ∀ i, i < k → g i = h i) : pr k g = pr k h := by
  induction k with
  | zero => rfl
  | succ k ih => show pr k g * g k = pr k h * h k; rw [ih fun i hi => e i (by omega), e k (by omega)]
/-- What all orders that begin as s does (its first k places) add to the determinant. -/
def part' (n k : Nat) (f : Nat → Nat → F) (s : Nat → Nat) : F := sp n (fun i => (s i : Int)) * pr k (fun i => f i (s i)) * dt (n - k) (fun i j => f (k + i) (s (k + j)))
theorem part_end (n : Nat) (f : Nat → Nat → F) (s : Nat → Nat) : part' n n f s = sp n (fun i => (s i : Int)) * pr n (fun i => f i (s i)) := by
  unfold part'
  rw [Nat.sub_self]
  show _ * 1 = _
  grind
theorem part_zero (n : Nat) (f : Nat → Nat → F) {s : Nat → Nat} (hs : ∀ j, j < n → s j = j) : part' n 0 f s = dt n f := by
  unfold part'
  rw [sp_id fun i hi => by rw [hs i hi], Nat.sub_zero]
  have : dt n (fun i j => f (0 + i) (s (0 + j))) = dt n f := dt_congr n fun i j _ hj => by rw [Nat.zero_add, Nat.zero_add, hs j hj]
  rw [this]
  show 1 * 1 * _ = _
  grind
theorem part_next {n k : Nat} (f : Nat → Nat → F) (s : Nat → Nat) (hk : k < n) : sg (n - k) (fun t => part' n (k + 1) f fun j => s (sw k (k + t) j)) = part' n k f s := by
  obtain ⟨m, hm⟩ : ∃ m, n - k = m + 1 := ⟨n - k - 1, by omega⟩
  unfold part'
  rw [hm, dt_succ, ← sg_times]
  refine sg_congr fun t ht => ?_
  have e1 : pr (k + 1) (fun i => f i (s (sw k (k + t) i))) = pr k (fun i => f i (s i)) * f k (s (k + t)) := by
    show pr k (fun i => f i (s (sw k (k + t) i))) * f k (s (sw k (k + t) k)) = _
    rw [sw_left, pr_congr (h := fun i => f i (s i)) fun i hi => by rw [sw_none (by omega) (by omega)]]
  have e0 : n - (k + 1) = m := by omega
  rw [e0, e1]
  show _ = sp n (fun i => (s i : Int)) * pr k (fun i => f i (s i)) * (sgn t * f (k + 0) (s (k + t)) * dt m (del t fun i j => f (k + i) (s (k + j))))
  rw [Nat.add_zero]
  cases t with
  | zero =>
    have e2 : (fun i => ((s (sw k (k + 0) i) : Nat) : Int)) = fun i => (s i : Int) := by
      funext i
      rw [Nat.add_zero]
      by_cases h : i = k
      · rw [h, sw_left]
      · rw [sw_none h h]
    have e3 : (fun i j => f (k + 1 + i) (s (sw k (k + 0) (k + 1 + j)))) = del 0 fun i j => f (k + i) (s (k + j)) := by
      funext i j
      show f (k + 1 + i) (s (sw k (k + 0) (k + 1 + j))) = f (k + (i + 1)) (s (k + sk 0 j))
      rw [sw_none (by omega) (by omega), sk_zero, show k + 1 + i = k + (i + 1) by omega, show k + 1 + j = k + (j + 1) by omega]
    rw [e2, e3, show sgn 0 = 1 from rfl]; grind
  | succ t =>
    have e2 : sp n (fun i => ((s (sw k (k + (t + 1)) i) : Nat) : Int)) = -(sp n fun i => (s i : Int)) := sp_swap (fun i => (s i : Int)) hk (by omega) (by omega)
    have e3 : dt m (fun i j => f (k + 1 + i) (s (sw k (k + (t + 1)) (k + 1 + j)))) = sgn t * dt m (del (t + 1) fun i j => f (k + i) (s (k + j))) := by
      refine Eq.trans (dt_congr m fun i j hi hj => ?_) (dt_turn (fun i b => f (k + (i + 1)) (s (k + b))) (t + 1) t (by omega) (by omega))
      show f (k + 1 + i) (s (sw k (k + (t + 1)) (k + 1 + j))) = f (k + (i + 1)) (s (k + turn (t + 1) t j))
      rw [show k + 1 + i = k + (i + 1) by omega]
      congr 2
      unfold turn
      by_cases h1 : j = t
      · rw [if_neg (by omega), if_pos h1, h1, show k + 1 + t = k + (t + 1) by omega, sw_right, Nat.add_zero]
      · rw [sw_none (by omega) (by omega)]
        by_cases h2 : j < t
        · rw [if_pos h2]; omega
        · rw [if_neg h2, if_neg h1]; unfold sk; rw [if_neg (by omega)]; omega
    rw [e2, e3, sgn_succ]; grind

/-- The document's sign: one exchange for each two of which the greater one comes first. -/
def e2 (a b : Int) : F := if b < a then -1 else 1
def inv : Nat → (Nat → Int) → F
  | 0, _ => 1
  | k + 1, s => inv k s * pr k (fun t => e2 (s t) (s k))
theorem e2_turn {a b : Int} (h : a ≠ b) : e2 b a = -(e2 a b) := by
  unfold e2
  rcases Int.lt_or_lt_of_ne h with h | h
  · rw [if_pos h, if_neg (by omega)]
  · rw [if_neg (by omega), if_pos h]; grind
theorem pr_next {c : Nat} (g : Nat → F) : ∀ k, c + 1 < k → pr k (fun i => g (sw c (c + 1) i)) = pr k g
  | 0, h => absurd h (by omega)
  | k + 1, h => by
    show pr k (fun i => g (sw c (c + 1) i)) * g (sw c (c + 1) k) = pr k g * g k
    by_cases hk : c + 1 < k
    · rw [pr_next g k hk, sw_none (by omega) (by omega)]
    · obtain rfl : k = c + 1 := by omega
      show pr c (fun i => g (sw c (c + 1) i)) * g (sw c (c + 1) c) * g (sw c (c + 1) (c + 1)) = pr c g * g c * g (c + 1)
      rw [pr_congr (h := g) fun i hi => by rw [sw_none (by omega) (by omega)], sw_left, sw_right]; grind
theorem inv_congr {k : Nat} {s t : Nat → Int} (h : ∀ i, i < k → s i = t i) : inv k s = inv k t := by
  induction k with
  | zero => rfl
  | succ k ih =>
    show inv k s * pr k _ = inv k t * pr k _
    rw [ih fun i hi => h i (by omega), h k (by omega), pr_congr (h := fun x => e2 (t x) (t k)) fun i hi => by rw [h i (by omega)]]
theorem inv_next {c : Nat} (s : Nat → Int) (hne : s c ≠ s (c + 1)) : ∀ k, c + 1 < k → inv k (fun i => s (sw c (c + 1) i)) = -(inv k s)
  | 0, h => absurd h (by omega)
  | k + 1, h => by
    show inv k (fun i => s (sw c (c + 1) i)) * pr k (fun t => e2 (s (sw c (c + 1) t)) (s (sw c (c + 1) k))) = -(inv k s * pr k (fun t => e2 (s t) (s k)))
    by_cases hk : c + 1 < k
    · rw [inv_next s hne k hk, sw_none (j := k) (by omega) (by omega), pr_next (fun t => e2 (s t) (s k)) k hk]; grind
    · obtain rfl : k = c + 1 := by omega
      show inv c (fun i => s (sw c (c + 1) i)) * pr c (fun t => e2 (s (sw c (c + 1) t)) (s (sw c (c + 1) c))) * (pr c (fun t => e2 (s (sw c (c + 1) t)) (s (sw c (c + 1) (c + 1)))) * e2 (s (sw c (c + 1) c)) (s (sw c (c + 1) (c + 1)))) =
        -(inv c s * pr c (fun t => e2 (s t) (s c)) * (pr c (fun t => e2 (s t) (s (c + 1))) * e2 (s c) (s (c + 1))))
      rw [sw_left, sw_right, inv_congr (t := s) fun i hi => by rw [sw_none (by omega) (by omega)], pr_congr (g := fun t => e2 (s (sw c (c + 1) t)) (s (c + 1))) (h := fun t => e2 (s t) (s (c + 1))) fun i hi => by rw [sw_none (by omega) (by omega)],
        pr_congr (g := fun t => e2 (s (sw c (c + 1) t)) (s c)) (h := fun t => e2 (s t) (s c)) fun i hi => by rw [sw_none (by omega) (by omega)], e2_turn hne]
      grind
theorem sw_three {c p q : Nat} (h1 : c ≠ p) (h2 : p ≠ q) (h3 : c ≠ q) (i : Nat) : sw c q i = sw p q (sw c p (sw p q i)) := by
  by_cases e1 : i = c
  · rw [e1, sw_left, sw_none (j := c) h1 h3, sw_left, sw_left]
  · by_cases e2 : i = p
    · rw [e2, sw_left p q, sw_none (j := q) (fun e => h3 e.symm) (fun e => h2 e.symm), sw_right, sw_none (fun e => h1 e.symm) h2]
    · by_cases e3 : i = q
      · rw [e3, sw_right, sw_right, sw_right, sw_none (j := c) h1 h3]
      · rw [sw_none e1 e3, sw_none e2 e3, sw_none e1 e2, sw_none e2 e3]
theorem inv_far (c : Nat) : ∀ (d k : Nat) (s : Nat → Int), c + d + 1 < k → (∀ i j, i < k → j < k → s i = s j → i = j) → inv k (fun i => s (sw c (c + d + 1) i)) = -(inv k s)
  | 0, k, s, h, hi => inv_next s (fun e => by have := hi _ _ (by omega) (by omega) e; omega) k h
  | d + 1, k, s, h, hi => by
    have e : (fun i => s (sw c (c + (d + 1) + 1) i)) = fun i => s (sw (c + d + 1) (c + d + 1 + 1) (sw c (c + d + 1) (sw (c + d + 1) (c + d + 1 + 1) i))) := by
      funext i
      exact congrArg s (sw_three (by omega) (by omega) (by omega) i)
    have s1 : ∀ i j, i < k → j < k → s (sw (c + d + 1) (c + d + 1 + 1) i) = s (sw (c + d + 1) (c + d + 1 + 1) j) → i = j := fun i j h1 h2 e => sw_inj (hi _ _ (sw_lt (by omega) (by omega) h1) (sw_lt (by omega) (by omega) h2) e)
    have a1 := inv_next (c := c + d + 1) s (fun e => by have := hi _ _ (by omega) (by omega) e; omega) k (by omega)
    have a2 := inv_far c d k (fun i => s (sw (c + d + 1) (c + d + 1 + 1) i)) (by omega) s1
    have a3 := inv_next (c := c + d + 1) (fun i => s (sw (c + d + 1) (c + d + 1 + 1) (sw c (c + d + 1) i))) (fun e => by
      have := s1 _ _ (sw_lt (by omega) (by omega) (by omega)) (sw_lt (by omega) (by omega) (by omega)) e
      have := sw_inj this
      omega) k (by omega)
    rw [e, a3, a2, a1]; grind
theorem inv_swap {n : Nat} (s : Nat → Int) {a b : Nat} (ha : a < n) (hb : b < n) (hne : a ≠ b) (hi : ∀ i j, i < n → j < n → s i = s j → i = j) : inv n (fun i => s (sw a b i)) = -(inv n s) := by
  have sym : ∀ i, sw a b i = sw b a i := fun i => by
    unfold sw
    by_cases h1 : i = a
    · rw [if_pos h1, if_neg (by omega), if_pos h1]
    · rw [if_neg h1]
      by_cases h2 : i = b
      · rw [if_pos h2, if_pos h2]
      · rw [if_neg h2, if_neg h2, if_neg h1]
  rcases Nat.lt_or_ge a b with h | h
  · have := inv_far a (b - a - 1) n s (by omega) hi
    rw [show a + (b - a - 1) + 1 = b by omega] at this
    exact this
  · have := inv_far b (a - b - 1) n s (by omega) hi
    rw [show b + (a - b - 1) + 1 = a by omega] at this
    rw [show (fun i => s (sw a b i)) = fun i => s (sw b a i) by funext i; rw [sym]]
    exact this
theorem pr_ones {k : Nat} {g : Nat → F} (h : ∀ i, i < k → g i = 1) : pr k g = 1 := by
  induction k with
  | zero => rfl
  | succ k ih => show pr k g * g k = 1; rw [ih fun i hi => h i (by omega), h k (by omega)]; rfl
theorem inv_id {s : Nat → Int} : ∀ n, (∀ i, i < n → s i = (i : Int)) → inv n s = 1
  | 0, _ => rfl
  | n + 1, h => by
    show inv n s * pr n _ = 1
    rw [inv_id n fun i hi => h i (by omega), pr_ones fun i hi => by unfold e2; rw [h i (by omega), h n (by omega), if_neg (by omega)]]; rfl
/-- Of an order both are one. -/
theorem inv_sp {n : Nat} {s : Nat → Int} (h : ∀ k : Nat, k < n → ∃ i, i < n ∧ s i = (k : Int)) : inv n s = sp n s := by
  have hN : ∀ k : Nat, k < n → ∃ i, i < n ∧ (s i).toNat = k := fun k hk => by
    obtain ⟨i, h1, h2⟩ := h k hk
    exact ⟨i, h1, by rw [h2]; rfl⟩
  obtain ⟨h1, h2⟩ := into hN
  -- the numbers are none below nought
  have hs : ∀ i, i < n → s i = (((s i).toNat : Nat) : Int) := fun i hi => by
    obtain ⟨j, hj, e⟩ := h _ (h1 i hi)
    have : i = j := h2 i j hi hj (by rw [e]; rfl)
    rw [this] at e ⊢
    exact e
  rw [inv_congr hs, sp_congr hs]
  refine by_swaps (n := n) (P := fun t => inv n (fun i => (t i : Int)) = sp n fun i => (t i : Int)) (fun t hf => ?_) (fun t a b ha hb hne _ hi e => ?_) n 0 (fun i => (s i).toNat) (by omega) h1 h2 (fun j hj => absurd hj (by omega))
  · rw [inv_id n fun i hi => by rw [hf i hi], sp_id fun i hi => by rw [hf i hi]]
  · have a1 := inv_swap (n := n) (fun i => (t i : Int)) ha hb hne fun i j h1 h2 e => hi i j h1 h2 (by omega)
    have a2 := sp_swap (n := n) (fun i => (t i : Int)) ha hb hne
    have e' : inv n (fun i => ((t (sw a b i) : Nat) : Int)) = sp n fun i => ((t (sw a b i) : Nat) : Int) := e
    rw [a1, a2] at e'
    grind

end Go.Proofs.Ytbdpcpodmmhjaaa.Mx

/- Which numbers are left without one of them. No program is named here. -/
namespace Go.Proofs.Ytbdpcpodmmhjaaa
set_option linter.unusedVariables false

/-- How many of the first t there are without number a. -/
def ct (a t : Nat) : Nat := if t ≤ a then t else t - 1
theorem ct_skip (a : Nat) : ct a (a + 1) = ct a a := by unfold ct; rw [if_neg (by omega), if_pos (Nat.le_refl _)]; omega
theorem ct_next {a t : Nat} (h : t ≠ a) : ct a (t + 1) = ct a t + 1 := by
  unfold ct
  by_cases h1 : t ≤ a
  · rw [if_pos h1, if_pos (by omega)]
  · rw [if_neg h1, if_neg (by omega)]; omega
theorem sk_ct {a t : Nat} (h : t ≠ a) : Mx.sk a (ct a t) = t := by
  unfold ct Mx.sk
  by_cases h1 : t ≤ a
  · rw [if_pos h1, if_pos (by omega)]
  · rw [if_neg h1, if_neg (by omega)]; omega
theorem ct_zero (a : Nat) : ct a 0 = 0 := by unfold ct; rw [if_pos (by omega)]
theorem ct_end {a p : Nat} (h : a ≤ p) : ct a (p + 1) = p := by unfold ct; rw [if_neg (by omega)]; omega
theorem ct_le {a p t : Nat} (h : a ≤ p) (ht : t ≤ p + 1) : ct a t ≤ p := by unfold ct; split <;> omega
/-- Without row a and column b. -/
def wo (f : Nat → Nat → Fp.F) (a b : Nat) : Nat → Nat → Fp.F := fun i j => f (Mx.sk a i) (Mx.sk b j)
/-- The first of them. -/
def kept (k m : Nat) : List Nat := (List.range (ct k m)).map (Mx.sk k)
theorem kept_zero (k : Nat) : kept k 0 = [] := by unfold kept; rw [ct_zero]; rfl
theorem kept_skip (k : Nat) : kept k (k + 1) = kept k k := by unfold kept; rw [ct_skip]
theorem kept_next {k m : Nat} (h : m ≠ k) : kept k (m + 1) = kept k m ++ [m] := by
  unfold kept
  rw [ct_next h, List.range_succ, List.map_append, List.map_singleton, sk_ct h]
theorem kept_len (k m : Nat) : (kept k m).length = ct k m := by simp [kept]
theorem ct_le_self (k m : Nat) : ct k m ≤ m := by unfold ct; split <;> omega
theorem ct_lt {k m n : Nat} (hm : m < n) (h : m ≠ k) : ct k m < n := by unfold ct; split <;> omega

end Go.Proofs.Ytbdpcpodmmhjaaa

/- Plain facts on determinants over the field: by any row (Laplace), what is left without a row and a column (the adjugate), Cramer's rule. No program is named here. -/
namespace Go.Proofs.Ytbdpcpodmmhjaaa.Mx
open Fp
set_option linter.unusedVariables false

/-- Row i first, the others behind it in their order. -/
def tau (i a : Nat) : Nat := if a = 0 then i else sk i (a - 1)
theorem tau_zero (a : Nat) : tau 0 a = a := by
  unfold tau
  by_cases h : a = 0
  · rw [if_pos h, h]
  · rw [if_neg h, sk_zero]; omega
theorem tau_next (i a : Nat) : tau (i + 1) a = sw i (i + 1) (tau i a) := by
  unfold tau
  by_cases h : a = 0
  · rw [if_pos h, if_pos h, sw_left]
  · rw [if_neg h, if_neg h]
    unfold sk
    rcases Nat.lt_trichotomy (a - 1) i with e | e | e
    · rw [if_pos (by omega), if_pos e, sw_none (by omega) (by omega)]
    · rw [if_pos (by omega), if_neg (by omega), e, sw_right]
    · rw [if_neg (by omega), if_neg (by omega), sw_none (by omega) (by omega)]
theorem dt_tau {n : Nat} : ∀ (i : Nat) (f : Nat → Nat → F), i < n → dt n (fun a b => f (tau i a) b) = sgn i * dt n f
  | 0, f, _ => by
    rw [show (fun a b => f (tau 0 a) b) = f from funext fun a => by rw [tau_zero]]
    show _ = (if 0 % 2 = 0 then (1 : F) else -1) * _
    rw [if_pos rfl]; grind
  | i + 1, f, h => by
    have h1 := dt_tau (n := n) i (fun r b => f (sw i (i + 1) r) b) (by omega)
    rw [show (fun a b => f (sw i (i + 1) (tau i a)) b) = fun a b => f (tau (i + 1) a) b from funext fun a => by rw [tau_next]] at h1
    rw [h1, dt_rswap f (a := i) (b := i + 1) (by omega) h (by omega), sgn_succ]
    grind
theorem sgn_two (i : Nat) : sgn i * sgn i = 1 := by unfold sgn; split <;> grind
theorem sgn_add (i j : Nat) : sgn (i + j) = sgn i * sgn j := by
  unfold sgn
  by_cases h1 : i % 2 = 0
  · by_cases h2 : j % 2 = 0
    · rw [if_pos h1, if_pos h2, if_pos (by omega)]; grind
    · rw [if_pos h1, if_neg h2, if_neg (by omega)]; grind
  · by_cases h2 : j % 2 = 0
    · rw [if_neg h1, if_pos h2, if_neg (by omega)]; grind
    · rw [if_neg h1, if_neg h2, if_pos (by omega)]; grind
/-- By row i. -/
theorem laplace (p i : Nat) (f : Nat → Nat → F) (hi : i ≤ p) : (sg (p + 1) fun j => sgn (i + j) * f i j * dt p (wo f i j)) = dt (p + 1) f := by
  have h1 := dt_tau i f (Nat.lt_succ_of_le hi)
  rw [dt_succ] at h1
  have h2 : (sg (p + 1) fun j => sgn j * f (tau i 0) j * dt p (del j fun a b => f (tau i a) b)) = sg (p + 1) fun j => sgn j * f i j * dt p (wo f i j) := sg_congr fun j _ => by
    rw [show (del j fun a b => f (tau i a) b) = wo f i j from funext fun a => funext fun b => by
      show f (tau i (a + 1)) (sk j b) = f (sk i a) (sk j b)
      unfold tau
      rw [if_neg (Nat.succ_ne_zero a), Nat.add_sub_cancel]]
    show sgn j * f (if 0 = 0 then i else _) j * _ = _
    rw [if_pos rfl]
  rw [h2] at h1
  have h3 : (sg (p + 1) fun j => sgn (i + j) * f i j * dt p (wo f i j)) = sgn i * sg (p + 1) fun j => sgn j * f i j * dt p (wo f i j) := by
    rw [← sg_times]
    exact sg_congr fun j _ => by rw [sgn_add]; grind
  rw [h3, h1]
  have := sgn_two i
  grind
theorem wo_setr (i j : Nat) (u : Nat → F) (f : Nat → Nat → F) : wo (setr i u f) i j = wo f i j := by
  funext a b
  show (if sk i a = i then u (sk j b) else f (sk i a) (sk j b)) = _
  rw [if_neg (sk_ne i a)]; rfl
/-- With the numbers of another row in its place. -/
theorem laplace_row (p i : Nat) (u : Nat → F) (f : Nat → Nat → F) (hi : i ≤ p) : (sg (p + 1) fun j => sgn (i + j) * u j * dt p (wo f i j)) = dt (p + 1) (setr i u f) := by
  rw [← laplace p i (setr i u f) hi]
  exact sg_congr fun j _ => by
    rw [wo_setr]
    show _ = _ * (if i = i then u j else f i j) * _
    rw [if_pos rfl]
theorem laplace_other (p i k : Nat) (f : Nat → Nat → F) (hi : i ≤ p) (hk : k ≤ p) : (sg (p + 1) fun j => sgn (i + j) * f k j * dt p (wo f i j)) = if i = k then dt (p + 1) f else 0 := by
  rw [laplace_row p i (fun j => f k j) f hi]
  by_cases h : i = k
  · rw [if_pos h, h, setr_self]
  · rw [if_neg h]
    refine dt_rows (r := i) (s := k) (by omega) (by omega) h fun j _ => ?_
    show (if i = i then f k j else f i j) = (if k = i then f k j else f k j)
    rw [if_pos rfl]; split <;> rfl

/-- The adjugate: at row i and column j what is left without row j and column i, with its sign. -/
def adj (p : Nat) (f : Nat → Nat → F) : Nat → Nat → F := fun i j => sgn (i + j) * dt p (wo f j i)
/-- So many times the one. -/
def scal (d : F) : Nat → Nat → F := fun i j => if i = j then d else 0
theorem adj_right (p : Nat) (f : Nat → Nat → F) : Eqm (p + 1) (p + 1) (mul (p + 1) f (adj p f)) (scal (dt (p + 1) f)) := fun k i hk hi => by
  show (sg (p + 1) fun j => f k j * (sgn (j + i) * dt p (wo f i j))) = if k = i then _ else 0
  have := laplace_other p i k f (by omega) (by omega)
  rw [show (sg (p + 1) fun j => f k j * (sgn (j + i) * dt p (wo f i j))) = sg (p + 1) fun j => sgn (i + j) * f k j * dt p (wo f i j) from sg_congr fun j _ => by rw [Nat.add_comm i j]; grind, this]
  by_cases h : i = k
  · rw [if_pos h, if_pos h.symm]
  · rw [if_neg h, if_neg fun h' => h h'.symm]
theorem adj_flip (p : Nat) (f : Nat → Nat → F) : adj p (flip f) = flip (adj p f) := by
  funext i j
  show sgn (i + j) * dt p (wo (flip f) j i) = sgn (j + i) * dt p (wo f i j)
  rw [Nat.add_comm i j, show wo (flip f) j i = flip (wo f i j) from rfl, dt_flip]
theorem adj_left (p : Nat) (f : Nat → Nat → F) : Eqm (p + 1) (p + 1) (mul (p + 1) (adj p f) f) (scal (dt (p + 1) f)) := fun k i hk hi => by
  have h := adj_right p (flip f) i k hi hk
  rw [adj_flip, dt_flip] at h
  have e : mul (p + 1) (flip f) (flip (adj p f)) i k = mul (p + 1) (adj p f) f k i := sg_congr fun x _ => by
    show f x i * adj p f k x = adj p f k x * f x i
    grind
  rw [← e, h]
  show (if i = k then _ else _) = if k = i then _ else _
  by_cases h : i = k
  · rw [if_pos h, if_pos h.symm]
  · rw [if_neg h, if_neg fun h' => h h'.symm]
theorem dt_scal (d : F) : ∀ n, dt n (scal d) = pw d n
  | 0 => rfl
  | n + 1 => by
    rw [dt_succ, sg_one (Nat.succ_pos n) fun i hi hne => by
      show sgn i * (if 0 = i then d else 0) * _ = 0
      rw [if_neg fun h => hne h.symm]; grind]
    have e : del 0 (scal d) = scal d := by
      funext a b
      show (if a + 1 = sk 0 b then d else 0) = if a = b then d else 0
      rw [sk_zero]
      by_cases h : a = b
      · rw [if_pos h, if_pos (by omega)]
      · rw [if_neg h, if_neg (by omega)]
    rw [e, dt_scal d n]
    show (if 0 % 2 = 0 then (1 : F) else -1) * (if 0 = 0 then d else 0) * pw d n = pw d (n + 1)
    rw [if_pos rfl, if_pos rfl, pw_succ]; grind
theorem adj_dt (p : Nat) (f : Nat → Nat → F) : dt (p + 1) (adj p f) = pw (dt (p + 1) f) p := by
  have h1 : dt (p + 1) f * dt (p + 1) (adj p f) = pw (dt (p + 1) f) (p + 1) := by rw [← dt_mul, dt_congr _ (adj_right p f), dt_scal]
  by_cases h : dt (p + 1) f = 0
  · rcases Nat.eq_zero_or_pos p with h0 | h0
    · subst h0
      rw [show pw (dt 1 f) 0 = 1 from rfl]
      show sg 1 (fun j => sgn j * (sgn (0 + j) * dt 0 (wo f j 0)) * dt 0 (del j (adj 0 f))) = 1
      rw [sg_succ, sg_zero]
      show 0 + sgn 0 * (sgn (0 + 0) * 1) * 1 = 1
      have := sgn_two 0
      grind
    · obtain ⟨q, rfl⟩ : ∃ q, p = q + 1 := ⟨p - 1, by omega⟩
      rw [h, pw_succ]
      refine (?_ : dt (q + 1 + 1) (adj (q + 1) f) = 0).trans (by grind)
      apply Classical.byContradiction
      intro hne
      obtain ⟨t, ht⟩ := undo hne
      -- all numbers are noughts then, and what is left too
      have hz : ∀ i j, i < q + 1 + 1 → j < q + 1 + 1 → f i j = 0 := fun i j hi hj => by
        have e1 := one_mul (q + 1 + 1) (q + 1 + 1) f i j hi hj
        have e2 := (ht.mul (Eqm.rfl' (q + 1 + 1) (q + 1 + 1) f)) i j hi hj
        rw [mul_assoc] at e2
        have e3 : mul (q + 1 + 1) t (mul (q + 1 + 1) (adj (q + 1) f) f) i j = 0 := by
          show sg (q + 1 + 1) (fun x => t i x * mul (q + 1 + 1) (adj (q + 1) f) f x j) = 0
          rw [sg_congr (g := fun _ => 0) fun x hx => by
            rw [adj_left (q + 1) f x j hx hj, h]
            show t i x * (if x = j then 0 else 0) = 0
            split <;> grind]
          exact sg_none _
        rw [← e1, ← e2, e3]
      apply hne
      refine dt_zrow (k := 0) (Nat.succ_pos _) fun j hj => ?_
      show sgn (0 + j) * dt (q + 1) (wo f j 0) = 0
      rw [dt_zrow (k := 0) (Nat.succ_pos _) fun b hb => show f (sk j 0) (sk 0 b) = 0 from hz _ _ (sk_lt (Nat.succ_pos q)) (sk_lt hb)]
      grind
  · rw [pw_succ] at h1
    refine mul_cancel h ?_
    rw [Fin.mul_comm (dt (p + 1) (adj p f))]
    exact h1
/-- Cramer: with what a row comes to in the place of column j. -/
theorem cramer (n j : Nat) (f : Nat → Nat → F) (x : Nat → F) (hj : j < n) : dt n (setc j (fun i => sg n fun t => f i t * x t) f) = dt n f * x j := by
  have h := dt_sum n j hj f x (fun t i => f i t) n
  rw [show (fun i => sg n fun t => x t * f i t) = fun i => sg n fun t => f i t * x t from funext fun i => sg_congr fun t _ => by grind] at h
  rw [h, sg_one hj fun t ht hne => by rw [dt_copy hj ht (fun e => hne e.symm)]; grind, setc_self]
  grind

end Go.Proofs.Ytbdpcpodmmhjaaa.Mx

/- The mathematics of determinants once more, over the whole numbers. No program is named here. -/
namespace Go.Proofs.Ytbdpcpodmmhjaaa.Zx
set_option linter.unusedVariables false

/-- The sum of the first n values. -/
def sg : Nat → (Nat → Int) → Int
  | 0, _ => 0
  | n + 1, f => sg n f + f n
theorem sg_zero (f : Nat → Int) : sg 0 f = 0 := rfl
theorem sg_succ (n : Nat) (f : Nat → Int) : sg (n + 1) f = sg n f + f n := rfl
theorem sg_congr {n : Nat} {f g : Nat → Int} (h : ∀ i, i < n → f i = g i) : sg n f = sg n g := by
  induction n with
  | zero => rfl
  | succ n ih => rw [sg, sg, ih fun i hi => h i (by omega), h n (by omega)]
theorem sg_none (n : Nat) : sg n (fun _ => 0) = 0 := by
  induction n with
  | zero => rfl
  | succ n ih => rw [sg, ih]; grind
theorem sg_add (n : Nat) (f g : Nat → Int) : sg n (fun i => f i + g i) = sg n f + sg n g := by
  induction n with
  | zero => simp only [sg]; grind
  | succ n ih => rw [sg, sg, sg, ih]; grind
theorem sg_times (n : Nat) (a : Int) (f : Nat → Int) : sg n (fun i => a * f i) = a * sg n f := by
  induction n with
  | zero => simp only [sg]; grind
  | succ n ih => rw [sg, sg, ih]; grind
theorem sg_by (n : Nat) (a : Int) (f : Nat → Int) : sg n (fun i => f i * a) = sg n f * a := by
  induction n with
  | zero => simp only [sg]; grind
  | succ n ih => rw [sg, sg, ih]; grind
theorem sg_swap (n m : Nat) (f : Nat → Nat → Int) : sg n (fun i => sg m (f i)) = sg m (fun j => sg n (fun i => f i j)) := by
  induction n with
  | zero => simp only [sg]; exact (sg_none m).symm
  | succ n ih => rw [sg, ih, ← sg_add]; rfl
/-- A sum in which one term alone is not nought. -/
theorem sg_one {n : Nat} {f : Nat → Int} {k : Nat} (hk : k < n) (h : ∀ i, i < n → i ≠ k → f i = 0) : sg n f = f k := by
  induction n with
  | zero => omega
  | succ n ih =>
    rw [sg]
    by_cases e : k = n
    · subst e
      rw [sg_congr (g := fun _ => 0) fun i hi => h i (by omega) (by omega), sg_none]; grind
    · rw [ih (by omega) fun i hi => h i (by omega), h n (by omega) (fun e' => e e'.symm)]; grind
/-- Products, the one that changes nothing, powers, turned. -/
def mul (k : Nat) (f g : Nat → Nat → Int) : Nat → Nat → Int := fun i j => sg k fun x => f i x * g x j
def plus (f g : Nat → Nat → Int) : Nat → Nat → Int := fun i j => f i j + g i j
def one : Nat → Nat → Int := fun i j => if i = j then 1 else 0
def flip (f : Nat → Nat → Int) : Nat → Nat → Int := fun i j => f j i
/-- Alike on the first rows and columns. -/
def Eqm (r c : Nat) (f g : Nat → Nat → Int) : Prop := ∀ i j, i < r → j < c → f i j = g i j
theorem Eqm.rfl' (r c : Nat) (f : Nat → Nat → Int) : Eqm r c f f := fun _ _ _ _ => rfl
theorem Eqm.symm {r c : Nat} {f g : Nat → Nat → Int} (h : Eqm r c f g) : Eqm r c g f := fun i j hi hj => (h i j hi hj).symm
theorem Eqm.trans {r c : Nat} {f g k : Nat → Nat → Int} (h : Eqm r c f g) (h' : Eqm r c g k) : Eqm r c f k := fun i j hi hj => (h i j hi hj).trans (h' i j hi hj)
theorem Eqm.mul {r k c : Nat} {f f' g g' : Nat → Nat → Int} (h : Eqm r k f f') (h' : Eqm k c g g') : Eqm r c (Zx.mul k f g) (Zx.mul k f' g') := fun i j hi hj =>
  sg_congr fun x hx => by rw [h i x hi hx, h' x j hx hj]
theorem Eqm.plus {r c : Nat} {f f' g g' : Nat → Nat → Int} (h : Eqm r c f f') (h' : Eqm r c g g') : Eqm r c (Zx.plus f g) (Zx.plus f' g') := fun i j hi hj => by
  show f i j + g i j = f' i j + g' i j
  rw [h i j hi hj, h' i j hi hj]

theorem mul_assoc (m n : Nat) (f g h : Nat → Nat → Int) : mul n (mul m f g) h = mul m f (mul n g h) := by
  funext i j
  show sg n (fun y => sg m (fun x => f i x * g x y) * h y j) = sg m fun x => f i x * sg n fun y => g x y * h y j
  have e1 : (fun y => sg m (fun x => f i x * g x y) * h y j) = fun y => sg m fun x => f i x * (g x y * h y j) := by
    funext y
    rw [← sg_by]
    exact sg_congr fun x _ => by grind
  have e2 : (fun x => f i x * sg n fun y => g x y * h y j) = fun x => sg n fun y => f i x * (g x y * h y j) := by
    funext x
    rw [← sg_times]
  rw [e1, e2, sg_swap]
theorem mul_plus (n : Nat) (f g h : Nat → Nat → Int) : mul n f (plus g h) = plus (mul n f g) (mul n f h) := by
  funext i j
  show sg n (fun x => f i x * (g x j + h x j)) = sg n (fun x => f i x * g x j) + sg n fun x => f i x * h x j
  rw [← sg_add]
  exact sg_congr fun x _ => by grind
theorem plus_mul (n : Nat) (f g h : Nat → Nat → Int) : mul n (plus f g) h = plus (mul n f h) (mul n g h) := by
  funext i j
  show sg n (fun x => (f i x + g i x) * h x j) = sg n (fun x => f i x * h x j) + sg n fun x => g i x * h x j
  rw [← sg_add]
  exact sg_congr fun x _ => by grind
theorem one_mul (r c : Nat) (f : Nat → Nat → Int) : Eqm r c (mul r one f) f := fun i j hi hj => by
  show sg r (fun x => (if i = x then (1 : Int) else 0) * f x j) = f i j
  rw [sg_one hi fun x _ hne => by rw [if_neg fun e => hne e.symm]; grind]
  rw [if_pos rfl]; grind
theorem mul_one (r c : Nat) (f : Nat → Nat → Int) : Eqm r c (mul c f one) f := fun i j hi hj => by
  show sg c (fun x => f i x * (if x = j then (1 : Int) else 0)) = f i j
  rw [sg_one hj fun x _ hne => by rw [if_neg hne]; grind]
  rw [if_pos rfl]; grind
theorem flip_mul (k : Nat) (f g : Nat → Nat → Int) : flip (mul k f g) = mul k (flip g) (flip f) := by
  funext i j
  exact sg_congr fun x _ => by show f j x * g x i = g x i * f j x; grind
theorem flip_flip (f : Nat → Nat → Int) : flip (flip f) = f := rfl

theorem sg_split (n m : Nat) (f : Nat → Int) : sg (n + m) f = sg n f + sg m (fun i => f (n + i)) := by
  induction m with
  | zero => rw [Nat.add_zero, sg_zero]; grind
  | succ m ih => rw [← Nat.add_assoc, sg_succ, sg_succ, ih]; grind
/-- Terms of nought behind the first n. -/
theorem sg_less {n m : Nat} {f : Nat → Int} (h : n ≤ m) (h0 : ∀ i, n ≤ i → i < m → f i = 0) : sg m f = sg n f := by
  obtain ⟨d, rfl⟩ := Nat.exists_eq_add_of_le h
  rw [sg_split, sg_congr (g := fun _ => 0) fun i hi => h0 (n + i) (by omega) (by omega), sg_none]; grind
/-- A sum that is not nought has a term that is not. -/
theorem sg_ne {n : Nat} {f : Nat → Int} (h : sg n f ≠ 0) : ∃ i, i < n ∧ f i ≠ 0 := by
  refine Classical.byContradiction fun hn => h ?_
  rw [sg_congr (g := fun _ => 0) fun i hi => Classical.byContradiction fun he => hn ⟨i, hi, he⟩, sg_none]

open Mx (sk sk_lt sk_ne sk_inj un sk_un un_lt sk_eq sk_zero tau tau_zero tau_next sw sw_left sw_right sw_none sw_sw sw_lt sw_inj onto into by_swaps perm_of turn turn_next)
/-- Without row a and column b. -/
def wo (f : Nat → Nat → Int) (a b : Nat) : Nat → Nat → Int := fun i j => f (sk a i) (sk b j)
theorem one_sk (a i j : Nat) : one (sk a i) (sk a j) = one i j := by
  unfold one
  by_cases h : i = j
  · rw [if_pos h, if_pos (by rw [h])]
  · rw [if_neg h, if_neg (fun e => h (sk_inj e))]
/-- The sign of a place. -/
def sgn (j : Nat) : Int := if j % 2 = 0 then 1 else -1
theorem sgn_succ (j : Nat) : sgn (j + 1) = -(sgn j) := by
  unfold sgn
  by_cases h : j % 2 = 0
  · rw [if_pos h, if_neg (by omega)]
  · rw [if_neg h, if_pos (by omega)]; grind
/-- Without the first row and column j. -/
def del (j : Nat) (f : Nat → Nat → Int) : Nat → Nat → Int := fun a b => f (a + 1) (sk j b)
/-- The determinant, by the first row. -/
def dt : Nat → (Nat → Nat → Int) → Int
  | 0, _ => 1
  | n + 1, f => sg (n + 1) fun j => sgn j * f 0 j * dt n (del j f)
theorem dt_succ (n : Nat) (f : Nat → Nat → Int) : dt (n + 1) f = sg (n + 1) fun j => sgn j * f 0 j * dt n (del j f) := rfl
theorem dt_congr : ∀ (n : Nat) {f g : Nat → Nat → Int}, Eqm n n f g → dt n f = dt n g
  | 0, _, _, _ => rfl
  | n + 1, f, g, h => sg_congr fun j hj => by
    have e : dt n (del j f) = dt n (del j g) := dt_congr n fun a b ha hb => h (a + 1) (sk j b) (by omega) (sk_lt hb)
    rw [h 0 j (Nat.succ_pos n) hj, e]

/-- Column c in the place of its own. -/
def setc (c : Nat) (u : Nat → Int) (f : Nat → Nat → Int) : Nat → Nat → Int := fun i j => if j = c then u i else f i j
theorem del_same (c : Nat) (u : Nat → Int) (f : Nat → Nat → Int) : del c (setc c u f) = del c f := by
  funext a b
  show (if sk c b = c then u (a + 1) else f (a + 1) (sk c b)) = _
  rw [if_neg (sk_ne c b)]; rfl
theorem del_other {j c : Nat} (h : j ≠ c) (u : Nat → Int) (f : Nat → Nat → Int) : del j (setc c u f) = setc (un j c) (fun a => u (a + 1)) (del j f) := by
  funext a b
  show (if sk j b = c then u (a + 1) else f (a + 1) (sk j b)) = if b = un j c then u (a + 1) else f (a + 1) (sk j b)
  by_cases e : b = un j c
  · rw [if_pos e, if_pos ((sk_eq h).2 e)]
  · rw [if_neg e, if_neg fun e' => e ((sk_eq h).1 e')]
theorem dt_lin : ∀ (n c : Nat) (hc : c < n) (a b : Int) (u w : Nat → Int) (f : Nat → Nat → Int),
    dt n (setc c (fun i => a * u i + b * w i) f) = a * dt n (setc c u f) + b * dt n (setc c w f)
  | 0, c, hc, _, _, _, _, _ => absurd hc (by omega)
  | n + 1, c, hc, a, b, u, w, f => by
    rw [dt_succ, dt_succ, dt_succ, ← sg_times, ← sg_times, ← sg_add]
    refine sg_congr fun j hj => ?_
    by_cases h : j = c
    · subst h
      rw [del_same, del_same, del_same]
      show sgn j * (if j = j then a * u 0 + b * w 0 else f 0 j) * dt n (del j f) = a * (sgn j * (if j = j then u 0 else f 0 j) * dt n (del j f)) + b * (sgn j * (if j = j then w 0 else f 0 j) * dt n (del j f))
      rw [if_pos rfl, if_pos rfl, if_pos rfl]; grind
    · rw [del_other h, del_other h, del_other h, dt_lin n (un j c) (un_lt h hc hj) a b (fun i => u (i + 1)) (fun i => w (i + 1))]
      show sgn j * (if j = c then a * u 0 + b * w 0 else f 0 j) * _ = a * (sgn j * (if j = c then u 0 else f 0 j) * _) + b * (sgn j * (if j = c then w 0 else f 0 j) * _)
      rw [if_neg h, if_neg h, if_neg h]; grind
theorem setc_self (c : Nat) (f : Nat → Nat → Int) : setc c (fun i => f i c) f = f := by
  funext i j
  show (if j = c then f i c else f i j) = f i j
  by_cases h : j = c
  · rw [if_pos h, h]
  · rw [if_neg h]
theorem setc_setc (c : Nat) (u w : Nat → Int) (f : Nat → Nat → Int) : setc c u (setc c w f) = setc c u f := by
  funext i j
  show (if j = c then u i else if j = c then w i else f i j) = if j = c then u i else f i j
  by_cases h : j = c
  · rw [if_pos h, if_pos h]
  · rw [if_neg h, if_neg h, if_neg h]
theorem setc_comm {c d : Nat} (h : c ≠ d) (u w : Nat → Int) (f : Nat → Nat → Int) : setc c u (setc d w f) = setc d w (setc c u f) := by
  funext i j
  show (if j = c then u i else if j = d then w i else f i j) = if j = d then w i else if j = c then u i else f i j
  by_cases h1 : j = c
  · rw [if_pos h1, if_neg (by omega), if_pos h1]
  · rw [if_neg h1, if_neg h1]
theorem dt_plus (n c : Nat) (hc : c < n) (u w : Nat → Int) (f : Nat → Nat → Int) : dt n (setc c (fun i => u i + w i) f) = dt n (setc c u f) + dt n (setc c w f) := by
  have := dt_lin n c hc 1 1 u w f
  rw [show (fun i => (1 : Int) * u i + 1 * w i) = fun i => u i + w i by funext i; grind] at this
  rw [this]; grind
theorem dt_times (n c : Nat) (hc : c < n) (a : Int) (u : Nat → Int) (f : Nat → Nat → Int) : dt n (setc c (fun i => a * u i) f) = a * dt n (setc c u f) := by
  have := dt_lin n c hc a 0 u u f
  rw [show (fun i => a * u i + 0 * u i) = fun i => a * u i by funext i; grind] at this
  rw [this]; grind
theorem dt_sum (n c : Nat) (hc : c < n) (f : Nat → Nat → Int) (a : Nat → Int) (u : Nat → Nat → Int) : ∀ m, dt n (setc c (fun i => sg m fun t => a t * u t i) f) = sg m fun t => a t * dt n (setc c (u t) f)
  | 0 => by
    have := dt_times n c hc 0 (fun _ => 0) f
    rw [show (fun i => (0 : Int) * (fun _ => 0) i) = fun _ => (0 : Int) by funext i; grind] at this
    show dt n (setc c (fun _ => 0) f) = 0
    rw [this]; grind
  | m + 1 => by
    have := dt_plus n c hc (fun i => sg m fun t => a t * u t i) (fun i => a m * u m i) f
    rw [dt_times n c hc, dt_sum n c hc f a u m] at this
    exact this

/-- A sum with two terms that are not nought. -/
theorem sg_two {n : Nat} {f : Nat → Int} {k l : Nat} (hk : k < n) (hl : l < n) (hne : k ≠ l) (h : ∀ i, i < n → i ≠ k → i ≠ l → f i = 0) : sg n f = f k + f l := by
  have e : sg n f = sg n (fun i => if i = k then f k else 0) + sg n (fun i => if i = l then f l else 0) := by
    rw [← sg_add]
    refine sg_congr fun i hi => ?_
    by_cases h1 : i = k
    · subst h1; rw [if_pos rfl, if_neg hne]; grind
    · by_cases h2 : i = l
      · subst h2; rw [if_neg h1, if_pos rfl]; grind
      · rw [h i hi h1 h2, if_neg h1, if_neg h2]; grind
  rw [e, sg_one hk fun i _ h1 => by rw [if_neg h1], sg_one hl fun i _ h1 => by rw [if_neg h1], if_pos rfl, if_pos rfl]
/-- Two equal columns side by side. -/
theorem dt_next : ∀ (n c : Nat) (hc : c + 1 < n) (f : Nat → Nat → Int), (∀ i, i < n → f i c = f i (c + 1)) → dt n f = 0
  | 0, c, hc, _, _ => absurd hc (by omega)
  | n + 1, c, hc, f, h => by
    rw [dt_succ, sg_two (k := c) (l := c + 1) (by omega) hc (by omega) fun j hj h1 h2 => ?_]
    · have e : dt n (del c f) = dt n (del (c + 1) f) := dt_congr n fun a b ha hb => by
        show f (a + 1) (sk c b) = f (a + 1) (sk (c + 1) b)
        by_cases e : b = c
        · have e1 : sk c b = c + 1 := by unfold sk; rw [if_neg (by omega), e]
          have e2 : sk (c + 1) b = c := by unfold sk; rw [if_pos (by omega), e]
          rw [e1, e2]; exact (h (a + 1) (by omega)).symm
        · have e1 : sk c b = sk (c + 1) b := by unfold sk; split <;> split <;> omega
          rw [e1]
      rw [e, sgn_succ, h 0 (by omega)]; grind
    · have : dt n (del j f) = 0 := by
        rcases Nat.lt_or_ge j c with hlt | hge
        · refine dt_next n (c - 1) (by omega) (del j f) fun a ha => ?_
          show f (a + 1) (sk j (c - 1)) = f (a + 1) (sk j (c - 1 + 1))
          have e1 : sk j (c - 1) = c := by unfold sk; rw [if_neg (by omega)]; omega
          have e2 : sk j (c - 1 + 1) = c + 1 := by unfold sk; rw [if_neg (by omega)]; omega
          rw [e1, e2]; exact h (a + 1) (by omega)
        · refine dt_next n c (by omega) (del j f) fun a ha => ?_
          show f (a + 1) (sk j c) = f (a + 1) (sk j (c + 1))
          have e1 : sk j c = c := by unfold sk; rw [if_pos (by omega)]
          have e2 : sk j (c + 1) = c + 1 := by unfold sk; rw [if_pos (by omega)]
          rw [e1, e2]; exact h (a + 1) (by omega)
      rw [this]; grind
/-- From nought with two equal columns: the sign turns when they change places. -/
theorem dt_anti {n c d : Nat} (hc : c < n) (hd : d < n) (hne : c ≠ d) (hz : ∀ (w : Nat → Int) (g : Nat → Nat → Int), dt n (setc c w (setc d w g)) = 0) (u w : Nat → Int) (f : Nat → Nat → Int) :
    dt n (setc c u (setc d w f)) = -(dt n (setc c w (setc d u f))) := by
  have h := hz (fun i => u i + w i) f
  rw [dt_plus n c hc, setc_comm hne u, setc_comm hne w, dt_plus n d hd, dt_plus n d hd, ← setc_comm hne, ← setc_comm hne, ← setc_comm hne, ← setc_comm hne, hz u, hz w] at h
  grind
theorem next_zero {n c : Nat} (hc : c + 1 < n) (w : Nat → Int) (g : Nat → Nat → Int) : dt n (setc c w (setc (c + 1) w g)) = 0 := dt_next n c hc _ fun i _ => by
  show (if c = c then w i else _) = if c + 1 = c then w i else if c + 1 = c + 1 then w i else _
  rw [if_pos rfl, if_neg (by omega), if_pos rfl]
/-- Two equal columns, wherever they stand. -/
theorem both_zero {n c : Nat} : ∀ (d : Nat), c + d + 1 < n → ∀ (w : Nat → Int) (g : Nat → Nat → Int), dt n (setc c w (setc (c + d + 1) w g)) = 0
  | 0, h, w, g => next_zero h w g
  | d + 1, h, w, g => by
    -- columns c + d + 1 and c + d + 2 change places
    have h1 : dt n (setc c w (setc (c + (d + 1) + 1) w g)) = dt n (setc (c + d + 1) (fun i => g i (c + d + 1)) (setc (c + d + 1 + 1) w (setc c w g))) := by
      refine dt_congr n fun i j _ _ => ?_
      show (if j = c then w i else if j = c + (d + 1) + 1 then w i else g i j) = if j = c + d + 1 then g i (c + d + 1) else if j = c + d + 1 + 1 then w i else if j = c then w i else g i j
      by_cases e1 : j = c
      · rw [if_pos e1, if_neg (by omega), if_neg (by omega), if_pos e1]
      · by_cases e2 : j = c + (d + 1) + 1
        · rw [if_neg e1, if_pos e2, if_neg (by omega), if_pos (by omega)]
        · by_cases e3 : j = c + d + 1
          · rw [if_neg e1, if_neg e2, if_pos e3, e3]
          · rw [if_neg e1, if_neg e2, if_neg e3, if_neg (by omega), if_neg e1]
    rw [h1, dt_anti (by omega) (by omega) (by omega) (fun w g => next_zero (by omega) w g)]
    have h2 : setc (c + d + 1) w (setc (c + d + 1 + 1) (fun i => g i (c + d + 1)) (setc c w g)) = setc c w (setc (c + d + 1) w (setc (c + d + 1 + 1) (fun i => g i (c + d + 1)) g)) := by
      rw [setc_comm (show c + d + 1 + 1 ≠ c by omega), setc_comm (show c + d + 1 ≠ c by omega)]
    rw [h2, both_zero d (by omega)]; grind
theorem dt_equal {n c d : Nat} (hc : c < n) (hd : d < n) (hne : c ≠ d) (w : Nat → Int) (g : Nat → Nat → Int) : dt n (setc c w (setc d w g)) = 0 := by
  rcases Nat.lt_or_ge c d with h | h
  · have := both_zero (n := n) (c := c) (d - c - 1) (by omega) w g
    rw [show c + (d - c - 1) + 1 = d by omega] at this
    exact this
  · have := both_zero (n := n) (c := d) (c - d - 1) (by omega) w g
    rw [show d + (c - d - 1) + 1 = c by omega] at this
    rw [setc_comm hne]; exact this
/-- Column d in the place of column c: nought. -/
theorem dt_copy {n c d : Nat} (hc : c < n) (hd : d < n) (hne : c ≠ d) (f : Nat → Nat → Int) : dt n (setc c (fun i => f i d) f) = 0 := by
  have := dt_equal hc hd hne (fun i => f i d) f
  rw [setc_self] at this
  exact this
theorem dt_swap {n c d : Nat} (hc : c < n) (hd : d < n) (hne : c ≠ d) (f : Nat → Nat → Int) : dt n (setc c (fun i => f i d) (setc d (fun i => f i c) f)) = -(dt n f) := by
  rw [dt_anti hc hd hne (fun w g => dt_equal hc hd hne w g)]
  have : setc c (fun i => f i c) (setc d (fun i => f i d) f) = f := by rw [setc_self d, setc_self c]
  rw [this]
/-- What is taken to noughts by something that is not has no determinant. -/
theorem dt_null {n : Nat} {f : Nat → Nat → Int} {y : Nat → Int} {c : Nat} (hc : c < n) (h1 : y c ≠ 0) (h : ∀ i, i < n → sg n (fun j => f i j * y j) = 0) : dt n f = 0 := by
  -- the determinant with the sum of all columns, each so many times, in the place of column c
  have e1 : dt n (setc c (fun i => sg n fun t => y t * f i t) f) = 0 := by
    have : dt n (setc c (fun i => sg n fun t => y t * f i t) f) = dt n (setc c (fun i => (0 : Int) * f i c) f) := dt_congr n fun i j hi _ => by
      show (if j = c then sg n (fun t => y t * f i t) else f i j) = if j = c then (0 : Int) * f i c else f i j
      rw [show sg n (fun t => y t * f i t) = (0 : Int) * f i c by
        rw [sg_congr (g := fun j => f i j * y j) fun t _ => by grind, h i hi]; grind]
    rw [this, dt_times n c hc]; grind
  have e2 := dt_sum n c hc f y (fun t i => f i t) n
  rw [e1, sg_one hc fun t ht hne => by rw [dt_copy hc ht (fun e => hne e.symm)]; grind, setc_self] at e2
  exact (Int.mul_eq_zero.1 e2.symm).resolve_left h1



/-- Linear in each column, and nought with two equal columns. -/
structure Alt (n : Nat) (M : (Nat → Nat → Int) → Int) : Prop where
  congr : ∀ f g, Eqm n n f g → M f = M g
  lin : ∀ c, c < n → ∀ (a b : Int) (u w : Nat → Int) (f : Nat → Nat → Int), M (setc c (fun i => a * u i + b * w i) f) = a * M (setc c u f) + b * M (setc c w f)
  zero : ∀ c d, c < n → d < n → c ≠ d → ∀ (w : Nat → Int) (f : Nat → Nat → Int), M (setc c w (setc d w f)) = 0
theorem Alt.plus {n : Nat} {M : (Nat → Nat → Int) → Int} (h : Alt n M) {c : Nat} (hc : c < n) (u w : Nat → Int) (f : Nat → Nat → Int) : M (setc c (fun i => u i + w i) f) = M (setc c u f) + M (setc c w f) := by
  have := h.lin c hc 1 1 u w f
  rw [show (fun i => (1 : Int) * u i + 1 * w i) = fun i => u i + w i by funext i; grind] at this
  rw [this]; grind
theorem Alt.times {n : Nat} {M : (Nat → Nat → Int) → Int} (h : Alt n M) {c : Nat} (hc : c < n) (a : Int) (u : Nat → Int) (f : Nat → Nat → Int) : M (setc c (fun i => a * u i) f) = a * M (setc c u f) := by
  have := h.lin c hc a 0 u u f
  rw [show (fun i => a * u i + 0 * u i) = fun i => a * u i by funext i; grind] at this
  rw [this]; grind
theorem Alt.sum {n : Nat} {M : (Nat → Nat → Int) → Int} (h : Alt n M) {c : Nat} (hc : c < n) (f : Nat → Nat → Int) (a : Nat → Int) (u : Nat → Nat → Int) : ∀ m, M (setc c (fun i => sg m fun t => a t * u t i) f) = sg m fun t => a t * M (setc c (u t) f)
  | 0 => by
    have := h.times hc 0 (fun _ => 0) f
    rw [show (fun i => (0 : Int) * (fun _ => 0) i) = fun _ => (0 : Int) by funext i; grind] at this
    show M (setc c (fun _ => 0) f) = 0
    rw [this]; grind
  | m + 1 => by
    have := h.plus hc (fun i => sg m fun t => a t * u t i) (fun i => a m * u m i) f
    rw [h.times hc, h.sum hc f a u m] at this
    exact this
theorem Alt.anti {n : Nat} {M : (Nat → Nat → Int) → Int} (h : Alt n M) {c d : Nat} (hc : c < n) (hd : d < n) (hne : c ≠ d) (u w : Nat → Int) (f : Nat → Nat → Int) :
    M (setc c u (setc d w f)) = -(M (setc c w (setc d u f))) := by
  have h0 := h.zero c d hc hd hne (fun i => u i + w i) f
  rw [h.plus hc, setc_comm hne u, setc_comm hne w, h.plus hd, h.plus hd, ← setc_comm hne, ← setc_comm hne, ← setc_comm hne, ← setc_comm hne, h.zero c d hc hd hne u, h.zero c d hc hd hne w] at h0
  grind
theorem dt_alt (n : Nat) : Alt n (dt n) := ⟨fun f g h => dt_congr n h, fun c hc a b u w f => dt_lin n c hc a b u w f, fun c d hc hd hne w f => dt_equal hc hd hne w f⟩

/-- Each column is one of those of the unit matrix. -/
def pick (s : Nat → Nat) : Nat → Nat → Int := fun i j => if i = s j then 1 else 0
theorem pick_sw (s : Nat → Nat) (a b : Nat) : pick (fun j => s (sw a b j)) = setc a (fun i => pick s i b) (setc b (fun i => pick s i a) (pick s)) := by
  funext i j
  show (if i = s (sw a b j) then (1 : Int) else 0) = if j = a then pick s i b else if j = b then pick s i a else pick s i j
  by_cases h1 : j = a
  · rw [if_pos h1, h1, sw_left]; rfl
  · rw [if_neg h1]
    by_cases h2 : j = b
    · rw [if_pos h2, h2, sw_right]; rfl
    · rw [if_neg h2, sw_none h1 h2]; rfl
theorem Alt.swap {n : Nat} {M : (Nat → Nat → Int) → Int} (h : Alt n M) {c d : Nat} (hc : c < n) (hd : d < n) (hne : c ≠ d) (f : Nat → Nat → Int) : M (setc c (fun i => f i d) (setc d (fun i => f i c) f)) = -(M f) := by
  rw [h.anti hc hd hne]
  have : setc c (fun i => f i c) (setc d (fun i => f i d) f) = f := by rw [setc_self d, setc_self c]
  rw [this]
theorem Alt.pick_swap {n : Nat} {M : (Nat → Nat → Int) → Int} (h : Alt n M) (s : Nat → Nat) {a b : Nat} (ha : a < n) (hb : b < n) (hne : a ≠ b) : M (pick (fun j => s (sw a b j))) = -(M (pick s)) := by
  rw [pick_sw, h.swap ha hb hne]
theorem Alt.same {n : Nat} {M : (Nat → Nat → Int) → Int} (h : Alt n M) (f : Nat → Nat → Int) {c d : Nat} (hc : c < n) (hd : d < n) (hne : c ≠ d) (e : ∀ i, f i c = f i d) : M f = 0 := by
  have h0 := h.zero c d hc hd hne (fun i => f i d) f
  rw [setc_self, show (fun i => f i d) = fun i => f i c from funext fun i => (e i).symm, setc_self] at h0
  exact h0
theorem sg_pick {n : Nat} (s : Nat → Nat) (j : Nat) (hs : s j < n) (a : Nat → Int) : sg n (fun t => a t * pick s t j) = a (s j) := by
  rw [sg_one hs fun t _ hne => by show a t * (if t = s j then (1 : Int) else 0) = 0; rw [if_neg hne]; grind]
  show a (s j) * (if s j = s j then (1 : Int) else 0) = a (s j)
  rw [if_pos rfl]; grind
theorem dt_one : ∀ n, dt n one = 1
  | 0 => rfl
  | n + 1 => by
    rw [dt_succ, sg_one (Nat.succ_pos n) fun j _ hne => by show sgn j * (if 0 = j then (1 : Int) else 0) * _ = 0; rw [if_neg (fun e => hne e.symm)]; grind]
    have : dt n (del 0 one) = dt n one := dt_congr n fun a b _ _ => by
      show (if a + 1 = sk 0 b then (1 : Int) else 0) = if a = b then (1 : Int) else 0
      rw [sk_zero]
      by_cases h : a = b
      · rw [if_pos h, if_pos (by omega)]
      · rw [if_neg h, if_neg (by omega)]
    rw [this, dt_one n]
    show sgn 0 * (if 0 = 0 then (1 : Int) else 0) * 1 = 1
    rw [if_pos rfl, show sgn 0 = 1 from rfl]; grind
/-- Of all columns that are columns of the unit matrix. -/
theorem Alt.picked {n : Nat} {M : (Nat → Nat → Int) → Int} (h : Alt n M) (s : Nat → Nat) (hs : ∀ i, i < n → s i < n) : M (pick s) = M one * dt n (pick s) := by
  by_cases hi : ∀ i j, i < n → j < n → s i = s j → i = j
  · refine by_swaps (P := fun s => M (pick s) = M one * dt n (pick s)) (fun s hf => ?_) (fun s a b ha hb hne _ _ e => ?_) n 0 s (by omega) hs hi (fun j hj => absurd hj (by omega))
    · have : Eqm n n (pick s) one := fun i j _ hj => by show (if i = s j then (1 : Int) else 0) = if i = j then 1 else 0; rw [hf j hj]
      rw [h.congr _ _ this, dt_congr n this, dt_one]; grind
    · rw [h.pick_swap s ha hb hne, (dt_alt n).pick_swap s ha hb hne] at e
      grind
  · obtain ⟨c, hn⟩ := Classical.not_forall.1 hi
    obtain ⟨d, hn⟩ := Classical.not_forall.1 hn
    obtain ⟨hc, hn⟩ := Classical.not_imp.1 hn
    obtain ⟨hd, hn⟩ := Classical.not_imp.1 hn
    obtain ⟨e, hne⟩ := Classical.not_imp.1 hn
    have e1 : ∀ i, pick s i c = pick s i d := fun i => by show (if i = s c then (1 : Int) else 0) = if i = s d then 1 else 0; rw [e]
    rw [h.same _ hc hd hne e1, (dt_alt n).same _ hc hd hne e1]; grind
/-- The first k columns are columns of the unit matrix, the others as they come. -/
def front (k : Nat) (s : Nat → Nat) (f : Nat → Nat → Int) : Nat → Nat → Int := fun i j => if j < k then pick s i j else f i j
theorem Alt.fronts {n : Nat} {M : (Nat → Nat → Int) → Int} (h : Alt n M) : ∀ (m k : Nat) (s : Nat → Nat) (f : Nat → Nat → Int), k + m = n → (∀ i, i < n → s i < n) → M (front k s f) = M one * dt n (front k s f)
  | 0, k, s, f, hm, hs => by
    have : Eqm n n (front k s f) (pick s) := fun i j _ hj => by unfold front; rw [if_pos (by omega)]
    rw [h.congr _ _ this, dt_congr n this]; exact h.picked s hs
  | m + 1, k, s, f, hm, hs => by
    have hk : k < n := by omega
    have e : Eqm n n (front k s f) (setc k (fun i => sg n fun t => f t k * one i t) (front k s f)) := fun i j hi hj => by
      show front k s f i j = if j = k then sg n (fun t => f t k * one i t) else front k s f i j
      by_cases hjk : j = k
      · rw [if_pos hjk, sg_one hi fun t _ hne => by show f t k * (if i = t then (1 : Int) else 0) = 0; rw [if_neg (fun e => hne e.symm)]; grind]
        show (if j < k then _ else f i j) = f i k * (if i = i then (1 : Int) else 0)
        rw [if_neg (by omega), if_pos rfl, hjk]; grind
      · rw [if_neg hjk]
    rw [h.congr _ _ e, dt_congr n e, h.sum hk, (dt_alt n).sum hk, ← sg_times]
    refine sg_congr fun t ht => ?_
    have e2 : setc k (fun i => one i t) (front k s f) = front (k + 1) (fun j => if j = k then t else s j) f := by
      funext i j
      show (if j = k then one i t else if j < k then pick s i j else f i j) = if j < k + 1 then (if i = (if j = k then t else s j) then (1 : Int) else 0) else f i j
      by_cases h1 : j = k
      · rw [if_pos h1, if_pos (by omega), if_pos h1]; rfl
      · rw [if_neg h1, if_neg h1]
        by_cases h2 : j < k
        · rw [if_pos h2, if_pos (by omega)]; rfl
        · rw [if_neg h2, if_neg (by omega)]
    rw [e2, h.fronts m (k + 1) _ f (by omega) fun i hi => by
      by_cases h1 : i = k
      · rw [if_pos h1]; exact ht
      · rw [if_neg h1]; exact hs i hi]
    grind
/-- There is one such rule, up to what it says of the unit matrix. -/
theorem Alt.is {n : Nat} {M : (Nat → Nat → Int) → Int} (h : Alt n M) (f : Nat → Nat → Int) : M f = M one * dt n f := by
  have := h.fronts n 0 (fun _ => 0) f (by omega)
  by_cases hn : n = 0
  · subst hn
    rw [h.congr f one fun i j hi => absurd hi (by omega)]
    show M one = M one * 1
    grind
  · have := this fun i hi => by omega
    exact this

theorem mul_setc (n c : Nat) (f : Nat → Nat → Int) (u : Nat → Int) (g : Nat → Nat → Int) : mul n f (setc c u g) = setc c (fun i => sg n fun x => f i x * u x) (mul n f g) := by
  funext i j
  show sg n (fun x => f i x * (if j = c then u x else g x j)) = if j = c then sg n (fun x => f i x * u x) else sg n (fun x => f i x * g x j)
  by_cases h : j = c
  · rw [if_pos h]; exact sg_congr fun x _ => by rw [if_pos h]
  · rw [if_neg h]; exact sg_congr fun x _ => by rw [if_neg h]
/-- Cauchy, Binet. -/
theorem dt_mul (n : Nat) (f g : Nat → Nat → Int) : dt n (mul n f g) = dt n f * dt n g := by
  have h : Alt n fun g => dt n (mul n f g) := by
    refine ⟨fun a b e => dt_congr n ((Eqm.rfl' n n f).mul e), fun c hc a b u w k => ?_, fun c d hc hd hne w k => ?_⟩
    · rw [mul_setc, mul_setc, mul_setc]
      have : (fun i => sg n fun x => f i x * (a * u x + b * w x)) = fun i => a * (sg n fun x => f i x * u x) + b * (sg n fun x => f i x * w x) := by
        funext i
        rw [← sg_times, ← sg_times, ← sg_add]
        exact sg_congr fun x _ => by grind
      rw [this]; exact dt_lin n c hc a b _ _ _
    · rw [mul_setc, mul_setc]; exact dt_equal hc hd hne _ _
  have := h.is g
  rw [this, show dt n (mul n f one) = dt n f from dt_congr n (mul_one n n f)]

/-- Row r in the place of its own. -/
def setr (r : Nat) (u : Nat → Int) (f : Nat → Nat → Int) : Nat → Nat → Int := fun i j => if i = r then u j else f i j
theorem setr_flip (r : Nat) (u : Nat → Int) (f : Nat → Nat → Int) : setr r u f = flip (setc r u (flip f)) := rfl
theorem del_setr_zero (j : Nat) (u : Nat → Int) (f : Nat → Nat → Int) : del j (setr 0 u f) = del j f := by
  funext a b
  show (if a + 1 = 0 then u (sk j b) else f (a + 1) (sk j b)) = f (a + 1) (sk j b)
  rw [if_neg (by omega)]
theorem del_setr (j r : Nat) (u : Nat → Int) (f : Nat → Nat → Int) : del j (setr (r + 1) u f) = setr r (fun b => u (sk j b)) (del j f) := by
  funext a b
  show (if a + 1 = r + 1 then u (sk j b) else f (a + 1) (sk j b)) = if a = r then u (sk j b) else f (a + 1) (sk j b)
  by_cases h : a = r
  · rw [if_pos h, if_pos (by omega)]
  · rw [if_neg h, if_neg (by omega)]
/-- Linear in each row. -/
theorem dt_rlin : ∀ (n r : Nat) (hr : r < n) (a b : Int) (u w : Nat → Int) (f : Nat → Nat → Int),
    dt n (setr r (fun j => a * u j + b * w j) f) = a * dt n (setr r u f) + b * dt n (setr r w f)
  | 0, r, hr, _, _, _, _, _ => absurd hr (by omega)
  | n + 1, 0, _, a, b, u, w, f => by
    rw [dt_succ, dt_succ, dt_succ, ← sg_times, ← sg_times, ← sg_add]
    refine sg_congr fun j hj => ?_
    rw [del_setr_zero, del_setr_zero, del_setr_zero]
    show sgn j * (a * u j + b * w j) * dt n (del j f) = a * (sgn j * u j * dt n (del j f)) + b * (sgn j * w j * dt n (del j f))
    grind
  | n + 1, r + 1, hr, a, b, u, w, f => by
    rw [dt_succ, dt_succ, dt_succ, ← sg_times, ← sg_times, ← sg_add]
    refine sg_congr fun j hj => ?_
    rw [del_setr, del_setr, del_setr, dt_rlin n r (by omega) a b (fun b => u (sk j b)) (fun b => w (sk j b))]
    have : ∀ v : Nat → Int, setr (r + 1) v f 0 j = f 0 j := fun v => by show (if 0 = r + 1 then v j else f 0 j) = f 0 j; rw [if_neg (by omega)]
    rw [this, this, this]; grind
/-- Two equal rows. -/
theorem dt_rows {n : Nat} {f : Nat → Nat → Int} {r s : Nat} (hr : r < n) (hs : s < n) (hne : r ≠ s) (e : ∀ j, j < n → f r j = f s j) : dt n f = 0 := by
  have h1 : Eqm n n (mul n (setr r (fun j => one s j) one) f) f := fun i j hi hj => by
    show sg n (fun x => (if i = r then one s x else one i x) * f x j) = f i j
    by_cases h : i = r
    · rw [sg_congr (g := fun x => one s x * f x j) fun x _ => by rw [if_pos h]]
      have := one_mul n n f s j hs hj
      exact this.trans (by rw [h, e j hj])
    · rw [sg_congr (g := fun x => one i x * f x j) fun x _ => by rw [if_neg h]]
      exact one_mul n n f i j hi hj
  have h2 : dt n (setr r (fun j => one s j) one) = 0 := by
    have : Eqm n n (setr r (fun j => one s j) one) (setc r (fun i => (0 : Int) * 0) (setr r (fun j => one s j) one)) := fun i j hi hj => by
      show (if i = r then one s j else one i j) = if j = r then (0 : Int) * 0 else if i = r then one s j else one i j
      by_cases hj : j = r
      · rw [if_pos hj]
        by_cases hi : i = r
        · rw [if_pos hi]; show (if s = j then (1 : Int) else 0) = 0 * 0; rw [if_neg (by omega)]; rfl
        · rw [if_neg hi]; show (if i = j then (1 : Int) else 0) = 0 * 0; rw [if_neg (by omega)]; rfl
      · rw [if_neg hj]
    rw [dt_congr n this, dt_times n r hr 0 (fun _ => 0)]; grind
  rw [← dt_congr n h1, dt_mul, h2]; grind
theorem dt_flip (n : Nat) (f : Nat → Nat → Int) : dt n (flip f) = dt n f := by
  have h : Alt n fun g => dt n (flip g) := by
    refine ⟨fun a b e => dt_congr n fun i j hi hj => e j i hj hi, fun c hc a b u w k => dt_rlin n c hc a b u w (flip k), fun c d hc hd hne w k => ?_⟩
    refine dt_rows hc hd hne fun j _ => ?_
    show (if c = c then w j else _) = if d = c then w j else if d = d then w j else _
    rw [if_pos rfl, if_neg (fun e => hne e.symm), if_pos rfl]
  have := h.is f
  rw [this, show dt n (flip one) = 1 from (dt_congr n fun i j _ _ => by show (if j = i then (1 : Int) else 0) = if i = j then 1 else 0; by_cases e : i = j <;> simp [e, eq_comm]).trans (dt_one n)]
  grind
/-- Two rows change places. -/
theorem dt_rswap {n : Nat} (f : Nat → Nat → Int) {a b : Nat} (ha : a < n) (hb : b < n) (hne : a ≠ b) : dt n (fun i j => f (sw a b i) j) = -(dt n f) := by
  rw [← dt_flip n f, ← dt_flip n fun i j => f (sw a b i) j, ← (dt_alt n).swap ha hb hne]
  congr 1
  funext i j
  show f (sw a b j) i = if j = a then f b i else if j = b then f a i else f j i
  by_cases h1 : j = a
  · rw [if_pos h1, h1, sw_left]
  · rw [if_neg h1]
    by_cases h2 : j = b
    · rw [if_pos h2, h2, sw_right]
    · rw [if_neg h2, sw_none h1 h2]
theorem dt_cswap {n : Nat} (f : Nat → Nat → Int) {a b : Nat} (ha : a < n) (hb : b < n) (hne : a ≠ b) : dt n (fun i j => f i (sw a b j)) = -(dt n f) := by
  rw [← dt_flip n f, ← dt_flip n fun i j => f i (sw a b j)]
  exact dt_rswap (flip f) ha hb hne
theorem setr_self (r : Nat) (f : Nat → Nat → Int) : setr r (fun j => f r j) f = f := by
  funext i j
  show (if i = r then f r j else f i j) = f i j
  by_cases h : i = r
  · rw [if_pos h, h]
  · rw [if_neg h]
/-- So many times one row added to another one. -/
theorem dt_add {n : Nat} (f : Nat → Nat → Int) {a b : Nat} (ha : a < n) (hb : b < n) (hne : a ≠ b) (k : Int) : dt n (setr a (fun j => f a j + k * f b j) f) = dt n f := by
  have h := dt_rlin n a ha 1 k (fun j => f a j) (fun j => f b j) f
  rw [show (fun j => (1 : Int) * f a j + k * f b j) = fun j => f a j + k * f b j by funext j; grind, setr_self] at h
  have h2 : dt n (setr a (fun j => f b j) f) = 0 := dt_rows ha hb hne fun j _ => by
    show (if a = a then f b j else f a j) = if b = a then f b j else f b j
    rw [if_pos rfl, if_neg (fun e => hne e.symm)]
  rw [h, h2]; grind
theorem dt_scale {n : Nat} (f : Nat → Nat → Int) {a : Nat} (ha : a < n) (k : Int) : dt n (setr a (fun j => k * f a j) f) = k * dt n f := by
  have h := dt_rlin n a ha k 0 (fun j => f a j) (fun j => f a j) f
  rw [show (fun j => k * f a j + (0 : Int) * f a j) = fun j => k * f a j by funext j; grind, setr_self] at h
  rw [h]; grind
theorem dt_rplus {n : Nat} (f : Nat → Nat → Int) {a : Nat} (ha : a < n) (u : Nat → Int) : dt n (setr a (fun j => f a j + u j) f) = dt n f + dt n (setr a u f) := by
  have h := dt_rlin n a ha 1 1 (fun j => f a j) u f
  rw [show (fun j => (1 : Int) * f a j + 1 * u j) = fun j => f a j + u j by funext j; grind, setr_self] at h
  rw [h]; grind

theorem dt_zrow {n : Nat} {f : Nat → Nat → Int} {k : Nat} (hk : k < n) (h : ∀ j, j < n → f k j = 0) : dt n f = 0 := by
  have h1 := dt_scale f hk 0
  rw [show (0 : Int) * dt n f = 0 by grind] at h1
  rw [← h1]
  refine dt_congr n fun i j hi hj => ?_
  show f i j = if i = k then (0 : Int) * f k j else f i j
  by_cases e : i = k
  · rw [if_pos e, e, h j hj]; grind
  · rw [if_neg e]
/-- The sign of an order of whole numbers: the determinant of its matrix. -/
def sp (n : Nat) (s : Nat → Int) : Int := dt n fun i j => if s i = (j : Int) then 1 else 0
theorem sp_congr {n : Nat} {s t : Nat → Int} (h : ∀ i, i < n → s i = t i) : sp n s = sp n t := dt_congr n fun i j hi _ => by rw [h i hi]
theorem sp_id {n : Nat} {s : Nat → Int} (h : ∀ i, i < n → s i = (i : Int)) : sp n s = 1 := by
  rw [← dt_one n]
  refine dt_congr n fun i j hi _ => ?_
  rw [h i hi]
  show (if (i : Int) = (j : Int) then (1 : Int) else 0) = if i = j then 1 else 0
  by_cases e : i = j
  · rw [if_pos e, if_pos (by omega)]
  · rw [if_neg e, if_neg (by omega)]
theorem sp_swap {n : Nat} (s : Nat → Int) {a b : Nat} (ha : a < n) (hb : b < n) (hne : a ≠ b) : sp n (fun i => s (sw a b i)) = -(sp n s) :=
  dt_rswap (fun i j => if s i = (j : Int) then 1 else 0) ha hb hne
theorem sp_out {n : Nat} {s : Nat → Int} {k : Nat} (hk : k < n) (h : s k < 0 ∨ (n : Int) ≤ s k) : sp n s = 0 := dt_zrow hk fun j hj => by rw [if_neg (by omega)]
theorem sp_twice {n : Nat} {s : Nat → Int} {a b : Nat} (ha : a < n) (hb : b < n) (hne : a ≠ b) (h : s a = s b) : sp n s = 0 := dt_rows ha hb hne fun j _ => by rw [h]
/-- Only of n numbers, each once, is there a sign. -/
theorem sp_miss {n : Nat} {s : Nat → Int} {k : Nat} (hk : k < n) (h : ∀ i, i < n → s i ≠ (k : Int)) : sp n s = 0 := by
  unfold sp
  have e : Eqm n n (fun i j => if s i = (j : Int) then (1 : Int) else 0) (setc k (fun i => (0 : Int) * 0) (fun i j => if s i = (j : Int) then (1 : Int) else 0)) := fun i j hi hj => by
    show (if s i = (j : Int) then (1 : Int) else 0) = if j = k then (0 : Int) * 0 else if s i = (j : Int) then 1 else 0
    by_cases e : j = k
    · rw [if_pos e, e, if_neg (h i hi)]; grind
    · rw [if_neg e]
  rw [dt_congr n e, dt_times n k hk 0 (fun _ => 0)]; grind

theorem dt_turn {m : Nat} (k : Nat → Nat → Int) (e : Nat) : ∀ t, t < e → t < m → dt m (fun i b => k i (turn e t b)) = sgn t * dt m (fun i b => k i (sk e b))
  | 0, h, hm => by
    have : (fun i b => k i (turn e 0 b)) = fun i b => k i (sk e b) := by
      funext i b
      congr 1
      unfold turn sk
      rw [if_neg (by omega)]
      by_cases h0 : b = 0
      · rw [if_pos h0, if_pos (by omega), h0]
      · rw [if_neg h0]
    rw [this, show sgn 0 = 1 from rfl]; grind
  | t + 1, h, hm => by
    have := dt_cswap (n := m) (fun i b => k i (turn e t b)) (a := t) (b := t + 1) (by omega) hm (by omega)
    rw [dt_turn k e t (by omega) (by omega)] at this
    have e1 : (fun i b => k i (turn e (t + 1) b)) = fun i b => k i (turn e t (sw t (t + 1) b)) := by
      funext i b
      exact congrArg (k i) (congrFun (turn_next e t h) b)
    rw [e1, this, sgn_succ]; grind

/-- The product of the first k. -/
def pr : Nat → (Nat → Int) → Int
  | 0, _ => 1
  | k + 1, g => pr k g * g k
theorem pr_congr {k : Nat} {g h : Nat → Int} (e : ∀ i, i < k → g i = h i) : pr k g = pr k h := by
  induction k with
  | zero => rfl
  | succ k ih => show pr k g * g k = pr k h * h k; rw [ih fun i hi => e i (by omega), e k (by omega)]
/-- What all orders that begin as s does (its first k places) add to the determinant. -/
def part' (n k : Nat) (f : Nat → Nat → Int) (s : Nat → Nat) : Int := sp n (fun i => (s i : Int)) * pr k (fun i => f i (s i)) * dt (n - k) (fun i j => f (k + i) (s (k + j)))
theorem part_end (n : Nat) (f : Nat → Nat → Int) (s : Nat → Nat) : part' n n f s = sp n (fun i => (s i : Int)) * pr n (fun i => f i (s i)) := by
  unfold part'
  rw [Nat.sub_self]
  show _ * 1 = _
  grind
theorem part_zero (n : Nat) (f : Nat → Nat → Int) {s : Nat → Nat} (hs : ∀ j, j < n → s j = j) : part' n 0 f s = dt n f := by
  unfold part'
  rw [sp_id fun i hi => by rw [hs i hi], Nat.sub_zero]
  have : dt n (fun i j => f (0 + i) (s (0 + j))) = dt n f := dt_congr n fun i j _ hj => by rw [Nat.zero_add, Nat.zero_add, hs j hj]
  rw [this]
  show 1 * 1 * _ = _
  grind
theorem part_next {n k : Nat} (f : Nat → Nat → Int) (s : Nat → Nat) (hk : k < n) : sg (n - k) (fun t => part' n (k + 1) f fun j => s (sw k (k + t) j)) = part' n k f s := by
  obtain ⟨m, hm⟩ : ∃ m, n - k = m + 1 := ⟨n - k - 1, by omega⟩
  unfold part'
  rw [hm, dt_succ, ← sg_times]
  refine sg_congr fun t ht => ?_
  have e1 : pr (k + 1) (fun i => f i (s (sw k (k + t) i))) = pr k (fun i => f i (s i)) * f k (s (k + t)) := by
    show pr k (fun i => f i (s (sw k (k + t) i))) * f k (s (sw k (k + t) k)) = _
    rw [sw_left, pr_congr (h := fun i => f i (s i)) fun i hi => by rw [sw_none (by omega) (by omega)]]
  have e0 : n - (k + 1) = m := by omega
  rw [e0, e1]
  show _ = sp n (fun i => (s i : Int)) * pr k (fun i => f i (s i)) * (sgn t * f (k + 0) (s (k + t)) * dt m (del t fun i j => f (k + i) (s (k + j))))
  rw [Nat.add_zero]
  cases t with
  | zero =>
    have e2 : (fun i => ((s (sw k (k + 0) i) : Nat) : Int)) = fun i => (s i : Int) := by
      funext i
      rw [Nat.add_zero]
      by_cases h : i = k
      · rw [h, sw_left]
      · rw [sw_none h h]
    have e3 : (fun i j => f (k + 1 + i) (s (sw k (k + 0) (k + 1 + j)))) = del 0 fun i j => f (k + i) (s (k + j)) := by
      funext i j
      show f (k + 1 + i) (s (sw k (k + 0) (k + 1 + j))) = f (k + (i + 1)) (s (k + sk 0 j))
      rw [sw_none (by omega) (by omega), sk_zero, show k + 1 + i = k + (i + 1) by omega, show k + 1 + j = k + (j + 1) by omega]
    rw [e2, e3, show sgn 0 = 1 from rfl]; grind
  | succ t =>
    have e2 : sp n (fun i => ((s (sw k (k + (t + 1)) i) : Nat) : Int)) = -(sp n fun i => (s i : Int)) := sp_swap (fun i => (s i : Int)) hk (by omega) (by omega)
    have e3 : dt m (fun i j => f (k + 1 + i) (s (sw k (k + (t + 1)) (k + 1 + j)))) = sgn t * dt m (del (t + 1) fun i j => f (k + i) (s (k + j))) := by
      refine Eq.trans (dt_congr m fun i j hi hj => ?_) (dt_turn (fun i b => f (k + (i + 1)) (s (k + b))) (t + 1) t (by omega) (by omega))
      show f (k + 1 + i) (s (sw k (k + (t + 1)) (k + 1 + j))) = f (k + (i + 1)) (s (k + turn (t + 1) t j))
      rw [show k + 1 + i = k + (i + 1) by omega]
      congr 2
      unfold turn
      by_cases h1 : j = t
      · rw [if_neg (by omega), if_pos h1, h1, show k + 1 + t = k + (t + 1) by omega, sw_right, Nat.add_zero]
      · rw [sw_none (by omega) (by omega)]
        by_cases h2 : j < t
        · rw [if_pos h2]; omega
        · rw [if_neg h2, if_neg h1]; unfold sk; rw [if_neg (by omega)]; omega
    rw [e2, e3, sgn_succ]; grind

/-- The document's sign: one exchange for each two of which the greater one comes first. -/
def e2 (a b : Int) : Int := if b < a then -1 else 1
def inv : Nat → (Nat → Int) → Int
  | 0, _ => 1
  | k + 1, s => inv k s * pr k (fun t => e2 (s t) (s k))
theorem e2_turn {a b : Int} (h : a ≠ b) : e2 b a = -(e2 a b) := by
  unfold e2
  rcases Int.lt_or_lt_of_ne h with h | h
  · rw [if_pos h, if_neg (by omega)]
  · rw [if_neg (by omega), if_pos h]; grind
theorem pr_next {c : Nat} (g : Nat → Int) : ∀ k, c + 1 < k → pr k (fun i => g (sw c (c + 1) i)) = pr k g
  | 0, h => absurd h (by omega)
  | k + 1, h => by
    show pr k (fun i => g (sw c (c + 1) i)) * g (sw c (c + 1) k) = pr k g * g k
    by_cases hk : c + 1 < k
    · rw [pr_next g k hk, sw_none (by omega) (by omega)]
    · obtain rfl : k = c + 1 := by omega
      show pr c (fun i => g (sw c (c + 1) i)) * g (sw c (c + 1) c) * g (sw c (c + 1) (c + 1)) = pr c g * g c * g (c + 1)
      rw [pr_congr (h := g) fun i hi => by rw [sw_none (by omega) (by omega)], sw_left, sw_right]; grind
theorem inv_congr {k : Nat} {s t : Nat → Int} (h : ∀ i, i < k → s i = t i) : inv k s = inv k t := by
  induction k with
  | zero => rfl
  | succ k ih =>
    show inv k s * pr k _ = inv k t * pr k _
    rw [ih fun i hi => h i (by omega), h k (by omega), pr_congr (h := fun x => e2 (t x) (t k)) fun i hi => by rw [h i (by omega)]]
theorem inv_next {c : Nat} (s : Nat → Int) (hne : s c ≠ s (c + 1)) : ∀ k, c + 1 < k → inv k (fun i => s (sw c (c + 1) i)) = -(inv k s)
  | 0, h => absurd h (by omega)
  | k + 1, h => by
    show inv k (fun i => s (sw c (c + 1) i)) * pr k (fun t => e2 (s (sw c (c + 1) t)) (s (sw c (c + 1) k))) = -(inv k s * pr k (fun t => e2 (s t) (s k)))
    by_cases hk : c + 1 < k
    · rw [inv_next s hne k hk, sw_none (j := k) (by omega) (by omega), pr_next (fun t => e2 (s t) (s k)) k hk]; grind
    · obtain rfl : k = c + 1 := by omega
      show inv c (fun i => s (sw c (c + 1) i)) * pr c (fun t => e2 (s (sw c (c + 1) t)) (s (sw c (c + 1) c))) * (pr c (fun t => e2 (s (sw c (c + 1) t)) (s (sw c (c + 1) (c + 1)))) * e2 (s (sw c (c + 1) c)) (s (sw c (c + 1) (c + 1)))) =
        -(inv c s * pr c (fun t => e2 (s t) (s c)) * (pr c (fun t => e2 (s t) (s (c + 1))) * e2 (s c) (s (c + 1))))
      rw [sw_left, sw_right, inv_congr (t := s) fun i hi => by rw [sw_none (by omega) (by omega)], pr_congr (g := fun t => e2 (s (sw c (c + 1) t)) (s (c + 1))) (h := fun t => e2 (s t) (s (c + 1))) fun i hi => by rw [sw_none (by omega) (by omega)],
        pr_congr (g := fun t => e2 (s (sw c (c + 1) t)) (s c)) (h := fun t => e2 (s t) (s c)) fun i hi => by rw [sw_none (by omega) (by omega)], e2_turn hne]
      grind
theorem sw_three {c p q : Nat} (h1 : c ≠ p) (h2 : p ≠ q) (h3 : c ≠ q) (i : Nat) : sw c q i = sw p q (sw c p (sw p q i)) := by
  by_cases e1 : i = c
  · rw [e1, sw_left, sw_none (j := c) h1 h3, sw_left, sw_left]
  · by_cases e2 : i = p
    · rw [e2, sw_left p q, sw_none (j := q) (fun e => h3 e.symm) (fun e => h2 e.symm), sw_right, sw_none (fun e => h1 e.symm) h2]
    · by_cases e3 : i = q
      · rw [e3, sw_right, sw_right, sw_right, sw_none (j := c) h1 h3]
      · rw [sw_none e1 e3, sw_none e2 e3, sw_none e1 e2, sw_none e2 e3]
theorem inv_far (c : Nat) : ∀ (d k : Nat) (s : Nat → Int), c + d + 1 < k → (∀ i j, i < k → j < k → s i = s j → i = j) → inv k (fun i => s (sw c (c + d + 1) i)) = -(inv k s)
  | 0, k, s, h, hi => inv_next s (fun e => by have := hi _ _ (by omega) (by omega) e; omega) k h
  | d + 1, k, s, h, hi => by
    have e : (fun i => s (sw c (c + (d + 1) + 1) i)) = fun i => s (sw (c + d + 1) (c + d + 1 + 1) (sw c (c + d + 1) (sw (c + d + 1) (c + d + 1 + 1) i))) := by
      funext i
      exact congrArg s (sw_three (by omega) (by omega) (by omega) i)
    have s1 : ∀ i j, i < k → j < k → s (sw (c + d + 1) (c + d + 1 + 1) i) = s (sw (c + d + 1) (c + d + 1 + 1) j) → i = j := fun i j h1 h2 e => sw_inj (hi _ _ (sw_lt (by omega) (by omega) h1) (sw_lt (by omega) (by omega) h2) e)
    have a1 := inv_next (c := c + d + 1) s (fun e => by have := hi _ _ (by omega) (by omega) e; omega) k (by omega)
    have a2 := inv_far c d k (fun i => s (sw (c + d + 1) (c + d + 1 + 1) i)) (by omega) s1
    have a3 := inv_next (c := c + d + 1) (fun i => s (sw (c + d + 1) (c + d + 1 + 1) (sw c (c + d + 1) i))) (fun e => by
      have := s1 _ _ (sw_lt (by omega) (by omega) (by omega)) (sw_lt (by omega) (by omega) (by omega)) e
      have := sw_inj this
      omega) k (by omega)
    rw [e, a3, a2, a1]; grind
theorem inv_swap {n : Nat} (s : Nat → Int) {a b : Nat} (ha : a < n) (hb : b < n) (hne : a ≠ b) (hi : ∀ i j, i < n → j < n → s i = s j → i = j) : inv n (fun i => s (sw a b i)) = -(inv n s) := by
  have sym : ∀ i, sw a b i = sw b a i := fun i => by
    unfold sw
    by_cases h1 : i = a
    · rw [if_pos h1, if_neg (by omega), if_pos h1]
    · rw [if_neg h1]
      by_cases h2 : i = b
      · rw [if_pos h2, if_pos h2]
      · rw [if_neg h2, if_neg h2, if_neg h1]
  rcases Nat.lt_or_ge a b with h | h
  · have := inv_far a (b - a - 1) n s (by omega) hi
    rw [show a + (b - a - 1) + 1 = b by omega] at this
    exact this
  · have := inv_far b (a - b - 1) n s (by omega) hi
    rw [show b + (a - b - 1) + 1 = a by omega] at this
    rw [show (fun i => s (sw a b i)) = fun i => s (sw b a i) by funext i; rw [sym]]
    exact this
theorem pr_ones {k : Nat} {g : Nat → Int} (h : ∀ i, i < k → g i = 1) : pr k g = 1 := by
  induction k with
  | zero => rfl
  | succ k ih => show pr k g * g k = 1; rw [ih fun i hi => h i (by omega), h k (by omega)]; rfl
theorem inv_id {s : Nat → Int} : ∀ n, (∀ i, i < n → s i = (i : Int)) → inv n s = 1
  | 0, _ => rfl
  | n + 1, h => by
    show inv n s * pr n _ = 1
    rw [inv_id n fun i hi => h i (by omega), pr_ones fun i hi => by unfold e2; rw [h i (by omega), h n (by omega), if_neg (by omega)]]; rfl
/-- Of an order both are one. -/
theorem inv_sp {n : Nat} {s : Nat → Int} (h : ∀ k : Nat, k < n → ∃ i, i < n ∧ s i = (k : Int)) : inv n s = sp n s := by
  have hN : ∀ k : Nat, k < n → ∃ i, i < n ∧ (s i).toNat = k := fun k hk => by
    obtain ⟨i, h1, h2⟩ := h k hk
    exact ⟨i, h1, by rw [h2]; rfl⟩
  obtain ⟨h1, h2⟩ := into hN
  -- the numbers are none below nought
  have hs : ∀ i, i < n → s i = (((s i).toNat : Nat) : Int) := fun i hi => by
    obtain ⟨j, hj, e⟩ := h _ (h1 i hi)
    have : i = j := h2 i j hi hj (by rw [e]; rfl)
    rw [this] at e ⊢
    exact e
  rw [inv_congr hs, sp_congr hs]
  refine by_swaps (n := n) (P := fun t => inv n (fun i => (t i : Int)) = sp n fun i => (t i : Int)) (fun t hf => ?_) (fun t a b ha hb hne _ hi e => ?_) n 0 (fun i => (s i).toNat) (by omega) h1 h2 (fun j hj => absurd hj (by omega))
  · rw [inv_id n fun i hi => by rw [hf i hi], sp_id fun i hi => by rw [hf i hi]]
  · have a1 := inv_swap (n := n) (fun i => (t i : Int)) ha hb hne fun i j h1 h2 e => hi i j h1 h2 (by omega)
    have a2 := sp_swap (n := n) (fun i => (t i : Int)) ha hb hne
    have e' : inv n (fun i => ((t (sw a b i) : Nat) : Int)) = sp n fun i => ((t (sw a b i) : Nat) : Int) := e
    rw [a1, a2] at e'
    grind

theorem dt_tau {n : Nat} : ∀ (i : Nat) (f : Nat → Nat → Int), i < n → dt n (fun a b => f (tau i a) b) = sgn i * dt n f
  | 0, f, _ => by
    rw [show (fun a b => f (tau 0 a) b) = f from funext fun a => by rw [tau_zero]]
    show _ = (if 0 % 2 = 0 then (1 : Int) else -1) * _
    rw [if_pos rfl]; grind
  | i + 1, f, h => by
    have h1 := dt_tau (n := n) i (fun r b => f (sw i (i + 1) r) b) (by omega)
    rw [show (fun a b => f (sw i (i + 1) (tau i a)) b) = fun a b => f (tau (i + 1) a) b from funext fun a => by rw [tau_next]] at h1
    rw [h1, dt_rswap f (a := i) (b := i + 1) (by omega) h (by omega), sgn_succ]
    grind
theorem sgn_two (i : Nat) : sgn i * sgn i = 1 := by unfold sgn; split <;> grind
theorem sgn_add (i j : Nat) : sgn (i + j) = sgn i * sgn j := by
  unfold sgn
  by_cases h1 : i % 2 = 0
  · by_cases h2 : j % 2 = 0
    · rw [if_pos h1, if_pos h2, if_pos (by omega)]; grind
    · rw [if_pos h1, if_neg h2, if_neg (by omega)]; grind
  · by_cases h2 : j % 2 = 0
    · rw [if_neg h1, if_pos h2, if_neg (by omega)]; grind
    · rw [if_neg h1, if_neg h2, if_pos (by omega)]; grind
/-- By row i. -/
theorem laplace (p i : Nat) (f : Nat → Nat → Int) (hi : i ≤ p) : (sg (p + 1) fun j => sgn (i + j) * f i j * dt p (wo f i j)) = dt (p + 1) f := by
  have h1 := dt_tau i f (Nat.lt_succ_of_le hi)
  rw [dt_succ] at h1
  have h2 : (sg (p + 1) fun j => sgn j * f (tau i 0) j * dt p (del j fun a b => f (tau i a) b)) = sg (p + 1) fun j => sgn j * f i j * dt p (wo f i j) := sg_congr fun j _ => by
    rw [show (del j fun a b => f (tau i a) b) = wo f i j from funext fun a => funext fun b => by
      show f (tau i (a + 1)) (sk j b) = f (sk i a) (sk j b)
      unfold tau
      rw [if_neg (Nat.succ_ne_zero a), Nat.add_sub_cancel]]
    show sgn j * f (if 0 = 0 then i else _) j * _ = _
    rw [if_pos rfl]
  rw [h2] at h1
  have h3 : (sg (p + 1) fun j => sgn (i + j) * f i j * dt p (wo f i j)) = sgn i * sg (p + 1) fun j => sgn j * f i j * dt p (wo f i j) := by
    rw [← sg_times]
    exact sg_congr fun j _ => by rw [sgn_add]; grind
  rw [h3, h1]
  have := sgn_two i
  grind
theorem wo_setr (i j : Nat) (u : Nat → Int) (f : Nat → Nat → Int) : wo (setr i u f) i j = wo f i j := by
  funext a b
  show (if sk i a = i then u (sk j b) else f (sk i a) (sk j b)) = _
  rw [if_neg (sk_ne i a)]; rfl
/-- With the numbers of another row in its place. -/
theorem laplace_row (p i : Nat) (u : Nat → Int) (f : Nat → Nat → Int) (hi : i ≤ p) : (sg (p + 1) fun j => sgn (i + j) * u j * dt p (wo f i j)) = dt (p + 1) (setr i u f) := by
  rw [← laplace p i (setr i u f) hi]
  exact sg_congr fun j _ => by
    rw [wo_setr]
    show _ = _ * (if i = i then u j else f i j) * _
    rw [if_pos rfl]
theorem laplace_other (p i k : Nat) (f : Nat → Nat → Int) (hi : i ≤ p) (hk : k ≤ p) : (sg (p + 1) fun j => sgn (i + j) * f k j * dt p (wo f i j)) = if i = k then dt (p + 1) f else 0 := by
  rw [laplace_row p i (fun j => f k j) f hi]
  by_cases h : i = k
  · rw [if_pos h, h, setr_self]
  · rw [if_neg h]
    refine dt_rows (r := i) (s := k) (by omega) (by omega) h fun j _ => ?_
    show (if i = i then f k j else f i j) = (if k = i then f k j else f k j)
    rw [if_pos rfl]; split <;> rfl

/-- The adjugate: at row i and column j what is left without row j and column i, with its sign. -/
def adj (p : Nat) (f : Nat → Nat → Int) : Nat → Nat → Int := fun i j => sgn (i + j) * dt p (wo f j i)
/-- So many times the one. -/
def scal (d : Int) : Nat → Nat → Int := fun i j => if i = j then d else 0
theorem adj_right (p : Nat) (f : Nat → Nat → Int) : Eqm (p + 1) (p + 1) (mul (p + 1) f (adj p f)) (scal (dt (p + 1) f)) := fun k i hk hi => by
  show (sg (p + 1) fun j => f k j * (sgn (j + i) * dt p (wo f i j))) = if k = i then _ else 0
  have := laplace_other p i k f (by omega) (by omega)
  rw [show (sg (p + 1) fun j => f k j * (sgn (j + i) * dt p (wo f i j))) = sg (p + 1) fun j => sgn (i + j) * f k j * dt p (wo f i j) from sg_congr fun j _ => by rw [Nat.add_comm i j]; grind, this]
  by_cases h : i = k
  · rw [if_pos h, if_pos h.symm]
  · rw [if_neg h, if_neg fun h' => h h'.symm]
theorem adj_flip (p : Nat) (f : Nat → Nat → Int) : adj p (flip f) = flip (adj p f) := by
  funext i j
  show sgn (i + j) * dt p (wo (flip f) j i) = sgn (j + i) * dt p (wo f i j)
  rw [Nat.add_comm i j, show wo (flip f) j i = flip (wo f i j) from rfl, dt_flip]
theorem adj_left (p : Nat) (f : Nat → Nat → Int) : Eqm (p + 1) (p + 1) (mul (p + 1) (adj p f) f) (scal (dt (p + 1) f)) := fun k i hk hi => by
  have h := adj_right p (flip f) i k hi hk
  rw [adj_flip, dt_flip] at h
  have e : mul (p + 1) (flip f) (flip (adj p f)) i k = mul (p + 1) (adj p f) f k i := sg_congr fun x _ => by
    show f x i * adj p f k x = adj p f k x * f x i
    grind
  rw [← e, h]
  show (if i = k then _ else _) = if k = i then _ else _
  by_cases h : i = k
  · rw [if_pos h, if_pos h.symm]
  · rw [if_neg h, if_neg fun h' => h h'.symm]
theorem dt_scal (d : Int) : ∀ n, dt n (scal d) = d ^ n
  | 0 => (Int.pow_zero d).symm
  | n + 1 => by
    rw [dt_succ, sg_one (Nat.succ_pos n) fun i hi hne => by
      show sgn i * (if 0 = i then d else 0) * _ = 0
      rw [if_neg fun h => hne h.symm]; grind]
    have e : del 0 (scal d) = scal d := by
      funext a b
      show (if a + 1 = sk 0 b then d else 0) = if a = b then d else 0
      rw [sk_zero]
      by_cases h : a = b
      · rw [if_pos h, if_pos (by omega)]
      · rw [if_neg h, if_neg (by omega)]
    rw [e, dt_scal d n]
    show (if 0 % 2 = 0 then (1 : Int) else -1) * (if 0 = 0 then d else 0) * d ^ n = d ^ (n + 1)
    rw [if_pos rfl, if_pos rfl, Int.pow_succ]; grind
/-- Cramer: with what a row comes to in the place of column j. -/
theorem cramer (n j : Nat) (f : Nat → Nat → Int) (x : Nat → Int) (hj : j < n) : dt n (setc j (fun i => sg n fun t => f i t * x t) f) = dt n f * x j := by
  have h := dt_sum n j hj f x (fun t i => f i t) n
  rw [show (fun i => sg n fun t => x t * f i t) = fun i => sg n fun t => f i t * x t from funext fun i => sg_congr fun t _ => by grind] at h
  rw [h, sg_one hj fun t ht hne => by rw [dt_copy hj ht (fun e => hne e.symm)]; grind, setc_self]
  grind


end Go.Proofs.Ytbdpcpodmmhjaaa.Zx

/- Determinants of whole numbers: what is left by the prime, how great they may be, elimination without division, a middle that outweighs its row (Levy, Desplanques), Hadamard. No program is named here. -/
namespace Go.Proofs.Ytbdpcpodmmhjaaa.Zx
open Mx (sk sk_lt sk_zero)
set_option linter.unusedVariables false

theorem sg_ofInt (n : Nat) (f : Nat → Int) : Fp.ofInt (sg n f) = Mx.sg n fun i => Fp.ofInt (f i) := by
  induction n with
  | zero => rfl
  | succ n ih => rw [sg_succ, Fp.ofInt_add, ih]; rfl
theorem sgn_ofInt (j : Nat) : Fp.ofInt (sgn j) = Mx.sgn j := by
  unfold sgn Mx.sgn
  split <;> decide
/-- What the prime leaves of a determinant is that of what it leaves. -/
theorem dt_ofInt : ∀ (n : Nat) (f : Nat → Nat → Int), Fp.ofInt (dt n f) = Mx.dt n fun i j => Fp.ofInt (f i j)
  | 0, _ => rfl
  | n + 1, f => by
    rw [dt_succ, sg_ofInt, Mx.dt_succ]
    exact Mx.sg_congr fun j _ => by rw [Fp.ofInt_mul, Fp.ofInt_mul, sgn_ofInt, dt_ofInt n]; rfl

/-- Sizes. -/
def ab (x : Int) : Int := (x.natAbs : Int)
theorem ab_pos (x : Int) : 0 ≤ ab x := by unfold ab; omega
theorem ab_mul (x y : Int) : ab (x * y) = ab x * ab y := by unfold ab; rw [Int.natAbs_mul]; simp
theorem ab_sub (x y : Int) : ab (x - y) ≤ ab x + ab y := by unfold ab; omega
theorem ab_sub' (x y : Int) : ab x - ab y ≤ ab (x - y) := by unfold ab; omega
theorem ab_zero {x : Int} (h : ab x = 0) : x = 0 := by unfold ab at h; omega
theorem sg_le {n : Nat} {f g : Nat → Int} (h : ∀ i, i < n → f i ≤ g i) : sg n f ≤ sg n g := by
  induction n with
  | zero => exact Int.le_refl _
  | succ n ih => rw [sg_succ, sg_succ]; have := ih fun i hi => h i (by omega); have := h n (by omega); omega
theorem sg_nonneg {n : Nat} {f : Nat → Int} (h : ∀ i, i < n → 0 ≤ f i) : 0 ≤ sg n f := by
  induction n with
  | zero => exact Int.le_refl _
  | succ n ih => rw [sg_succ]; have := ih fun i hi => h i (by omega); have := h n (by omega); omega
theorem sg_shift (n : Nat) (f : Nat → Int) : sg (n + 1) f = f 0 + sg n fun i => f (i + 1) := by
  induction n with
  | zero => show 0 + f 0 = f 0 + 0; omega
  | succ n ih => rw [sg_succ, ih, sg_succ]; omega
/-- One term more. -/
theorem sg_extra {n k : Nat} (hk : k < n) (f : Nat → Int) (x : Int) : (sg n fun i => f i + if i = k then x else 0) = sg n f + x := by
  rw [sg_add, sg_one (k := k) hk fun i _ h => if_neg h, if_pos rfl]
def fb (M : Int) : Nat → Int
  | 0 => 1
  | n + 1 => (n + 1 : Nat) * (M * fb M n)
theorem fb_pos {M : Int} (h : 0 ≤ M) : ∀ n, 0 ≤ fb M n
  | 0 => by show (0 : Int) ≤ 1; omega
  | n + 1 => Int.mul_nonneg (by omega) (Int.mul_nonneg h (fb_pos h n))
theorem sg_ab {n : Nat} {f : Nat → Int} {B : Int} (h : ∀ i, i < n → ab (f i) ≤ B) : ab (sg n f) ≤ (n : Int) * B := by
  induction n with
  | zero => show ab 0 ≤ _; rw [show ((0 : Nat) : Int) * B = 0 by simp]; decide
  | succ n ih =>
    have h1 := ih fun i hi => h i (by omega)
    have h2 := h n (by omega)
    have h3 : ((n + 1 : Nat) : Int) * B = n * B + B := by rw [Int.natCast_add, Int.add_mul]; simp
    rw [sg_succ, h3]
    unfold ab at *
    omega
theorem sgn_ab (j : Nat) : ab (sgn j) = 1 := by unfold sgn; split <;> decide
/-- How great a determinant may be. -/
theorem dt_ab {M : Int} (hM : 0 ≤ M) : ∀ (n : Nat) (f : Nat → Nat → Int), (∀ i j, i < n → j < n → ab (f i j) ≤ M) → ab (dt n f) ≤ fb M n
  | 0, _, _ => by show ab 1 ≤ 1; decide
  | n + 1, f, h => by
    rw [dt_succ]
    refine sg_ab fun j hj => ?_
    have h1 := dt_ab hM n (del j f) fun a b ha hb => h (a + 1) (sk j b) (by omega) (sk_lt hb)
    rw [ab_mul, ab_mul, sgn_ab, Int.one_mul]
    exact Int.mul_le_mul (h 0 j (by omega) hj) h1 (ab_pos _) hM

/-- The first row, or the first column, has noughts behind its first number. -/
theorem dt_first (n : Nat) (f : Nat → Nat → Int) (h : ∀ j, 0 < j → j < n + 1 → f 0 j = 0) : dt (n + 1) f = f 0 0 * dt n fun i j => f (i + 1) (j + 1) := by
  rw [dt_succ, sg_one (Nat.succ_pos n) fun i hi hne => by rw [h i (by omega) hi]; grind]
  have e : del 0 f = fun i j => f (i + 1) (j + 1) := funext fun a => funext fun b => by show f (a + 1) (sk 0 b) = _; rw [sk_zero]
  rw [e]
  show (if 0 % 2 = 0 then (1 : Int) else -1) * f 0 0 * _ = _
  rw [if_pos rfl, Int.one_mul]
theorem dt_firstc (n : Nat) (f : Nat → Nat → Int) (h : ∀ i, 0 < i → i < n + 1 → f i 0 = 0) : dt (n + 1) f = f 0 0 * dt n fun i j => f (i + 1) (j + 1) := by
  rw [← dt_flip (n + 1) f, dt_first n (flip f) h, ← dt_flip n fun i j => f (i + 1) (j + 1)]
  rfl
/-- What is left when the first column is taken away, without division. -/
def schur (f : Nat → Nat → Int) : Nat → Nat → Int := fun i j => f 0 0 * f (i + 1) (j + 1) - f (i + 1) 0 * f 0 (j + 1)
def lowm (f : Nat → Nat → Int) : Nat → Nat → Int := fun i j => if i = 0 then (if j = 0 then 1 else 0) else if j = 0 then -(f i 0) else if i = j then f 0 0 else 0
theorem lowm_mul (n : Nat) (f : Nat → Nat → Int) {i : Nat} (hi : i < n) (j : Nat) : mul (n + 1) (lowm f) f (i + 1) j = f 0 0 * f (i + 1) j - f (i + 1) 0 * f 0 j := by
  show (sg (n + 1) fun x => (if i + 1 = 0 then (if x = 0 then (1 : Int) else 0) else if x = 0 then -(f (i + 1) 0) else if i + 1 = x then f 0 0 else 0) * f x j) = _
  rw [sg_two (k := 0) (l := i + 1) (by omega) (by omega) (by omega) fun x hx h1 h2 => by
    rw [if_neg (by omega), if_neg h1, if_neg (fun e => h2 e.symm)]; grind]
  rw [if_neg (by omega), if_pos rfl, if_neg (by omega), if_pos rfl]
  grind
theorem lowm_top (n : Nat) (f : Nat → Nat → Int) (j : Nat) : mul (n + 1) (lowm f) f 0 j = f 0 j := by
  show (sg (n + 1) fun x => (if 0 = 0 then (if x = 0 then (1 : Int) else 0) else if x = 0 then -(f 0 0) else if 0 = x then f 0 0 else 0) * f x j) = _
  rw [sg_one (k := 0) (by omega) fun x hx h1 => by rw [if_pos rfl, if_neg h1]; grind]
  rw [if_pos rfl, if_pos rfl]; grind
theorem elim (n : Nat) (f : Nat → Nat → Int) : f 0 0 ^ n * dt (n + 1) f = f 0 0 * dt n (schur f) := by
  have h1 : dt (n + 1) (lowm f) = f 0 0 ^ n := by
    rw [dt_first n (lowm f) fun j h _ => by show (if 0 = 0 then (if j = 0 then (1 : Int) else 0) else _) = 0; rw [if_pos rfl, if_neg (by omega)]]
    have e : (fun i j => lowm f (i + 1) (j + 1)) = scal (f 0 0) := funext fun i => funext fun j => by
      show (if i + 1 = 0 then (if j + 1 = 0 then (1 : Int) else 0) else if j + 1 = 0 then -(f (i + 1) 0) else if i + 1 = j + 1 then f 0 0 else 0) = if i = j then f 0 0 else 0
      rw [if_neg (by omega), if_neg (by omega)]
      by_cases h : i = j
      · rw [if_pos h, if_pos (by omega)]
      · rw [if_neg h, if_neg (by omega)]
    rw [e, dt_scal]
    show (if 0 = 0 then (if 0 = 0 then (1 : Int) else 0) else _) * _ = _
    rw [if_pos rfl, if_pos rfl, Int.one_mul]
  rw [← h1, ← dt_mul, dt_firstc n (mul (n + 1) (lowm f) f) fun i h hi => by
    obtain ⟨k, rfl⟩ : ∃ k, i = k + 1 := ⟨i - 1, by omega⟩
    rw [lowm_mul n f (by omega)]; grind]
  rw [lowm_top]
  congr 1
  exact dt_congr n fun i j hi hj => by rw [lowm_mul n f hi]; rfl

/-- In each row the number in the middle is more than all others together. -/
def Heavy (n : Nat) (f : Nat → Nat → Int) : Prop := ∀ i, i < n → (sg n fun j => ab (f i j)) < 2 * ab (f i i)
theorem Heavy.next {n : Nat} {f : Nat → Nat → Int} (h : Heavy (n + 1) f) : f 0 0 ≠ 0 ∧ Heavy n (schur f) := by
  have h0 := h 0 (by omega)
  rw [sg_shift] at h0
  have hR : 0 ≤ sg n fun j => ab (f 0 (j + 1)) := sg_nonneg fun j _ => ab_pos _
  have ha := ab_pos (f 0 0)
  refine ⟨fun e => ?_, fun i hi => ?_⟩
  · rw [e] at h0
    have : ab 0 = 0 := rfl
    omega
  · have h1 := h (i + 1) (by omega)
    rw [sg_shift] at h1
    have hc := ab_pos (f (i + 1) 0)
    have hB := ab_sub' (f 0 0 * f (i + 1) (i + 1)) (f (i + 1) 0 * f 0 (i + 1))
    rw [ab_mul, ab_mul] at hB
    have hS : (sg n fun j => ab (schur f i j)) ≤ sg n fun j => (ab (f 0 0) * ab (f (i + 1) (j + 1)) + ab (f (i + 1) 0) * ab (f 0 (j + 1))) + if j = i then ab (schur f i i) - (ab (f 0 0) * ab (f (i + 1) (i + 1)) + ab (f (i + 1) 0) * ab (f 0 (i + 1))) else 0 := sg_le fun j hj => by
      by_cases e : j = i
      · rw [if_pos e, e]; omega
      · rw [if_neg e]
        have := ab_sub (f 0 0 * f (i + 1) (j + 1)) (f (i + 1) 0 * f 0 (j + 1))
        rw [ab_mul, ab_mul] at this
        show ab (f 0 0 * f (i + 1) (j + 1) - f (i + 1) 0 * f 0 (j + 1)) ≤ _
        omega
    rw [sg_extra hi, sg_add, sg_times, sg_times] at hS
    have hB' : ab (f 0 0) * ab (f (i + 1) (i + 1)) - ab (f (i + 1) 0) * ab (f 0 (i + 1)) ≤ ab (schur f i i) := hB
    generalize ab (schur f i i) = y at *
    generalize (sg n fun j => ab (schur f i j)) = z at *
    generalize (sg n fun j => ab (f (i + 1) (j + 1))) = S at *
    generalize (sg n fun j => ab (f 0 (j + 1))) = R at *
    generalize ab (f (i + 1) (i + 1)) = d at *
    generalize ab (f 0 (i + 1)) = r at *
    generalize ab (f (i + 1) 0) = c at *
    generalize ab (f 0 0) = α at *
    have e1 : α * (S + c + 1) ≤ α * (2 * d) := Int.mul_le_mul_of_nonneg_left (by omega) ha
    have e2 : c * R ≤ c * α := Int.mul_le_mul_of_nonneg_left (by omega) hc
    have e3 : α * (S + c + 1) = α * S + c * α + α := by grind
    have e4 : α * (2 * d) = 2 * (α * d) := by grind
    rw [e3, e4] at e1
    omega
/-- Levy, Desplanques. -/
theorem heavy : ∀ (n : Nat) (f : Nat → Nat → Int), Heavy n f → dt n f ≠ 0
  | 0, _, _ => by show (1 : Int) ≠ 0; omega
  | n + 1, f, h => by
    obtain ⟨h1, h2⟩ := h.next
    intro e
    have := elim n f
    rw [e, Int.mul_zero] at this
    rcases Int.mul_eq_zero.1 this.symm with h3 | h3
    · exact h1 h3
    · exact heavy n _ h2 h3

/-- Sums of squares and products of rows. -/
def gm (m : Nat) (v : Nat → Nat → Int) : Nat → Nat → Int := fun i j => sg m fun x => v i x * v j x
theorem sq_pos (x : Int) : 0 ≤ x * x := by
  rcases Int.le_total 0 x with h | h
  · exact Int.mul_nonneg h h
  · have := Int.mul_nonneg (show 0 ≤ -x by omega) (show 0 ≤ -x by omega)
    rwa [Int.neg_mul_neg] at this
theorem gm_pos (m : Nat) (v : Nat → Nat → Int) (i : Nat) : 0 ≤ gm m v i i := sg_nonneg fun x _ => sq_pos _
theorem gm_comm (m : Nat) (v : Nat → Nat → Int) (i j : Nat) : gm m v i j = gm m v j i := sg_congr fun x _ => Int.mul_comm _ _
theorem sq_none {n : Nat} {f : Nat → Int} (h : (sg n fun x => f x * f x) = 0) : ∀ x, x < n → f x = 0 := by
  induction n with
  | zero => exact fun x hx => absurd hx (by omega)
  | succ n ih =>
    rw [sg_succ] at h
    have h1 : 0 ≤ sg n fun x => f x * f x := sg_nonneg fun x _ => sq_pos _
    have h2 := sq_pos (f n)
    intro x hx
    by_cases e : x = n
    · subst e
      rcases Int.mul_eq_zero.1 (show f x * f x = 0 by omega) with h | h <;> exact h
    · exact ih (by omega) x (by omega)
theorem pr_shift (n : Nat) (g : Nat → Int) : pr (n + 1) g = g 0 * pr n fun i => g (i + 1) := by
  induction n with
  | zero => show _ = _; simp only [pr]; grind
  | succ n ih => rw [pr, ih, pr]; grind
theorem pr_times (n : Nat) (a : Int) (g : Nat → Int) : (pr n fun i => a * g i) = a ^ n * pr n g := by
  induction n with
  | zero => simp only [pr, Int.pow_zero]; grind
  | succ n ih => rw [pr, ih, pr, Int.pow_succ]; grind
theorem pr_pos {n : Nat} {g : Nat → Int} (h : ∀ i, i < n → 0 ≤ g i) : 0 ≤ pr n g := by
  induction n with
  | zero => show (0 : Int) ≤ 1; omega
  | succ n ih => rw [pr]; exact Int.mul_nonneg (by first | exact ih (fun i hi => h i (by omega)) | exact h n (by omega)) (by first | exact h n (by omega) | exact ih (fun i hi => h i (by omega)))
theorem pr_le {n : Nat} {g k : Nat → Int} (h0 : ∀ i, i < n → 0 ≤ g i) (h : ∀ i, i < n → g i ≤ k i) : pr n g ≤ pr n k := by
  induction n with
  | zero => exact Int.le_refl _
  | succ n ih =>
    have h1 := ih (fun i hi => h0 i (by omega)) (fun i hi => h i (by omega))
    have h2 := pr_pos (n := n) fun i hi => h0 i (by omega)
    have h3 := h0 n (by omega)
    have h4 := h n (by omega)
    rw [pr, pr]
    first
      | exact Int.mul_le_mul h1 h4 h3 (by omega)
      | exact Int.mul_le_mul h4 h1 h2 (by omega)
theorem dt_times_all (n : Nat) (a : Int) (f : Nat → Nat → Int) : (dt n fun i j => a * f i j) = a ^ n * dt n f := by
  rw [← dt_scal, ← dt_mul]
  exact dt_congr n fun i j hi _ => by
    show a * f i j = sg n fun x => (if i = x then a else 0) * f x j
    rw [sg_one hi fun x _ h => by rw [if_neg fun e => h e.symm]; grind, if_pos rfl]
/-- The rows without what they have of the first one, without division. -/
def away (m : Nat) (v : Nat → Nat → Int) : Nat → Nat → Int := fun i x => gm m v 0 0 * v (i + 1) x - gm m v (i + 1) 0 * v 0 x
theorem away_gm (m : Nat) (v : Nat → Nat → Int) (i j : Nat) : gm m (away m v) i j = gm m v 0 0 * schur (gm m v) i j := by
  have e : gm m (away m v) i j = gm m v 0 0 * gm m v 0 0 * gm m v (i + 1) (j + 1) + -(gm m v 0 0 * gm m v (j + 1) 0) * gm m v (i + 1) 0 + (-(gm m v 0 0 * gm m v (i + 1) 0) * gm m v 0 (j + 1) + gm m v (i + 1) 0 * gm m v (j + 1) 0 * gm m v 0 0) := by
    conv => rhs; unfold gm
    rw [← sg_times m (_ * _), ← sg_times m (-(_)), ← sg_times m (-(_)), ← sg_times m (_ * _), ← sg_add, ← sg_add, ← sg_add]
    exact sg_congr fun x _ => by unfold away gm; grind
  rw [e]
  unfold schur
  rw [gm_comm m v 0 (j + 1)]
  grind
theorem hadamard_gm : ∀ (n m : Nat) (v : Nat → Nat → Int), dt n (gm m v) ≤ pr n fun i => gm m v i i
  | 0, _, _ => Int.le_refl _
  | n + 1, m, v => by
    have ha := gm_pos m v 0
    rcases Int.lt_or_eq_of_le ha with ha | ha
    · have ih := hadamard_gm n m (away m v)
      rw [show gm m (away m v) = fun i j => gm m v 0 0 * schur (gm m v) i j from funext fun i => funext fun j => away_gm m v i j, dt_times_all, pr_times] at ih
      have hp : 0 < gm m v 0 0 ^ n := Int.pow_pos ha
      have h1 : dt n (schur (gm m v)) ≤ pr n fun i => schur (gm m v) i i := Int.le_of_mul_le_mul_left ih hp
      have hB0 : ∀ i, i < n → 0 ≤ schur (gm m v) i i := fun i _ => by
        have h2 := gm_pos m (away m v) i
        rw [away_gm] at h2
        rcases (show schur (gm m v) i i < 0 ∨ 0 ≤ schur (gm m v) i i by omega) with h3 | h3
        · have := Int.mul_neg_of_pos_of_neg ha h3
          omega
        · exact h3
      have hB1 : ∀ i, i < n → schur (gm m v) i i ≤ gm m v 0 0 * gm m v (i + 1) (i + 1) := fun i _ => by
        have h2 := sq_pos (gm m v (i + 1) 0)
        unfold schur
        rw [gm_comm m v 0 (i + 1)]
        omega
      have h2 := pr_le hB0 hB1
      rw [pr_times] at h2
      have h3 := elim n (gm m v)
      have h4 : gm m v 0 0 * dt n (schur (gm m v)) ≤ gm m v 0 0 * (gm m v 0 0 ^ n * pr n fun i => gm m v (i + 1) (i + 1)) := Int.mul_le_mul_of_nonneg_left (Int.le_trans h1 h2) (by omega)
      rw [← h3, show gm m v 0 0 * (gm m v 0 0 ^ n * pr n fun i => gm m v (i + 1) (i + 1)) = gm m v 0 0 ^ n * (gm m v 0 0 * pr n fun i => gm m v (i + 1) (i + 1)) by grind] at h4
      rw [pr_shift]
      exact Int.le_of_mul_le_mul_left h4 hp
    · have hz : ∀ x, x < m → v 0 x = 0 := sq_none (n := m) (f := v 0) ha.symm
      rw [dt_zrow (k := 0) (by omega) fun j _ => show gm m v 0 j = 0 from by
        unfold gm
        rw [sg_congr (g := fun _ => 0) fun x hx => by rw [hz x hx]; grind, sg_none]]
      exact pr_pos fun i _ => gm_pos m v i
/-- Hadamard. -/
theorem hadamard (n : Nat) (f : Nat → Nat → Int) : dt n f * dt n f ≤ pr n fun i => sg n fun j => f i j * f i j := by
  have h := hadamard_gm n n f
  have e : dt n (gm n f) = dt n f * dt n f := by
    have := dt_mul n f (flip f)
    rw [dt_flip] at this
    exact this
  rw [e] at h
  exact h

end Go.Proofs.Ytbdpcpodmmhjaaa.Zx

/- Elimination of whole numbers row by row, each row with a column of its own: what stands after each step is a determinant (Sylvester), and how the determinants of the first rows and columns come of it. No program is named here. -/
namespace Go.Proofs.Ytbdpcpodmmhjaaa.Zx
open Mx (sk sk_lt sk_zero)
set_option linter.unusedVariables false

/-- The first t rows and row k; the columns taken and column j. -/
def bk (t k : Nat) : Nat → Nat := fun a => if a < t then a else k
def bj (t : Nat) (p : Nat → Nat) (j : Nat) : Nat → Nat := fun b => if b < t then p b else j
/-- What stands at (k, j) after t steps. -/
def bd (f : Nat → Nat → Int) (p : Nat → Nat) (t k j : Nat) : Int := dt (t + 1) fun a b => f (bk t k a) (bj t p j b)
/-- The number that step t took, 1 before the first. -/
def lp (f : Nat → Nat → Int) (p : Nat → Nat) : Nat → Int
  | 0 => 1
  | t + 1 => bd f p t t (p t)
theorem dt_single (f : Nat → Nat → Int) : dt 1 f = f 0 0 := by
  rw [dt_succ, sg_succ, sg_zero]
  show 0 + sgn 0 * f 0 0 * 1 = f 0 0
  rw [show sgn 0 = 1 from rfl]; grind
theorem dt_pair (f : Nat → Nat → Int) : dt 2 f = f 0 0 * f 1 1 - f 0 1 * f 1 0 := by
  rw [dt_succ, sg_succ, sg_succ, sg_zero]
  simp only [dt_single]
  show 0 + sgn 0 * f 0 0 * f 1 1 + sgn 1 * f 0 1 * f 1 0 = _
  rw [show sgn 0 = 1 from rfl, show sgn 1 = -1 from rfl]; grind
theorem bd_zero (f : Nat → Nat → Int) (p : Nat → Nat) (k j : Nat) : bd f p 0 k j = f k j := by unfold bd; rw [dt_single]; rfl

def Sylv (f : Nat → Nat → Int) (p : Nat → Nat) (t : Nat) : Prop :=
  ∀ (s : Nat) (K J : Nat → Nat), (∀ a, a < t → K a = a) → (∀ b, b < t → J b = p b) →
    lp f p t ^ s * dt (t + (s + 1)) (fun a b => f (K a) (J b)) = dt (s + 1) fun a b => bd f p t (K (t + a)) (J (t + b))
theorem Sylv.rec' {f : Nat → Nat → Int} {p : Nat → Nat} {t : Nat} (h : Sylv f p t) (k j : Nat) :
    lp f p t * bd f p (t + 1) k j = bd f p t t (p t) * bd f p t k j - bd f p t t j * bd f p t k (p t) := by
  have e := h 1 (bk (t + 1) k) (bj (t + 1) p j) (fun a ha => by unfold bk; rw [if_pos (by omega)]) (fun b hb => by unfold bj; rw [if_pos (by omega)])
  rw [Int.pow_succ, Int.pow_zero, Int.one_mul] at e
  have e2 : dt (t + (1 + 1)) (fun a b => f (bk (t + 1) k a) (bj (t + 1) p j b)) = bd f p (t + 1) k j := rfl
  rw [e2] at e
  rw [e]
  show dt 2 _ = _
  rw [dt_pair]
  have k0 : bk (t + 1) k (t + 0) = t := by unfold bk; rw [if_pos (by omega)]; rfl
  have k1 : bk (t + 1) k (t + 1) = k := by unfold bk; rw [if_neg (by omega)]
  have j0 : bj (t + 1) p j (t + 0) = p t := by unfold bj; rw [if_pos (by omega)]; rfl
  have j1 : bj (t + 1) p j (t + 1) = j := by unfold bj; rw [if_neg (by omega)]
  rw [k0, k1, j0, j1]
theorem sylv (f : Nat → Nat → Int) (p : Nat → Nat) : ∀ t, (∀ i, i < t → lp f p (i + 1) ≠ 0) → Sylv f p t
  | 0, _ => fun s K J _ _ => by
    show (1 : Int) ^ s * _ = _
    rw [Int.one_pow, Int.one_mul, show 0 + (s + 1) = s + 1 by omega]
    exact dt_congr _ fun a b _ _ => by rw [bd_zero, show 0 + a = a by omega, show 0 + b = b by omega]
  | t + 1, hz => fun s K J hK hJ => by
    have S := sylv f p t fun i hi => hz i (by omega)
    have IH := S (s + 1) K J (fun a ha => hK a (by omega)) (fun b hb => hJ b (by omega))
    have q0 := hz t (by omega)
    have l0 : lp f p t ≠ 0 := by
      rcases t with _ | t
      · show (1 : Int) ≠ 0; decide
      · exact hz t (by omega)
    obtain ⟨G, hG⟩ : ∃ G, G = fun a b => bd f p t (K (t + a)) (J (t + b)) := ⟨_, rfl⟩
    have g00 : G 0 0 = lp f p (t + 1) := by
      rw [hG]
      show bd f p t (K t) (J t) = bd f p t t (p t)
      rw [hK t (by omega), hJ t (by omega)]
    have el := elim (s + 1) G
    have sc : dt (s + 1) (schur G) = lp f p t ^ (s + 1) * dt (s + 1) fun a b => bd f p (t + 1) (K (t + 1 + a)) (J (t + 1 + b)) := by
      rw [← dt_times_all]
      refine dt_congr _ fun a b _ _ => ?_
      rw [S.rec']
      unfold schur
      rw [g00, hG]
      show lp f p (t + 1) * bd f p t (K (t + (a + 1))) (J (t + (b + 1))) - bd f p t (K (t + (a + 1))) (J t) * bd f p t (K t) (J (t + (b + 1))) = _
      rw [hK t (by omega), hJ t (by omega), show t + (a + 1) = t + 1 + a by omega, show t + (b + 1) = t + 1 + b by omega]
      show bd f p t t (p t) * _ - _ = _
      grind
    rw [← hG] at IH
    rw [sc, ← IH, g00] at el
    have hp : lp f p t ^ (s + 1) ≠ 0 := Int.pow_ne_zero l0
    rw [show t + (s + 1 + 1) = t + 1 + (s + 1) by omega, Int.pow_succ (lp f p (t + 1)) s] at el
    have el2 : (lp f p (t + 1) * lp f p t ^ (s + 1)) * (lp f p (t + 1) ^ s * dt (t + 1 + (s + 1)) fun a b => f (K a) (J b)) = (lp f p (t + 1) * lp f p t ^ (s + 1)) * dt (s + 1) fun a b => bd f p (t + 1) (K (t + 1 + a)) (J (t + 1 + b)) := by grind
    exact Int.eq_of_mul_eq_mul_left (Int.mul_ne_zero q0 hp) el2

/-- A step: what it divides by goes in. -/
theorem step_bd {f : Nat → Nat → Int} {p : Nat → Nat} {t : Nat} (hz : ∀ i, i < t → lp f p (i + 1) ≠ 0) (k j : Nat) :
    (bd f p t k j * lp f p (t + 1) - bd f p t k (p t) * bd f p t t j).tdiv (lp f p t) = bd f p (t + 1) k j := by
  have l0 : lp f p t ≠ 0 := by
    rcases t with _ | t
    · show (1 : Int) ≠ 0; decide
    · exact hz t (by omega)
  have := (sylv f p t hz).rec' k j
  rw [show bd f p t k j * lp f p (t + 1) - bd f p t k (p t) * bd f p t t j = lp f p t * bd f p (t + 1) k j by
    rw [this]; show bd f p t k j * bd f p t t (p t) - _ = _; grind]
  exact Int.mul_tdiv_cancel_left _ l0

theorem lp_dt (f : Nat → Nat → Int) (p : Nat → Nat) (t : Nat) : lp f p t = dt t fun a b => f a (p b) := by
  rcases t with _ | t
  · rfl
  · show dt (t + 1) (fun a b => f (bk t t a) (bj t p (p t) b)) = _
    refine dt_congr _ fun a b ha hb => ?_
    have e1 : bk t t a = a := by unfold bk; split <;> omega
    have e2 : bj t p (p t) b = p b := by
      unfold bj
      by_cases h : b < t
      · rw [if_pos h]
      · rw [if_neg h, show b = t by omega]
    rw [e1, e2]

/-- A row of which nothing is left in the first q columns: the first q rows and columns have no determinant. -/
theorem bd_null {f : Nat → Nat → Int} {p : Nat → Nat} {t q : Nat} (ht : t < q) (h0 : lp f p t ≠ 0) (h : ∀ j, j < q → bd f p t t j = 0) : dt q f = 0 := by
  obtain ⟨c, hc⟩ : ∃ c : Nat → Int, c = fun a => if a < t + 1 then sgn (t + a) * dt t (fun i b => f (sk a b) (p i)) else 0 := ⟨_, rfl⟩
  rw [← dt_flip]
  refine dt_null (y := c) (c := t) ht ?_ fun j hj => ?_
  · rw [hc]
    show (if t < t + 1 then sgn (t + t) * dt t (fun i b => f (sk t b) (p i)) else 0) ≠ 0
    rw [if_pos (by omega), show sgn (t + t) = 1 by unfold sgn; rw [if_pos (by omega)], Int.one_mul]
    rw [lp_dt, ← dt_flip] at h0
    rw [dt_congr t (g := flip fun a b => f a (p b)) fun i b hi hb => by show f (sk t b) (p i) = f b (p i); rw [show sk t b = b by unfold sk; rw [if_pos hb]]]
    exact h0
  · have e := h j hj
    unfold bd at e
    rw [← dt_flip, ← laplace t t _ (Nat.le_refl _)] at e
    rw [← e, sg_less (n := t + 1) (by omega) fun i h1 h2 => by rw [hc]; show flip f j i * (if i < t + 1 then _ else 0) = 0; rw [if_neg (by omega), Int.mul_zero]]
    refine sg_congr fun a ha => ?_
    rw [hc]
    show f a j * (if a < t + 1 then sgn (t + a) * dt t (fun i b => f (sk a b) (p i)) else 0) = sgn (t + a) * f (bk t t a) (bj t p j t) * dt t _
    rw [if_pos ha, show bk t t a = a by unfold bk; split <;> omega, show bj t p j t = j by unfold bj; rw [if_neg (by omega)]]
    rw [dt_congr t (f := wo _ t a) (g := fun i b => f (sk a b) (p i)) fun i b hi hb => by
      show f (bk t t (sk a b)) (bj t p j (sk t i)) = f (sk a b) (p i)
      have e3 : sk a b ≤ b + 1 := by unfold sk; split <;> omega
      rw [show sk t i = i by unfold sk; rw [if_pos hi], show bj t p j i = p i by unfold bj; rw [if_pos hi], show bk t t (sk a b) = sk a b by unfold bk; split <;> omega]]
    grind

theorem sp_sq {n : Nat} (s : Nat → Int) : sp n s = 0 ∨ sp n s * sp n s = 1 := by
  by_cases ho : ∃ k, k < n ∧ (s k < 0 ∨ (n : Int) ≤ s k)
  · obtain ⟨k, hk, h⟩ := ho
    exact .inl (sp_out hk h)
  · by_cases ht : ∃ a b, a < n ∧ b < n ∧ a ≠ b ∧ s a = s b
    · obtain ⟨a, b, ha, hb, hne, e⟩ := ht
      exact .inl (sp_twice ha hb hne e)
    · right
      have : sp n s * sp n s = dt n (mul n (fun i j => if s i = (j : Int) then 1 else 0) (flip fun i j => if s i = (j : Int) then 1 else 0)) := by
        rw [dt_mul, dt_flip]; rfl
      rw [this]
      refine Eq.trans ?_ (dt_one n)
      refine dt_congr n fun i k hi hk => ?_
      show (sg n fun x => (if s i = (x : Int) then (1 : Int) else 0) * (if s k = (x : Int) then 1 else 0)) = if i = k then 1 else 0
      have hb : 0 ≤ s i ∧ s i < n := by
        have : ¬ (s i < 0 ∨ (n : Int) ≤ s i) := fun h => ho ⟨i, hi, h⟩
        omega
      rw [sg_one (k := (s i).toNat) (by omega) fun x hx hne => by rw [if_neg (by omega), Int.zero_mul], if_pos (by omega), Int.one_mul]
      by_cases e : i = k
      · rw [if_pos e, if_pos (by rw [← e]; omega)]
      · rw [if_neg e, if_neg fun e2 => ht ⟨i, k, hi, hk, e, by omega⟩]
theorem sp_some {n : Nat} (s : Nat → Int) : sp n s = 1 ∨ sp n s = -1 ∨ sp n s = 0 := by
  rcases sp_sq (n := n) s with h | h
  · exact .inr (.inr h)
  · have : (sp n s - 1) * (sp n s + 1) = 0 := by grind
    rcases Int.mul_eq_zero.1 this with h | h
    · left; omega
    · right; left; omega

/-- The first q rows and columns, of the number that the last step took. -/
theorem lead_lp {f : Nat → Nat → Int} {p : Nat → Nat} {q : Nat} (hz : ∀ i, i < q → lp f p (i + 1) ≠ 0) (hf : ∀ i, i < q → ∀ j, j < p i → bd f p i i j = 0) :
    sp q (fun i => (p i : Int)) * lp f p q = dt q f := by
  by_cases ho : ∃ i, i < q ∧ q ≤ p i
  · obtain ⟨i, hi, h⟩ := ho
    rw [sp_out hi (.inr (by omega)), Int.zero_mul]
    refine (bd_null hi ?_ fun j hj => hf i hi j (by omega)).symm
    rcases i with _ | i
    · show (1 : Int) ≠ 0; decide
    · exact hz i (by omega)
  · have hp : ∀ i, i < q → p i < q := fun i hi => by
      rcases Nat.lt_or_ge (p i) q with h | h
      · exact h
      · exact absurd ⟨i, hi, h⟩ ho
    have e : lp f p q = dt q f * sp q (fun i => (p i : Int)) := by
      rw [lp_dt]
      have : sp q (fun i => (p i : Int)) = dt q (flip fun i j => if (p i : Int) = (j : Int) then 1 else 0) := by rw [dt_flip]; rfl
      rw [this, ← dt_mul]
      refine dt_congr q fun a b ha hb => ?_
      show f a (p b) = sg q fun x => f a x * (if (p b : Int) = (x : Int) then 1 else 0)
      rw [sg_one (k := p b) (hp b hb) fun x hx hne => by rw [if_neg (by omega), Int.mul_zero], if_pos rfl, Int.mul_one]
    have h0 : lp f p q ≠ 0 := by
      rcases q with _ | q
      · show (1 : Int) ≠ 0; decide
      · exact hz q (by omega)
    rcases sp_sq (n := q) (fun i => (p i : Int)) with h | h
    · rw [h, Int.mul_zero] at e; exact absurd e h0
    · rw [e]; grind

theorem bd_ab {f : Nat → Nat → Int} {p : Nat → Nat} {t k : Nat} {M : Int} {r c : Nat} (hM : 0 ≤ M) (h : ∀ i j, i < r → j < c → ab (f i j) ≤ M) (ht : t ≤ k) (hk : k < r) (hp : ∀ i, i < t → p i < c) {j : Nat} (hj : j < c) : ab (bd f p t k j) ≤ fb M (t + 1) := by
  refine dt_ab hM _ _ fun a b ha hb => h _ _ ?_ ?_
  · unfold bk; split <;> omega
  · unfold bj
    by_cases e : b < t
    · rw [if_pos e]; exact hp b e
    · rw [if_neg e]; exact hj
theorem fb_nine {n : Nat} (h : n ≤ 5) : fb 9 n ≤ 7085880 := by
  have : n = 0 ∨ n = 1 ∨ n = 2 ∨ n = 3 ∨ n = 4 ∨ n = 5 := by omega
  rcases this with e | e | e | e | e | e <;> rw [e] <;> decide +kernel
/-- Only the pivots so far count. -/
theorem bd_congr {f : Nat → Nat → Int} {p p' : Nat → Nat} {t : Nat} (h : ∀ i, i < t → p i = p' i) (k j : Nat) : bd f p t k j = bd f p' t k j := by
  unfold bd
  refine dt_congr _ fun a b ha hb => ?_
  have : bj t p j b = bj t p' j b := by
    unfold bj
    by_cases e : b < t
    · rw [if_pos e, if_pos e, h b e]
    · rw [if_neg e, if_neg e]
  rw [this]
theorem lp_congr {f : Nat → Nat → Int} {p p' : Nat → Nat} {t : Nat} (h : ∀ i, i < t → p i = p' i) : lp f p t = lp f p' t := by
  rcases t with _ | t
  · rfl
  · show bd f p t t (p t) = bd f p' t t (p' t)
    rw [bd_congr (fun i hi => h i (by omega)), h t (by omega)]

def upd (p : Nat → Nat) (k q : Nat) : Nat → Nat := fun i => if i = k then q else p i
theorem upd_lt {p : Nat → Nat} {k q i : Nat} (h : i < k) : upd p k q i = p i := by unfold upd; rw [if_neg (by omega)]
theorem upd_self (p : Nat → Nat) (k q : Nat) : upd p k q k = q := by unfold upd; rw [if_pos rfl]
theorem bd_upd {f : Nat → Nat → Int} {p : Nat → Nat} {k q t : Nat} (h : t ≤ k) (r j : Nat) : bd f (upd p k q) t r j = bd f p t r j := bd_congr (fun i hi => upd_lt (by omega)) r j
theorem lp_upd {f : Nat → Nat → Int} {p : Nat → Nat} {k q t : Nat} (h : t ≤ k) : lp f (upd p k q) t = lp f p t := lp_congr fun i hi => upd_lt (by omega)
theorem lp_next (f : Nat → Nat → Int) (p : Nat → Nat) (k q : Nat) : lp f (upd p k q) (k + 1) = bd f p k k q := by
  show bd f (upd p k q) k k (upd p k q k) = _
  rw [bd_upd (Nat.le_refl k), upd_self]
/-- The first k steps: the column that each took, the first that has not 0. -/
structure El (n : Nat) (x : Nat → Nat → Int) (p : Nat → Nat) (k : Nat) : Prop where
  lt : ∀ i, i < k → p i < n
  nz : ∀ i, i < k → lp x p (i + 1) ≠ 0
  first : ∀ i, i < k → ∀ j, j < p i → bd x p i i j = 0
theorem El.start (n : Nat) (x : Nat → Nat → Int) (p : Nat → Nat) : El n x p 0 := ⟨fun i hi => absurd hi (by omega), fun i hi => absurd hi (by omega), fun i hi => absurd hi (by omega)⟩
theorem El.next {n : Nat} {x : Nat → Nat → Int} {p : Nat → Nat} {k q : Nat} (h : El n x p k) (hq : q < n) (h1 : bd x p k k q ≠ 0) (h2 : ∀ j, j < q → bd x p k k j = 0) : El n x (upd p k q) (k + 1) := by
  refine ⟨fun i hi => ?_, fun i hi => ?_, fun i hi j hj => ?_⟩
  · by_cases e : i = k
    · rw [e, upd_self]; exact hq
    · rw [upd_lt (by omega)]; exact h.lt i (by omega)
  · by_cases e : i = k
    · rw [e, lp_next]; exact h1
    · rw [lp_upd (by omega)]; exact h.nz i (by omega)
  · by_cases e : i = k
    · rw [e, bd_upd (Nat.le_refl k)]
      rw [e, upd_self] at hj
      exact h2 j hj
    · rw [bd_upd (by omega)]
      rw [upd_lt (by omega)] at hj
      exact h.first i (by omega) j hj
theorem El.ne {n : Nat} {x : Nat → Nat → Int} {p : Nat → Nat} {k : Nat} (h : El n x p k) {t : Nat} (ht : t ≤ k) : lp x p t ≠ 0 := by
  rcases t with _ | t
  · show (1 : Int) ≠ 0; decide
  · exact h.nz t (by omega)
theorem El.lead {n : Nat} {x : Nat → Nat → Int} {p : Nat → Nat} {k : Nat} (h : El n x p k) : sp k (fun i => (p i : Int)) * lp x p k = dt k x := lead_lp h.nz h.first
theorem El.null {n : Nat} {x : Nat → Nat → Int} {p : Nat → Nat} {k : Nat} (h : El n x p k) (hz : ∀ j, j < n → bd x p k k j = 0) {q : Nat} (hk : k < q) (hq : q ≤ n) : dt q x = 0 :=
  bd_null hk (h.ne (Nat.le_refl k)) fun j hj => hz j (by omega)
theorem El.step {n : Nat} {x : Nat → Nat → Int} {p : Nat → Nat} {k : Nat} (h : El n x p k) {t : Nat} (ht : t < k) (r j : Nat) :
    (bd x p t r j * bd x p t t (p t) - bd x p t r (p t) * bd x p t t j).tdiv (lp x p t) = bd x p (t + 1) r j := step_bd (fun i hi => h.nz i (by omega)) r j
theorem El.bound {n : Nat} {x : Nat → Nat → Int} {p : Nat → Nat} {k : Nat} (h : El n x p k) (h5 : n ≤ 5) (hx : ∀ i j, i < n → j < n → ab (x i j) ≤ 9) {t r : Nat} (ht : t ≤ k) (hr : t ≤ r) (hr2 : r < n) {j : Nat} (hj : j < n) : -7085880 ≤ bd x p t r j ∧ bd x p t r j ≤ 7085880 := by
  have h1 := bd_ab (f := x) (p := p) (t := t) (k := r) (M := 9) (by omega) hx hr hr2 (fun i hi => h.lt i (by omega)) hj
  have h2 := fb_nine (n := t + 1) (by omega)
  unfold ab at h1
  omega
theorem dt_bound {n : Nat} {x : Nat → Nat → Int} (h5 : n ≤ 5) (hx : ∀ i j, i < n → j < n → ab (x i j) ≤ 9) {q : Nat} (hq : q ≤ n) : -7085880 ≤ dt q x ∧ dt q x ≤ 7085880 := by
  have h1 := dt_ab (M := 9) (by omega) q x fun i j hi hj => hx i j (by omega) (by omega)
  have h2 := fb_nine (n := q) (by omega)
  unfold ab at h1
  omega

end Go.Proofs.Ytbdpcpodmmhjaaa.Zx

/- Contracts of package bareiss, first part: checkRow, Check; good matrices of whole numbers. -/
namespace Go.Proofs.Ytbdpcpodmmhjaaa
open Go.ChangeShapes Go.WideShapes Go.ChangeAt Go.RowKit
set_option linter.unusedVariables false

theorem qcode_is {most c : Nat} {lo hi : Int} {m : List (List Int)} (h : Mx.mcode most lo hi m = c) (hc : c ≠ 0) : qcode most lo hi m = c := by
  rw [qcode_bad (by omega), h]

/-- A square matrix of small whole numbers. -/
structure Shz (n : Nat) (x : Nat → Nat → Int) (m : List (List Int)) : Prop where
  eq : m = Mx.tab n n x
  n0 : 0 < n
  n5 : n ≤ 5
  ab : ∀ i j, i < n → j < n → -9 ≤ x i j ∧ x i j ≤ 9
theorem Shz.len {n : Nat} {x : Nat → Nat → Int} {m : List (List Int)} (h : Shz n x m) : m.length = n := by rw [h.eq, Mx.len_tab]
theorem shz_or (m : List (List Int)) {n : Nat} (hn : m.length = n) : (∃ x, Shz n x m) ∨ qcode 5 (-9) 9 m ≠ 0 := by
  by_cases h : qcode 5 (-9) 9 m = 0
  · left
    have hm : Mx.mcode 5 (-9) 9 m = 0 ∧ m.length = (m.getD 0 []).length := by
      unfold qcode at h
      by_cases h0 : Mx.mcode 5 (-9) 9 m = 0 ∧ m.length ≠ (m.getD 0 []).length
      · rw [if_pos h0] at h; cases h
      · rw [if_neg h0] at h
        exact ⟨h, Classical.byContradiction fun e => h0 ⟨h, e⟩⟩
    obtain ⟨h1, h2⟩ := hm
    unfold Mx.mcode at h1
    by_cases c1 : m.length = 0 ∨ (m.getD 0 []).length = 0
    · rw [if_pos c1] at h1; cases h1
    rw [if_neg c1] at h1
    by_cases c2 : 5 < m.length ∨ 5 < (m.getD 0 []).length
    · rw [if_pos c2] at h1; cases h1
    rw [if_neg c2] at h1
    have hr := Mx.rows_zero h1
    have hl : ∀ i, i < m.length → (m.getD i []).length = n := fun i hi => by rw [(Mx.rcode_zero (hr i hi)).1, ← h2, hn]
    refine ⟨fun i j => (m.getD i []).getD j 0, ⟨?_, by omega, by omega, fun i j hi hj => ?_⟩⟩
    · have := Mx.is_tab hl
      rw [hn] at this
      exact this
    · exact (Mx.rcode_zero (hr i (by omega))).2 j (by rw [hl i (by omega)]; exact hj)
  · exact .inr h
theorem Shz.code {n : Nat} {x : Nat → Nat → Int} {m : List (List Int)} (h : Shz n x m) : qcode 5 (-9) 9 m = 0 := by
  obtain ⟨rfl, h0, h5, hab⟩ := h
  have e0 : ((Mx.tab n n x).getD 0 []).length = n := Mx.tab_len n n x 0 h0
  have hm : Mx.mcode 5 (-9) 9 (Mx.tab n n x) = 0 := by
    unfold Mx.mcode
    rw [Mx.len_tab, e0, if_neg (by omega), if_neg (by omega)]
    refine Mx.rows_ok fun i hi => ?_
    rw [Mx.len_tab] at hi
    refine Mx.rcode_ok (Mx.tab_len n n x i hi) fun k hk => ?_
    rw [Mx.tab_len n n x i hi] at hk
    rw [Mx.tab_el n n x i k hi hk]
    exact hab i k hi hk
  unfold qcode
  rw [if_neg (fun h => h.2 (by rw [Mx.len_tab, e0])), hm]
theorem Shz.nine {n : Nat} {x : Nat → Nat → Int} {m : List (List Int)} (h : Shz n x m) : ∀ i j, i < n → j < n → Zx.ab (x i j) ≤ 9 := fun i j hi hj => by
  have := h.ab i j hi hj
  unfold Zx.ab; omega

set_option maxRecDepth 100000 in
set_option maxHeartbeats 800000 in
theorem BRow_any (A : Option Addr) (l : List Int) (n d c : Nat) (w : World) (ha : Lies w A l) (hn : l.length = n) (hb : c ≤ 1000) :
    Calls Try.prog 35 #[.slice A n d, .int .i64 (c : Int)] w fun e w' => e = .returned (errOf (Mx.rcode (-9) 9 c l)) ∧ w = w' := by
  have HA := Lib.hid ha
  have HN := Lib.hid hn
  obtain ⟨v, hv⟩ : ∃ v, v = Mx.rcode (-9) 9 c l := ⟨_, rfl⟩
  by_cases hc : n = c
  · subst hc
    have RNG := Lib.hid (fun (k : Nat) (hk : k < n) h2 => hv.trans (Mx.rcode_bad hn (k := k) (by omega) h2))
    have OKS := Lib.hid (fun h2 => hv.trans (Mx.rcode_ok (lo := -9) (hi := 9) hn h2))
    rw [← hv]
    have e1 : ((n : Int) != (n : Int)) = false := by simp
    clear ha hn hv
    go_enter Try.func35, Try.ntmps35
    go_wp2_with fail
    go_loop [14] (fun i => ∃ k : Nat, k ≤ n ∧ i = .int .i64 (k : Int) ∧ ∀ j, j < k → -9 ≤ l.getD j 0 ∧ l.getD j 0 ≤ 9) (fun i => n - (intOf i).toNat)
    case atStart => exact ⟨0, Nat.zero_le _, rfl, fun j hj => absurd hj (by omega)⟩
    case round =>
      obtain ⟨k, hk, rfl, hg⟩ := hrel
      have HG := Lib.hid hg
      clear hg
      by_cases hlt : k < n
      · obtain ⟨ad, rfl, _, hcx⟩ := HA.out k (by have := HN.out; omega)
        obtain ⟨x, hx⟩ : ∃ x, x = l.getD k 0 := ⟨_, rfl⟩
        rw [← hx] at hcx
        by_cases x0 : x < -9
        · have E := Lib.hid (RNG.out k hlt (by rw [← hx]; omega))
          clear hx
          go_wp2_with fail
          go_ret
          exact ⟨by rw [E.out]; rfl, rfl⟩
        · by_cases x1 : 9 < x
          · have E := Lib.hid (RNG.out k hlt (by rw [← hx]; omega))
            clear hx
            go_wp2_with fail
            go_ret
            exact ⟨by rw [E.out]; rfl, rfl⟩
          · have GG := Lib.hid (show ∀ j, j < k + 1 → -9 ≤ l.getD j 0 ∧ l.getD j 0 ≤ 9 from fun j hj => by
              by_cases e : j = k
              · subst e; rw [← hx]; omega
              · exact HG.out j (by omega))
            clear hx
            go_wp2_with fail
            go_round
            case rel => exact ⟨k + 1, by omega, by go_num, GG.out⟩
            case measure => simp [intOf]; omega
      · have E := Lib.hid (OKS.out (fun j hj => HG.out j (by have := HN.out; omega)))
        go_wp2_with fail
        go_ret
        exact ⟨by rw [E.out]; rfl, rfl⟩
  · have E := Lib.hid (hv.trans (Mx.rcode_len (lo := -9) (hi := 9) (by omega : l.length ≠ c)))
    rw [← hv]
    have e1 : ((n : Int) != (c : Int)) = true := by rw [bne_iff_ne]; omega
    clear ha hn hv hc
    go_enter Try.func35, Try.ntmps35
    go_wp2_with fail
    go_ret
    exact ⟨by rw [E.out]; rfl, rfl⟩

/-- The first k rows have no fault. -/
def rowsZ (lo hi : Int) (m : List (List Int)) (k : Nat) : Prop := Mx.rows lo hi (m.getD 0 []).length m = Mx.rows lo hi (m.getD 0 []).length (m.drop k)
theorem rowsZ_go {lo hi : Int} {m : List (List Int)} {k : Nat} (hk : k < m.length) (h : rowsZ lo hi m k) (h0 : Mx.rcode lo hi (m.getD 0 []).length (m.getD k []) = 0) : rowsZ lo hi m (k + 1) := by
  unfold rowsZ at *
  rw [h, Mx.rows_drop hk, if_pos h0]

set_option maxRecDepth 100000 in
set_option maxHeartbeats 1600000 in
theorem BChk_main (A : Option Addr) (m : List (List Int)) (n d q : Nat) (w : World) (ha : LiesM w A m) (hn : m.length = n) (hq : (m.getD 0 []).length = q) (h1 : 0 < n) (h2 : n ≤ 5) (h3 : 0 < q) (h4 : q ≤ 5) :
    Calls Try.prog 28 #[.slice A n d] w fun e w' => e = .returned (errOf (qcode 5 (-9) 9 m)) ∧ w = w' := by
  have hm : Mx.mcode 5 (-9) 9 m = Mx.rows (-9) 9 (m.getD 0 []).length m := by
    unfold Mx.mcode
    rw [if_neg (by omega), if_neg (by omega)]
  obtain ⟨v, hv⟩ : ∃ v, v = Mx.rows (-9) 9 (m.getD 0 []).length m := ⟨_, rfl⟩
  have QV := Lib.hid (show qcode 5 (-9) 9 m = if v = 0 ∧ n ≠ q then 3 else v by unfold qcode; rw [hm, ← hv, hn, hq])
  obtain ⟨qv, hqv⟩ : ∃ qv, qv = qcode 5 (-9) 9 m := ⟨_, rfl⟩
  rw [← hqv] at QV ⊢
  have hg0 : rowsZ (-9) 9 m 0 := by unfold rowsZ; rw [List.drop_zero]
  have RNG := Lib.hid (fun (k : Nat) (hk : k < n) (hg : rowsZ (-9) 9 m k) (h0 : Mx.rcode (-9) 9 q (m.getD k []) ≠ 0) => show v = Mx.rcode (-9) 9 q (m.getD k []) by
    unfold rowsZ at hg
    rw [hv, hg, Mx.rows_drop (by omega), hq, if_neg h0])
  have OKS := Lib.hid (fun (hg : rowsZ (-9) 9 m n) => show v = 0 by
    unfold rowsZ at hg
    rw [hv, hg, Mx.rows_end (by omega)])
  have STP := Lib.hid (fun (k : Nat) (hk : k < n) (hg : rowsZ (-9) 9 m k) (h0 : Mx.rcode (-9) 9 q (m.getD k []) = 0) => rowsZ_go (by omega) hg (by rw [hq]; exact h0))
  obtain ⟨ad, A0, d0, rfl, _, hc0, _, hr0⟩ := ha 0 (by omega)
  rw [hq] at hc0
  rw [add_zero'] at hc0
  have HA := Lib.hid ha
  have HN := Lib.hid hn
  have G0 := Lib.hid hg0
  have e0 : ((n : Int) == 0) = false := by rw [beq_eq_false_iff_ne]; omega
  have e1 : ((q : Int) == 0) = false := by rw [beq_eq_false_iff_ne]; omega
  have e2 : ¬ (5 : Int) < n := by omega
  have e3 : ¬ (5 : Int) < q := by omega
  clear ha hn hg0 hm hv hq hr0 hqv
  go_enter Try.func28, Try.ntmps28
  go_wp2_with fail
  go_loop [30] (fun i => ∃ k : Nat, k ≤ n ∧ i = .int .i64 (k : Int) ∧ rowsZ (-9) 9 m k) (fun i => n - (intOf i).toNat)
  case atStart => exact ⟨0, Nat.zero_le _, rfl, G0.out⟩
  case round =>
    obtain ⟨k, hk, rfl, hg⟩ := hrel
    have HG := Lib.hid hg
    clear hg
    by_cases hlt : k < n
    · obtain ⟨ad', A1, d1, ea, _, hc1, _, hr1⟩ := HA.out k (by have := HN.out; omega)
      obtain rfl := Option.some.inj ea
      have CR := Lib.hid (BRow_any A1 (m.getD k []) _ d1 q w hr1 rfl (by omega))
      obtain ⟨p, hp⟩ : ∃ p, p = (m.getD k []).length := ⟨_, rfl⟩
      rw [← hp] at hc1 CR
      by_cases h0 : Mx.rcode (-9) 9 q (m.getD k []) = 0
      · have ST := Lib.hid (STP.out k hlt HG.out h0)
        rw [h0] at CR
        clear hr1 hp h0
        go_wp2_with fail
        refine (CR.out).mono ?_; rintro e w' ⟨rfl, rfl⟩
        rw [errOf_zero]
        go_wp2_with fail
        go_round
        case rel => exact ⟨k + 1, by omega, by go_num, ST.out⟩
        case measure => simp [intOf]; omega
      · have E := Lib.hid (RNG.out k hlt HG.out h0)
        rw [errOf_ne _ h0] at CR
        have E2 := Lib.hid (show errOf qv = .iface 39 (.int .i64 ((Mx.rcode (-9) 9 q (m.getD k []) : Nat) : Int)) by rw [QV.out, if_neg (fun h => h0 (E.out.symm.trans h.1)), E.out, errOf_ne _ h0])
        generalize Mx.rcode (-9) 9 q (m.getD k []) = z at *
        clear hr1 hp h0
        go_wp2_with fail
        refine (CR.out).mono ?_; rintro e w' ⟨rfl, rfl⟩
        go_wp2_with fail
        go_ret
        exact ⟨by rw [E2.out]; rfl, rfl⟩
    · have E := Lib.hid (OKS.out (by have h : k = n := by omega
                                     rw [← h]; exact HG.out))
      by_cases hq : n = q
      · subst hq
        have e4 : ((n : Int) != (n : Int)) = false := by simp
        go_wp2_with fail
        go_ret
        exact ⟨by rw [QV.out, E.out, if_neg (fun h => h.2 rfl)]; rfl, rfl⟩
      · have e4 : ((n : Int) != (q : Int)) = true := by rw [bne_iff_ne]; omega
        have E3 := Lib.hid (show qv = 3 by rw [QV.out, if_pos ⟨E.out, hq⟩])
        clear hq
        go_wp2_with fail
        go_ret
        exact ⟨by rw [E3.out]; rfl, rfl⟩

set_option maxHeartbeats 800000 in
theorem BChk_any (A : Option Addr) (m : List (List Int)) (n d : Nat) (w : World) (ha : LiesM w A m) (hn : m.length = n) :
    Calls Try.prog 28 #[.slice A n d] w fun e w' => e = .returned (errOf (qcode 5 (-9) 9 m)) ∧ w = w' := by
  by_cases h1 : n = 0
  · have hm : qcode 5 (-9) 9 m = 5 := by rw [qcode_is (c := 5) (by unfold Mx.mcode; rw [if_pos (by omega)]) (by omega)]
    rw [hm]
    subst h1
    clear hm ha hn
    go_enter Try.func28, Try.ntmps28
    go_wp2
    go_ret
    exact ⟨rfl, rfl⟩
  obtain ⟨ad, A0, d0, rfl, _, hc0, _, hr0⟩ := ha 0 (by omega)
  rw [add_zero'] at hc0
  obtain ⟨q, hq⟩ : ∃ q, q = (m.getD 0 []).length := ⟨_, rfl⟩
  rw [← hq] at hc0
  have e0 : ((n : Int) == 0) = false := by rw [beq_eq_false_iff_ne]; omega
  have hn0 : (0 : Int) < n := by omega
  by_cases h2 : q = 0
  · have hm : qcode 5 (-9) 9 m = 5 := by rw [qcode_is (c := 5) (by unfold Mx.mcode; rw [if_pos (by omega)]) (by omega)]
    rw [hm]
    subst h2
    clear hm ha hn hr0 h1 hq
    go_enter Try.func28, Try.ntmps28
    go_wp2
    go_ret
    exact ⟨rfl, rfl⟩
  have e1 : ((q : Int) == 0) = false := by rw [beq_eq_false_iff_ne]; omega
  by_cases h3 : 5 < n
  · have hm : qcode 5 (-9) 9 m = 4 := by rw [qcode_is (c := 4) (by unfold Mx.mcode; rw [if_neg (by omega), if_pos (by omega)]) (by omega)]
    rw [hm]
    have e3 : (5 : Int) < n := by omega
    clear hm ha hn hr0 h1 hq h2 h3
    go_enter Try.func28, Try.ntmps28
    go_wp2
    go_ret
    exact ⟨rfl, rfl⟩
  by_cases h4 : 5 < q
  · have hm : qcode 5 (-9) 9 m = 4 := by rw [qcode_is (c := 4) (by unfold Mx.mcode; rw [if_neg (by omega), if_pos (by omega)]) (by omega)]
    rw [hm]
    have e3 : ¬ (5 : Int) < n := by omega
    have e4 : (5 : Int) < q := by omega
    clear hm ha hn hr0 h1 hq h2 h3 h4
    go_enter Try.func28, Try.ntmps28
    go_wp2
    go_ret
    exact ⟨rfl, rfl⟩
  exact BChk_main (some ad) m n d q w ha hn hq.symm (by omega) (by omega) (by omega) (by omega)


end Go.Proofs.Ytbdpcpodmmhjaaa

/- slices.Clone of a row of numbers, for all packages. -/
namespace Go.Proofs.Ytbdpcpodmmhjaaa
open Go.ChangeShapes Go.WideShapes Go.ChangeAt Go.RowKit
set_option linter.unusedVariables false

theorem sclone_any (A : Option Addr) (l : List Int) (c : Nat) (w : World) (hl : Lies w A l) (hn : l.length ≤ 1000000) :
    Calls Try.prog 29 #[.slice A l.length c] w fun e w' => SomeRow l w e w' := by
  have HL := Lib.hid hl
  have q22 : ∀ (w : World) (a : Option Addr) (n c n' c' : Nat), (binOp .eql 22 (.slice a n c) (.slice none n' c')).run Try.prog w = .ok (.bool a.isNone) w := fun w a n c n' c' => Lib.run_eql_slice_nil w _ _ a n c n' c' Try.underlying22
  rcases A with _ | ad
  · obtain rfl : l = [] := by
      rcases Nat.eq_zero_or_pos l.length with h0 | h0
      · exact List.eq_nil_of_length_eq_zero h0
      · obtain ⟨ad, h, _⟩ := hl 0 h0; cases h
    clear hl
    go_enter Try.func29, Try.ntmps29
    go_wp2_with fail
    go_ret
    exact ⟨_, rfl, Own.none _ _, Kp.rfl' _⟩
  · clear hl
    have hm : Own (w.alloc (.cells #[] 3)) w.heap.size (.slice (some ⟨w.heap.size, 0, none⟩) 0 0) [] := World.ownsRow_made w #[] 0 (Nat.le_refl _) (Nat.zero_le _) rfl
    have HM := Lib.hid hm
    have HK := Lib.hid ((Kp.rfl' w).new (.cells #[] 3))
    clear hm
    go_enter Try.func29, Try.ntmps29
    go_wp2_with (at_builtin; refine wpList_cat rfl _ _ rfl w.heap.size _ [] l (some ad) l.length c rfl rfl rfl HM.out (HL.out.keep HK.out) (by simp; omega) (by simp) ?_; intro v' w' h1 h2 _)
    have HO := Lib.hid h1
    have HK' := Lib.hid (own_below HM.out HK.out (by simp) h2)
    clear h1 h2
    go_wp2_with fail
    go_ret
    exact ⟨v', rfl, HO.out, HK'.out⟩

end Go.Proofs.Ytbdpcpodmmhjaaa

/- Contracts of package bareiss, second part: the first number that is not 0, the function that a pivot makes, and a step that calls it. -/
namespace Go.Proofs.Ytbdpcpodmmhjaaa
open Go.ChangeShapes Go.WideShapes Go.ChangeAt Go.RowKit
set_option linter.unusedVariables false

set_option maxRecDepth 100000 in
theorem nz_any (x : Int) (w : World) :
    Calls Try.prog 31 #[.int .i64 x] w fun e w' => e = .returned (.bool (x != 0)) ∧ w = w' := by
  go_enter Try.func31, Try.ntmps31
  go_wp2_with fail
  go_ret
  exact ⟨rfl, rfl⟩

set_option maxRecDepth 100000 in
set_option maxHeartbeats 1600000 in
/-- The first number that is not 0. -/
theorem idx_any (A : Option Addr) (l : List Int) (n d : Nat) (w : World) (hl : Lies w A l) (hn : l.length = n) (hb : n ≤ 1000) :
    Calls Try.prog 30 #[.slice A n d, .func (.func 31) #[] #[]] w fun e w' =>
      ((∃ k : Nat, k < n ∧ l.getD k 0 ≠ 0 ∧ (∀ j, j < k → l.getD j 0 = 0) ∧ e = .returned (.int .i64 (k : Int))) ∨ ((∀ j, j < n → l.getD j 0 = 0) ∧ e = .returned (.int .i64 (-1)))) ∧ w = w' := by
  have HL := Lib.hid hl
  have HN := Lib.hid hn
  clear hl hn
  go_enter Try.func30, Try.ntmps30
  go_wp2_with fail
  go_loop [8] (fun j => ∃ k : Nat, k ≤ n ∧ j = .int .i64 (k : Int) ∧ ∀ t, t < k → l.getD t 0 = 0) (fun j => n - (intOf j).toNat)
  case atStart => exact ⟨0, Nat.zero_le _, rfl, fun t ht => absurd ht (by omega)⟩
  case round =>
    obtain ⟨k, hk, rfl, hz⟩ := hrel
    have HZ := Lib.hid hz
    clear hz
    by_cases hlt : k < n
    · obtain ⟨ad, rfl, _, x1⟩ := HL.out k (by have := HN.out; omega)
      obtain ⟨x, hx⟩ : ∃ x, x = l.getD k 0 := ⟨_, rfl⟩
      rw [← hx] at x1
      have HX := Lib.hid hx
      have M := Lib.hid (fun w => nz_any x w)
      clear hx
      by_cases h0 : x = 0
      · rw [h0] at x1 M
        rw [show ((0 : Int) != 0) = false from rfl] at M
        have HZ2 := Lib.hid (show ∀ t, t < k + 1 → l.getD t 0 = 0 from fun t ht => by
          by_cases e : t = k
          · rw [e, ← HX.out]; exact h0
          · exact HZ.out t (by omega))
        clear h0
        go_wp2_with fail
        refine (M.out _).mono ?_; rintro e w' ⟨rfl, rfl⟩
        go_wp2_with fail
        go_round
        case rel => exact ⟨k + 1, by omega, by go_num, HZ2.out⟩
        case measure => simp [intOf]; omega
      · have HQ := Lib.hid (show l.getD k 0 ≠ 0 by rw [← HX.out]; exact h0)
        rw [show (x != 0) = true by rw [bne_iff_ne]; exact h0] at M
        clear h0
        go_wp2_with fail
        refine (M.out _).mono ?_; rintro e w' ⟨rfl, rfl⟩
        go_wp2_with fail
        go_ret
        exact ⟨.inl ⟨k, hlt, HQ.out, HZ.out, rfl⟩, rfl⟩
    · obtain rfl : k = n := by omega
      go_wp2_with fail
      go_ret
      exact ⟨.inr ⟨HZ.out, rfl⟩, rfl⟩

set_option maxRecDepth 100000 in
theorem elim_any (A : Option Addr) (n c : Nat) (pv last : Int) (w : World) :
    Calls Try.prog 32 #[.slice A n c, .int .i64 pv, .int .i64 last] w fun e w' =>
      ∃ P R L, e = .returned (.func (.func 36) #[] #[.pointer (some ⟨P, 0, none⟩), .pointer (some ⟨R, 0, none⟩), .pointer (some ⟨L, 0, none⟩)]) ∧
        (w.heap.size ≤ P ∧ w.heap.size ≤ R ∧ w.heap.size ≤ L) ∧ w'.cell? ⟨P, 0, none⟩ = some (.int .i64 pv) ∧ w'.cell? ⟨R, 0, none⟩ = some (.slice A n c) ∧ w'.cell? ⟨L, 0, none⟩ = some (.int .i64 last) ∧ Kp w w' := by
  go_enter Try.func32, Try.ntmps32
  go_wp2_with fail
  go_ret
  have s1 : (w.alloc (.cells #[.slice A n c] 22)).heap.size = w.heap.size + 1 := by simp
  have s2 : ((w.alloc (.cells #[.slice A n c] 22)).alloc (.cells #[.int .i64 pv] 3)).heap.size = w.heap.size + 1 + 1 := by simp
  refine ⟨w.heap.size + 1, w.heap.size, w.heap.size + 1 + 1, rfl, ⟨by omega, by omega, by omega⟩, ?_, ?_, ?_, (((Kp.rfl' w).new _).new _).new _⟩
  · have k3 : Kp ((w.alloc (.cells #[.slice A n c] 22)).alloc (.cells #[.int .i64 pv] 3)) _ := (Kp.rfl' _).new (.cells #[.int .i64 last] 3)
    exact (k3.cell (p := ⟨w.heap.size + 1, 0, none⟩) (by rw [s2]; show w.heap.size + 1 < _; omega)).trans (cell_made _ _ _ _ 0 s1.symm)
  · have k3 : Kp (w.alloc (.cells #[.slice A n c] 22)) _ := ((Kp.rfl' _).new (.cells #[.int .i64 pv] 3)).new (.cells #[.int .i64 last] 3)
    exact (k3.cell (p := ⟨w.heap.size, 0, none⟩) (by rw [s1]; show w.heap.size < _; omega)).trans (cell_made _ _ _ _ 0 rfl)
  · exact cell_made _ _ _ _ 0 s2.symm

/-- The function that a pivot made: its boxes, and the row that it stands over. -/
structure StepAt (w : World) (u : Value) (P R L Z n c pv : Nat) (last : Int) (by' : Nat → Int) : Prop where
  fn : u = .func (.func 36) #[] #[.pointer (some ⟨P, 0, none⟩), .pointer (some ⟨R, 0, none⟩), .pointer (some ⟨L, 0, none⟩)]
  piv : w.cell? ⟨P, 0, none⟩ = some (.int .i64 (pv : Int))
  row : w.cell? ⟨R, 0, none⟩ = some (.slice (some ⟨Z, 0, none⟩) n c)
  last : w.cell? ⟨L, 0, none⟩ = some (.int .i64 last)
  el : ∀ j, j < n → w.cell? ⟨Z, j, none⟩ = some (.int .i64 (by' j))

theorem mul_within (a b : Int) (ha : -7085880 ≤ a ∧ a ≤ 7085880) (hb : -7085880 ≤ b ∧ b ≤ 7085880) : -50209695374400 ≤ a * b ∧ a * b ≤ 50209695374400 := by
  have h : (a * b).natAbs ≤ 7085880 * 7085880 := by
    rw [Int.natAbs_mul]
    exact Nat.mul_le_mul (by omega) (by omega)
  omega
theorem quo_in {a b : Int} (h1 : -9000000000000000000 ≤ a) (h2 : a ≤ 9000000000000000000) : IntKind.i64.wrap (a.tdiv b) = a.tdiv b := by
  refine IntWalk.i64_in _ ?_
  have h := Int.natAbs_tdiv_le_natAbs a b
  omega

set_option maxRecDepth 100000 in
set_option maxHeartbeats 1600000 in
theorem step_any (u : Value) (P R L Z n c pv : Nat) (last : Int) (by' y : Nat → Int) (w : World) (B z cz : Nat) (hs : StepAt w u P R L Z n c pv last by') (ho : Own w B (.slice (some ⟨z, 0, none⟩) n cz) (Mx.row n y))
    (hP : P ≠ z) (hR : R ≠ z) (hL : L ≠ z) (hZ : Z ≠ z) (hpv : pv < n) (hn : n ≤ 1000) (h0 : last ≠ 0) (hy : ∀ j, j < n → -7085880 ≤ y j ∧ y j ≤ 7085880) (hb : ∀ j, j < n → -7085880 ≤ by' j ∧ by' j ≤ 7085880) :
    Calls Try.prog 36 #[.slice (some ⟨z, 0, none⟩) n cz, .pointer (some ⟨P, 0, none⟩), .pointer (some ⟨R, 0, none⟩), .pointer (some ⟨L, 0, none⟩)] w fun e w' =>
      e = .returned (.tuple #[]) ∧ Own w' B (.slice (some ⟨z, 0, none⟩) n cz) (Mx.row n fun j => (y j * by' pv - y pv * by' j).tdiv last) ∧ ∀ a : World, a.heap.size ≤ z → Kp a w → Kp a w' := by
  have HO := Lib.hid ho
  have x1 := hs.piv
  have x2 := own_cell ho pv (by rw [Mx.len_row]; exact hpv)
  rw [Mx.row_at _ _ _ hpv] at x2
  have HS := Lib.hid hs
  have HY := Lib.hid hy
  have HB := Lib.hid hb
  obtain ⟨fa, hfa⟩ : ∃ fa, fa = y pv := ⟨_, rfl⟩
  have HF := Lib.hid hfa
  rw [← hfa] at x2
  have hfb : -7085880 ≤ fa ∧ fa ≤ 7085880 := by rw [hfa]; exact hy pv hpv
  have HFB := Lib.hid hfb
  clear ho hs hy hb hfa hfb
  go_enter Try.func36, Try.ntmps36
  go_wp2_with fail
  go_loopw [14] (fun i wr => ∃ k : Nat, k ≤ n ∧ i = .int .i64 (k : Int) ∧ Own wr B (.slice (some ⟨z, 0, none⟩) n cz) (Mx.row n fun j => if j < k then (y j * by' pv - fa * by' j).tdiv last else y j) ∧ StepAt wr u P R L Z n c pv last by' ∧ ∀ a : World, a.heap.size ≤ z → Kp a w → Kp a wr) (fun i _ => n - (intOf i).toNat)
  case atStart => exact ⟨0, Nat.zero_le _, rfl, by
    rw [show (Mx.row n fun j => if j < 0 then (y j * by' pv - fa * by' j).tdiv last else y j) = Mx.row n y from Mx.row_ext fun j _ => by rw [if_neg (by omega)]]
    exact HO.out, HS.out, fun a _ h => h⟩
  case round =>
    clear x1 x2
    obtain ⟨k, hk, rfl, ho, hs, hkp⟩ := hrel
    by_cases hlt : k < n
    · have x1 := hs.piv
      have x2 := hs.row
      have x3 := hs.last
      have x4 := hs.el pv hpv
      have x5 := hs.el k hlt
      have x6 := own_cell ho k (by rw [Mx.len_row]; exact hlt)
      have x7 := own_free ho k
      rw [Mx.row_at _ _ _ hlt, if_neg (by omega)] at x6
      have hyk := HY.out k hlt
      have hbp := HB.out pv hpv
      have hbk := HB.out k hlt
      have hfb := HFB.out
      have HO2 := Lib.hid ho
      have HS2 := Lib.hid hs
      have HK2 := Lib.hid hkp
      obtain ⟨yk, hyk'⟩ : ∃ v, v = y k := ⟨_, rfl⟩
      obtain ⟨bp, hbp'⟩ : ∃ v, v = by' pv := ⟨_, rfl⟩
      obtain ⟨bk, hbk'⟩ : ∃ v, v = by' k := ⟨_, rfl⟩
      rw [← hyk'] at x6 hyk
      rw [← hbp'] at x4 hbp
      rw [← hbk'] at x5 hbk
      have p1 := mul_within yk bp hyk hbp
      have p2 := mul_within fa bk hfb hbk
      have hw1 : IntKind.i64.wrap (yk * bp) = yk * bp := IntWalk.i64_in _ (by omega)
      have hw2 : IntKind.i64.wrap (fa * bk) = fa * bk := IntWalk.i64_in _ (by omega)
      have hw3 : IntKind.i64.wrap (yk * bp - fa * bk) = yk * bp - fa * bk := IntWalk.i64_in _ (by omega)
      have hw4 : IntKind.i64.wrap ((yk * bp - fa * bk).tdiv last) = (yk * bp - fa * bk).tdiv last := quo_in (by omega) (by omega)
      have e0 : (last == 0) = false := by rw [beq_eq_false_iff_ne]; exact h0
      have HQ := Lib.hid (show (yk * bp - fa * bk).tdiv last = (y k * by' pv - fa * by' k).tdiv last by rw [hyk', hbp', hbk'])
      clear ho hs hkp p1 p2 hyk' hbp' hbk' hyk hbp hbk hfb
      go_wp2_with fail
      go_still_tail 18, (by kernel_rfl)
      change wpList _ _ _ _ _ wr.drew
      go_wp2_with fail
      go_roundw
      case rel =>
        have hd := HS2.out
        refine ⟨k + 1, by omega, by go_num, ?_, ⟨hd.fn, ?_, ?_, ?_, fun j hj => ?_⟩, fun a ha hk0 => ((HK2.out a ha hk0).drewN 1).put (p := ⟨z, k, none⟩) ha _⟩
        · have := own_put (HO2.out.drewN 1) k ((yk * bp - fa * bk).tdiv last)
          rw [Mx.row_set] at this
          rw [show (Mx.row n fun j => if j < k + 1 then (y j * by' pv - fa * by' j).tdiv last else y j) = Mx.row n fun j => if j = k then (yk * bp - fa * bk).tdiv last else if j < k then (y j * by' pv - fa * by' j).tdiv last else y j from Mx.row_ext fun j _ => by
            by_cases e : j = k
            · rw [if_pos e, if_pos (by omega), e, HQ.out]
            · rw [if_neg e]
              by_cases e2 : j < k
              · rw [if_pos e2, if_pos (by omega)]
              · rw [if_neg e2, if_neg (by omega)]]
          exact this
        · exact (World.cell?_setCell_other (w := wr.drewN 1) (v := .int .i64 ((yk * bp - fa * bk).tdiv last)) (h := fun e => hP (by cases e; rfl))).trans hd.piv
        · exact (World.cell?_setCell_other (w := wr.drewN 1) (v := .int .i64 ((yk * bp - fa * bk).tdiv last)) (h := fun e => hR (by cases e; rfl))).trans hd.row
        · exact (World.cell?_setCell_other (w := wr.drewN 1) (v := .int .i64 ((yk * bp - fa * bk).tdiv last)) (h := fun e => hL (by cases e; rfl))).trans hd.last
        · exact (World.cell?_setCell_other (w := wr.drewN 1) (v := .int .i64 ((yk * bp - fa * bk).tdiv last)) (h := fun e => hZ (by cases e; rfl))).trans (hd.el j hj)
      case measure => simp [intOf]; omega
    · obtain rfl : k = n := by omega
      have HO2 := Lib.hid (show Own wr B (.slice (some ⟨z, 0, none⟩) k cz) (Mx.row k fun j => (y j * by' pv - y pv * by' j).tdiv last) by
        rw [← HF.out]
        rw [show (Mx.row k fun j => (y j * by' pv - fa * by' j).tdiv last) = Mx.row k fun j => if j < k then (y j * by' pv - fa * by' j).tdiv last else y j from Mx.row_ext fun j hj => by rw [if_pos hj]]
        exact ho)
      have HK2 := Lib.hid hkp
      clear ho hs hkp
      go_wp2_with fail
      go_end0
      exact ⟨rfl, HO2.out, HK2.out⟩

end Go.Proofs.Ytbdpcpodmmhjaaa

/- Plain facts for package det: how many numbers are not at their places; what a value is as a sign. No program is named here. -/
namespace Go.Proofs.Ytbdpcpodmmhjaaa.Mx
open Fp
set_option linter.unusedVariables false

/-- How many of the first n are not at their places. -/
def nf : Nat → (Nat → Int) → Nat
  | 0, _ => 0
  | n + 1, s => nf n s + if s n = (n : Int) then 0 else 1
theorem nf_le : ∀ (n : Nat) {s t : Nat → Int}, (∀ i, i < n → s i = (i : Int) → t i = (i : Int)) → nf n t ≤ nf n s
  | 0, _, _, _ => Nat.le_refl _
  | n + 1, s, t, h => by
    have h1 := nf_le n (s := s) (t := t) fun i hi => h i (by omega)
    show nf n t + (if t n = (n : Int) then 0 else 1) ≤ nf n s + if s n = (n : Int) then 0 else 1
    by_cases e : s n = (n : Int)
    · rw [if_pos e, if_pos (h n (by omega) e)]; omega
    · rw [if_neg e]; split <;> omega
theorem nf_lt : ∀ (n : Nat) {s t : Nat → Int} {m : Nat}, (∀ i, i < n → s i = (i : Int) → t i = (i : Int)) → m < n → s m ≠ (m : Int) → t m = (m : Int) → nf n t < nf n s
  | 0, _, _, m, _, hm, _, _ => absurd hm (by omega)
  | n + 1, s, t, m, h, hm, h1, h2 => by
    show nf n t + (if t n = (n : Int) then 0 else 1) < nf n s + if s n = (n : Int) then 0 else 1
    by_cases e : m = n
    · subst e
      have := nf_le m (s := s) (t := t) fun i hi => h i (by omega)
      rw [if_neg h1, if_pos h2]; omega
    · have := nf_lt n (s := s) (t := t) (m := m) (fun i hi => h i (by omega)) (by omega) h1 h2
      by_cases e : s n = (n : Int)
      · rw [if_pos e, if_pos (h n (by omega) e)]; omega
      · rw [if_neg e]; split <;> omega

theorem ofInt_neg (x : Int) : ofInt (-x) = -(ofInt x) := by
  have := ofInt_add x (-x)
  rw [show x + -x = 0 by omega, show ofInt 0 = 0 from rfl] at this
  grind
/-- x is 1, -1 or 0, and S in the field. -/
def SgnIs (S : F) (x : Int) : Prop := (x = 1 ∨ x = -1 ∨ x = 0) ∧ ofInt x = S
theorem SgnIs.one {S : F} {x y : Int} (h : SgnIs S x) (k : SgnIs S y) : x = y := by
  have e := h.2.trans k.2.symm
  have n1 : ofInt 1 ≠ ofInt (-1) := by decide
  have n2 : ofInt 1 ≠ ofInt 0 := by decide
  have n3 : ofInt (-1) ≠ ofInt 0 := by decide
  rcases h.1 with a | a | a <;> rcases k.1 with b | b | b <;> first | exact a.trans b.symm | (rw [a, b] at e; first | exact absurd e n1 | exact absurd e.symm n1 | exact absurd e n2 | exact absurd e.symm n2 | exact absurd e n3 | exact absurd e.symm n3)
theorem SgnIs.neg {S : F} {x : Int} (h : SgnIs S x) : SgnIs (-S) (-x) := by
  refine ⟨?_, by rw [ofInt_neg, h.2]⟩
  rcases h.1 with a | a | a <;> rw [a] <;> decide
theorem SgnIs.bound {S : F} {x : Int} (h : SgnIs S x) : -1 ≤ x ∧ x ≤ 1 := by rcases h.1 with a | a | a <;> omega
theorem tmod_F (x : Int) : ofInt (x.tmod 9973) = ofInt x := by
  have h := Int.mul_tdiv_add_tmod x 9973
  have h2 : ofInt x = ofInt (9973 * x.tdiv 9973 + x.tmod 9973) := by rw [h]
  rw [ofInt_add, ofInt_mul, show ofInt 9973 = 0 from rfl] at h2
  rw [h2]; grind
theorem tmod_bound (x : Int) : -9972 ≤ x.tmod 9973 ∧ x.tmod 9973 ≤ 9972 := by
  have h1 := Int.tmod_lt_of_pos x (show (0 : Int) < 9973 by omega)
  have h2 := Int.lt_tmod_of_pos x (show (0 : Int) < 9973 by omega)
  omega
/-- A remainder made an element. -/
theorem fit (x : Int) : (x.tmod 9973 + 9973).tmod 9973 = ((ofInt x).val : Int) := by
  have h := tmod_bound x
  rw [Int.tmod_eq_emod_of_nonneg (by omega), ← ofInt_val, ofInt_add, tmod_F, show ofInt 9973 = 0 from rfl]
  congr 1; congr 1; grind

/-- How many orders there may be of so many. -/
def lv : Nat → Nat
  | 0 => 1
  | m + 1 => 5 * lv m
theorem lv_le : ∀ {m : Nat}, m ≤ 5 → lv m ≤ 3125
  | 0, _ => by decide
  | 1, _ => by decide
  | 2, _ => by decide
  | 3, _ => by decide
  | 4, _ => by decide
  | 5, _ => by decide
  | m + 6, h => absurd h (by omega)

end Go.Proofs.Ytbdpcpodmmhjaaa.Mx

/- More on matrices of the call's own: heads that change places, a row of numbers beside them, and what a store into their rows leaves. For all packages. -/
namespace Go.Proofs.Ytbdpcpodmmhjaaa
open Go.ChangeShapes Go.WideShapes Go.ChangeAt Go.RowKit
set_option linter.unusedVariables false

/-- The heads of r rows of c numbers. -/
def hds (r c : Nat) (G C : Nat → Nat) : List Value := (List.range r).map fun i => Value.slice (some ⟨G i, 0, none⟩) c (C i)
theorem len_hds (r c : Nat) (G C : Nat → Nat) : (hds r c G C).length = r := by simp [hds]
theorem heads_tab (G C : Nat → Nat) (r c : Nat) (f : Nat → Nat → Int) : heads G C (Mx.tab r c f) = hds r c G C := by
  unfold heads hds
  rw [Mx.len_tab]
  refine List.map_congr_left fun i hi => ?_
  rw [Mx.tab_len _ _ _ _ (List.mem_range.1 hi)]
theorem hds_set (r c : Nat) (G C : Nat → Nat) (i x d : Nat) :
    (hds r c G C).set i (Value.slice (some ⟨x, 0, none⟩) c d) = hds r c (fun k => if k = i then x else G k) (fun k => if k = i then d else C k) := by
  refine List.ext_getElem (by simp [hds]) fun k h1 h2 => ?_
  simp only [hds, List.getElem_set, List.getElem_map, List.getElem_range]
  by_cases e : i = k
  · subst e; simp
  · rw [if_neg e, if_neg (fun e' => e e'.symm), if_neg (fun e' => e e'.symm)]

/-- As OwnM, but two heads may name the same row. -/
structure OwnH (w : World) (B : Nat) (v : Value) (G C : Nat → Nat) (r c : Nat) (f : Nat → Nat → Int) : Prop where
  top : w.ownsRow B 22 1 v r (hds r c G C)
  row : ∀ i, i < r → Own w B (.slice (some ⟨G i, 0, none⟩) c (C i)) (Mx.row c (f i))
theorem OwnM.weak {w : World} {B : Nat} {v : Value} {G C : Nat → Nat} {r c : Nat} {f : Nat → Nat → Int} (h : OwnM w B v G C (Mx.tab r c f)) : OwnH w B v G C r c f := by
  refine ⟨?_, fun i hi => ?_⟩
  · have := h.top
    rwa [heads_tab, Mx.len_tab] at this
  · have := h.row i (by rw [Mx.len_tab]; exact hi)
    rwa [Mx.tab_at _ _ _ _ hi, Mx.len_row] at this
theorem OwnH.strong {w : World} {B : Nat} {v : Value} {G C : Nat → Nat} {r c : Nat} {f : Nat → Nat → Int} (h : OwnH w B v G C r c f) (ha : ∀ i j, i < r → j < r → i ≠ j → G i ≠ G j) : OwnM w B v G C (Mx.tab r c f) := by
  refine ⟨?_, fun i hi => ?_, fun i j hi hj => ?_⟩
  · rw [heads_tab, Mx.len_tab]; exact h.top
  · rw [Mx.len_tab] at hi
    rw [Mx.tab_at _ _ _ _ hi, Mx.len_row]; exact h.row i hi
  · rw [Mx.len_tab] at hi hj; exact ha i j hi hj
theorem OwnH.kp {w w' : World} {B : Nat} {v : Value} {G C : Nat → Nat} {r c : Nat} {f : Nat → Nat → Int} (h : OwnH w B v G C r c f) (hk : Kp w w') : OwnH w' B v G C r c f :=
  ⟨ownsRow_kp h.top hk, fun i hi => (h.row i hi).kp hk⟩
theorem OwnH.ext {w : World} {B : Nat} {v : Value} {G C : Nat → Nat} {r c : Nat} {f f' : Nat → Nat → Int} (h : OwnH w B v G C r c f) (e : ∀ i j, i < r → j < c → f i j = f' i j) : OwnH w B v G C r c f' :=
  ⟨h.top, fun i hi => by rw [← Mx.row_ext (fun j hj => e i j hi hj)]; exact h.row i hi⟩
theorem OwnH.head {w : World} {B : Nat} {G C : Nat → Nat} {r c g n cap : Nat} {f : Nat → Nat → Int} (h : OwnH w B (.slice (some ⟨g, 0, none⟩) n cap) G C r c f) {i : Nat} (hi : i < r) :
    w.cell? ⟨g, i, none⟩ = some (.slice (some ⟨G i, 0, none⟩) c (C i)) := by
  rcases h.top.2 with ⟨e, _⟩ | ⟨g', cap', cur, hv, hg, hh, hc, hm, hs, ht⟩
  · cases e
  · cases hv
    have ht' : cur.toList.take r = hds r c G C := by simpa using ht
    rw [cell_of_row _ _ i _ _ (0, 0) hh, ← Array.getElem?_toList, ← List.getElem?_take_of_lt hi, ht']
    simp [hds, hi]
theorem OwnH.el {w : World} {B : Nat} {v : Value} {G C : Nat → Nat} {r c : Nat} {f : Nat → Nat → Int} (h : OwnH w B v G C r c f) {i j : Nat} (hi : i < r) (hj : j < c) : w.cell? ⟨G i, j, none⟩ = some (.int .i64 (f i j)) := by
  have := own_cell (h.row i hi) j (by rw [Mx.len_row]; exact hj)
  rwa [Mx.row_at _ _ _ hj] at this
theorem OwnH.free {w : World} {B : Nat} {v : Value} {G C : Nat → Nat} {r c : Nat} {f : Nat → Nat → Int} (h : OwnH w B v G C r c f) {i : Nat} (hi : i < r) (j : Nat) : w.frozen? ⟨G i, j, none⟩ = false := own_free (h.row i hi) j
theorem OwnH.topFree {w : World} {B : Nat} {G C : Nat → Nat} {r c g n cap : Nat} {f : Nat → Nat → Int} (h : OwnH w B (.slice (some ⟨g, 0, none⟩) n cap) G C r c f) (i : Nat) : w.frozen? ⟨g, i, none⟩ = false := by
  rcases h.top.2 with ⟨e, _⟩ | ⟨g', cap', cur, hv, hg, hh, hc, hm, hs, ht⟩
  · cases e
  · cases hv; exact frozen_of_row w g i _ _ hh
theorem OwnH.topLe {w : World} {B : Nat} {G C : Nat → Nat} {r c g n cap : Nat} {f : Nat → Nat → Int} (h : OwnH w B (.slice (some ⟨g, 0, none⟩) n cap) G C r c f) : B ≤ g ∧ g < w.heap.size := World.ownsRow.lt h.top g rfl
theorem OwnH.lt {w : World} {B : Nat} {v : Value} {G C : Nat → Nat} {r c : Nat} {f : Nat → Nat → Int} (h : OwnH w B v G C r c f) {i : Nat} (hi : i < r) : B ≤ G i ∧ G i < w.heap.size := World.ownsRow.lt (h.row i hi) (G i) rfl
theorem OwnH.apartTop {w : World} {B : Nat} {G C : Nat → Nat} {r c g n cap : Nat} {f : Nat → Nat → Int} (h : OwnH w B (.slice (some ⟨g, 0, none⟩) n cap) G C r c f) {i : Nat} (hi : i < r) : G i ≠ g := fun e => top_ne h.top (h.row i hi) (by show some (G i) = some g; rw [e])
/-- A head is set to another row of the call's own. -/
theorem OwnH.set {w : World} {B : Nat} {G C : Nat → Nat} {r c g n cap : Nat} {f : Nat → Nat → Int} (h : OwnH w B (.slice (some ⟨g, 0, none⟩) n cap) G C r c f) {i : Nat} (hi : i < r) {x d : Nat} {l : Nat → Int} (hx : Own w B (.slice (some ⟨x, 0, none⟩) c d) (Mx.row c l)) :
    OwnH (w.setCell ⟨g, i, none⟩ (.slice (some ⟨x, 0, none⟩) c d)) B (.slice (some ⟨g, 0, none⟩) n cap) (fun k => if k = i then x else G k) (fun k => if k = i then d else C k) r c (fun k => if k = i then l else f k) := by
  refine ⟨?_, fun k hk => ?_⟩
  · rcases h.top.2 with ⟨e, _⟩ | ⟨g', cap', cur, hv, hg, hh, hc, hm, hs, ht⟩
    · cases e
    · cases hv
      refine ⟨by rw [len_hds, Nat.mul_one], .inr ⟨g, cap, cur.setIfInBounds i (.slice (some ⟨x, 0, none⟩) c d), rfl, hg, heap_setCell_same w g i _ _ _ hh, hc, hm, by rw [Array.size_setIfInBounds]; exact hs, ?_⟩⟩
      rw [Array.toList_setIfInBounds, List.take_set, ht, hds_set]
  · by_cases e : k = i
    · subst e
      simp only [if_true]
      exact own_store hx (fun e' => top_ne h.top hx (by show some x = some g; rw [e'])) _
    · simp only [if_neg e]
      exact own_store (h.row k hk) (h.apartTop hk) _

/-- Nothing but what stands in the blocks of these rows has turned. -/
structure Only (G : Nat → Nat) (r : Nat) (w w' : World) : Prop where
  os : w'.os = w.os
  tape : w'.tape = w.tape
  output : w'.output = w.output
  size : w.heap.size ≤ w'.heap.size
  block : ∀ b, b < w.heap.size → (∀ i, i < r → b ≠ G i) → w'.heap[b]? = w.heap[b]?
theorem Only.of {G : Nat → Nat} {r : Nat} {w w' : World} (h : Kp w w') : Only G r w w' := ⟨h.os, h.tape, h.output, h.size, fun b hb _ => h.block b hb⟩
theorem Only.refl (G : Nat → Nat) (r : Nat) (w : World) : Only G r w w := Only.of (Kp.rfl' w)
theorem Only.trans {G : Nat → Nat} {r : Nat} {a b c : World} (h : Only G r a b) (k : Only G r b c) : Only G r a c :=
  ⟨k.os.trans h.os, k.tape.trans h.tape, k.output.trans h.output, Nat.le_trans h.size k.size, fun i hi hn => (k.block i (Nat.lt_of_lt_of_le hi h.size) hn).trans (h.block i hi hn)⟩
theorem Only.drewN {G : Nat → Nat} {r : Nat} {a b : World} (h : Only G r a b) (n : Nat) : Only G r a (b.drewN n) := h.trans (Only.of ((Kp.rfl' b).drewN n))
theorem Only.put {G : Nat → Nat} {r : Nat} {a b : World} (h : Only G r a b) {i : Nat} (hi : i < r) (j : Nat) (u : Value) : Only G r a (b.setCell ⟨G i, j, none⟩ u) :=
  h.trans ⟨rfl, rfl, rfl, by simp [World.setCell], fun k _ hn => Below.heap_setCell _ _ _ _ (hn i hi)⟩
theorem Only.below {G : Nat → Nat} {r B : Nat} {w0 w w' : World} (h : Only G r w w') (hb : Below B w0 w) (hB : B ≤ w.heap.size) (hG : ∀ i, i < r → B ≤ G i) : Below B w0 w' :=
  hb.trans ⟨h.os, h.tape, h.output, h.size, fun k hk => h.block k (by omega) fun i hi e => by have := hG i hi; omega⟩
theorem Own.only {G : Nat → Nat} {r B : Nat} {w w' : World} {u : Value} {l : List Int} (h : Own w B u l) (ho : Only G r w w') (hn : ∀ b, u.ownBlock = some b → ∀ i, i < r → G i ≠ b) : Own w' B u l := by
  obtain ⟨h1, h2⟩ := h
  refine ⟨h1, ?_⟩
  rcases h2 with h2 | ⟨g, cap, cur, rfl, hg, hh, r⟩
  · exact .inl h2
  · refine .inr ⟨g, cap, cur, rfl, hg, ?_, r⟩
    rw [ho.block g ?_ fun i hi e => hn g rfl i hi e.symm]; exact hh
    rcases Nat.lt_or_ge g w.heap.size with hlt | hge
    · exact hlt
    · rw [Array.getElem?_eq_none hge] at hh; cases hh
/-- A store to another block leaves a row. -/
theorem Own.far {w : World} {B : Nat} {u : Value} {l : List Int} (h : Own w B u l) {a : Addr} (ha : u.ownBlock ≠ some a.block) (x : Value) : Own (w.setCell a x) B u l := by
  obtain ⟨h1, h2⟩ := h
  refine ⟨h1, ?_⟩
  rcases h2 with h2 | ⟨g, cap, cur, rfl, hg, hh, r⟩
  · exact .inl h2
  · refine .inr ⟨g, cap, cur, rfl, hg, ?_, r⟩
    rw [heap_setCell_other w a g x (fun e => ha (by show some g = some a.block; rw [e]))]; exact hh

/-- An append to another row leaves the matrix. -/
theorem OwnM.grown {w w' : World} {B : Nat} {v u : Value} {G C : Nat → Nat} {m : List (List Int)} (h : OwnM w B v G C m) (hg : w.grownBy w' u.ownBlock) (h1 : v.ownBlock = none ∨ v.ownBlock ≠ u.ownBlock) (h2 : ∀ i, i < m.length → some (G i) ≠ u.ownBlock) : OwnM w' B v G C m :=
  ⟨World.ownsRow.kept h.top hg h1, fun i hi => (h.row i hi).grown hg (.inr (h2 i hi)), h.apart⟩

theorem OwnM.liesM {w : World} {B n cap : Nat} {A : Option Addr} {G C : Nat → Nat} {m : List (List Int)} (h : OwnM w B (.slice A n cap) G C m) : LiesM w A m := by
  obtain ⟨A', c', e, hl, _⟩ := h.lies
  cases e; exact hl

/-- A matrix of the call's own, and a row of numbers beside it. -/
structure MatRow (w : World) (B : Nat) (g cap : Nat) (G C : Nat → Nat) (r c : Nat) (f : Nat → Nat → Int) (u : Value) (l : List Int) : Prop where
  mat : OwnM w B (.slice (some ⟨g, 0, none⟩) r cap) G C (Mx.tab r c f)
  row : Own w B u l
  far : ∀ b, u.ownBlock = some b → b ≠ g
  apart : ∀ b, u.ownBlock = some b → ∀ i, i < r → G i ≠ b
theorem MatRow.kp {w w' : World} {B g cap : Nat} {G C : Nat → Nat} {r c : Nat} {f : Nat → Nat → Int} {u : Value} {l : List Int} (h : MatRow w B g cap G C r c f u l) (hk : Kp w w') : MatRow w' B g cap G C r c f u l := ⟨h.mat.kp hk, h.row.kp hk, h.far, h.apart⟩
theorem MatRow.drewN {w : World} {B g cap : Nat} {G C : Nat → Nat} {r c : Nat} {f : Nat → Nat → Int} {u : Value} {l : List Int} (h : MatRow w B g cap G C r c f u l) (n : Nat) : MatRow (w.drewN n) B g cap G C r c f u l := h.kp ((Kp.rfl' w).drewN n)
theorem MatRow.start {w : World} {B g cap : Nat} {G C : Nat → Nat} {r c : Nat} {f : Nat → Nat → Int} (h : OwnM w B (.slice (some ⟨g, 0, none⟩) r cap) G C (Mx.tab r c f)) : MatRow w B g cap G C r c f (.slice none 0 0) [] :=
  ⟨h, Own.none _ _, (fun b hb => by cases hb), (fun b hb => by cases hb)⟩
theorem MatRow.ext {w : World} {B g cap : Nat} {G C : Nat → Nat} {r c : Nat} {f f' : Nat → Nat → Int} {u : Value} {l : List Int} (h : MatRow w B g cap G C r c f u l) (e : ∀ i j, i < r → j < c → f i j = f' i j) : MatRow w B g cap G C r c f' u l := ⟨h.mat.ext e, h.row, h.far, h.apart⟩
theorem MatRow.only {w w' : World} {B g cap : Nat} {G C : Nat → Nat} {r c : Nat} {f f' : Nat → Nat → Int} {u : Value} {l : List Int} (h : MatRow w B g cap G C r c f u l) (ho : Only G r w w') (hm : OwnM w' B (.slice (some ⟨g, 0, none⟩) r cap) G C (Mx.tab r c f')) : MatRow w' B g cap G C r c f' u l :=
  ⟨hm, h.row.only ho h.apart, h.far, h.apart⟩
theorem MatRow.put {w : World} {B g cap : Nat} {G C : Nat → Nat} {r c : Nat} {f : Nat → Nat → Int} {u : Value} {l : List Int} (h : MatRow w B g cap G C r c f u l) {i : Nat} (hi : i < r) (j : Nat) (x : Int) :
    MatRow (w.setCell ⟨G i, j, none⟩ (.int .i64 x)) B g cap G C r c (fun a b => if a = i ∧ b = j then x else f a b) u l :=
  h.only ((Only.refl G r w).put hi j _) (h.mat.put hi j x)
/-- An append to the row beside it. -/
theorem MatRow.push {w w' : World} {B g cap : Nat} {G C : Nat → Nat} {r c : Nat} {f : Nat → Nat → Int} {u u' : Value} {l l' : List Int} (h : MatRow w B g cap G C r c f u l) (h1 : Own w' B u' l') (hg : w.grownBy w' u.ownBlock) (ha : At w u u') : MatRow w' B g cap G C r c f u' l' := by
  have hl := World.ownsRow.lt h.mat.top g rfl
  have hG : ∀ i, i < r → G i < w.heap.size := fun i hi => (h.mat.lt (by rw [Mx.len_tab]; exact hi)).2
  refine ⟨h.mat.grown hg ?_ fun i hi e => ?_, h1, fun b hb => ?_, fun b hb i hi => ?_⟩
  · cases hu : u.ownBlock with
    | none => exact .inr (by intro e; cases e)
    | some b => exact .inr fun e => h.far b hu (Option.some.inj e).symm
  · rw [Mx.len_tab] at hi
    exact h.apart _ e.symm i hi rfl
  · rcases ha with e | e
    · exact h.far b (by rw [← e]; exact hb)
    · rw [e] at hb; have := Option.some.inj hb; omega
  · rcases ha with e | e
    · exact h.apart b (by rw [← e]; exact hb) i hi
    · rw [e] at hb; have := Option.some.inj hb; have := hG i hi; omega
/-- Two heads change places. -/
theorem MatRow.swap {w : World} {B g cap : Nat} {G C : Nat → Nat} {r c : Nat} {f : Nat → Nat → Int} {u : Value} {l : List Int} (h : MatRow w B g cap G C r c f u l) {a b : Nat} (ha : a < r) (hb : b < r) :
    MatRow ((w.setCell ⟨g, a, none⟩ (.slice (some ⟨G b, 0, none⟩) c (C b))).setCell ⟨g, b, none⟩ (.slice (some ⟨G a, 0, none⟩) c (C a))) B g cap
      (fun i => if i = b then G a else if i = a then G b else G i) (fun i => if i = b then C a else if i = a then C b else C i) r c (fun i => if i = b then f a else if i = a then f b else f i) u l := by
  have hw := h.mat.weak
  have ap : ∀ i j, i < r → j < r → i ≠ j → G i ≠ G j := fun i j hi hj => h.mat.apart i j (by rw [Mx.len_tab]; exact hi) (by rw [Mx.len_tab]; exact hj)
  have h1 := hw.set ha (hw.row b hb)
  have ra := own_store (hw.row a ha) (a := ⟨g, a, none⟩) (hw.apartTop ha) (Value.slice (some ⟨G b, 0, none⟩) c (C b))
  have h2 := h1.set hb ra
  refine ⟨h2.strong fun i j hi hj hne => ?_, (h.row.far (a := ⟨g, a, none⟩) (fun e => h.far _ e rfl) _).far (a := ⟨g, b, none⟩) (fun e => h.far _ e rfl) _, h.far, fun k hk i hi => ?_⟩
  · split <;> split <;> (try split) <;> (try split) <;> apply ap <;> omega
  · split
    · exact h.apart k hk a ha
    · split
      · exact h.apart k hk b hb
      · exact h.apart k hk i hi

/-- Row p comes to row a's place, and a new row to row p's. -/
theorem MatRow.rehead {w w' : World} {B g cap : Nat} {G C : Nat → Nat} {r c : Nat} {f : Nat → Nat → Int} {u : Value} {l : List Int} (h : MatRow w B g cap G C r c f u l) {a p : Nat} (ha : a < r) (hp : p < r)
    (hk : Kp (w.setCell ⟨g, a, none⟩ (.slice (some ⟨G p, 0, none⟩) c (C p))) w') {go co : Nat} {h1 : Nat → Int} (ho : Own w' w.heap.size (.slice (some ⟨go, 0, none⟩) c co) (Mx.row c h1)) :
    MatRow (w'.setCell ⟨g, p, none⟩ (.slice (some ⟨go, 0, none⟩) c co)) B g cap (fun i => if i = p then go else if i = a then G p else G i) (fun i => if i = p then co else if i = a then C p else C i) r c
      (fun i => if i = p then h1 else if i = a then f p else f i) u l := by
  have hw := h.mat.weak
  have ap : ∀ i j, i < r → j < r → i ≠ j → G i ≠ G j := fun i j hi hj => h.mat.apart i j (by rw [Mx.len_tab]; exact hi) (by rw [Mx.len_tab]; exact hj)
  have hB := hw.topLe
  have hgo : w.heap.size ≤ go := (World.ownsRow.lt ho go rfl).1
  have h2 := ((hw.set ha (hw.row p hp)).kp hk).set hp (ho.from (B' := B) (by omega))
  refine ⟨h2.strong fun i j hi hj hne => ?_, ((h.row.far (a := ⟨g, a, none⟩) (fun e => h.far _ e rfl) _).kp hk).far (a := ⟨g, p, none⟩) (fun e => h.far _ e rfl) _, h.far, fun k hk' i hi => ?_⟩
  · have hG : ∀ i, i < r → G i ≠ go := fun i hi => by have := (hw.lt hi).2; omega
    split <;> split <;> (try split) <;> (try split) <;> first | omega | exact hG _ (by omega) | exact (hG _ (by omega)).symm | (apply ap <;> omega)
  · have hlt := (World.ownsRow.lt h.row k hk').2
    split
    · omega
    · split
      · exact h.apart k hk' p hp
      · exact h.apart k hk' i hi

/-- A matrix made by make is a matrix of the call's own. -/
theorem Row.own {w : World} {B g n : Nat} {l : List Int} (h : Row w g l) (hB : B ≤ g) (hn : l.length = n) (hm : n ≤ 17000000000000) : Own w B (.slice (some ⟨g, 0, none⟩) n n) l := by
  subst hn
  refine ⟨by simp, .inr ⟨g, l.length, (ints l).toArray, rfl, hB, h, Nat.le_refl _, by unfold maxLen; omega, by simp, by simp [List.take_of_length_le]⟩⟩
theorem Grid.own {w : World} {B g : Nat} {G : Nat → Nat} {r c : Nat} {f : Nat → Nat → Int} (h : Grid w g G r c f) (hB : B ≤ g) (hr : r ≤ 1000) (hc : c ≤ 1000) : OwnM w B (.slice (some ⟨g, 0, none⟩) r r) G (fun _ => c) (Mx.tab r c f) := by
  refine OwnH.strong ⟨⟨by rw [len_hds, Nat.mul_one], .inr ⟨g, r, _, rfl, hB, h.head, Nat.le_refl _, by unfold maxLen; omega, by simp, ?_⟩⟩, fun i hi => (h.row i hi).own (by have := h.after i hi; omega) (Mx.len_row _ _) (by omega)⟩ h.apart
  simp [hds, List.take_of_length_le]
end Go.Proofs.Ytbdpcpodmmhjaaa

/- Contracts of package det, first part: ascending, Sign. -/
namespace Go.Proofs.Ytbdpcpodmmhjaaa
open Go.ChangeShapes Go.WideShapes Go.ChangeAt Go.RowKit
set_option linter.unusedVariables false


/-- Where the sorting of an order stands: x times the sign of what is left is the order's sign; the first k are at their places. -/
structure Srt (w0 w : World) (g n c : Nat) (S : Fp.F) (k : Nat) (l : List Int) (x : Int) : Prop where
  own : Own w w0.heap.size (.slice (some ⟨g, 0, none⟩) n c) l
  len : l.length = n
  pm : x = 1 ∨ x = -1
  eq : Fp.ofInt x * Mx.sp n (fun i => l.getD i 0) = S
  fix : ∀ t, t < k → l.getD t 0 = (t : Int)
  kp : Kp w0 w
theorem Srt.next {w0 w : World} {g n c : Nat} {S : Fp.F} {k : Nat} {l : List Int} {x : Int} (h : Srt w0 w g n c S k l x) (e : l.getD k 0 = (k : Int)) : Srt w0 w g n c S (k + 1) l x :=
  ⟨h.own, h.len, h.pm, h.eq, fun t ht => by
    by_cases hk : t = k
    · rw [hk]; exact e
    · exact h.fix t (by omega), h.kp⟩
theorem getD_set2 {l : List Int} {k m : Nat} (hk : k < l.length) (hm : m < l.length) (x y : Int) (i : Nat) : ((l.set k x).set m y).getD i 0 = if i = m then y else if i = k then x else l.getD i 0 := by
  rw [List.getD_eq_getElem?_getD, List.getD_eq_getElem?_getD, List.getElem?_set, List.getElem?_set]
  by_cases h1 : i = m
  · rw [if_pos h1.symm, if_pos (by simpa using hm), if_pos h1]; rfl
  · rw [if_neg (fun e => h1 e.symm), if_neg h1]
    by_cases h2 : i = k
    · rw [if_pos h2.symm, if_pos hk, if_pos h2]; rfl
    · rw [if_neg (fun e => h2 e.symm), if_neg h2]
/-- Two numbers change places: the one that stood at place k comes home. -/
theorem Srt.swap {w0 w : World} {g n c : Nat} {S : Fp.F} {k : Nat} {l : List Int} {x : Int} (h : Srt w0 w g n c S k l x) (hk : k < n) {m : Nat} (hm : m < n) (e : l.getD k 0 = (m : Int)) (hne : m ≠ k) (h2 : l.getD m 0 ≠ (m : Int)) (hB : w0.heap.size ≤ g) :
    Srt w0 ((w.setCell ⟨g, k, none⟩ (.int .i64 (l.getD m 0))).setCell ⟨g, m, none⟩ (.int .i64 (m : Int))) g n c S k ((l.set k (l.getD m 0)).set m (m : Int)) (-x) ∧
      Mx.nf n (fun i => ((l.set k (l.getD m 0)).set m (m : Int)).getD i 0) < Mx.nf n fun i => l.getD i 0 := by
  have hg : ∀ i, ((l.set k (l.getD m 0)).set m (m : Int)).getD i 0 = l.getD (Mx.sw k m i) 0 := fun i => by
    rw [getD_set2 (by rw [h.len]; exact hk) (by rw [h.len]; exact hm)]
    by_cases h1 : i = m
    · rw [if_pos h1, h1, Mx.sw_right, e]
    · rw [if_neg h1]
      by_cases h3 : i = k
      · rw [if_pos h3, h3, Mx.sw_left]
      · rw [if_neg h3, Mx.sw_none h3 h1]
  refine ⟨⟨own_put (own_put h.own k _) m _, by rw [List.length_set, List.length_set]; exact h.len, ?_, ?_, fun t ht => ?_, (h.kp.put (p := ⟨g, k, none⟩) hB _).put (p := ⟨g, m, none⟩) hB _⟩, ?_⟩
  · rcases h.pm with a | a <;> rw [a] <;> simp
  · rw [Mx.sp_congr (t := fun i => l.getD (Mx.sw k m i) 0) fun i _ => hg i, Mx.sp_swap (fun i => l.getD i 0) hk hm (fun e => hne e.symm), Mx.ofInt_neg, ← h.eq]; grind
  · have h3 := h.fix t ht
    have : t ≠ m := fun e => by rw [e] at h3; exact h2 h3
    rw [hg, Mx.sw_none (by omega) this]; exact h3
  · refine Mx.nf_lt n (m := m) (fun i hi h3 => ?_) hm h2 ?_
    · have a1 : i ≠ m := fun e => by rw [e] at h3; exact h2 h3
      have a2 : i ≠ k := fun e2 => by rw [e2] at h3; rw [h3] at e; omega
      rw [hg, Mx.sw_none a2 a1]; exact h3
    · rw [hg, Mx.sw_right]; exact e

/-- The sign of an order comes out. -/
def Signed (S : Fp.F) (w : World) (e : Ending) (w' : World) : Prop := ∃ x, e = .returned (.int .i64 x) ∧ Mx.SgnIs S x ∧ Kp w w'
set_option maxRecDepth 100000 in
set_option maxHeartbeats 3200000 in
theorem Sign_pos (A : Option Addr) (l : List Int) (n c : Nat) (w : World) (hl : Lies w A l) (hn : l.length = n) (h0 : 0 < n) (h1 : n ≤ 1000) :
    Calls Try.prog 33 #[.slice A n c] w fun e w' => Signed (Mx.sp n fun i => l.getD i 0) w e w' := by
  have CL := Lib.hid (show Calls Try.prog 29 #[.slice A n c] w fun e w' => SomeRow l w e w' by
    rw [← hn]; exact sclone_any A l c w hl (by omega))
  obtain ⟨S, hS⟩ : ∃ S, S = Mx.sp n fun i => l.getD i 0 := ⟨_, rfl⟩
  rw [← hS]
  have HS := Lib.hid hS
  have HN := Lib.hid hn
  clear hl hS hn
  go_enter Try.func33, Try.ntmps33
  go_wp2_with fail
  refine (CL.out).mono ?_; rintro e w1 ⟨v, rfl, ho, hk⟩
  obtain ⟨g, cap, rfl, hg, hcap⟩ := own_some ho (by rw [HN.out]; exact h0)
  rw [HN.out] at ho hcap ⊢
  have ST := Lib.hid (show Srt w w1 g n cap S 0 l 1 from ⟨ho, HN.out, .inl rfl, by rw [← HS.out, show Fp.ofInt 1 = 1 from rfl]; grind, fun t ht => absurd ht (by omega), hk⟩)
  have HB := Lib.hid hg
  clear ho hk hg
  go_wp2_with fail
  go_loopw [3, 11] (fun s i wr => ∃ (k : Nat) (l : List Int) (x : Int), k ≤ n ∧ i = .int .i64 (k : Int) ∧ s = .int .i64 x ∧ Srt w wr g n cap S k l x) (fun _ i _ => n - (intOf i).toNat)
  case atStart => exact ⟨0, l, 1, Nat.zero_le _, rfl, rfl, ST.out⟩
  case round =>
    clear ST HS HN
    obtain ⟨k, l, x, hk, rfl, rfl, st⟩ := hrel
    by_cases hlt : k < n
    · have ST := Lib.hid st
      clear st
      go_wp2_with fail
      go_loopg [3] (Mx.nf n fun i => l.getD i 0) (fun q s wq => ∃ (l : List Int) (x : Int), s = .int .i64 x ∧ Srt w wq g n cap S k l x ∧ Mx.nf n (fun i => l.getD i 0) = q)
      case atStart => exact ⟨l, x, rfl, ST.out, rfl⟩
      case round =>
        clear ST
        obtain ⟨l, x, rfl, st, hq⟩ := hrel
        have ST := Lib.hid st
        have HQ := Lib.hid hq
        have c1 := own_cell st.own k (by rw [st.len]; exact hlt)
        have z1 := own_free st.own k
        have hxb : -1 ≤ x ∧ x ≤ 1 := by rcases st.pm with a | a <;> omega
        obtain ⟨y, hy⟩ : ∃ y, y = l.getD k 0 := ⟨_, rfl⟩
        rw [← hy] at c1
        have HY := Lib.hid hy
        clear st hq hy
        by_cases e : y = (k : Int)
        · have e1 : (y != (k : Int)) = false := by rw [e]; simp
          have ST2 := Lib.hid (ST.out.next (by rw [← HY.out]; exact e))
          clear e
          go_wp2_with fail
          go_roundw
          case rel => exact ⟨k + 1, l, x, by omega, by go_num, rfl, ST2.out⟩
          case measure => simp [intOf]; omega
        · have e1 : (y != (k : Int)) = true := by rw [bne_iff_ne]; exact e
          have ZERO := Lib.hid (fun h : Mx.sp n (fun i => l.getD i 0) = 0 => show Mx.SgnIs S 0 from ⟨.inr (.inr rfl), by rw [← ST.out.eq, h, show Fp.ofInt 0 = 0 from rfl]; grind⟩)
          by_cases h2 : y < 0
          · have Z := Lib.hid (ZERO.out (Mx.sp_out hlt (.inl (by rw [← HY.out]; exact h2))))
            clear e ZERO
            go_wp2_with fail
            go_ret
            exact ⟨0, rfl, Z.out, ST.out.kp⟩
          · by_cases h3 : (n : Int) ≤ y
            · have Z := Lib.hid (ZERO.out (Mx.sp_out hlt (.inr (by rw [← HY.out]; exact h3))))
              clear e ZERO
              go_wp2_with fail
              go_ret
              exact ⟨0, rfl, Z.out, ST.out.kp⟩
            · obtain ⟨m, rfl⟩ : ∃ m : Nat, y = (m : Int) := ⟨y.toNat, by omega⟩
              have hm : m < n := by omega
              have hne : m ≠ k := fun h => e (by rw [h])
              have c2 := own_cell ST.out.own m (by rw [ST.out.len]; exact hm)
              obtain ⟨z, hz⟩ : ∃ z, z = l.getD m 0 := ⟨_, rfl⟩
              rw [← hz] at c2
              have HZ := Lib.hid hz
              clear hz h2 h3 e
              by_cases e2 : z = (m : Int)
              · have e3 : (z == (m : Int)) = true := by rw [e2]; simp
                have Z := Lib.hid (ZERO.out (Mx.sp_twice hlt hm (fun h => hne h.symm) (by rw [← HY.out, ← HZ.out, e2])))
                clear ZERO e2
                go_wp2_with fail
                go_ret
                exact ⟨0, rfl, Z.out, ST.out.kp⟩
              · have e3 : (z == (m : Int)) = false := by rw [beq_eq_false_iff_ne]; exact e2
                have SW := Lib.hid (ST.out.swap hlt hm HY.out.symm hne (by rw [← HZ.out]; exact e2) HB.out)
                rw [← HZ.out] at SW
                have z3 := own_free (own_put ST.out.own k z) m
                have c3 : (wr.setCell ⟨g, k, none⟩ (.int .i64 z)).cell? ⟨g, m, none⟩ = some (.int .i64 z) := by
                  have hne' : (⟨g, k, none⟩ : Addr) ≠ ⟨g, m, none⟩ := fun e' => hne (by cases e'; rfl)
                  rw [World.cell?_setCell_other (w := wr) (v := .int .i64 z) (h := hne')]; exact c2

                have hwn : IntKind.i64.wrap (-x) = -x := IntWalk.i64_in _ (by omega)
                clear ZERO e2
                go_wp2_with fail
                go_roundg (Mx.nf n fun i => ((l.set k z).set m (m : Int)).getD i 0)
                case measure => rw [← HQ.out]; exact SW.out.2
                case rel => exact ⟨(l.set k z).set m (m : Int), -x, rfl, SW.out.1, rfl⟩
    · obtain rfl : k = n := by omega
      have Z := Lib.hid (show Mx.SgnIs S x from ⟨by rcases st.pm with a | a <;> simp [a], by
        rw [← st.eq, Mx.sp_id fun i hi => st.fix i hi]; grind⟩)
      have HK := Lib.hid st.kp
      clear st
      go_wp2_with fail
      go_ret
      exact ⟨x, rfl, Z.out, HK.out⟩

set_option maxRecDepth 100000 in
theorem Sign_zero (A : Option Addr) (c : Nat) (w : World) :
    Calls Try.prog 33 #[.slice A 0 c] w fun e w' => Signed 1 w e w' := by
  have CL := Lib.hid (sclone_any A [] c w (fun k hk => absurd hk (by simp)) (by simp))
  rw [List.length_nil] at CL
  go_enter Try.func33, Try.ntmps33
  go_wp2_with fail
  refine (CL.out).mono ?_; rintro e w1 ⟨v, rfl, ho, hk⟩
  obtain ⟨A1, c1, rfl, _, _⟩ := ho.cap
  rw [List.length_nil]
  have HK := Lib.hid hk
  clear ho hk
  go_wp2_with fail
  go_loopw [3, 11] (fun s i wr => i = .int .i64 0 ∧ s = .int .i64 1 ∧ wr = w1) (fun _ i _ => 0)
  case atStart => exact ⟨rfl, rfl, rfl⟩
  case round =>
    obtain ⟨rfl, rfl, rfl⟩ := hrel
    go_wp2_with fail
    go_ret
    exact ⟨1, rfl, ⟨.inl rfl, rfl⟩, HK.out⟩
theorem Sign_any (A : Option Addr) (l : List Int) (n c : Nat) (w : World) (hl : Lies w A l) (hn : l.length = n) (h1 : n ≤ 1000) :
    Calls Try.prog 33 #[.slice A n c] w fun e w' => Signed (Mx.sp n fun i => l.getD i 0) w e w' := by
  by_cases h0 : n = 0
  · subst h0; exact Sign_zero A c w
  · exact Sign_pos A l n c w hl hn (by omega) h1

end Go.Proofs.Ytbdpcpodmmhjaaa
