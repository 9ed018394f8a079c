/- Plain facts on matrices over the field: rows that come of one another, the form in steps, that there is but one, its rank; the next step. No program is named here. -/
import Derived.Test.YtkebjmapdcbnaaaMatR
namespace Go.Proofs.Ytkebjmapdcbnaaa.Mx
open Fp
set_option linter.unusedVariables false

/-- The rows of each come of the rows of the other. -/
def Req (r c : Nat) (f g : Nat → Nat → F) : Prop := (∃ s, Eqm r c f (mul r s g)) ∧ ∃ t, Eqm r c g (mul r t f)
theorem Req.of (r c : Nat) {f g : Nat → Nat → F} (h : Eqm r c f g) : Req r c f g := ⟨⟨one, h.trans (one_mul r c g).symm⟩, ⟨one, h.symm.trans (one_mul r c f).symm⟩⟩
theorem Req.refl (r c : Nat) (f : Nat → Nat → F) : Req r c f f := Req.of r c (Eqm.rfl' r c f)
theorem Req.symm {r c : Nat} {f g : Nat → Nat → F} (h : Req r c f g) : Req r c g f := ⟨h.2, h.1⟩
theorem come {r c : Nat} {f g k : Nat → Nat → F} (h : ∃ s, Eqm r c f (mul r s g)) (h' : ∃ s, Eqm r c g (mul r s k)) : ∃ s, Eqm r c f (mul r s k) := by
  obtain ⟨s, h⟩ := h
  obtain ⟨t, h'⟩ := h'
  refine ⟨mul r s t, h.trans ?_⟩
  rw [mul_assoc]
  exact (Eqm.rfl' r r s).mul h'
theorem Req.trans {r c : Nat} {f g k : Nat → Nat → F} (h : Req r c f g) (h' : Req r c g k) : Req r c f k := ⟨come h.1 h'.1, come h'.2 h.2⟩

/-- Each row of g is a row of f times d, and e times row t of f. -/
theorem come_of {r c : Nat} {f g : Nat → Nat → F} (d e : Nat → F) (w : Nat → Nat) (t : Nat) (ht : t < r) (hw : ∀ i, i < r → w i < r) (h : ∀ i j, i < r → j < c → g i j = d i * f (w i) j + e i * f t j) : ∃ s, Eqm r c g (mul r s f) := by
  refine ⟨fun i x => (if x = w i then d i else 0) + (if x = t then e i else 0), fun i j hi hj => ?_⟩
  rw [h i j hi hj]
  show _ = sg r (fun x => ((if x = w i then d i else 0) + (if x = t then e i else 0)) * f x j)
  have : sg r (fun x => ((if x = w i then d i else 0) + (if x = t then e i else 0)) * f x j) = sg r (fun x => (if x = w i then d i else 0) * f x j) + sg r (fun x => (if x = t then e i else 0) * f x j) := by
    rw [← sg_add]; exact sg_congr fun x _ => by grind
  rw [this, sg_one (hw i hi) fun x _ hne => by rw [if_neg hne]; grind, sg_one ht fun x _ hne => by rw [if_neg hne]; grind, if_pos rfl, if_pos rfl]

/-- Two rows change places. -/
def swp (a b i : Nat) : Nat := if i = a then b else if i = b then a else i
theorem swp_lt {a b r i : Nat} (ha : a < r) (hb : b < r) (hi : i < r) : swp a b i < r := by
  unfold swp
  split
  · exact hb
  · split <;> assumption
theorem swp_swp (a b i : Nat) : swp a b (swp a b i) = i := by unfold swp; split <;> split <;> (try split) <;> omega
theorem req_swap {r c a b : Nat} (f : Nat → Nat → F) (ha : a < r) (hb : b < r) : Req r c f (fun i j => f (swp a b i) j) := by
  refine ⟨come_of (fun _ => 1) (fun _ => 0) (swp a b) a ha (fun i hi => swp_lt ha hb hi) (fun i j _ _ => ?_), come_of (fun _ => 1) (fun _ => 0) (swp a b) a ha (fun i hi => swp_lt ha hb hi) (fun i j _ _ => ?_)⟩
  · rw [swp_swp]; grind
  · grind
/-- A row is taken times what is not nought. -/
theorem req_scale {r c t : Nat} (f : Nat → Nat → F) (ht : t < r) {a : F} (h0 : a ≠ 0) : Req r c f (fun i j => if i = t then f i j * a else f i j) := by
  refine ⟨come_of (fun i => if i = t then inv a else 1) (fun _ => 0) id t ht (fun i hi => hi) (fun i j _ _ => ?_), come_of (fun i => if i = t then a else 1) (fun _ => 0) id t ht (fun i hi => hi) (fun i j _ _ => ?_)⟩
  · by_cases e : i = t
    · subst e
      have := inv_mul h0
      simp only [id, if_true]
      generalize f i j = x at *
      generalize inv a = y at *
      have : y * (x * a) = (y * a) * x := by grind
      grind
    · simp only [id, if_neg e]; grind
  · by_cases e : i = t
    · subst e; simp only [id, if_true]; grind
    · simp only [id, if_neg e]; grind
/-- From each other row a row is taken some times. -/
theorem req_sub {r c t : Nat} (f : Nat → Nat → F) (ht : t < r) (h : Nat → F) : Req r c f (fun i j => if i = t then f i j else f i j - h i * f t j) := by
  refine ⟨come_of (fun _ => 1) (fun i => if i = t then 0 else h i) id t ht (fun i hi => hi) (fun i j _ _ => ?_), come_of (fun _ => 1) (fun i => if i = t then 0 else -(h i)) id t ht (fun i hi => hi) (fun i j _ _ => ?_)⟩
  · by_cases e : i = t
    · subst e; simp only [id, if_true]; grind
    · simp only [id, if_neg e, if_true]; grind
  · by_cases e : i = t
    · subst e; simp only [id, if_true]; grind
    · simp only [id, if_neg e]; grind

/-- The pivot's column of a step. -/
abbrev pv (b : List Nat) (t : Nat) : Nat := b.getD t 0
/-- In steps, as far as the first k columns: b are the columns in which the rows begin. -/
structure Steps (r k : Nat) (b : List Nat) (g : Nat → Nat → F) : Prop where
  inc : ∀ s t, s < t → t < b.length → pv b s < pv b t
  lt : ∀ t, t < b.length → pv b t < k
  le : b.length ≤ r
  piv : ∀ t, t < b.length → ∀ i, i < r → g i (pv b t) = if i = t then 1 else 0
  lead : ∀ t, t < b.length → ∀ j, j < pv b t → g t j = 0
  zero : ∀ i, b.length ≤ i → i < r → ∀ j, j < k → g i j = 0
theorem steps_none (r : Nat) (g : Nat → Nat → F) : Steps r 0 [] g :=
  ⟨fun s t _ h => absurd h (by simp), fun t h => absurd h (by simp), Nat.zero_le _, fun t h => absurd h (by simp), fun t h => absurd h (by simp), fun i _ _ j h => absurd h (by omega)⟩
/-- A column in which no row begins. -/
theorem Steps.skip {r k : Nat} {b : List Nat} {g : Nat → Nat → F} (h : Steps r k b g) (h0 : ∀ i, b.length ≤ i → i < r → g i k = 0) : Steps r (k + 1) b g :=
  ⟨h.inc, fun t ht => Nat.lt_succ_of_lt (h.lt t ht), h.le, h.piv, h.lead, fun i h1 h2 j hj => by
    by_cases e : j = k
    · rw [e]; exact h0 i h1 h2
    · exact h.zero i h1 h2 j (by omega)⟩
theorem Steps.congr {r k : Nat} {b : List Nat} {g g' : Nat → Nat → F} (h : Steps r k b g) (e : Eqm r k g g') : Steps r k b g' := by
  refine ⟨h.inc, h.lt, h.le, fun t ht i hi => ?_, fun t ht j hj => ?_, fun i h1 h2 j hj => ?_⟩
  · rw [← e i _ hi (h.lt t ht)]; exact h.piv t ht i hi
  · rw [← e t j (Nat.lt_of_lt_of_le ht h.le) (Nat.lt_trans hj (h.lt t ht))]; exact h.lead t ht j hj
  · rw [← e i j h2 hj]; exact h.zero i h1 h2 j hj
theorem pv_snoc_lt (b : List Nat) (k t : Nat) (h : t < b.length) : pv (b ++ [k]) t = pv b t := by simp [pv, List.getElem?_append_left h]
theorem pv_snoc (b : List Nat) (k : Nat) : pv (b ++ [k]) b.length = k := by simp [pv]

/-- The next step: row a, not nought at column k, comes to the top, begins with 1, and is taken away from all others. -/
def nxt (p a k : Nat) (g : Nat → Nat → F) : Nat → Nat → F := fun i j =>
  if i = p then g a j * inv (g a k) else g (swp p a i) j - g (swp p a i) k * (g a j * inv (g a k))
theorem Steps.next {r k : Nat} {b : List Nat} {g : Nat → Nat → F} (h : Steps r k b g) {a : Nat} (ha : b.length ≤ a) (hr : a < r) (h0 : g a k ≠ 0) : Steps r (k + 1) (b ++ [k]) (nxt b.length a k g) := by
  have hl : (b ++ [k]).length = b.length + 1 := by simp
  have hi := mul_inv h0
  -- what row a is below column k
  have za : ∀ j, j < k → g a j = 0 := fun j hj => h.zero a ha hr j hj
  have sw : ∀ i, i < b.length → swp b.length a i = i := fun i hi => by unfold swp; rw [if_neg (by omega), if_neg (by omega)]
  have swr : ∀ i, i < r → swp b.length a i < r := fun i hi => swp_lt (by omega) hr hi
  have sge : ∀ i, b.length < i → b.length ≤ swp b.length a i := fun i hi => by unfold swp; rw [if_neg (by omega)]; split <;> omega
  have low : ∀ i j, j < k → i ≠ b.length → nxt b.length a k g i j = g (swp b.length a i) j := fun i j hj hne => by
    unfold nxt
    rw [if_neg hne, za j hj]; grind
  have lowp : ∀ j, j < k → nxt b.length a k g b.length j = 0 := fun j hj => by
    unfold nxt
    rw [if_pos rfl, za j hj]; grind
  refine ⟨fun s t hs ht => ?_, fun t ht => ?_, by omega, fun t ht i hir => ?_, fun t ht j hj => ?_, fun i h1 h2 j hj => ?_⟩
  · rw [hl] at ht
    by_cases e : t = b.length
    · rw [e, pv_snoc, pv_snoc_lt b k s (by omega)]; exact h.lt s (by omega)
    · rw [pv_snoc_lt b k s (by omega), pv_snoc_lt b k t (by omega)]; exact h.inc s t hs (by omega)
  · rw [hl] at ht
    by_cases e : t = b.length
    · rw [e, pv_snoc]; omega
    · rw [pv_snoc_lt b k t (by omega)]; have := h.lt t (by omega); omega
  · rw [hl] at ht
    by_cases e : t = b.length
    · rw [e, pv_snoc]
      unfold nxt
      by_cases e2 : i = b.length
      · rw [if_pos e2, if_pos e2]; exact hi
      · rw [if_neg e2, if_neg e2, hi]; grind
    · have ht' : t < b.length := by omega
      rw [pv_snoc_lt b k t ht']
      have hk := h.lt t ht'
      by_cases e2 : i = b.length
      · rw [e2, lowp _ hk, if_neg (by omega)]
      · rw [low i _ hk e2, h.piv t ht' _ (swr i hir)]
        by_cases e3 : i = t
        · rw [if_pos e3, if_pos (by rw [e3]; exact sw t ht')]
        · rw [if_neg e3, if_neg (fun e4 => e3 (by have := congrArg (swp b.length a) e4; rw [swp_swp, sw t ht'] at this; exact this))]
  · rw [hl] at ht
    by_cases e : t = b.length
    · rw [e, pv_snoc] at hj
      rw [e]; exact lowp j hj
    · have ht' : t < b.length := by omega
      rw [pv_snoc_lt b k t ht'] at hj
      rw [low t j (Nat.lt_trans hj (h.lt t ht')) e, sw t ht']
      exact h.lead t ht' j hj
  · rw [hl] at h1
    by_cases e : j = k
    · rw [e]
      unfold nxt
      rw [if_neg (by omega), hi]; grind
    · rw [low i j (by omega) (by omega)]
      exact h.zero _ (sge i (by omega)) (swr i h2) j (by omega)
theorem inv_ne_zero {a : F} (h : a ≠ 0) : inv a ≠ 0 := fun e => by
  have := inv_mul h
  rw [e] at this
  exact one_ne (by rw [← this]; grind)
theorem req_next {r c p a k : Nat} (g : Nat → Nat → F) (hp : p < r) (ha : a < r) (h0 : g a k ≠ 0) : Req r c g (nxt p a k g) := by
  have h1 := req_swap (c := c) g hp ha
  have h2 := req_scale (c := c) (fun i j => g (swp p a i) j) hp (inv_ne_zero h0)
  have h3 := req_sub (c := c) (fun i j => if i = p then g (swp p a i) j * inv (g a k) else g (swp p a i) j) hp (fun i => g (swp p a i) k)
  refine ((h1.trans h2).trans h3).trans (Req.of r c fun i j _ _ => ?_)
  have e : swp p a p = a := by unfold swp; rw [if_pos rfl]
  unfold nxt
  by_cases hi : i = p
  · subst hi; rw [if_pos rfl, if_pos rfl, if_pos rfl, e]
  · rw [if_neg hi, if_neg hi, if_neg hi, if_pos rfl, e]

/-- What comes of the rows. -/
def Span (r c : Nat) (g : Nat → Nat → F) (v : Nat → F) : Prop := ∃ x : Nat → F, ∀ j, j < c → v j = sg r (fun i => x i * g i j)
theorem span_req {r c : Nat} {f g : Nat → Nat → F} (h : Req r c f g) {v : Nat → F} (hv : Span r c f v) : Span r c g v := by
  obtain ⟨⟨s, hs⟩, _⟩ := h
  obtain ⟨x, hx⟩ := hv
  refine ⟨fun i => sg r (fun t => x t * s t i), fun j hj => ?_⟩
  rw [hx j hj, sg_congr (g := fun i => x i * mul r s g i j) fun i hi => by rw [hs i j hi hj]]
  have := congrFun (congrFun (mul_assoc r r (fun _ => x) s g) 0) j
  exact this.symm
theorem span_row {r c : Nat} (g : Nat → Nat → F) {t : Nat} (ht : t < r) : Span r c g (g t) := by
  refine ⟨fun i => if i = t then 1 else 0, fun j _ => ?_⟩
  dsimp only
  rw [sg_one ht fun i _ hne => by rw [if_neg hne]; grind, if_pos rfl]; grind
/-- What comes of rows in steps is told by its numbers where they begin. -/
theorem Steps.told {r c : Nat} {b : List Nat} {g : Nat → Nat → F} (h : Steps r c b g) {v : Nat → F} (hv : Span r c g v) : ∀ j, j < c → v j = sg b.length (fun t => v (pv b t) * g t j) := by
  obtain ⟨x, hx⟩ := hv
  have hp : ∀ t, t < b.length → v (pv b t) = x t := fun t ht => by
    have htr := Nat.lt_of_lt_of_le ht h.le
    rw [hx _ (h.lt t ht), sg_one htr fun i hi hne => by rw [h.piv t ht i hi, if_neg hne]; grind, h.piv t ht t htr, if_pos rfl]; grind
  intro j hj
  rw [hx j hj, sg_less h.le fun i h1 h2 => by rw [h.zero i h1 h2 j hj]; grind]
  exact sg_congr fun t ht => by rw [hp t ht]
/-- Where it begins, a row begins. -/
theorem Steps.begins {r c : Nat} {b : List Nat} {g : Nat → Nat → F} (h : Steps r c b g) {v : Nat → F} (hv : Span r c g v) {k : Nat} (hk : k < c) (h0 : ∀ j, j < k → v j = 0) (h1 : v k ≠ 0) : k ∈ b := by
  rw [h.told hv k hk] at h1
  obtain ⟨t, ht, hne⟩ := sg_ne h1
  have n1 : v (pv b t) ≠ 0 := fun e => hne (by rw [e]; grind)
  have n2 : g t k ≠ 0 := fun e => hne (by rw [e]; grind)
  have l1 : k ≤ pv b t := Nat.le_of_not_lt fun hlt => n1 (h0 _ hlt)
  have l2 : pv b t ≤ k := Nat.le_of_not_lt fun hlt => n2 (h.lead t ht k hlt)
  have e : pv b t = k := by omega
  rw [← e]
  show b.getD t 0 ∈ b
  rw [List.getD_eq_getElem?_getD, List.getElem?_eq_getElem ht]
  exact List.getElem_mem ht
theorem Steps.mem {r c : Nat} {b : List Nat} {g : Nat → Nat → F} (h : Steps r c b g) {k : Nat} (hk : k ∈ b) : ∃ t, t < b.length ∧ pv b t = k := by
  obtain ⟨t, ht, rfl⟩ := List.mem_iff_getElem.1 hk
  exact ⟨t, ht, by simp [pv, ht]⟩
theorem inc_same : ∀ (a b : List Nat), a.Pairwise (· < ·) → b.Pairwise (· < ·) → (∀ x, x ∈ a ↔ x ∈ b) → a = b
  | [], [], _, _, _ => rfl
  | [], y :: b, _, _, h => absurd ((h y).2 (List.mem_cons_self ..)) (by simp)
  | x :: a, [], _, _, h => absurd ((h x).1 (List.mem_cons_self ..)) (by simp)
  | x :: a, y :: b, ha, hb, h => by
    have ha' := List.pairwise_cons.1 ha
    have hb' := List.pairwise_cons.1 hb
    have exy : x = y := by
      rcases List.mem_cons.1 ((h x).1 (List.mem_cons_self ..)) with e | e
      · exact e
      · rcases List.mem_cons.1 ((h y).2 (List.mem_cons_self ..)) with e' | e'
        · exact e'.symm
        · have := hb'.1 x e; have := ha'.1 y e'; omega
    subst exy
    rw [inc_same a b ha'.2 hb'.2 fun z => ?_]
    constructor
    · intro hz
      rcases List.mem_cons.1 ((h z).1 (List.mem_cons_of_mem _ hz)) with e | e
      · have := ha'.1 z hz; omega
      · exact e
    · intro hz
      rcases List.mem_cons.1 ((h z).2 (List.mem_cons_of_mem _ hz)) with e | e
      · have := hb'.1 z hz; omega
      · exact e
theorem Steps.pairs {r c : Nat} {b : List Nat} {g : Nat → Nat → F} (h : Steps r c b g) : b.Pairwise (· < ·) := by
  refine List.pairwise_iff_getElem.2 fun i j hi hj hij => ?_
  have := h.inc i j hij hj
  simpa [pv, hi, hj] using this
/-- There is but one form in steps of the same rows. -/
theorem Steps.unique {r c : Nat} {b d : List Nat} {g k : Nat → Nat → F} (h : Steps r c b g) (h' : Steps r c d k) (e : Req r c g k) : b = d ∧ Eqm r c g k := by
  have one' : ∀ {b d : List Nat} {g k : Nat → Nat → F}, Steps r c b g → Steps r c d k → Req r c g k → ∀ x, x ∈ b → x ∈ d := fun {b d g k} h h' e x hx => by
    obtain ⟨t, ht, rfl⟩ := h.mem hx
    have htr := Nat.lt_of_lt_of_le ht h.le
    refine h'.begins (span_req e (span_row g htr)) (h.lt t ht) (fun j hj => h.lead t ht j hj) ?_
    rw [h.piv t ht t htr, if_pos rfl]; exact one_ne
  have hbd : b = d := inc_same b d h.pairs h'.pairs fun x => ⟨one' h h' e x, one' h' h e.symm x⟩
  subst hbd
  refine ⟨rfl, fun i j hi hj => ?_⟩
  by_cases hl : i < b.length
  · have ht := h'.told (span_req e (span_row g hi)) j hj
    rw [ht, sg_one hl fun t ht2 hne => by rw [h.piv t ht2 i hi, if_neg (fun e2 => hne e2.symm)]; grind, h.piv i hl i hi, if_pos rfl]; grind
  · rw [h.zero i (by omega) hi j hj, h'.zero i (by omega) hi j hj]

/-- How many steps a matrix has: it goes through so many, and shows so many. -/
theorem Steps.thru {r c : Nat} {b : List Nat} {f g : Nat → Nat → F} (h : Steps r c b g) (e : Req r c f g) : Thru r c b.length f := by
  obtain ⟨⟨s, hs⟩, _⟩ := e
  refine ⟨s, g, hs.trans fun i j hi hj => ?_⟩
  exact sg_less h.le fun t h1 h2 => by rw [h.zero t h1 h2 j hj]; grind
theorem Steps.sees {r c : Nat} {b : List Nat} {f g : Nat → Nat → F} (h : Steps r c b g) (e : Req r c f g) : Sees r c b.length f := by
  obtain ⟨_, ⟨t, ht⟩⟩ := e
  refine ⟨t, fun j s => if j = pv b s then 1 else 0, fun i s hi hs => ?_⟩
  have hir := Nat.lt_of_lt_of_le hi h.le
  rw [← mul_assoc]
  have e1 : mul c (mul r t f) (fun j s => if j = pv b s then (1 : F) else 0) i s = sg c (fun j => g i j * if j = pv b s then (1 : F) else 0) := sg_congr fun j hj => by rw [ht i j hir hj]
  rw [e1, sg_one (h.lt s hs) fun j _ hne => by rw [if_neg hne]; grind, if_pos rfl, h.piv s hs i hir]
  show _ = if i = s then (1 : F) else 0
  split <;> grind

end Go.Proofs.Ytkebjmapdcbnaaa.Mx
