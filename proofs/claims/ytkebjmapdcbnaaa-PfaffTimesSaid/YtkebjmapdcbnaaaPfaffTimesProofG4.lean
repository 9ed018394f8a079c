/- Several texts, one behind the other: PartF, MatG, GaC1, Bz, Fld, GaC2, MtC1, GaC3, MatS, SoC1, PfTim. -/
import Derived.Test.YtkebjmapdcbnaaaPfaffTimesProofG1
import Derived.Test.YtkebjmapdcbnaaaPfaffTimesProofG3
import Derived.StillTailTactics
import Derived.Deep.Cut
import Derived.Deep.CutRange
import Derived.Deep.DeepCutAuto

/- The heads of r rows, of which the first k are made. For all packages. -/
namespace Go.Proofs.Ytkebjmapdcbnaaa
open Go.ChangeShapes Go.WideShapes Go.ChangeAt Go.RowKit
set_option linter.unusedVariables false

/-- Of a matrix that is made row by row the first k rows. -/
structure PartF (w : World) (g : Nat) (G : Nat → Nat) (r c k : Nat) (f : Nat → Nat → Int) : Prop where
  head : w.heap[g]? = some (.cells ((List.range r).map fun i => if i < k then Value.slice (some ⟨G i, 0, none⟩) c c else .slice none 0 0).toArray 32 (0, 0))
  row : ∀ i, i < k → Row w (G i) (Mx.row c (f i))
  after : ∀ i, i < k → g < G i
  apart : ∀ i j, i < k → j < k → i ≠ j → G i ≠ G j
theorem PartF.lt {w : World} {g : Nat} {G : Nat → Nat} {r c k : Nat} {f : Nat → Nat → Int} (h : PartF w g G r c k f) : g < w.heap.size := by
  rcases Nat.lt_or_ge g w.heap.size with h' | h'
  · exact h'
  · have := h.head; rw [Array.getElem?_eq_none h'] at this; cases this
theorem PartF.keep {w w' : World} {g : Nat} {G : Nat → Nat} {r c k : Nat} {f : Nat → Nat → Int} (h : PartF w g G r c k f) (hk : Kp w w') : PartF w' g G r c k f :=
  ⟨by rw [hk.block g h.lt]; exact h.head, fun i hi => (h.row i hi).keep hk, h.after, h.apart⟩
theorem PartF.cell {w : World} {g : Nat} {G : Nat → Nat} {r c k : Nat} {f : Nat → Nat → Int} (h : PartF w g G r c k f) {i : Nat} (hi : k ≤ i) (hr : i < r) : w.cell? ⟨g, i, none⟩ = some (.slice none 0 0) := by
  rw [cell_of_row _ _ i _ _ (0, 0) h.head]; simp [hr]; omega
theorem PartF.free {w : World} {g : Nat} {G : Nat → Nat} {r c k : Nat} {f : Nat → Nat → Int} (h : PartF w g G r c k f) (i : Nat) : w.frozen? ⟨g, i, none⟩ = false := frozen_of_row w g i _ _ h.head
theorem PartF.start {w : World} {base g r c : Nat} (f : Nat → Nat → Int) (h : w.ownsRow base 32 1 (.slice (some ⟨g, 0, none⟩) r r) r (madeCells #[.slice none 0 0] (r * 1)).toList) : PartF w g (fun _ => 0) r c 0 f :=
  ⟨(Part.start (c := c) h).head, fun i hi => absurd hi (by omega), fun i hi => absurd hi (by omega), fun i j hi => absurd hi (by omega)⟩
theorem PartF.step {w w1 w2 : World} {g : Nat} {G : Nat → Nat} {r c k : Nat} {f : Nat → Nat → Int} (h : PartF w g G r c k f) (hk : k < r) (hkp : Kp w w1) (h2 : Row w2 w.heap.size (Mx.row c (f k)))
    (hb : ∀ b, b ≠ w.heap.size → w2.heap[b]? = (w1.setCell ⟨g, k, none⟩ (.slice (some ⟨w.heap.size, 0, none⟩) c c)).heap[b]?) :
    PartF w2 g (fun i => if i = k then w.heap.size else G i) r c (k + 1) f := by
  have hlt := h.lt
  have h1 := h.keep hkp
  refine ⟨?_, fun i hi => ?_, fun i hi => ?_, fun i j hi hj hne => ?_⟩
  · rw [hb g (by omega), heap_setCell_same w1 g k _ _ _ h1.head]
    congr 2
    refine Array.toList_inj.1 (List.ext_getElem (by simp) fun i h2 h3 => ?_)
    simp only [Array.toList_setIfInBounds, List.getElem_set, List.getElem_map, List.getElem_range]
    rcases Nat.lt_trichotomy i k with e | e | e
    · simp [show ¬ k = i by omega, show i < k from e, show i < k + 1 by omega, show ¬ i = k by omega]
    · subst e; simp
    · simp [show ¬ k = i by omega, show ¬ i < k by omega, show ¬ i < k + 1 by omega]
  · by_cases e : i = k
    · subst e
      rw [if_pos rfl]; exact h2
    · rw [if_neg e]
      have hi' : i < k := by omega
      have := (h.row i hi').lt
      have h3 : Row (w1.setCell ⟨g, k, none⟩ (.slice (some ⟨w.heap.size, 0, none⟩) c c)) (G i) (Mx.row c (f i)) := (h1.row i hi').far (by show G i ≠ g; have := h.after i hi'; omega) _
      unfold Row at h3 ⊢
      rw [hb (G i) (by omega)]; exact h3
  · by_cases e : i = k
    · rw [if_pos e]; exact hlt
    · rw [if_neg e]; exact h.after i (by omega)
  · have hG : ∀ a, a < k → G a < w.heap.size := fun a ha => (h.row a ha).lt
    by_cases e : i = k
    · rw [if_pos e, if_neg (by omega)]
      have := hG j (by omega); omega
    · rw [if_neg e]
      by_cases e2 : j = k
      · rw [if_pos e2]; have := hG i (by omega); omega
      · rw [if_neg e2]; exact h.apart i j (by omega) (by omega) hne
theorem PartF.done {w : World} {g : Nat} {G : Nat → Nat} {r c : Nat} {f : Nat → Nat → Int} (h : PartF w g G r c r f) : Grid w g G r c f := by
  refine ⟨?_, fun i hi => h.row i hi, h.after, h.apart⟩
  rw [h.head]
  congr 2
  refine Array.toList_inj.1 (List.ext_getElem (by simp) fun i h2 h3 => ?_)
  simp only [List.getElem_map, List.getElem_range]
  rw [if_pos (by simpa using h3)]

theorem PartF.ext {w : World} {g : Nat} {G : Nat → Nat} {r c k : Nat} {f f' : Nat → Nat → Int} (h : PartF w g G r c k f) (e : ∀ i j, i < k → j < c → f i j = f' i j) : PartF w g G r c k f' :=
  ⟨h.head, fun i hi => by rw [← Mx.row_ext (fun j hj => e i j hi hj)]; exact h.row i hi, h.after, h.apart⟩
theorem PartF.cellOf {w : World} {g : Nat} {G : Nat → Nat} {r c k : Nat} {f : Nat → Nat → Int} (h : PartF w g G r c k f) {i : Nat} (hi : i < k) (hr : i < r) : w.cell? ⟨g, i, none⟩ = some (.slice (some ⟨G i, 0, none⟩) c c) := by
  rw [cell_of_row _ _ i _ _ (0, 0) h.head]; simp [hr, hi]
theorem PartF.el {w : World} {g : Nat} {G : Nat → Nat} {r c k : Nat} {f : Nat → Nat → Int} (h : PartF w g G r c k f) {i j : Nat} (hi : i < k) (hj : j < c) : w.cell? ⟨G i, j, none⟩ = some (.int .i64 (f i j)) := by
  have := (h.row i hi).cell j (by rw [Mx.len_row]; exact hj)
  rwa [Mx.row_at _ _ _ hj] at this
theorem PartF.freeOf {w : World} {g : Nat} {G : Nat → Nat} {r c k : Nat} {f : Nat → Nat → Int} (h : PartF w g G r c k f) {i : Nat} (hi : i < k) (j : Nat) : w.frozen? ⟨G i, j, none⟩ = false := (h.row i hi).free j
theorem PartF.put {w : World} {g : Nat} {G : Nat → Nat} {r c k : Nat} {f : Nat → Nat → Int} (h : PartF w g G r c k f) {i : Nat} (hi : i < k) (j : Nat) (x : Int) :
    PartF (w.setCell ⟨G i, j, none⟩ (.int .i64 x)) g G r c k (fun a b => if a = i ∧ b = j then x else f a b) := by
  refine ⟨?_, fun a ha => ?_, h.after, h.apart⟩
  · rw [heap_setCell_other w _ g _ (by show g ≠ G i; have := h.after i hi; omega)]; exact h.head
  · by_cases e : a = i
    · subst e
      have := (h.row a hi).put j x
      rw [Mx.row_set] at this
      rw [show (fun b => if a = a ∧ b = j then x else f a b) = fun b => if b = j then x else f a b by funext b; simp]
      exact this
    · rw [show (fun b => if a = i ∧ b = j then x else f a b) = f a by funext b; simp [e]]
      exact (h.row a ha).far (by show G a ≠ G i; exact h.apart a i ha hi e) _

end Go.Proofs.Ytkebjmapdcbnaaa

/- Plain facts for matrices in steps, as programs make them: clean, the next step, ranks, what can be undone. No program is named here. -/
namespace Go.Proofs.Ytkebjmapdcbnaaa
set_option linter.unusedVariables false

/-- The first row from row i on that is not nought at column j; or how many rows there are. -/
def First (r : Nat) (f : Nat → Nat → Fp.F) (i j k : Nat) : Prop := i ≤ k ∧ k ≤ r ∧ (∀ t, i ≤ t → t < k → f t j = 0) ∧ (k < r → f k j ≠ 0)
/-- A row is taken from another one, so many times. -/
def less (f : Nat → Nat → Fp.F) (a i : Nat) (x : Fp.F) : Nat → Nat → Fp.F := fun p q => if p = a then f a q - x * f i q else f p q

/-- Row i begins with 1 at column j, and is taken from all others. -/
def cln (f : Nat → Nat → Fp.F) (i j : Nat) : Nat → Nat → Fp.F := fun p q =>
  if p = i then f i q * Fp.inv (f i j) else f p q - f p j * (f i q * Fp.inv (f i j))
/-- The same, for the rows before row k alone. -/
def clnTo (f : Nat → Nat → Fp.F) (i j k : Nat) : Nat → Nat → Fp.F := fun p q =>
  if p = i then f i q * Fp.inv (f i j) else if p < k then f p q - f p j * (f i q * Fp.inv (f i j)) else f p q
theorem clnTo_same (f : Nat → Nat → Fp.F) (i j : Nat) (p q : Nat) : clnTo f i j i p q = clnTo f i j (i + 1) p q := by
  unfold clnTo
  by_cases e : p = i
  · rw [if_pos e, if_pos e]
  · rw [if_neg e, if_neg e]
    by_cases h : p < i
    · rw [if_pos h, if_pos (by omega)]
    · rw [if_neg h, if_neg (by omega)]
theorem clnTo_next (f : Nat → Nat → Fp.F) {i j k : Nat} (hk : k ≠ i) (p q : Nat) : less (clnTo f i j k) k i (f k j) p q = clnTo f i j (k + 1) p q := by
  unfold less clnTo
  by_cases e : p = k
  · subst e
    rw [if_pos rfl, if_neg hk, if_neg (by omega), if_pos rfl, if_neg hk, if_pos (by omega)]
  · rw [if_neg e]
    by_cases e2 : p = i
    · rw [if_pos e2, if_pos e2]
    · rw [if_neg e2, if_neg e2]
      by_cases h : p < k
      · rw [if_pos h, if_pos (by omega)]
      · rw [if_neg h, if_neg (by omega)]

/-- The columns of the pivots as numbers. -/
def cols (b : List Nat) : List Int := b.map fun (k : Nat) => (k : Int)
theorem len_cols (b : List Nat) : (cols b).length = b.length := by simp [cols]
theorem cols_snoc (b : List Nat) (k : Nat) : cols (b ++ [k]) = cols b ++ [(k : Int)] := by simp [cols]
theorem cols_inj {b d : List Nat} (h : b = d) : cols b = cols d := by rw [h]

/-- In steps as far as the first k columns, and the rows come of the rows of f. -/
structure Stair (r c k : Nat) (f : Nat → Nat → Fp.F) (b : List Nat) (g : Nat → Nat → Fp.F) : Prop where
  steps : Mx.Steps r k b g
  req : Mx.Req r c f g
theorem Stair.start (r c : Nat) (f : Nat → Nat → Fp.F) : Stair r c 0 f [] f := ⟨Mx.steps_none r f, Mx.Req.refl r c f⟩
theorem Stair.one {r c : Nat} {f : Nat → Nat → Fp.F} {b d : List Nat} {g h : Nat → Nat → Fp.F} (s : Stair r c c f b g) (t : Stair r c c f d h) : b = d ∧ Mx.Eqm r c g h :=
  s.steps.unique t.steps (s.req.symm.trans t.req)
/-- What comes of the two heads that changed places, and of clean. -/
theorem cln_nxt (g : Nat → Nat → Fp.F) (p a k : Nat) : cln (fun i => if i = a then g p else if i = p then g a else g i) p k = Mx.nxt p a k g := by
  have hp : (fun i => if i = a then g p else if i = p then g a else g i) p = g a := by
    by_cases e : p = a
    · subst e; simp
    · show (if p = a then g p else if p = p then g a else g p) = g a
      rw [if_neg e, if_pos rfl]
  funext i j
  unfold cln Mx.nxt
  rw [hp]
  by_cases e : i = p
  · rw [if_pos e, if_pos e]
  · rw [if_neg e, if_neg e]
    have hs : (if i = a then g p else if i = p then g a else g i) = g (Mx.swp p a i) := by
      unfold Mx.swp
      rw [if_neg e, if_neg e]
      by_cases e2 : i = a
      · rw [if_pos e2, if_pos e2]
      · rw [if_neg e2, if_neg e2]
    show (if i = a then g p else if i = p then g a else g i) j - (if i = a then g p else if i = p then g a else g i) k * _ = _
    rw [hs]
theorem Stair.next {r c k : Nat} {f : Nat → Nat → Fp.F} {b : List Nat} {g : Nat → Nat → Fp.F} (s : Stair r c k f b g) {a : Nat} (ha : b.length ≤ a) (hr : a < r) (h0 : g a k ≠ 0) : Stair r c (k + 1) f (b ++ [k]) (Mx.nxt b.length a k g) :=
  ⟨s.steps.next ha hr h0, s.req.trans (Mx.req_next g (by omega) hr h0)⟩
theorem Stair.skip {r c k : Nat} {f : Nat → Nat → Fp.F} {b : List Nat} {g : Nat → Nat → Fp.F} (s : Stair r c k f b g) (h0 : ∀ i, b.length ≤ i → i < r → g i k = 0) : Stair r c (k + 1) f b g :=
  ⟨s.steps.skip h0, s.req⟩

theorem Stair.thru {r c : Nat} {f : Nat → Nat → Fp.F} {b : List Nat} {g : Nat → Nat → Fp.F} (s : Stair r c c f b g) : Mx.Thru r c b.length f := s.steps.thru s.req
theorem Stair.sees {r c : Nat} {f : Nat → Nat → Fp.F} {b : List Nat} {g : Nat → Nat → Fp.F} (s : Stair r c c f b g) : Mx.Sees r c b.length f := s.steps.sees s.req
theorem Stair.le {r c k : Nat} {f : Nat → Nat → Fp.F} {b : List Nat} {g : Nat → Nat → Fp.F} (s : Stair r c k f b g) : b.length ≤ r := s.steps.le
theorem rank_flip {r c : Nat} {f : Nat → Nat → Fp.F} {b d : List Nat} {g h : Nat → Nat → Fp.F} (s : Stair r c c f b g) (t : Stair c r r (Mx.flip f) d h) : d.length = b.length :=
  Nat.le_antisymm (Mx.sees_thru t.sees s.thru.flip) (Mx.sees_thru s.sees.flip t.thru)
theorem rank_mul {r q c : Nat} {f f' : Nat → Nat → Fp.F} {b1 b2 b3 : List Nat} {g1 g2 g3 : Nat → Nat → Fp.F} (s1 : Stair r q q f b1 g1) (s2 : Stair q c c f' b2 g2) (s3 : Stair r c c (Mx.mul q f f') b3 g3) :
    b3.length ≤ b1.length ∧ b3.length ≤ b2.length ∧ b1.length + b2.length ≤ b3.length + q :=
  ⟨Mx.sees_thru s3.sees (s1.thru.mul_left f'), Mx.sees_thru s3.sees (s2.thru.mul_right f), Mx.sylvester s1.sees s2.sees s3.thru⟩
theorem rank_plus {r c : Nat} {f f' : Nat → Nat → Fp.F} {b1 b2 b3 : List Nat} {g1 g2 g3 : Nat → Nat → Fp.F} (s1 : Stair r c c f b1 g1) (s2 : Stair r c c f' b2 g2) (s3 : Stair r c c (Mx.plus f f') b3 g3) :
    b3.length ≤ b1.length + b2.length ∧ b1.length ≤ b3.length + b2.length ∧ b2.length ≤ b3.length + b1.length := by
  refine ⟨Mx.sees_thru s3.sees (s1.thru.plus s2.thru), Mx.sees_thru s1.sees ?_, Mx.sees_thru s2.sees ?_⟩
  · refine (s3.thru.plus s2.thru.neg).eqm fun i j _ _ => ?_
    show f i j = (f i j + f' i j) + -(f' i j)
    grind
  · refine (s3.thru.plus s1.thru.neg).eqm fun i j _ _ => ?_
    show f' i j = (f i j + f' i j) + -(f i j)
    grind

theorem Stair.again {r c : Nat} {f : Nat → Nat → Fp.F} {b d : List Nat} {g h : Nat → Nat → Fp.F} (s : Stair r c c f b g) (t : Stair r c c g d h) : b = d ∧ Mx.Eqm r c g h := s.steps.unique t.steps t.req
theorem Stair.undone {r c : Nat} {f k : Nat → Nat → Fp.F} {b d : List Nat} {g h : Nat → Nat → Fp.F} (s : Stair r c c f b g) (hk : Mx.dt r k ≠ 0) (t : Stair r c c (Mx.mul r k f) d h) : b = d ∧ Mx.Eqm r c g h := by
  obtain ⟨u, hu⟩ := Mx.undo hk
  exact s.steps.unique t.steps ((s.req.symm.trans (Mx.req_undo hu f)).trans t.req)
end Go.Proofs.Ytkebjmapdcbnaaa

/- Contracts of package gauss, first part: subtract, below, clone. -/
namespace Go.Proofs.Ytkebjmapdcbnaaa
open Go.ChangeShapes Go.WideShapes Go.ChangeAt Go.RowKit
set_option linter.unusedVariables false

theorem gval (a : Fp.F) : 0 ≤ (a.val : Int) ∧ (a.val : Int) ≤ 9972 := by have := a.isLt; omega
theorem val_less (a x b : Fp.F) : ((a.val : Int) + (9973 - (x.val : Int)) * (b.val : Int)) % 9973 = ((a - x * b).val : Int) := by
  rw [← Fp.ofInt_val, Fp.ofInt_add, Fp.ofInt_mul, Fp.ofInt_self, Fp.ofInt_self]
  have h : Fp.ofInt (9973 - (x.val : Int)) + x = 0 := by
    have h2 := Fp.ofInt_add (9973 - (x.val : Int)) (x.val : Int)
    rw [Fp.ofInt_self, show (9973 - (x.val : Int)) + (x.val : Int) = 9973 by omega] at h2
    rw [← h2]; decide
  generalize Fp.ofInt (9973 - (x.val : Int)) = y at *
  have : a + y * b = a - x * b := by
    have e : y = -x := by grind
    rw [e]; grind
  rw [this]
theorem less_bound (x b : Fp.F) : 0 ≤ (9973 - (x.val : Int)) * (b.val : Int) ∧ (9973 - (x.val : Int)) * (b.val : Int) ≤ 99450756 := by
  have h1 := gval x
  have h2 := gval b
  exact ⟨Int.mul_nonneg (by omega) h2.1, Int.mul_le_mul (show 9973 - (x.val : Int) ≤ 9973 by omega) h2.2 h2.1 (by decide)⟩
theorem less_mod (a x b : Fp.F) : ((a.val : Int) + (9973 - (x.val : Int)) * (b.val : Int)).tmod 9973 = ((a - x * b).val : Int) := by
  have h := less_bound x b
  rw [Int.tmod_eq_emod_of_nonneg (by have := gval a; omega), val_less]
theorem times_mod (a b : Fp.F) : ((a.val : Int) * (b.val : Int)).tmod 9973 = ((a * b).val : Int) := by
  have h1 := gval a
  have h2 := gval b
  rw [Int.tmod_eq_emod_of_nonneg (Int.mul_nonneg h1.1 h2.1), Fp.mul_val]
theorem times_bound (a b : Fp.F) : 0 ≤ (a.val : Int) * (b.val : Int) ∧ (a.val : Int) * (b.val : Int) ≤ 99440784 := by
  have h1 := gval a
  have h2 := gval b
  exact ⟨Int.mul_nonneg h1.1 h2.1, Int.mul_le_mul h1.2 h2.2 h2.1 (by decide)⟩



set_option maxRecDepth 100000 in
/-- copy(row, l): a row of noughts just made, and a slice of as many numbers. -/
theorem copy_row (w1 : World) (g n c : Nat) (A : Option Addr) (l : List Int) (ty : TypeId) (hr : Row w1 g (List.replicate n 0)) (hl : Lies w1 A l) (hn : n = l.length) :
    ∃ w2, (Builtin.copy_ #[32, 32] ty #[.slice (some ⟨g, 0, none⟩) n n, .slice A n c]).run Try.prog w1 = .ok (goInt n) w2 ∧
      Row w2 g l ∧ (∀ B w0, Below B w0 w1 → B ≤ g → Below B w0 w2) ∧ ∀ k, k ≠ g → w2.heap[k]? = w1.heap[k]? := by
  obtain ⟨i0, hi, hz0, hz1, hz2⟩ := info_parts int_info
  have hsz : (Try.prog.info? 3).map (·.size) = some 1 := by rw [hi]; simp [hz1]
  subst hn
  by_cases h0 : l.length = 0
  · obtain rfl : l = [] := List.eq_nil_of_length_eq_zero h0
    exact ⟨w1, run_copy_none w1 _ _ ty 3 _ A 0 0 0 c Try.underlying32 hsz (by simp), hr, fun _ _ h _ => h, fun _ _ => rfl⟩
  · obtain ⟨ad, rfl, _, _⟩ := hl 0 (by omega)
    have hlen : (ints l).length = l.length := by rw [ints, List.length_map]
    have hrun := run_copy_row (P := Try.prog) w1 32 32 ty 3 g 0 l.length l.length ad l.length c _ 3 (ints l) Try.underlying32 hsz hr (by rw [hlen]; exact (Nat.min_self _).symm)
      (fun j v hj => by
        have hj' : j < l.length := by
          rcases Nat.lt_or_ge j l.length with hlt | hge
          · exact hlt
          · rw [List.getElem?_eq_none (by simpa using hge)] at hj; cases hj
        obtain ⟨ad', e, _, hc⟩ := hl j hj'
        obtain rfl := Option.some.inj e
        rw [hc, ← hj]
        simp [hj']) (by rw [hlen]; simp) (fun v hv => by simp at hv; obtain ⟨y, _, rfl⟩ := hv; rfl)
    rw [hlen] at hrun
    refine ⟨_, hrun, ?_, fun B w0 hb hB => below_setRow hb hB _, fun k hk => setRow_other w1 g k _ hk⟩
    unfold Row
    rw [setRow_heap w1 g _ _ 3 (0, 0) hr]
    congr 3
    simp [ints]

end Go.Proofs.Ytkebjmapdcbnaaa

/- Contracts of package euclid: Gcd and Bezout within and outside of their bounds. -/
namespace Go.Proofs.Ytkebjmapdcbnaaa
open Go.ChangeShapes Go.WideShapes Go.ChangeAt Go.RowKit
set_option linter.unusedVariables false

/-- The error that the program gives for a number out of its range. -/
abbrev errRange : Value := .iface 44 (.int .i64 1)

end Go.Proofs.Ytkebjmapdcbnaaa

/- Contracts of package field: element, times, Add, Mul, Div, Pow, within and outside of their bounds. -/
namespace Go.Proofs.Ytkebjmapdcbnaaa
open Go.ChangeShapes Go.WideShapes Go.ChangeAt Go.RowKit
set_option linter.unusedVariables false

/-- The error that the program gives where there is none. -/
abbrev errNone : Value := .iface 44 (.int .i64 5)

/-- An element of the field as the program has it. -/
abbrev el (a : Fp.F) : Value := .int .i64 (a.val : Int)

theorem prod_bound (a b : Fp.F) : 0 ≤ (a.val : Int) * (b.val : Int) ∧ (a.val : Int) * (b.val : Int) ≤ 99440784 := by
  have h1 := Fp.val_bound a
  have h2 := Fp.val_bound b
  have := Int.mul_le_mul h1.2 h2.2 h2.1 (by omega)
  exact ⟨Int.mul_nonneg h1.1 h2.1, by omega⟩

/-- Both are elements, or one is none. -/
abbrev Both (a b : Int) : Prop := (0 ≤ a ∧ a ≤ 9972) ∧ (0 ≤ b ∧ b ≤ 9972)



theorem inv_unique {b x : Fp.F} (hb : b ≠ 0) (h : x * b = 1) : x = Fp.inv b := by
  have h2 := Fp.inv_mul hb
  generalize Fp.inv b = i at *
  exact Fp.mul_cancel hb (h.trans h2.symm)

/-- Bezout's number of an element and the prime is what undoes the element. -/
theorem bez_inv (b : Fp.F) (hb : b ≠ 0) (x y : Int) (h : Num.BezOk (b.val : Int) 9973 x y) : x = ((Fp.inv b).val : Int) := by
  obtain ⟨e, k, _⟩ := h
  have hg : Int.gcd (b.val : Int) 9973 = 1 := Fp.coprime b.val (Fp.ne_val hb) b.isLt
  have k := k (by decide)
  rw [hg] at e k
  have k2 : x < 9973 := by
    have : (((9973 : Int).natAbs / 1 : Nat) : Int) = 9973 := rfl
    omega
  have hx := Fp.ofInt_of x (by omega) (by omega)
  have hm : Fp.ofInt x * b = 1 := by
    refine Fp.val_inj ?_
    rw [Fp.mul_val, hx]
    have : (((1 : Fp.F).val : Nat) : Int) = 1 := rfl
    rw [this, Int.mul_comm]
    omega
  rw [← hx, inv_unique hb hm]


end Go.Proofs.Ytkebjmapdcbnaaa

/- Contracts of package gauss, second part: clean. -/
namespace Go.Proofs.Ytkebjmapdcbnaaa
open Go.ChangeShapes Go.WideShapes Go.ChangeAt Go.RowKit
set_option linter.unusedVariables false

end Go.Proofs.Ytkebjmapdcbnaaa

/- Contracts of package mat, first part: zero, identity, checkRow, Check, checkBoth. -/
namespace Go.Proofs.Ytkebjmapdcbnaaa
open Go.ChangeShapes Go.WideShapes Go.ChangeAt Go.RowKit
set_option linter.unusedVariables false



/-- The first k rows have no fault. -/
def rowsGo (lo hi : Int) (m : List (List Int)) (k : Nat) : Prop := Mx.rows lo hi (m.getD 0 []).length m = Mx.rows lo hi (m.getD 0 []).length (m.drop k)
theorem rows_go {lo hi : Int} {m : List (List Int)} {k : Nat} (hk : k < m.length) (h : rowsGo lo hi m k) (h0 : Mx.rcode lo hi (m.getD 0 []).length (m.getD k []) = 0) : rowsGo lo hi m (k + 1) := by
  unfold rowsGo at *
  rw [h, Mx.rows_drop hk, if_pos h0]

/-- What is wrong with two matrices: the first one's fault, else the second one's. -/
def mcode2 (a b : List (List Int)) : Nat := if Mx.mcode 5 0 9972 a = 0 then Mx.mcode 5 0 9972 b else Mx.mcode 5 0 9972 a
theorem mcode2_zero {a b : List (List Int)} (h : mcode2 a b = 0) : Mx.mcode 5 0 9972 a = 0 ∧ Mx.mcode 5 0 9972 b = 0 := by
  unfold mcode2 at h
  by_cases h0 : Mx.mcode 5 0 9972 a = 0
  · rw [if_pos h0] at h; exact ⟨h0, h⟩
  · rw [if_neg h0] at h; exact absurd h h0

end Go.Proofs.Ytkebjmapdcbnaaa

/- Contracts of package gauss, third part: Steps, Rank. -/
namespace Go.Proofs.Ytkebjmapdcbnaaa
open Go.ChangeShapes Go.WideShapes Go.ChangeAt Go.RowKit
set_option linter.unusedVariables false

/-- The matrix in steps, and the columns of its pivots. -/
def GotSteps (r c : Nat) (f : Nat → Nat → Fp.F) (w : World) (e : Ending) (w' : World) : Prop :=
  ∃ b g A d A' d', Stair r c c f b g ∧ e = .returned (.tuple #[.slice A r d, .slice A' b.length d', .nilIface]) ∧ LiesM w' A (Mx.matl r c g) ∧ Lies w' A' (cols b) ∧ Kp w w'
/-- No matrix, no columns, an error. -/
def FailsSteps (c : Nat) (w : World) (e : Ending) (w' : World) : Prop := e = .returned (.tuple #[.slice none 0 0, .slice none 0 0, errOf c]) ∧ Kp w w'


end Go.Proofs.Ytkebjmapdcbnaaa

/- Plain facts for systems of equations over F: what is taken to noughts, the one answer that is nought at the free columns, step by step. No program is named here. -/
namespace Go.Proofs.Ytkebjmapdcbnaaa.Mx
open Fp
set_option linter.unusedVariables false

/-- Where a matrix takes a row. -/
def tov (c : Nat) (f : Nat → Nat → F) (v : Nat → F) : Nat → F := fun i => sg c fun j => f i j * v j
theorem tov_congr {c : Nat} {f g : Nat → Nat → F} {v w : Nat → F} {i : Nat} (h : ∀ j, j < c → f i j = g i j) (h' : ∀ j, j < c → v j = w j) : tov c f v i = tov c g w i :=
  sg_congr fun j hj => by rw [h j hj, h' j hj]
theorem tov_more (c : Nat) (f : Nat → Nat → F) (v w : Nat → F) (a : F) (i : Nat) : tov c f (fun j => v j + a * w j) i = tov c f v i + a * tov c f w i := by
  unfold tov
  rw [← sg_times, ← sg_add]
  exact sg_congr fun j _ => by grind
theorem tov_less (c : Nat) (f : Nat → Nat → F) (v w : Nat → F) (i : Nat) : tov c f (fun j => v j - w j) i = tov c f v i - tov c f w i := by
  have h := tov_more c f v w (-1) i
  have e : (fun j => v j - w j) = fun j => v j + -1 * w j := by funext j; grind
  rw [e, h]; grind
theorem tov_none (c : Nat) (f : Nat → Nat → F) (i : Nat) : tov c f (fun _ => 0) i = 0 := by
  unfold tov
  rw [sg_congr (g := fun _ => 0) fun j _ => by grind, sg_none]
theorem tov_mul (r c : Nat) (s g : Nat → Nat → F) (v : Nat → F) (i : Nat) : tov c (mul r s g) v i = sg r fun x => s i x * tov c g v x :=
  congrFun (congrFun (mul_assoc r c s g (fun j _ => v j)) i) 0
/-- What comes of rows that are taken alike is taken alike. -/
theorem tov_come {r c : Nat} {f g : Nat → Nat → F} (h : ∃ s, Eqm r c f (mul r s g)) {v w : Nat → F} (e : ∀ x, x < r → tov c g v x = tov c g w x) {i : Nat} (hi : i < r) : tov c f v i = tov c f w i := by
  obtain ⟨s, hs⟩ := h
  rw [tov_congr (g := mul r s g) (fun j hj => hs i j hi hj) (fun _ _ => rfl), tov_congr (v := w) (g := mul r s g) (fun j hj => hs i j hi hj) (fun _ _ => rfl), tov_mul, tov_mul]
  exact sg_congr fun x hx => by rw [e x hx]

/-- The columns in which no row begins. -/
def fr (b : List Nat) (c : Nat) : List Nat := (List.range c).filter fun k => decide (k ∉ b)
theorem fr_zero (b : List Nat) : fr b 0 = [] := rfl
theorem fr_yes {b : List Nat} {k : Nat} (h : k ∈ b) : fr b (k + 1) = fr b k := by simp [fr, List.range_succ, h]
theorem fr_no {b : List Nat} {k : Nat} (h : k ∉ b) : fr b (k + 1) = fr b k ++ [k] := by simp [fr, List.range_succ, h]
theorem fr_mem {b : List Nat} {c k : Nat} : k ∈ fr b c ↔ k < c ∧ k ∉ b := by simp [fr]
theorem fr_le (b : List Nat) (c : Nat) : (fr b c).length ≤ c := by
  have := List.length_filter_le (fun k => decide (k ∉ b)) (List.range c)
  rwa [List.length_range] at this
theorem fr_pairs (b : List Nat) (c : Nat) : (fr b c).Pairwise (· < ·) := List.Pairwise.filter _ List.pairwise_lt_range
theorem count_not (p : Nat → Bool) : ∀ l : List Nat, (l.filter p).length + (l.filter fun k => !p k).length = l.length
  | [] => rfl
  | x :: l => by
    have := count_not p l
    by_cases h : p x = true
    · simp [h]; omega
    · simp [h]; omega
theorem Steps.count {r c : Nat} {b : List Nat} {g : Nat → Nat → F} (h : Steps r c b g) : b.length + (fr b c).length = c := by
  have e : b = (List.range c).filter fun k => decide (k ∈ b) := inc_same _ _ h.pairs (List.Pairwise.filter _ List.pairwise_lt_range) fun x => by
    simp only [List.mem_filter, List.mem_range, decide_eq_true_eq]
    exact ⟨fun hx => ⟨by obtain ⟨t, ht, rfl⟩ := h.mem hx; exact h.lt t ht, hx⟩, fun hx => hx.2⟩
  have := count_not (fun k => decide (k ∈ b)) (List.range c)
  rw [← e, List.length_range] at this
  have e2 : (List.range c).filter (fun k => !decide (k ∈ b)) = fr b c := by
    unfold fr; congr 1; funext k; simp
  rw [e2] at this
  exact this
theorem pv_mem {b : List Nat} {t : Nat} (ht : t < b.length) : pv b t ∈ b := by
  show b.getD t 0 ∈ b
  rw [List.getD_eq_getElem?_getD, List.getElem?_eq_getElem ht]; exact List.getElem_mem ht
theorem Steps.inj {r c : Nat} {b : List Nat} {g : Nat → Nat → F} (h : Steps r c b g) {s t : Nat} (hs : s < b.length) (ht : t < b.length) (e : pv b s = pv b t) : s = t := by
  rcases Nat.lt_trichotomy s t with hlt | he | hlt
  · have := h.inc s t hlt ht; omega
  · exact he
  · have := h.inc t s hlt hs; omega

/-- The row that is taken to noughts and is 1 at the free column k, nought at the other free ones: as far as the first t rows tell. -/
def nv (b : List Nat) (g : Nat → Nat → F) (k : Nat) : Nat → Nat → F
  | 0 => fun j => if j = k then 1 else 0
  | t + 1 => fun j => if j = pv b t then -(g t k) else nv b g k t j
theorem nv_off (b : List Nat) (g : Nat → Nat → F) (k : Nat) {j : Nat} : ∀ t, (∀ s, s < t → j ≠ pv b s) → nv b g k t j = if j = k then 1 else 0
  | 0, _ => rfl
  | t + 1, h => by
    show (if j = pv b t then _ else nv b g k t j) = _
    rw [if_neg (h t (Nat.lt_succ_self t)), nv_off b g k t fun s hs => h s (by omega)]
theorem nv_free (b : List Nat) (g : Nat → Nat → F) (k : Nat) {j : Nat} (h : j ∉ b) {t : Nat} (ht : t ≤ b.length) : nv b g k t j = if j = k then 1 else 0 :=
  nv_off b g k t fun s hs e => h (by rw [e]; exact pv_mem (by omega))
theorem Steps.nv_piv {r c : Nat} {b : List Nat} {g : Nat → Nat → F} (h : Steps r c b g) (k : Nat) : ∀ (t : Nat), t ≤ b.length → ∀ s, s < t → nv b g k t (pv b s) = -(g s k)
  | 0, _, s, hs => absurd hs (by omega)
  | t + 1, ht, s, hs => by
    show (if pv b s = pv b t then _ else nv b g k t (pv b s)) = _
    by_cases e : s = t
    · rw [e, if_pos rfl]
    · rw [if_neg fun e' => e (h.inj (by omega) (by omega) e'), h.nv_piv k t (by omega) s (by omega)]
theorem nv_congr {b : List Nat} {g g' : Nat → Nat → F} {k : Nat} : ∀ (t : Nat), (∀ s, s < t → g s k = g' s k) → nv b g k t = nv b g' k t
  | 0, _ => rfl
  | t + 1, h => by
    show (fun j => if j = pv b t then -(g t k) else nv b g k t j) = fun j => if j = pv b t then -(g' t k) else nv b g' k t j
    rw [h t (Nat.lt_succ_self t), nv_congr t fun s hs => h s (by omega)]
/-- It is taken to noughts. -/
theorem Steps.nv_zero {r c : Nat} {b : List Nat} {f g : Nat → Nat → F} (h : Steps r c b g) (e : Req r c f g) {k : Nat} (hk : k < c) (hkb : k ∉ b) {i : Nat} (hi : i < r) : tov c f (nv b g k b.length) i = 0 := by
  have hg : ∀ x, x < r → tov c g (nv b g k b.length) x = tov c g (fun _ => 0) x := fun x hx => by
    rw [tov_none]
    unfold tov
    by_cases hl : x < b.length
    · have hne : k ≠ pv b x := fun e => hkb (by rw [e]; exact pv_mem hl)
      rw [sg_two hk (h.lt x hl) hne fun j hj h1 h2 => ?_]
      · rw [nv_free b g k hkb (Nat.le_refl _), if_pos rfl, h.nv_piv k _ (Nat.le_refl _) x hl, h.piv x hl x hx, if_pos rfl]; grind
      · by_cases hjb : j ∈ b
        · obtain ⟨t, ht, rfl⟩ := h.mem hjb
          rw [h.piv t ht x hx, if_neg fun e => h2 (by rw [e])]; grind
        · rw [nv_free b g k hjb (Nat.le_refl _), if_neg h1]; grind
    · rw [sg_congr (g := fun _ => 0) fun j hj => by rw [h.zero x (by omega) hx j hj]; grind, sg_none]
  rw [tov_come e.1 hg hi, tov_none]

/-- Nought at the free columns. -/
def Off (b : List Nat) (c : Nat) (v : Nat → F) : Prop := ∀ j, j < c → j ∉ b → v j = 0
theorem Off.more {b : List Nat} {c : Nat} {v w : Nat → F} (h : Off b c v) (h' : Off b c w) (a : F) : Off b c (fun j => v j + a * w j) := fun j hj hb => by
  show v j + a * w j = 0
  rw [h j hj hb, h' j hj hb]; grind
theorem Off.less {b : List Nat} {c : Nat} {v w : Nat → F} (h : Off b c v) (h' : Off b c w) : Off b c (fun j => v j - w j) := fun j hj hb => by
  show v j - w j = 0
  rw [h j hj hb, h' j hj hb]; grind
/-- Taken to noughts, and nought at the free columns: nought. -/
theorem Steps.off_zero {r c : Nat} {b : List Nat} {f g : Nat → Nat → F} (h : Steps r c b g) (e : Req r c f g) {v : Nat → F} (ho : Off b c v) (hz : ∀ i, i < r → tov c f v i = 0) : ∀ j, j < c → v j = 0 := fun j hj => by
  by_cases hb : j ∈ b
  · obtain ⟨t, ht, rfl⟩ := h.mem hb
    have htr : t < r := Nat.lt_of_lt_of_le ht h.le
    have h1 : tov c g v t = 0 := by
      have := tov_come e.2 (v := v) (w := fun _ => 0) (fun x hx => by rw [hz x hx, tov_none]) htr
      rw [this, tov_none]
    unfold tov at h1
    rw [sg_one hj fun s hs hne => ?_, h.piv t ht t htr, if_pos rfl] at h1
    · rw [← h1]; grind
    · by_cases hsb : s ∈ b
      · obtain ⟨q, hq, rfl⟩ := h.mem hsb
        rw [h.piv q hq t htr, if_neg fun e => hne (by rw [e])]; grind
      · rw [ho s hs hsb]; grind
  · exact ho j hj hb
theorem Steps.off_one {r c : Nat} {b : List Nat} {f g : Nat → Nat → F} (h : Steps r c b g) (e : Req r c f g) {v w : Nat → F} (ho : Off b c v) (ho' : Off b c w) (hz : ∀ i, i < r → tov c f v i = tov c f w i) : ∀ j, j < c → v j = w j := fun j hj => by
  have := h.off_zero e (ho.less ho') (fun i hi => by rw [tov_less, hz i hi]; grind) j hj
  grind
/-- What is taken somewhere: something that is nought at the free columns is taken there. -/
theorem Steps.off_some {r c : Nat} {b : List Nat} {f g : Nat → Nat → F} (h : Steps r c b g) (e : Req r c f g) (z : Nat → F) : ∃ y, Off b c y ∧ ∀ i, i < r → tov c f y i = tov c f z i := by
  refine ⟨fun j => sg b.length fun t => if j = pv b t then tov c g z t else 0, fun j _ hb => ?_, fun i hi => tov_come e.1 (fun x hx => ?_) hi⟩
  · dsimp only
    rw [sg_congr (g := fun _ => 0) fun t ht => by rw [if_neg fun e => hb (by rw [e]; exact pv_mem ht)], sg_none]
  · by_cases hl : x < b.length
    · have hy : ∀ t, t < b.length → (sg b.length fun s => if pv b t = pv b s then tov c g z s else 0) = tov c g z t := fun t ht => by
        rw [sg_one ht fun s hs hne => by rw [if_neg fun e => hne (h.inj hs ht e.symm)], if_pos rfl]
      show sg c (fun j => g x j * sg b.length fun s => if j = pv b s then tov c g z s else 0) = _
      rw [sg_one (h.lt x hl) fun j hj hne => ?_, hy x hl, h.piv x hl x hx, if_pos rfl]
      · grind
      · by_cases hjb : j ∈ b
        · obtain ⟨t, ht, rfl⟩ := h.mem hjb
          rw [h.piv t ht x hx, if_neg fun e => hne (by rw [e])]; grind
        · rw [sg_congr (g := fun _ => 0) fun t ht => by rw [if_neg fun e => hjb (by rw [e]; exact pv_mem ht)], sg_none]; grind
    · have hz : ∀ v : Nat → F, tov c g v x = 0 := fun v => by
        unfold tov
        rw [sg_congr (g := fun _ => 0) fun j hj => by rw [h.zero x (by omega) hx j hj]; grind, sg_none]
      rw [hz, hz]

/-- THE answer of a system: nought at the free columns. -/
structure Ans (r c : Nat) (f : Nat → Nat → F) (tt0 : Nat → F) (b : List Nat) (x : Nat → F) : Prop where
  off : Off b c x
  sol : ∀ i, i < r → tov c f x i = tt0 i
/-- There is none at all. -/
def NoAns (r c : Nat) (f : Nat → Nat → F) (tt0 : Nat → F) : Prop := ¬ ∃ z : Nat → F, ∀ i, i < r → tov c f z i = tt0 i
theorem Ans.one {r c : Nat} {f g : Nat → Nat → F} {tt0 : Nat → F} {b : List Nat} {x y : Nat → F} (h : Steps r c b g) (e : Req r c f g) (hx : Ans r c f tt0 b x) (hy : Ans r c f tt0 b y) : ∀ j, j < c → x j = y j :=
  h.off_one e hx.off hy.off fun i hi => by rw [hx.sol i hi, hy.sol i hi]

/-- What comes of some rows. -/
def Comb (c : Nat) : List (Nat → F) → (Nat → F) → Prop
  | [], v => ∀ j, j < c → v j = 0
  | w :: ws, v => ∃ a, Comb c ws fun j => v j - a * w j
theorem Comb.congr {c : Nat} : ∀ {ws : List (Nat → F)} {u v : Nat → F}, Comb c ws u → (∀ j, j < c → u j = v j) → Comb c ws v
  | [], u, v, h, e => fun j hj => by rw [← e j hj]; exact h j hj
  | w :: ws, u, v, ⟨a, h⟩, e => ⟨a, h.congr fun j hj => by rw [e j hj]⟩
theorem Comb.less {c : Nat} (w : Nat → F) (a : F) : ∀ {ws : List (Nat → F)} {v : Nat → F}, Comb c ws v → (k : Nat) → (hk : k < ws.length) → (he : ws[k] = w) → Comb c ws fun j => v j - a * w j
  | [], v, h, k, hk, he => absurd hk (by simp)
  | w' :: ws, v, ⟨d, h⟩, 0, hk, he => by
    simp at he; subst he
    exact ⟨d - a, h.congr fun j _ => by grind⟩
  | w' :: ws, v, ⟨d, h⟩, k + 1, hk, he => by
    refine ⟨d, ?_⟩
    refine (Comb.less w a h k (by simpa using hk) (by simpa using he)).congr fun j _ => ?_
    grind
/-- Row i of f is where the k-th way moves. -/
theorem Comb.take {c : Nat} : ∀ {ws : List (Nat → F)} {v : Nat → F}, Comb c ws v → (k : Nat) → (hk : k < ws.length) → ∃ a, Comb c (ws.eraseIdx k) fun j => v j - a * ws[k] j
  | [], v, h, k, hk => absurd hk (by simp)
  | w :: ws, v, ⟨d, h⟩, 0, hk => ⟨d, by simpa using h⟩
  | w :: ws, v, ⟨d, h⟩, k + 1, hk => by
    obtain ⟨a, h2⟩ := h.take k (by simpa using hk)
    refine ⟨a, ?_⟩
    rw [List.eraseIdx_cons_succ]
    refine ⟨d, h2.congr fun j _ => ?_⟩
    simp only [List.getElem_cons_succ]
    grind
/-- Each of the rows moved along one: the same, but for so many times that one. -/
theorem Comb.moved {c : Nat} (w : Nat → F) (m : (Nat → F) → F) : ∀ {ws : List (Nat → F)} {v : Nat → F}, Comb c ws v → ∃ a, Comb c (ws.map fun u j => u j + m u * w j) fun j => v j - a * w j
  | [], v, h => ⟨0, fun j hj => by show v j - 0 * w j = 0; rw [h j hj]; grind⟩
  | u :: ws, v, ⟨d, h⟩ => by
    obtain ⟨a, h2⟩ := Comb.moved w m h
    exact ⟨a - d * m u, d, h2.congr fun j _ => by dsimp only; grind⟩
/-- What all ways take to nought, all that comes of them does. -/
theorem Comb.still {c : Nat} {f : Nat → Nat → F} {i : Nat} : ∀ {ws : List (Nat → F)} {v : Nat → F}, Comb c ws v → (∀ w, w ∈ ws → tov c f w i = 0) → tov c f v i = 0
  | [], v, h, _ => by rw [tov_congr (w := fun _ => 0) (fun _ _ => rfl) h, tov_none]
  | w :: ws, v, ⟨a, h⟩, h0 => by
    have h1 := h.still fun u hu => h0 u (List.mem_cons_of_mem _ hu)
    have h2 := tov_more c f v w (-a) i
    have e : (fun j => v j - a * w j) = fun j => v j + -a * w j := by funext j; grind
    rw [e, h2, h0 w (List.mem_cons_self ..)] at h1
    rw [← h1]; grind

/-- A way moved along another one until row i takes it where it should go. -/
def mv (c : Nat) (f : Nat → Nat → F) (i : Nat) (want : F) (w u : Nat → F) : Nat → F := fun j => u j + ((want - tov c f u i) * Fp.inv (tov c f w i)) * w j
theorem mv_there {c : Nat} {f : Nat → Nat → F} {i : Nat} {want : F} {w u : Nat → F} (h0 : tov c f w i ≠ 0) : tov c f (mv c f i want w u) i = want := by
  show tov c f (fun j => u j + ((want - tov c f u i) * Fp.inv (tov c f w i)) * w j) i = want
  rw [tov_more]
  have h1 := inv_mul h0
  generalize Fp.inv (tov c f w i) = v at *
  generalize tov c f w i = t at *
  have : (want - tov c f u i) * v * t = (want - tov c f u i) * (v * t) := by grind
  rw [this, h1]; grind
theorem mv_still {c : Nat} {f : Nat → Nat → F} {i s : Nat} {want : F} {w u : Nat → F} (h0 : tov c f w s = 0) : tov c f (mv c f i want w u) s = tov c f u s := by
  show tov c f (fun j => u j + ((want - tov c f u i) * Fp.inv (tov c f w i)) * w j) s = _
  rw [tov_more, h0]; grind
theorem mv_off {c : Nat} {f : Nat → Nat → F} {i : Nat} {want : F} {w u : Nat → F} {b : List Nat} (hw : Off b c w) (hu : Off b c u) : Off b c (mv c f i want w u) := hu.more hw _

/-- The first i rows are met by x and by what comes of x and the ways, and by nothing else that is nought at the free columns. -/
structure Srch (c : Nat) (f : Nat → Nat → F) (tt0 : Nat → F) (b : List Nat) (i : Nat) (x : Nat → F) (ws : List (Nat → F)) : Prop where
  offx : Off b c x
  offw : ∀ w, w ∈ ws → Off b c w
  solx : ∀ s, s < i → tov c f x s = tt0 s
  solw : ∀ w, w ∈ ws → ∀ s, s < i → tov c f w s = 0
  all : ∀ y, Off b c y → (∀ s, s < i → tov c f y s = tt0 s) → Comb c ws fun j => y j - x j

theorem comb_units (c : Nat) : ∀ (b : List Nat) (y : Nat → F), Off b c y → Comb c (b.map fun k j => if j = k then 1 else 0) y
  | [], y, h => fun j hj => h j hj (by simp)
  | k :: b, y, h => by
    refine ⟨y k, comb_units c b _ fun j hj hb => ?_⟩
    show y j - y k * (if j = k then 1 else 0) = 0
    by_cases e : j = k
    · rw [if_pos e, e]; grind
    · rw [if_neg e, h j hj (by simp [e, hb])]; grind
theorem Srch.start (c : Nat) (f : Nat → Nat → F) (tt0 : Nat → F) (b : List Nat) : Srch c f tt0 b 0 (fun _ => 0) (b.map fun k j => if j = k then 1 else 0) := by
  refine ⟨fun _ _ _ => rfl, fun w hw j hj hb => ?_, fun s hs => absurd hs (by omega), fun w _ s hs => absurd hs (by omega), fun y hy _ => (comb_units c b y hy).congr fun j _ => by grind⟩
  obtain ⟨k, hk, rfl⟩ := List.mem_map.1 hw
  show (if j = k then (1 : F) else 0) = 0
  rw [if_neg fun e => hb (by rw [e]; exact hk)]
theorem Srch.keep {c : Nat} {f : Nat → Nat → F} {tt0 : Nat → F} {b : List Nat} {i : Nat} {x : Nat → F} {ws : List (Nat → F)} (h : Srch c f tt0 b i x ws) (h0 : ∀ w, w ∈ ws → tov c f w i = 0) (hx : tov c f x i = tt0 i) : Srch c f tt0 b (i + 1) x ws :=
  ⟨h.offx, h.offw, fun s hs => by
    by_cases e : s = i
    · rw [e, hx]
    · exact h.solx s (by omega), fun w hw s hs => by
    by_cases e : s = i
    · rw [e, h0 w hw]
    · exact h.solw w hw s (by omega), fun y hy hs => h.all y hy fun s h' => hs s (by omega)⟩
theorem Srch.fail {r c : Nat} {f g : Nat → Nat → F} {tt0 : Nat → F} {b : List Nat} {i : Nat} {x : Nat → F} {ws : List (Nat → F)} (h : Srch c f tt0 b i x ws) (st : Steps r c b g) (e : Req r c f g) (hi : i < r) (h0 : ∀ w, w ∈ ws → tov c f w i = 0) (hx : tov c f x i ≠ tt0 i) : NoAns r c f tt0 := by
  rintro ⟨z, hz⟩
  obtain ⟨y, hy, hyz⟩ := st.off_some e z
  have h1 := (h.all y hy fun s hs => by rw [hyz s (by omega), hz s (by omega)]).still h0
  rw [tov_less, hyz i hi, hz i hi] at h1
  exact hx (by grind)
theorem Srch.move {c : Nat} {f : Nat → Nat → F} {tt0 : Nat → F} {b : List Nat} {i : Nat} {x : Nat → F} {ws : List (Nat → F)} (h : Srch c f tt0 b i x ws) (k : Nat) (hk : k < ws.length) (h0 : tov c f ws[k] i ≠ 0) :
    Srch c f tt0 b (i + 1) (mv c f i (tt0 i) ws[k] x) ((ws.eraseIdx k).map (mv c f i 0 ws[k])) := by
  have hw : ws[k] ∈ ws := List.getElem_mem hk
  have he : ∀ u, u ∈ ws.eraseIdx k → u ∈ ws := fun u hu => (List.eraseIdx_sublist ws k).subset hu
  refine ⟨mv_off (h.offw _ hw) h.offx, fun v hv => ?_, fun s hs => ?_, fun v hv s hs => ?_, fun y hy hs => ?_⟩
  · obtain ⟨u, hu, rfl⟩ := List.mem_map.1 hv
    exact mv_off (h.offw _ hw) (h.offw u (he u hu))
  · by_cases e : s = i
    · rw [e, mv_there h0]
    · rw [mv_still (h.solw _ hw s (by omega)), h.solx s (by omega)]
  · obtain ⟨u, hu, rfl⟩ := List.mem_map.1 hv
    by_cases e : s = i
    · rw [e, mv_there h0]
    · rw [mv_still (h.solw _ hw s (by omega)), h.solw u (he u hu) s (by omega)]
  · obtain ⟨a, h1⟩ := (h.all y hy fun s h' => hs s (by omega)).take k hk
    obtain ⟨d, h2⟩ := Comb.moved ws[k] (fun u => (0 - tov c f u i) * Fp.inv (tov c f ws[k] i)) h1
    have h3 : Comb c ((ws.eraseIdx k).map (mv c f i 0 ws[k])) fun j => (y j - mv c f i (tt0 i) ws[k] x j) + (-(a + d - (tt0 i - tov c f x i) * Fp.inv (tov c f ws[k] i))) * ws[k] j :=
      Comb.congr (c := c) h2 fun j _ => by
        show y j - x j - a * ws[k] j - d * ws[k] j = y j - (x j + ((tt0 i - tov c f x i) * Fp.inv (tov c f ws[k] i)) * ws[k] j) + _
        generalize (tt0 i - tov c f x i) * Fp.inv (tov c f ws[k] i) = q
        generalize ws[k] j = z
        generalize x j = z2
        generalize y j = z3
        grind
    have h4 := h3.still (f := f) (i := i) fun w hw' => by
      obtain ⟨u, hu, rfl⟩ := List.mem_map.1 hw'
      exact mv_there h0
    rw [tov_more, tov_less, mv_there h0, hs i (Nat.lt_succ_self i)] at h4
    have h5 : a + d - (tt0 i - tov c f x i) * Fp.inv (tov c f ws[k] i) = 0 := by
      generalize a + d - (tt0 i - tov c f x i) * Fp.inv (tov c f ws[k] i) = q at *
      generalize tov c f ws[k] i = t at *
      rcases Fp.mul_zero_or (a := q) (b := t) (by grind) with e | e
      · exact e
      · exact absurd e h0
    rw [h5] at h3
    exact h3.congr fun j _ => by grind
theorem Srch.done {r c : Nat} {f : Nat → Nat → F} {tt0 : Nat → F} {b : List Nat} {x : Nat → F} {ws : List (Nat → F)} (h : Srch c f tt0 b r x ws) : Ans r c f tt0 b x := ⟨h.offx, h.solx⟩

/-- The ways as rows of a matrix. -/
def wl (n : Nat) (w : Nat → Nat → F) : List (Nat → F) := (List.range n).map w
theorem len_wl (n : Nat) (w : Nat → Nat → F) : (wl n w).length = n := by simp [wl]
theorem wl_at (n : Nat) (w : Nat → Nat → F) {k : Nat} (hk : k < (wl n w).length) : (wl n w)[k] = w k := by simp [wl]
theorem wl_mem {n : Nat} {w : Nat → Nat → F} {v : Nat → F} : v ∈ wl n w ↔ ∃ k, k < n ∧ w k = v := by simp [wl]
theorem wl_erase (n : Nat) (w : Nat → Nat → F) (k : Nat) (hk : k < n + 1) : (wl (n + 1) w).eraseIdx k = wl n fun i => w (sk k i) := by
  refine List.ext_getElem (by simp [wl, List.length_eraseIdx, hk]) fun i h1 h2 => ?_
  rw [List.getElem_eraseIdx]
  have h3 : i < n := by simpa [wl] using h2
  by_cases e : i < k
  · simp [wl, e, sk]
  · simp [wl, e, sk]
theorem wl_map (n : Nat) (w : Nat → Nat → F) (m : (Nat → F) → Nat → F) : (wl n w).map m = wl n fun i => m (w i) := by simp [wl]
theorem wl_units (b : List Nat) : (b.map fun k j => if j = k then (1 : F) else 0) = wl b.length fun t j => if j = pv b t then 1 else 0 := by
  refine List.ext_getElem (by simp [wl]) fun i h1 h2 => ?_
  have : i < b.length := by simpa using h1
  simp [wl, pv, this]

/-- With one more column. -/
def aug (c : Nat) (f : Nat → Nat → F) (tt0 : Nat → F) : Nat → Nat → F := fun i j => if j = c then tt0 i else f i j
theorem Req.less {r c d : Nat} {f g : Nat → Nat → F} (h : Req r c f g) (hd : d ≤ c) : Req r d f g := by
  obtain ⟨⟨s, hs⟩, ⟨t, ht⟩⟩ := h
  exact ⟨⟨s, fun i j hi hj => hs i j hi (by omega)⟩, ⟨t, fun i j hi hj => ht i j hi (by omega)⟩⟩
theorem aug_less (r c : Nat) (f : Nat → Nat → F) (tt0 : Nat → F) : Eqm r c f (aug c f tt0) := fun i j _ hj => by
  show f i j = if j = c then tt0 i else f i j
  rw [if_neg (by omega)]
theorem aug_tov (c : Nat) (f : Nat → Nat → F) (tt0 : Nat → F) (y : Nat → F) (i : Nat) : tov (c + 1) (aug c f tt0) (fun j => if j = c then -1 else y j) i = tov c f y i - tt0 i := by
  show sg c _ + aug c f tt0 i c * (if c = c then -1 else y c) = _
  rw [if_pos rfl, show aug c f tt0 i c = tt0 i from if_pos rfl]
  have : sg c (fun j => aug c f tt0 i j * (if j = c then -1 else y j)) = tov c f y i := sg_congr fun j hj => by
    rw [if_neg (by omega), show aug c f tt0 i j = f i j from if_neg (by omega)]
  rw [this]; grind
/-- What f takes to to, its steps take to what stands behind them. -/
theorem aug_same {r c : Nat} {f a : Nat → Nat → F} {tt0 : Nat → F} (e : Req r (c + 1) (aug c f tt0) a) (y : Nat → F) : (∀ i, i < r → tov c f y i = tt0 i) ↔ ∀ i, i < r → tov c a y i = a i c := by
  have ha : ∀ i, tov (c + 1) a (fun j => if j = c then -1 else y j) i = tov c a y i - a i c := fun i => by
    have := aug_tov c a (fun i => a i c) y i
    rw [← this]
    refine tov_congr (fun j _ => ?_) fun _ _ => rfl
    show a i j = if j = c then a i c else a i j
    by_cases e : j = c
    · rw [if_pos e, e]
    · rw [if_neg e]
  constructor
  · intro h i hi
    have := tov_come e.2 (v := fun j => if j = c then -1 else y j) (w := fun _ => 0) (fun x hx => by rw [aug_tov, h x hx, tov_none]; grind) hi
    rw [ha, tov_none] at this; grind
  · intro h i hi
    have := tov_come e.1 (v := fun j => if j = c then -1 else y j) (w := fun _ => 0) (fun x hx => by rw [ha, h x hx, tov_none]; grind) hi
    rw [aug_tov, tov_none] at this; grind
/-- The answer read off. -/
def ov (b : List Nat) (a : Nat → Nat → F) (c : Nat) : Nat → Nat → F
  | 0 => fun _ => 0
  | t + 1 => fun j => if j = pv b t then a t c else ov b a c t j
theorem ov_off {b : List Nat} {a : Nat → Nat → F} {c j : Nat} : ∀ t, (∀ s, s < t → j ≠ pv b s) → ov b a c t j = 0
  | 0, _ => rfl
  | t + 1, h => by
    show (if j = pv b t then _ else ov b a c t j) = _
    rw [if_neg (h t (Nat.lt_succ_self t)), ov_off t fun s hs => h s (by omega)]
theorem Steps.ov_piv {r k c : Nat} {b : List Nat} {g a : Nat → Nat → F} (h : Steps r k b g) : ∀ (t : Nat), t ≤ b.length → ∀ s, s < t → ov b a c t (pv b s) = a s c
  | 0, _, s, hs => absurd hs (by omega)
  | t + 1, ht, s, hs => by
    show (if pv b s = pv b t then _ else ov b a c t (pv b s)) = _
    by_cases e : s = t
    · rw [e, if_pos rfl]
    · rw [if_neg fun e' => e (h.inj (by omega) (by omega) e'), h.ov_piv t (by omega) s (by omega)]
theorem aug_ans {r c : Nat} {f a : Nat → Nat → F} {tt0 : Nat → F} {b : List Nat} (h : Steps r c b a) (e : Req r (c + 1) (aug c f tt0) a) (h0 : ∀ i, b.length ≤ i → i < r → a i c = 0) : Ans r c f tt0 b (ov b a c b.length) := by
  have hoff : Off b c (ov b a c b.length) := fun j hj hb => ov_off _ fun s hs e => hb (by rw [e]; exact pv_mem hs)
  refine ⟨hoff, (aug_same e _).2 fun i hi => ?_⟩
  unfold tov
  by_cases hl : i < b.length
  · rw [sg_one (h.lt i hl) fun j hj hne => ?_, h.ov_piv _ (Nat.le_refl _) i hl, h.piv i hl i hi, if_pos rfl]
    · grind
    · by_cases hjb : j ∈ b
      · obtain ⟨t, ht, rfl⟩ := h.mem hjb
        rw [h.piv t ht i hi, if_neg fun e => hne (by rw [e])]; grind
      · rw [hoff j hj hjb]; grind
  · rw [sg_congr (g := fun _ => 0) fun j hj => by rw [h.zero i (by omega) hi j hj]; grind, sg_none, h0 i (by omega) hi]
theorem aug_not {r c : Nat} {f a : Nat → Nat → F} {tt0 : Nat → F} {b : List Nat} (h : Steps r c b a) (e : Req r (c + 1) (aug c f tt0) a) {i : Nat} (hb : b.length ≤ i) (hi : i < r) (h0 : a i c ≠ 0) : NoAns r c f tt0 := by
  rintro ⟨z, hz⟩
  have := (aug_same e z).1 hz i hi
  unfold tov at this
  rw [sg_congr (g := fun _ => 0) fun j hj => by rw [h.zero i hb hi j hj]; grind, sg_none] at this
  exact h0 this.symm
/-- How many steps there are with one more column. -/
theorem aug_rank {r c : Nat} {f g h : Nat → Nat → F} {tt0 : Nat → F} {b d : List Nat} (s : Stair r c c f b g) (t : Stair r (c + 1) (c + 1) (aug c f tt0) d h) :
    ((∃ z : Nat → F, ∀ i, i < r → tov c f z i = tt0 i) → d.length = b.length) ∧ (NoAns r c f tt0 → d.length = b.length + 1) := by
  obtain ⟨b2, a, hs, hr⟩ := steps_some r (c + 1) (aug c f tt0) c (by omega)
  have hfa : Req r c f a := (Req.of r c (aug_less r c f tt0)).trans (hr.less (by omega))
  obtain ⟨rfl, _⟩ := s.steps.unique hs (s.req.symm.trans hfa)
  by_cases h0 : ∀ i, b.length ≤ i → i < r → a i c = 0
  · have hs2 := hs.skip h0
    obtain ⟨rfl, _⟩ := t.steps.unique hs2 (t.req.symm.trans hr)
    exact ⟨fun _ => rfl, fun hn => absurd ⟨_, (aug_ans hs hr h0).sol⟩ hn⟩
  · have : ∃ i, b.length ≤ i ∧ i < r ∧ a i c ≠ 0 := Classical.byContradiction fun hn => h0 fun i h1 h2 => Classical.byContradiction fun h3 => hn ⟨i, h1, h2, h3⟩
    obtain ⟨i, h1, h2, h3⟩ := this
    have hs2 := hs.next h1 h2 h3
    have hle := hs.le
    obtain ⟨rfl, _⟩ := t.steps.unique hs2 ((t.req.symm.trans hr).trans (req_next a (by omega) h2 h3))
    refine ⟨fun hz => absurd hz (aug_not hs hr h1 h2 h3), fun _ => by simp⟩

/-- The rows that are taken to noughts, one behind the other. -/
def nm (b : List Nat) (g : Nat → Nat → F) (c : Nat) : Nat → Nat → F := fun i => nv b g (pv (fr b c) i) b.length
theorem fr_at {b : List Nat} {c i : Nat} (hi : i < (fr b c).length) : pv (fr b c) i < c ∧ pv (fr b c) i ∉ b := fr_mem.1 (pv_mem hi)
theorem fr_inj {b : List Nat} {c i j : Nat} (hi : i < (fr b c).length) (hj : j < (fr b c).length) (e : pv (fr b c) i = pv (fr b c) j) : i = j := by
  have hp := List.pairwise_iff_getElem.1 (fr_pairs b c)
  have e1 : (fr b c)[i] = (fr b c)[j] := by simpa [pv, hi, hj] using e
  rcases Nat.lt_trichotomy i j with h | h | h
  · have := hp i j hi hj h; omega
  · exact h
  · have := hp j i hj hi h; omega
/-- No one of them is made of the others. -/
theorem nm_rank {r c : Nat} {b d : List Nat} {g h : Nat → Nat → F} (s : Stair (fr b c).length c c (nm b g c) d h) : d.length = (fr b c).length := by
  refine Nat.le_antisymm s.le (sees_thru (p := (fr b c).length) ⟨one, fun j i => if j = pv (fr b c) i then 1 else 0, ?_⟩ s.thru)
  refine (one_mul _ _ _).trans fun i j hi hj => ?_
  show sg c (fun x => nm b g c i x * (if x = pv (fr b c) j then 1 else 0)) = one i j
  rw [sg_one (fr_at hj).1 fun x _ hne => by rw [if_neg hne]; grind, if_pos rfl]
  show nv b g (pv (fr b c) i) b.length (pv (fr b c) j) * 1 = _
  rw [nv_free b g _ (fr_at hj).2 (Nat.le_refl _)]
  unfold one
  by_cases e : i = j
  · rw [e, if_pos rfl, if_pos rfl]; grind
  · rw [if_neg fun e' => e (fr_inj hj hi e').symm, if_neg e]; grind
theorem fr_next {b : List Nat} {c k : Nat} (hk : k < c) (hkb : k ∉ b) : (fr b k).length < (fr b c).length ∧ pv (fr b c) (fr b k).length = k := by
  have h : ∀ n, ∃ l, fr b (k + 1 + n) = fr b k ++ k :: l := by
    intro n
    induction n with
    | zero => exact ⟨[], by rw [Nat.add_zero, fr_no hkb]⟩
    | succ n ih =>
      obtain ⟨l, hl⟩ := ih
      by_cases e : k + 1 + n ∈ b
      · exact ⟨l, by rw [← Nat.add_assoc, fr_yes e, hl]⟩
      · exact ⟨l ++ [k + 1 + n], by rw [← Nat.add_assoc, fr_no e, hl]; simp⟩
  obtain ⟨l, hl⟩ := h (c - (k + 1))
  rw [show k + 1 + (c - (k + 1)) = c by omega] at hl
  rw [hl]
  exact ⟨by simp, by simp [pv]⟩

/-- One answer, and so many times what is taken to noughts. -/
def tot (b : List Nat) (g : Nat → Nat → F) (x y : Nat → F) : Nat → Nat → F
  | 0 => y
  | k + 1 => if k ∈ b then tot b g x y k else fun j => tot b g x y k j + x k * nv b g k b.length j
theorem tot_free {b : List Nat} {g : Nat → Nat → F} {x y : Nat → F} {j : Nat} (hj : j ∉ b) : ∀ k, tot b g x y k j = y j + if j < k then x j else 0
  | 0 => by show y j = _; rw [if_neg (by omega)]; grind
  | k + 1 => by
    show (if k ∈ b then tot b g x y k else fun j => tot b g x y k j + x k * nv b g k b.length j) j = _
    by_cases hk : k ∈ b
    · rw [if_pos hk, tot_free hj k]
      have : j ≠ k := fun e => hj (by rw [e]; exact hk)
      by_cases h : j < k
      · rw [if_pos h, if_pos (by omega)]
      · rw [if_neg h, if_neg (by omega)]
    · rw [if_neg hk]
      show tot b g x y k j + x k * nv b g k b.length j = _
      rw [tot_free hj k, nv_free b g k hj (Nat.le_refl _)]
      by_cases e : j = k
      · rw [if_pos e, if_neg (by omega), if_pos (by omega), e]; grind
      · rw [if_neg e]
        by_cases h : j < k
        · rw [if_pos h, if_pos (by omega)]; grind
        · rw [if_neg h, if_neg (by omega)]; grind
theorem tot_sol {r c : Nat} {b : List Nat} {f g : Nat → Nat → F} {x y : Nat → F} (h : Steps r c b g) (e : Req r c f g) {i : Nat} (hi : i < r) : ∀ k, k ≤ c → tov c f (tot b g x y k) i = tov c f y i
  | 0, _ => rfl
  | k + 1, hk => by
    show tov c f (if k ∈ b then tot b g x y k else fun j => tot b g x y k j + x k * nv b g k b.length j) i = _
    by_cases hkb : k ∈ b
    · rw [if_pos hkb, tot_sol h e hi k (by omega)]
    · rw [if_neg hkb, tov_more, tot_sol h e hi k (by omega), h.nv_zero e (by omega) hkb hi]; grind
theorem tot_all {r c : Nat} {b : List Nat} {f g : Nat → Nat → F} {x y : Nat → F} (s : Stair r c c f b g) (hy : Ans r c f (tov c f x) b y) : ∀ j, j < c → tot b g x y c j = x j := fun j hj => by
  have h := s.steps.off_zero s.req (v := fun j => tot b g x y c j - x j) (fun j hj hb => by
    show tot b g x y c j - x j = 0
    rw [tot_free hb, hy.off j hj hb, if_pos hj]; grind) (fun i hi => by rw [tov_less, tot_sol s.steps s.req hi c (Nat.le_refl _), hy.sol i hi]; grind) j hj
  have h : tot b g x y c j - x j = 0 := h
  grind
end Go.Proofs.Ytkebjmapdcbnaaa.Mx

/- Contracts of package solve, first part: what keeps what, unit, checkSide, the function that valueOf makes. -/
namespace Go.Proofs.Ytkebjmapdcbnaaa
open Go.ChangeShapes Go.WideShapes Go.ChangeAt Go.RowKit
set_option linter.unusedVariables false

/-- Nothing but what stands in some blocks has turned. -/
structure Save (S : Nat → Prop) (w w' : World) : Prop where
  os : w'.os = w.os
  tape : w'.tape = w.tape
  output : w'.output = w.output
  size : w.heap.size ≤ w'.heap.size
  block : ∀ b, b < w.heap.size → ¬ S b → w'.heap[b]? = w.heap[b]?
theorem Save.of {S : Nat → Prop} {w w' : World} (h : Kp w w') : Save S w w' := ⟨h.os, h.tape, h.output, h.size, fun b hb _ => h.block b hb⟩
theorem Save.refl (S : Nat → Prop) (w : World) : Save S w w := Save.of (Kp.rfl' w)
theorem Save.trans {S : Nat → Prop} {a b c : World} (h : Save S a b) (k : Save S b c) : Save S a c :=
  ⟨k.os.trans h.os, k.tape.trans h.tape, k.output.trans h.output, Nat.le_trans h.size k.size, fun i hi hn => (k.block i (Nat.lt_of_lt_of_le hi h.size) hn).trans (h.block i hi hn)⟩
theorem Save.drewN {S : Nat → Prop} {a b : World} (h : Save S a b) (n : Nat) : Save S a (b.drewN n) := h.trans (Save.of ((Kp.rfl' b).drewN n))
theorem Save.put {S : Nat → Prop} {a b : World} (h : Save S a b) {p : Addr} (hp : S p.block) (u : Value) : Save S a (b.setCell p u) :=
  h.trans ⟨rfl, rfl, rfl, by simp [World.setCell], fun k _ hn => Below.heap_setCell _ _ _ _ (fun e => hn (by rw [e]; exact hp))⟩
theorem Save.below {S : Nat → Prop} {B : Nat} {w0 w w' : World} (h : Save S w w') (hb : Below B w0 w) (hB : B ≤ w.heap.size) (hS : ∀ b, S b → B ≤ b) : Below B w0 w' :=
  hb.trans ⟨h.os, h.tape, h.output, h.size, fun k hk => h.block k (by omega) fun e => by have := hS k e; omega⟩
theorem Save.cell {S : Nat → Prop} {w w' : World} (h : Save S w w') {a : Addr} {v : Value} (hc : w.cell? a = some v) (hn : ¬ S a.block) : w'.cell? a = some v :=
  (World.cell?_of_block (w := w) (h.block a.block (cell_lt hc) hn)).trans hc
theorem ownsRow_save {S : Nat → Prop} {w w' : World} {B n : Nat} {e : TypeId} {v : Value} {xs : List Value} (h : w.ownsRow B e 1 v n xs) (hk : Save S w w') (hn : ∀ b, v.ownBlock = some b → ¬ S b) : w'.ownsRow B e 1 v n xs := by
  obtain ⟨h1, h2⟩ := h
  refine ⟨h1, ?_⟩
  rcases h2 with h2 | ⟨g, cap, cur, rfl, hg, hh, r⟩
  · exact .inl h2
  · refine .inr ⟨g, cap, cur, rfl, hg, ?_, r⟩
    rw [hk.block g ?_ (hn g rfl)]; exact hh
    rcases Nat.lt_or_ge g w.heap.size with hlt | hge
    · exact hlt
    · rw [Array.getElem?_eq_none hge] at hh; cases hh
theorem Own.save {S : Nat → Prop} {w w' : World} {B : Nat} {v : Value} {l : List Int} (h : Own w B v l) (hk : Save S w w') (hn : ∀ b, v.ownBlock = some b → ¬ S b) : Own w' B v l := ownsRow_save h hk hn
theorem OwnM.save {S : Nat → Prop} {w w' : World} {B : Nat} {v : Value} {G C : Nat → Nat} {m : List (List Int)} (h : OwnM w B v G C m) (hk : Save S w w') (hn : ∀ b, v.ownBlock = Option.some b → ¬ S b) (hr : ∀ i, i < m.length → ¬ S (G i)) : OwnM w' B v G C m :=
  ⟨ownsRow_save h.top hk hn, fun i hi => (h.row i hi).save hk fun b hb => by
    have : G i = b := Option.some.inj hb
    rw [← this]; exact hr i hi, h.apart⟩

/-- A row of numbers of the field. -/
abbrev rowF (c : Nat) (u : Nat → Fp.F) : List Int := Mx.row c fun j => ((u j).val : Int)
theorem matl_row {n c : Nat} (W : Nat → Nat → Fp.F) {k : Nat} (hk : k < n) : (Mx.matl n c W).getD k [] = rowF c (W k) := Mx.tab_at _ _ _ _ hk

theorem more_mod (s a b : Fp.F) : ((s.val : Int) + (a.val : Int) * (b.val : Int)).tmod 9973 = ((s + a * b).val : Int) := by
  have h := times_bound a b
  rw [Int.tmod_eq_emod_of_nonneg (by have := gval s; omega), Mx.val_more]
theorem sub_mod (a b : Fp.F) : ((a.val : Int) - (b.val : Int) + 9973).tmod 9973 = ((a - b).val : Int) := by
  have h1 := gval a
  have h2 := gval b
  rw [Int.tmod_eq_emod_of_nonneg (by omega), ← Fp.ofInt_val]
  have h : Fp.ofInt ((a.val : Int) - (b.val : Int) + 9973) + b = a := by
    have := Fp.ofInt_add ((a.val : Int) - (b.val : Int) + 9973) (b.val : Int)
    rw [Fp.ofInt_self, show (a.val : Int) - (b.val : Int) + 9973 + (b.val : Int) = (a.val : Int) + 9973 by omega, Fp.ofInt_add, Fp.ofInt_self, show Fp.ofInt 9973 = 0 from rfl] at this
    rw [← this]; grind
  have : Fp.ofInt ((a.val : Int) - (b.val : Int) + 9973) = a - b := by rw [← h]; grind
  rw [this]

/-- The function that valueOf made stands over row i of f: its box names the row, which lies in what was there. -/
structure Val (w : World) (gp B0 c : Nat) (f : Nat → Nat → Fp.F) (i : Nat) : Prop where
  ex : ∃ A1 d1, w.cell? ⟨gp, 0, none⟩ = some (.slice A1 c d1) ∧ LiesIn w B0 A1 (rowF c (f i))
theorem Val.save {S : Nat → Prop} {w w' : World} {gp B0 c : Nat} {f : Nat → Nat → Fp.F} {i : Nat} (h : Val w gp B0 c f i) (hk : Save S w w') (hg : ¬ S gp) (hS : ∀ b, S b → B0 ≤ b) (hB : B0 ≤ w.heap.size) : Val w' gp B0 c f i := by
  obtain ⟨A1, d1, h1, h2⟩ := h.ex
  exact ⟨A1, d1, hk.cell h1 hg, h2.below (hk.below (Below.refl B0 w) hB hS)⟩
theorem Val.keep {w w' : World} {gp B0 c : Nat} {f : Nat → Nat → Fp.F} {i : Nat} (h : Val w gp B0 c f i) (hk : Kp w w') (hB : B0 ≤ w.heap.size) : Val w' gp B0 c f i :=
  h.save (Save.of (S := fun _ => False) hk) (fun h => h) (fun _ h => h.elim) hB





end Go.Proofs.Ytkebjmapdcbnaaa

/- The law PfaffTimes. (Made by tools/gen_PfTim.py.) -/
namespace Go.Proofs.Ytkebjmapdcbnaaa
open Go.ChangeShapes Go.WideShapes Go.ChangeAt Go.RowKit
set_option linter.unusedVariables false

/-- One row and column so many times, as far as column t. -/
def tmA (f : Nat → Nat → Int) (i : Nat) (k : Int) (t x y : Nat) : Int := if x = i ∧ y < t then k * f i y else if y = i ∧ x < t then -(k * f i x) else f x y
def tmAll (f : Nat → Nat → Int) (i : Nat) (k : Int) (x y : Nat) : Int := if x = i then k * f i y else if y = i then -(k * f i x) else f x y
/-- So many times one row and column added to another one, as far as column t. -/
def adB (f : Nat → Nat → Int) (i j : Nat) (k : Int) (t x y : Nat) : Int := if x = i ∧ y < t ∧ y ≠ i then f i y + k * f j y else if y = i ∧ x < t ∧ x ≠ i then -(f i x + k * f j x) else f x y
def adAll (f : Nat → Nat → Int) (i j : Nat) (k : Int) (x y : Nat) : Int := if x = i then (if y = i then 0 else f i y + k * f j y) else if y = i then -(f i x + k * f j x) else f x y
theorem tmA_zero (f : Nat → Nat → Int) (i : Nat) (k : Int) (x y : Nat) : f x y = tmA f i k 0 x y := by unfold tmA; rw [if_neg (by omega), if_neg (by omega)]
theorem adB_zero (f : Nat → Nat → Int) (i j : Nat) (k : Int) (x y : Nat) : f x y = adB f i j k 0 x y := by unfold adB; rw [if_neg (by omega), if_neg (by omega)]
theorem tmA_next {f : Nat → Nat → Int} (h : Zx.Skw f) (i : Nat) (k : Int) (t x y : Nat) : (if x = t ∧ y = i then -(k * f i t) else if x = i ∧ y = t then k * f i t else tmA f i k t x y) = tmA f i k (t + 1) x y := by
  have hd := h.diag i
  unfold tmA
  by_cases e1 : x = t ∧ y = i
  · obtain ⟨rfl, rfl⟩ := e1
    rw [if_pos ⟨rfl, rfl⟩]
    by_cases e : x = y
    · subst e
      rw [if_pos ⟨rfl, Nat.lt_succ_self _⟩, hd]; simp
    · rw [if_neg (fun q => e q.1), if_pos ⟨rfl, Nat.lt_succ_self _⟩]
  · rw [if_neg e1]
    by_cases e2 : x = i ∧ y = t
    · obtain ⟨rfl, rfl⟩ := e2
      rw [if_pos ⟨rfl, rfl⟩, if_pos ⟨rfl, Nat.lt_succ_self _⟩]
    · rw [if_neg e2]
      by_cases e3 : x = i ∧ y < t
      · rw [if_pos e3, if_pos ⟨e3.1, by omega⟩]
      · rw [if_neg e3, if_neg (show ¬ (x = i ∧ y < t + 1) by omega)]
        by_cases e4 : y = i ∧ x < t
        · rw [if_pos e4, if_pos ⟨e4.1, by omega⟩]
        · rw [if_neg e4, if_neg (show ¬ (y = i ∧ x < t + 1) by omega)]
theorem adB_next (f : Nat → Nat → Int) (i j : Nat) (k : Int) (t x y : Nat) (ht : t ≠ i) : (if x = t ∧ y = i then -(f i t + k * f j t) else if x = i ∧ y = t then f i t + k * f j t else adB f i j k t x y) = adB f i j k (t + 1) x y := by
  unfold adB
  by_cases e1 : x = t ∧ y = i
  · obtain ⟨rfl, rfl⟩ := e1
    rw [if_pos ⟨rfl, rfl⟩, if_neg (fun q => ht q.1), if_pos ⟨rfl, Nat.lt_succ_self _, ht⟩]
  · rw [if_neg e1]
    by_cases e2 : x = i ∧ y = t
    · obtain ⟨rfl, rfl⟩ := e2
      rw [if_pos ⟨rfl, rfl⟩, if_pos ⟨rfl, Nat.lt_succ_self _, ht⟩]
    · rw [if_neg e2]
      by_cases e3 : x = i ∧ y < t ∧ y ≠ i
      · rw [if_pos e3, if_pos ⟨e3.1, by omega, e3.2.2⟩]
      · rw [if_neg e3, if_neg (show ¬ (x = i ∧ y < t + 1 ∧ y ≠ i) by omega)]
        by_cases e4 : y = i ∧ x < t ∧ x ≠ i
        · rw [if_pos e4, if_pos ⟨e4.1, by omega, e4.2.2⟩]
        · rw [if_neg e4, if_neg (show ¬ (y = i ∧ x < t + 1 ∧ x ≠ i) by omega)]
theorem adB_same (f : Nat → Nat → Int) (i j : Nat) (k : Int) (x y : Nat) : adB f i j k i x y = adB f i j k (i + 1) x y := by
  unfold adB
  by_cases e3 : x = i ∧ y < i ∧ y ≠ i
  · rw [if_pos e3, if_pos ⟨e3.1, by omega, e3.2.2⟩]
  · rw [if_neg e3, if_neg (show ¬ (x = i ∧ y < i + 1 ∧ y ≠ i) by omega)]
    by_cases e4 : y = i ∧ x < i ∧ x ≠ i
    · rw [if_pos e4, if_pos ⟨e4.1, by omega, e4.2.2⟩]
    · rw [if_neg e4, if_neg (show ¬ (y = i ∧ x < i + 1 ∧ x ≠ i) by omega)]
theorem tmA_all (f : Nat → Nat → Int) (i : Nat) (k : Int) {n x y : Nat} (hx : x < n) (hy : y < n) : tmA f i k n x y = tmAll f i k x y := by
  unfold tmA tmAll
  by_cases e : x = i
  · rw [if_pos ⟨e, hy⟩, if_pos e]
  · rw [if_neg (fun q => e q.1), if_neg e]
    by_cases e2 : y = i
    · rw [if_pos ⟨e2, hx⟩, if_pos e2]
    · rw [if_neg (fun q => e2 q.1), if_neg e2]
theorem adB_all {f : Nat → Nat → Int} (h : Zx.Skw f) (i j : Nat) (k : Int) {n x y : Nat} (hx : x < n) (hy : y < n) : adB f i j k n x y = adAll f i j k x y := by
  have hd := h.diag i
  unfold adB adAll
  by_cases e : x = i
  · subst e
    rw [if_pos rfl]
    by_cases e2 : y = x
    · subst e2
      rw [if_neg (fun q => q.2.2 rfl), if_neg (fun q => q.2.2 rfl), if_pos rfl, hd]
    · rw [if_pos ⟨rfl, hy, e2⟩, if_neg e2]
  · rw [if_neg (fun q => e q.1), if_neg e]
    by_cases e2 : y = i
    · rw [if_pos ⟨e2, hx, e⟩, if_pos e2]
    · rw [if_neg (fun q => e2 q.1), if_neg e2]
theorem tmAll_skw {f : Nat → Nat → Int} (h : Zx.Skw f) (i : Nat) (k : Int) : Zx.Skw (tmAll f i k) := fun x y => by
  have hd := h.diag i
  unfold tmAll
  by_cases e : x = i
  · subst e
    rw [if_pos rfl]
    by_cases e2 : y = x
    · subst e2; rw [if_pos rfl, hd]; simp
    · rw [if_neg e2, if_pos rfl]; omega
  · rw [if_neg e]
    by_cases e2 : y = i
    · subst e2; rw [if_pos rfl, if_pos rfl]
    · rw [if_neg e2, if_neg e2, if_neg e]; exact h x y
theorem adAll_skw {f : Nat → Nat → Int} (h : Zx.Skw f) (i j : Nat) (k : Int) : Zx.Skw (adAll f i j k) := fun x y => by
  unfold adAll
  by_cases e : x = i
  · subst e
    rw [if_pos rfl]
    by_cases e2 : y = x
    · subst e2; rw [if_pos rfl, if_pos rfl]; rfl
    · rw [if_neg e2, if_neg e2, if_pos rfl]; omega
  · rw [if_neg e]
    by_cases e2 : y = i
    · subst e2; rw [if_pos rfl, if_pos rfl, if_neg e]
    · rw [if_neg e2, if_neg e2, if_neg e]; exact h x y
theorem tmAll_pf {n : Nat} (h6 : n ≤ 6) {f : Nat → Nat → Int} (h : Zx.Skw f) {i : Nat} (hi : i < n) (k : Int) : Zx.pf n (tmAll f i k) = k * Zx.pf n f :=
  Zx.pf_times h6 hi fun a b hab hb => by
    unfold tmAll
    by_cases e : a = i
    · subst e; rw [if_pos rfl, if_pos (.inl rfl)]
    · rw [if_neg e]
      by_cases e2 : b = i
      · subst e2; rw [if_pos rfl, if_pos (.inr rfl), h a b, Int.mul_neg]
      · rw [if_neg e2, if_neg (by rintro (q | q); exact e q; exact e2 q)]
theorem adAll_pf {n : Nat} (h6 : n ≤ 6) {f : Nat → Nat → Int} (h : Zx.Skw f) {i j : Nat} (hi : i < n) (hj : j < n) (hij : i ≠ j) (k : Int) : Zx.pf n (adAll f i j k) = Zx.pf n f :=
  Zx.pf_plus h6 hi hj hij h fun a b hab hb => by
    unfold adAll
    by_cases e : a = i
    · subst e; rw [if_pos rfl, if_pos rfl, if_neg (by omega)]
    · rw [if_neg e, if_neg e]
      by_cases e2 : b = i
      · subst e2; rw [if_pos rfl, if_pos rfl, h b a, h j a, Int.mul_neg]; omega
      · rw [if_neg e2, if_neg e2]

/-- Two matrices of the call's own, the second one made behind the first. -/
structure TwoM (w0 : World) (B1 B2 g gc g2 gc2 n : Nat) (G C G2 C2 : Nat → Nat) (fa fb : Nat → Nat → Int) (w : World) : Prop where
  a : OwnM w B1 (.slice (some ⟨g, 0, none⟩) n gc) G C (Mx.tab n n fa)
  b : OwnM w B2 (.slice (some ⟨g2, 0, none⟩) n gc2) G2 C2 (Mx.tab n n fb)
  g1 : B1 ≤ g
  s1 : g < B2
  s2 : ∀ x, x < n → G x < B2
  s3 : B2 ≤ g2
  b1 : w0.heap.size ≤ B1
  kp : Kp w0 w
theorem TwoM.putA {w0 w : World} {B1 B2 g gc g2 gc2 n : Nat} {G C G2 C2 : Nat → Nat} {fa fb : Nat → Nat → Int} (h : TwoM w0 B1 B2 g gc g2 gc2 n G C G2 C2 fa fb w) {p : Nat} (hp : p < n) (q : Nat) (x : Int) :
    TwoM w0 B1 B2 g gc g2 gc2 n G C G2 C2 (fun a b => if a = p ∧ b = q then x else fa a b) fb (w.setCell ⟨G p, q, none⟩ (.int .i64 x)) := by
  have hb := h.s2 p hp
  have hl := (h.a.lt (i := p) (by rw [Mx.len_tab]; exact hp)).1
  have h1 := h.b1
  refine ⟨h.a.put hp q x, ?_, h.g1, h.s1, h.s2, h.s3, h.b1, h.kp.put (p := ⟨G p, q, none⟩) (by show w0.heap.size ≤ G p; omega) _⟩
  refine h.b.save (S := fun z => z = G p) (Save.put (S := fun z => z = G p) (p := ⟨G p, q, none⟩) (Save.refl _ w) rfl _) (fun z hz hs => ?_) (fun y hy hs => ?_)
  · have : g2 = z := Option.some.inj hz
    have := h.s3; omega
  · have := (h.b.lt hy).1; omega
theorem TwoM.putB {w0 w : World} {B1 B2 g gc g2 gc2 n : Nat} {G C G2 C2 : Nat → Nat} {fa fb : Nat → Nat → Int} (h : TwoM w0 B1 B2 g gc g2 gc2 n G C G2 C2 fa fb w) {p : Nat} (hp : p < n) (q : Nat) (x : Int) :
    TwoM w0 B1 B2 g gc g2 gc2 n G C G2 C2 fa (fun a b => if a = p ∧ b = q then x else fb a b) (w.setCell ⟨G2 p, q, none⟩ (.int .i64 x)) := by
  have hl := (h.b.lt (i := p) (by rw [Mx.len_tab]; exact hp)).1
  have h1 := h.b1
  have h2 := h.s1
  have h3 := h.g1
  refine ⟨?_, h.b.put hp q x, h.g1, h.s1, h.s2, h.s3, h.b1, h.kp.put (p := ⟨G2 p, q, none⟩) (by show w0.heap.size ≤ G2 p; omega) _⟩
  refine h.a.save (S := fun z => z = G2 p) (Save.put (S := fun z => z = G2 p) (p := ⟨G2 p, q, none⟩) (Save.refl _ w) rfl _) (fun z hz hs => ?_) (fun y hy hs => ?_)
  · have : g = z := Option.some.inj hz
    omega
  · have := h.s2 y (by rw [Mx.len_tab] at hy; exact hy); omega
theorem TwoM.drew {w0 w : World} {B1 B2 g gc g2 gc2 n : Nat} {G C G2 C2 : Nat → Nat} {fa fb : Nat → Nat → Int} (h : TwoM w0 B1 B2 g gc g2 gc2 n G C G2 C2 fa fb w) : TwoM w0 B1 B2 g gc g2 gc2 n G C G2 C2 fa fb w.drew :=
  ⟨h.a.drewN 1, h.b.drewN 1, h.g1, h.s1, h.s2, h.s3, h.b1, h.kp.drewN 1⟩
theorem TwoM.ext {w0 w : World} {B1 B2 g gc g2 gc2 n : Nat} {G C G2 C2 : Nat → Nat} {fa fb fa' fb' : Nat → Nat → Int} (h : TwoM w0 B1 B2 g gc g2 gc2 n G C G2 C2 fa fb w) (e1 : ∀ x y, x < n → y < n → fa x y = fa' x y) (e2 : ∀ x y, x < n → y < n → fb x y = fb' x y) : TwoM w0 B1 B2 g gc g2 gc2 n G C G2 C2 fa' fb' w :=
  ⟨h.a.ext e1, h.b.ext e2, h.g1, h.s1, h.s2, h.s3, h.b1, h.kp⟩

theorem prod9 {k x : Int} (hk : -9 ≤ k ∧ k ≤ 9) (hx : -9 ≤ x ∧ x ≤ 9) : -81 ≤ k * x ∧ k * x ≤ 81 := by
  have h1 : (k * x).natAbs ≤ 81 := by
    rw [Int.natAbs_mul]
    exact Nat.mul_le_mul (show k.natAbs ≤ 9 by omega) (show x.natAbs ≤ 9 by omega)
  omega
set_option maxRecDepth 100000 in
set_option maxHeartbeats 12800000 in
theorem walk_PfaffTimes (A : Option Addr) (m : List (List Int)) (d : Nat) (i j k : Int) (w : World) (ha : LiesM w A m) :
    Calls Try.prog 5 #[.slice A m.length d, .int .i64 i, .int .i64 j, .int .i64 k] w fun e w' => e = .returned (.bool true) ∧ Kp w w' := by
  obtain ⟨n, hn⟩ : ∃ n, n = m.length := ⟨_, rfl⟩
  rw [← hn]
  have HA := Lib.hid ha
  have FA := Lib.hid (pfaffFact_any w)
  rcases POf_or A m n d hn.symm with ⟨f, s⟩ | ⟨z, _, hz, bad⟩
  · have OA := Lib.hid (fun w h => POf_ok A m f n d w s h)
    have n0 := s.n0
    have n6 := s.n6
    have bd := s.bound
    have hm := ha
    rw [s.eq] at hm
    have HM := Lib.hid hm
    have AB := Lib.hid s.ab
    have SK := Lib.hid s.skw
    obtain ⟨v, hv⟩ : ∃ v, v = Zx.pf n f := ⟨_, rfl⟩
    rw [← hv] at OA bd
    have HV := Lib.hid hv
    clear hm s ha hn hv
    by_cases hi : 0 ≤ i ∧ i ≤ (n : Int) - 1
    · obtain ⟨p, rfl⟩ : ∃ p : Nat, i = (p : Int) := ⟨i.toNat, by omega⟩
      have hp : p < n := by omega
      have II := Lib.hid (fun w => law4In_any (p : Int) 0 ((n : Int) - 1) w true (by simp; omega))
      clear hi
      by_cases hj : 0 ≤ j ∧ j ≤ (n : Int) - 1
      · obtain ⟨q, rfl⟩ : ∃ q : Nat, j = (q : Int) := ⟨j.toNat, by omega⟩
        have hq : q < n := by omega
        have IJ := Lib.hid (fun w => law4In_any (q : Int) 0 ((n : Int) - 1) w true (by simp; omega))
        clear hj
        by_cases hpq : p = q
        · have e0 : ((p : Int) == (q : Int)) = true := by rw [hpq]; simp
          clear hpq
          go_enter Try.func5, Try.ntmps5
          go_wp2_with fail
          refine (FA.out).mono ?_; rintro e w1 ⟨rfl, k1⟩
          have K1 := Lib.hid k1; clear k1
          go_wp2_with fail
          refine (OA.out w1 (HA.out.keep K1.out)).mono ?_; rintro e w2 ⟨rfl, k2⟩
          have K2 := Lib.hid (K1.out.trans k2); clear k2
          go_wp2_with fail
          refine (II.out w2).mono ?_; rintro e w3 ⟨rfl, rfl⟩
          go_wp2_with fail
          refine (IJ.out w2).mono ?_; rintro e w3 ⟨rfl, rfl⟩
          go_wp2_with fail
          go_ret
          exact ⟨rfl, K2.out⟩
        · have e0 : ((p : Int) == (q : Int)) = false := by rw [beq_eq_false_iff_ne]; omega
          have HPQ := Lib.hid hpq
          clear hpq
          by_cases hk : -9 ≤ k ∧ k ≤ 9
          · have IK := Lib.hid (fun w => law4In_any k (-9) 9 w true (by simp; omega))
            go_enter Try.func5, Try.ntmps5
            go_wp2_with fail
            refine (FA.out).mono ?_; rintro e w1 ⟨rfl, k1⟩
            have K1 := Lib.hid k1; clear k1
            go_wp2_with fail
            refine (OA.out w1 (HA.out.keep K1.out)).mono ?_; rintro e w2 ⟨rfl, k2⟩
            have K2 := Lib.hid (K1.out.trans k2); clear k2
            go_wp2_with fail
            refine (II.out w2).mono ?_; rintro e w3 ⟨rfl, rfl⟩
            go_wp2_with fail
            refine (IJ.out w2).mono ?_; rintro e w3 ⟨rfl, rfl⟩
            go_wp2_with fail
            refine (IK.out w2).mono ?_; rintro e w3 ⟨rfl, rfl⟩
            go_wp2_with fail
            refine (rCopyZ_any A f n n d w2 (HM.out.keep K2.out) n0 (by omega) (by omega)).mono ?_; rintro e w3 ⟨V3, G, C, rfl, oa, k3⟩
            obtain ⟨g, gc, rfl, hg⟩ := oa.some (by rw [Mx.len_tab]; exact n0)
            rw [Mx.len_tab] at oa ⊢
            go_wp2_with fail
            refine (rCopyZ_any A f n n d w3 (HM.out.keep (K2.out.trans k3)) n0 (by omega) (by omega)).mono ?_; rintro e w4 ⟨V4, G2, C2, rfl, ob, k4⟩
            obtain ⟨g2, gc2, rfl, hg2⟩ := ob.some (by rw [Mx.len_tab]; exact n0)
            rw [Mx.len_tab] at ob ⊢
            have gl : g < w3.heap.size := (World.ownsRow.lt oa.top g rfl).2
            have T0 := Lib.hid (show TwoM w w2.heap.size w3.heap.size g gc g2 gc2 n G C G2 C2 f f w4 from ⟨oa.kp k4, ob, hg, gl, fun x hx => (oa.lt (i := x) (by rw [Mx.len_tab]; exact hx)).2, hg2, K2.out.size, (K2.out.trans k3).trans k4⟩)
            clear oa ob hg hg2 gl k3 k4 K1 K2
            go_wp2_with fail
            go_loopw [15] (fun c wr => ∃ t : Nat, t ≤ n ∧ c = .int .i64 (t : Int) ∧ TwoM w w2.heap.size w3.heap.size g gc g2 gc2 n G C G2 C2 (tmA f p k t) (adB f p q k t) wr) (fun c _ => n - (intOf c).toNat)
            case atStart => exact ⟨0, Nat.zero_le _, rfl, T0.out.ext (fun x y _ _ => tmA_zero f p k x y) (fun x y _ _ => adB_zero f p q k x y)⟩
            case round =>
              clear T0
              obtain ⟨t, ht, rfl, h0⟩ := hrel
              have H0 := Lib.hid h0
              by_cases hlt : t < n
              · obtain ⟨adm, Ap, dp, rfl, _, x1, _, l1⟩ := (HM.out.keep h0.kp).row hp
                obtain ⟨adp, rfl, _, x2⟩ := l1.el hlt
                have b1 := AB.out p t hp hlt
                have a1 := h0.a.weak.head hp
                have a2 := h0.a.el (i := p) (by rw [Mx.len_tab]; exact hp) (j := t) (by rw [Mx.tab_len _ _ _ _ hp]; exact hlt)
                rw [Mx.tab_el _ _ _ _ _ hp hlt] at a2
                have a3 := h0.a.free (i := p) (by rw [Mx.len_tab]; exact hp) t
                have kb : -81 ≤ k * f p t ∧ k * f p t ≤ 81 := prod9 hk b1
                have hw1 : IntKind.i64.wrap (k * f p t) = k * f p t := IntWalk.i64_in _ (by omega)
                have T1 := Lib.hid ((H0.out.putA hp t (k * f p t)).drew)
                clear h0 l1
                go_upto_region 15 with (fail)
                go_still_tail 15, (by kernel_rfl)
                change wpList _ _ _ _ _ wr.drew
                go_upto_region 16 with (fail)
                clear a1 a2 a3 x1 x2
                obtain ⟨v1, hv1⟩ : ∃ x, x = World.drew (wr.setCell ⟨G p, t, none⟩ (.int .i64 (k * f p t))) := ⟨_, rfl⟩
                rw [← hv1] at T1 ⊢
                clear hv1
                have a1 := T1.out.a.weak.head hp
                have a2 := T1.out.a.el (i := p) (by rw [Mx.len_tab]; exact hp) (j := t) (by rw [Mx.tab_len _ _ _ _ hp]; exact hlt)
                rw [Mx.tab_el _ _ _ _ _ hp hlt, if_pos ⟨rfl, rfl⟩] at a2
                have a3 := T1.out.a.weak.head hlt
                have a4 := T1.out.a.el (i := t) (by rw [Mx.len_tab]; exact hlt) (j := p) (by rw [Mx.tab_len _ _ _ _ hlt]; exact hp)
                have a5 := T1.out.a.free (i := t) (by rw [Mx.len_tab]; exact hlt) p
                have hw2 : IntKind.i64.wrap (-(k * f p t)) = -(k * f p t) := IntWalk.i64_in _ (by omega)
                have T2 := Lib.hid ((T1.out.putA hlt p (-(k * f p t))).drew.ext (fun x y _ _ => tmA_next SK.out p k t x y) (fun x y _ _ => rfl))
                clear T1 H0
                obtain ⟨z4, hz4⟩ : ∃ z, z = ((Mx.tab n n fun a b => if a = p ∧ b = t then k * f p t else tmA f p k t a b).getD t []).getD p 0 := ⟨_, rfl⟩
                rw [← hz4] at a4
                clear hz4
                go_still_tail 14, (by kernel_rfl)
                change wpList _ _ _ _ _ v1.drew
                go_upto_region 17 with (fail)
                clear a1 a2 a3 a4 a5 hw1 hw2
                obtain ⟨v2, hv2⟩ : ∃ x, x = World.drew (v1.setCell ⟨G t, p, none⟩ (.int .i64 (-(k * f p t)))) := ⟨_, rfl⟩
                rw [← hv2] at T2 ⊢
                clear hv2
                by_cases hpt : t = p
                · have e1 : ((t : Int) != (p : Int)) = false := by rw [bne_eq_false_iff_eq, hpt]
                  have T3 := Lib.hid (show TwoM w w2.heap.size w3.heap.size g gc g2 gc2 n G C G2 C2 (tmA f p k (t + 1)) (adB f p q k (t + 1)) v2 from T2.out.ext (fun x y _ _ => rfl) (fun x y _ _ => by rw [show t = p from hpt]; exact adB_same f p q k x y))
                  clear T2 hpt
                  go_wp2_with fail
                  go_roundw
                  case rel => exact ⟨t + 1, by omega, by go_num, T3.out⟩
                  case measure => simp [intOf]; omega
                · have e1 : ((t : Int) != (p : Int)) = true := by rw [bne_iff_ne]; omega
                  obtain ⟨adm', Ap', dp', em, _, x1, _, l1⟩ := (HM.out.keep T2.out.kp).row hp
                  obtain rfl := Option.some.inj em
                  obtain ⟨adp', rfl, _, x2⟩ := l1.el hlt
                  obtain ⟨adm', Aq, dq, em', _, x3, _, l3⟩ := (HM.out.keep T2.out.kp).row hq
                  obtain rfl := Option.some.inj em'
                  obtain ⟨adq, rfl, _, x4⟩ := l3.el hlt
                  have b2 := AB.out q t hq hlt
                  have kb2 : -81 ≤ k * f q t ∧ k * f q t ≤ 81 := prod9 hk b2
                  have hw1 : IntKind.i64.wrap (k * f q t) = k * f q t := IntWalk.i64_in _ (by omega)
                  have hw2 : IntKind.i64.wrap (f p t + k * f q t) = f p t + k * f q t := IntWalk.i64_in _ (by omega)
                  have a1 := T2.out.b.weak.head hp
                  have a2 := T2.out.b.el (i := p) (by rw [Mx.len_tab]; exact hp) (j := t) (by rw [Mx.tab_len _ _ _ _ hp]; exact hlt)
                  have a3 := T2.out.b.free (i := p) (by rw [Mx.len_tab]; exact hp) t
                  obtain ⟨z2, hz2⟩ : ∃ z, z = ((Mx.tab n n (adB f p q k t)).getD p []).getD t 0 := ⟨_, rfl⟩
                  rw [← hz2] at a2
                  have T3 := Lib.hid ((T2.out.putB hp t (f p t + k * f q t)).drew)
                  have HPT := Lib.hid hpt
                  clear T2 l1 l3 hz2 em em' hpt
                  go_upto_region 18 with (fail)
                  go_still_tail 23, (by kernel_rfl)
                  change wpList _ _ _ _ _ v2.drew
                  go_upto_region 19 with (fail)
                  clear a1 a2 a3 x1 x2 x3 x4 hw1 hw2
                  obtain ⟨v3, hv3⟩ : ∃ x, x = World.drew (v2.setCell ⟨G2 p, t, none⟩ (.int .i64 (f p t + k * f q t))) := ⟨_, rfl⟩
                  rw [← hv3] at T3 ⊢
                  clear hv3
                  have a1 := T3.out.b.weak.head hp
                  have a2 := T3.out.b.el (i := p) (by rw [Mx.len_tab]; exact hp) (j := t) (by rw [Mx.tab_len _ _ _ _ hp]; exact hlt)
                  rw [Mx.tab_el _ _ _ _ _ hp hlt, if_pos ⟨rfl, rfl⟩] at a2
                  have a3 := T3.out.b.weak.head hlt
                  have a4 := T3.out.b.el (i := t) (by rw [Mx.len_tab]; exact hlt) (j := p) (by rw [Mx.tab_len _ _ _ _ hlt]; exact hp)
                  have a5 := T3.out.b.free (i := t) (by rw [Mx.len_tab]; exact hlt) p
                  have hw2 : IntKind.i64.wrap (-(f p t + k * f q t)) = -(f p t + k * f q t) := IntWalk.i64_in _ (by omega)
                  have T4 := Lib.hid ((T3.out.putB hlt p (-(f p t + k * f q t))).drew.ext (fun x y _ _ => rfl) (fun x y _ _ => adB_next f p q k t x y HPT.out))
                  clear T3
                  obtain ⟨z4, hz4⟩ : ∃ z, z = ((Mx.tab n n fun a b => if a = p ∧ b = t then f p t + k * f q t else adB f p q k t a b).getD t []).getD p 0 := ⟨_, rfl⟩
                  rw [← hz4] at a4
                  clear hz4 kb kb2 b1 b2
                  generalize f p t + k * f q t = zz at *
                  go_still_tail 14, (by kernel_rfl)
                  change wpList _ _ _ _ _ v3.drew
                  go_wp2_with fail
                  go_roundw
                  case rel => exact ⟨t + 1, by omega, by go_num, T4.out⟩
                  case measure => simp [intOf]; omega
              · have etn : n = t := by omega
                subst etn
                have H1 := Lib.hid (h0.ext (fun x y hx hy => tmA_all f p k hx hy) (fun x y hx hy => adB_all SK.out p q k hx hy))
                have LA := Lib.hid H1.out.a.liesM
                have LB := Lib.hid H1.out.b.liesM
                have KK := Lib.hid H1.out.kp
                clear h0 H0 H1 ht hlt
                obtain ⟨wl, hwl⟩ : ∃ x, x = wr := ⟨_, rfl⟩
                subst hwl
                have hwv : IntKind.i64.wrap (k * v) = k * v := by
                  have : (k * v).natAbs ≤ 9 * 10935 := by rw [Int.natAbs_mul]; exact Nat.mul_le_mul (by omega) bd
                  exact IntWalk.i64_in _ (by omega)
                have ne1 : ((k * v) != (k * v)) = false := by simp
                have ne2 : (v != v) = false := by simp
                have EVA := tmAll_pf n6 SK.out hp k
                have EVB := adAll_pf n6 SK.out hp hq HPQ.out k
                rw [← HV.out] at EVA EVB
                rcases pz_made n0 n6 (tmAll_skw SK.out p k) with sa | sa
                · have OFA := Lib.hid (POf_ok (some ⟨g, 0, none⟩) _ _ n gc wl sa LA.out)
                  rw [EVA] at OFA
                  rcases pz_made n0 n6 (adAll_skw SK.out p q k) with sb | sb
                  · have OFB := Lib.hid (fun w' (h : Kp wl w') => POf_ok (some ⟨g2, 0, none⟩) _ _ n gc2 w' sb (LB.out.keep h))
                    rw [EVB] at OFB
                    clear EVA EVB sa sb
                    go_wp2_with fail
                    refine (OFA.out).mono ?_; rintro e w5 ⟨rfl, k5⟩
                    have K5 := Lib.hid k5; clear k5
                    go_wp2_with fail
                    refine (OFB.out w5 K5.out).mono ?_; rintro e w6 ⟨rfl, k6⟩
                    have K6 := Lib.hid (K5.out.trans k6); clear k6
                    go_wp2_with fail
                    go_ret
                    exact ⟨rfl, KK.out.trans K6.out⟩
                  · have OFB := Lib.hid (fun w' (h : Kp wl w') => POf_bad (some ⟨g2, 0, none⟩) _ n gc2 w' (LB.out.keep h) (Mx.len_tab _ _ _) (by rw [sb]; decide))
                    rw [sb] at OFB
                    have SKB := Lib.hid (fun w' (h : Kp wl w') => rSkew_any (some ⟨g2, 0, none⟩) _ n gc2 w' (LB.out.keep h) (Mx.len_tab _ _ _))
                    rw [sb] at SKB
                    clear EVA EVB sa sb
                    go_wp2_with fail
                    refine (OFA.out).mono ?_; rintro e w5 ⟨rfl, k5⟩
                    have K5 := Lib.hid k5; clear k5
                    go_wp2_with fail
                    refine (OFB.out w5 K5.out).mono ?_; rintro e w6 ⟨rfl, k6⟩
                    have K6 := Lib.hid (K5.out.trans k6); clear k6
                    go_wp2_with fail
                    refine (SKB.out w6 K6.out).mono ?_; rintro e w7 ⟨rfl, k7⟩
                    have K7 := Lib.hid (K6.out.trans k7); clear k7
                    go_wp2_with fail
                    go_ret
                    exact ⟨rfl, KK.out.trans K7.out⟩
                · have OFA := Lib.hid (POf_bad (some ⟨g, 0, none⟩) _ n gc wl LA.out (Mx.len_tab _ _ _) (by rw [sa]; decide))
                  rw [sa] at OFA
                  have SKA := Lib.hid (fun w' (h : Kp wl w') => rSkew_any (some ⟨g, 0, none⟩) _ n gc w' (LA.out.keep h) (Mx.len_tab _ _ _))
                  rw [sa] at SKA
                  rcases pz_made n0 n6 (adAll_skw SK.out p q k) with sb | sb
                  · have OFB := Lib.hid (fun w' (h : Kp wl w') => POf_ok (some ⟨g2, 0, none⟩) _ _ n gc2 w' sb (LB.out.keep h))
                    rw [EVB] at OFB
                    clear EVA EVB sa sb
                    go_wp2_with fail
                    refine (OFA.out).mono ?_; rintro e w5 ⟨rfl, k5⟩
                    have K5 := Lib.hid k5; clear k5
                    go_wp2_with fail
                    refine (OFB.out w5 K5.out).mono ?_; rintro e w6 ⟨rfl, k6⟩
                    have K6 := Lib.hid (K5.out.trans k6); clear k6
                    go_wp2_with fail
                    refine (SKA.out w6 K6.out).mono ?_; rintro e w7 ⟨rfl, k7⟩
                    have K7 := Lib.hid (K6.out.trans k7); clear k7
                    go_wp2_with fail
                    go_ret
                    exact ⟨rfl, KK.out.trans K7.out⟩
                  · have OFB := Lib.hid (fun w' (h : Kp wl w') => POf_bad (some ⟨g2, 0, none⟩) _ n gc2 w' (LB.out.keep h) (Mx.len_tab _ _ _) (by rw [sb]; decide))
                    rw [sb] at OFB
                    have SKB := Lib.hid (fun w' (h : Kp wl w') => rSkew_any (some ⟨g2, 0, none⟩) _ n gc2 w' (LB.out.keep h) (Mx.len_tab _ _ _))
                    rw [sb] at SKB
                    clear EVA EVB sa sb
                    go_wp2_with fail
                    refine (OFA.out).mono ?_; rintro e w5 ⟨rfl, k5⟩
                    have K5 := Lib.hid k5; clear k5
                    go_wp2_with fail
                    refine (OFB.out w5 K5.out).mono ?_; rintro e w6 ⟨rfl, k6⟩
                    have K6 := Lib.hid (K5.out.trans k6); clear k6
                    go_wp2_with fail
                    refine (SKA.out w6 K6.out).mono ?_; rintro e w7 ⟨rfl, k7⟩
                    have K7 := Lib.hid (K6.out.trans k7); clear k7
                    go_wp2_with fail
                    refine (SKB.out w7 K7.out).mono ?_; rintro e w8 ⟨rfl, k8⟩
                    have K8 := Lib.hid (K7.out.trans k8); clear k8
                    go_wp2_with fail
                    go_ret
                    exact ⟨rfl, KK.out.trans K8.out⟩
          · have IK := Lib.hid (fun w => law4In_any k (-9) 9 w false (by simp; omega))
            clear hk
            go_enter Try.func5, Try.ntmps5
            go_wp2_with fail
            refine (FA.out).mono ?_; rintro e w1 ⟨rfl, k1⟩
            have K1 := Lib.hid k1; clear k1
            go_wp2_with fail
            refine (OA.out w1 (HA.out.keep K1.out)).mono ?_; rintro e w2 ⟨rfl, k2⟩
            have K2 := Lib.hid (K1.out.trans k2); clear k2
            go_wp2_with fail
            refine (II.out w2).mono ?_; rintro e w3 ⟨rfl, rfl⟩
            go_wp2_with fail
            refine (IJ.out w2).mono ?_; rintro e w3 ⟨rfl, rfl⟩
            go_wp2_with fail
            refine (IK.out w2).mono ?_; rintro e w3 ⟨rfl, rfl⟩
            go_wp2_with fail
            go_ret
            exact ⟨rfl, K2.out⟩
      · have IJ := Lib.hid (fun w => law4In_any j 0 ((n : Int) - 1) w false (by simp; omega))
        clear hj
        go_enter Try.func5, Try.ntmps5
        go_wp2_with fail
        refine (FA.out).mono ?_; rintro e w1 ⟨rfl, k1⟩
        have K1 := Lib.hid k1; clear k1
        go_wp2_with fail
        refine (OA.out w1 (HA.out.keep K1.out)).mono ?_; rintro e w2 ⟨rfl, k2⟩
        have K2 := Lib.hid (K1.out.trans k2); clear k2
        go_wp2_with fail
        refine (II.out w2).mono ?_; rintro e w3 ⟨rfl, rfl⟩
        go_wp2_with fail
        refine (IJ.out w2).mono ?_; rintro e w3 ⟨rfl, rfl⟩
        go_wp2_with fail
        go_ret
        exact ⟨rfl, K2.out⟩
    · have II := Lib.hid (fun w => law4In_any i 0 ((n : Int) - 1) w false (by simp; omega))
      clear hi
      go_enter Try.func5, Try.ntmps5
      go_wp2_with fail
      refine (FA.out).mono ?_; rintro e w1 ⟨rfl, k1⟩
      have K1 := Lib.hid k1; clear k1
      go_wp2_with fail
      refine (OA.out w1 (HA.out.keep K1.out)).mono ?_; rintro e w2 ⟨rfl, k2⟩
      have K2 := Lib.hid (K1.out.trans k2); clear k2
      go_wp2_with fail
      refine (II.out w2).mono ?_; rintro e w3 ⟨rfl, rfl⟩
      go_wp2_with fail
      go_ret
      exact ⟨rfl, K2.out⟩
  · have OA := Lib.hid bad
    clear bad hn ha hz
    go_enter Try.func5, Try.ntmps5
    go_wp2_with fail
    refine (FA.out).mono ?_; rintro e w1 ⟨rfl, k1⟩
    have K1 := Lib.hid k1; clear k1
    go_wp2_with fail
    refine (OA.out w1 (HA.out.keep K1.out)).mono ?_; rintro e w2 ⟨rfl, k2⟩
    have K2 := Lib.hid (K1.out.trans k2); clear k2
    go_wp2_with fail
    go_ret
    exact ⟨rfl, K2.out⟩
end Go.Proofs.Ytkebjmapdcbnaaa
