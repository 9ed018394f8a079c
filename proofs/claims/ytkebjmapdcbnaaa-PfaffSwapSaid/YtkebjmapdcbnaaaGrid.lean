/- Matrices in memory: a slice of rows that lies, and one of the call's own whose rows stand apart. For all packages. -/
import Derived.Test.YtkebjmapdcbnaaaRowG
import Derived.Test.YtkebjmapdcbnaaaMatM
namespace Go.Proofs.Ytkebjmapdcbnaaa
open Go.ChangeShapes Go.WideShapes Go.ChangeAt Go.RowKit
set_option linter.unusedVariables false

theorem ints_info : (Try.prog.info? 32).map (fun i => (i.zero, i.size, i.bytes)) = some (some (.slice none 0 0), 1, 24) := by kernel_rfl

/-- From address A on lie the rows of m. -/
def LiesM (w : World) (A : Option Addr) (m : List (List Int)) : Prop :=
  ∀ k, k < m.length → ∃ ad A' c, A = some ad ∧ ad.block < w.heap.size ∧ w.cell? (ad.add k) = some (.slice A' (m.getD k []).length c) ∧ (m.getD k []).length ≤ c ∧ Lies w A' (m.getD k [])
theorem LiesM.empty (w : World) (A : Option Addr) : LiesM w A [] := fun k h => absurd h (by simp)
theorem LiesM.keep {w w' : World} {A : Option Addr} {m : List (List Int)} (h : LiesM w A m) (hb : Kp w w') : LiesM w' A m := fun k hk => by
  obtain ⟨ad, A', c, e, hl, hc, hle, hr⟩ := h k hk
  exact ⟨ad, A', c, e, Nat.lt_of_lt_of_le hl hb.size, (hb.cell (p := ad.add k) (by rw [block_add]; omega)).trans hc, hle, hr.keep hb⟩
theorem LiesM.drewN {w : World} {A : Option Addr} {m : List (List Int)} (h : LiesM w A m) (n : Nat) : LiesM (w.drewN n) A m := h.keep ((Kp.rfl' w).drewN n)
/-- Row i of a matrix from a rule. -/
theorem LiesM.row {w : World} {A : Option Addr} {r c : Nat} {g : Nat → Nat → Int} (h : LiesM w A (Mx.tab r c g)) {i : Nat} (hi : i < r) :
    ∃ ad A' cap, A = some ad ∧ ad.block < w.heap.size ∧ w.cell? (ad.add i) = some (.slice A' c cap) ∧ c ≤ cap ∧ Lies w A' (Mx.row c (g i)) := by
  obtain ⟨ad, A', cap, e, hl, hc, hle, hr⟩ := h i (by rw [Mx.len_tab]; exact hi)
  rw [Mx.tab_len _ _ _ _ hi] at hc hle
  rw [Mx.tab_at _ _ _ _ hi] at hr
  exact ⟨ad, A', cap, e, hl, hc, hle, hr⟩
theorem Lies.el {w : World} {A : Option Addr} {c : Nat} {g : Nat → Int} (h : Lies w A (Mx.row c g)) {j : Nat} (hj : j < c) : ∃ ad, A = some ad ∧ ad.block < w.heap.size ∧ w.cell? (ad.add j) = some (.int .i64 (g j)) := by
  obtain ⟨ad, e, hl, hc⟩ := h j (by rw [Mx.len_row]; exact hj)
  rw [Mx.row_at _ _ _ hj] at hc
  exact ⟨ad, e, hl, hc⟩

/-- Block g holds the heads of r rows of c numbers each, row i in block G i, each apart from the others, and all behind g. -/
structure Grid (w : World) (g : Nat) (G : Nat → Nat) (r c : Nat) (f : Nat → Nat → Int) : Prop where
  head : w.heap[g]? = some (.cells ((List.range r).map fun i => Value.slice (some ⟨G i, 0, none⟩) c c).toArray 32 (0, 0))
  row : ∀ i, i < r → Row w (G i) (Mx.row c (f i))
  after : ∀ i, i < r → g < G i
  apart : ∀ i j, i < r → j < r → i ≠ j → G i ≠ G j
theorem Grid.lt {w : World} {g : Nat} {G : Nat → Nat} {r c : Nat} {f : Nat → Nat → Int} (h : Grid w g G r c f) : g < w.heap.size := by
  rcases Nat.lt_or_ge g w.heap.size with h' | h'
  · exact h'
  · have := h.head; rw [Array.getElem?_eq_none h'] at this; cases this
theorem Grid.cell {w : World} {g : Nat} {G : Nat → Nat} {r c : Nat} {f : Nat → Nat → Int} (h : Grid w g G r c f) {i : Nat} (hi : i < r) : w.cell? ⟨g, i, none⟩ = some (.slice (some ⟨G i, 0, none⟩) c c) := by
  rw [cell_of_row _ _ i _ _ (0, 0) h.head]; simp [hi]
theorem Grid.el {w : World} {g : Nat} {G : Nat → Nat} {r c : Nat} {f : Nat → Nat → Int} (h : Grid w g G r c f) {i j : Nat} (hi : i < r) (hj : j < c) : w.cell? ⟨G i, j, none⟩ = some (.int .i64 (f i j)) := by
  rw [(h.row i hi).cell j (by rw [Mx.len_row]; exact hj), Mx.row_at _ _ _ hj]
theorem Grid.free {w : World} {g : Nat} {G : Nat → Nat} {r c : Nat} {f : Nat → Nat → Int} (h : Grid w g G r c f) {i : Nat} (hi : i < r) (j : Nat) : w.frozen? ⟨G i, j, none⟩ = false := (h.row i hi).free j
theorem Grid.keep {w w' : World} {g : Nat} {G : Nat → Nat} {r c : Nat} {f : Nat → Nat → Int} (h : Grid w g G r c f) (hk : Kp w w') : Grid w' g G r c f :=
  ⟨by rw [hk.block g h.lt]; exact h.head, fun i hi => (h.row i hi).keep hk, h.after, h.apart⟩
theorem Grid.drewN {w : World} {g : Nat} {G : Nat → Nat} {r c : Nat} {f : Nat → Nat → Int} (h : Grid w g G r c f) (n : Nat) : Grid (w.drewN n) g G r c f := h.keep ((Kp.rfl' w).drewN n)
theorem Grid.new {w : World} {g : Nat} {G : Nat → Nat} {r c : Nat} {f : Nat → Nat → Int} (h : Grid w g G r c f) (o : Obj) : Grid (w.alloc o) g G r c f := h.keep ((Kp.rfl' w).new o)
theorem Grid.ext {w : World} {g : Nat} {G : Nat → Nat} {r c : Nat} {f f' : Nat → Nat → Int} (h : Grid w g G r c f) (e : ∀ i j, i < r → j < c → f i j = f' i j) : Grid w g G r c f' :=
  ⟨h.head, fun i hi => by rw [← Mx.row_ext (fun j hj => e i j hi hj)]; exact h.row i hi, h.after, h.apart⟩
theorem Grid.put {w : World} {g : Nat} {G : Nat → Nat} {r c : Nat} {f : Nat → Nat → Int} (h : Grid w g G r c f) {i : Nat} (hi : i < r) (j : Nat) (x : Int) :
    Grid (w.setCell ⟨G i, j, none⟩ (.int .i64 x)) g G r c (fun a b => if a = i ∧ b = j then x else f a b) := by
  refine ⟨?_, fun a ha => ?_, h.after, h.apart⟩
  · rw [heap_setCell_other w _ g _ (by show g ≠ G i; have := h.after i hi; omega)]; exact h.head
  · by_cases e : a = i
    · subst e
      have := (h.row a ha).put j x
      rw [Mx.row_set] at this
      rw [show (fun b => if a = a ∧ b = j then x else f a b) = fun b => if b = j then x else f a b by funext b; simp]
      exact this
    · rw [show (fun b => if a = i ∧ b = j then x else f a b) = f a by funext b; simp [e]]
      exact (h.row a ha).far (by show G a ≠ G i; exact h.apart a i ha hi e) _
theorem Grid.lies {w : World} {g : Nat} {G : Nat → Nat} {r c : Nat} {f : Nat → Nat → Int} (h : Grid w g G r c f) : LiesM w (some ⟨g, 0, none⟩) (Mx.tab r c f) := fun i hi => by
  rw [Mx.len_tab] at hi
  refine ⟨_, some ⟨G i, 0, none⟩, c, rfl, h.lt, ?_, ?_, ?_⟩
  · rw [add_at, Mx.tab_len _ _ _ _ hi]; exact h.cell hi
  · rw [Mx.tab_len _ _ _ _ hi]; exact Nat.le_refl _
  · rw [Mx.tab_at _ _ _ _ hi]; exact (h.row i hi).lies

/-- The same, where the first k rows alone are made, all of noughts. -/
structure Part (w : World) (g : Nat) (G : Nat → Nat) (r c k : Nat) : Prop where
  head : w.heap[g]? = some (.cells ((List.range r).map fun i => if i < k then Value.slice (some ⟨G i, 0, none⟩) c c else .slice none 0 0).toArray 32 (0, 0))
  row : ∀ i, i < k → Row w (G i) (List.replicate c 0)
  after : ∀ i, i < k → g < G i
  apart : ∀ i j, i < k → j < k → i ≠ j → G i ≠ G j
theorem Part.lt {w : World} {g : Nat} {G : Nat → Nat} {r c k : Nat} (h : Part w g G r c k) : g < w.heap.size := by
  rcases Nat.lt_or_ge g w.heap.size with h' | h'
  · exact h'
  · have := h.head; rw [Array.getElem?_eq_none h'] at this; cases this
theorem Part.keep {w w' : World} {g : Nat} {G : Nat → Nat} {r c k : Nat} (h : Part w g G r c k) (hk : Kp w w') : Part w' g G r c k :=
  ⟨by rw [hk.block g h.lt]; exact h.head, fun i hi => (h.row i hi).keep hk, h.after, h.apart⟩
theorem Part.cell {w : World} {g : Nat} {G : Nat → Nat} {r c k : Nat} (h : Part w g G r c k) {i : Nat} (hi : k ≤ i) (hr : i < r) : w.cell? ⟨g, i, none⟩ = some (.slice none 0 0) := by
  rw [cell_of_row _ _ i _ _ (0, 0) h.head]; simp [hr]; omega
theorem Part.free {w : World} {g : Nat} {G : Nat → Nat} {r c k : Nat} (h : Part w g G r c k) (i : Nat) : w.frozen? ⟨g, i, none⟩ = false := frozen_of_row w g i _ _ h.head
theorem Part.start {w : World} {base g r c : Nat} (h : w.ownsRow base 32 1 (.slice (some ⟨g, 0, none⟩) r r) r (madeCells #[.slice none 0 0] (r * 1)).toList) : Part w g (fun _ => 0) r c 0 := by
  refine ⟨?_, fun i hi => absurd hi (by omega), fun i hi => absurd hi (by omega), fun i j hi => absurd hi (by omega)⟩
  rcases h.2 with ⟨h', _⟩ | ⟨g', cap, cur, h', _, hg, _, _, hs, ht⟩
  · simp at h'
  · simp only [Value.slice.injEq, Option.some.injEq, Addr.mk.injEq, and_true, true_and] at h'
    obtain ⟨rfl, rfl⟩ := h'
    rw [hg]
    congr 2
    apply Array.toList_inj.1
    rw [toList_madeCells_one] at ht
    rw [List.take_of_length_le (by rw [Array.length_toList, hs]; exact Nat.le_refl _)] at ht
    rw [ht]
    refine List.ext_getElem (by simp) fun j h1 h2 => ?_
    simp
theorem Part.step {w w1 : World} {g : Nat} {G : Nat → Nat} {r c k : Nat} (h : Part w g G r c k) (hk : k < r) (hr : Row w1 w.heap.size (List.replicate c 0)) (hkp : Kp w w1) :
    Part (w1.setCell ⟨g, k, none⟩ (.slice (some ⟨w.heap.size, 0, none⟩) c c)) g (fun i => if i = k then w.heap.size else G i) r c (k + 1) := by
  have hlt := h.lt
  have h1 := h.keep hkp
  refine ⟨?_, fun i hi => ?_, fun i hi => ?_, fun i j hi hj hne => ?_⟩
  · rw [heap_setCell_same w1 g k _ _ _ h1.head]
    congr 2
    refine Array.toList_inj.1 (List.ext_getElem (by simp) fun i h2 h3 => ?_)
    simp only [Array.toList_setIfInBounds, List.getElem_set, List.getElem_map, List.getElem_range]
    rcases Nat.lt_trichotomy i k with e | e | e
    · simp [show ¬ k = i by omega, show i < k from e, show i < k + 1 by omega, show ¬ i = k by omega]
    · subst e; simp
    · simp [show ¬ k = i by omega, show ¬ i < k by omega, show ¬ i < k + 1 by omega]
  · by_cases e : i = k
    · subst e
      rw [if_pos rfl]
      exact hr.far (by show w.heap.size ≠ g; omega) _
    · rw [if_neg e]
      exact (h1.row i (by omega)).far (by show G i ≠ g; have := h.after i (by omega); omega) _
  · by_cases e : i = k
    · rw [if_pos e]; exact hlt
    · rw [if_neg e]; exact h.after i (by omega)
  · have hG : ∀ a, a < k → G a < w.heap.size := fun a ha => (h.row a ha).lt
    by_cases e : i = k
    · rw [if_pos e, if_neg (by omega)]
      have := hG j (by omega); omega
    · rw [if_neg e]
      by_cases e2 : j = k
      · rw [if_pos e2]; have := hG i (by omega); omega
      · rw [if_neg e2]; exact h.apart i j (by omega) (by omega) hne
theorem Part.done {w : World} {g : Nat} {G : Nat → Nat} {r c : Nat} (h : Part w g G r c r) : Grid w g G r c (fun _ _ => 0) := by
  refine ⟨?_, fun i hi => by rw [← Mx.row_rep]; exact h.row i hi, h.after, h.apart⟩
  rw [h.head]
  congr 2
  refine Array.toList_inj.1 (List.ext_getElem (by simp) fun i h2 h3 => ?_)
  simp only [List.getElem_map, List.getElem_range]
  rw [if_pos (by simpa using h3)]

end Go.Proofs.Ytkebjmapdcbnaaa
