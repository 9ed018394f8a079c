/- The heads of r rows, of which the first k are made. For all packages. -/
import Derived.Test.YtolkdbijenbchaaGrid
namespace Go.Proofs.Ytolkdbijenbchaa
open Go.ChangeShapes Go.WideShapes Go.ChangeAt Go.RowKit
set_option linter.unusedVariables false

/-- Of a matrix that is made row by row the first k rows. -/
structure PartF (w : World) (g : Nat) (G : Nat → Nat) (r c k : Nat) (f : Nat → Nat → Int) : Prop where
  head : w.heap[g]? = some (.cells ((List.range r).map fun i => if i < k then Value.slice (some ⟨G i, 0, none⟩) c c else .slice none 0 0).toArray 22 (0, 0))
  row : ∀ i, i < k → Row w (G i) (Mx.row c (f i))
  after : ∀ i, i < k → g < G i
  apart : ∀ i j, i < k → j < k → i ≠ j → G i ≠ G j
theorem PartF.lt {w : World} {g : Nat} {G : Nat → Nat} {r c k : Nat} {f : Nat → Nat → Int} (h : PartF w g G r c k f) : g < w.heap.size := by
  rcases Nat.lt_or_ge g w.heap.size with h' | h'
  · exact h'
  · have := h.head; rw [Array.getElem?_eq_none h'] at this; cases this
theorem PartF.keep {w w' : World} {g : Nat} {G : Nat → Nat} {r c k : Nat} {f : Nat → Nat → Int} (h : PartF w g G r c k f) (hk : Kp w w') : PartF w' g G r c k f :=
  ⟨by rw [hk.block g h.lt]; exact h.head, fun i hi => (h.row i hi).keep hk, h.after, h.apart⟩
theorem PartF.cell {w : World} {g : Nat} {G : Nat → Nat} {r c k : Nat} {f : Nat → Nat → Int} (h : PartF w g G r c k f) {i : Nat} (hi : k ≤ i) (hr : i < r) : w.cell? ⟨g, i, none⟩ = some (.slice none 0 0) := by
  rw [cell_of_row _ _ i _ _ (0, 0) h.head]; simp [hr]; omega
theorem PartF.free {w : World} {g : Nat} {G : Nat → Nat} {r c k : Nat} {f : Nat → Nat → Int} (h : PartF w g G r c k f) (i : Nat) : w.frozen? ⟨g, i, none⟩ = false := frozen_of_row w g i _ _ h.head
theorem PartF.start {w : World} {base g r c : Nat} (f : Nat → Nat → Int) (h : w.ownsRow base 22 1 (.slice (some ⟨g, 0, none⟩) r r) r (madeCells #[.slice none 0 0] (r * 1)).toList) : PartF w g (fun _ => 0) r c 0 f :=
  ⟨(Part.start (c := c) h).head, fun i hi => absurd hi (by omega), fun i hi => absurd hi (by omega), fun i j hi => absurd hi (by omega)⟩
theorem PartF.step {w w1 w2 : World} {g : Nat} {G : Nat → Nat} {r c k : Nat} {f : Nat → Nat → Int} (h : PartF w g G r c k f) (hk : k < r) (hkp : Kp w w1) (h2 : Row w2 w.heap.size (Mx.row c (f k)))
    (hb : ∀ b, b ≠ w.heap.size → w2.heap[b]? = (w1.setCell ⟨g, k, none⟩ (.slice (some ⟨w.heap.size, 0, none⟩) c c)).heap[b]?) :
    PartF w2 g (fun i => if i = k then w.heap.size else G i) r c (k + 1) f := by
  have hlt := h.lt
  have h1 := h.keep hkp
  refine ⟨?_, fun i hi => ?_, fun i hi => ?_, fun i j hi hj hne => ?_⟩
  · rw [hb g (by omega), heap_setCell_same w1 g k _ _ _ h1.head]
    congr 2
    refine Array.toList_inj.1 (List.ext_getElem (by simp) fun i h2 h3 => ?_)
    simp only [Array.toList_setIfInBounds, List.getElem_set, List.getElem_map, List.getElem_range]
    rcases Nat.lt_trichotomy i k with e | e | e
    · simp [show ¬ k = i by omega, show i < k from e, show i < k + 1 by omega, show ¬ i = k by omega]
    · subst e; simp
    · simp [show ¬ k = i by omega, show ¬ i < k by omega, show ¬ i < k + 1 by omega]
  · by_cases e : i = k
    · subst e
      rw [if_pos rfl]; exact h2
    · rw [if_neg e]
      have hi' : i < k := by omega
      have := (h.row i hi').lt
      have h3 : Row (w1.setCell ⟨g, k, none⟩ (.slice (some ⟨w.heap.size, 0, none⟩) c c)) (G i) (Mx.row c (f i)) := (h1.row i hi').far (by show G i ≠ g; have := h.after i hi'; omega) _
      unfold Row at h3 ⊢
      rw [hb (G i) (by omega)]; exact h3
  · by_cases e : i = k
    · rw [if_pos e]; exact hlt
    · rw [if_neg e]; exact h.after i (by omega)
  · have hG : ∀ a, a < k → G a < w.heap.size := fun a ha => (h.row a ha).lt
    by_cases e : i = k
    · rw [if_pos e, if_neg (by omega)]
      have := hG j (by omega); omega
    · rw [if_neg e]
      by_cases e2 : j = k
      · rw [if_pos e2]; have := hG i (by omega); omega
      · rw [if_neg e2]; exact h.apart i j (by omega) (by omega) hne
theorem PartF.done {w : World} {g : Nat} {G : Nat → Nat} {r c : Nat} {f : Nat → Nat → Int} (h : PartF w g G r c r f) : Grid w g G r c f := by
  refine ⟨?_, fun i hi => h.row i hi, h.after, h.apart⟩
  rw [h.head]
  congr 2
  refine Array.toList_inj.1 (List.ext_getElem (by simp) fun i h2 h3 => ?_)
  simp only [List.getElem_map, List.getElem_range]
  rw [if_pos (by simpa using h3)]

theorem PartF.ext {w : World} {g : Nat} {G : Nat → Nat} {r c k : Nat} {f f' : Nat → Nat → Int} (h : PartF w g G r c k f) (e : ∀ i j, i < k → j < c → f i j = f' i j) : PartF w g G r c k f' :=
  ⟨h.head, fun i hi => by rw [← Mx.row_ext (fun j hj => e i j hi hj)]; exact h.row i hi, h.after, h.apart⟩
theorem PartF.cellOf {w : World} {g : Nat} {G : Nat → Nat} {r c k : Nat} {f : Nat → Nat → Int} (h : PartF w g G r c k f) {i : Nat} (hi : i < k) (hr : i < r) : w.cell? ⟨g, i, none⟩ = some (.slice (some ⟨G i, 0, none⟩) c c) := by
  rw [cell_of_row _ _ i _ _ (0, 0) h.head]; simp [hr, hi]
theorem PartF.el {w : World} {g : Nat} {G : Nat → Nat} {r c k : Nat} {f : Nat → Nat → Int} (h : PartF w g G r c k f) {i j : Nat} (hi : i < k) (hj : j < c) : w.cell? ⟨G i, j, none⟩ = some (.int .i64 (f i j)) := by
  have := (h.row i hi).cell j (by rw [Mx.len_row]; exact hj)
  rwa [Mx.row_at _ _ _ hj] at this
theorem PartF.freeOf {w : World} {g : Nat} {G : Nat → Nat} {r c k : Nat} {f : Nat → Nat → Int} (h : PartF w g G r c k f) {i : Nat} (hi : i < k) (j : Nat) : w.frozen? ⟨G i, j, none⟩ = false := (h.row i hi).free j
theorem PartF.put {w : World} {g : Nat} {G : Nat → Nat} {r c k : Nat} {f : Nat → Nat → Int} (h : PartF w g G r c k f) {i : Nat} (hi : i < k) (j : Nat) (x : Int) :
    PartF (w.setCell ⟨G i, j, none⟩ (.int .i64 x)) g G r c k (fun a b => if a = i ∧ b = j then x else f a b) := by
  refine ⟨?_, fun a ha => ?_, h.after, h.apart⟩
  · rw [heap_setCell_other w _ g _ (by show g ≠ G i; have := h.after i hi; omega)]; exact h.head
  · by_cases e : a = i
    · subst e
      have := (h.row a hi).put j x
      rw [Mx.row_set] at this
      rw [show (fun b => if a = a ∧ b = j then x else f a b) = fun b => if b = j then x else f a b by funext b; simp]
      exact this
    · rw [show (fun b => if a = i ∧ b = j then x else f a b) = f a by funext b; simp [e]]
      exact (h.row a ha).far (by show G a ≠ G i; exact h.apart a i ha hi e) _

end Go.Proofs.Ytolkdbijenbchaa
