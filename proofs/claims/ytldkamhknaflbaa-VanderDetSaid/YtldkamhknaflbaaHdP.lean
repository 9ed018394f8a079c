/- Heads of n rows of n numbers, written one by one, of rows that came of elsewhere; a matrix made. For all packages. -/
import Derived.Test.YtldkamhknaflbaaPartF
import Derived.Test.YtldkamhknaflbaaSoC1
namespace Go.Proofs.Ytldkamhknaflbaa
open Go.ChangeShapes Go.WideShapes Go.ChangeAt Go.RowKit
set_option linter.unusedVariables false

theorem Lies.off {w : World} {b : Nat} {l : List Int} (h : Lies w (some ⟨b, 0, none⟩) l) {a : Addr} (ha : b ≠ a.block) (u : Value) : Lies (w.setCell a u) (some ⟨b, 0, none⟩) l := fun k hk => by
  obtain ⟨ad, e, hl, hc⟩ := h k hk
  obtain rfl := Option.some.inj e
  refine ⟨_, rfl, by simpa [World.setCell] using hl, ?_⟩
  rw [add_at] at hc ⊢
  exact (World.cell?_of_block (w := w) (heap_setCell_other w a b u ha)).trans hc
/-- The heads of n rows of n numbers, the first k of them made. -/
structure HdP (w : World) (g : Nat) (G C : Nat → Nat) (n k : Nat) (f : Nat → Nat → Int) : Prop where
  head : w.heap[g]? = some (.cells ((List.range n).map fun i => if i < k then Value.slice (some ⟨G i, 0, none⟩) n (C i) else .slice none 0 0).toArray 22 (0, 0))
  row : ∀ i, i < k → Lies w (some ⟨G i, 0, none⟩) (Mx.row n (f i))
  cap : ∀ i, i < k → n ≤ C i
  apart : ∀ i, i < k → G i ≠ g
section
variable {w w' : World} {g : Nat} {G C : Nat → Nat} {n k : Nat} {f : Nat → Nat → Int}
theorem HdP.lt (h : HdP w g G C n k f) : g < w.heap.size := by
  rcases Nat.lt_or_ge g w.heap.size with h' | h'
  · exact h'
  · have := h.head; rw [Array.getElem?_eq_none h'] at this; cases this
theorem HdP.keep (h : HdP w g G C n k f) (hk : Kp w w') : HdP w' g G C n k f := ⟨by rw [hk.block g h.lt]; exact h.head, fun i hi => (h.row i hi).keep hk, h.cap, h.apart⟩
theorem HdP.cell (h : HdP w g G C n k f) {i : Nat} (hi : k ≤ i) (hr : i < n) : w.cell? ⟨g, i, none⟩ = some (.slice none 0 0) := by
  rw [cell_of_row _ _ i _ _ (0, 0) h.head]; simp [hr]; omega
theorem HdP.free (h : HdP w g G C n k f) (i : Nat) : w.frozen? ⟨g, i, none⟩ = false := frozen_of_row w g i _ _ h.head
theorem HdP.start {base : Nat} (f : Nat → Nat → Int) (h : w.ownsRow base 22 1 (.slice (some ⟨g, 0, none⟩) n n) n (madeCells #[.slice none 0 0] (n * 1)).toList) : HdP w g (fun _ => 0) (fun _ => 0) n 0 f :=
  ⟨by have := (PartF.start (c := 0) f h).head; simpa using this, fun i hi => absurd hi (by omega), fun i hi => absurd hi (by omega), fun i hi => absurd hi (by omega)⟩
theorem HdP.step (h : HdP w g G C n k f) (hk : k < n) {z cz : Nat} (hz : Lies w (some ⟨z, 0, none⟩) (Mx.row n (f k))) (hc : n ≤ cz) (hne : z ≠ g) :
    HdP (w.setCell ⟨g, k, none⟩ (.slice (some ⟨z, 0, none⟩) n cz)) g (fun i => if i = k then z else G i) (fun i => if i = k then cz else C i) n (k + 1) f := by
  refine ⟨?_, fun i hi => ?_, fun i hi => ?_, fun i hi => ?_⟩
  · rw [heap_setCell_same w g k _ _ _ h.head]
    congr 2
    refine Array.toList_inj.1 (List.ext_getElem (by simp) fun i h2 h3 => ?_)
    simp only [Array.toList_setIfInBounds, List.getElem_set, List.getElem_map, List.getElem_range]
    rcases Nat.lt_trichotomy i k with e | e | e
    · simp [show ¬ k = i by omega, show i < k from e, show i < k + 1 by omega, show ¬ i = k by omega]
    · subst e; simp
    · simp [show ¬ k = i by omega, show ¬ i < k by omega, show ¬ i < k + 1 by omega]
  · by_cases e : i = k
    · subst e
      rw [if_pos rfl]; exact hz.off hne _
    · rw [if_neg e]; exact (h.row i (by omega)).off (h.apart i (by omega)) _
  · by_cases e : i = k
    · rw [if_pos e]; exact hc
    · rw [if_neg e]; exact h.cap i (by omega)
  · by_cases e : i = k
    · rw [if_pos e]; exact hne
    · rw [if_neg e]; exact h.apart i (by omega)
theorem HdP.lies {f : Nat → Nat → Fp.F} (h : HdP w g G C n n fun i j => ((f i j).val : Int)) : LiesM w (some ⟨g, 0, none⟩) (Mx.matl n n f) := fun i hi => by
  rw [Mx.len_matl] at hi
  rw [matl_row f hi, Mx.len_row]
  refine ⟨_, some ⟨G i, 0, none⟩, C i, rfl, h.lt, ?_, h.cap i hi, h.row i hi⟩
  rw [add_at, cell_of_row _ _ i _ _ (0, 0) h.head]; simp [hi]
end

/-- A matrix made. -/
def MadeM (n : Nat) (f : Nat → Nat → Fp.F) (w : World) (e : Ending) (w' : World) : Prop := ∃ A d, e = .returned (.tuple #[.slice A n d, .nilIface]) ∧ n ≤ d ∧ LiesM w' A (Mx.matl n n f) ∧ Kp w w'

end Go.Proofs.Ytldkamhknaflbaa
