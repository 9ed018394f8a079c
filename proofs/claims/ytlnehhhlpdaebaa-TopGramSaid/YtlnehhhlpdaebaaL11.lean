/- A matrix of one number, written down. -/
import Derived.Test.YtlnehhhlpdaebaaRowsG
import Derived.Test.YtlnehhhlpdaebaaOwnM
namespace Go.Proofs.Ytlnehhhlpdaebaa
open Go.ChangeShapes Go.WideShapes Go.ChangeAt Go.RowKit
set_option linter.unusedVariables false

/-- A matrix of one number, as it stands in a walk. -/
abbrev l11 (w : World) (g : Nat) (a : Int) : World := (w.alloc (.cells #[.int .i64 a] 3)).alloc (.cells #[.slice (some ⟨g, 0, none⟩) 1 1] 39)
theorem l11_kp (w : World) (g : Nat) (a : Int) : Kp w (l11 w g a) := ((Kp.rfl' w).new _).new _
theorem l11_lies (w : World) (g : Nat) (a : Int) (h : g = w.heap.size) : LiesM (l11 w g a) (some ⟨g + 1, 0, none⟩) (Mx.tab 1 1 fun _ _ => a) := by
  subst h
  have e1 : (w.alloc (.cells #[.int .i64 a] 3)).heap.size = w.heap.size + 1 := by simp
  intro k hk
  rw [Mx.len_tab] at hk
  obtain rfl : k = 0 := by omega
  refine ⟨⟨w.heap.size + 1, 0, none⟩, some ⟨w.heap.size, 0, none⟩, 1, rfl, ?_, ?_, ?_, ?_⟩
  · show w.heap.size + 1 < (World.alloc _ _).heap.size
    rw [World.size_alloc, e1]; omega
  · rw [add_zero']
    exact (cell_made _ _ _ _ 0 e1.symm).trans rfl
  · exact Nat.le_refl _
  · exact (lies_new w 3 [a]).keep ((Kp.rfl' _).new _)
end Go.Proofs.Ytlnehhhlpdaebaa
