/- Comparing rows and matrices, small matrices just laid down: for all packages. -/
import Derived.Test.YtkebjmapdcbnaaaGrid
namespace Go.Proofs.Ytkebjmapdcbnaaa
open Go.ChangeShapes Go.WideShapes Go.ChangeAt Go.RowKit
set_option linter.unusedVariables false

theorem rows_same (a b : List (List Int)) (h : a.length = b.length) (h2 : ∀ k, k < a.length → a.getD k [] = b.getD k []) : a = b := by
  refine List.ext_getElem h fun k h3 h4 => ?_
  have := h2 k h3
  rwa [List.getD_eq_getElem?_getD, List.getD_eq_getElem?_getD, List.getElem?_eq_getElem h3, List.getElem?_eq_getElem h4] at this

/-- No row is longer than a slice may be. -/
def Modest (m : List (List Int)) : Prop := m.length ≤ 1000000 ∧ ∀ k, k < m.length → (m.getD k []).length ≤ 1000000
theorem modest_tab {r c : Nat} (g : Nat → Nat → Int) (hr : r ≤ 1000000) (hc : c ≤ 1000000) : Modest (Mx.tab r c g) :=
  ⟨by rw [Mx.len_tab]; exact hr, fun k hk => by rw [Mx.len_tab] at hk; rw [Mx.tab_len _ _ _ _ hk]; exact hc⟩
theorem modest_nil : Modest [] := ⟨by decide, fun k hk => absurd hk (by simp)⟩


theorem cell_just (w : World) (cs : Array Value) (e : TypeId) (g k : Nat) (h : g = w.heap.size) : (w.alloc (.cells cs e)).cell? ⟨g, k, none⟩ = cs[k]? := by
  subst h
  exact cell_of_row _ _ k _ e (0, 0) (heap_alloc_new w _)
/-- What came in: the rows up to the capacity, each with its numbers up to its own; its rows are the first of them. -/
theorem liesM_open {w : World} {a : Addr} {len cap : Nat} {A : Nat → Option Addr} {L C : Nat → Nat} {Z : Nat → List Int} (hl : len ≤ cap)
    (h : ∀ r, r < cap → w.cell? (a.add r) = some (.slice (A r) (L r) (C r)) ∧ L r ≤ C r ∧ C r ≤ maxLen ∧ (Z r).length = C r ∧ (∀ n ∈ Z r, (Lit.int .i64 n).wf = true) ∧ (A r = none → C r = 0) ∧
      ∀ a', A r = some a' → 0 ≤ a'.block ∧ ∀ c, c < C r → w.cell? (a'.add c) = some (.int .i64 ((Z r).getD c 0))) :
    ((List.range len).map fun r => (Z r).take (L r)).length = len ∧ LiesM w (some a) ((List.range len).map fun r => (Z r).take (L r)) := by
  refine ⟨by simp, fun k hk => ?_⟩
  have hk' : k < len := by simpa using hk
  obtain ⟨h1, h2, _, h4, _, h6, h7⟩ := h k (by omega)
  have e : ((List.range len).map fun r => (Z r).take (L r)).getD k [] = (Z k).take (L k) := by simp [hk']
  have el : ((Z k).take (L k)).length = L k := by rw [List.length_take]; omega
  rw [e, el]
  refine ⟨a, A k, C k, rfl, ?_, h1, h2, ?_⟩
  · have := cell_lt h1; rwa [block_add] at this
  · cases hA : A k with
    | none =>
      intro j hj
      have := h6 hA
      rw [el] at hj
      omega
    | some a' => exact (lies_take (w := w) (x := a') h2 h4 (fun i hi => (h7 a' hA).2 i (by omega))).2
/-- Two rows of two, and the heads of both, just laid down. -/
def laid22 (w : World) (x : Nat → Nat → Int) : World :=
  ((w.alloc (.cells #[.int .i64 (x 0 0), .int .i64 (x 0 1)] 3)).alloc (.cells #[.int .i64 (x 1 0), .int .i64 (x 1 1)] 3)).alloc (.cells #[.slice (some ⟨w.heap.size, 0, none⟩) 2 2, .slice (some ⟨w.heap.size + 1, 0, none⟩) 2 2] 32)
theorem laid22_kp (w : World) (x : Nat → Nat → Int) : Kp w (laid22 w x) := (((Kp.rfl' w).new _).new _).new _
theorem laid22_size (w : World) (x : Nat → Nat → Int) : (laid22 w x).heap.size = w.heap.size + 3 := by simp [laid22]
theorem laid22_lies (w : World) (x : Nat → Nat → Int) : LiesM (laid22 w x) (some ⟨w.heap.size + 2, 0, none⟩) (Mx.tab 2 2 x) := by
  have h0 : Lies (w.alloc (.cells #[.int .i64 (x 0 0), .int .i64 (x 0 1)] 3)) (some ⟨w.heap.size, 0, none⟩) (Mx.row 2 (x 0)) := lies_new' w _ [x 0 0, x 0 1] _ rfl
  have h1 : Lies ((w.alloc (.cells #[.int .i64 (x 0 0), .int .i64 (x 0 1)] 3)).alloc (.cells #[.int .i64 (x 1 0), .int .i64 (x 1 1)] 3)) (some ⟨w.heap.size + 1, 0, none⟩) (Mx.row 2 (x 1)) :=
    lies_new' (w.alloc _) _ [x 1 0, x 1 1] _ (by simp)
  have k2 := ((Kp.rfl' (w.alloc (.cells #[.int .i64 (x 0 0), .int .i64 (x 0 1)] 3))).new (.cells #[.int .i64 (x 1 0), .int .i64 (x 1 1)] 3)).new (.cells #[.slice (some ⟨w.heap.size, 0, none⟩) 2 2, .slice (some ⟨w.heap.size + 1, 0, none⟩) 2 2] 32)
  have k3 := (Kp.rfl' ((w.alloc (.cells #[.int .i64 (x 0 0), .int .i64 (x 0 1)] 3)).alloc (.cells #[.int .i64 (x 1 0), .int .i64 (x 1 1)] 3))).new (.cells #[.slice (some ⟨w.heap.size, 0, none⟩) 2 2, .slice (some ⟨w.heap.size + 1, 0, none⟩) 2 2] 32)
  have hs : w.heap.size + 2 < (laid22 w x).heap.size := by rw [laid22_size]; omega
  intro k hk
  rw [Mx.len_tab] at hk
  match k, hk with
  | 0, _ => exact ⟨_, some ⟨w.heap.size, 0, none⟩, 2, rfl, hs, by rw [add_at]; unfold laid22; rw [cell_just _ _ _ _ _ (by simp)]; simp [Mx.tab, Mx.row], by simp [Mx.tab, Mx.row], h0.keep k2⟩
  | 1, _ => exact ⟨_, some ⟨w.heap.size + 1, 0, none⟩, 2, rfl, hs, by rw [add_at]; unfold laid22; rw [cell_just _ _ _ _ _ (by simp)]; simp [Mx.tab, Mx.row], by simp [Mx.tab, Mx.row], h1.keep k3⟩

def n22 (a b c d : Int) : Nat → Nat → Int := fun i j => if i = 0 then (if j = 0 then a else b) else (if j = 0 then c else d)
/-- The same with the numbers and the block as they stand in a walk. -/
abbrev lit22 (w : World) (g : Nat) (a b c d : Int) : World :=
  ((w.alloc (.cells #[.int .i64 a, .int .i64 b] 3)).alloc (.cells #[.int .i64 c, .int .i64 d] 3)).alloc (.cells #[.slice (some ⟨g, 0, none⟩) 2 2, .slice (some ⟨g + 1, 0, none⟩) 2 2] 32)
theorem lit22_lies (w : World) (g : Nat) (a b c d : Int) (h : g = w.heap.size) : LiesM (lit22 w g a b c d) (some ⟨g + 1 + 1, 0, none⟩) (Mx.tab 2 2 (n22 a b c d)) := by
  subst h
  exact laid22_lies w (n22 a b c d)
theorem lit22_kp (w : World) (g : Nat) (a b c d : Int) : Kp w (lit22 w g a b c d) := (((Kp.rfl' w).new _).new _).new _
theorem lit22_size (w : World) (g : Nat) (a b c d : Int) : (lit22 w g a b c d).heap.size = w.heap.size + 1 + 1 + 1 := by simp [lit22]

end Go.Proofs.Ytkebjmapdcbnaaa
