/- A matrix just made in a variable, what a loop over all places keeps, and the ends of functions that hold such a loop; the contract of package mat's Turn. -/
import Derived.Test.YtpffekaldpllkaaMtC1
import Derived.Test.YtpffekaldpllkaaRnd
import Derived.Deep.RegionHeld3
import Derived.Deep.Cut
import Derived.Deep.CutRange
import Derived.Deep.DeepCutAuto
namespace Go.Proofs.Ytpffekaldpllkaa
open Go.ChangeShapes Go.WideShapes Go.ChangeAt Go.RowKit Go.Shelf
set_option linter.unusedVariables false
attribute [local go_sem] Oper.semAt_some

/-- A matrix just made, all of noughts, and the variable that holds it. -/
structure Fresh (w : World) (p : Value) (r c : Nat) (w' : World) : Prop where
  ex : ∃ B g G, p = .pointer (some ⟨B, 0, none⟩) ∧ w'.cell? ⟨B, 0, none⟩ = some (.slice (some ⟨g, 0, none⟩) r r) ∧ Grid w' g G r c (fun _ _ => 0) ∧ w.heap.size ≤ g ∧ w.heap.size ≤ B ∧ Kp w w'

/-- What the call says: an error, or a matrix. -/
def GivesM (m : List (List Int)) (w : World) (e : Ending) (w' : World) : Prop := ∃ A d, e = .returned (.tuple #[.slice A m.length d, .nilIface]) ∧ m.length ≤ d ∧ LiesM w' A m ∧ Kp w w'
def FailsM (c : Nat) (w : World) (e : Ending) (w' : World) : Prop := e = .returned (.tuple #[.slice none 0 0, errOf c]) ∧ Kp w w'

/-- A row of the call's own heads and rows abides what the loop's own book-keeping does. -/
theorem Grid.kept {W W' : World} {row : Option Nat} {g : Nat} {G : Nat → Nat} {r c : Nat} {f : Nat → Nat → Int} (h : Grid W g G r c f) (hg : W.grownBy W' row)
    (hr : ∀ k, row = some k → ∃ o : Obj, W.heap[k]? = some o ∧ o.isCells = false) : Grid W' g G r c f :=
  ⟨(grownBy_keeps_cells hg hr h.head rfl).trans h.head, fun i hi => (grownBy_keeps_cells hg hr (h.row i hi) rfl).trans (h.row i hi), h.after, h.apart⟩
theorem Grid.far {w : World} {g : Nat} {G : Nat → Nat} {r c : Nat} {f : Nat → Nat → Int} (h : Grid w g G r c f) {a : Addr} (h1 : g ≠ a.block) (h2 : ∀ i, i < r → G i ≠ a.block) (u : Value) : Grid (w.setCell a u) g G r c f :=
  ⟨by rw [heap_setCell_other w a g u h1]; exact h.head, fun i hi => (h.row i hi).far (h2 i hi) u, h.after, h.apart⟩
/-- A variable that holds a matrix is no row of one. -/
theorem Grid.ne {w : World} {g : Nat} {G : Nat → Nat} {r c : Nat} {f : Nat → Nat → Int} (h : Grid w g G r c f) (hc : 0 < c) {i : Nat} (hi : i < r) {B : Nat} {A : Option Addr} {n d : Nat}
    (hB : w.cell? ⟨B, 0, none⟩ = some (.slice A n d)) : B ≠ G i := fun e => by
  have := h.el hi hc
  rw [← e, hB] at this
  cases this

theorem fresh_a {w1 w2 : World} {g : Nat} {G : Nat → Nat} {r c : Nat} (hg : Grid w2 g G r c (fun _ _ => 0)) (hk : Kp w1 w2) (hle : w1.heap.size ≤ g) :
    Fresh w1 (.pointer (some ⟨w2.heap.size, 0, none⟩)) r c (w2.alloc (.cells #[.slice (some ⟨g, 0, none⟩) r r] 36)) :=
  ⟨w2.heap.size, g, G, rfl, by simp, hg.new _, hle, hk.size, hk.new _⟩
theorem fresh_b {w1 w2 : World} {G : Nat → Nat} {r c : Nat} (hg : Grid w2 (w1.heap.size + 1) G r c (fun _ _ => 0)) (hk : Kp w1 w2) (hb : w2.cell? ⟨w1.heap.size, 0, none⟩ = some (.slice none 0 0)) :
    Fresh w1 (.pointer (some ⟨w1.heap.size, 0, none⟩)) r c (w2.setCell ⟨w1.heap.size, 0, none⟩ (.slice (some ⟨w1.heap.size + 1, 0, none⟩) r r)) :=
  ⟨w1.heap.size, w1.heap.size + 1, G, rfl, World.cell?_setCell_same' _ _ _ (by rw [hb]; rfl), hg.far (by show w1.heap.size + 1 ≠ w1.heap.size; omega) (fun i hi => by show G i ≠ w1.heap.size; have := hg.after i hi; omega) _,
    by omega, Nat.le_refl _, hk.put (Nat.le_refl _) _⟩

theorem zero_box (r c : Nat) (w : World) (hr : r ≤ 1000) (hc : c ≤ 1000) :
    Calls Try.prog 44 #[.int .i64 (r : Int), .int .i64 (c : Int)] (w.alloc (.cells #[.slice none 0 0] 36)).drew fun e w' =>
      ∃ G, e = .returned (.slice (some ⟨w.heap.size + 1, 0, none⟩) r r) ∧ Grid w' (w.heap.size + 1) G r c (fun _ _ => 0) ∧ Kp (w.alloc (.cells #[.slice none 0 0] 36)).drew w' ∧
        w'.cell? ⟨w.heap.size, 0, none⟩ = some (.slice none 0 0) ∧ w'.frozen? ⟨w.heap.size, 0, none⟩ = false :=
  (zero_any r c _ hr hc).mono fun e w2 ⟨G, he, hg, hk⟩ => by
    have hsz : (w.alloc (.cells #[.slice none 0 0] 36)).drew.heap.size = w.heap.size + 1 := by simp [World.drew]
    have hlt : w.heap.size < (w.alloc (.cells #[.slice none 0 0] 36)).drew.heap.size := by rw [hsz]; exact Nat.lt_succ_self _
    rw [hsz] at he hg
    refine ⟨G, he, hg, hk, (hk.cell (p := ⟨w.heap.size, 0, none⟩) hlt).trans ?_, (hk.frozen (p := ⟨w.heap.size, 0, none⟩) hlt).trans ?_⟩
    · simp
    · simp


end Go.Proofs.Ytpffekaldpllkaa
