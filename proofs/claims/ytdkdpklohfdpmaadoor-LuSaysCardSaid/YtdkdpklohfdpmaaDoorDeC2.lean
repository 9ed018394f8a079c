/- Contracts of package det, second part: the sum over all orders, Check, Of. -/
import Derived.Test.YtdkdpklohfdpmaaDoorDeC1
import Derived.Test.YtdkdpklohfdpmaaDoorSqr
import Derived.Test.YtdkdpklohfdpmaaDoorMtC1
import Derived.Test.YtdkdpklohfdpmaaDoorGaC1
import Derived.Deep.RegionHeld3
namespace Go.Proofs.YtdkdpklohfdpmaaDoor
open Go.ChangeShapes Go.WideShapes Go.ChangeAt Go.RowKit
set_option linter.unusedVariables false

/-- The order of the numbers, the sum and the matrix, each in a block of its own. -/
structure Vis (w0 w : World) (gm gs g n d : Nat) (A : Option Addr) (s : Nat → Nat) (z : Int) : Prop where
  mb : w.cell? ⟨gm, 0, none⟩ = some (.slice A n d)
  sb : w.cell? ⟨gs, 0, none⟩ = some (.int .i64 z)
  sf : w.frozen? ⟨gs, 0, none⟩ = false
  row : Row w g (Mx.row n fun i => (s i : Int))
  kp : Kp w0 w
  ms : gm ≠ gs
  mg : gm ≠ g
  sg : gs ≠ g
  bs : w0.heap.size ≤ gs
  bg : w0.heap.size ≤ g
theorem cell_far {w : World} {a b : Addr} {v : Value} (x : Value) (hc : w.cell? b = some v) (hne : a ≠ b) : (w.setCell a x).cell? b = some v := by
  rw [World.cell?_setCell_other (w := w) (v := x) (h := hne)]; exact hc
theorem Vis.keep {w0 w w' : World} {gm gs g n d : Nat} {A : Option Addr} {s : Nat → Nat} {z : Int} (h : Vis w0 w gm gs g n d A s z) (hk : Kp w w') : Vis w0 w' gm gs g n d A s z :=
  ⟨(hk.cell (p := ⟨gm, 0, none⟩) (cell_lt h.mb)).trans h.mb, (hk.cell (p := ⟨gs, 0, none⟩) (cell_lt h.sb)).trans h.sb, (hk.frozen (p := ⟨gs, 0, none⟩) (cell_lt h.sb)).trans h.sf, h.row.keep hk, h.kp.trans hk, h.ms, h.mg, h.sg, h.bs, h.bg⟩
theorem Vis.drewN {w0 w : World} {gm gs g n d : Nat} {A : Option Addr} {s : Nat → Nat} {z : Int} (h : Vis w0 w gm gs g n d A s z) (k : Nat) : Vis w0 (w.drewN k) gm gs g n d A s z := h.keep ((Kp.rfl' w).drewN k)
theorem Vis.ext {w0 w : World} {gm gs g n d : Nat} {A : Option Addr} {s t : Nat → Nat} {z : Int} (h : Vis w0 w gm gs g n d A s z) (e : ∀ i, i < n → s i = t i) : Vis w0 w gm gs g n d A t z :=
  ⟨h.mb, h.sb, h.sf, by rw [Mx.row_ext (h := fun i => (s i : Int)) fun i hi => by rw [e i hi]]; exact h.row, h.kp, h.ms, h.mg, h.sg, h.bs, h.bg⟩
theorem Vis.add {w0 w : World} {gm gs g n d : Nat} {A : Option Addr} {s : Nat → Nat} {z : Int} (h : Vis w0 w gm gs g n d A s z) (y : Int) : Vis w0 (w.setCell ⟨gs, 0, none⟩ (.int .i64 y)) gm gs g n d A s y :=
  ⟨cell_far _ h.mb (fun e => h.ms (by cases e; rfl)), World.cell?_setCell_same _ _ _ h.sb, by simp [h.sf], h.row.far (fun e => h.sg e.symm) _, h.kp.put (p := ⟨gs, 0, none⟩) h.bs _, h.ms, h.mg, h.sg, h.bs, h.bg⟩
theorem Vis.swap {w0 w : World} {gm gs g n d : Nat} {A : Option Addr} {s : Nat → Nat} {z : Int} (h : Vis w0 w gm gs g n d A s z) {a b : Nat} (ha : a < n) (hb : b < n) :
    Vis w0 ((w.setCell ⟨g, a, none⟩ (.int .i64 (s b : Int))).setCell ⟨g, b, none⟩ (.int .i64 (s a : Int))) gm gs g n d A (fun i => s (Mx.sw a b i)) z := by
  have other : ∀ (w : World) (k b x : Nat) (v : Value), g ≠ b → w.cell? ⟨b, 0, none⟩ = some v → (w.setCell ⟨g, k, none⟩ (.int .i64 (x : Int))).cell? ⟨b, 0, none⟩ = some v := fun w k b x v hne hc => by
    have hne' : (⟨g, k, none⟩ : Addr) ≠ ⟨b, 0, none⟩ := fun e => hne (by cases e; rfl)
    exact cell_far _ hc hne'
  refine ⟨other _ _ _ _ _ (fun e => h.mg e.symm) (other _ _ _ _ _ (fun e => h.mg e.symm) h.mb), other _ _ _ _ _ (fun e => h.sg e.symm) (other _ _ _ _ _ (fun e => h.sg e.symm) h.sb), by simp [h.sf], ?_,
    (h.kp.put (p := ⟨g, a, none⟩) h.bg _).put (p := ⟨g, b, none⟩) h.bg _, h.ms, h.mg, h.sg, h.bs, h.bg⟩
  have := (h.row.put a (s b : Int)).put b (s a : Int)
  rw [Mx.row_set, Mx.row_set] at this
  rw [show (Mx.row n fun i => ((s (Mx.sw a b i) : Nat) : Int)) = Mx.row n fun j => if j = b then (s a : Int) else if j = a then (s b : Int) else (s j : Int) from Mx.row_ext fun j _ => by
    by_cases h1 : j = b
    · rw [if_pos h1, h1, Mx.sw_right]
    · rw [if_neg h1]
      by_cases h2 : j = a
      · rw [if_pos h2, h2, Mx.sw_left]
      · rw [if_neg h2, Mx.sw_none h2 h1]]
  exact this
/-- What a visit leaves: the order as it was, so much more in the sum. -/
def VisEnd (w0 : World) (gm gs g n d : Nat) (A : Option Addr) (s : Nat → Nat) (z : Int) (x : Fp.F) (b : Nat) (e : Ending) (w' : World) : Prop :=
  e = .returned (.tuple #[]) ∧ ∃ z', Vis w0 w' gm gs g n d A s z' ∧ Fp.ofInt z' = Fp.ofInt z + x ∧ -(b : Int) ≤ z' ∧ z' ≤ (b : Int)



end Go.Proofs.YtdkdpklohfdpmaaDoor
