/- Contracts of package solve, fourth part: One. -/
import Derived.Test.YtfjajcfcbjmbpaaSoC3
import Derived.Deep.Cut
import Derived.Deep.CutRange
import Derived.Deep.DeepCutAuto
namespace Go.Proofs.Ytfjajcfcbjmbpaa
open Go.ChangeShapes Go.WideShapes Go.ChangeAt Go.RowKit
set_option linter.unusedVariables false

theorem cols_at (b : List Nat) {k : Nat} (hk : k < b.length) : (cols b).getD k 0 = (Mx.pv b k : Int) := by simp [cols, Mx.pv, hk]
/-- What satisfy leaves, value by value. -/
def SRel (B0 B gx cx r c i : Nat) (f : Nat → Nat → Fp.F) (ys : Nat → Fp.F) (b : List Nat) (q p : Value) (w w' : World) : Prop :=
  (∃ n G C x W, p = .nilIface ∧ OwnM w' B q G C (Mx.matl n c W) ∧ Own w' B0 (.slice (some ⟨gx, 0, none⟩) c cx) (rowF c x) ∧ Mx.Srch c f ys b (i + 1) x (Mx.wl n W) ∧ n ≤ 1000 ∧ Below B0 w w') ∨
  (p = .iface 50 (.int .i64 5) ∧ Mx.NoAns r c f ys ∧ Below B0 w w')
theorem stepped_rel {B0 B gx cx r c i : Nat} {f : Nat → Nat → Fp.F} {ys : Nat → Fp.F} {b : List Nat} {w : World} {e : Ending} {w' : World} (h : Stepped B0 B gx cx r c i f ys b w e w') :
    ∃ q p, e = .returned (.tuple #[q, p]) ∧ SRel B0 B gx cx r c i f ys b q p w w' := by
  rcases h with ⟨A, n, d, G, C, x, W, he, h⟩ | ⟨he, h⟩
  · exact ⟨_, _, he, .inl ⟨n, G, C, x, W, rfl, h⟩⟩
  · exact ⟨_, _, he, .inr ⟨rfl, h⟩⟩

theorem SRel.from {B0 B gx cx r c i : Nat} {f : Nat → Nat → Fp.F} {ys : Nat → Fp.F} {b : List Nat} {q p : Value} {w0 w w' : World} (h : SRel B0 B gx cx r c i f ys b q p w w') (k : Below B0 w0 w) : SRel B0 B gx cx r c i f ys b q p w0 w' := by
  rcases h with ⟨n, G, C, x, W, h1, h2, h3, h4, h5, h6⟩ | ⟨h1, h2, h3⟩
  · exact .inl ⟨n, G, C, x, W, h1, h2, h3, h4, h5, k.trans h6⟩
  · exact .inr ⟨h1, h2, k.trans h3⟩

/-- The answer of a system, or that there is none. -/
def GotOne (r c : Nat) (f : Nat → Nat → Fp.F) (ys : Nat → Fp.F) (w : World) (e : Ending) (w' : World) : Prop :=
  ∃ b g, Stair r c c f b g ∧ ((∃ x A d, Mx.Ans r c f ys b x ∧ e = .returned (.tuple #[.slice A c d, .nilIface]) ∧ Lies w' A (rowF c x) ∧ Kp w w') ∨
    (Mx.NoAns r c f ys ∧ e = .returned (.tuple #[.slice none 0 0, .iface 50 (.int .i64 5)]) ∧ Kp w w'))
/-- No row, an error. -/
def FailsRow (c : Nat) (w : World) (e : Ending) (w' : World) : Prop := e = .returned (.tuple #[.slice none 0 0, errOf c]) ∧ Kp w w'

end Go.Proofs.Ytfjajcfcbjmbpaa
