/- What the rounds over places keep: how many rows there are (for all packages). -/
import Derived.Test.YtkebjmapdcbnaaaRnd
import Derived.Deep.RegionHeld3
namespace Go.Proofs.Ytkebjmapdcbnaaa
open Go.ChangeShapes Go.WideShapes Go.ChangeAt Go.RowKit Go.Shelf
set_option linter.unusedVariables false
attribute [local go_sem] Oper.semAt_some

/-- What a round keeps: how many rows there are. -/
def KeepN (Bs n : Nat) (W W' : World) : Prop := W.cell? ⟨Bs, 0, none⟩ = some (.int .i64 (n : Int)) → W'.cell? ⟨Bs, 0, none⟩ = some (.int .i64 (n : Int))
theorem keepN_t {Bs n : Nat} {a b c : World} (h : KeepN Bs n a b) (h' : KeepN Bs n b c) : KeepN Bs n a c := fun x => h' (h x)
theorem keepN_b {Bs n : Nat} (W : World) (l : Nat) (o o' : Obj) (ho : W.heap[l]? = some o) (h1 : o.isCells = false) : KeepN Bs n W (W.putObj l o') :=
  fun x => cell_kept x (grownBy_putObj' W l o') (fun r e => by cases e; exact ⟨_, ho, h1⟩)
theorem keepN_set {Bs n : Nat} (W : World) (p : Addr) (v : Value) (h : p.block ≠ Bs) : KeepN Bs n W (W.setCell p v) := fun x =>
  (World.cell?_setCell_far W p ⟨Bs, 0, none⟩ v h).trans x

theorem boxed_keptN {W W' : World} {row : Option Nat} {B : Nat} {t : TypeId} {v : Value} (h : Boxed W B t v) (hg : W.grownBy W' row)
    (hr : ∀ r, row = some r → ∃ o : Obj, W.heap[r]? = some o ∧ o.isCells = false) : Boxed W' B t v :=
  h.kept hg fun e => by
    obtain ⟨o, ho, hc⟩ := hr B e.symm
    rw [show W.heap[B]? = _ from h] at ho; cases ho; cases hc
theorem boxed_kp {W W' : World} {B : Nat} {t : TypeId} {v : Value} (h : Boxed W B t v) (hk : Kp W W') : Boxed W' B t v :=
  (hk.block B h.lt).trans h
theorem keeps_kp {W W' : World} (h : Kp W W') : KeepsOthers W W' := ⟨h.size, fun k o hk _ => (h.block k (Array.getElem?_eq_some_iff.1 hk).1).trans hk⟩
theorem boxed_far {W : World} {B : Nat} {t : TypeId} {v : Value} (h : Boxed W B t v) {p : Addr} (hp : B ≠ p.block) (u : Value) : Boxed (W.setCell p u) B t v := by
  unfold Boxed
  rw [heap_setCell_other W p B u hp]; exact h
theorem boxed_same {W : World} {B : Nat} {t : TypeId} {v : Value} (h : Boxed W B t v) : W.setCell ⟨B, 0, none⟩ v = W := by
  have hl := h.lt
  have e : (W.setCell ⟨B, 0, none⟩ v).heap = W.heap := by
    refine Array.ext (by simp [World.setCell]) fun i h1 h2 => ?_
    by_cases e : i = B
    · subst e
      have h3 := Boxed.set v h
      have h4 : W.heap[i]? = some (.cells #[v] t (0, 0)) := h
      have h5 : (W.setCell ⟨i, 0, none⟩ v).heap[i]? = some (.cells #[v] t (0, 0)) := h3
      rw [Array.getElem?_eq_getElem h1] at h5
      rw [Array.getElem?_eq_getElem h2] at h4
      exact Option.some.inj (h5.trans h4.symm)
    · have h3 := heap_setCell_other W ⟨B, 0, none⟩ i v e
      rw [Array.getElem?_eq_getElem h1, Array.getElem?_eq_getElem h2] at h3
      exact Option.some.inj h3
  show { W with heap := (W.setCell ⟨B, 0, none⟩ v).heap } = W
  rw [e]
theorem boxed_drewN {W : World} {B : Nat} {t : TypeId} {v : Value} (h : Boxed W B t v) (n : Nat) : Boxed (W.drewN n) B t v := h

end Go.Proofs.Ytkebjmapdcbnaaa
