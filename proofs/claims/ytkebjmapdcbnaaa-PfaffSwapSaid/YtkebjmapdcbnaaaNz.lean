/- Natural numbers as a row of whole numbers. For all packages; no program is named. -/
import Derived.Test.YtkebjmapdcbnaaaRowG
namespace Go.Proofs.Ytkebjmapdcbnaaa
set_option linter.unusedVariables false

/-- Places as whole numbers. -/
def nz (l : List Nat) : List Int := l.map fun (x : Nat) => (x : Int)
theorem nz_len (l : List Nat) : (nz l).length = l.length := List.length_map ..
theorem nz_at {l : List Nat} {k : Nat} (h : k < l.length) : (nz l).getD k 0 = ((l.getD k 0 : Nat) : Int) := by
  simp [nz, List.getD_eq_getElem?_getD, h]
theorem nz_less (l : List Nat) (k : Nat) : nz (l.take k ++ l.drop (k + 1)) = (nz l).take k ++ (nz l).drop (k + 1) := by
  unfold nz; rw [List.map_append, List.map_take, List.map_drop]
theorem Lies.num {w : World} {A : Option Addr} {l : List Nat} (h : Lies w A (nz l)) {k : Nat} (hk : k < l.length) : ∃ ad, A = some ad ∧ ad.block < w.heap.size ∧ w.cell? (ad.add k) = some (.int .i64 ((l.getD k 0 : Nat) : Int)) := by
  obtain ⟨ad, e, hl, hc⟩ := h k (by rw [nz_len]; exact hk)
  rw [nz_at hk] at hc
  exact ⟨ad, e, hl, hc⟩

end Go.Proofs.Ytkebjmapdcbnaaa
