/- Plain facts on the numbers of a Vandermonde matrix: what is wrong with them as a number, the pairs of different places, the product of all differences as it is made pair by pair. No program is named here. -/
import Derived.Test.YtldkamhknaflbaaMatV
import Derived.Test.YtldkamhknaflbaaRcM
namespace Go.Proofs.Ytldkamhknaflbaa
open Fp
set_option linter.unusedVariables false

namespace Mx
/-- The first m places of row k behind the diagonal. -/
def urow (c k m : Nat) : List Nat := (List.range m).map fun t => k * c + (k + 1 + t)
/-- The places of the first k rows behind the diagonal. -/
def ups (c : Nat) : Nat → List Nat
  | 0 => []
  | k + 1 => ups c k ++ urow c k (c - (k + 1))
theorem urow_zero (c k : Nat) : urow c k 0 = [] := rfl
theorem urow_succ (c k m : Nat) : urow c k (m + 1) = urow c k m ++ [k * c + (k + 1 + m)] := by unfold urow; rw [List.range_succ, List.map_append]; rfl
theorem len_urow (c k m : Nat) : (urow c k m).length = m := by unfold urow; rw [List.length_map, List.length_range]
theorem len_ups (c : Nat) : ∀ k, (ups c k).length ≤ k * c
  | 0 => by simp [ups]
  | k + 1 => by
    have := len_ups c k
    show (ups c k ++ urow c k (c - (k + 1))).length ≤ _
    rw [List.length_append, len_urow, Nat.add_mul, Nat.one_mul]
    omega

/-- A product over a list of places. -/
def lpr (g : Nat → F) (l : List Nat) : F := l.foldl (fun s k => s * g k) 1
theorem lpr_nil (g : Nat → F) : lpr g [] = 1 := rfl
theorem lpr_snoc (g : Nat → F) (l : List Nat) (k : Nat) : lpr g (l ++ [k]) = lpr g l * g k := by unfold lpr; rw [List.foldl_append]; rfl
theorem lpr_urow (g : Nat → F) (l : List Nat) (c k : Nat) : ∀ m, lpr g (l ++ urow c k m) = lpr g l * pr m fun t => g (k * c + (k + 1 + t))
  | 0 => by rw [urow_zero, List.append_nil]; show _ = lpr g l * 1; grind
  | m + 1 => by
    rw [urow_succ, ← List.append_assoc, lpr_snoc, lpr_urow g l c k m, pr_last]
    grind
theorem lpr_ups (g : Nat → F) (c : Nat) : ∀ k, lpr g (ups c k) = pr k fun i => pr (c - (i + 1)) fun t => g (i * c + (i + 1 + t))
  | 0 => rfl
  | k + 1 => by
    show lpr g (ups c k ++ urow c k (c - (k + 1))) = _
    rw [lpr_urow, lpr_ups g c k, pr_last]
/-- The product of all differences, row by row. -/
theorem df_rows : ∀ (n : Nat) (X : Nat → F), df n X = pr n fun i => pr (n - (i + 1)) fun t => X (i + 1 + t) - X i
  | 0, _ => rfl
  | n + 1, X => by
    rw [df_front n X, df_rows n fun i => X (i + 1), pr_front n]
    have e1 : (pr (n + 1 - (0 + 1)) fun t => X (0 + 1 + t) - X 0) = pr n fun i => X (i + 1) - X 0 := by
      rw [show n + 1 - (0 + 1) = n by omega]
      exact pr_congr fun i _ => by rw [show 0 + 1 + i = i + 1 by omega]
    rw [e1]
    congr 1
    refine pr_congr fun i _ => ?_
    rw [show n + 1 - (i + 1 + 1) = n - (i + 1) by omega]
    exact pr_congr fun t _ => by rw [show i + 1 + t + 1 = i + 1 + 1 + t by omega]
/-- The product of all differences is nought just if two of the numbers are one. -/
theorem df_iff (n : Nat) (X : Nat → F) : df n X = 0 ↔ ∃ i j, i < j ∧ j < n ∧ X i = X j := by
  constructor
  · intro h
    exact Classical.byContradiction fun hn => df_ne (n := n) (X := X) (fun i j h1 h2 e => hn ⟨i, j, h1, h2, e⟩) h
  · rintro ⟨i, j, h1, h2, e⟩
    exact df_zero h1 h2 e
end Mx

/-- What is wrong with the numbers, as a number. -/
noncomputable def vcd (L : List Int) : Nat := open Classical in if L.length = 0 then 5 else if 5 < L.length then 4 else if ¬ AllIn L 0 9972 then 1 else 0
theorem vcd_none {L : List Int} (h : L.length = 0) : vcd L = 5 := by unfold vcd; rw [if_pos h]
theorem vcd_full {L : List Int} (h : 5 < L.length) : vcd L = 4 := by unfold vcd; rw [if_neg (by omega), if_pos h]
theorem vcd_range {L : List Int} (h0 : L.length ≠ 0) (h : ¬ 5 < L.length) (h2 : ¬ AllIn L 0 9972) : vcd L = 1 := by unfold vcd; rw [if_neg h0, if_neg h, if_pos h2]
theorem vcd_ok {L : List Int} (h0 : L.length ≠ 0) (h : ¬ 5 < L.length) (h2 : AllIn L 0 9972) : vcd L = 0 := by unfold vcd; rw [if_neg h0, if_neg h, if_neg fun e => e h2]
theorem vcd_some (L : List Int) : vcd L = 0 ∨ vcd L = 1 ∨ vcd L = 4 ∨ vcd L = 5 := by
  unfold vcd; repeat' split
  all_goals simp
theorem vcd_zero {L : List Int} (h : vcd L = 0) : L.length ≠ 0 ∧ L.length ≤ 5 ∧ AllIn L 0 9972 := by
  by_cases h0 : L.length = 0
  · rw [vcd_none h0] at h; cases h
  · by_cases h1 : 5 < L.length
    · rw [vcd_full h1] at h; cases h
    · by_cases h2 : AllIn L 0 9972
      · exact ⟨h0, by omega, h2⟩
      · rw [vcd_range h0 h1 h2] at h; cases h
/-- Numbers of which there is a matrix. -/
structure Vd (n : Nat) (X : Nat → Fp.F) (L : List Int) : Prop where
  row : L = rowF n X
  n0 : 0 < n
  n5 : n ≤ 5
theorem Vd.len {n : Nat} {X : Nat → Fp.F} {L : List Int} (h : Vd n X L) : L.length = n := by rw [h.row, Mx.len_row]
theorem Vd.code {n : Nat} {X : Nat → Fp.F} {L : List Int} (h : Vd n X L) : vcd L = 0 := by
  have h0 := h.n0
  have h5 := h.n5
  have hl := h.len
  exact vcd_ok (by omega) (by omega) (by rw [h.row]; exact rrow_in _ _)
theorem vd_of {L : List Int} (h : vcd L = 0) : ∃ X, Vd L.length X L := by
  obtain ⟨h0, h1, h2⟩ := vcd_zero h
  obtain ⟨x, hx⟩ := rrow_of h2
  exact ⟨x, hx, by omega, h1⟩
theorem vd_or (L : List Int) : (∃ n X, Vd n X L) ∨ vcd L ≠ 0 := by
  by_cases h : vcd L = 0
  · obtain ⟨x, hx⟩ := vd_of h
    exact .inl ⟨_, x, hx⟩
  · exact .inr h

end Go.Proofs.Ytldkamhknaflbaa
