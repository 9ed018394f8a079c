/- Which numbers are left without one of them. No program is named here. -/
import Derived.Test.YtkebjmapdcbnaaaMatR
namespace Go.Proofs.Ytkebjmapdcbnaaa
set_option linter.unusedVariables false

/-- How many of the first t there are without number a. -/
def ct (a t : Nat) : Nat := if t ≤ a then t else t - 1
theorem ct_skip (a : Nat) : ct a (a + 1) = ct a a := by unfold ct; rw [if_neg (by omega), if_pos (Nat.le_refl _)]; omega
theorem ct_next {a t : Nat} (h : t ≠ a) : ct a (t + 1) = ct a t + 1 := by
  unfold ct
  by_cases h1 : t ≤ a
  · rw [if_pos h1, if_pos (by omega)]
  · rw [if_neg h1, if_neg (by omega)]; omega
theorem sk_ct {a t : Nat} (h : t ≠ a) : Mx.sk a (ct a t) = t := by
  unfold ct Mx.sk
  by_cases h1 : t ≤ a
  · rw [if_pos h1, if_pos (by omega)]
  · rw [if_neg h1, if_neg (by omega)]; omega
theorem ct_zero (a : Nat) : ct a 0 = 0 := by unfold ct; rw [if_pos (by omega)]
theorem ct_end {a p : Nat} (h : a ≤ p) : ct a (p + 1) = p := by unfold ct; rw [if_neg (by omega)]; omega
theorem ct_le {a p t : Nat} (h : a ≤ p) (ht : t ≤ p + 1) : ct a t ≤ p := by unfold ct; split <;> omega
/-- Without row a and column b. -/
def wo (f : Nat → Nat → Fp.F) (a b : Nat) : Nat → Nat → Fp.F := fun i j => f (Mx.sk a i) (Mx.sk b j)
/-- The first of them. -/
def kept (k m : Nat) : List Nat := (List.range (ct k m)).map (Mx.sk k)
theorem kept_zero (k : Nat) : kept k 0 = [] := by unfold kept; rw [ct_zero]; rfl
theorem kept_skip (k : Nat) : kept k (k + 1) = kept k k := by unfold kept; rw [ct_skip]
theorem kept_next {k m : Nat} (h : m ≠ k) : kept k (m + 1) = kept k m ++ [m] := by
  unfold kept
  rw [ct_next h, List.range_succ, List.map_append, List.map_singleton, sk_ct h]
theorem kept_len (k m : Nat) : (kept k m).length = ct k m := by simp [kept]
theorem ct_le_self (k m : Nat) : ct k m ≤ m := by unfold ct; split <;> omega
theorem ct_lt {k m n : Nat} (hm : m < n) (h : m ≠ k) : ct k m < n := by unfold ct; split <;> omega

end Go.Proofs.Ytkebjmapdcbnaaa
