/- Rows of eight numbers below 257 as whole numbers; the transform step by step. No program is named here. -/
import Derived.Test.YtlemhkceilkfhaaNtM
namespace Go.Proofs.Ytlemhkceilkfhaa
set_option linter.unusedVariables false
namespace Nt

/-- Eight numbers of the field, as a row of whole numbers. -/
def nt (f : Nat → G) : List Int := Ka.row 8 (fun i => ((f i).val : Int))
theorem len_nt (f : Nat → G) : (nt f).length = 8 := Ka.len_row _ _
theorem nt_at (f : Nat → G) (k : Nat) (hk : k < 8) : (nt f).getD k 0 = ((f k).val : Int) := (Ka.at_row 8 _ k).trans (if_pos hk)
theorem nt_congr {f g : Nat → G} (h : ∀ k, k < 8 → f k = g k) : nt f = nt g := Ka.row_ext fun k hk => by rw [h k hk]
theorem nt_set (f g : Nat → G) (k : Nat) (x : G) (h1 : g k = x) (h2 : ∀ j, j ≠ k → g j = f j) : (nt f).set k ((x.val : Nat) : Int) = nt g :=
  Ka.row_set _ _ _ _ _ (by rw [h1]) fun j hj => by rw [h2 j hj]
theorem nt_zero : nt (fun _ => 0) = [0, 0, 0, 0, 0, 0, 0, 0] := by decide
theorem val_bound (a : G) : 0 ≤ (a.val : Int) ∧ (a.val : Int) ≤ 256 := by have := a.isLt; omega
theorem val_mul (a b : G) : ((a.val : Int) * (b.val : Int)) % 257 = ((a * b).val : Int) := by rw [Fin.val_mul]; simp
theorem val_madd (s a b : G) : ((s.val : Int) + (a.val : Int) * (b.val : Int)) % 257 = ((s + a * b).val : Int) := by
  rw [Fin.val_add, Fin.val_mul]
  simp
theorem prod_bound (a b : G) : 0 ≤ (a.val : Int) * (b.val : Int) ∧ (a.val : Int) * (b.val : Int) ≤ 65536 := by
  have h1 := val_bound a
  have h2 := val_bound b
  have := Int.mul_le_mul h1.2 h2.2 h2.1 (by omega)
  exact ⟨Int.mul_nonneg h1.1 h2.1, by omega⟩
theorem nt_in (f : Nat → G) (k : Nat) (hk : k < (nt f).length) : 0 ≤ (nt f).getD k 0 ∧ (nt f).getD k 0 ≤ 256 := by
  rw [nt_at f k (by rw [len_nt] at hk; exact hk)]; exact val_bound _
/-- A number of the field, out of a whole number. -/
def ofI (n : Int) : G := Fin.ofNat 257 n.toNat
theorem val_ofI {n : Int} (h0 : 0 ≤ n) (h1 : n ≤ 256) : ((ofI n).val : Int) = n := by
  unfold ofI
  rw [Fin.val_ofNat, Nat.mod_eq_of_lt (by omega)]; omega
/-- The row of numbers of the field that a row of whole numbers is. -/
theorem nt_of {l : List Int} (h : l.length = 8) (h2 : ∀ k, k < l.length → 0 ≤ l.getD k 0 ∧ l.getD k 0 ≤ 256) : l = nt (fun k => ofI (l.getD k 0)) := by
  refine Ka.list_ext (by rw [h, len_nt]) fun k hk => ?_
  have hk8 : k < 8 := by omega
  have hb := h2 k hk
  show l.getD k 0 = (nt _).getD k 0
  rw [nt_at _ k hk8, val_ofI hb.1 hb.2]

/-- The transform, place i begun: the first t terms of its sum. -/
def mid (b : G) (f : Nat → G) (i t j : Nat) : G := if j < i then tr b f j else if j = i then sg t (fun k => f k * pw b (i * k % 8)) else 0
theorem mid_start (b : G) (f : Nat → G) : nt (mid b f 0 0) = [0, 0, 0, 0, 0, 0, 0, 0] := by
  rw [← nt_zero]
  refine nt_congr fun k _ => ?_
  unfold mid
  rw [if_neg (by omega)]
  split <;> rfl
theorem mid_step (b : G) (f : Nat → G) (i t : Nat) : (nt (mid b f i t)).set i (((mid b f i t i + f t * pw b (i * t % 8)).val : Nat) : Int) = nt (mid b f i (t + 1)) := by
  refine nt_set _ _ _ _ ?_ fun j hj => ?_
  · unfold mid
    rw [if_neg (by omega), if_pos rfl, if_neg (by omega), if_pos rfl, sg]
  · unfold mid
    rw [if_neg hj, if_neg hj]
theorem mid_next (b : G) (f : Nat → G) (i : Nat) : nt (mid b f i 8) = nt (mid b f (i + 1) 0) := by
  refine nt_congr fun j _ => ?_
  unfold mid
  by_cases h1 : j < i
  · rw [if_pos h1, if_pos (by omega)]
  · rw [if_neg h1]
    by_cases h2 : j = i
    · subst h2; rw [if_pos rfl, if_pos (by omega)]; rfl
    · rw [if_neg h2, if_neg (by omega)]
      split <;> rfl
theorem mid_end (b : G) (f : Nat → G) : nt (mid b f 8 0) = nt (tr b f) := nt_congr fun j hj => by unfold mid; rw [if_pos hj]

/-- The first k powers. -/
def pws (b : G) (k j : Nat) : G := if j < k then pw b j else 0
theorem pws_zero (b : G) : nt (pws b 0) = [0, 0, 0, 0, 0, 0, 0, 0] := by
  rw [← nt_zero]
  exact nt_congr fun k _ => if_neg (by omega)
theorem pws_step (b : G) (k : Nat) : (nt (pws b k)).set k (((pw b k).val : Nat) : Int) = nt (pws b (k + 1)) :=
  nt_set _ _ _ _ (if_pos (by omega)) fun j hj => by
    unfold pws
    by_cases h : j < k
    · rw [if_pos h, if_pos (by omega)]
    · rw [if_neg h, if_neg (by omega)]
theorem pws_end (b : G) : nt (pws b 8) = nt (pw b) := nt_congr fun k hk => if_pos hk

/-- The first k places with a factor. -/
def part (f g : Nat → G) (k j : Nat) : G := if j < k then g j else f j
theorem part_start (f g : Nat → G) : nt (part f g 0) = nt f := nt_congr fun j _ => if_neg (by omega)
theorem part_step (f g : Nat → G) (k : Nat) : (nt (part f g k)).set k (((g k).val : Nat) : Int) = nt (part f g (k + 1)) :=
  nt_set _ _ _ _ (if_pos (by omega)) fun j hj => by
    unfold part
    by_cases h : j < k
    · rw [if_pos h, if_pos (by omega)]
    · rw [if_neg h, if_neg (by omega)]
theorem part_end (f g : Nat → G) : nt (part f g 8) = nt g := nt_congr fun k hk => if_pos hk
theorem part_at (f g : Nat → G) (k : Nat) : part f g k k = f k := if_neg (by omega)

end Nt
end Go.Proofs.Ytlemhkceilkfhaa
