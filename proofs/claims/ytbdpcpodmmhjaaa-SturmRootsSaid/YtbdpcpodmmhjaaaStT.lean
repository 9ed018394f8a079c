/- Plain facts on a division in one row: what stands in it after each step, and what is left in the end. No program is named here. -/
import Derived.Test.YtbdpcpodmmhjaaaStS
namespace Go.Proofs.Ytbdpcpodmmhjaaa.Stu
set_option linter.unusedVariables false

/-- After s steps. -/
def nxs : Nat → List Int → List Int → List Int
  | 0, f, _ => f
  | s + 1, f, g => nxs s (nx f g) g
theorem nxs_succ : ∀ (s : Nat) (f g : List Int), nxs (s + 1) f g = nx (nxs s f g) g
  | 0, _, _ => rfl
  | s + 1, f, g => nxs_succ s (nx f g) g
theorem nxs_len : ∀ (s : Nat) (f g : List Int), (nxs s f g).length = f.length - s
  | 0, _, _ => rfl
  | s + 1, f, g => by rw [nxs, nxs_len s, nx_len]; omega
theorem spl_nxs : ∀ (n s : Nat) (g f Q : List Int), f.length + 1 - g.length = s → f.length ≤ n → 0 < g.length → (spl n g f Q).2 = nxs s f g
  | 0, s, g, f, Q, hs, hn, h0 => by
    obtain rfl : s = 0 := by omega
    rfl
  | n + 1, 0, g, f, Q, hs, hn, h0 => by rw [spl, if_neg (by omega)]; rfl
  | n + 1, s + 1, g, f, Q, hs, hn, h0 => by
    rw [spl, if_pos (by omega)]
    exact spl_nxs n s g (nx f g) _ (by rw [nx_len]; omega) (by rw [nx_len]; omega) h0
theorem neg_is (f : List Int) : f.map (- ·) = f.map (· * (-1 : Int)) := List.map_congr_left fun x _ => by omega
theorem nx_neg (f g : List Int) : nx (f.map (- ·)) g = (nx f g).map (- ·) := by
  have := nx_scale f g (-1) (m := 1) (by omega)
  rw [map_one, ← neg_is] at this
  rw [this, neg_is]
  exact List.map_congr_left fun x _ => by omega
theorem nxs_neg : ∀ (s : Nat) (f g : List Int), nxs s (f.map (- ·)) g = (nxs s f g).map (- ·)
  | 0, _, _ => rfl
  | s + 1, f, g => by rw [nxs, nxs, nx_neg, nxs_neg s]
theorem nr_nxs (f g : List Int) (h0 : 0 < g.length) : nr f g = tm (nxs (f.length + 1 - g.length) (f.map (- ·)) g) := by
  unfold nr
  rw [spl_nxs f.length _ g f [] rfl (Nat.le_refl _) h0, nxs_neg]
theorem getD_over {l : List Int} {i : Nat} (h : l.length ≤ i) : l.getD i 0 = 0 := by
  rw [List.getD_eq_getElem?_getD, List.getElem?_eq_none h]; rfl
/-- One step, number by number. -/
theorem nx_at (f g : List Int) (h0 : 0 < g.length) (h : g.length ≤ f.length) (i : Nat) :
    (nx f g).getD i 0 = f.getD i 0 * az (tp g) - (if f.length - g.length ≤ i ∧ i < f.length - g.length + g.length then tq f g * g.getD (i - (f.length - g.length)) 0 else 0) := by
  by_cases h1 : i < f.length - 1
  · have e : f.length - 1 - (g.length - 1) = f.length - g.length := by omega
    unfold nx
    rw [List.getD_eq_getElem?_getD, List.getElem?_map, List.getElem?_range h1, e]
    show f.getD i 0 * az (tp g) - _ = _
    by_cases h2 : f.length - g.length ≤ i
    · rw [if_pos h2, if_pos (by omega)]
    · rw [if_neg h2, if_neg (by omega)]
  · rw [getD_over (by rw [nx_len]; omega)]
    by_cases h2 : i = f.length - 1
    · rw [if_pos (by omega)]
      have e1 := tq_lead f g
      have e2 : f.getD i 0 = tp f := by unfold tp; rw [h2]
      have e3 : g.getD (i - (f.length - g.length)) 0 = tp g := by unfold tp; congr 1; omega
      rw [e2, e3, ← e1, Int.mul_comm]; omega
    · rw [if_neg (by omega), getD_over (by omega), Int.zero_mul]; rfl
theorem nxs_bn : ∀ (s : Nat) (g f : List Int) (X Y : Int), 0 ≤ X → 1 ≤ Y → Bn X f → Bn Y g → Bn (X * (2 * Y) ^ s) (nxs s f g)
  | 0, g, f, X, Y, _, _, hf, _ => by rw [Int.pow_zero, Int.mul_one]; exact hf
  | s + 1, g, f, X, Y, hX, hY, hf, hg => by
    have b := nx_bn hX (show 0 ≤ Y by omega) hf hg
    have := nxs_bn s g (nx f g) (2 * (X * Y)) Y (by have := Int.mul_nonneg hX (show 0 ≤ Y by omega); omega) hY b hg
    refine this.le ?_
    rw [Int.pow_succ]
    have e : X * ((2 * Y) ^ s * (2 * Y)) = 2 * (X * Y) * (2 * Y) ^ s := by grind
    omega
/-- A row with noughts behind is as good. -/
theorem tm_more (l : List Int) : ∀ k : Nat, tm (l ++ List.replicate k 0) = tm l
  | 0 => by rw [List.replicate_zero, List.append_nil]
  | k + 1 => by rw [List.replicate_succ', ← List.append_assoc, tm_zero, tm_more l k]
theorem row_more (l : List Int) (n : Nat) (h : l.length ≤ n) : ((List.range n).map fun i => l.getD i 0) = l ++ List.replicate (n - l.length) 0 := by
  apply List.ext_getElem?
  intro i
  by_cases hi : i < n
  · rw [List.getElem?_map, List.getElem?_range hi]
    show some (l.getD i 0) = _
    rw [List.getElem?_append]
    by_cases h2 : i < l.length
    · rw [if_pos h2, List.getD_eq_getElem?_getD, List.getElem?_eq_getElem h2]; rfl
    · rw [if_neg h2, getD_over (by omega), List.getElem?_replicate, if_pos (by omega)]
  · rw [List.getElem?_eq_none (by simp; omega), List.getElem?_eq_none (by simp; omega)]
/-- Numbers of a step that fit. -/
theorem step_fit {X Y M : Int} {s S : Nat} (hX : 0 ≤ X) (hY : 1 ≤ Y) (hs : s < S) (h : X * (2 * Y) ^ S ≤ M) : X * (2 * Y) ^ s * Y * 2 ≤ M ∧ 0 ≤ X * (2 * Y) ^ s := by
  obtain ⟨d, rfl⟩ : ∃ d, S = s + 1 + d := ⟨S - s - 1, by omega⟩
  have p := pow_le Y hY d
  have q := pow_le Y hY s
  have b := Int.mul_nonneg hX (show 0 ≤ (2 * Y) ^ s by omega)
  have a := Int.mul_nonneg b (show 0 ≤ Y by omega)
  refine ⟨?_, b⟩
  have := Int.mul_le_mul_of_nonneg_left p (show 0 ≤ X * (2 * Y) ^ s * Y * 2 by omega)
  have e : X * (2 * Y) ^ (s + 1 + d) = X * (2 * Y) ^ s * Y * 2 * (2 * Y) ^ d := by
    rw [Int.pow_add, Int.pow_succ]; grind
  omega
theorem tm_take {l : List Int} {k : Nat} (h : k < l.length) : l.take (k + 1) = l.take k ++ [l.getD k 0] := by
  rw [List.take_add_one, List.getD_eq_getElem?_getD, List.getElem?_eq_getElem h]; rfl

end Go.Proofs.Ytbdpcpodmmhjaaa.Stu
