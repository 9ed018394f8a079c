/- Mathematics of the statement on products: a product of two rows of four small numbers, as whole numbers, over the field, and folded. -/
import Derived.Test.YtlemhkceilkfhaaPolN
import Derived.Test.YtlemhkceilkfhaaNtN
namespace Go.Proofs.Ytlemhkceilkfhaa
set_option linter.unusedVariables false
namespace TopP

/-- A row of whole numbers as factors. -/
def fac (l : List Int) : List Fp.F := l.map Fp.ofInt
theorem vals_fac {l : List Int} (h : ∀ x ∈ l, 0 ≤ x ∧ x ≤ 9972) : Pol.vals (fac l) = l := by
  unfold Pol.vals fac
  rw [List.map_map]
  refine (List.map_congr_left fun x hx => ?_).trans (List.map_id l)
  have hb := h x hx
  show ((Fp.ofInt x).val : Int) = x
  exact Fp.ofInt_of x hb.1 hb.2

theorem four_of {l : List Int} (h : l.length = 4) : ∃ a b c d, l = [a, b, c, d] := by
  match l, h with
  | [a, b, c, d], _ => exact ⟨a, b, c, d, rfl⟩

variable {x0 x1 x2 x3 y0 y1 y2 y3 : Int}
/-- The product, written out. -/
def pr (x0 x1 x2 x3 y0 y1 y2 y3 : Int) : List Int :=
  [x0 * y0, x0 * y1 + x1 * y0, x0 * y2 + x1 * y1 + x2 * y0, x0 * y3 + x1 * y2 + x2 * y1 + x3 * y0, x1 * y3 + x2 * y2 + x3 * y1, x2 * y3 + x3 * y2, x3 * y3]
theorem prod_pr : Ka.prod 4 [x0, x1, x2, x3] [y0, y1, y2, y3] = pr x0 x1 x2 x3 y0 y1 y2 y3 := by
  show [_, _, _, _, _, _, _] = [_, _, _, _, _, _, _]
  simp [Ka.cv, Ka.sm, Ka.at']
theorem mul7 {x y : Int} (hx : 0 ≤ x ∧ x ≤ 7) (hy : 0 ≤ y ∧ y ≤ 7) : 0 ≤ x * y ∧ x * y ≤ 49 :=
  ⟨Int.mul_nonneg hx.1 hy.1, by have := Int.mul_le_mul hx.2 hy.2 hy.1 (by omega); omega⟩

section
variable (a0 : 0 ≤ x0 ∧ x0 ≤ 7) (a1 : 0 ≤ x1 ∧ x1 ≤ 7) (a2 : 0 ≤ x2 ∧ x2 ≤ 7) (a3 : 0 ≤ x3 ∧ x3 ≤ 7) (b0 : 0 ≤ y0 ∧ y0 ≤ 7) (b1 : 0 ≤ y1 ∧ y1 ≤ 7) (b2 : 0 ≤ y2 ∧ y2 ≤ 7) (b3 : 0 ≤ y3 ∧ y3 ≤ 7)
include a0 a1 a2 a3 b0 b1 b2 b3
theorem pr_bound : ∀ x ∈ pr x0 x1 x2 x3 y0 y1 y2 y3, 0 ≤ x ∧ x ≤ 196 := by
  intro x hx
  have p00 := mul7 a0 b0; have p01 := mul7 a0 b1; have p02 := mul7 a0 b2; have p03 := mul7 a0 b3
  have p10 := mul7 a1 b0; have p11 := mul7 a1 b1; have p12 := mul7 a1 b2; have p13 := mul7 a1 b3
  have p20 := mul7 a2 b0; have p21 := mul7 a2 b1; have p22 := mul7 a2 b2; have p23 := mul7 a2 b3
  have p30 := mul7 a3 b0; have p31 := mul7 a3 b1; have p32 := mul7 a3 b2; have p33 := mul7 a3 b3
  unfold pr at hx
  simp only [List.mem_cons, List.not_mem_nil, or_false] at hx
  rcases hx with rfl | rfl | rfl | rfl | rfl | rfl | rfl <;> omega
omit a0 a1 a2 a3 b0 b1 b2 b3

/-- Over the field the product is the product. -/
theorem ev_pr (x : Fp.F) : Pol.ev (fac (pr x0 x1 x2 x3 y0 y1 y2 y3)) x = Pol.ev (fac [x0, x1, x2, x3]) x * Pol.ev (fac [y0, y1, y2, y3]) x := by
  unfold fac pr
  simp only [List.map_cons, List.map_nil, Pol.ev_cons, Pol.ev_nil, Fp.ofInt_add, Fp.ofInt_mul]
  generalize Fp.ofInt x0 = u0
  generalize Fp.ofInt x1 = u1
  generalize Fp.ofInt x2 = u2
  generalize Fp.ofInt x3 = u3
  generalize Fp.ofInt y0 = v0
  generalize Fp.ofInt y1 = v1
  generalize Fp.ofInt y2 = v2
  generalize Fp.ofInt y3 = v3
  grind
theorem trim_pr : Pol.trim (fac (pr x0 x1 x2 x3 y0 y1 y2 y3)) = Pol.mul (fac [x0, x1, x2, x3]) (fac [y0, y1, y2, y3]) :=
  Pol.is_mul _ _ _ (by simp [fac]) (by simp [fac]) (by simp [fac, pr]) ev_pr

/-- Four numbers and four noughts, as a row of eight. -/
def pad (x0 x1 x2 x3 : Int) (i : Nat) : Nt.G := Nt.ofI ([x0, x1, x2, x3, 0, 0, 0, 0].getD i 0)
include a0 a1 a2 a3 in
theorem pad_nt : Nt.nt (pad x0 x1 x2 x3) = [x0, x1, x2, x3, 0, 0, 0, 0] := by
  refine (Nt.nt_of (l := [x0, x1, x2, x3, 0, 0, 0, 0]) rfl fun k hk => ?_).symm
  match k, hk with
  | 0, _ => show 0 ≤ x0 ∧ x0 ≤ 256; omega
  | 1, _ => show 0 ≤ x1 ∧ x1 ≤ 256; omega
  | 2, _ => show 0 ≤ x2 ∧ x2 ≤ 256; omega
  | 3, _ => show 0 ≤ x3 ∧ x3 ≤ 256; omega
  | 4, _ => show (0 : Int) ≤ 0 ∧ (0 : Int) ≤ 256; decide
  | 5, _ => show (0 : Int) ≤ 0 ∧ (0 : Int) ≤ 256; decide
  | 6, _ => show (0 : Int) ≤ 0 ∧ (0 : Int) ≤ 256; decide
  | 7, _ => show (0 : Int) ≤ 0 ∧ (0 : Int) ≤ 256; decide
  | n + 8, h => exact absurd h (by simp)

theorem val_sum (f g : Nat → Nt.G) (n : Nat) : ((Nt.sg n (fun k => f k * g k)).val : Int) = Ka.sm n (fun k => ((f k).val : Int) * ((g k).val : Int)) % 257 := by
  induction n with
  | zero => rfl
  | succ n ih =>
    rw [Nt.sg, ← Nt.val_madd, ih, Ka.sm, Int.emod_add_emod]

include a0 a1 a2 a3 b0 b1 b2 b3 in
/-- Folded with four noughts behind, the product is the product. -/
theorem fold_pr : Nt.nt (Nt.fo (pad x0 x1 x2 x3) (pad y0 y1 y2 y3)) = pr x0 x1 x2 x3 y0 y1 y2 y3 ++ [0] := by
  have B := pr_bound a0 a1 a2 a3 b0 b1 b2 b3
  have hx : ∀ k, k < 8 → ((pad x0 x1 x2 x3 k).val : Int) = [x0, x1, x2, x3, 0, 0, 0, 0].getD k 0 := fun k hk => by
    rw [← Nt.nt_at _ k hk, pad_nt a0 a1 a2 a3]
  have hy : ∀ k, k < 8 → ((pad y0 y1 y2 y3 k).val : Int) = [y0, y1, y2, y3, 0, 0, 0, 0].getD k 0 := fun k hk => by
    rw [← Nt.nt_at _ k hk, pad_nt b0 b1 b2 b3]
  have h : ∀ p, p < 8 → ((Nt.fo (pad x0 x1 x2 x3) (pad y0 y1 y2 y3) p).val : Int) = Ka.sm 8 (fun k => [x0, x1, x2, x3, 0, 0, 0, 0].getD k 0 * [y0, y1, y2, y3, 0, 0, 0, 0].getD ((p + 8 - k) % 8) 0) % 257 := fun p hp => by
    unfold Nt.fo
    rw [val_sum]
    congr 1
    exact Ka.sm_congr fun k hk => by rw [hx k hk, hy _ (Nat.mod_lt _ (by decide))]
  show [_, _, _, _, _, _, _, _] = [_, _, _, _, _, _, _, _]
  have e0 := h 0 (by decide)
  have e1 := h 1 (by decide)
  have e2 := h 2 (by decide)
  have e3 := h 3 (by decide)
  have e4 := h 4 (by decide)
  have e5 := h 5 (by decide)
  have e6 := h 6 (by decide)
  have e7 := h 7 (by decide)
  simp [Ka.sm] at e0 e1 e2 e3 e4 e5 e6 e7
  have c0 := B (x0 * y0) (by simp [pr])
  have c1 := B (x0 * y1 + x1 * y0) (by simp [pr])
  have c2 := B (x0 * y2 + x1 * y1 + x2 * y0) (by simp [pr])
  have c3 := B (x0 * y3 + x1 * y2 + x2 * y1 + x3 * y0) (by simp [pr])
  have c4 := B (x1 * y3 + x2 * y2 + x3 * y1) (by simp [pr])
  have c5 := B (x2 * y3 + x3 * y2) (by simp [pr])
  have c6 := B (x3 * y3) (by simp [pr])
  rw [Int.emod_eq_of_lt c0.1 (by omega)] at e0
  rw [Int.emod_eq_of_lt c1.1 (by omega)] at e1
  rw [Int.emod_eq_of_lt c2.1 (by omega)] at e2
  rw [Int.emod_eq_of_lt c3.1 (by omega)] at e3
  rw [Int.emod_eq_of_lt c4.1 (by omega)] at e4
  rw [Int.emod_eq_of_lt c5.1 (by omega)] at e5
  rw [Int.emod_eq_of_lt c6.1 (by omega)] at e6
  simp only [e0, e1, e2, e3, e4, e5, e6, e7]
  rfl
end
end TopP
end Go.Proofs.Ytlemhkceilkfhaa
