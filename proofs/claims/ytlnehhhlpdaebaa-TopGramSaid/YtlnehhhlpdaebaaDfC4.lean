/- Contract of package definite's Is; what comes in by cases; the closed fact. -/
import Derived.Test.YtlnehhhlpdaebaaDfC3
import Derived.Test.YtlnehhhlpdaebaaBaC4
import Derived.Test.YtlnehhhlpdaebaaRowsG
namespace Go.Proofs.Ytlnehhhlpdaebaa
open Go.ChangeShapes Go.WideShapes Go.ChangeAt Go.RowKit Go.Shelf
set_option linter.unusedVariables false

/-- Are all first determinants above 0? -/
def posB (n : Nat) (x : Nat → Nat → Int) : Bool := (List.range n).all fun i => decide (0 < Zx.dt (i + 1) x)
theorem posB_iff {n : Nat} {x : Nat → Nat → Int} : posB n x = true ↔ ∀ k, 1 ≤ k → k ≤ n → 0 < Zx.dt k x := by
  unfold posB
  rw [List.all_eq_true]
  constructor
  · intro h k h1 h2
    have := h (k - 1) (by rw [List.mem_range]; omega)
    rw [show k - 1 + 1 = k by omega] at this
    exact of_decide_eq_true this
  · intro h i hi
    rw [List.mem_range] at hi
    exact decide_eq_true (h (i + 1) (by omega) (by omega))
theorem posB_pos {n : Nat} {x : Nat → Nat → Int} (h : Zx.Sym n x) : posB n x = true ↔ Zx.Pos n x := posB_iff.trans (Zx.pos_iff h).symm
theorem least_pos {n : Nat} {x : Nat → Nat → Int} {v : Int} (h : Least (leads n x) n v) : decide (0 < v) = posB n x := by
  have e : decide (0 < v) = true ↔ posB n x = true := by
    rw [decide_eq_true_iff, posB_iff]
    constructor
    · intro h0 k h1 h2
      have := h.1 (k - 1) (by omega)
      unfold leads at this
      rw [Mx.row_at _ _ _ (by omega), show k - 1 + 1 = k by omega] at this
      omega
    · intro h0
      obtain ⟨j, hj, e⟩ := h.2
      unfold leads at e
      rw [Mx.row_at _ _ _ hj] at e
      rw [e]
      exact h0 (j + 1) (by omega) (by omega)
  cases h1 : decide (0 < v) <;> cases h2 : posB n x
  · rfl
  · rw [e.2 h2] at h1; cases h1
  · rw [e.1 h1] at h2; cases h2
  · rfl

set_option maxRecDepth 100000 in
set_option maxHeartbeats 800000 in
theorem DIs_bad (A : Option Addr) (m : List (List Int)) (n d z : Nat) (w : World) (ha : LiesM w A m) (hn : m.length = n) (h : Fb n m z) :
    Calls Try.prog 14 #[.slice A n d] w fun e w' => e = .returned (.tuple #[.bool false, .iface 51 (.int .i64 (z : Int))]) ∧ Kp w w' := by
  have CK := Lib.hid (DChk_bad A m n d z w ha hn h)
  clear ha hn h
  go_enter Try.func14, Try.ntmps14
  go_wp2_with fail
  refine (CK.out).mono ?_; rintro e w3 ⟨rfl, k3⟩
  have K3 := Lib.hid k3
  clear k3
  go_wp2_with fail
  go_ret2
  exact ⟨rfl, K3.out⟩

set_option maxRecDepth 100000 in
set_option maxHeartbeats 800000 in
theorem DIs_ok (A : Option Addr) (m : List (List Int)) (x : Nat → Nat → Int) (n d : Nat) (w : World) (ha : LiesM w A m) (s : Sf n x m) :
    Calls Try.prog 14 #[.slice A n d] w fun e w' => e = .returned (.tuple #[.bool (posB n x), .nilIface]) ∧ Kp w w' := by
  have CK := Lib.hid (DChk_ok A m x n d w ha s)
  have LD := Lib.hid (fun (w2 : World) (k : Kp w w2) => Lead_ok A x m n d w2 (ha.keep k) s.shz)
  have n0 := s.shz.n0
  have n4 := s.n4
  have MN := Lib.hid (fun A w2 h => smin_any A (leads n x) n n w2 h (Mx.len_row _ _) n0 (by omega))
  clear ha s
  go_enter Try.func14, Try.ntmps14
  go_wp2_with fail
  refine (CK.out).mono ?_; rintro e w3 ⟨rfl, k3⟩
  have K3 := Lib.hid k3
  clear k3
  go_wp2_with fail
  refine (LD.out w3 K3.out).mono ?_; rintro e w4 ⟨g, rfl, hr, k4⟩
  have K4 := Lib.hid (K3.out.trans k4)
  have HR := Lib.hid hr
  clear k4 hr
  go_wp2_with fail
  refine (MN.out _ w4 HR.out.lies).mono ?_; rintro e w5 ⟨v, rfl, rfl, hl⟩
  have E := Lib.hid (least_pos hl)
  clear hl
  go_wp2_with fail
  go_ret2
  rw [E.out]
  exact ⟨rfl, K4.out⟩

theorem df1_shz : Sf 2 (n22 2 1 1 2) (Mx.tab 2 2 (n22 2 1 1 2)) := ⟨⟨rfl, by decide, by decide, fun i j hi hj => by
  have h1 : i = 0 ∨ i = 1 := by omega
  have h2 : j = 0 ∨ j = 1 := by omega
  rcases h1 with rfl | rfl <;> rcases h2 with rfl | rfl <;> decide⟩, by decide, fun i j hi hj => by
  have h1 : i = 0 ∨ i = 1 := by omega
  have h2 : j = 0 ∨ j = 1 := by omega
  rcases h1 with rfl | rfl <;> rcases h2 with rfl | rfl <;> decide⟩
theorem df2_shz : Sf 2 (n22 1 2 2 1) (Mx.tab 2 2 (n22 1 2 2 1)) := ⟨⟨rfl, by decide, by decide, fun i j hi hj => by
  have h1 : i = 0 ∨ i = 1 := by omega
  have h2 : j = 0 ∨ j = 1 := by omega
  rcases h1 with rfl | rfl <;> rcases h2 with rfl | rfl <;> decide⟩, by decide, fun i j hi hj => by
  have h1 : i = 0 ∨ i = 1 := by omega
  have h2 : j = 0 ∨ j = 1 := by omega
  rcases h1 with rfl | rfl <;> rcases h2 with rfl | rfl <;> decide⟩
theorem df1_pos : posB 2 (n22 2 1 1 2) = true := by decide +kernel
theorem df2_pos : posB 2 (n22 1 2 2 1) = false := by decide +kernel
def n2 (a b : Int) (k : Nat) : Int := if k = 0 then a else b
theorem df2_qf : Zx.qf 2 (n22 1 2 2 1) (n2 1 (-1)) = -2 := by decide +kernel
end Go.Proofs.Ytlnehhhlpdaebaa
