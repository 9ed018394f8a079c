/- What definite says of whatever comes in; the laws' closed fact. -/
import Derived.Test.YtapcnlbcookldaaDfC4
namespace Go.Proofs.Ytapcnlbcookldaa
open Go.ChangeShapes Go.WideShapes Go.ChangeAt Go.RowKit Go.Shelf
set_option linter.unusedVariables false

theorem DIs_or (A : Option Addr) (m : List (List Int)) (n d : Nat) (hn : m.length = n) :
    (∃ x, Sf n x m) ∨ ∀ (w : World), LiesM w A m → Calls Try.prog 8 #[.slice A n d] w fun e w' => ∃ z : Nat, e = .returned (.tuple #[.bool false, .iface 45 (.int .i64 (z : Int))]) ∧ Kp w w' := by
  rcases sf_or m hn with h | ⟨z, h⟩
  · exact .inl h
  · exact .inr fun w ha => (DIs_bad A m n d z w ha hn h).mono fun e w' h' => ⟨z, h'⟩
theorem xcode_or (l : List Int) (n : Nat) : (∃ v, l = Mx.row n v ∧ ∀ i, i < n → -100 ≤ v i ∧ v i ≤ 100) ∨ xcode n l ≠ 0 := by
  by_cases h : xcode n l = 0
  · left
    obtain ⟨h1, h2⟩ := Mx.rcode_zero h
    subst h1
    exact ⟨_, Mx.is_row l, fun i hi => h2 i hi⟩
  · exact .inr h
theorem row_two (a b : Int) : [a, b] = Mx.row 2 (n2 a b) := rfl
theorem xlit_b (i : Nat) (hi : i < 2) : -100 ≤ n2 1 (-1) i ∧ n2 1 (-1) i ≤ 100 := by
  unfold n2; split <;> omega

set_option maxRecDepth 100000 in
set_option maxHeartbeats 1600000 in
theorem definiteFact_any (w : World) : Calls Try.prog 7 #[] w fun e w' => e = .returned (.bool true) ∧ Kp w w' := by
  have O1 := Lib.hid (DIs_ok (some ⟨w.heap.size + 1 + 1, 0, none⟩) _ _ 2 2 (lit22 w w.heap.size 2 1 1 2) (lit22_lies w _ 2 1 1 2 rfl) df1_shz)
  rw [df1_pos] at O1
  go_enter Try.func7, Try.ntmps7
  go_wp2_with fail
  refine (O1.out).mono ?_; rintro e w1 ⟨rfl, k1⟩
  have K1 := Lib.hid ((lit22_kp w w.heap.size 2 1 1 2).trans k1)
  clear k1 O1
  have O2 := Lib.hid (DIs_ok (some ⟨w1.heap.size + 1 + 1, 0, none⟩) _ _ 2 2 (lit22 w1 w1.heap.size 1 2 2 1) (lit22_lies w1 _ 1 2 2 1 rfl) df2_shz)
  rw [df2_pos] at O2
  go_wp2_with fail
  refine (O2.out).mono ?_; rintro e w2 ⟨rfl, k2⟩
  have K2 := Lib.hid (K1.out.trans ((lit22_kp w1 w1.heap.size 1 2 2 1).trans k2))
  clear k2 O2
  have O3 := Lib.hid (fun w3 (k : Kp (lit22 w2 w2.heap.size 1 2 2 1) w3) X (h : Lies w3 X (Mx.row 2 (n2 1 (-1)))) => DAt_ok (some ⟨w2.heap.size + 1 + 1, 0, none⟩) X _ _ (n2 1 (-1)) 2 2 2 w3 ((lit22_lies w2 _ 1 2 2 1 rfl).keep k) df2_shz h xlit_b)
  rw [df2_qf] at O3
  go_wp2_with fail
  refine (O3.out _ ((Kp.rfl' _).new _) _ (lies_new' (lit22 w2 w2.heap.size 1 2 2 1) _ [1, -1] _ (by rw [lit22_size]))).mono ?_; rintro e w3 ⟨rfl, k3⟩
  have K3 := Lib.hid (K2.out.trans (((lit22_kp w2 w2.heap.size 1 2 2 1).new _).trans k3))
  clear k3 O3
  go_wp2_with fail
  go_ret
  exact ⟨rfl, K3.out⟩
end Go.Proofs.Ytapcnlbcookldaa
