/- What definite says of whatever comes in; the laws' closed fact. -/
import Derived.Test.YtlnehhhlpdaebaaDfC4
namespace Go.Proofs.Ytlnehhhlpdaebaa
open Go.ChangeShapes Go.WideShapes Go.ChangeAt Go.RowKit Go.Shelf
set_option linter.unusedVariables false

theorem DIs_or (A : Option Addr) (m : List (List Int)) (n d : Nat) (hn : m.length = n) :
    (∃ x, Sf n x m) ∨ ∀ (w : World), LiesM w A m → Calls Try.prog 14 #[.slice A n d] w fun e w' => ∃ z : Nat, e = .returned (.tuple #[.bool false, .iface 51 (.int .i64 (z : Int))]) ∧ Kp w w' := by
  rcases sf_or m hn with h | ⟨z, h⟩
  · exact .inl h
  · exact .inr fun w ha => (DIs_bad A m n d z w ha hn h).mono fun e w' h' => ⟨z, h'⟩
theorem xcode_or (l : List Int) (n : Nat) : (∃ v, l = Mx.row n v ∧ ∀ i, i < n → -100 ≤ v i ∧ v i ≤ 100) ∨ xcode n l ≠ 0 := by
  by_cases h : xcode n l = 0
  · left
    obtain ⟨h1, h2⟩ := Mx.rcode_zero h
    subst h1
    exact ⟨_, Mx.is_row l, fun i hi => h2 i hi⟩
  · exact .inr h
theorem row_two (a b : Int) : [a, b] = Mx.row 2 (n2 a b) := rfl
theorem xlit_b (i : Nat) (hi : i < 2) : -100 ≤ n2 1 (-1) i ∧ n2 1 (-1) i ≤ 100 := by
  unfold n2; split <;> omega

end Go.Proofs.Ytlnehhhlpdaebaa
