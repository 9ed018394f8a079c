/- Contracts of package euclid: Gcd and Bezout within and outside of their bounds. -/
import Derived.Test.YtlnehhhlpdaebaaSmall
namespace Go.Proofs.Ytlnehhhlpdaebaa
open Go.ChangeShapes Go.WideShapes Go.ChangeAt Go.RowKit
set_option linter.unusedVariables false

/-- The error that the program gives for a number out of its range. -/
abbrev errRange : Value := .iface 51 (.int .i64 1)

set_option maxHeartbeats 800000 in
theorem gcd_in (a b : Int) (w : World) (h1 : -1000000 ≤ a) (h2 : a ≤ 1000000) (h3 : -1000000 ≤ b) (h4 : b ≤ 1000000) :
    Calls Try.prog 55 #[.int .i64 a, .int .i64 b] w fun e w' => e = .returned (.tuple #[.int .i64 (Int.gcd a b : Int), .nilIface]) ∧ Drew w w' := by
  go_enter Try.func55, Try.ntmps55
  go_wp2_with (first
    | (go_at_call 59; refine (allowed_yes _ _ (by omega) (by omega)).mono ?_; rintro e w' ⟨rfl, rfl⟩)
    | (go_at_call 61; refine (size_any _ _ (by omega) (by omega)).mono ?_; rintro e w' ⟨rfl, rfl⟩)
    | (go_at_call 60; refine (divisor_any _ _ _ (by omega) (by omega)).mono ?_; rintro e w' ⟨rfl, hd⟩))
  go_ret2
  exact ⟨rfl, hd⟩

set_option maxHeartbeats 800000 in
theorem gcd_out (a b : Int) (w : World) (h : ¬ (-1000000 ≤ a ∧ a ≤ 1000000 ∧ -1000000 ≤ b ∧ b ≤ 1000000)) :
    Calls Try.prog 55 #[.int .i64 a, .int .i64 b] w fun e w' => e = .returned (.tuple #[.int .i64 0, errRange]) ∧ Drew w w' := by
  by_cases ha : -1000000 ≤ a ∧ a ≤ 1000000
  · have hb : b < -1000000 ∨ 1000000 < b := by omega
    have H := Lib.hid hb
    clear h hb
    go_enter Try.func55, Try.ntmps55
    go_wp2_with fail
    refine (allowed_yes _ _ (by omega) (by omega)).mono ?_; rintro e w' ⟨rfl, rfl⟩
    go_wp2_with fail
    refine (allowed_no _ _ H.out).mono ?_; rintro e w' ⟨rfl, rfl⟩
    go_wp2_with fail
    go_ret2
    exact ⟨rfl, Drew.refl _⟩
  · have hb : a < -1000000 ∨ 1000000 < a := by omega
    have H := Lib.hid hb
    clear h hb ha
    go_enter Try.func55, Try.ntmps55
    go_wp2_with fail
    refine (allowed_no _ _ H.out).mono ?_; rintro e w' ⟨rfl, rfl⟩
    go_wp2_with fail
    go_ret2
    exact ⟨rfl, Drew.refl _⟩

end Go.Proofs.Ytlnehhhlpdaebaa
