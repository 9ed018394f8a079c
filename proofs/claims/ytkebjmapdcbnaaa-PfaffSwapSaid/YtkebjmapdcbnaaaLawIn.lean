/- The laws' small function 'in'. -/
import Derived.Test.YtkebjmapdcbnaaaRowG
namespace Go.Proofs.Ytkebjmapdcbnaaa
open Go.ChangeShapes Go.WideShapes Go.ChangeAt Go.RowKit
set_option linter.unusedVariables false





theorem law4In_any (n a b : Int) (w : World) (t : Bool) (h : (decide (a ≤ n) && decide (n ≤ b)) = t) :
    Calls Try.prog 8 #[.int .i64 n, .int .i64 a, .int .i64 b] w fun e w' => e = .returned (.bool t) ∧ w = w' := by
  have H := Lib.hid h
  clear h
  by_cases h1 : a ≤ n
  · by_cases h2 : n ≤ b
    · go_enter Try.func8, Try.ntmps8
      go_wp2
      go_ret
      exact ⟨ret_bool (by rw [← H.out]; simp [h1, h2]), rfl⟩
    · go_enter Try.func8, Try.ntmps8
      go_wp2
      go_ret
      exact ⟨ret_bool (by rw [← H.out]; simp [h1]; omega), rfl⟩
  · go_enter Try.func8, Try.ntmps8
    go_wp2
    go_ret
    exact ⟨ret_bool (by rw [← H.out]; simp; omega), rfl⟩


end Go.Proofs.Ytkebjmapdcbnaaa
