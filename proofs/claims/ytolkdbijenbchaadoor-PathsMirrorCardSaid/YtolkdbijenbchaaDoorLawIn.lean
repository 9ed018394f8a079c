/- The laws' small function 'in'. -/
import Derived.Test.YtolkdbijenbchaaDoorRowG
namespace Go.Proofs.YtolkdbijenbchaaDoor
open Go.ChangeShapes Go.WideShapes Go.ChangeAt Go.RowKit
set_option linter.unusedVariables false





theorem law4In_any (n a b : Int) (w : World) (t : Bool) (h : (decide (a ≤ n) && decide (n ≤ b)) = t) :
    Calls Tryd.prog 10 #[.int .i64 n, .int .i64 a, .int .i64 b] w fun e w' => e = .returned (.bool t) ∧ w = w' := by
  have H := Lib.hid h
  clear h
  by_cases h1 : a ≤ n
  · by_cases h2 : n ≤ b
    · go_enter Tryd.func10, Tryd.ntmps10
      go_wp2
      go_ret
      exact ⟨ret_bool (by rw [← H.out]; simp [h1, h2]), rfl⟩
    · go_enter Tryd.func10, Tryd.ntmps10
      go_wp2
      go_ret
      exact ⟨ret_bool (by rw [← H.out]; simp [h1]; omega), rfl⟩
  · go_enter Tryd.func10, Tryd.ntmps10
    go_wp2
    go_ret
    exact ⟨ret_bool (by rw [← H.out]; simp; omega), rfl⟩

theorem ref3In_any (n a b : Int) (w : World) (t : Bool) (h : (decide (a ≤ n) && decide (n ≤ b)) = t) :
    Calls Tryd.prog 14 #[.int .i64 n, .int .i64 a, .int .i64 b] w fun e w' => e = .returned (.bool t) ∧ w = w' := by
  have H := Lib.hid h
  clear h
  by_cases h1 : a ≤ n
  · by_cases h2 : n ≤ b
    · go_enter Tryd.func14, Tryd.ntmps14
      go_wp2
      go_ret
      exact ⟨ret_bool (by rw [← H.out]; simp [h1, h2]), rfl⟩
    · go_enter Tryd.func14, Tryd.ntmps14
      go_wp2
      go_ret
      exact ⟨ret_bool (by rw [← H.out]; simp [h1]; omega), rfl⟩
  · go_enter Tryd.func14, Tryd.ntmps14
    go_wp2
    go_ret
    exact ⟨ret_bool (by rw [← H.out]; simp; omega), rfl⟩

end Go.Proofs.YtolkdbijenbchaaDoor
