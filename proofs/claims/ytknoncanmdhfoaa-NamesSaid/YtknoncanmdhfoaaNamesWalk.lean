/- The names of the errors of package api, one by one. -/
import Derived.Test.YtknoncanmdhfoaaRows
import Derived.WalkKit
import Derived.ProofKit
import Derived.OpenShut
import Derived.Handy
namespace Go.Proofs.Ytknoncanmdhfoaa.names
open Go.ChangeShapes Go.WideShapes Go.ChangeAt Go.RowKit

theorem err0 (w : World) : Calls Try.prog 7 #[.int .i64 0] w fun e w' => e = .returned (.string ⟨#[79, 75]⟩) ∧ w = w' := by
  go_enter Try.func7, Try.ntmps7
  go_wp2
  go_ret
  exact ⟨rfl, rfl⟩

theorem err1 (w : World) : Calls Try.prog 7 #[.int .i64 1] w fun e w' => e = .returned (.string ⟨#[69, 114, 114, 82, 97, 110, 103, 101]⟩) ∧ w = w' := by
  go_enter Try.func7, Try.ntmps7
  go_wp2
  go_ret
  exact ⟨rfl, rfl⟩

theorem err2 (w : World) : Calls Try.prog 7 #[.int .i64 2] w fun e w' => e = .returned (.string ⟨#[69, 114, 114, 83, 121, 110, 116, 97, 120]⟩) ∧ w = w' := by
  go_enter Try.func7, Try.ntmps7
  go_wp2
  go_ret
  exact ⟨rfl, rfl⟩

theorem err3 (w : World) : Calls Try.prog 7 #[.int .i64 3] w fun e w' => e = .returned (.string ⟨#[69, 114, 114, 83, 104, 97, 112, 101]⟩) ∧ w = w' := by
  go_enter Try.func7, Try.ntmps7
  go_wp2
  go_ret
  exact ⟨rfl, rfl⟩

theorem err4 (w : World) : Calls Try.prog 7 #[.int .i64 4] w fun e w' => e = .returned (.string ⟨#[69, 114, 114, 70, 117, 108, 108]⟩) ∧ w = w' := by
  go_enter Try.func7, Try.ntmps7
  go_wp2
  go_ret
  exact ⟨rfl, rfl⟩

theorem err5 (w : World) : Calls Try.prog 7 #[.int .i64 5] w fun e w' => e = .returned (.string ⟨#[69, 114, 114, 78, 111, 110, 101]⟩) ∧ w = w' := by
  go_enter Try.func7, Try.ntmps7
  go_wp2
  go_ret
  exact ⟨rfl, rfl⟩

theorem err6 (w : World) : Calls Try.prog 7 #[.int .i64 6] w fun e w' => e = .returned (.string ⟨#[69, 114, 114, 67, 108, 97, 115, 104]⟩) ∧ w = w' := by
  go_enter Try.func7, Try.ntmps7
  go_wp2
  go_ret
  exact ⟨rfl, rfl⟩

theorem err7 (w : World) : Calls Try.prog 7 #[.int .i64 7] w fun e w' => e = .returned (.string ⟨#[69, 114, 114, 83, 116, 97, 116, 101]⟩) ∧ w = w' := by
  go_enter Try.func7, Try.ntmps7
  go_wp2
  go_ret
  exact ⟨rfl, rfl⟩

end Go.Proofs.Ytknoncanmdhfoaa.names
