/- The laws MatTurn, MatPow and MatRing. -/
import Derived.Test.YtbgmbjicidfhlaaDoorMtFact
namespace Go.Proofs.YtbgmbjicidfhlaaDoor
open Go.ChangeShapes Go.WideShapes Go.ChangeAt Go.RowKit
set_option linter.unusedVariables false

theorem same_mat {A B : Option Addr} {r c : Nat} {f g : Nat → Nat → Fp.F} {a b : List (List Int)} (sa : Sh r c f a) (sb : Sh r c g b) (h : Mx.Eqm r c f g) (d e : Nat) (w : World) (ha : LiesM w A a) (hb : LiesM w B b) :
    Calls Tryd.prog 9 #[.slice A r d, .slice B r e] w fun e w' => e = .returned (.bool true) ∧ Kp w w' :=
  rows_eq A B a b r r d e w ha hb sa.len sb.len sa.modest sb.modest (by rw [sa.eq, sb.eq, h.mat])


theorem law2In_any (n a b : Int) (w : World) (t : Bool) (h : (decide (a ≤ n) && decide (n ≤ b)) = t) :
    Calls Tryd.prog 14 #[.int .i64 n, .int .i64 a, .int .i64 b] w fun e w' => e = .returned (.bool t) ∧ w = w' := by
  have H := Lib.hid h
  clear h
  by_cases h1 : a ≤ n
  · by_cases h2 : n ≤ b
    · go_enter Tryd.func14, Tryd.ntmps14
      go_wp2
      go_ret
      exact ⟨ret_bool (by rw [← H.out]; simp [h1, h2]), rfl⟩
    · go_enter Tryd.func14, Tryd.ntmps14
      go_wp2
      go_ret
      exact ⟨ret_bool (by rw [← H.out]; simp [h1]; omega), rfl⟩
  · go_enter Tryd.func14, Tryd.ntmps14
    go_wp2
    go_ret
    exact ⟨ret_bool (by rw [← H.out]; simp; omega), rfl⟩


end Go.Proofs.YtbgmbjicidfhlaaDoor
