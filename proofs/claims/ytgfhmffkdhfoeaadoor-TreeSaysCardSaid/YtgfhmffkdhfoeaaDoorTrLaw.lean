/- The law TreeSays. -/
import Derived.Test.YtgfhmffkdhfoeaaDoorTrSays
namespace Go.Proofs.YtgfhmffkdhfoeaaDoor
open Go.ChangeShapes Go.WideShapes Go.ChangeAt Go.RowKit
set_option linter.unusedVariables false

theorem walk_TreeSays (n : Int) (A : Option Addr) (m : List (List Int)) (c : Nat) (w : World) (hl : Told.Laid w) (ha : LiesM w A m) :
    Calls Tryd.prog 3 #[.int .i64 n, .slice A m.length c] w fun e w' => e = .returned (.bool true) ∧ Kp w w' := by
  rcases gr_or n m with ⟨k, l, rfl, s⟩ | h
  · exact trsays_ok k l m s A m.length c w hl ha rfl
  · exact trsays_bad n A m m.length c _ w hl ha rfl rfl h

end Go.Proofs.YtgfhmffkdhfoeaaDoor
