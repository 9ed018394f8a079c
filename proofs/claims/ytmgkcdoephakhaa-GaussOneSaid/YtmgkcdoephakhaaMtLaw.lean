/- The laws MatTurn, MatPow and MatRing. -/
import Derived.Test.YtmgkcdoephakhaaMtFact
namespace Go.Proofs.Ytmgkcdoephakhaa
open Go.ChangeShapes Go.WideShapes Go.ChangeAt Go.RowKit
set_option linter.unusedVariables false

theorem same_mat {A B : Option Addr} {r c : Nat} {f g : Nat → Nat → Fp.F} {a b : List (List Int)} (sa : Sh r c f a) (sb : Sh r c g b) (h : Mx.Eqm r c f g) (d e : Nat) (w : World) (ha : LiesM w A a) (hb : LiesM w B b) :
    Calls Try.prog 12 #[.slice A r d, .slice B r e] w fun e w' => e = .returned (.bool true) ∧ Kp w w' :=
  rows_eq A B a b r r d e w ha hb sa.len sb.len sa.modest sb.modest (by rw [sa.eq, sb.eq, h.mat])




end Go.Proofs.Ytmgkcdoephakhaa
