/- Good matrices, and what gauss says of whatever comes in: for seats without package mat's products. -/
import Derived.Test.YtfjajcfcbjmbpaaGaC3
import Derived.Test.YtfjajcfcbjmbpaaShM
namespace Go.Proofs.Ytfjajcfcbjmbpaa
open Go.ChangeShapes Go.WideShapes Go.ChangeAt Go.RowKit
set_option linter.unusedVariables false

theorem Rank_or (A : Option Addr) (m : List (List Int)) (n d : Nat) (hn : m.length = n) :
    (∃ r c f, Sh r c f m) ∨ ∀ (w : World), LiesM w A m → Calls Try.prog 16 #[.slice A n d] w fun e w' => ∃ z : Nat, e = .returned (.tuple #[.int .i64 0, .iface 50 (.int .i64 (z : Int))]) ∧ Kp w w' := by
  rcases sh_or m with ⟨_, h⟩ | h
  · exact .inl h
  · exact .inr fun w ha => ((Rank_bad A m n d w ha hn h).mono fun e w' h' => ⟨Mx.mcode 5 0 9972 m, by rw [h'.1, errOf_ne _ h], h'.2⟩)
theorem Rank_sh {A : Option Addr} {m : List (List Int)} {r c : Nat} {f : Nat → Nat → Fp.F} (s : Sh r c f m) (d : Nat) (w : World) (ha : LiesM w A m) :
    Calls Try.prog 16 #[.slice A r d] w fun e w' => GotRank r c f w e w' := by
  rw [s.eq] at ha
  exact Rank_ok A f r c d w ha s.r0 s.r5 s.c0 s.c5
theorem Steps_or (A : Option Addr) (m : List (List Int)) (n d : Nat) (hn : m.length = n) :
    (∃ r c f, Sh r c f m) ∨ ∀ (w : World), LiesM w A m → Calls Try.prog 30 #[.slice A n d] w fun e w' => ∃ z : Nat, e = .returned (.tuple #[.slice none 0 0, .slice none 0 0, .iface 50 (.int .i64 (z : Int))]) ∧ Kp w w' := by
  rcases sh_or m with ⟨_, h⟩ | h
  · exact .inl h
  · exact .inr fun w ha => ((Steps_bad A m n d w ha hn h).mono fun e w' h' => ⟨Mx.mcode 5 0 9972 m, by rw [h'.1, errOf_ne _ h], h'.2⟩)
theorem Steps_sh {A : Option Addr} {m : List (List Int)} {r c : Nat} {f : Nat → Nat → Fp.F} (s : Sh r c f m) (d : Nat) (w : World) (ha : LiesM w A m) :
    Calls Try.prog 30 #[.slice A r d] w fun e w' => GotSteps r c f w e w' := by
  rw [s.eq] at ha
  exact Steps_ok A f r c d w ha s.r0 s.r5 s.c0 s.c5
end Go.Proofs.Ytfjajcfcbjmbpaa
