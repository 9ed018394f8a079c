/- Contracts of package rankmeresame on lists (Turned), and of rankmereref1.in and All. -/
import Derived.Test.YtolkdbijenbchaaOwn
import Derived.Test.YtolkdbijenbchaaSmall
namespace Go.Proofs.Ytolkdbijenbchaa
open Go.ChangeShapes Go.WideShapes Go.ChangeAt Go.RowKit
set_option linter.unusedVariables false

/-- An answer true or false, as P says. -/
def Tells (P : Prop) (e : Ending) : Prop := (P ∧ e = .returned (.bool true)) ∨ (¬ P ∧ e = .returned (.bool false))
theorem tells_yes {P : Prop} {e : Ending} (h : Tells P e) (hp : P) : e = .returned (.bool true) := by rcases h with ⟨_, h⟩ | ⟨h, _⟩ <;> first | exact h | exact absurd hp h

theorem list_same (l m : List Int) (h : l.length = m.length) (h2 : ∀ k, k < l.length → l.getD k 0 = m.getD k 0) : l = m := by
  refine List.ext_getElem h fun k h3 h4 => ?_
  have := h2 k h3
  rwa [List.getD_eq_getElem?_getD, List.getD_eq_getElem?_getD, List.getElem?_eq_getElem h3, List.getElem?_eq_getElem h4] at this



/-- Each number of the list lies from a to b. -/
def AllIn (l : List Int) (a b : Int) : Prop := ∀ k, k < l.length → a ≤ l.getD k 0 ∧ l.getD k 0 ≤ b



end Go.Proofs.Ytolkdbijenbchaa
