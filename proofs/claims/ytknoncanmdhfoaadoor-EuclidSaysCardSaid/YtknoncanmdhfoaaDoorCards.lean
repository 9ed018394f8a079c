/-
  DERIVED. GIVEN WITH THE SEED: THE CARDS: each row of YtknoncanmdhfoaaDoorRows.lean that lists a variable, with what it lists TIED to the program's text (the seventh form; the later family's looks); each row that meets fmt, with fmt's text TOLD by the authors' own Lean function (tested against real Go, not proved from fmt's source: count such statements apart). THE CARD IS WHAT COUNTS. Prove the row's statement (the work); the ties are given (YtknoncanmdhfoaaDoorTie.lean); close each card by the builder's one call (the guide's Derived/Test/ToyasCard.lean, 'card_holds'). Laid BY PROGRAM, IN A SANDBOX (cutbox-door.mjs). By AI agents, Wed Nov 11 2026. No macro, syntax, notation, axiom, sorry.
-/
import Derived.Test.YtknoncanmdhfoaaDoorRows
import GoSem.ClaimSeven
namespace Go.Proofs.YtknoncanmdhfoaaDoor
namespace Rows

/-- THE TIED CARD OF 'rankmerelaw1.EuclidSays'. -/
def euclidSaysCard : Claim7 := { stood := { row := euclidSaysRow, standIns := [], harness := (true, "6ee51b2d264e464d2acdd2c96f5708757ffc97996e282f7b26f7579b51994f1d"), looks := true }, kinds := [], alts := [], laidByText := true, laidKinds := [.handle], laidTests := true, laidLooks := .later }
def EuclidSaysCardSaid : Prop := Claim7.holds Tryd.pinned (.plain (OpenSpec.ofChange euclidSaysSpec)) euclidSaysCard

/-- THE SECOND FORM's CARD OF 'rankmerelaw1.EuclidSays'. -/
def euclidSaysUptoCard : Claim7 := { stood := { row := euclidSaysUptoRow, standIns := [], harness := (true, "6ee51b2d264e464d2acdd2c96f5708757ffc97996e282f7b26f7579b51994f1d"), looks := true }, kinds := [], alts := [], laidByText := true, laidKinds := [.handle], laidTests := true, laidLooks := .later }
def EuclidSaysUptoCardSaid : Prop := Claim7.holds Tryd.pinned (.plain (OpenSpec.upto euclidSaysSpec)) euclidSaysUptoCard
end Rows
end Go.Proofs.YtknoncanmdhfoaaDoor
