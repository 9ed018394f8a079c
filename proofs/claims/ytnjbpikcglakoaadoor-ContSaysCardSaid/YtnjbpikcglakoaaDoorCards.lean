/-
  DERIVED. GIVEN WITH THE SEED: THE CARDS: each row of YtnjbpikcglakoaaDoorRows.lean that lists a variable, with what it lists TIED to the program's text (the seventh form; the later family's looks); each row that meets fmt, with fmt's text TOLD by the authors' own Lean function (tested against real Go, not proved from fmt's source: count such statements apart). THE CARD IS WHAT COUNTS. Prove the row's statement (the work); the ties are given (YtnjbpikcglakoaaDoorTie.lean); close each card by the builder's one call (the guide's Derived/Test/ToyasCard.lean, 'card_holds'). Laid BY PROGRAM, IN A SANDBOX (cutbox-door.mjs). By AI agents, Wed Nov 11 2026. No macro, syntax, notation, axiom, sorry.
-/
import Derived.Test.YtnjbpikcglakoaaDoorRows
import GoSem.ClaimSeven
namespace Go.Proofs.YtnjbpikcglakoaaDoor
namespace Rows

/-- THE TIED CARD OF 'rankmerelaw1.ContSays'. -/
def contSaysCard : Claim7 := { stood := { row := contSaysRow, standIns := [], harness := (true, "17549524c8932abe40c6f96d286800e78ee8709195ba4e71e78f57363441d8b6"), looks := true }, kinds := [], alts := [], laidByText := true, laidKinds := [.handle], laidTests := true, laidLooks := .later }
def ContSaysCardSaid : Prop := Claim7.holds Tryd.pinned (.plain (OpenSpec.ofChange contSaysSpec)) contSaysCard

/-- THE SECOND FORM's CARD OF 'rankmerelaw1.ContSays'. -/
def contSaysUptoCard : Claim7 := { stood := { row := contSaysUptoRow, standIns := [], harness := (true, "17549524c8932abe40c6f96d286800e78ee8709195ba4e71e78f57363441d8b6"), looks := true }, kinds := [], alts := [], laidByText := true, laidKinds := [.handle], laidTests := true, laidLooks := .later }
def ContSaysUptoCardSaid : Prop := Claim7.holds Tryd.pinned (.plain (OpenSpec.upto contSaysSpec)) contSaysUptoCard
end Rows
end Go.Proofs.YtnjbpikcglakoaaDoor
