/-
  DERIVED. GIVEN WITH THE SEED: THE CARDS: each row of YtfjajcfcbjmbpaaDoorRows.lean that lists a variable, with what it lists TIED to the program's text (the seventh form; the later family's looks); each row that meets fmt, with fmt's text TOLD by the authors' own Lean function (tested against real Go, not proved from fmt's source: count such statements apart). THE CARD IS WHAT COUNTS. Prove the row's statement (the work); the ties are given (YtfjajcfcbjmbpaaDoorTie.lean); close each card by the builder's one call (the guide's Derived/Test/ToyasCard.lean, 'card_holds'). Laid BY PROGRAM, IN A SANDBOX (cutbox-door.mjs). By AI agents, Wed Nov 11 2026. No macro, syntax, notation, axiom, sorry.
-/
import Derived.Test.YtfjajcfcbjmbpaaDoorRows
import GoSem.ClaimSeven
namespace Go.Proofs.YtfjajcfcbjmbpaaDoor
namespace Rows

/-- THE TIED CARD OF 'rankmerelaw2.DetSays'. -/
def detSaysCard : Claim7 := { stood := { row := detSaysRow, standIns := [], harness := (true, "f83a28a17d6f10b95d53b1e171438a485e9d3c1494331a32df251e7961ea81f8"), looks := true }, kinds := [], alts := [], laidByText := true, laidKinds := [.handle], laidTests := true, laidLooks := .later }
def DetSaysCardSaid : Prop := Claim7.holds Tryd.pinned (.plain (OpenSpec.ofChange detSaysSpec)) detSaysCard

/-- THE SECOND FORM's CARD OF 'rankmerelaw2.DetSays'. -/
def detSaysUptoCard : Claim7 := { stood := { row := detSaysUptoRow, standIns := [], harness := (true, "f83a28a17d6f10b95d53b1e171438a485e9d3c1494331a32df251e7961ea81f8"), looks := true }, kinds := [], alts := [], laidByText := true, laidKinds := [.handle], laidTests := true, laidLooks := .later }
def DetSaysUptoCardSaid : Prop := Claim7.holds Tryd.pinned (.plain (OpenSpec.upto detSaysSpec)) detSaysUptoCard
end Rows
end Go.Proofs.YtfjajcfcbjmbpaaDoor
