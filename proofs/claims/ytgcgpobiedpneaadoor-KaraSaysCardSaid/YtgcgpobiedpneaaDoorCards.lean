/-
  DERIVED. GIVEN WITH THE SEED: THE CARDS: each row of YtgcgpobiedpneaaDoorRows.lean that lists a variable, with what it lists TIED to the program's text (the seventh form; the later family's looks); each row that meets fmt, with fmt's text TOLD by the authors' own Lean function (tested against real Go, not proved from fmt's source: count such statements apart). THE CARD IS WHAT COUNTS. Prove the row's statement (the work); the ties are given (YtgcgpobiedpneaaDoorTie.lean); close each card by the builder's one call (the guide's Derived/Test/ToyasCard.lean, 'card_holds'). Laid BY PROGRAM, IN A SANDBOX (cutbox-door.mjs). By AI agents, Wed Nov 11 2026. No macro, syntax, notation, axiom, sorry.
-/
import Derived.Test.YtgcgpobiedpneaaDoorRows
import GoSem.ClaimSeven
namespace Go.Proofs.YtgcgpobiedpneaaDoor
namespace Rows

/-- THE TIED CARD OF 'rankmerelaw1.KaraSays'. -/
def karaSaysCard : Claim7 := { stood := { row := karaSaysRow, standIns := [], harness := (true, "a4873d04162ead5fe628288034d43a00c55b15c376df32440bb483ed5494af5f"), looks := true }, kinds := [], alts := [], laidByText := true, laidKinds := [.handle], laidTests := true, laidLooks := .later }
def KaraSaysCardSaid : Prop := Claim7.holds Tryd.pinned (.plain (OpenSpec.ofChange karaSaysSpec)) karaSaysCard

/-- THE SECOND FORM's CARD OF 'rankmerelaw1.KaraSays'. -/
def karaSaysUptoCard : Claim7 := { stood := { row := karaSaysUptoRow, standIns := [], harness := (true, "a4873d04162ead5fe628288034d43a00c55b15c376df32440bb483ed5494af5f"), looks := true }, kinds := [], alts := [], laidByText := true, laidKinds := [.handle], laidTests := true, laidLooks := .later }
def KaraSaysUptoCardSaid : Prop := Claim7.holds Tryd.pinned (.plain (OpenSpec.upto karaSaysSpec)) karaSaysUptoCard
end Rows
end Go.Proofs.YtgcgpobiedpneaaDoor
