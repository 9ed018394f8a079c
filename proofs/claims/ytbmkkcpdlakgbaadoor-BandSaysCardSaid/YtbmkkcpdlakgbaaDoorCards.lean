/-
  DERIVED. GIVEN WITH THE SEED: THE CARDS: each row of YtbmkkcpdlakgbaaDoorRows.lean that lists a variable, with what it lists TIED to the program's text (the seventh form; the later family's looks); each row that meets fmt, with fmt's text TOLD by the authors' own Lean function (tested against real Go, not proved from fmt's source: count such statements apart). THE CARD IS WHAT COUNTS. Prove the row's statement (the work); the ties are given (YtbmkkcpdlakgbaaDoorTie.lean); close each card by the builder's one call (the guide's Derived/Test/ToyasCard.lean, 'card_holds'). Laid BY PROGRAM, IN A SANDBOX (cutbox-door.mjs). By AI agents, Wed Nov 11 2026. No macro, syntax, notation, axiom, sorry.
-/
import Derived.Test.YtbmkkcpdlakgbaaDoorRows
import GoSem.ClaimSeven
namespace Go.Proofs.YtbmkkcpdlakgbaaDoor
namespace Rows

/-- THE TIED CARD OF 'rankmerelaw3.BandSays'. -/
def bandSaysCard : Claim7 := { stood := { row := bandSaysRow, standIns := [], harness := (true, "d40723e0656672b1cba116f07039dde3e1832e21cc55db50e30769671be87cc2"), looks := true }, kinds := [], alts := [], laidByText := true, laidKinds := [.handle], laidTests := true, laidLooks := .later }
def BandSaysCardSaid : Prop := Claim7.holds Tryd.pinned (.plain (OpenSpec.ofChange bandSaysSpec)) bandSaysCard

/-- THE SECOND FORM's CARD OF 'rankmerelaw3.BandSays'. -/
def bandSaysUptoCard : Claim7 := { stood := { row := bandSaysUptoRow, standIns := [], harness := (true, "d40723e0656672b1cba116f07039dde3e1832e21cc55db50e30769671be87cc2"), looks := true }, kinds := [], alts := [], laidByText := true, laidKinds := [.handle], laidTests := true, laidLooks := .later }
def BandSaysUptoCardSaid : Prop := Claim7.holds Tryd.pinned (.plain (OpenSpec.upto bandSaysSpec)) bandSaysUptoCard
end Rows
end Go.Proofs.YtbmkkcpdlakgbaaDoor
