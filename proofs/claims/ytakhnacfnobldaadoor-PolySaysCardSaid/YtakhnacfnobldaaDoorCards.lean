/-
  DERIVED. GIVEN WITH THE SEED: THE CARDS: each row of YtakhnacfnobldaaDoorRows.lean that lists a variable, with what it lists TIED to the program's text (the seventh form; the later family's looks); each row that meets fmt, with fmt's text TOLD by the authors' own Lean function (tested against real Go, not proved from fmt's source: count such statements apart). THE CARD IS WHAT COUNTS. Prove the row's statement (the work); the ties are given (YtakhnacfnobldaaDoorTie.lean); close each card by the builder's one call (the guide's Derived/Test/ToyasCard.lean, 'card_holds'). Laid BY PROGRAM, IN A SANDBOX (cutbox-door.mjs). By AI agents, Wed Nov 11 2026. No macro, syntax, notation, axiom, sorry.
-/
import Derived.Test.YtakhnacfnobldaaDoorRows
import GoSem.ClaimSeven
namespace Go.Proofs.YtakhnacfnobldaaDoor
namespace Rows

/-- THE TIED CARD OF 'rankmerelaw1.PolySays'. -/
def polySaysCard : Claim7 := { stood := { row := polySaysRow, standIns := [], harness := (true, "2efe654759fc5b675fb618dd17c1a1e866f375b1fda2f6f8e1200e331042d659"), looks := true }, kinds := [], alts := [], laidByText := true, laidKinds := [.handle], laidTests := true, laidLooks := .later }
def PolySaysCardSaid : Prop := Claim7.holds Tryd.pinned (.plain (OpenSpec.ofChange polySaysSpec)) polySaysCard

/-- THE SECOND FORM's CARD OF 'rankmerelaw1.PolySays'. -/
def polySaysUptoCard : Claim7 := { stood := { row := polySaysUptoRow, standIns := [], harness := (true, "2efe654759fc5b675fb618dd17c1a1e866f375b1fda2f6f8e1200e331042d659"), looks := true }, kinds := [], alts := [], laidByText := true, laidKinds := [.handle], laidTests := true, laidLooks := .later }
def PolySaysUptoCardSaid : Prop := Claim7.holds Tryd.pinned (.plain (OpenSpec.upto polySaysSpec)) polySaysUptoCard
end Rows
end Go.Proofs.YtakhnacfnobldaaDoor
