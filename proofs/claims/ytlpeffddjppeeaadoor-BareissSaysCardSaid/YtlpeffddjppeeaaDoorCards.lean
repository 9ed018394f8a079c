/-
  DERIVED. GIVEN WITH THE SEED: THE CARDS: each row of YtlpeffddjppeeaaDoorRows.lean that lists a variable, with what it lists TIED to the program's text (the seventh form; the later family's looks); each row that meets fmt, with fmt's text TOLD by the authors' own Lean function (tested against real Go, not proved from fmt's source: count such statements apart). THE CARD IS WHAT COUNTS. Prove the row's statement (the work); the ties are given (YtlpeffddjppeeaaDoorTie.lean); close each card by the builder's one call (the guide's Derived/Test/ToyasCard.lean, 'card_holds'). Laid BY PROGRAM, IN A SANDBOX (cutbox-door.mjs). By AI agents, Wed Nov 11 2026. No macro, syntax, notation, axiom, sorry.
-/
import Derived.Test.YtlpeffddjppeeaaDoorRows
import GoSem.ClaimSeven
namespace Go.Proofs.YtlpeffddjppeeaaDoor
namespace Rows

/-- THE TIED CARD OF 'rankmerelaw2.BareissSays'. -/
def bareissSaysCard : Claim7 := { stood := { row := bareissSaysRow, standIns := [], harness := (true, "7e4fc1c98e5fb12a4f47e7ca816d366867c5ef9f824d6e550a9b5f69cc865f04"), looks := true }, kinds := [], alts := [], laidByText := true, laidKinds := [.handle], laidTests := true, laidLooks := .later }
def BareissSaysCardSaid : Prop := Claim7.holds Tryd.pinned (.plain (OpenSpec.ofChange bareissSaysSpec)) bareissSaysCard

/-- THE SECOND FORM's CARD OF 'rankmerelaw2.BareissSays'. -/
def bareissSaysUptoCard : Claim7 := { stood := { row := bareissSaysUptoRow, standIns := [], harness := (true, "7e4fc1c98e5fb12a4f47e7ca816d366867c5ef9f824d6e550a9b5f69cc865f04"), looks := true }, kinds := [], alts := [], laidByText := true, laidKinds := [.handle], laidTests := true, laidLooks := .later }
def BareissSaysUptoCardSaid : Prop := Claim7.holds Tryd.pinned (.plain (OpenSpec.upto bareissSaysSpec)) bareissSaysUptoCard
end Rows
end Go.Proofs.YtlpeffddjppeeaaDoor
