/-
  DERIVED. GIVEN WITH THE SEED: THE CARDS: each row of YtmkjfoecofeioaaDoorRows.lean that lists a variable, with what it lists TIED to the program's text (the seventh form; the later family's looks); each row that meets fmt, with fmt's text TOLD by the authors' own Lean function (tested against real Go, not proved from fmt's source: count such statements apart). THE CARD IS WHAT COUNTS. Prove the row's statement (the work); the ties are given (YtmkjfoecofeioaaDoorTie.lean); close each card by the builder's one call (the guide's Derived/Test/ToyasCard.lean, 'card_holds'). Laid BY PROGRAM, IN A SANDBOX (cutbox-door.mjs). By AI agents, Wed Nov 11 2026. No macro, syntax, notation, axiom, sorry.
-/
import Derived.Test.YtmkjfoecofeioaaDoorRows
import GoSem.ClaimSeven
namespace Go.Proofs.YtmkjfoecofeioaaDoor
namespace Rows

/-- THE TIED CARD OF 'rankmerelaw2.MinorsSays'. -/
def minorsSaysCard : Claim7 := { stood := { row := minorsSaysRow, standIns := [], harness := (true, "034e2104ebd25d11607d18fa0e99574414cacb63b3ffcbdd48be34f9247e1f12"), looks := true }, kinds := [], alts := [], laidByText := true, laidKinds := [.handle], laidTests := true, laidLooks := .later }
def MinorsSaysCardSaid : Prop := Claim7.holds Tryd.pinned (.plain (OpenSpec.ofChange minorsSaysSpec)) minorsSaysCard

/-- THE TIED CARD OF 'rankmerelaw2.MinorsLaplace'. -/
def minorsLaplaceCard : Claim7 := { stood := { row := minorsLaplaceRow, standIns := [], harness := (true, "034e2104ebd25d11607d18fa0e99574414cacb63b3ffcbdd48be34f9247e1f12"), looks := true }, kinds := [], alts := [], laidByText := true, laidKinds := [.handle], laidTests := true, laidLooks := .later }
def MinorsLaplaceCardSaid : Prop := Claim7.holds Tryd.pinned (.plain (OpenSpec.ofChange minorsLaplaceSpec)) minorsLaplaceCard

/-- THE SECOND FORM's CARD OF 'rankmerelaw2.MinorsSays'. -/
def minorsSaysUptoCard : Claim7 := { stood := { row := minorsSaysUptoRow, standIns := [], harness := (true, "034e2104ebd25d11607d18fa0e99574414cacb63b3ffcbdd48be34f9247e1f12"), looks := true }, kinds := [], alts := [], laidByText := true, laidKinds := [.handle], laidTests := true, laidLooks := .later }
def MinorsSaysUptoCardSaid : Prop := Claim7.holds Tryd.pinned (.plain (OpenSpec.upto minorsSaysSpec)) minorsSaysUptoCard

/-- THE SECOND FORM's CARD OF 'rankmerelaw2.MinorsLaplace'. -/
def minorsLaplaceUptoCard : Claim7 := { stood := { row := minorsLaplaceUptoRow, standIns := [], harness := (true, "034e2104ebd25d11607d18fa0e99574414cacb63b3ffcbdd48be34f9247e1f12"), looks := true }, kinds := [], alts := [], laidByText := true, laidKinds := [.handle], laidTests := true, laidLooks := .later }
def MinorsLaplaceUptoCardSaid : Prop := Claim7.holds Tryd.pinned (.plain (OpenSpec.upto minorsLaplaceSpec)) minorsLaplaceUptoCard
end Rows
end Go.Proofs.YtmkjfoecofeioaaDoor
