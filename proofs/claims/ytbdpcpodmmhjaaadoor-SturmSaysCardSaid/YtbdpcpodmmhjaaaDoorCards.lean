/-
  DERIVED. GIVEN WITH THE SEED: THE CARDS: each row of YtbdpcpodmmhjaaaDoorRows.lean that lists a variable, with what it lists TIED to the program's text (the seventh form; the later family's looks); each row that meets fmt, with fmt's text TOLD by the authors' own Lean function (tested against real Go, not proved from fmt's source: count such statements apart). THE CARD IS WHAT COUNTS. Prove the row's statement (the work); the ties are given (YtbdpcpodmmhjaaaDoorTie.lean); close each card by the builder's one call (the guide's Derived/Test/ToyasCard.lean, 'card_holds'). Laid BY PROGRAM, IN A SANDBOX (cutbox-door.mjs). By AI agents, Wed Nov 11 2026. No macro, syntax, notation, axiom, sorry.
-/
import Derived.Test.YtbdpcpodmmhjaaaDoorRows
import GoSem.ClaimSeven
namespace Go.Proofs.YtbdpcpodmmhjaaaDoor
namespace Rows

/-- THE TIED CARD OF 'rankmerelaw3.SturmSays'. -/
def sturmSaysCard : Claim7 := { stood := { row := sturmSaysRow, standIns := [], harness := (true, "64441e77d74ad2291257415b2ee0a76e6fbb43aabe643e88e15b4922f993ed8d"), looks := true }, kinds := [], alts := [], laidByText := true, laidKinds := [.handle], laidTests := true, laidLooks := .later }
def SturmSaysCardSaid : Prop := Claim7.holds Tryd.pinned (.plain (OpenSpec.ofChange sturmSaysSpec)) sturmSaysCard

/-- THE SECOND FORM's CARD OF 'rankmerelaw3.SturmSays'. -/
def sturmSaysUptoCard : Claim7 := { stood := { row := sturmSaysUptoRow, standIns := [], harness := (true, "64441e77d74ad2291257415b2ee0a76e6fbb43aabe643e88e15b4922f993ed8d"), looks := true }, kinds := [], alts := [], laidByText := true, laidKinds := [.handle], laidTests := true, laidLooks := .later }
def SturmSaysUptoCardSaid : Prop := Claim7.holds Tryd.pinned (.plain (OpenSpec.upto sturmSaysSpec)) sturmSaysUptoCard
end Rows
end Go.Proofs.YtbdpcpodmmhjaaaDoor
