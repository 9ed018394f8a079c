/-
  DERIVED. GIVEN WITH THE SEED: THE CARDS: each row of YtmgkcdoephakhaaDoorRows.lean that lists a variable, with what it lists TIED to the program's text (the seventh form; the later family's looks); each row that meets fmt, with fmt's text TOLD by the authors' own Lean function (tested against real Go, not proved from fmt's source: count such statements apart). THE CARD IS WHAT COUNTS. Prove the row's statement (the work); the ties are given (YtmgkcdoephakhaaDoorTie.lean); close each card by the builder's one call (the guide's Derived/Test/ToyasCard.lean, 'card_holds'). Laid BY PROGRAM, IN A SANDBOX (cutbox-door.mjs). By AI agents, Wed Nov 11 2026. No macro, syntax, notation, axiom, sorry.
-/
import Derived.Test.YtmgkcdoephakhaaDoorRows
import GoSem.ClaimSeven
namespace Go.Proofs.YtmgkcdoephakhaaDoor
namespace Rows

/-- THE TIED CARD OF 'rankmerelaw2.GaussSays'. -/
def gaussSaysCard : Claim7 := { stood := { row := gaussSaysRow, standIns := [], harness := (true, "532bc0c861c52cc663e4d3b11a32ae81de35645f6de1ca7088f4a1ab49a68688"), looks := true }, kinds := [], alts := [], laidByText := true, laidKinds := [.handle], laidTests := true, laidLooks := .later }
def GaussSaysCardSaid : Prop := Claim7.holds Tryd.pinned (.plain (OpenSpec.ofChange gaussSaysSpec)) gaussSaysCard

/-- THE SECOND FORM's CARD OF 'rankmerelaw2.GaussSays'. -/
def gaussSaysUptoCard : Claim7 := { stood := { row := gaussSaysUptoRow, standIns := [], harness := (true, "532bc0c861c52cc663e4d3b11a32ae81de35645f6de1ca7088f4a1ab49a68688"), looks := true }, kinds := [], alts := [], laidByText := true, laidKinds := [.handle], laidTests := true, laidLooks := .later }
def GaussSaysUptoCardSaid : Prop := Claim7.holds Tryd.pinned (.plain (OpenSpec.upto gaussSaysSpec)) gaussSaysUptoCard
end Rows
end Go.Proofs.YtmgkcdoephakhaaDoor
