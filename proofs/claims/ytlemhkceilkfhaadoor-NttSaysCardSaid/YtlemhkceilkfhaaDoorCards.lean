/-
  DERIVED. GIVEN WITH THE SEED: THE CARDS: each row of YtlemhkceilkfhaaDoorRows.lean that lists a variable, with what it lists TIED to the program's text (the seventh form; the later family's looks); each row that meets fmt, with fmt's text TOLD by the authors' own Lean function (tested against real Go, not proved from fmt's source: count such statements apart). THE CARD IS WHAT COUNTS. Prove the row's statement (the work); the ties are given (YtlemhkceilkfhaaDoorTie.lean); close each card by the builder's one call (the guide's Derived/Test/ToyasCard.lean, 'card_holds'). Laid BY PROGRAM, IN A SANDBOX (cutbox-door.mjs). By AI agents, Wed Nov 11 2026. No macro, syntax, notation, axiom, sorry.
-/
import Derived.Test.YtlemhkceilkfhaaDoorRows
import GoSem.ClaimSeven
namespace Go.Proofs.YtlemhkceilkfhaaDoor
namespace Rows

/-- THE TIED CARD OF 'rankmerelaw1.NttSays'. -/
def nttSaysCard : Claim7 := { stood := { row := nttSaysRow, standIns := [], harness := (true, "6ad9ec1023d4bca8bddb334c90b2a9235c99d6f1d01e1d1f988dbc720b10797f"), looks := true }, kinds := [], alts := [], laidByText := true, laidKinds := [.handle], laidTests := true, laidLooks := .later }
def NttSaysCardSaid : Prop := Claim7.holds Tryd.pinned (.plain (OpenSpec.ofChange nttSaysSpec)) nttSaysCard

/-- THE SECOND FORM's CARD OF 'rankmerelaw1.NttSays'. -/
def nttSaysUptoCard : Claim7 := { stood := { row := nttSaysUptoRow, standIns := [], harness := (true, "6ad9ec1023d4bca8bddb334c90b2a9235c99d6f1d01e1d1f988dbc720b10797f"), looks := true }, kinds := [], alts := [], laidByText := true, laidKinds := [.handle], laidTests := true, laidLooks := .later }
def NttSaysUptoCardSaid : Prop := Claim7.holds Tryd.pinned (.plain (OpenSpec.upto nttSaysSpec)) nttSaysUptoCard
end Rows
end Go.Proofs.YtlemhkceilkfhaaDoor
