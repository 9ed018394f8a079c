/-
  DERIVED. GIVEN WITH THE SEED: THE CARDS: each row of YtnjhdedhobgplaaDoorRows.lean that lists a variable, with what it lists TIED to the program's text (the seventh form; the later family's looks); each row that meets fmt, with fmt's text TOLD by the authors' own Lean function (tested against real Go, not proved from fmt's source: count such statements apart). THE CARD IS WHAT COUNTS. Prove the row's statement (the work); the ties are given (YtnjhdedhobgplaaDoorTie.lean); close each card by the builder's one call (the guide's Derived/Test/ToyasCard.lean, 'card_holds'). Laid BY PROGRAM, IN A SANDBOX (cutbox-door.mjs). By AI agents, Wed Nov 11 2026. No macro, syntax, notation, axiom, sorry.
-/
import Derived.Test.YtnjhdedhobgplaaDoorRows
import GoSem.ClaimSeven
namespace Go.Proofs.YtnjhdedhobgplaaDoor
namespace Rows

/-- THE TIED CARD OF 'rankmerelaw3.ResultSays'. -/
def resultSaysCard : Claim7 := { stood := { row := resultSaysRow, standIns := [], harness := (true, "9a2b12d5c80efb5a6fd4f552daa5336690c623ffc8d79925120f069b2fad6401"), looks := true }, kinds := [], alts := [], laidByText := true, laidKinds := [.handle], laidTests := true, laidLooks := .later }
def ResultSaysCardSaid : Prop := Claim7.holds Tryd.pinned (.plain (OpenSpec.ofChange resultSaysSpec)) resultSaysCard

/-- THE SECOND FORM's CARD OF 'rankmerelaw3.ResultSays'. -/
def resultSaysUptoCard : Claim7 := { stood := { row := resultSaysUptoRow, standIns := [], harness := (true, "9a2b12d5c80efb5a6fd4f552daa5336690c623ffc8d79925120f069b2fad6401"), looks := true }, kinds := [], alts := [], laidByText := true, laidKinds := [.handle], laidTests := true, laidLooks := .later }
def ResultSaysUptoCardSaid : Prop := Claim7.holds Tryd.pinned (.plain (OpenSpec.upto resultSaysSpec)) resultSaysUptoCard
end Rows
end Go.Proofs.YtnjhdedhobgplaaDoor
