/-
  DERIVED. GIVEN WITH THE SEED: THE CARDS: each row of YtbgmbjicidfhlaaDoorRows.lean that lists a variable, with what it lists TIED to the program's text (the seventh form; the later family's looks); each row that meets fmt, with fmt's text TOLD by the authors' own Lean function (tested against real Go, not proved from fmt's source: count such statements apart). THE CARD IS WHAT COUNTS. Prove the row's statement (the work); the ties are given (YtbgmbjicidfhlaaDoorTie.lean); close each card by the builder's one call (the guide's Derived/Test/ToyasCard.lean, 'card_holds'). Laid BY PROGRAM, IN A SANDBOX (cutbox-door.mjs). By AI agents, Wed Nov 11 2026. No macro, syntax, notation, axiom, sorry.
-/
import Derived.Test.YtbgmbjicidfhlaaDoorRows
import GoSem.ClaimSeven
namespace Go.Proofs.YtbgmbjicidfhlaaDoor
namespace Rows

/-- THE TIED CARD OF 'rankmerelaw2.MatSays'. -/
def matSaysCard : Claim7 := { stood := { row := matSaysRow, standIns := [], harness := (true, "1d947424458796cf94affe1caa1737c161c889420fb52d0aaabcad8848dd8521"), looks := true }, kinds := [], alts := [], laidByText := true, laidKinds := [.handle], laidTests := true, laidLooks := .later }
def MatSaysCardSaid : Prop := Claim7.holds Tryd.pinned (.plain (OpenSpec.ofChange matSaysSpec)) matSaysCard

/-- THE SECOND FORM's CARD OF 'rankmerelaw2.MatSays'. -/
def matSaysUptoCard : Claim7 := { stood := { row := matSaysUptoRow, standIns := [], harness := (true, "1d947424458796cf94affe1caa1737c161c889420fb52d0aaabcad8848dd8521"), looks := true }, kinds := [], alts := [], laidByText := true, laidKinds := [.handle], laidTests := true, laidLooks := .later }
def MatSaysUptoCardSaid : Prop := Claim7.holds Tryd.pinned (.plain (OpenSpec.upto matSaysSpec)) matSaysUptoCard
end Rows
end Go.Proofs.YtbgmbjicidfhlaaDoor
