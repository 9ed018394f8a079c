/-
  DERIVED. GIVEN WITH THE SEED: THE CARDS: each row of YtapcnlbcookldaaDoorRows.lean that lists a variable, with what it lists TIED to the program's text (the seventh form; the later family's looks); each row that meets fmt, with fmt's text TOLD by the authors' own Lean function (tested against real Go, not proved from fmt's source: count such statements apart). THE CARD IS WHAT COUNTS. Prove the row's statement (the work); the ties are given (YtapcnlbcookldaaDoorTie.lean); close each card by the builder's one call (the guide's Derived/Test/ToyasCard.lean, 'card_holds'). Laid BY PROGRAM, IN A SANDBOX (cutbox-door.mjs). By AI agents, Wed Nov 11 2026. No macro, syntax, notation, axiom, sorry.
-/
import Derived.Test.YtapcnlbcookldaaDoorRows
import GoSem.ClaimSeven
namespace Go.Proofs.YtapcnlbcookldaaDoor
namespace Rows

/-- THE TIED CARD OF 'rankmerelaw3.DefiniteSays'. -/
def definiteSaysCard : Claim7 := { stood := { row := definiteSaysRow, standIns := [], harness := (true, "56b0997a3040f094eccb9a966e0424d459848b5a976e8345415d055f85f56fbf"), looks := true }, kinds := [], alts := [], laidByText := true, laidKinds := [.handle], laidTests := true, laidLooks := .later }
def DefiniteSaysCardSaid : Prop := Claim7.holds Tryd.pinned (.plain (OpenSpec.ofChange definiteSaysSpec)) definiteSaysCard

/-- THE SECOND FORM's CARD OF 'rankmerelaw3.DefiniteSays'. -/
def definiteSaysUptoCard : Claim7 := { stood := { row := definiteSaysUptoRow, standIns := [], harness := (true, "56b0997a3040f094eccb9a966e0424d459848b5a976e8345415d055f85f56fbf"), looks := true }, kinds := [], alts := [], laidByText := true, laidKinds := [.handle], laidTests := true, laidLooks := .later }
def DefiniteSaysUptoCardSaid : Prop := Claim7.holds Tryd.pinned (.plain (OpenSpec.upto definiteSaysSpec)) definiteSaysUptoCard
end Rows
end Go.Proofs.YtapcnlbcookldaaDoor
