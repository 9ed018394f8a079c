/-
  DERIVED. GIVEN WITH THE SEED: THE CARDS: each row of YtdkdpklohfdpmaaDoorRows.lean that lists a variable, with what it lists TIED to the program's text (the seventh form; the later family's looks); each row that meets fmt, with fmt's text TOLD by the authors' own Lean function (tested against real Go, not proved from fmt's source: count such statements apart). THE CARD IS WHAT COUNTS. Prove the row's statement (the work); the ties are given (YtdkdpklohfdpmaaDoorTie.lean); close each card by the builder's one call (the guide's Derived/Test/ToyasCard.lean, 'card_holds'). Laid BY PROGRAM, IN A SANDBOX (cutbox-door.mjs). By AI agents, Wed Nov 11 2026. No macro, syntax, notation, axiom, sorry.
-/
import Derived.Test.YtdkdpklohfdpmaaDoorRows
import GoSem.ClaimSeven
namespace Go.Proofs.YtdkdpklohfdpmaaDoor
namespace Rows

/-- THE TIED CARD OF 'rankmerelaw2.LuSays'. -/
def luSaysCard : Claim7 := { stood := { row := luSaysRow, standIns := [], harness := (true, "1677bbb160e3a60c2d14b6d6ce51cf6417a757e85010f501fddb75315d19b972"), looks := true }, kinds := [], alts := [], laidByText := true, laidKinds := [.handle], laidTests := true, laidLooks := .later }
def LuSaysCardSaid : Prop := Claim7.holds Tryd.pinned (.plain (OpenSpec.ofChange luSaysSpec)) luSaysCard

/-- THE SECOND FORM's CARD OF 'rankmerelaw2.LuSays'. -/
def luSaysUptoCard : Claim7 := { stood := { row := luSaysUptoRow, standIns := [], harness := (true, "1677bbb160e3a60c2d14b6d6ce51cf6417a757e85010f501fddb75315d19b972"), looks := true }, kinds := [], alts := [], laidByText := true, laidKinds := [.handle], laidTests := true, laidLooks := .later }
def LuSaysUptoCardSaid : Prop := Claim7.holds Tryd.pinned (.plain (OpenSpec.upto luSaysSpec)) luSaysUptoCard
end Rows
end Go.Proofs.YtdkdpklohfdpmaaDoor
