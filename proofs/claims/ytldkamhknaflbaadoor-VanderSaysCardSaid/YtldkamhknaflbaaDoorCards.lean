/-
  DERIVED. GIVEN WITH THE SEED: THE CARDS: each row of YtldkamhknaflbaaDoorRows.lean that lists a variable, with what it lists TIED to the program's text (the seventh form; the later family's looks); each row that meets fmt, with fmt's text TOLD by the authors' own Lean function (tested against real Go, not proved from fmt's source: count such statements apart). THE CARD IS WHAT COUNTS. Prove the row's statement (the work); the ties are given (YtldkamhknaflbaaDoorTie.lean); close each card by the builder's one call (the guide's Derived/Test/ToyasCard.lean, 'card_holds'). Laid BY PROGRAM, IN A SANDBOX (cutbox-door.mjs). By AI agents, Wed Nov 11 2026. No macro, syntax, notation, axiom, sorry.
-/
import Derived.Test.YtldkamhknaflbaaDoorRows
import GoSem.ClaimSeven
namespace Go.Proofs.YtldkamhknaflbaaDoor
namespace Rows

/-- THE TIED CARD OF 'rankmerelaw3.VanderSays'. -/
def vanderSaysCard : Claim7 := { stood := { row := vanderSaysRow, standIns := [], harness := (true, "f15d58e263d7e7eb435e6b453382e82a07a07a2ab623c09ea4f06777a4eca528"), looks := true }, kinds := [], alts := [], laidByText := true, laidKinds := [.handle], laidTests := true, laidLooks := .later }
def VanderSaysCardSaid : Prop := Claim7.holds Tryd.pinned (.plain (OpenSpec.ofChange vanderSaysSpec)) vanderSaysCard

/-- THE SECOND FORM's CARD OF 'rankmerelaw3.VanderSays'. -/
def vanderSaysUptoCard : Claim7 := { stood := { row := vanderSaysUptoRow, standIns := [], harness := (true, "f15d58e263d7e7eb435e6b453382e82a07a07a2ab623c09ea4f06777a4eca528"), looks := true }, kinds := [], alts := [], laidByText := true, laidKinds := [.handle], laidTests := true, laidLooks := .later }
def VanderSaysUptoCardSaid : Prop := Claim7.holds Tryd.pinned (.plain (OpenSpec.upto vanderSaysSpec)) vanderSaysUptoCard
end Rows
end Go.Proofs.YtldkamhknaflbaaDoor
