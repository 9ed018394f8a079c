/-
  DERIVED. GIVEN WITH THE SEED: THE CARDS: each row of YtologiinkilooaaDoorRows.lean that lists a variable, with what it lists TIED to the program's text (the seventh form; the later family's looks); each row that meets fmt, with fmt's text TOLD by the authors' own Lean function (tested against real Go, not proved from fmt's source: count such statements apart). THE CARD IS WHAT COUNTS. Prove the row's statement (the work); the ties are given (YtologiinkilooaaDoorTie.lean); close each card by the builder's one call (the guide's Derived/Test/ToyasCard.lean, 'card_holds'). Laid BY PROGRAM, IN A SANDBOX (cutbox-door.mjs). By AI agents, Wed Nov 11 2026. No macro, syntax, notation, axiom, sorry.
-/
import Derived.Test.YtologiinkilooaaDoorRows
import GoSem.ClaimSeven
namespace Go.Proofs.YtologiinkilooaaDoor
namespace Rows

/-- THE TIED CARD OF 'rankmerelaw3.CharSays'. -/
def charSaysCard : Claim7 := { stood := { row := charSaysRow, standIns := [], harness := (true, "08e0cdb202dccddd95b142fe12b62cb6dce432a19c1c8e54cc9352114ba61923"), looks := true }, kinds := [], alts := [], laidByText := true, laidKinds := [.handle], laidTests := true, laidLooks := .later }
def CharSaysCardSaid : Prop := Claim7.holds Tryd.pinned (.plain (OpenSpec.ofChange charSaysSpec)) charSaysCard

/-- THE TIED CARD OF 'rankmerelaw3.CharBoth'. -/
def charBothCard : Claim7 := { stood := { row := charBothRow, standIns := [], harness := (true, "08e0cdb202dccddd95b142fe12b62cb6dce432a19c1c8e54cc9352114ba61923"), looks := true }, kinds := [], alts := [], laidByText := true, laidKinds := [.handle], laidTests := true, laidLooks := .later }
def CharBothCardSaid : Prop := Claim7.holds Tryd.pinned (.plain (OpenSpec.ofChange charBothSpec)) charBothCard

/-- THE SECOND FORM's CARD OF 'rankmerelaw3.CharSays'. -/
def charSaysUptoCard : Claim7 := { stood := { row := charSaysUptoRow, standIns := [], harness := (true, "08e0cdb202dccddd95b142fe12b62cb6dce432a19c1c8e54cc9352114ba61923"), looks := true }, kinds := [], alts := [], laidByText := true, laidKinds := [.handle], laidTests := true, laidLooks := .later }
def CharSaysUptoCardSaid : Prop := Claim7.holds Tryd.pinned (.plain (OpenSpec.upto charSaysSpec)) charSaysUptoCard

/-- THE SECOND FORM's CARD OF 'rankmerelaw3.CharBoth'. -/
def charBothUptoCard : Claim7 := { stood := { row := charBothUptoRow, standIns := [], harness := (true, "08e0cdb202dccddd95b142fe12b62cb6dce432a19c1c8e54cc9352114ba61923"), looks := true }, kinds := [], alts := [], laidByText := true, laidKinds := [.handle], laidTests := true, laidLooks := .later }
def CharBothUptoCardSaid : Prop := Claim7.holds Tryd.pinned (.plain (OpenSpec.upto charBothSpec)) charBothUptoCard
end Rows
end Go.Proofs.YtologiinkilooaaDoor
