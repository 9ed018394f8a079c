/-
  DERIVED. GIVEN WITH THE SEED: THE CARDS: each row of YteaonlmiifpjfaaDoorRows.lean that lists a variable, with what it lists TIED to the program's text (the seventh form; the later family's looks); each row that meets fmt, with fmt's text TOLD by the authors' own Lean function (tested against real Go, not proved from fmt's source: count such statements apart). THE CARD IS WHAT COUNTS. Prove the row's statement (the work); the ties are given (YteaonlmiifpjfaaDoorTie.lean); close each card by the builder's one call (the guide's Derived/Test/ToyasCard.lean, 'card_holds'). Laid BY PROGRAM, IN A SANDBOX (cutbox-door.mjs). By AI agents, Wed Nov 11 2026. No macro, syntax, notation, axiom, sorry.
-/
import Derived.Test.YteaonlmiifpjfaaDoorRows
import GoSem.ClaimSeven
namespace Go.Proofs.YteaonlmiifpjfaaDoor
namespace Rows

/-- THE TIED CARD OF 'rankmerelaw1.IpolSays'. -/
def ipolSaysCard : Claim7 := { stood := { row := ipolSaysRow, standIns := [], harness := (true, "b01de0fd1f25479a460cb044493354f399488ca81c1b3479ac39d553eff0ea3b"), looks := true }, kinds := [], alts := [], laidByText := true, laidKinds := [.handle], laidTests := true, laidLooks := .later }
def IpolSaysCardSaid : Prop := Claim7.holds Tryd.pinned (.plain (OpenSpec.ofChange ipolSaysSpec)) ipolSaysCard

/-- THE SECOND FORM's CARD OF 'rankmerelaw1.IpolSays'. -/
def ipolSaysUptoCard : Claim7 := { stood := { row := ipolSaysUptoRow, standIns := [], harness := (true, "b01de0fd1f25479a460cb044493354f399488ca81c1b3479ac39d553eff0ea3b"), looks := true }, kinds := [], alts := [], laidByText := true, laidKinds := [.handle], laidTests := true, laidLooks := .later }
def IpolSaysUptoCardSaid : Prop := Claim7.holds Tryd.pinned (.plain (OpenSpec.upto ipolSaysSpec)) ipolSaysUptoCard
end Rows
end Go.Proofs.YteaonlmiifpjfaaDoor
