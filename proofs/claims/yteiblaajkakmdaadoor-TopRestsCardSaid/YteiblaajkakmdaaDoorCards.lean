/-
  DERIVED. GIVEN WITH THE SEED: THE CARDS: each row of YteiblaajkakmdaaDoorRows.lean that lists a variable, with what it lists TIED to the program's text (the seventh form; the later family's looks); each row that meets fmt, with fmt's text TOLD by the authors' own Lean function (tested against real Go, not proved from fmt's source: count such statements apart). THE CARD IS WHAT COUNTS. Prove the row's statement (the work); the ties are given (YteiblaajkakmdaaDoorTie.lean); close each card by the builder's one call (the guide's Derived/Test/ToyasCard.lean, 'card_holds'). Laid BY PROGRAM, IN A SANDBOX (cutbox-door.mjs). By AI agents, Wed Nov 11 2026. No macro, syntax, notation, axiom, sorry.
-/
import Derived.Test.YteiblaajkakmdaaDoorRows
import GoSem.ClaimSeven
namespace Go.Proofs.YteiblaajkakmdaaDoor
namespace Rows

/-- THE TIED CARD OF 'rankmerelaw1.CrtSays'. -/
def crtSaysCard : Claim7 := { stood := { row := crtSaysRow, standIns := [], harness := (true, "07bd5b5a3611c99f4ec7978fb429fdb6273e6bb03f15096dc330a06aacd30bac"), looks := true }, kinds := [], alts := [], laidByText := true, laidKinds := [.handle], laidTests := true, laidLooks := .later }
def CrtSaysCardSaid : Prop := Claim7.holds Tryd.pinned (.plain (OpenSpec.ofChange crtSaysSpec)) crtSaysCard

/-- THE TIED CARD OF 'rankmeretop.TopRests'. -/
def topRestsCard : Claim7 := { stood := { row := topRestsRow, standIns := [], harness := (true, "07bd5b5a3611c99f4ec7978fb429fdb6273e6bb03f15096dc330a06aacd30bac"), looks := true }, kinds := [], alts := [], laidByText := true, laidKinds := [.handle], laidTests := true, laidLooks := .later }
def TopRestsCardSaid : Prop := Claim7.holds Tryd.pinned (.plain (OpenSpec.ofChange topRestsSpec)) topRestsCard

/-- THE SECOND FORM's CARD OF 'rankmerelaw1.CrtSays'. -/
def crtSaysUptoCard : Claim7 := { stood := { row := crtSaysUptoRow, standIns := [], harness := (true, "07bd5b5a3611c99f4ec7978fb429fdb6273e6bb03f15096dc330a06aacd30bac"), looks := true }, kinds := [], alts := [], laidByText := true, laidKinds := [.handle], laidTests := true, laidLooks := .later }
def CrtSaysUptoCardSaid : Prop := Claim7.holds Tryd.pinned (.plain (OpenSpec.upto crtSaysSpec)) crtSaysUptoCard

/-- THE SECOND FORM's CARD OF 'rankmeretop.TopRests'. -/
def topRestsUptoCard : Claim7 := { stood := { row := topRestsUptoRow, standIns := [], harness := (true, "07bd5b5a3611c99f4ec7978fb429fdb6273e6bb03f15096dc330a06aacd30bac"), looks := true }, kinds := [], alts := [], laidByText := true, laidKinds := [.handle], laidTests := true, laidLooks := .later }
def TopRestsUptoCardSaid : Prop := Claim7.holds Tryd.pinned (.plain (OpenSpec.upto topRestsSpec)) topRestsUptoCard
end Rows
end Go.Proofs.YteiblaajkakmdaaDoor
