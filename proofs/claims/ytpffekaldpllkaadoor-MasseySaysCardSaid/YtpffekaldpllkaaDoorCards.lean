/-
  DERIVED. GIVEN WITH THE SEED: THE CARDS: each row of YtpffekaldpllkaaDoorRows.lean that lists a variable, with what it lists TIED to the program's text (the seventh form; the later family's looks); each row that meets fmt, with fmt's text TOLD by the authors' own Lean function (tested against real Go, not proved from fmt's source: count such statements apart). THE CARD IS WHAT COUNTS. Prove the row's statement (the work); the ties are given (YtpffekaldpllkaaDoorTie.lean); close each card by the builder's one call (the guide's Derived/Test/ToyasCard.lean, 'card_holds'). Laid BY PROGRAM, IN A SANDBOX (cutbox-door.mjs). By AI agents, Wed Nov 11 2026. No macro, syntax, notation, axiom, sorry.
-/
import Derived.Test.YtpffekaldpllkaaDoorRows
import GoSem.ClaimSeven
namespace Go.Proofs.YtpffekaldpllkaaDoor
namespace Rows

/-- THE TIED CARD OF 'rankmerelaw3.MasseySays'. -/
def masseySaysCard : Claim7 := { stood := { row := masseySaysRow, standIns := [], harness := (true, "b0525a86c29f1f4e8f5760fbc34efed4c287d60b2c38f3f64a9c6317623d7bed"), looks := true }, kinds := [], alts := [], laidByText := true, laidKinds := [.handle], laidTests := true, laidLooks := .later }
def MasseySaysCardSaid : Prop := Claim7.holds Tryd.pinned (.plain (OpenSpec.ofChange masseySaysSpec)) masseySaysCard

/-- THE TIED CARD OF 'rankmerelaw3.MasseyLeast'. -/
def masseyLeastCard : Claim7 := { stood := { row := masseyLeastRow, standIns := [], harness := (true, "b0525a86c29f1f4e8f5760fbc34efed4c287d60b2c38f3f64a9c6317623d7bed"), looks := true }, kinds := [], alts := [], laidByText := true, laidKinds := [.handle], laidTests := true, laidLooks := .later }
def MasseyLeastCardSaid : Prop := Claim7.holds Tryd.pinned (.plain (OpenSpec.ofChange masseyLeastSpec)) masseyLeastCard

/-- THE SECOND FORM's CARD OF 'rankmerelaw3.MasseySays'. -/
def masseySaysUptoCard : Claim7 := { stood := { row := masseySaysUptoRow, standIns := [], harness := (true, "b0525a86c29f1f4e8f5760fbc34efed4c287d60b2c38f3f64a9c6317623d7bed"), looks := true }, kinds := [], alts := [], laidByText := true, laidKinds := [.handle], laidTests := true, laidLooks := .later }
def MasseySaysUptoCardSaid : Prop := Claim7.holds Tryd.pinned (.plain (OpenSpec.upto masseySaysSpec)) masseySaysUptoCard

/-- THE SECOND FORM's CARD OF 'rankmerelaw3.MasseyLeast'. -/
def masseyLeastUptoCard : Claim7 := { stood := { row := masseyLeastUptoRow, standIns := [], harness := (true, "b0525a86c29f1f4e8f5760fbc34efed4c287d60b2c38f3f64a9c6317623d7bed"), looks := true }, kinds := [], alts := [], laidByText := true, laidKinds := [.handle], laidTests := true, laidLooks := .later }
def MasseyLeastUptoCardSaid : Prop := Claim7.holds Tryd.pinned (.plain (OpenSpec.upto masseyLeastSpec)) masseyLeastUptoCard
end Rows
end Go.Proofs.YtpffekaldpllkaaDoor
