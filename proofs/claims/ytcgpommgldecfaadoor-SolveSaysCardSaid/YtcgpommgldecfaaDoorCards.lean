/-
  DERIVED. GIVEN WITH THE SEED: THE CARDS: each row of YtcgpommgldecfaaDoorRows.lean that lists a variable, with what it lists TIED to the program's text (the seventh form; the later family's looks); each row that meets fmt, with fmt's text TOLD by the authors' own Lean function (tested against real Go, not proved from fmt's source: count such statements apart). THE CARD IS WHAT COUNTS. Prove the row's statement (the work); the ties are given (YtcgpommgldecfaaDoorTie.lean); close each card by the builder's one call (the guide's Derived/Test/ToyasCard.lean, 'card_holds'). Laid BY PROGRAM, IN A SANDBOX (cutbox-door.mjs). By AI agents, Wed Nov 11 2026. No macro, syntax, notation, axiom, sorry.
-/
import Derived.Test.YtcgpommgldecfaaDoorRows
import GoSem.ClaimSeven
namespace Go.Proofs.YtcgpommgldecfaaDoor
namespace Rows

/-- THE TIED CARD OF 'rankmerelaw2.SolveSays'. -/
def solveSaysCard : Claim7 := { stood := { row := solveSaysRow, standIns := [], harness := (true, "ee4df2b65cba0ac2909eb45357f4db3d21db6da007b816d47f5d52ea1daf5715"), looks := true }, kinds := [], alts := [], laidByText := true, laidKinds := [.handle], laidTests := true, laidLooks := .later }
def SolveSaysCardSaid : Prop := Claim7.holds Tryd.pinned (.plain (OpenSpec.ofChange solveSaysSpec)) solveSaysCard

/-- THE TIED CARD OF 'rankmerelaw2.SolveAll'. -/
def solveAllCard : Claim7 := { stood := { row := solveAllRow, standIns := [], harness := (true, "ee4df2b65cba0ac2909eb45357f4db3d21db6da007b816d47f5d52ea1daf5715"), looks := true }, kinds := [], alts := [], laidByText := true, laidKinds := [.handle], laidTests := true, laidLooks := .later }
def SolveAllCardSaid : Prop := Claim7.holds Tryd.pinned (.plain (OpenSpec.ofChange solveAllSpec)) solveAllCard

/-- THE SECOND FORM's CARD OF 'rankmerelaw2.SolveSays'. -/
def solveSaysUptoCard : Claim7 := { stood := { row := solveSaysUptoRow, standIns := [], harness := (true, "ee4df2b65cba0ac2909eb45357f4db3d21db6da007b816d47f5d52ea1daf5715"), looks := true }, kinds := [], alts := [], laidByText := true, laidKinds := [.handle], laidTests := true, laidLooks := .later }
def SolveSaysUptoCardSaid : Prop := Claim7.holds Tryd.pinned (.plain (OpenSpec.upto solveSaysSpec)) solveSaysUptoCard

/-- THE SECOND FORM's CARD OF 'rankmerelaw2.SolveAll'. -/
def solveAllUptoCard : Claim7 := { stood := { row := solveAllUptoRow, standIns := [], harness := (true, "ee4df2b65cba0ac2909eb45357f4db3d21db6da007b816d47f5d52ea1daf5715"), looks := true }, kinds := [], alts := [], laidByText := true, laidKinds := [.handle], laidTests := true, laidLooks := .later }
def SolveAllUptoCardSaid : Prop := Claim7.holds Tryd.pinned (.plain (OpenSpec.upto solveAllSpec)) solveAllUptoCard
end Rows
end Go.Proofs.YtcgpommgldecfaaDoor
