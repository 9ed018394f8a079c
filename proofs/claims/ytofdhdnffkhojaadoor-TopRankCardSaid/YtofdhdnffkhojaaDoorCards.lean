/-
  DERIVED. GIVEN WITH THE SEED: THE CARDS: each row of YtofdhdnffkhojaaDoorRows.lean that lists a variable, with what it lists TIED to the program's text (the seventh form; the later family's looks); each row that meets fmt, with fmt's text TOLD by the authors' own Lean function (tested against real Go, not proved from fmt's source: count such statements apart). THE CARD IS WHAT COUNTS. Prove the row's statement (the work); the ties are given (YtofdhdnffkhojaaDoorTie.lean); close each card by the builder's one call (the guide's Derived/Test/ToyasCard.lean, 'card_holds'). Laid BY PROGRAM, IN A SANDBOX (cutbox-door.mjs). By AI agents, Wed Nov 11 2026. No macro, syntax, notation, axiom, sorry.
-/
import Derived.Test.YtofdhdnffkhojaaDoorRows
import GoSem.ClaimSeven
namespace Go.Proofs.YtofdhdnffkhojaaDoor
namespace Rows

/-- THE TIED CARD OF 'rankmerelaw2.InvSays'. -/
def invSaysCard : Claim7 := { stood := { row := invSaysRow, standIns := [], harness := (true, "f9f99d90d57912935c027e03fc9a1645dcdf879314133dd9beae39422ab2b9d6"), looks := true }, kinds := [], alts := [], laidByText := true, laidKinds := [.handle], laidTests := true, laidLooks := .later }
def InvSaysCardSaid : Prop := Claim7.holds Tryd.pinned (.plain (OpenSpec.ofChange invSaysSpec)) invSaysCard

/-- THE TIED CARD OF 'rankmerelaw2.InvBack'. -/
def invBackCard : Claim7 := { stood := { row := invBackRow, standIns := [], harness := (true, "f9f99d90d57912935c027e03fc9a1645dcdf879314133dd9beae39422ab2b9d6"), looks := true }, kinds := [], alts := [], laidByText := true, laidKinds := [.handle], laidTests := true, laidLooks := .later }
def InvBackCardSaid : Prop := Claim7.holds Tryd.pinned (.plain (OpenSpec.ofChange invBackSpec)) invBackCard

/-- THE TIED CARD OF 'rankmerelaw2.InvMul'. -/
def invMulCard : Claim7 := { stood := { row := invMulRow, standIns := [], harness := (true, "f9f99d90d57912935c027e03fc9a1645dcdf879314133dd9beae39422ab2b9d6"), looks := true }, kinds := [], alts := [], laidByText := true, laidKinds := [.handle], laidTests := true, laidLooks := .later }
def InvMulCardSaid : Prop := Claim7.holds Tryd.pinned (.plain (OpenSpec.ofChange invMulSpec)) invMulCard

/-- THE TIED CARD OF 'rankmerelaw2.InvChange'. -/
def invChangeCard : Claim7 := { stood := { row := invChangeRow, standIns := [], harness := (true, "f9f99d90d57912935c027e03fc9a1645dcdf879314133dd9beae39422ab2b9d6"), looks := true }, kinds := [], alts := [], laidByText := true, laidKinds := [.handle], laidTests := true, laidLooks := .later }
def InvChangeCardSaid : Prop := Claim7.holds Tryd.pinned (.plain (OpenSpec.ofChange invChangeSpec)) invChangeCard

/-- THE TIED CARD OF 'rankmeretop.TopRank'. -/
def topRankCard : Claim7 := { stood := { row := topRankRow, standIns := [], harness := (true, "f9f99d90d57912935c027e03fc9a1645dcdf879314133dd9beae39422ab2b9d6"), looks := true }, kinds := [], alts := [], laidByText := true, laidKinds := [.handle], laidTests := true, laidLooks := .later }
def TopRankCardSaid : Prop := Claim7.holds Tryd.pinned (.plain (OpenSpec.ofChange topRankSpec)) topRankCard

/-- THE SECOND FORM's CARD OF 'rankmerelaw2.InvSays'. -/
def invSaysUptoCard : Claim7 := { stood := { row := invSaysUptoRow, standIns := [], harness := (true, "f9f99d90d57912935c027e03fc9a1645dcdf879314133dd9beae39422ab2b9d6"), looks := true }, kinds := [], alts := [], laidByText := true, laidKinds := [.handle], laidTests := true, laidLooks := .later }
def InvSaysUptoCardSaid : Prop := Claim7.holds Tryd.pinned (.plain (OpenSpec.upto invSaysSpec)) invSaysUptoCard

/-- THE SECOND FORM's CARD OF 'rankmerelaw2.InvBack'. -/
def invBackUptoCard : Claim7 := { stood := { row := invBackUptoRow, standIns := [], harness := (true, "f9f99d90d57912935c027e03fc9a1645dcdf879314133dd9beae39422ab2b9d6"), looks := true }, kinds := [], alts := [], laidByText := true, laidKinds := [.handle], laidTests := true, laidLooks := .later }
def InvBackUptoCardSaid : Prop := Claim7.holds Tryd.pinned (.plain (OpenSpec.upto invBackSpec)) invBackUptoCard

/-- THE SECOND FORM's CARD OF 'rankmerelaw2.InvMul'. -/
def invMulUptoCard : Claim7 := { stood := { row := invMulUptoRow, standIns := [], harness := (true, "f9f99d90d57912935c027e03fc9a1645dcdf879314133dd9beae39422ab2b9d6"), looks := true }, kinds := [], alts := [], laidByText := true, laidKinds := [.handle], laidTests := true, laidLooks := .later }
def InvMulUptoCardSaid : Prop := Claim7.holds Tryd.pinned (.plain (OpenSpec.upto invMulSpec)) invMulUptoCard

/-- THE SECOND FORM's CARD OF 'rankmerelaw2.InvChange'. -/
def invChangeUptoCard : Claim7 := { stood := { row := invChangeUptoRow, standIns := [], harness := (true, "f9f99d90d57912935c027e03fc9a1645dcdf879314133dd9beae39422ab2b9d6"), looks := true }, kinds := [], alts := [], laidByText := true, laidKinds := [.handle], laidTests := true, laidLooks := .later }
def InvChangeUptoCardSaid : Prop := Claim7.holds Tryd.pinned (.plain (OpenSpec.upto invChangeSpec)) invChangeUptoCard

/-- THE SECOND FORM's CARD OF 'rankmeretop.TopRank'. -/
def topRankUptoCard : Claim7 := { stood := { row := topRankUptoRow, standIns := [], harness := (true, "f9f99d90d57912935c027e03fc9a1645dcdf879314133dd9beae39422ab2b9d6"), looks := true }, kinds := [], alts := [], laidByText := true, laidKinds := [.handle], laidTests := true, laidLooks := .later }
def TopRankUptoCardSaid : Prop := Claim7.holds Tryd.pinned (.plain (OpenSpec.upto topRankSpec)) topRankUptoCard
end Rows
end Go.Proofs.YtofdhdnffkhojaaDoor
