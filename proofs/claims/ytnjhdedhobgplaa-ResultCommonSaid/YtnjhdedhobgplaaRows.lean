/-
  No cell of these rows narrows 'for every input' (looked for: loops, veiled, ifaces, maps, wideKeys, modest, calm, conditions, laid).
  DERIVED. THE GIVEN ROWS OF THIS SEAT. 5 by the template 'for every input the law returns true; each argument reads behind the call as it read before'; 0 by the template 'total and deterministic' (their statements: YtnjhdedhobgplaaTotals.lean).
  GIVEN WITH THE SEED: the statements are not yours to turn. If you find one false, say at which input.
  Laid BY PROGRAM, IN A SANDBOX (cutbox-rows.mjs): the forced cells as the released guide's own fill.sh prints them over the translation 8e1abbcb68ea3cbc… (all of the seat's roots in one cut). By AI agents, Wed Nov 11 2026. No macro, syntax, notation, axiom, sorry.
-/
import Derived.Test.YtnjhdedhobgplaaChecked
import GoSem.Claim
import GoSem.ClaimJoined
import GoSem.ClaimMapViews
import Derived.JoinedTies
import Derived.KernelRfl
namespace Go.Proofs.Ytnjhdedhobgplaa
/- THE CELL 'sum', in the pinned program and in every row, IS THE sha256 OF THE DUMP (.gsa) THAT YtnjhdedhobgplaaProg.lean LOADS. Nothing in Lean hashes anything: it is a label: what it is worth is what the hold of that sum in a sandbox is worth. -/
noncomputable def Try.pinned : Pinned := { name := "ytnjhdedhobgplaa", sum := "8e1abbcb68ea3cbc6f724afed4ad9bf55038278ada9991bab2ca478f3be3bc97", checked := Try.checked }
namespace Rows
def none {H : Type} : Left H := { results := [], args := [] }

/-- 'rankmerelaw3.ResultCommon': WHATEVER THE INPUT: true; the input reads as it did. -/
def resultCommonSpec : ChangeSpec := { name := "resultCommon", fn := fun _ => fun
  | [d1, d2] => { results := [.lit (.bool true)], args := [d1, d2] }
  | _ => none }
def resultCommonRow : OpenClaim := { program := "ytnjhdedhobgplaa", sum := "8e1abbcb68ea3cbc6f724afed4ad9bf55038278ada9991bab2ca478f3be3bc97", func := "rankmere/rankmerelaw3.ResultCommon", spec := "resultCommon", unfollowed := true, recurses := true, apart := false }
def ResultCommonSaid : Prop := resultCommonRow.holds Try.pinned (OpenSpec.ofChange resultCommonSpec)

/-- ITS FALSE NEIGHBOUR: 'it returns false'. Refute it at one input. -/
def resultCommonWrong : ChangeSpec := { name := "resultCommon", fn := fun _ => fun
  | [d1, d2] => { results := [.lit (.bool false)], args := [d1, d2] }
  | _ => none }
def ResultCommonWrongFalsely : Prop := resultCommonRow.holds Try.pinned (OpenSpec.ofChange resultCommonWrong)

/-- 'rankmerelaw3.ResultRoots': WHATEVER THE INPUT: true; the input reads as it did. -/
def resultRootsSpec : ChangeSpec := { name := "resultRoots", fn := fun _ => fun
  | [d1, d2] => { results := [.lit (.bool true)], args := [d1, d2] }
  | _ => none }
def resultRootsRow : OpenClaim := { program := "ytnjhdedhobgplaa", sum := "8e1abbcb68ea3cbc6f724afed4ad9bf55038278ada9991bab2ca478f3be3bc97", func := "rankmere/rankmerelaw3.ResultRoots", spec := "resultRoots", unfollowed := true, recurses := true, apart := false }
def ResultRootsSaid : Prop := resultRootsRow.holds Try.pinned (OpenSpec.ofChange resultRootsSpec)

/-- ITS FALSE NEIGHBOUR: 'it returns false'. Refute it at one input. -/
def resultRootsWrong : ChangeSpec := { name := "resultRoots", fn := fun _ => fun
  | [d1, d2] => { results := [.lit (.bool false)], args := [d1, d2] }
  | _ => none }
def ResultRootsWrongFalsely : Prop := resultRootsRow.holds Try.pinned (OpenSpec.ofChange resultRootsWrong)

/-- 'rankmerelaw3.ResultTurn': WHATEVER THE INPUT: true; the input reads as it did. -/
def resultTurnSpec : ChangeSpec := { name := "resultTurn", fn := fun _ => fun
  | [d1, d2] => { results := [.lit (.bool true)], args := [d1, d2] }
  | _ => none }
def resultTurnRow : OpenClaim := { program := "ytnjhdedhobgplaa", sum := "8e1abbcb68ea3cbc6f724afed4ad9bf55038278ada9991bab2ca478f3be3bc97", func := "rankmere/rankmerelaw3.ResultTurn", spec := "resultTurn", unfollowed := true, recurses := true, apart := false }
def ResultTurnSaid : Prop := resultTurnRow.holds Try.pinned (OpenSpec.ofChange resultTurnSpec)

/-- ITS FALSE NEIGHBOUR: 'it returns false'. Refute it at one input. -/
def resultTurnWrong : ChangeSpec := { name := "resultTurn", fn := fun _ => fun
  | [d1, d2] => { results := [.lit (.bool false)], args := [d1, d2] }
  | _ => none }
def ResultTurnWrongFalsely : Prop := resultTurnRow.holds Try.pinned (OpenSpec.ofChange resultTurnWrong)

/-- 'rankmerelaw3.ResultProduct': WHATEVER THE INPUT: true; the input reads as it did. -/
def resultProductSpec : ChangeSpec := { name := "resultProduct", fn := fun _ => fun
  | [d1, d2, d3] => { results := [.lit (.bool true)], args := [d1, d2, d3] }
  | _ => none }
def resultProductRow : OpenClaim := { program := "ytnjhdedhobgplaa", sum := "8e1abbcb68ea3cbc6f724afed4ad9bf55038278ada9991bab2ca478f3be3bc97", func := "rankmere/rankmerelaw3.ResultProduct", spec := "resultProduct", unfollowed := true, recurses := true, apart := false }
def ResultProductSaid : Prop := resultProductRow.holds Try.pinned (OpenSpec.ofChange resultProductSpec)

/-- ITS FALSE NEIGHBOUR: 'it returns false'. Refute it at one input. -/
def resultProductWrong : ChangeSpec := { name := "resultProduct", fn := fun _ => fun
  | [d1, d2, d3] => { results := [.lit (.bool false)], args := [d1, d2, d3] }
  | _ => none }
def ResultProductWrongFalsely : Prop := resultProductRow.holds Try.pinned (OpenSpec.ofChange resultProductWrong)

/-- 'rankmeretop.TopTwice': WHATEVER THE INPUT: true; the input reads as it did. -/
def topTwiceSpec : ChangeSpec := { name := "topTwice", fn := fun _ => fun
  | [d1, d2, d3] => { results := [.lit (.bool true)], args := [d1, d2, d3] }
  | _ => none }
def topTwiceRow : OpenClaim := { program := "ytnjhdedhobgplaa", sum := "8e1abbcb68ea3cbc6f724afed4ad9bf55038278ada9991bab2ca478f3be3bc97", func := "rankmere/rankmeretop.TopTwice", spec := "topTwice", unfollowed := true, recurses := true, apart := false }
def TopTwiceSaid : Prop := topTwiceRow.holds Try.pinned (OpenSpec.ofChange topTwiceSpec)

/-- ITS FALSE NEIGHBOUR: 'it returns false'. Refute it at one input. -/
def topTwiceWrong : ChangeSpec := { name := "topTwice", fn := fun _ => fun
  | [d1, d2, d3] => { results := [.lit (.bool false)], args := [d1, d2, d3] }
  | _ => none }
def TopTwiceWrongFalsely : Prop := topTwiceRow.holds Try.pinned (OpenSpec.ofChange topTwiceWrong)

/- THE SECOND FORM. 'bulk': how many values and letters a reading holds, each counted each time it is reached (what is shared counts as often as it is met; a slice's spare places count too). A statement '..UptoSaid' is the law's where the arguments, and the package variables that the reading takes, are together of bulk at most 1048576: NARROWER than '..Said'. Prove '..Said' where nothing that the law and all that it calls make is longer than what came in: it says more and counts as full. Else prove '..UptoSaid'. A law counts once. -/
mutual
def uptoBulk {H : Type} : DataW H → Nat
  | .lit (.string bytes) => bytes.length + 1
  | .lit _ => 1
  | .nil => 1
  | .ptr d => uptoBulk d + 1
  | .slice elems spare => uptoBulkAll elems + uptoBulkAll spare + 1
  | .agg parts => uptoBulkAll parts + 1
  | .iface _ d => uptoBulk d + 1
  | .map entries => uptoBulkEntries entries + 1
  | .held _ => 1
def uptoBulkAll {H : Type} : List (DataW H) → Nat
  | [] => 0
  | d :: r => uptoBulk d + uptoBulkAll r
def uptoBulkEntries {H : Type} : List (Lit × DataW H) → Nat
  | [] => 0
  | x :: r => uptoBulkEntry x + uptoBulkEntries r
def uptoBulkEntry {H : Type} : Lit × DataW H → Nat
  | (.string bytes, d) => bytes.length + uptoBulk d + 1
  | (_, d) => uptoBulk d + 1
 end
def uptoSmall : (H : Type) → List (DataW H) → Bool := fun _ ds => decide (uptoBulkAll ds ≤ 1048576)
def OpenSpec.upto (s : _root_.Go.ChangeSpec) : _root_.Go.OpenSpec := { _root_.Go.OpenSpec.ofChange s with cond := some uptoSmall }

/-- 'rankmerelaw3.ResultCommon', WHERE WHAT IT READS IS OF BULK AT MOST 1048576: true; the input reads as it did. -/
def resultCommonUptoRow : OpenClaim := { program := "ytnjhdedhobgplaa", sum := "8e1abbcb68ea3cbc6f724afed4ad9bf55038278ada9991bab2ca478f3be3bc97", func := "rankmere/rankmerelaw3.ResultCommon", spec := "resultCommon", unfollowed := true, recurses := true, apart := false, narrowed := true }
def ResultCommonUptoSaid : Prop := resultCommonUptoRow.holds Try.pinned (OpenSpec.upto resultCommonSpec)

/-- 'rankmerelaw3.ResultRoots', WHERE WHAT IT READS IS OF BULK AT MOST 1048576: true; the input reads as it did. -/
def resultRootsUptoRow : OpenClaim := { program := "ytnjhdedhobgplaa", sum := "8e1abbcb68ea3cbc6f724afed4ad9bf55038278ada9991bab2ca478f3be3bc97", func := "rankmere/rankmerelaw3.ResultRoots", spec := "resultRoots", unfollowed := true, recurses := true, apart := false, narrowed := true }
def ResultRootsUptoSaid : Prop := resultRootsUptoRow.holds Try.pinned (OpenSpec.upto resultRootsSpec)

/-- 'rankmerelaw3.ResultTurn', WHERE WHAT IT READS IS OF BULK AT MOST 1048576: true; the input reads as it did. -/
def resultTurnUptoRow : OpenClaim := { program := "ytnjhdedhobgplaa", sum := "8e1abbcb68ea3cbc6f724afed4ad9bf55038278ada9991bab2ca478f3be3bc97", func := "rankmere/rankmerelaw3.ResultTurn", spec := "resultTurn", unfollowed := true, recurses := true, apart := false, narrowed := true }
def ResultTurnUptoSaid : Prop := resultTurnUptoRow.holds Try.pinned (OpenSpec.upto resultTurnSpec)

/-- 'rankmerelaw3.ResultProduct', WHERE WHAT IT READS IS OF BULK AT MOST 1048576: true; the input reads as it did. -/
def resultProductUptoRow : OpenClaim := { program := "ytnjhdedhobgplaa", sum := "8e1abbcb68ea3cbc6f724afed4ad9bf55038278ada9991bab2ca478f3be3bc97", func := "rankmere/rankmerelaw3.ResultProduct", spec := "resultProduct", unfollowed := true, recurses := true, apart := false, narrowed := true }
def ResultProductUptoSaid : Prop := resultProductUptoRow.holds Try.pinned (OpenSpec.upto resultProductSpec)

/-- 'rankmeretop.TopTwice', WHERE WHAT IT READS IS OF BULK AT MOST 1048576: true; the input reads as it did. -/
def topTwiceUptoRow : OpenClaim := { program := "ytnjhdedhobgplaa", sum := "8e1abbcb68ea3cbc6f724afed4ad9bf55038278ada9991bab2ca478f3be3bc97", func := "rankmere/rankmeretop.TopTwice", spec := "topTwice", unfollowed := true, recurses := true, apart := false, narrowed := true }
def TopTwiceUptoSaid : Prop := topTwiceUptoRow.holds Try.pinned (OpenSpec.upto topTwiceSpec)

end Rows
end Go.Proofs.Ytnjhdedhobgplaa
