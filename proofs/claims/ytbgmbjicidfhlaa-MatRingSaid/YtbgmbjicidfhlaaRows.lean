/-
  No cell of these rows narrows 'for every input' (looked for: loops, veiled, ifaces, maps, wideKeys, modest, calm, conditions, laid).
  DERIVED. THE GIVEN ROWS OF THIS SEAT. 3 by the template 'for every input the law returns true; each argument reads behind the call as it read before'; 0 by the template 'total and deterministic' (their statements: YtbgmbjicidfhlaaTotals.lean).
  GIVEN WITH THE SEED: the statements are not yours to turn. If you find one false, say at which input.
  Laid BY PROGRAM, IN A SANDBOX (cutbox-rows.mjs): the forced cells as the released guide's own fill.sh prints them over the translation c67fff681d78a6af… (all of the seat's roots in one cut). By AI agents, Wed Nov 11 2026. No macro, syntax, notation, axiom, sorry.
-/
import Derived.Test.YtbgmbjicidfhlaaChecked
import GoSem.Claim
import GoSem.ClaimJoined
import GoSem.ClaimMapViews
import Derived.JoinedTies
import Derived.KernelRfl
namespace Go.Proofs.Ytbgmbjicidfhlaa
/- THE CELL 'sum', in the pinned program and in every row, IS THE sha256 OF THE DUMP (.gsa) THAT YtbgmbjicidfhlaaProg.lean LOADS. Nothing in Lean hashes anything: it is a label: what it is worth is what the hold of that sum in a sandbox is worth. -/
noncomputable def Try.pinned : Pinned := { name := "ytbgmbjicidfhlaa", sum := "c67fff681d78a6af8cd77b3258986a0c51d2f9e84f5f4b4d68e9ca48419a7f55", checked := Try.checked }
namespace Rows
def none {H : Type} : Left H := { results := [], args := [] }

/-- 'rankmerelaw2.MatRing': WHATEVER THE INPUT: true; the input reads as it did. -/
def matRingSpec : ChangeSpec := { name := "matRing", fn := fun _ => fun
  | [d1, d2, d3, d4] => { results := [.lit (.bool true)], args := [d1, d2, d3, d4] }
  | _ => none }
def matRingRow : OpenClaim := { program := "ytbgmbjicidfhlaa", sum := "c67fff681d78a6af8cd77b3258986a0c51d2f9e84f5f4b4d68e9ca48419a7f55", func := "rankmere/rankmerelaw2.MatRing", spec := "matRing", unfollowed := true, recurses := true, apart := false }
def MatRingSaid : Prop := matRingRow.holds Try.pinned (OpenSpec.ofChange matRingSpec)

/-- ITS FALSE NEIGHBOUR: 'it returns false'. Refute it at one input. -/
def matRingWrong : ChangeSpec := { name := "matRing", fn := fun _ => fun
  | [d1, d2, d3, d4] => { results := [.lit (.bool false)], args := [d1, d2, d3, d4] }
  | _ => none }
def MatRingWrongFalsely : Prop := matRingRow.holds Try.pinned (OpenSpec.ofChange matRingWrong)

/-- 'rankmerelaw2.MatTurn': WHATEVER THE INPUT: true; the input reads as it did. -/
def matTurnSpec : ChangeSpec := { name := "matTurn", fn := fun _ => fun
  | [d1, d2] => { results := [.lit (.bool true)], args := [d1, d2] }
  | _ => none }
def matTurnRow : OpenClaim := { program := "ytbgmbjicidfhlaa", sum := "c67fff681d78a6af8cd77b3258986a0c51d2f9e84f5f4b4d68e9ca48419a7f55", func := "rankmere/rankmerelaw2.MatTurn", spec := "matTurn", unfollowed := true, recurses := true, apart := false }
def MatTurnSaid : Prop := matTurnRow.holds Try.pinned (OpenSpec.ofChange matTurnSpec)

/-- ITS FALSE NEIGHBOUR: 'it returns false'. Refute it at one input. -/
def matTurnWrong : ChangeSpec := { name := "matTurn", fn := fun _ => fun
  | [d1, d2] => { results := [.lit (.bool false)], args := [d1, d2] }
  | _ => none }
def MatTurnWrongFalsely : Prop := matTurnRow.holds Try.pinned (OpenSpec.ofChange matTurnWrong)

/-- 'rankmerelaw2.MatPow': WHATEVER THE INPUT: true; the input reads as it did. -/
def matPowSpec : ChangeSpec := { name := "matPow", fn := fun _ => fun
  | [d1, d2, d3] => { results := [.lit (.bool true)], args := [d1, d2, d3] }
  | _ => none }
def matPowRow : OpenClaim := { program := "ytbgmbjicidfhlaa", sum := "c67fff681d78a6af8cd77b3258986a0c51d2f9e84f5f4b4d68e9ca48419a7f55", func := "rankmere/rankmerelaw2.MatPow", spec := "matPow", unfollowed := true, recurses := true, apart := false }
def MatPowSaid : Prop := matPowRow.holds Try.pinned (OpenSpec.ofChange matPowSpec)

/-- ITS FALSE NEIGHBOUR: 'it returns false'. Refute it at one input. -/
def matPowWrong : ChangeSpec := { name := "matPow", fn := fun _ => fun
  | [d1, d2, d3] => { results := [.lit (.bool false)], args := [d1, d2, d3] }
  | _ => none }
def MatPowWrongFalsely : Prop := matPowRow.holds Try.pinned (OpenSpec.ofChange matPowWrong)

/- THE SECOND FORM. 'bulk': how many values and letters a reading holds, each counted each time it is reached (what is shared counts as often as it is met; a slice's spare places count too). A statement '..UptoSaid' is the law's where the arguments, and the package variables that the reading takes, are together of bulk at most 1048576: NARROWER than '..Said'. Prove '..Said' where nothing that the law and all that it calls make is longer than what came in: it says more and counts as full. Else prove '..UptoSaid'. A law counts once. -/
mutual
def uptoBulk {H : Type} : DataW H → Nat
  | .lit (.string bytes) => bytes.length + 1
  | .lit _ => 1
  | .nil => 1
  | .ptr d => uptoBulk d + 1
  | .slice elems spare => uptoBulkAll elems + uptoBulkAll spare + 1
  | .agg parts => uptoBulkAll parts + 1
  | .iface _ d => uptoBulk d + 1
  | .map entries => uptoBulkEntries entries + 1
  | .held _ => 1
def uptoBulkAll {H : Type} : List (DataW H) → Nat
  | [] => 0
  | d :: r => uptoBulk d + uptoBulkAll r
def uptoBulkEntries {H : Type} : List (Lit × DataW H) → Nat
  | [] => 0
  | x :: r => uptoBulkEntry x + uptoBulkEntries r
def uptoBulkEntry {H : Type} : Lit × DataW H → Nat
  | (.string bytes, d) => bytes.length + uptoBulk d + 1
  | (_, d) => uptoBulk d + 1
 end
def uptoSmall : (H : Type) → List (DataW H) → Bool := fun _ ds => decide (uptoBulkAll ds ≤ 1048576)
def OpenSpec.upto (s : _root_.Go.ChangeSpec) : _root_.Go.OpenSpec := { _root_.Go.OpenSpec.ofChange s with cond := some uptoSmall }

/-- 'rankmerelaw2.MatRing', WHERE WHAT IT READS IS OF BULK AT MOST 1048576: true; the input reads as it did. -/
def matRingUptoRow : OpenClaim := { program := "ytbgmbjicidfhlaa", sum := "c67fff681d78a6af8cd77b3258986a0c51d2f9e84f5f4b4d68e9ca48419a7f55", func := "rankmere/rankmerelaw2.MatRing", spec := "matRing", unfollowed := true, recurses := true, apart := false, narrowed := true }
def MatRingUptoSaid : Prop := matRingUptoRow.holds Try.pinned (OpenSpec.upto matRingSpec)

/-- 'rankmerelaw2.MatTurn', WHERE WHAT IT READS IS OF BULK AT MOST 1048576: true; the input reads as it did. -/
def matTurnUptoRow : OpenClaim := { program := "ytbgmbjicidfhlaa", sum := "c67fff681d78a6af8cd77b3258986a0c51d2f9e84f5f4b4d68e9ca48419a7f55", func := "rankmere/rankmerelaw2.MatTurn", spec := "matTurn", unfollowed := true, recurses := true, apart := false, narrowed := true }
def MatTurnUptoSaid : Prop := matTurnUptoRow.holds Try.pinned (OpenSpec.upto matTurnSpec)

/-- 'rankmerelaw2.MatPow', WHERE WHAT IT READS IS OF BULK AT MOST 1048576: true; the input reads as it did. -/
def matPowUptoRow : OpenClaim := { program := "ytbgmbjicidfhlaa", sum := "c67fff681d78a6af8cd77b3258986a0c51d2f9e84f5f4b4d68e9ca48419a7f55", func := "rankmere/rankmerelaw2.MatPow", spec := "matPow", unfollowed := true, recurses := true, apart := false, narrowed := true }
def MatPowUptoSaid : Prop := matPowUptoRow.holds Try.pinned (OpenSpec.upto matPowSpec)

end Rows
end Go.Proofs.Ytbgmbjicidfhlaa
