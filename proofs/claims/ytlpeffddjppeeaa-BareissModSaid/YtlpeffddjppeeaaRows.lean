/-
  No cell of these rows narrows 'for every input' (looked for: loops, veiled, ifaces, maps, wideKeys, modest, calm, conditions, laid).
  DERIVED. THE GIVEN ROWS OF THIS SEAT. 3 by the template 'for every input the law returns true; each argument reads behind the call as it read before'; 0 by the template 'total and deterministic' (their statements: YtlpeffddjppeeaaTotals.lean).
  GIVEN WITH THE SEED: the statements are not yours to turn. If you find one false, say at which input.
  Laid BY PROGRAM, IN A SANDBOX (cutbox-rows.mjs): the forced cells as the released guide's own fill.sh prints them over the translation d9b86430c490f4d5… (all of the seat's roots in one cut). By AI agents, Wed Nov 11 2026. No macro, syntax, notation, axiom, sorry.
-/
import Derived.Test.YtlpeffddjppeeaaChecked
import GoSem.Claim
import GoSem.ClaimJoined
import GoSem.ClaimMapViews
import Derived.JoinedTies
import Derived.KernelRfl
namespace Go.Proofs.Ytlpeffddjppeeaa
/- THE CELL 'sum', in the pinned program and in every row, IS THE sha256 OF THE DUMP (.gsa) THAT YtlpeffddjppeeaaProg.lean LOADS. Nothing in Lean hashes anything: it is a label: what it is worth is what the hold of that sum in a sandbox is worth. -/
noncomputable def Try.pinned : Pinned := { name := "ytlpeffddjppeeaa", sum := "d9b86430c490f4d59f589970606ca4d9f1909f2910dd2af210499e4279c48d35", checked := Try.checked }
namespace Rows
def none {H : Type} : Left H := { results := [], args := [] }

/-- 'rankmerelaw2.BareissMod': WHATEVER THE INPUT: true; the input reads as it did. -/
def bareissModSpec : ChangeSpec := { name := "bareissMod", fn := fun _ => fun
  | [d] => { results := [.lit (.bool true)], args := [d] }
  | _ => none }
def bareissModRow : OpenClaim := { program := "ytlpeffddjppeeaa", sum := "d9b86430c490f4d59f589970606ca4d9f1909f2910dd2af210499e4279c48d35", func := "rankmere/rankmerelaw2.BareissMod", spec := "bareissMod", unfollowed := true, recurses := true, apart := false }
def BareissModSaid : Prop := bareissModRow.holds Try.pinned (OpenSpec.ofChange bareissModSpec)

/-- ITS FALSE NEIGHBOUR: 'it returns false'. Refute it at one input. -/
def bareissModWrong : ChangeSpec := { name := "bareissMod", fn := fun _ => fun
  | [d] => { results := [.lit (.bool false)], args := [d] }
  | _ => none }
def BareissModWrongFalsely : Prop := bareissModRow.holds Try.pinned (OpenSpec.ofChange bareissModWrong)

/-- 'rankmerelaw2.BareissHadamard': WHATEVER THE INPUT: true; the input reads as it did. -/
def bareissHadamardSpec : ChangeSpec := { name := "bareissHadamard", fn := fun _ => fun
  | [d] => { results := [.lit (.bool true)], args := [d] }
  | _ => none }
def bareissHadamardRow : OpenClaim := { program := "ytlpeffddjppeeaa", sum := "d9b86430c490f4d59f589970606ca4d9f1909f2910dd2af210499e4279c48d35", func := "rankmere/rankmerelaw2.BareissHadamard", spec := "bareissHadamard", unfollowed := true, recurses := true, apart := false }
def BareissHadamardSaid : Prop := bareissHadamardRow.holds Try.pinned (OpenSpec.ofChange bareissHadamardSpec)

/-- ITS FALSE NEIGHBOUR: 'it returns false'. Refute it at one input. -/
def bareissHadamardWrong : ChangeSpec := { name := "bareissHadamard", fn := fun _ => fun
  | [d] => { results := [.lit (.bool false)], args := [d] }
  | _ => none }
def BareissHadamardWrongFalsely : Prop := bareissHadamardRow.holds Try.pinned (OpenSpec.ofChange bareissHadamardWrong)

/-- 'rankmerelaw2.BareissHeavy': WHATEVER THE INPUT: true; the input reads as it did. -/
def bareissHeavySpec : ChangeSpec := { name := "bareissHeavy", fn := fun _ => fun
  | [d] => { results := [.lit (.bool true)], args := [d] }
  | _ => none }
def bareissHeavyRow : OpenClaim := { program := "ytlpeffddjppeeaa", sum := "d9b86430c490f4d59f589970606ca4d9f1909f2910dd2af210499e4279c48d35", func := "rankmere/rankmerelaw2.BareissHeavy", spec := "bareissHeavy", unfollowed := true, recurses := true, apart := false }
def BareissHeavySaid : Prop := bareissHeavyRow.holds Try.pinned (OpenSpec.ofChange bareissHeavySpec)

/-- ITS FALSE NEIGHBOUR: 'it returns false'. Refute it at one input. -/
def bareissHeavyWrong : ChangeSpec := { name := "bareissHeavy", fn := fun _ => fun
  | [d] => { results := [.lit (.bool false)], args := [d] }
  | _ => none }
def BareissHeavyWrongFalsely : Prop := bareissHeavyRow.holds Try.pinned (OpenSpec.ofChange bareissHeavyWrong)

/- THE SECOND FORM. 'bulk': how many values and letters a reading holds, each counted each time it is reached (what is shared counts as often as it is met; a slice's spare places count too). A statement '..UptoSaid' is the law's where the arguments, and the package variables that the reading takes, are together of bulk at most 1048576: NARROWER than '..Said'. Prove '..Said' where nothing that the law and all that it calls make is longer than what came in: it says more and counts as full. Else prove '..UptoSaid'. A law counts once. -/
mutual
def uptoBulk {H : Type} : DataW H → Nat
  | .lit (.string bytes) => bytes.length + 1
  | .lit _ => 1
  | .nil => 1
  | .ptr d => uptoBulk d + 1
  | .slice elems spare => uptoBulkAll elems + uptoBulkAll spare + 1
  | .agg parts => uptoBulkAll parts + 1
  | .iface _ d => uptoBulk d + 1
  | .map entries => uptoBulkEntries entries + 1
  | .held _ => 1
def uptoBulkAll {H : Type} : List (DataW H) → Nat
  | [] => 0
  | d :: r => uptoBulk d + uptoBulkAll r
def uptoBulkEntries {H : Type} : List (Lit × DataW H) → Nat
  | [] => 0
  | x :: r => uptoBulkEntry x + uptoBulkEntries r
def uptoBulkEntry {H : Type} : Lit × DataW H → Nat
  | (.string bytes, d) => bytes.length + uptoBulk d + 1
  | (_, d) => uptoBulk d + 1
 end
def uptoSmall : (H : Type) → List (DataW H) → Bool := fun _ ds => decide (uptoBulkAll ds ≤ 1048576)
def OpenSpec.upto (s : _root_.Go.ChangeSpec) : _root_.Go.OpenSpec := { _root_.Go.OpenSpec.ofChange s with cond := some uptoSmall }

/-- 'rankmerelaw2.BareissMod', WHERE WHAT IT READS IS OF BULK AT MOST 1048576: true; the input reads as it did. -/
def bareissModUptoRow : OpenClaim := { program := "ytlpeffddjppeeaa", sum := "d9b86430c490f4d59f589970606ca4d9f1909f2910dd2af210499e4279c48d35", func := "rankmere/rankmerelaw2.BareissMod", spec := "bareissMod", unfollowed := true, recurses := true, apart := false, narrowed := true }
def BareissModUptoSaid : Prop := bareissModUptoRow.holds Try.pinned (OpenSpec.upto bareissModSpec)

/-- 'rankmerelaw2.BareissHadamard', WHERE WHAT IT READS IS OF BULK AT MOST 1048576: true; the input reads as it did. -/
def bareissHadamardUptoRow : OpenClaim := { program := "ytlpeffddjppeeaa", sum := "d9b86430c490f4d59f589970606ca4d9f1909f2910dd2af210499e4279c48d35", func := "rankmere/rankmerelaw2.BareissHadamard", spec := "bareissHadamard", unfollowed := true, recurses := true, apart := false, narrowed := true }
def BareissHadamardUptoSaid : Prop := bareissHadamardUptoRow.holds Try.pinned (OpenSpec.upto bareissHadamardSpec)

/-- 'rankmerelaw2.BareissHeavy', WHERE WHAT IT READS IS OF BULK AT MOST 1048576: true; the input reads as it did. -/
def bareissHeavyUptoRow : OpenClaim := { program := "ytlpeffddjppeeaa", sum := "d9b86430c490f4d59f589970606ca4d9f1909f2910dd2af210499e4279c48d35", func := "rankmere/rankmerelaw2.BareissHeavy", spec := "bareissHeavy", unfollowed := true, recurses := true, apart := false, narrowed := true }
def BareissHeavyUptoSaid : Prop := bareissHeavyUptoRow.holds Try.pinned (OpenSpec.upto bareissHeavySpec)

end Rows
end Go.Proofs.Ytlpeffddjppeeaa
