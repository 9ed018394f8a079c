/-
  No cell of these rows narrows 'for every input' (looked for: loops, veiled, ifaces, maps, wideKeys, modest, calm, conditions, laid).
  DERIVED. THE GIVEN ROWS OF THIS SEAT. 3 by the template 'for every input the law returns true; each argument reads behind the call as it read before'; 0 by the template 'total and deterministic' (their statements: YteaonlmiifpjfaaTotals.lean).
  GIVEN WITH THE SEED: the statements are not yours to turn. If you find one false, say at which input.
  Laid BY PROGRAM, IN A SANDBOX (cutbox-rows.mjs): the forced cells as the released guide's own fill.sh prints them over the translation 832ab1cc72eed26c… (all of the seat's roots in one cut). By AI agents, Wed Nov 11 2026. No macro, syntax, notation, axiom, sorry.
-/
import Derived.Test.YteaonlmiifpjfaaChecked
import GoSem.Claim
import GoSem.ClaimJoined
import GoSem.ClaimMapViews
import Derived.JoinedTies
import Derived.KernelRfl
namespace Go.Proofs.Yteaonlmiifpjfaa
/- THE CELL 'sum', in the pinned program and in every row, IS THE sha256 OF THE DUMP (.gsa) THAT YteaonlmiifpjfaaProg.lean LOADS. Nothing in Lean hashes anything: it is a label: what it is worth is what the hold of that sum in a sandbox is worth. -/
noncomputable def Try.pinned : Pinned := { name := "yteaonlmiifpjfaa", sum := "832ab1cc72eed26cb50e719265d4ab3d4851fa3aa4a0af233da3a8f2fa1789e9", checked := Try.checked }
namespace Rows
def none {H : Type} : Left H := { results := [], args := [] }

/-- 'rankmerelaw1.IpolThrough': WHATEVER THE INPUT: true; the input reads as it did. -/
def ipolThroughSpec : ChangeSpec := { name := "ipolThrough", fn := fun _ => fun
  | [d1, d2, d3] => { results := [.lit (.bool true)], args := [d1, d2, d3] }
  | _ => none }
def ipolThroughRow : OpenClaim := { program := "yteaonlmiifpjfaa", sum := "832ab1cc72eed26cb50e719265d4ab3d4851fa3aa4a0af233da3a8f2fa1789e9", func := "rankmere/rankmerelaw1.IpolThrough", spec := "ipolThrough", apart := false }
def IpolThroughSaid : Prop := ipolThroughRow.holds Try.pinned (OpenSpec.ofChange ipolThroughSpec)

/-- ITS FALSE NEIGHBOUR: 'it returns false'. Refute it at one input. -/
def ipolThroughWrong : ChangeSpec := { name := "ipolThrough", fn := fun _ => fun
  | [d1, d2, d3] => { results := [.lit (.bool false)], args := [d1, d2, d3] }
  | _ => none }
def IpolThroughWrongFalsely : Prop := ipolThroughRow.holds Try.pinned (OpenSpec.ofChange ipolThroughWrong)

/-- 'rankmerelaw1.IpolSteps': WHATEVER THE INPUT: true; the input reads as it did. -/
def ipolStepsSpec : ChangeSpec := { name := "ipolSteps", fn := fun _ => fun
  | [d1, d2] => { results := [.lit (.bool true)], args := [d1, d2] }
  | _ => none }
def ipolStepsRow : OpenClaim := { program := "yteaonlmiifpjfaa", sum := "832ab1cc72eed26cb50e719265d4ab3d4851fa3aa4a0af233da3a8f2fa1789e9", func := "rankmere/rankmerelaw1.IpolSteps", spec := "ipolSteps", apart := false }
def IpolStepsSaid : Prop := ipolStepsRow.holds Try.pinned (OpenSpec.ofChange ipolStepsSpec)

/-- ITS FALSE NEIGHBOUR: 'it returns false'. Refute it at one input. -/
def ipolStepsWrong : ChangeSpec := { name := "ipolSteps", fn := fun _ => fun
  | [d1, d2] => { results := [.lit (.bool false)], args := [d1, d2] }
  | _ => none }
def IpolStepsWrongFalsely : Prop := ipolStepsRow.holds Try.pinned (OpenSpec.ofChange ipolStepsWrong)

/-- 'rankmerelaw1.IpolSum': WHATEVER THE INPUT: true; the input reads as it did. -/
def ipolSumSpec : ChangeSpec := { name := "ipolSum", fn := fun _ => fun
  | [d1, d2, d3] => { results := [.lit (.bool true)], args := [d1, d2, d3] }
  | _ => none }
def ipolSumRow : OpenClaim := { program := "yteaonlmiifpjfaa", sum := "832ab1cc72eed26cb50e719265d4ab3d4851fa3aa4a0af233da3a8f2fa1789e9", func := "rankmere/rankmerelaw1.IpolSum", spec := "ipolSum", apart := false }
def IpolSumSaid : Prop := ipolSumRow.holds Try.pinned (OpenSpec.ofChange ipolSumSpec)

/-- ITS FALSE NEIGHBOUR: 'it returns false'. Refute it at one input. -/
def ipolSumWrong : ChangeSpec := { name := "ipolSum", fn := fun _ => fun
  | [d1, d2, d3] => { results := [.lit (.bool false)], args := [d1, d2, d3] }
  | _ => none }
def IpolSumWrongFalsely : Prop := ipolSumRow.holds Try.pinned (OpenSpec.ofChange ipolSumWrong)

/- THE SECOND FORM. 'bulk': how many values and letters a reading holds, each counted each time it is reached (what is shared counts as often as it is met; a slice's spare places count too). A statement '..UptoSaid' is the law's where the arguments, and the package variables that the reading takes, are together of bulk at most 1048576: NARROWER than '..Said'. Prove '..Said' where nothing that the law and all that it calls make is longer than what came in: it says more and counts as full. Else prove '..UptoSaid'. A law counts once. -/
mutual
def uptoBulk {H : Type} : DataW H → Nat
  | .lit (.string bytes) => bytes.length + 1
  | .lit _ => 1
  | .nil => 1
  | .ptr d => uptoBulk d + 1
  | .slice elems spare => uptoBulkAll elems + uptoBulkAll spare + 1
  | .agg parts => uptoBulkAll parts + 1
  | .iface _ d => uptoBulk d + 1
  | .map entries => uptoBulkEntries entries + 1
  | .held _ => 1
def uptoBulkAll {H : Type} : List (DataW H) → Nat
  | [] => 0
  | d :: r => uptoBulk d + uptoBulkAll r
def uptoBulkEntries {H : Type} : List (Lit × DataW H) → Nat
  | [] => 0
  | x :: r => uptoBulkEntry x + uptoBulkEntries r
def uptoBulkEntry {H : Type} : Lit × DataW H → Nat
  | (.string bytes, d) => bytes.length + uptoBulk d + 1
  | (_, d) => uptoBulk d + 1
 end
def uptoSmall : (H : Type) → List (DataW H) → Bool := fun _ ds => decide (uptoBulkAll ds ≤ 1048576)
def OpenSpec.upto (s : _root_.Go.ChangeSpec) : _root_.Go.OpenSpec := { _root_.Go.OpenSpec.ofChange s with cond := some uptoSmall }

/-- 'rankmerelaw1.IpolThrough', WHERE WHAT IT READS IS OF BULK AT MOST 1048576: true; the input reads as it did. -/
def ipolThroughUptoRow : OpenClaim := { program := "yteaonlmiifpjfaa", sum := "832ab1cc72eed26cb50e719265d4ab3d4851fa3aa4a0af233da3a8f2fa1789e9", func := "rankmere/rankmerelaw1.IpolThrough", spec := "ipolThrough", apart := false, narrowed := true }
def IpolThroughUptoSaid : Prop := ipolThroughUptoRow.holds Try.pinned (OpenSpec.upto ipolThroughSpec)

/-- 'rankmerelaw1.IpolSteps', WHERE WHAT IT READS IS OF BULK AT MOST 1048576: true; the input reads as it did. -/
def ipolStepsUptoRow : OpenClaim := { program := "yteaonlmiifpjfaa", sum := "832ab1cc72eed26cb50e719265d4ab3d4851fa3aa4a0af233da3a8f2fa1789e9", func := "rankmere/rankmerelaw1.IpolSteps", spec := "ipolSteps", apart := false, narrowed := true }
def IpolStepsUptoSaid : Prop := ipolStepsUptoRow.holds Try.pinned (OpenSpec.upto ipolStepsSpec)

/-- 'rankmerelaw1.IpolSum', WHERE WHAT IT READS IS OF BULK AT MOST 1048576: true; the input reads as it did. -/
def ipolSumUptoRow : OpenClaim := { program := "yteaonlmiifpjfaa", sum := "832ab1cc72eed26cb50e719265d4ab3d4851fa3aa4a0af233da3a8f2fa1789e9", func := "rankmere/rankmerelaw1.IpolSum", spec := "ipolSum", apart := false, narrowed := true }
def IpolSumUptoSaid : Prop := ipolSumUptoRow.holds Try.pinned (OpenSpec.upto ipolSumSpec)

end Rows
end Go.Proofs.Yteaonlmiifpjfaa
