/-
  No cell of these rows narrows 'for every input' (looked for: loops, veiled, ifaces, maps, wideKeys, modest, calm, conditions, laid).
  DERIVED. THE GIVEN ROWS OF THIS SEAT. 3 by the template 'for every input the law returns true; each argument reads behind the call as it read before'; 0 by the template 'total and deterministic' (their statements: YtnjbpikcglakoaaTotals.lean).
  GIVEN WITH THE SEED: the statements are not yours to turn. If you find one false, say at which input.
  Laid BY PROGRAM, IN A SANDBOX (cutbox-rows.mjs): the forced cells as the released guide's own fill.sh prints them over the translation 4b7ed37425c28f11… (all of the seat's roots in one cut). By AI agents, Wed Nov 11 2026. No macro, syntax, notation, axiom, sorry.
-/
import Derived.Test.YtnjbpikcglakoaaChecked
import GoSem.Claim
import GoSem.ClaimJoined
import GoSem.ClaimMapViews
import Derived.JoinedTies
import Derived.KernelRfl
namespace Go.Proofs.Ytnjbpikcglakoaa
/- THE CELL 'sum', in the pinned program and in every row, IS THE sha256 OF THE DUMP (.gsa) THAT YtnjbpikcglakoaaProg.lean LOADS. Nothing in Lean hashes anything: it is a label: what it is worth is what the hold of that sum in a sandbox is worth. -/
noncomputable def Try.pinned : Pinned := { name := "ytnjbpikcglakoaa", sum := "4b7ed37425c28f1111ac142fff6d1398254098db748b395ba29baa962f695f8d", checked := Try.checked }
namespace Rows
def none {H : Type} : Left H := { results := [], args := [] }

/-- 'rankmerelaw1.ContBack': WHATEVER THE INPUT: true; the input reads as it did. -/
def contBackSpec : ChangeSpec := { name := "contBack", fn := fun _ => fun
  | [d] => { results := [.lit (.bool true)], args := [d] }
  | _ => none }
def contBackRow : OpenClaim := { program := "ytnjbpikcglakoaa", sum := "4b7ed37425c28f1111ac142fff6d1398254098db748b395ba29baa962f695f8d", func := "rankmere/rankmerelaw1.ContBack", spec := "contBack", recurses := true, apart := false }
def ContBackSaid : Prop := contBackRow.holds Try.pinned (OpenSpec.ofChange contBackSpec)

/-- ITS FALSE NEIGHBOUR: 'it returns false'. Refute it at one input. -/
def contBackWrong : ChangeSpec := { name := "contBack", fn := fun _ => fun
  | [d] => { results := [.lit (.bool false)], args := [d] }
  | _ => none }
def ContBackWrongFalsely : Prop := contBackRow.holds Try.pinned (OpenSpec.ofChange contBackWrong)

/-- 'rankmerelaw1.ContNext': WHATEVER THE INPUT: true; the input reads as it did. -/
def contNextSpec : ChangeSpec := { name := "contNext", fn := fun _ => fun
  | [d] => { results := [.lit (.bool true)], args := [d] }
  | _ => none }
def contNextRow : OpenClaim := { program := "ytnjbpikcglakoaa", sum := "4b7ed37425c28f1111ac142fff6d1398254098db748b395ba29baa962f695f8d", func := "rankmere/rankmerelaw1.ContNext", spec := "contNext", apart := false }
def ContNextSaid : Prop := contNextRow.holds Try.pinned (OpenSpec.ofChange contNextSpec)

/-- ITS FALSE NEIGHBOUR: 'it returns false'. Refute it at one input. -/
def contNextWrong : ChangeSpec := { name := "contNext", fn := fun _ => fun
  | [d] => { results := [.lit (.bool false)], args := [d] }
  | _ => none }
def ContNextWrongFalsely : Prop := contNextRow.holds Try.pinned (OpenSpec.ofChange contNextWrong)

/-- 'rankmerelaw1.ContBest': WHATEVER THE INPUT: true; the input reads as it did. -/
def contBestSpec : ChangeSpec := { name := "contBest", fn := fun _ => fun
  | [d1, d2, d3, d4] => { results := [.lit (.bool true)], args := [d1, d2, d3, d4] }
  | _ => none }
def contBestRow : OpenClaim := { program := "ytnjbpikcglakoaa", sum := "4b7ed37425c28f1111ac142fff6d1398254098db748b395ba29baa962f695f8d", func := "rankmere/rankmerelaw1.ContBest", spec := "contBest", apart := false }
def ContBestSaid : Prop := contBestRow.holds Try.pinned (OpenSpec.ofChange contBestSpec)

/-- ITS FALSE NEIGHBOUR: 'it returns false'. Refute it at one input. -/
def contBestWrong : ChangeSpec := { name := "contBest", fn := fun _ => fun
  | [d1, d2, d3, d4] => { results := [.lit (.bool false)], args := [d1, d2, d3, d4] }
  | _ => none }
def ContBestWrongFalsely : Prop := contBestRow.holds Try.pinned (OpenSpec.ofChange contBestWrong)

/- THE SECOND FORM. 'bulk': how many values and letters a reading holds, each counted each time it is reached (what is shared counts as often as it is met; a slice's spare places count too). A statement '..UptoSaid' is the law's where the arguments, and the package variables that the reading takes, are together of bulk at most 1048576: NARROWER than '..Said'. Prove '..Said' where nothing that the law and all that it calls make is longer than what came in: it says more and counts as full. Else prove '..UptoSaid'. A law counts once. -/
mutual
def uptoBulk {H : Type} : DataW H → Nat
  | .lit (.string bytes) => bytes.length + 1
  | .lit _ => 1
  | .nil => 1
  | .ptr d => uptoBulk d + 1
  | .slice elems spare => uptoBulkAll elems + uptoBulkAll spare + 1
  | .agg parts => uptoBulkAll parts + 1
  | .iface _ d => uptoBulk d + 1
  | .map entries => uptoBulkEntries entries + 1
  | .held _ => 1
def uptoBulkAll {H : Type} : List (DataW H) → Nat
  | [] => 0
  | d :: r => uptoBulk d + uptoBulkAll r
def uptoBulkEntries {H : Type} : List (Lit × DataW H) → Nat
  | [] => 0
  | x :: r => uptoBulkEntry x + uptoBulkEntries r
def uptoBulkEntry {H : Type} : Lit × DataW H → Nat
  | (.string bytes, d) => bytes.length + uptoBulk d + 1
  | (_, d) => uptoBulk d + 1
 end
def uptoSmall : (H : Type) → List (DataW H) → Bool := fun _ ds => decide (uptoBulkAll ds ≤ 1048576)
def OpenSpec.upto (s : _root_.Go.ChangeSpec) : _root_.Go.OpenSpec := { _root_.Go.OpenSpec.ofChange s with cond := some uptoSmall }

/-- 'rankmerelaw1.ContBack', WHERE WHAT IT READS IS OF BULK AT MOST 1048576: true; the input reads as it did. -/
def contBackUptoRow : OpenClaim := { program := "ytnjbpikcglakoaa", sum := "4b7ed37425c28f1111ac142fff6d1398254098db748b395ba29baa962f695f8d", func := "rankmere/rankmerelaw1.ContBack", spec := "contBack", recurses := true, apart := false, narrowed := true }
def ContBackUptoSaid : Prop := contBackUptoRow.holds Try.pinned (OpenSpec.upto contBackSpec)

/-- 'rankmerelaw1.ContNext', WHERE WHAT IT READS IS OF BULK AT MOST 1048576: true; the input reads as it did. -/
def contNextUptoRow : OpenClaim := { program := "ytnjbpikcglakoaa", sum := "4b7ed37425c28f1111ac142fff6d1398254098db748b395ba29baa962f695f8d", func := "rankmere/rankmerelaw1.ContNext", spec := "contNext", apart := false, narrowed := true }
def ContNextUptoSaid : Prop := contNextUptoRow.holds Try.pinned (OpenSpec.upto contNextSpec)

/-- 'rankmerelaw1.ContBest', WHERE WHAT IT READS IS OF BULK AT MOST 1048576: true; the input reads as it did. -/
def contBestUptoRow : OpenClaim := { program := "ytnjbpikcglakoaa", sum := "4b7ed37425c28f1111ac142fff6d1398254098db748b395ba29baa962f695f8d", func := "rankmere/rankmerelaw1.ContBest", spec := "contBest", apart := false, narrowed := true }
def ContBestUptoSaid : Prop := contBestUptoRow.holds Try.pinned (OpenSpec.upto contBestSpec)

end Rows
end Go.Proofs.Ytnjbpikcglakoaa
