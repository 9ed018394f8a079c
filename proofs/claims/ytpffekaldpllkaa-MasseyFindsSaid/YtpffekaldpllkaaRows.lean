/-
  No cell of these rows narrows 'for every input' (looked for: loops, veiled, ifaces, maps, wideKeys, modest, calm, conditions, laid).
  DERIVED. THE GIVEN ROWS OF THIS SEAT. 3 by the template 'for every input the law returns true; each argument reads behind the call as it read before'; 0 by the template 'total and deterministic' (their statements: YtpffekaldpllkaaTotals.lean).
  GIVEN WITH THE SEED: the statements are not yours to turn. If you find one false, say at which input.
  Laid BY PROGRAM, IN A SANDBOX (cutbox-rows.mjs): the forced cells as the released guide's own fill.sh prints them over the translation 460eead053762289… (all of the seat's roots in one cut). By AI agents, Wed Nov 11 2026. No macro, syntax, notation, axiom, sorry.
-/
import Derived.Test.YtpffekaldpllkaaChecked
import GoSem.Claim
import GoSem.ClaimJoined
import GoSem.ClaimMapViews
import Derived.JoinedTies
import Derived.KernelRfl
namespace Go.Proofs.Ytpffekaldpllkaa
/- THE CELL 'sum', in the pinned program and in every row, IS THE sha256 OF THE DUMP (.gsa) THAT YtpffekaldpllkaaProg.lean LOADS. Nothing in Lean hashes anything: it is a label: what it is worth is what the hold of that sum in a sandbox is worth. -/
noncomputable def Try.pinned : Pinned := { name := "ytpffekaldpllkaa", sum := "460eead05376228995567362dd852f143fcd5aadef1e7bd9f1f9946c6e1ad523", checked := Try.checked }
namespace Rows
def none {H : Type} : Left H := { results := [], args := [] }

/-- 'rankmerelaw3.MasseyFinds': WHATEVER THE INPUT: true; the input reads as it did. -/
def masseyFindsSpec : ChangeSpec := { name := "masseyFinds", fn := fun _ => fun
  | [d1, d2, d3] => { results := [.lit (.bool true)], args := [d1, d2, d3] }
  | _ => none }
def masseyFindsRow : OpenClaim := { program := "ytpffekaldpllkaa", sum := "460eead05376228995567362dd852f143fcd5aadef1e7bd9f1f9946c6e1ad523", func := "rankmere/rankmerelaw3.MasseyFinds", spec := "masseyFinds", apart := false }
def MasseyFindsSaid : Prop := masseyFindsRow.holds Try.pinned (OpenSpec.ofChange masseyFindsSpec)

/-- ITS FALSE NEIGHBOUR: 'it returns false'. Refute it at one input. -/
def masseyFindsWrong : ChangeSpec := { name := "masseyFinds", fn := fun _ => fun
  | [d1, d2, d3] => { results := [.lit (.bool false)], args := [d1, d2, d3] }
  | _ => none }
def MasseyFindsWrongFalsely : Prop := masseyFindsRow.holds Try.pinned (OpenSpec.ofChange masseyFindsWrong)

/-- 'rankmerelaw3.MasseyGrows': WHATEVER THE INPUT: true; the input reads as it did. -/
def masseyGrowsSpec : ChangeSpec := { name := "masseyGrows", fn := fun _ => fun
  | [d1, d2] => { results := [.lit (.bool true)], args := [d1, d2] }
  | _ => none }
def masseyGrowsRow : OpenClaim := { program := "ytpffekaldpllkaa", sum := "460eead05376228995567362dd852f143fcd5aadef1e7bd9f1f9946c6e1ad523", func := "rankmere/rankmerelaw3.MasseyGrows", spec := "masseyGrows", apart := false }
def MasseyGrowsSaid : Prop := masseyGrowsRow.holds Try.pinned (OpenSpec.ofChange masseyGrowsSpec)

/-- ITS FALSE NEIGHBOUR: 'it returns false'. Refute it at one input. -/
def masseyGrowsWrong : ChangeSpec := { name := "masseyGrows", fn := fun _ => fun
  | [d1, d2] => { results := [.lit (.bool false)], args := [d1, d2] }
  | _ => none }
def MasseyGrowsWrongFalsely : Prop := masseyGrowsRow.holds Try.pinned (OpenSpec.ofChange masseyGrowsWrong)

/-- 'rankmeretop.TopKrylov': WHATEVER THE INPUT: true; the input reads as it did. -/
def topKrylovSpec : ChangeSpec := { name := "topKrylov", fn := fun _ => fun
  | [d1, d2, d3] => { results := [.lit (.bool true)], args := [d1, d2, d3] }
  | _ => none }
def topKrylovRow : OpenClaim := { program := "ytpffekaldpllkaa", sum := "460eead05376228995567362dd852f143fcd5aadef1e7bd9f1f9946c6e1ad523", func := "rankmere/rankmeretop.TopKrylov", spec := "topKrylov", unfollowed := true, recurses := true, apart := false }
def TopKrylovSaid : Prop := topKrylovRow.holds Try.pinned (OpenSpec.ofChange topKrylovSpec)

/-- ITS FALSE NEIGHBOUR: 'it returns false'. Refute it at one input. -/
def topKrylovWrong : ChangeSpec := { name := "topKrylov", fn := fun _ => fun
  | [d1, d2, d3] => { results := [.lit (.bool false)], args := [d1, d2, d3] }
  | _ => none }
def TopKrylovWrongFalsely : Prop := topKrylovRow.holds Try.pinned (OpenSpec.ofChange topKrylovWrong)

/- THE SECOND FORM. 'bulk': how many values and letters a reading holds, each counted each time it is reached (what is shared counts as often as it is met; a slice's spare places count too). A statement '..UptoSaid' is the law's where the arguments, and the package variables that the reading takes, are together of bulk at most 1048576: NARROWER than '..Said'. Prove '..Said' where nothing that the law and all that it calls make is longer than what came in: it says more and counts as full. Else prove '..UptoSaid'. A law counts once. -/
mutual
def uptoBulk {H : Type} : DataW H → Nat
  | .lit (.string bytes) => bytes.length + 1
  | .lit _ => 1
  | .nil => 1
  | .ptr d => uptoBulk d + 1
  | .slice elems spare => uptoBulkAll elems + uptoBulkAll spare + 1
  | .agg parts => uptoBulkAll parts + 1
  | .iface _ d => uptoBulk d + 1
  | .map entries => uptoBulkEntries entries + 1
  | .held _ => 1
def uptoBulkAll {H : Type} : List (DataW H) → Nat
  | [] => 0
  | d :: r => uptoBulk d + uptoBulkAll r
def uptoBulkEntries {H : Type} : List (Lit × DataW H) → Nat
  | [] => 0
  | x :: r => uptoBulkEntry x + uptoBulkEntries r
def uptoBulkEntry {H : Type} : Lit × DataW H → Nat
  | (.string bytes, d) => bytes.length + uptoBulk d + 1
  | (_, d) => uptoBulk d + 1
 end
def uptoSmall : (H : Type) → List (DataW H) → Bool := fun _ ds => decide (uptoBulkAll ds ≤ 1048576)
def OpenSpec.upto (s : _root_.Go.ChangeSpec) : _root_.Go.OpenSpec := { _root_.Go.OpenSpec.ofChange s with cond := some uptoSmall }

/-- 'rankmerelaw3.MasseyFinds', WHERE WHAT IT READS IS OF BULK AT MOST 1048576: true; the input reads as it did. -/
def masseyFindsUptoRow : OpenClaim := { program := "ytpffekaldpllkaa", sum := "460eead05376228995567362dd852f143fcd5aadef1e7bd9f1f9946c6e1ad523", func := "rankmere/rankmerelaw3.MasseyFinds", spec := "masseyFinds", apart := false, narrowed := true }
def MasseyFindsUptoSaid : Prop := masseyFindsUptoRow.holds Try.pinned (OpenSpec.upto masseyFindsSpec)

/-- 'rankmerelaw3.MasseyGrows', WHERE WHAT IT READS IS OF BULK AT MOST 1048576: true; the input reads as it did. -/
def masseyGrowsUptoRow : OpenClaim := { program := "ytpffekaldpllkaa", sum := "460eead05376228995567362dd852f143fcd5aadef1e7bd9f1f9946c6e1ad523", func := "rankmere/rankmerelaw3.MasseyGrows", spec := "masseyGrows", apart := false, narrowed := true }
def MasseyGrowsUptoSaid : Prop := masseyGrowsUptoRow.holds Try.pinned (OpenSpec.upto masseyGrowsSpec)

/-- 'rankmeretop.TopKrylov', WHERE WHAT IT READS IS OF BULK AT MOST 1048576: true; the input reads as it did. -/
def topKrylovUptoRow : OpenClaim := { program := "ytpffekaldpllkaa", sum := "460eead05376228995567362dd852f143fcd5aadef1e7bd9f1f9946c6e1ad523", func := "rankmere/rankmeretop.TopKrylov", spec := "topKrylov", unfollowed := true, recurses := true, apart := false, narrowed := true }
def TopKrylovUptoSaid : Prop := topKrylovUptoRow.holds Try.pinned (OpenSpec.upto topKrylovSpec)

end Rows
end Go.Proofs.Ytpffekaldpllkaa
