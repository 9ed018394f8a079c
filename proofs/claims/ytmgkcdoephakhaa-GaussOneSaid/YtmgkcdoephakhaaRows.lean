/-
  No cell of these rows narrows 'for every input' (looked for: loops, veiled, ifaces, maps, wideKeys, modest, calm, conditions, laid).
  DERIVED. THE GIVEN ROWS OF THIS SEAT. 3 by the template 'for every input the law returns true; each argument reads behind the call as it read before'; 0 by the template 'total and deterministic' (their statements: YtmgkcdoephakhaaTotals.lean).
  GIVEN WITH THE SEED: the statements are not yours to turn. If you find one false, say at which input.
  Laid BY PROGRAM, IN A SANDBOX (cutbox-rows.mjs): the forced cells as the released guide's own fill.sh prints them over the translation 55e8585721f54b08… (all of the seat's roots in one cut). By AI agents, Wed Nov 11 2026. No macro, syntax, notation, axiom, sorry.
-/
import Derived.Test.YtmgkcdoephakhaaChecked
import GoSem.Claim
import GoSem.ClaimJoined
import GoSem.ClaimMapViews
import Derived.JoinedTies
import Derived.KernelRfl
namespace Go.Proofs.Ytmgkcdoephakhaa
/- THE CELL 'sum', in the pinned program and in every row, IS THE sha256 OF THE DUMP (.gsa) THAT YtmgkcdoephakhaaProg.lean LOADS. Nothing in Lean hashes anything: it is a label: what it is worth is what the hold of that sum in a sandbox is worth. -/
noncomputable def Try.pinned : Pinned := { name := "ytmgkcdoephakhaa", sum := "55e8585721f54b08c1d50fecbb4e9d1d1ff16914b478ce2737e7a8c311d55cd5", checked := Try.checked }
namespace Rows
def none {H : Type} : Left H := { results := [], args := [] }

/-- 'rankmerelaw2.GaussRank': WHATEVER THE INPUT: true; the input reads as it did. -/
def gaussRankSpec : ChangeSpec := { name := "gaussRank", fn := fun _ => fun
  | [d1, d2] => { results := [.lit (.bool true)], args := [d1, d2] }
  | _ => none }
def gaussRankRow : OpenClaim := { program := "ytmgkcdoephakhaa", sum := "55e8585721f54b08c1d50fecbb4e9d1d1ff16914b478ce2737e7a8c311d55cd5", func := "rankmere/rankmerelaw2.GaussRank", spec := "gaussRank", unfollowed := true, recurses := true, apart := false }
def GaussRankSaid : Prop := gaussRankRow.holds Try.pinned (OpenSpec.ofChange gaussRankSpec)

/-- ITS FALSE NEIGHBOUR: 'it returns false'. Refute it at one input. -/
def gaussRankWrong : ChangeSpec := { name := "gaussRank", fn := fun _ => fun
  | [d1, d2] => { results := [.lit (.bool false)], args := [d1, d2] }
  | _ => none }
def GaussRankWrongFalsely : Prop := gaussRankRow.holds Try.pinned (OpenSpec.ofChange gaussRankWrong)

/-- 'rankmerelaw2.GaussSum': WHATEVER THE INPUT: true; the input reads as it did. -/
def gaussSumSpec : ChangeSpec := { name := "gaussSum", fn := fun _ => fun
  | [d1, d2] => { results := [.lit (.bool true)], args := [d1, d2] }
  | _ => none }
def gaussSumRow : OpenClaim := { program := "ytmgkcdoephakhaa", sum := "55e8585721f54b08c1d50fecbb4e9d1d1ff16914b478ce2737e7a8c311d55cd5", func := "rankmere/rankmerelaw2.GaussSum", spec := "gaussSum", unfollowed := true, recurses := true, apart := false }
def GaussSumSaid : Prop := gaussSumRow.holds Try.pinned (OpenSpec.ofChange gaussSumSpec)

/-- ITS FALSE NEIGHBOUR: 'it returns false'. Refute it at one input. -/
def gaussSumWrong : ChangeSpec := { name := "gaussSum", fn := fun _ => fun
  | [d1, d2] => { results := [.lit (.bool false)], args := [d1, d2] }
  | _ => none }
def GaussSumWrongFalsely : Prop := gaussSumRow.holds Try.pinned (OpenSpec.ofChange gaussSumWrong)

/-- 'rankmerelaw2.GaussOne': WHATEVER THE INPUT: true; the input reads as it did. -/
def gaussOneSpec : ChangeSpec := { name := "gaussOne", fn := fun _ => fun
  | [d1, d2] => { results := [.lit (.bool true)], args := [d1, d2] }
  | _ => none }
def gaussOneRow : OpenClaim := { program := "ytmgkcdoephakhaa", sum := "55e8585721f54b08c1d50fecbb4e9d1d1ff16914b478ce2737e7a8c311d55cd5", func := "rankmere/rankmerelaw2.GaussOne", spec := "gaussOne", unfollowed := true, recurses := true, apart := false }
def GaussOneSaid : Prop := gaussOneRow.holds Try.pinned (OpenSpec.ofChange gaussOneSpec)

/-- ITS FALSE NEIGHBOUR: 'it returns false'. Refute it at one input. -/
def gaussOneWrong : ChangeSpec := { name := "gaussOne", fn := fun _ => fun
  | [d1, d2] => { results := [.lit (.bool false)], args := [d1, d2] }
  | _ => none }
def GaussOneWrongFalsely : Prop := gaussOneRow.holds Try.pinned (OpenSpec.ofChange gaussOneWrong)

/- THE SECOND FORM. 'bulk': how many values and letters a reading holds, each counted each time it is reached (what is shared counts as often as it is met; a slice's spare places count too). A statement '..UptoSaid' is the law's where the arguments, and the package variables that the reading takes, are together of bulk at most 1048576: NARROWER than '..Said'. Prove '..Said' where nothing that the law and all that it calls make is longer than what came in: it says more and counts as full. Else prove '..UptoSaid'. A law counts once. -/
mutual
def uptoBulk {H : Type} : DataW H → Nat
  | .lit (.string bytes) => bytes.length + 1
  | .lit _ => 1
  | .nil => 1
  | .ptr d => uptoBulk d + 1
  | .slice elems spare => uptoBulkAll elems + uptoBulkAll spare + 1
  | .agg parts => uptoBulkAll parts + 1
  | .iface _ d => uptoBulk d + 1
  | .map entries => uptoBulkEntries entries + 1
  | .held _ => 1
def uptoBulkAll {H : Type} : List (DataW H) → Nat
  | [] => 0
  | d :: r => uptoBulk d + uptoBulkAll r
def uptoBulkEntries {H : Type} : List (Lit × DataW H) → Nat
  | [] => 0
  | x :: r => uptoBulkEntry x + uptoBulkEntries r
def uptoBulkEntry {H : Type} : Lit × DataW H → Nat
  | (.string bytes, d) => bytes.length + uptoBulk d + 1
  | (_, d) => uptoBulk d + 1
 end
def uptoSmall : (H : Type) → List (DataW H) → Bool := fun _ ds => decide (uptoBulkAll ds ≤ 1048576)
def OpenSpec.upto (s : _root_.Go.ChangeSpec) : _root_.Go.OpenSpec := { _root_.Go.OpenSpec.ofChange s with cond := some uptoSmall }

/-- 'rankmerelaw2.GaussRank', WHERE WHAT IT READS IS OF BULK AT MOST 1048576: true; the input reads as it did. -/
def gaussRankUptoRow : OpenClaim := { program := "ytmgkcdoephakhaa", sum := "55e8585721f54b08c1d50fecbb4e9d1d1ff16914b478ce2737e7a8c311d55cd5", func := "rankmere/rankmerelaw2.GaussRank", spec := "gaussRank", unfollowed := true, recurses := true, apart := false, narrowed := true }
def GaussRankUptoSaid : Prop := gaussRankUptoRow.holds Try.pinned (OpenSpec.upto gaussRankSpec)

/-- 'rankmerelaw2.GaussSum', WHERE WHAT IT READS IS OF BULK AT MOST 1048576: true; the input reads as it did. -/
def gaussSumUptoRow : OpenClaim := { program := "ytmgkcdoephakhaa", sum := "55e8585721f54b08c1d50fecbb4e9d1d1ff16914b478ce2737e7a8c311d55cd5", func := "rankmere/rankmerelaw2.GaussSum", spec := "gaussSum", unfollowed := true, recurses := true, apart := false, narrowed := true }
def GaussSumUptoSaid : Prop := gaussSumUptoRow.holds Try.pinned (OpenSpec.upto gaussSumSpec)

/-- 'rankmerelaw2.GaussOne', WHERE WHAT IT READS IS OF BULK AT MOST 1048576: true; the input reads as it did. -/
def gaussOneUptoRow : OpenClaim := { program := "ytmgkcdoephakhaa", sum := "55e8585721f54b08c1d50fecbb4e9d1d1ff16914b478ce2737e7a8c311d55cd5", func := "rankmere/rankmerelaw2.GaussOne", spec := "gaussOne", unfollowed := true, recurses := true, apart := false, narrowed := true }
def GaussOneUptoSaid : Prop := gaussOneUptoRow.holds Try.pinned (OpenSpec.upto gaussOneSpec)

end Rows
end Go.Proofs.Ytmgkcdoephakhaa
