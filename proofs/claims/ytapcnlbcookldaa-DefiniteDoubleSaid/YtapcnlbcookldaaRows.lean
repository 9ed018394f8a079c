/-
  No cell of these rows narrows 'for every input' (looked for: loops, veiled, ifaces, maps, wideKeys, modest, calm, conditions, laid).
  DERIVED. THE GIVEN ROWS OF THIS SEAT. 4 by the template 'for every input the law returns true; each argument reads behind the call as it read before'; 0 by the template 'total and deterministic' (their statements: YtapcnlbcookldaaTotals.lean).
  GIVEN WITH THE SEED: the statements are not yours to turn. If you find one false, say at which input.
  Laid BY PROGRAM, IN A SANDBOX (cutbox-rows.mjs): the forced cells as the released guide's own fill.sh prints them over the translation eb98744eecdfe90a… (all of the seat's roots in one cut). By AI agents, Wed Nov 11 2026. No macro, syntax, notation, axiom, sorry.
-/
import Derived.Test.YtapcnlbcookldaaChecked
import GoSem.Claim
import GoSem.ClaimJoined
import GoSem.ClaimMapViews
import Derived.JoinedTies
import Derived.KernelRfl
namespace Go.Proofs.Ytapcnlbcookldaa
/- THE CELL 'sum', in the pinned program and in every row, IS THE sha256 OF THE DUMP (.gsa) THAT YtapcnlbcookldaaProg.lean LOADS. Nothing in Lean hashes anything: it is a label: what it is worth is what the hold of that sum in a sandbox is worth. -/
noncomputable def Try.pinned : Pinned := { name := "ytapcnlbcookldaa", sum := "eb98744eecdfe90ac0d1b799a36b845222328deb822f64a9cc8f7f73abe88a59", checked := Try.checked }
namespace Rows
def none {H : Type} : Left H := { results := [], args := [] }

/-- 'rankmerelaw3.DefiniteAbove': WHATEVER THE INPUT: true; the input reads as it did. -/
def definiteAboveSpec : ChangeSpec := { name := "definiteAbove", fn := fun _ => fun
  | [d1, d2] => { results := [.lit (.bool true)], args := [d1, d2] }
  | _ => none }
def definiteAboveRow : OpenClaim := { program := "ytapcnlbcookldaa", sum := "eb98744eecdfe90ac0d1b799a36b845222328deb822f64a9cc8f7f73abe88a59", func := "rankmere/rankmerelaw3.DefiniteAbove", spec := "definiteAbove", unfollowed := true, recurses := true, apart := false }
def DefiniteAboveSaid : Prop := definiteAboveRow.holds Try.pinned (OpenSpec.ofChange definiteAboveSpec)

/-- ITS FALSE NEIGHBOUR: 'it returns false'. Refute it at one input. -/
def definiteAboveWrong : ChangeSpec := { name := "definiteAbove", fn := fun _ => fun
  | [d1, d2] => { results := [.lit (.bool false)], args := [d1, d2] }
  | _ => none }
def DefiniteAboveWrongFalsely : Prop := definiteAboveRow.holds Try.pinned (OpenSpec.ofChange definiteAboveWrong)

/-- 'rankmerelaw3.DefiniteMiddle': WHATEVER THE INPUT: true; the input reads as it did. -/
def definiteMiddleSpec : ChangeSpec := { name := "definiteMiddle", fn := fun _ => fun
  | [d] => { results := [.lit (.bool true)], args := [d] }
  | _ => none }
def definiteMiddleRow : OpenClaim := { program := "ytapcnlbcookldaa", sum := "eb98744eecdfe90ac0d1b799a36b845222328deb822f64a9cc8f7f73abe88a59", func := "rankmere/rankmerelaw3.DefiniteMiddle", spec := "definiteMiddle", unfollowed := true, recurses := true, apart := false }
def DefiniteMiddleSaid : Prop := definiteMiddleRow.holds Try.pinned (OpenSpec.ofChange definiteMiddleSpec)

/-- ITS FALSE NEIGHBOUR: 'it returns false'. Refute it at one input. -/
def definiteMiddleWrong : ChangeSpec := { name := "definiteMiddle", fn := fun _ => fun
  | [d] => { results := [.lit (.bool false)], args := [d] }
  | _ => none }
def DefiniteMiddleWrongFalsely : Prop := definiteMiddleRow.holds Try.pinned (OpenSpec.ofChange definiteMiddleWrong)

/-- 'rankmerelaw3.DefiniteSum': WHATEVER THE INPUT: true; the input reads as it did. -/
def definiteSumSpec : ChangeSpec := { name := "definiteSum", fn := fun _ => fun
  | [d1, d2] => { results := [.lit (.bool true)], args := [d1, d2] }
  | _ => none }
def definiteSumRow : OpenClaim := { program := "ytapcnlbcookldaa", sum := "eb98744eecdfe90ac0d1b799a36b845222328deb822f64a9cc8f7f73abe88a59", func := "rankmere/rankmerelaw3.DefiniteSum", spec := "definiteSum", unfollowed := true, recurses := true, apart := false }
def DefiniteSumSaid : Prop := definiteSumRow.holds Try.pinned (OpenSpec.ofChange definiteSumSpec)

/-- ITS FALSE NEIGHBOUR: 'it returns false'. Refute it at one input. -/
def definiteSumWrong : ChangeSpec := { name := "definiteSum", fn := fun _ => fun
  | [d1, d2] => { results := [.lit (.bool false)], args := [d1, d2] }
  | _ => none }
def DefiniteSumWrongFalsely : Prop := definiteSumRow.holds Try.pinned (OpenSpec.ofChange definiteSumWrong)

/-- 'rankmerelaw3.DefiniteDouble': WHATEVER THE INPUT: true; the input reads as it did. -/
def definiteDoubleSpec : ChangeSpec := { name := "definiteDouble", fn := fun _ => fun
  | [d1, d2, d3] => { results := [.lit (.bool true)], args := [d1, d2, d3] }
  | _ => none }
def definiteDoubleRow : OpenClaim := { program := "ytapcnlbcookldaa", sum := "eb98744eecdfe90ac0d1b799a36b845222328deb822f64a9cc8f7f73abe88a59", func := "rankmere/rankmerelaw3.DefiniteDouble", spec := "definiteDouble", unfollowed := true, recurses := true, apart := false }
def DefiniteDoubleSaid : Prop := definiteDoubleRow.holds Try.pinned (OpenSpec.ofChange definiteDoubleSpec)

/-- ITS FALSE NEIGHBOUR: 'it returns false'. Refute it at one input. -/
def definiteDoubleWrong : ChangeSpec := { name := "definiteDouble", fn := fun _ => fun
  | [d1, d2, d3] => { results := [.lit (.bool false)], args := [d1, d2, d3] }
  | _ => none }
def DefiniteDoubleWrongFalsely : Prop := definiteDoubleRow.holds Try.pinned (OpenSpec.ofChange definiteDoubleWrong)

/- THE SECOND FORM. 'bulk': how many values and letters a reading holds, each counted each time it is reached (what is shared counts as often as it is met; a slice's spare places count too). A statement '..UptoSaid' is the law's where the arguments, and the package variables that the reading takes, are together of bulk at most 1048576: NARROWER than '..Said'. Prove '..Said' where nothing that the law and all that it calls make is longer than what came in: it says more and counts as full. Else prove '..UptoSaid'. A law counts once. -/
mutual
def uptoBulk {H : Type} : DataW H → Nat
  | .lit (.string bytes) => bytes.length + 1
  | .lit _ => 1
  | .nil => 1
  | .ptr d => uptoBulk d + 1
  | .slice elems spare => uptoBulkAll elems + uptoBulkAll spare + 1
  | .agg parts => uptoBulkAll parts + 1
  | .iface _ d => uptoBulk d + 1
  | .map entries => uptoBulkEntries entries + 1
  | .held _ => 1
def uptoBulkAll {H : Type} : List (DataW H) → Nat
  | [] => 0
  | d :: r => uptoBulk d + uptoBulkAll r
def uptoBulkEntries {H : Type} : List (Lit × DataW H) → Nat
  | [] => 0
  | x :: r => uptoBulkEntry x + uptoBulkEntries r
def uptoBulkEntry {H : Type} : Lit × DataW H → Nat
  | (.string bytes, d) => bytes.length + uptoBulk d + 1
  | (_, d) => uptoBulk d + 1
 end
def uptoSmall : (H : Type) → List (DataW H) → Bool := fun _ ds => decide (uptoBulkAll ds ≤ 1048576)
def OpenSpec.upto (s : _root_.Go.ChangeSpec) : _root_.Go.OpenSpec := { _root_.Go.OpenSpec.ofChange s with cond := some uptoSmall }

/-- 'rankmerelaw3.DefiniteAbove', WHERE WHAT IT READS IS OF BULK AT MOST 1048576: true; the input reads as it did. -/
def definiteAboveUptoRow : OpenClaim := { program := "ytapcnlbcookldaa", sum := "eb98744eecdfe90ac0d1b799a36b845222328deb822f64a9cc8f7f73abe88a59", func := "rankmere/rankmerelaw3.DefiniteAbove", spec := "definiteAbove", unfollowed := true, recurses := true, apart := false, narrowed := true }
def DefiniteAboveUptoSaid : Prop := definiteAboveUptoRow.holds Try.pinned (OpenSpec.upto definiteAboveSpec)

/-- 'rankmerelaw3.DefiniteMiddle', WHERE WHAT IT READS IS OF BULK AT MOST 1048576: true; the input reads as it did. -/
def definiteMiddleUptoRow : OpenClaim := { program := "ytapcnlbcookldaa", sum := "eb98744eecdfe90ac0d1b799a36b845222328deb822f64a9cc8f7f73abe88a59", func := "rankmere/rankmerelaw3.DefiniteMiddle", spec := "definiteMiddle", unfollowed := true, recurses := true, apart := false, narrowed := true }
def DefiniteMiddleUptoSaid : Prop := definiteMiddleUptoRow.holds Try.pinned (OpenSpec.upto definiteMiddleSpec)

/-- 'rankmerelaw3.DefiniteSum', WHERE WHAT IT READS IS OF BULK AT MOST 1048576: true; the input reads as it did. -/
def definiteSumUptoRow : OpenClaim := { program := "ytapcnlbcookldaa", sum := "eb98744eecdfe90ac0d1b799a36b845222328deb822f64a9cc8f7f73abe88a59", func := "rankmere/rankmerelaw3.DefiniteSum", spec := "definiteSum", unfollowed := true, recurses := true, apart := false, narrowed := true }
def DefiniteSumUptoSaid : Prop := definiteSumUptoRow.holds Try.pinned (OpenSpec.upto definiteSumSpec)

/-- 'rankmerelaw3.DefiniteDouble', WHERE WHAT IT READS IS OF BULK AT MOST 1048576: true; the input reads as it did. -/
def definiteDoubleUptoRow : OpenClaim := { program := "ytapcnlbcookldaa", sum := "eb98744eecdfe90ac0d1b799a36b845222328deb822f64a9cc8f7f73abe88a59", func := "rankmere/rankmerelaw3.DefiniteDouble", spec := "definiteDouble", unfollowed := true, recurses := true, apart := false, narrowed := true }
def DefiniteDoubleUptoSaid : Prop := definiteDoubleUptoRow.holds Try.pinned (OpenSpec.upto definiteDoubleSpec)

end Rows
end Go.Proofs.Ytapcnlbcookldaa
