/-
  No cell of these rows narrows 'for every input' (looked for: loops, veiled, ifaces, maps, wideKeys, modest, calm, conditions, laid).
  DERIVED. THE GIVEN ROWS OF THIS SEAT. 4 by the template 'for every input the law returns true; each argument reads behind the call as it read before'; 0 by the template 'total and deterministic' (their statements: YtologiinkilooaaTotals.lean).
  GIVEN WITH THE SEED: the statements are not yours to turn. If you find one false, say at which input.
  Laid BY PROGRAM, IN A SANDBOX (cutbox-rows.mjs): the forced cells as the released guide's own fill.sh prints them over the translation 8b7dba6edecf9fff… (all of the seat's roots in one cut). By AI agents, Wed Nov 11 2026. No macro, syntax, notation, axiom, sorry.
-/
import Derived.Test.YtologiinkilooaaChecked
import GoSem.Claim
import GoSem.ClaimJoined
import GoSem.ClaimMapViews
import Derived.JoinedTies
import Derived.KernelRfl
namespace Go.Proofs.Ytologiinkilooaa
/- THE CELL 'sum', in the pinned program and in every row, IS THE sha256 OF THE DUMP (.gsa) THAT YtologiinkilooaaProg.lean LOADS. Nothing in Lean hashes anything: it is a label: what it is worth is what the hold of that sum in a sandbox is worth. -/
noncomputable def Try.pinned : Pinned := { name := "ytologiinkilooaa", sum := "8b7dba6edecf9fffa82806dca9d8f2e55b972a64af71f858811b3d4cc6c151ae", checked := Try.checked }
namespace Rows
def none {H : Type} : Left H := { results := [], args := [] }

/-- 'rankmerelaw3.CharCayley': WHATEVER THE INPUT: true; the input reads as it did. -/
def charCayleySpec : ChangeSpec := { name := "charCayley", fn := fun _ => fun
  | [d] => { results := [.lit (.bool true)], args := [d] }
  | _ => none }
def charCayleyRow : OpenClaim := { program := "ytologiinkilooaa", sum := "8b7dba6edecf9fffa82806dca9d8f2e55b972a64af71f858811b3d4cc6c151ae", func := "rankmere/rankmerelaw3.CharCayley", spec := "charCayley", unfollowed := true, recurses := true, apart := false }
def CharCayleySaid : Prop := charCayleyRow.holds Try.pinned (OpenSpec.ofChange charCayleySpec)

/-- ITS FALSE NEIGHBOUR: 'it returns false'. Refute it at one input. -/
def charCayleyWrong : ChangeSpec := { name := "charCayley", fn := fun _ => fun
  | [d] => { results := [.lit (.bool false)], args := [d] }
  | _ => none }
def CharCayleyWrongFalsely : Prop := charCayleyRow.holds Try.pinned (OpenSpec.ofChange charCayleyWrong)

/-- 'rankmerelaw3.CharEnds': WHATEVER THE INPUT: true; the input reads as it did. -/
def charEndsSpec : ChangeSpec := { name := "charEnds", fn := fun _ => fun
  | [d] => { results := [.lit (.bool true)], args := [d] }
  | _ => none }
def charEndsRow : OpenClaim := { program := "ytologiinkilooaa", sum := "8b7dba6edecf9fffa82806dca9d8f2e55b972a64af71f858811b3d4cc6c151ae", func := "rankmere/rankmerelaw3.CharEnds", spec := "charEnds", unfollowed := true, recurses := true, apart := false }
def CharEndsSaid : Prop := charEndsRow.holds Try.pinned (OpenSpec.ofChange charEndsSpec)

/-- ITS FALSE NEIGHBOUR: 'it returns false'. Refute it at one input. -/
def charEndsWrong : ChangeSpec := { name := "charEnds", fn := fun _ => fun
  | [d] => { results := [.lit (.bool false)], args := [d] }
  | _ => none }
def CharEndsWrongFalsely : Prop := charEndsRow.holds Try.pinned (OpenSpec.ofChange charEndsWrong)

/-- 'rankmeretop.TopDets': WHATEVER THE INPUT: true; the input reads as it did. -/
def topDetsSpec : ChangeSpec := { name := "topDets", fn := fun _ => fun
  | [d] => { results := [.lit (.bool true)], args := [d] }
  | _ => none }
def topDetsRow : OpenClaim := { program := "ytologiinkilooaa", sum := "8b7dba6edecf9fffa82806dca9d8f2e55b972a64af71f858811b3d4cc6c151ae", func := "rankmere/rankmeretop.TopDets", spec := "topDets", unfollowed := true, recurses := true, apart := false }
def TopDetsSaid : Prop := topDetsRow.holds Try.pinned (OpenSpec.ofChange topDetsSpec)

/-- ITS FALSE NEIGHBOUR: 'it returns false'. Refute it at one input. -/
def topDetsWrong : ChangeSpec := { name := "topDets", fn := fun _ => fun
  | [d] => { results := [.lit (.bool false)], args := [d] }
  | _ => none }
def TopDetsWrongFalsely : Prop := topDetsRow.holds Try.pinned (OpenSpec.ofChange topDetsWrong)

/-- 'rankmeretop.TopUndo': WHATEVER THE INPUT: true; the input reads as it did. -/
def topUndoSpec : ChangeSpec := { name := "topUndo", fn := fun _ => fun
  | [d] => { results := [.lit (.bool true)], args := [d] }
  | _ => none }
def topUndoRow : OpenClaim := { program := "ytologiinkilooaa", sum := "8b7dba6edecf9fffa82806dca9d8f2e55b972a64af71f858811b3d4cc6c151ae", func := "rankmere/rankmeretop.TopUndo", spec := "topUndo", unfollowed := true, recurses := true, apart := false }
def TopUndoSaid : Prop := topUndoRow.holds Try.pinned (OpenSpec.ofChange topUndoSpec)

/-- ITS FALSE NEIGHBOUR: 'it returns false'. Refute it at one input. -/
def topUndoWrong : ChangeSpec := { name := "topUndo", fn := fun _ => fun
  | [d] => { results := [.lit (.bool false)], args := [d] }
  | _ => none }
def TopUndoWrongFalsely : Prop := topUndoRow.holds Try.pinned (OpenSpec.ofChange topUndoWrong)

/- THE SECOND FORM. 'bulk': how many values and letters a reading holds, each counted each time it is reached (what is shared counts as often as it is met; a slice's spare places count too). A statement '..UptoSaid' is the law's where the arguments, and the package variables that the reading takes, are together of bulk at most 1048576: NARROWER than '..Said'. Prove '..Said' where nothing that the law and all that it calls make is longer than what came in: it says more and counts as full. Else prove '..UptoSaid'. A law counts once. -/
mutual
def uptoBulk {H : Type} : DataW H → Nat
  | .lit (.string bytes) => bytes.length + 1
  | .lit _ => 1
  | .nil => 1
  | .ptr d => uptoBulk d + 1
  | .slice elems spare => uptoBulkAll elems + uptoBulkAll spare + 1
  | .agg parts => uptoBulkAll parts + 1
  | .iface _ d => uptoBulk d + 1
  | .map entries => uptoBulkEntries entries + 1
  | .held _ => 1
def uptoBulkAll {H : Type} : List (DataW H) → Nat
  | [] => 0
  | d :: r => uptoBulk d + uptoBulkAll r
def uptoBulkEntries {H : Type} : List (Lit × DataW H) → Nat
  | [] => 0
  | x :: r => uptoBulkEntry x + uptoBulkEntries r
def uptoBulkEntry {H : Type} : Lit × DataW H → Nat
  | (.string bytes, d) => bytes.length + uptoBulk d + 1
  | (_, d) => uptoBulk d + 1
 end
def uptoSmall : (H : Type) → List (DataW H) → Bool := fun _ ds => decide (uptoBulkAll ds ≤ 1048576)
def OpenSpec.upto (s : _root_.Go.ChangeSpec) : _root_.Go.OpenSpec := { _root_.Go.OpenSpec.ofChange s with cond := some uptoSmall }

/-- 'rankmerelaw3.CharCayley', WHERE WHAT IT READS IS OF BULK AT MOST 1048576: true; the input reads as it did. -/
def charCayleyUptoRow : OpenClaim := { program := "ytologiinkilooaa", sum := "8b7dba6edecf9fffa82806dca9d8f2e55b972a64af71f858811b3d4cc6c151ae", func := "rankmere/rankmerelaw3.CharCayley", spec := "charCayley", unfollowed := true, recurses := true, apart := false, narrowed := true }
def CharCayleyUptoSaid : Prop := charCayleyUptoRow.holds Try.pinned (OpenSpec.upto charCayleySpec)

/-- 'rankmerelaw3.CharEnds', WHERE WHAT IT READS IS OF BULK AT MOST 1048576: true; the input reads as it did. -/
def charEndsUptoRow : OpenClaim := { program := "ytologiinkilooaa", sum := "8b7dba6edecf9fffa82806dca9d8f2e55b972a64af71f858811b3d4cc6c151ae", func := "rankmere/rankmerelaw3.CharEnds", spec := "charEnds", unfollowed := true, recurses := true, apart := false, narrowed := true }
def CharEndsUptoSaid : Prop := charEndsUptoRow.holds Try.pinned (OpenSpec.upto charEndsSpec)

/-- 'rankmeretop.TopDets', WHERE WHAT IT READS IS OF BULK AT MOST 1048576: true; the input reads as it did. -/
def topDetsUptoRow : OpenClaim := { program := "ytologiinkilooaa", sum := "8b7dba6edecf9fffa82806dca9d8f2e55b972a64af71f858811b3d4cc6c151ae", func := "rankmere/rankmeretop.TopDets", spec := "topDets", unfollowed := true, recurses := true, apart := false, narrowed := true }
def TopDetsUptoSaid : Prop := topDetsUptoRow.holds Try.pinned (OpenSpec.upto topDetsSpec)

/-- 'rankmeretop.TopUndo', WHERE WHAT IT READS IS OF BULK AT MOST 1048576: true; the input reads as it did. -/
def topUndoUptoRow : OpenClaim := { program := "ytologiinkilooaa", sum := "8b7dba6edecf9fffa82806dca9d8f2e55b972a64af71f858811b3d4cc6c151ae", func := "rankmere/rankmeretop.TopUndo", spec := "topUndo", unfollowed := true, recurses := true, apart := false, narrowed := true }
def TopUndoUptoSaid : Prop := topUndoUptoRow.holds Try.pinned (OpenSpec.upto topUndoSpec)

end Rows
end Go.Proofs.Ytologiinkilooaa
