/-
  No cell of these rows narrows 'for every input' (looked for: loops, veiled, ifaces, maps, wideKeys, modest, calm, conditions, laid).
  DERIVED. THE GIVEN ROWS OF THIS SEAT. 5 by the template 'for every input the law returns true; each argument reads behind the call as it read before'; 0 by the template 'total and deterministic' (their statements: YtfjajcfcbjmbpaaTotals.lean).
  GIVEN WITH THE SEED: the statements are not yours to turn. If you find one false, say at which input.
  Laid BY PROGRAM, IN A SANDBOX (cutbox-rows.mjs): the forced cells as the released guide's own fill.sh prints them over the translation af8a01322b7b2160… (all of the seat's roots in one cut). By AI agents, Wed Nov 11 2026. No macro, syntax, notation, axiom, sorry.
-/
import Derived.Test.YtfjajcfcbjmbpaaChecked
import GoSem.Claim
import GoSem.ClaimJoined
import GoSem.ClaimMapViews
import Derived.JoinedTies
import Derived.KernelRfl
namespace Go.Proofs.Ytfjajcfcbjmbpaa
/- THE CELL 'sum', in the pinned program and in every row, IS THE sha256 OF THE DUMP (.gsa) THAT YtfjajcfcbjmbpaaProg.lean LOADS. Nothing in Lean hashes anything: it is a label: what it is worth is what the hold of that sum in a sandbox is worth. -/
noncomputable def Try.pinned : Pinned := { name := "ytfjajcfcbjmbpaa", sum := "af8a01322b7b2160457c08e666bc5bc2934981e5b9af44ae236270cc7e810361", checked := Try.checked }
namespace Rows
def none {H : Type} : Left H := { results := [], args := [] }

/-- 'rankmerelaw2.DetMul': WHATEVER THE INPUT: true; the input reads as it did. -/
def detMulSpec : ChangeSpec := { name := "detMul", fn := fun _ => fun
  | [d1, d2] => { results := [.lit (.bool true)], args := [d1, d2] }
  | _ => none }
def detMulRow : OpenClaim := { program := "ytfjajcfcbjmbpaa", sum := "af8a01322b7b2160457c08e666bc5bc2934981e5b9af44ae236270cc7e810361", func := "rankmere/rankmerelaw2.DetMul", spec := "detMul", unfollowed := true, recurses := true, apart := false }
def DetMulSaid : Prop := detMulRow.holds Try.pinned (OpenSpec.ofChange detMulSpec)

/-- ITS FALSE NEIGHBOUR: 'it returns false'. Refute it at one input. -/
def detMulWrong : ChangeSpec := { name := "detMul", fn := fun _ => fun
  | [d1, d2] => { results := [.lit (.bool false)], args := [d1, d2] }
  | _ => none }
def DetMulWrongFalsely : Prop := detMulRow.holds Try.pinned (OpenSpec.ofChange detMulWrong)

/-- 'rankmerelaw2.DetRows': WHATEVER THE INPUT: true; the input reads as it did. -/
def detRowsSpec : ChangeSpec := { name := "detRows", fn := fun _ => fun
  | [d1, d2, d3, d4] => { results := [.lit (.bool true)], args := [d1, d2, d3, d4] }
  | _ => none }
def detRowsRow : OpenClaim := { program := "ytfjajcfcbjmbpaa", sum := "af8a01322b7b2160457c08e666bc5bc2934981e5b9af44ae236270cc7e810361", func := "rankmere/rankmerelaw2.DetRows", spec := "detRows", unfollowed := true, recurses := true, apart := false }
def DetRowsSaid : Prop := detRowsRow.holds Try.pinned (OpenSpec.ofChange detRowsSpec)

/-- ITS FALSE NEIGHBOUR: 'it returns false'. Refute it at one input. -/
def detRowsWrong : ChangeSpec := { name := "detRows", fn := fun _ => fun
  | [d1, d2, d3, d4] => { results := [.lit (.bool false)], args := [d1, d2, d3, d4] }
  | _ => none }
def DetRowsWrongFalsely : Prop := detRowsRow.holds Try.pinned (OpenSpec.ofChange detRowsWrong)

/-- 'rankmerelaw2.DetSum': WHATEVER THE INPUT: true; the input reads as it did. -/
def detSumSpec : ChangeSpec := { name := "detSum", fn := fun _ => fun
  | [d1, d2, d3] => { results := [.lit (.bool true)], args := [d1, d2, d3] }
  | _ => none }
def detSumRow : OpenClaim := { program := "ytfjajcfcbjmbpaa", sum := "af8a01322b7b2160457c08e666bc5bc2934981e5b9af44ae236270cc7e810361", func := "rankmere/rankmerelaw2.DetSum", spec := "detSum", unfollowed := true, recurses := true, apart := false }
def DetSumSaid : Prop := detSumRow.holds Try.pinned (OpenSpec.ofChange detSumSpec)

/-- ITS FALSE NEIGHBOUR: 'it returns false'. Refute it at one input. -/
def detSumWrong : ChangeSpec := { name := "detSum", fn := fun _ => fun
  | [d1, d2, d3] => { results := [.lit (.bool false)], args := [d1, d2, d3] }
  | _ => none }
def DetSumWrongFalsely : Prop := detSumRow.holds Try.pinned (OpenSpec.ofChange detSumWrong)

/-- 'rankmerelaw2.DetZero': WHATEVER THE INPUT: true; the input reads as it did. -/
def detZeroSpec : ChangeSpec := { name := "detZero", fn := fun _ => fun
  | [d] => { results := [.lit (.bool true)], args := [d] }
  | _ => none }
def detZeroRow : OpenClaim := { program := "ytfjajcfcbjmbpaa", sum := "af8a01322b7b2160457c08e666bc5bc2934981e5b9af44ae236270cc7e810361", func := "rankmere/rankmerelaw2.DetZero", spec := "detZero", unfollowed := true, recurses := true, apart := false }
def DetZeroSaid : Prop := detZeroRow.holds Try.pinned (OpenSpec.ofChange detZeroSpec)

/-- ITS FALSE NEIGHBOUR: 'it returns false'. Refute it at one input. -/
def detZeroWrong : ChangeSpec := { name := "detZero", fn := fun _ => fun
  | [d] => { results := [.lit (.bool false)], args := [d] }
  | _ => none }
def DetZeroWrongFalsely : Prop := detZeroRow.holds Try.pinned (OpenSpec.ofChange detZeroWrong)

/-- 'rankmerelaw2.DetSign': WHATEVER THE INPUT: true; the input reads as it did. -/
def detSignSpec : ChangeSpec := { name := "detSign", fn := fun _ => fun
  | [d1, d2, d3] => { results := [.lit (.bool true)], args := [d1, d2, d3] }
  | _ => none }
def detSignRow : OpenClaim := { program := "ytfjajcfcbjmbpaa", sum := "af8a01322b7b2160457c08e666bc5bc2934981e5b9af44ae236270cc7e810361", func := "rankmere/rankmerelaw2.DetSign", spec := "detSign", unfollowed := true, recurses := true, apart := false }
def DetSignSaid : Prop := detSignRow.holds Try.pinned (OpenSpec.ofChange detSignSpec)

/-- ITS FALSE NEIGHBOUR: 'it returns false'. Refute it at one input. -/
def detSignWrong : ChangeSpec := { name := "detSign", fn := fun _ => fun
  | [d1, d2, d3] => { results := [.lit (.bool false)], args := [d1, d2, d3] }
  | _ => none }
def DetSignWrongFalsely : Prop := detSignRow.holds Try.pinned (OpenSpec.ofChange detSignWrong)

/- THE SECOND FORM. 'bulk': how many values and letters a reading holds, each counted each time it is reached (what is shared counts as often as it is met; a slice's spare places count too). A statement '..UptoSaid' is the law's where the arguments, and the package variables that the reading takes, are together of bulk at most 1048576: NARROWER than '..Said'. Prove '..Said' where nothing that the law and all that it calls make is longer than what came in: it says more and counts as full. Else prove '..UptoSaid'. A law counts once. -/
mutual
def uptoBulk {H : Type} : DataW H → Nat
  | .lit (.string bytes) => bytes.length + 1
  | .lit _ => 1
  | .nil => 1
  | .ptr d => uptoBulk d + 1
  | .slice elems spare => uptoBulkAll elems + uptoBulkAll spare + 1
  | .agg parts => uptoBulkAll parts + 1
  | .iface _ d => uptoBulk d + 1
  | .map entries => uptoBulkEntries entries + 1
  | .held _ => 1
def uptoBulkAll {H : Type} : List (DataW H) → Nat
  | [] => 0
  | d :: r => uptoBulk d + uptoBulkAll r
def uptoBulkEntries {H : Type} : List (Lit × DataW H) → Nat
  | [] => 0
  | x :: r => uptoBulkEntry x + uptoBulkEntries r
def uptoBulkEntry {H : Type} : Lit × DataW H → Nat
  | (.string bytes, d) => bytes.length + uptoBulk d + 1
  | (_, d) => uptoBulk d + 1
 end
def uptoSmall : (H : Type) → List (DataW H) → Bool := fun _ ds => decide (uptoBulkAll ds ≤ 1048576)
def OpenSpec.upto (s : _root_.Go.ChangeSpec) : _root_.Go.OpenSpec := { _root_.Go.OpenSpec.ofChange s with cond := some uptoSmall }

/-- 'rankmerelaw2.DetMul', WHERE WHAT IT READS IS OF BULK AT MOST 1048576: true; the input reads as it did. -/
def detMulUptoRow : OpenClaim := { program := "ytfjajcfcbjmbpaa", sum := "af8a01322b7b2160457c08e666bc5bc2934981e5b9af44ae236270cc7e810361", func := "rankmere/rankmerelaw2.DetMul", spec := "detMul", unfollowed := true, recurses := true, apart := false, narrowed := true }
def DetMulUptoSaid : Prop := detMulUptoRow.holds Try.pinned (OpenSpec.upto detMulSpec)

/-- 'rankmerelaw2.DetRows', WHERE WHAT IT READS IS OF BULK AT MOST 1048576: true; the input reads as it did. -/
def detRowsUptoRow : OpenClaim := { program := "ytfjajcfcbjmbpaa", sum := "af8a01322b7b2160457c08e666bc5bc2934981e5b9af44ae236270cc7e810361", func := "rankmere/rankmerelaw2.DetRows", spec := "detRows", unfollowed := true, recurses := true, apart := false, narrowed := true }
def DetRowsUptoSaid : Prop := detRowsUptoRow.holds Try.pinned (OpenSpec.upto detRowsSpec)

/-- 'rankmerelaw2.DetSum', WHERE WHAT IT READS IS OF BULK AT MOST 1048576: true; the input reads as it did. -/
def detSumUptoRow : OpenClaim := { program := "ytfjajcfcbjmbpaa", sum := "af8a01322b7b2160457c08e666bc5bc2934981e5b9af44ae236270cc7e810361", func := "rankmere/rankmerelaw2.DetSum", spec := "detSum", unfollowed := true, recurses := true, apart := false, narrowed := true }
def DetSumUptoSaid : Prop := detSumUptoRow.holds Try.pinned (OpenSpec.upto detSumSpec)

/-- 'rankmerelaw2.DetZero', WHERE WHAT IT READS IS OF BULK AT MOST 1048576: true; the input reads as it did. -/
def detZeroUptoRow : OpenClaim := { program := "ytfjajcfcbjmbpaa", sum := "af8a01322b7b2160457c08e666bc5bc2934981e5b9af44ae236270cc7e810361", func := "rankmere/rankmerelaw2.DetZero", spec := "detZero", unfollowed := true, recurses := true, apart := false, narrowed := true }
def DetZeroUptoSaid : Prop := detZeroUptoRow.holds Try.pinned (OpenSpec.upto detZeroSpec)

/-- 'rankmerelaw2.DetSign', WHERE WHAT IT READS IS OF BULK AT MOST 1048576: true; the input reads as it did. -/
def detSignUptoRow : OpenClaim := { program := "ytfjajcfcbjmbpaa", sum := "af8a01322b7b2160457c08e666bc5bc2934981e5b9af44ae236270cc7e810361", func := "rankmere/rankmerelaw2.DetSign", spec := "detSign", unfollowed := true, recurses := true, apart := false, narrowed := true }
def DetSignUptoSaid : Prop := detSignUptoRow.holds Try.pinned (OpenSpec.upto detSignSpec)

end Rows
end Go.Proofs.Ytfjajcfcbjmbpaa
