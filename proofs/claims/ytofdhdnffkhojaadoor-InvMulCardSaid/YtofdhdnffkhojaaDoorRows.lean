/-
  NARROWER THAN 'FOR EVERY INPUT', by the rows' own cells (each row's printed sentence says how): InvSays: laid · InvBack: laid · InvMul: laid · InvChange: laid · TopRank: laid.
  DERIVED. THE GIVEN ROWS OF THIS SEAT. 5 by the template 'for every input the law returns true; each argument reads behind the call as it read before'; 0 by the template 'total and deterministic' (their statements: YtofdhdnffkhojaaDoorTotals.lean).
  GIVEN WITH THE SEED: the statements are not yours to turn. If you find one false, say at which input.
  Laid BY PROGRAM, IN A SANDBOX (cutbox-rows.mjs): the forced cells as the released guide's own fill.sh prints them over the translation c0770aed91ec3a92… (all of the seat's roots in one cut). By AI agents, Wed Nov 11 2026. No macro, syntax, notation, axiom, sorry.
-/
import Derived.Test.YtofdhdnffkhojaaDoorChecked
import GoSem.Claim
import GoSem.ClaimJoined
import GoSem.ClaimMapViews
import Derived.JoinedTies
import Derived.KernelRfl
namespace Go.Proofs.YtofdhdnffkhojaaDoor
/- THE CELL 'sum', in the pinned program and in every row, IS THE sha256 OF THE DUMP (.gsa) THAT YtofdhdnffkhojaaDoorProg.lean LOADS. Nothing in Lean hashes anything: it is a label: what it is worth is what the hold of that sum in a sandbox is worth. -/
noncomputable def Tryd.pinned : Pinned := { name := "ytofdhdnffkhojaadoor", sum := "c0770aed91ec3a92c3be3573a0e0d6b3468fc8b3d264f43b3d16696aa8fbe367", checked := Tryd.checked }
namespace Rows
def none {H : Type} : Left H := { results := [], args := [] }

/- WHAT THE LISTED PACKAGE-LEVEL VARIABLES READ AS WHEN THE CALL BEGINS. Each datum BY PROGRAM (the guide's laid-datum.mjs) off the statement by which the dump's own 'gosem.cut.vars' lays the variable. In a bare row this is a premise. The card (YtofdhdnffkhojaaDoorCards.lean) ties it to the program's text. -/
def laid_errors_errorType {H : Type} : DataW H := .iface "internal/reflectlite.rtype" (.agg [.ptr (.lit (.string [101, 114, 114, 111, 114]))])

/-- 'rankmerelaw2.InvSays': WHATEVER THE INPUT: true; the input reads as it did. -/
def invSaysSpec : ChangeSpec := { name := "invSays", fn := fun _ => fun
  | [d1, d2, d3] => { results := [.lit (.bool true)], args := [d1, d2, d3] }
  | _ => none }
def invSaysRow : OpenClaim := { program := "ytofdhdnffkhojaadoor", sum := "c0770aed91ec3a92c3be3573a0e0d6b3468fc8b3d264f43b3d16696aa8fbe367", func := "rankmere/rankmerelaw2.InvSays", spec := "invSays", inPlace := ["internal/reflectlite.ValueOf", "(internal/reflectlite.Value).Type", "(internal/reflectlite.Value).IsNil", "internal/reflectlite.TypeOf", "(internal/reflectlite.Value).Elem", "(internal/reflectlite.Value).Set"], unfollowed := true, recurses := true, named := ["errors.errorType"], apart := false, laid := [("errors.errorType", laid_errors_errorType)] }
def InvSaysSaid : Prop := invSaysRow.holds Tryd.pinned (OpenSpec.ofChange invSaysSpec)

/-- ITS FALSE NEIGHBOUR: 'it returns false'. Refute it at one input. -/
def invSaysWrong : ChangeSpec := { name := "invSays", fn := fun _ => fun
  | [d1, d2, d3] => { results := [.lit (.bool false)], args := [d1, d2, d3] }
  | _ => none }
def InvSaysWrongFalsely : Prop := invSaysRow.holds Tryd.pinned (OpenSpec.ofChange invSaysWrong)

/-- 'rankmerelaw2.InvBack': WHATEVER THE INPUT: true; the input reads as it did. -/
def invBackSpec : ChangeSpec := { name := "invBack", fn := fun _ => fun
  | [d] => { results := [.lit (.bool true)], args := [d] }
  | _ => none }
def invBackRow : OpenClaim := { program := "ytofdhdnffkhojaadoor", sum := "c0770aed91ec3a92c3be3573a0e0d6b3468fc8b3d264f43b3d16696aa8fbe367", func := "rankmere/rankmerelaw2.InvBack", spec := "invBack", inPlace := ["internal/reflectlite.ValueOf", "(internal/reflectlite.Value).Type", "(internal/reflectlite.Value).IsNil", "internal/reflectlite.TypeOf", "(internal/reflectlite.Value).Elem", "(internal/reflectlite.Value).Set"], unfollowed := true, recurses := true, named := ["errors.errorType"], apart := false, laid := [("errors.errorType", laid_errors_errorType)] }
def InvBackSaid : Prop := invBackRow.holds Tryd.pinned (OpenSpec.ofChange invBackSpec)

/-- ITS FALSE NEIGHBOUR: 'it returns false'. Refute it at one input. -/
def invBackWrong : ChangeSpec := { name := "invBack", fn := fun _ => fun
  | [d] => { results := [.lit (.bool false)], args := [d] }
  | _ => none }
def InvBackWrongFalsely : Prop := invBackRow.holds Tryd.pinned (OpenSpec.ofChange invBackWrong)

/-- 'rankmerelaw2.InvMul': WHATEVER THE INPUT: true; the input reads as it did. -/
def invMulSpec : ChangeSpec := { name := "invMul", fn := fun _ => fun
  | [d1, d2] => { results := [.lit (.bool true)], args := [d1, d2] }
  | _ => none }
def invMulRow : OpenClaim := { program := "ytofdhdnffkhojaadoor", sum := "c0770aed91ec3a92c3be3573a0e0d6b3468fc8b3d264f43b3d16696aa8fbe367", func := "rankmere/rankmerelaw2.InvMul", spec := "invMul", inPlace := ["internal/reflectlite.ValueOf", "(internal/reflectlite.Value).Type", "(internal/reflectlite.Value).IsNil", "internal/reflectlite.TypeOf", "(internal/reflectlite.Value).Elem", "(internal/reflectlite.Value).Set"], unfollowed := true, recurses := true, named := ["errors.errorType"], apart := false, laid := [("errors.errorType", laid_errors_errorType)] }
def InvMulSaid : Prop := invMulRow.holds Tryd.pinned (OpenSpec.ofChange invMulSpec)

/-- ITS FALSE NEIGHBOUR: 'it returns false'. Refute it at one input. -/
def invMulWrong : ChangeSpec := { name := "invMul", fn := fun _ => fun
  | [d1, d2] => { results := [.lit (.bool false)], args := [d1, d2] }
  | _ => none }
def InvMulWrongFalsely : Prop := invMulRow.holds Tryd.pinned (OpenSpec.ofChange invMulWrong)

/-- 'rankmerelaw2.InvChange': WHATEVER THE INPUT: true; the input reads as it did. -/
def invChangeSpec : ChangeSpec := { name := "invChange", fn := fun _ => fun
  | [d1, d2, d3] => { results := [.lit (.bool true)], args := [d1, d2, d3] }
  | _ => none }
def invChangeRow : OpenClaim := { program := "ytofdhdnffkhojaadoor", sum := "c0770aed91ec3a92c3be3573a0e0d6b3468fc8b3d264f43b3d16696aa8fbe367", func := "rankmere/rankmerelaw2.InvChange", spec := "invChange", inPlace := ["internal/reflectlite.ValueOf", "(internal/reflectlite.Value).Type", "(internal/reflectlite.Value).IsNil", "internal/reflectlite.TypeOf", "(internal/reflectlite.Value).Elem", "(internal/reflectlite.Value).Set"], unfollowed := true, recurses := true, named := ["errors.errorType"], apart := false, laid := [("errors.errorType", laid_errors_errorType)] }
def InvChangeSaid : Prop := invChangeRow.holds Tryd.pinned (OpenSpec.ofChange invChangeSpec)

/-- ITS FALSE NEIGHBOUR: 'it returns false'. Refute it at one input. -/
def invChangeWrong : ChangeSpec := { name := "invChange", fn := fun _ => fun
  | [d1, d2, d3] => { results := [.lit (.bool false)], args := [d1, d2, d3] }
  | _ => none }
def InvChangeWrongFalsely : Prop := invChangeRow.holds Tryd.pinned (OpenSpec.ofChange invChangeWrong)

/-- 'rankmeretop.TopRank': WHATEVER THE INPUT: true; the input reads as it did. -/
def topRankSpec : ChangeSpec := { name := "topRank", fn := fun _ => fun
  | [d] => { results := [.lit (.bool true)], args := [d] }
  | _ => none }
def topRankRow : OpenClaim := { program := "ytofdhdnffkhojaadoor", sum := "c0770aed91ec3a92c3be3573a0e0d6b3468fc8b3d264f43b3d16696aa8fbe367", func := "rankmere/rankmeretop.TopRank", spec := "topRank", inPlace := ["internal/reflectlite.ValueOf", "(internal/reflectlite.Value).Type", "(internal/reflectlite.Value).IsNil", "internal/reflectlite.TypeOf", "(internal/reflectlite.Value).Elem", "(internal/reflectlite.Value).Set"], unfollowed := true, recurses := true, named := ["errors.errorType"], apart := false, laid := [("errors.errorType", laid_errors_errorType)] }
def TopRankSaid : Prop := topRankRow.holds Tryd.pinned (OpenSpec.ofChange topRankSpec)

/-- ITS FALSE NEIGHBOUR: 'it returns false'. Refute it at one input. -/
def topRankWrong : ChangeSpec := { name := "topRank", fn := fun _ => fun
  | [d] => { results := [.lit (.bool false)], args := [d] }
  | _ => none }
def TopRankWrongFalsely : Prop := topRankRow.holds Tryd.pinned (OpenSpec.ofChange topRankWrong)

/- THE SECOND FORM. 'bulk': how many values and letters a reading holds, each counted each time it is reached (what is shared counts as often as it is met; a slice's spare places count too). A statement '..UptoSaid' is the law's where the arguments, and the package variables that the reading takes, are together of bulk at most 1048576: NARROWER than '..Said'. Prove '..Said' where nothing that the law and all that it calls make is longer than what came in: it says more and counts as full. Else prove '..UptoSaid'. A law counts once. -/
mutual
def uptoBulk {H : Type} : DataW H → Nat
  | .lit (.string bytes) => bytes.length + 1
  | .lit _ => 1
  | .nil => 1
  | .ptr d => uptoBulk d + 1
  | .slice elems spare => uptoBulkAll elems + uptoBulkAll spare + 1
  | .agg parts => uptoBulkAll parts + 1
  | .iface _ d => uptoBulk d + 1
  | .map entries => uptoBulkEntries entries + 1
  | .held _ => 1
def uptoBulkAll {H : Type} : List (DataW H) → Nat
  | [] => 0
  | d :: r => uptoBulk d + uptoBulkAll r
def uptoBulkEntries {H : Type} : List (Lit × DataW H) → Nat
  | [] => 0
  | x :: r => uptoBulkEntry x + uptoBulkEntries r
def uptoBulkEntry {H : Type} : Lit × DataW H → Nat
  | (.string bytes, d) => bytes.length + uptoBulk d + 1
  | (_, d) => uptoBulk d + 1
 end
def uptoSmall : (H : Type) → List (DataW H) → Bool := fun _ ds => decide (uptoBulkAll ds ≤ 1048576)
def OpenSpec.upto (s : _root_.Go.ChangeSpec) : _root_.Go.OpenSpec := { _root_.Go.OpenSpec.ofChange s with cond := some uptoSmall }

/-- 'rankmerelaw2.InvSays', WHERE WHAT IT READS IS OF BULK AT MOST 1048576: true; the input reads as it did. -/
def invSaysUptoRow : OpenClaim := { program := "ytofdhdnffkhojaadoor", sum := "c0770aed91ec3a92c3be3573a0e0d6b3468fc8b3d264f43b3d16696aa8fbe367", func := "rankmere/rankmerelaw2.InvSays", spec := "invSays", inPlace := ["internal/reflectlite.ValueOf", "(internal/reflectlite.Value).Type", "(internal/reflectlite.Value).IsNil", "internal/reflectlite.TypeOf", "(internal/reflectlite.Value).Elem", "(internal/reflectlite.Value).Set"], unfollowed := true, recurses := true, named := ["errors.errorType"], apart := false, laid := [("errors.errorType", laid_errors_errorType)], narrowed := true }
def InvSaysUptoSaid : Prop := invSaysUptoRow.holds Tryd.pinned (OpenSpec.upto invSaysSpec)

/-- 'rankmerelaw2.InvBack', WHERE WHAT IT READS IS OF BULK AT MOST 1048576: true; the input reads as it did. -/
def invBackUptoRow : OpenClaim := { program := "ytofdhdnffkhojaadoor", sum := "c0770aed91ec3a92c3be3573a0e0d6b3468fc8b3d264f43b3d16696aa8fbe367", func := "rankmere/rankmerelaw2.InvBack", spec := "invBack", inPlace := ["internal/reflectlite.ValueOf", "(internal/reflectlite.Value).Type", "(internal/reflectlite.Value).IsNil", "internal/reflectlite.TypeOf", "(internal/reflectlite.Value).Elem", "(internal/reflectlite.Value).Set"], unfollowed := true, recurses := true, named := ["errors.errorType"], apart := false, laid := [("errors.errorType", laid_errors_errorType)], narrowed := true }
def InvBackUptoSaid : Prop := invBackUptoRow.holds Tryd.pinned (OpenSpec.upto invBackSpec)

/-- 'rankmerelaw2.InvMul', WHERE WHAT IT READS IS OF BULK AT MOST 1048576: true; the input reads as it did. -/
def invMulUptoRow : OpenClaim := { program := "ytofdhdnffkhojaadoor", sum := "c0770aed91ec3a92c3be3573a0e0d6b3468fc8b3d264f43b3d16696aa8fbe367", func := "rankmere/rankmerelaw2.InvMul", spec := "invMul", inPlace := ["internal/reflectlite.ValueOf", "(internal/reflectlite.Value).Type", "(internal/reflectlite.Value).IsNil", "internal/reflectlite.TypeOf", "(internal/reflectlite.Value).Elem", "(internal/reflectlite.Value).Set"], unfollowed := true, recurses := true, named := ["errors.errorType"], apart := false, laid := [("errors.errorType", laid_errors_errorType)], narrowed := true }
def InvMulUptoSaid : Prop := invMulUptoRow.holds Tryd.pinned (OpenSpec.upto invMulSpec)

/-- 'rankmerelaw2.InvChange', WHERE WHAT IT READS IS OF BULK AT MOST 1048576: true; the input reads as it did. -/
def invChangeUptoRow : OpenClaim := { program := "ytofdhdnffkhojaadoor", sum := "c0770aed91ec3a92c3be3573a0e0d6b3468fc8b3d264f43b3d16696aa8fbe367", func := "rankmere/rankmerelaw2.InvChange", spec := "invChange", inPlace := ["internal/reflectlite.ValueOf", "(internal/reflectlite.Value).Type", "(internal/reflectlite.Value).IsNil", "internal/reflectlite.TypeOf", "(internal/reflectlite.Value).Elem", "(internal/reflectlite.Value).Set"], unfollowed := true, recurses := true, named := ["errors.errorType"], apart := false, laid := [("errors.errorType", laid_errors_errorType)], narrowed := true }
def InvChangeUptoSaid : Prop := invChangeUptoRow.holds Tryd.pinned (OpenSpec.upto invChangeSpec)

/-- 'rankmeretop.TopRank', WHERE WHAT IT READS IS OF BULK AT MOST 1048576: true; the input reads as it did. -/
def topRankUptoRow : OpenClaim := { program := "ytofdhdnffkhojaadoor", sum := "c0770aed91ec3a92c3be3573a0e0d6b3468fc8b3d264f43b3d16696aa8fbe367", func := "rankmere/rankmeretop.TopRank", spec := "topRank", inPlace := ["internal/reflectlite.ValueOf", "(internal/reflectlite.Value).Type", "(internal/reflectlite.Value).IsNil", "internal/reflectlite.TypeOf", "(internal/reflectlite.Value).Elem", "(internal/reflectlite.Value).Set"], unfollowed := true, recurses := true, named := ["errors.errorType"], apart := false, laid := [("errors.errorType", laid_errors_errorType)], narrowed := true }
def TopRankUptoSaid : Prop := topRankUptoRow.holds Tryd.pinned (OpenSpec.upto topRankSpec)

end Rows
end Go.Proofs.YtofdhdnffkhojaaDoor
