/-
  No cell of these rows narrows 'for every input' (looked for: loops, veiled, ifaces, maps, wideKeys, modest, calm, conditions, laid).
  DERIVED. THE GIVEN ROWS OF THIS SEAT. 3 by the template 'for every input the law returns true; each argument reads behind the call as it read before'; 0 by the template 'total and deterministic' (their statements: YteiblaajkakmdaaTotals.lean).
  GIVEN WITH THE SEED: the statements are not yours to turn. If you find one false, say at which input.
  Laid BY PROGRAM, IN A SANDBOX (cutbox-rows.mjs): the forced cells as the released guide's own fill.sh prints them over the translation f93384e1046d7907… (all of the seat's roots in one cut). By AI agents, Wed Nov 11 2026. No macro, syntax, notation, axiom, sorry.
-/
import Derived.Test.YteiblaajkakmdaaChecked
import GoSem.Claim
import GoSem.ClaimJoined
import GoSem.ClaimMapViews
import Derived.JoinedTies
import Derived.KernelRfl
namespace Go.Proofs.Yteiblaajkakmdaa
/- THE CELL 'sum', in the pinned program and in every row, IS THE sha256 OF THE DUMP (.gsa) THAT YteiblaajkakmdaaProg.lean LOADS. Nothing in Lean hashes anything: it is a label: what it is worth is what the hold of that sum in a sandbox is worth. -/
noncomputable def Try.pinned : Pinned := { name := "yteiblaajkakmdaa", sum := "f93384e1046d7907c0c2b6dddb0815e311edbc27ec6839262d989d1f3a3a795f", checked := Try.checked }
namespace Rows
def none {H : Type} : Left H := { results := [], args := [] }

/-- 'rankmerelaw1.CrtSun': WHATEVER THE INPUT: true; the input reads as it did. -/
def crtSunSpec : ChangeSpec := { name := "crtSun", fn := fun _ => fun
  | [d1, d2, d3] => { results := [.lit (.bool true)], args := [d1, d2, d3] }
  | _ => none }
def crtSunRow : OpenClaim := { program := "yteiblaajkakmdaa", sum := "f93384e1046d7907c0c2b6dddb0815e311edbc27ec6839262d989d1f3a3a795f", func := "rankmere/rankmerelaw1.CrtSun", spec := "crtSun", apart := false }
def CrtSunSaid : Prop := crtSunRow.holds Try.pinned (OpenSpec.ofChange crtSunSpec)

/-- ITS FALSE NEIGHBOUR: 'it returns false'. Refute it at one input. -/
def crtSunWrong : ChangeSpec := { name := "crtSun", fn := fun _ => fun
  | [d1, d2, d3] => { results := [.lit (.bool false)], args := [d1, d2, d3] }
  | _ => none }
def CrtSunWrongFalsely : Prop := crtSunRow.holds Try.pinned (OpenSpec.ofChange crtSunWrong)

/-- 'rankmerelaw1.CrtAll': WHATEVER THE INPUT: true; the input reads as it did. -/
def crtAllSpec : ChangeSpec := { name := "crtAll", fn := fun _ => fun
  | [d1, d2] => { results := [.lit (.bool true)], args := [d1, d2] }
  | _ => none }
def crtAllRow : OpenClaim := { program := "yteiblaajkakmdaa", sum := "f93384e1046d7907c0c2b6dddb0815e311edbc27ec6839262d989d1f3a3a795f", func := "rankmere/rankmerelaw1.CrtAll", spec := "crtAll", recurses := true, apart := false }
def CrtAllSaid : Prop := crtAllRow.holds Try.pinned (OpenSpec.ofChange crtAllSpec)

/-- ITS FALSE NEIGHBOUR: 'it returns false'. Refute it at one input. -/
def crtAllWrong : ChangeSpec := { name := "crtAll", fn := fun _ => fun
  | [d1, d2] => { results := [.lit (.bool false)], args := [d1, d2] }
  | _ => none }
def CrtAllWrongFalsely : Prop := crtAllRow.holds Try.pinned (OpenSpec.ofChange crtAllWrong)

/-- 'rankmerelaw1.CrtOrder': WHATEVER THE INPUT: true; the input reads as it did. -/
def crtOrderSpec : ChangeSpec := { name := "crtOrder", fn := fun _ => fun
  | [d1, d2] => { results := [.lit (.bool true)], args := [d1, d2] }
  | _ => none }
def crtOrderRow : OpenClaim := { program := "yteiblaajkakmdaa", sum := "f93384e1046d7907c0c2b6dddb0815e311edbc27ec6839262d989d1f3a3a795f", func := "rankmere/rankmerelaw1.CrtOrder", spec := "crtOrder", apart := false }
def CrtOrderSaid : Prop := crtOrderRow.holds Try.pinned (OpenSpec.ofChange crtOrderSpec)

/-- ITS FALSE NEIGHBOUR: 'it returns false'. Refute it at one input. -/
def crtOrderWrong : ChangeSpec := { name := "crtOrder", fn := fun _ => fun
  | [d1, d2] => { results := [.lit (.bool false)], args := [d1, d2] }
  | _ => none }
def CrtOrderWrongFalsely : Prop := crtOrderRow.holds Try.pinned (OpenSpec.ofChange crtOrderWrong)

/- THE SECOND FORM. 'bulk': how many values and letters a reading holds, each counted each time it is reached (what is shared counts as often as it is met; a slice's spare places count too). A statement '..UptoSaid' is the law's where the arguments, and the package variables that the reading takes, are together of bulk at most 1048576: NARROWER than '..Said'. Prove '..Said' where nothing that the law and all that it calls make is longer than what came in: it says more and counts as full. Else prove '..UptoSaid'. A law counts once. -/
mutual
def uptoBulk {H : Type} : DataW H → Nat
  | .lit (.string bytes) => bytes.length + 1
  | .lit _ => 1
  | .nil => 1
  | .ptr d => uptoBulk d + 1
  | .slice elems spare => uptoBulkAll elems + uptoBulkAll spare + 1
  | .agg parts => uptoBulkAll parts + 1
  | .iface _ d => uptoBulk d + 1
  | .map entries => uptoBulkEntries entries + 1
  | .held _ => 1
def uptoBulkAll {H : Type} : List (DataW H) → Nat
  | [] => 0
  | d :: r => uptoBulk d + uptoBulkAll r
def uptoBulkEntries {H : Type} : List (Lit × DataW H) → Nat
  | [] => 0
  | x :: r => uptoBulkEntry x + uptoBulkEntries r
def uptoBulkEntry {H : Type} : Lit × DataW H → Nat
  | (.string bytes, d) => bytes.length + uptoBulk d + 1
  | (_, d) => uptoBulk d + 1
 end
def uptoSmall : (H : Type) → List (DataW H) → Bool := fun _ ds => decide (uptoBulkAll ds ≤ 1048576)
def OpenSpec.upto (s : _root_.Go.ChangeSpec) : _root_.Go.OpenSpec := { _root_.Go.OpenSpec.ofChange s with cond := some uptoSmall }

/-- 'rankmerelaw1.CrtSun', WHERE WHAT IT READS IS OF BULK AT MOST 1048576: true; the input reads as it did. -/
def crtSunUptoRow : OpenClaim := { program := "yteiblaajkakmdaa", sum := "f93384e1046d7907c0c2b6dddb0815e311edbc27ec6839262d989d1f3a3a795f", func := "rankmere/rankmerelaw1.CrtSun", spec := "crtSun", apart := false, narrowed := true }
def CrtSunUptoSaid : Prop := crtSunUptoRow.holds Try.pinned (OpenSpec.upto crtSunSpec)

/-- 'rankmerelaw1.CrtAll', WHERE WHAT IT READS IS OF BULK AT MOST 1048576: true; the input reads as it did. -/
def crtAllUptoRow : OpenClaim := { program := "yteiblaajkakmdaa", sum := "f93384e1046d7907c0c2b6dddb0815e311edbc27ec6839262d989d1f3a3a795f", func := "rankmere/rankmerelaw1.CrtAll", spec := "crtAll", recurses := true, apart := false, narrowed := true }
def CrtAllUptoSaid : Prop := crtAllUptoRow.holds Try.pinned (OpenSpec.upto crtAllSpec)

/-- 'rankmerelaw1.CrtOrder', WHERE WHAT IT READS IS OF BULK AT MOST 1048576: true; the input reads as it did. -/
def crtOrderUptoRow : OpenClaim := { program := "yteiblaajkakmdaa", sum := "f93384e1046d7907c0c2b6dddb0815e311edbc27ec6839262d989d1f3a3a795f", func := "rankmere/rankmerelaw1.CrtOrder", spec := "crtOrder", apart := false, narrowed := true }
def CrtOrderUptoSaid : Prop := crtOrderUptoRow.holds Try.pinned (OpenSpec.upto crtOrderSpec)

end Rows
end Go.Proofs.Yteiblaajkakmdaa
