/- Several texts, one behind the other: Told, ErrK, ErrG, InFact, GaC2, GaC3, MatS, SoC1, SoC2, SoC3, SoC4, Idx, SoC5, MtSh, SoFact, DeZero, MiFact, TopRk. -/
import Derived.Test.YtofdhdnffkhojaaDoorProg
import Derived.WalkKit
import Derived.LaidEql
import Derived.Stop.Asserts
import Derived.RowKitTokens
import Derived.Handy
import Derived.Test.YtofdhdnffkhojaaDoorTopRankProofG1
import Derived.ProofKit
import Derived.OpenShut
import Derived.Lib.Hide
import Derived.Test.YtofdhdnffkhojaaDoorTopRankProofG2
import Derived.StillTailTactics
import Derived.Deep.RegionLaw
import Derived.Lib.SliceRun
import Derived.Deep.Cut
import Derived.Deep.CutRange
import Derived.Deep.DeepCutAuto

/- Contracts of plain.Told and rankmeresame.Error: of nil and of an Errno. Go's own text of errors.As is walked, by closed facts on the model's entries for internal/reflectlite at this translation's numbers. The one premise: the variable errors.errorType holds its type. -/
namespace Go.Proofs.YtofdhdnffkhojaaDoor.Told
open Go.RowKit Go.Extern.Stop Go.Stop Go.Extern
set_option linter.unusedVariables false

theorem valueOfP (t : Addr) (w : World) : (ReflectliteValue.unpack (.iface 79 (.pointer (some t)))).run Tryd.prog w
    = .ok (.agg #[.pointer (some ⟨1, 79, none⟩), .pointer (some ⟨w.heap.size, 0, none⟩), .int .u64 150]) (w.alloc (.cells #[.pointer (some t)] 79)) := by kernel_rfl
theorem typeP (a : Addr) (w : World) : (ReflectliteValue.methodAny (ReflectliteValue.valueError "reflectlite.Value.Type" 0) (fun t _ _ _ => ReflectliteType.toType t) #[.agg #[.pointer (some ⟨1, 79, none⟩), .pointer (some a), .int .u64 150]]).run Tryd.prog w
    = .ok (.iface 112 (.agg #[.pointer (some ⟨1, 79, none⟩)])) w := by kernel_rfl
theorem methodKind (h : Value) (w : World) : (Go.method 255 112 (.agg #[h]) "Kind").run Tryd.prog w = .ok (105, h) w := by kernel_rfl
theorem kindP (w : World) : ((ReflectliteType.abiMethod fun t => (fun a : Nat => Value.int IntKind.u8 (a : Int)) <$> Rtype.kind t) #[.pointer (some ⟨1, 79, none⟩)]).run Tryd.prog w = .ok (.int .u8 22) w := by kernel_rfl
theorem kindE (w : World) : ((ReflectliteType.abiMethod fun t => (fun a : Nat => Value.int IntKind.u8 (a : Int)) <$> Rtype.kind t) #[.pointer (some ⟨1, 53, none⟩)]).run Tryd.prog w = .ok (.int .u8 2) w := by kernel_rfl
theorem rlm (z : Sem Value) (f : TypeId → Addr → Nat → Nat → Sem Value) (v : Value) :
    ReflectliteValue.method z f #[v] = (do match ← ReflectliteValue.parts v with | none => z | some (t, a, fl) => f t a fl (fl % 32)) := rfl
theorem partsP (a : Addr) (w : World) : (ReflectliteValue.parts (.agg #[.pointer (some ⟨1, 79, none⟩), .pointer (some a), .int .u64 150])).run Tryd.prog w = .ok (some (79, a, 150)) w := by kernel_rfl
theorem isNilP (a p : Addr) (W : World) (ha : W.cell? a = some (.pointer (some p))) :
    (ReflectliteValue.method (ReflectliteValue.valueError "reflectlite.Value.IsNil" 0) ReflectliteValue.isNil #[.agg #[.pointer (some ⟨1, 79, none⟩), .pointer (some a), .int .u64 150]]).run Tryd.prog W = .ok (.bool false) W := by
  rw [rlm]
  simp only [Sem.run_bind, partsP, Result.andThen]
  simp [ReflectliteValue.isNil, loadVar, isAgg, underlying, Tryd.underlying79, ha, Result.andThen]
theorem methodElem (h : Value) (w : World) : (Go.method 255 112 (.agg #[h]) "Elem").run Tryd.prog w = .ok (115, .agg #[h]) w := by kernel_rfl
theorem methodImplements (h : Value) (w : World) : (Go.method 255 112 (.agg #[h]) "Implements").run Tryd.prog w = .ok (116, .agg #[h]) w := by kernel_rfl
theorem methodAssignableTo (h : Value) (w : World) : (Go.method 255 112 (.agg #[h]) "AssignableTo").run Tryd.prog w = .ok (113, .agg #[h]) w := by kernel_rfl
theorem elemP (w : World) : (ReflectliteType.method ReflectliteType.elem #[.agg #[.pointer (some ⟨1, 79, none⟩)]]).run Tryd.prog w = .ok (.iface 112 (.agg #[.pointer (some ⟨1, 53, none⟩)])) w := by kernel_rfl
theorem implementsE (w : World) : (ReflectliteType.relation "Implements" ReflectliteType.implements_ #[.agg #[.pointer (some ⟨1, 53, none⟩)], .iface 112 (.agg #[.pointer (some ⟨1, 28, none⟩)])]).run Tryd.prog w = .ok (.bool true) w := by kernel_rfl
theorem typeOfE (v : Value) (w : World) : (ReflectliteType.typeOf #[.iface 53 v]).run Tryd.prog w = .ok (.iface 112 (.agg #[.pointer (some ⟨1, 53, none⟩)])) w := by kernel_rfl
theorem assignableE (w : World) : (ReflectliteType.relation "AssignableTo" ReflectliteType.assignableTo #[.agg #[.pointer (some ⟨1, 53, none⟩)], .iface 112 (.agg #[.pointer (some ⟨1, 53, none⟩)])]).run Tryd.prog w = .ok (.bool true) w := by kernel_rfl
theorem valueOfE (n : Int) (w : World) : (ReflectliteValue.unpack (.iface 53 (.int .i64 n))).run Tryd.prog w
    = .ok (.agg #[.pointer (some ⟨1, 53, none⟩), .pointer (some ⟨w.heap.size, 0, none⟩), .int .u64 130]) (w.alloc (.cells #[.int .i64 n] 53)) := by kernel_rfl
theorem elemOfP (w : World) : (Rtype.elem? 79).run Tryd.prog w = .ok (some 53) w := by kernel_rfl
theorem mkE (p : Addr) (w : World) : (ReflectliteValue.mk 53 p ReflectliteValue.flagAddr).run Tryd.prog w = .ok (.agg #[.pointer (some ⟨1, 53, none⟩), .pointer (some p), .int .u64 386]) w := by kernel_rfl
theorem elemVP (a p : Addr) (W : World) (ha : W.cell? a = some (.pointer (some p))) :
    (ReflectliteValue.method (ReflectliteValue.valueError "reflectlite.Value.Elem" 0) ReflectliteValue.elem #[.agg #[.pointer (some ⟨1, 79, none⟩), .pointer (some a), .int .u64 150]]).run Tryd.prog W
      = .ok (.agg #[.pointer (some ⟨1, 53, none⟩), .pointer (some p), .int .u64 386]) W := by
  rw [rlm]
  simp only [Sem.run_bind, partsP, Result.andThen]
  simp [ReflectliteValue.elem, loadVar, isAgg, underlying, Tryd.underlying79, ha, Result.andThen, elemOfP, mkE]
theorem rls (v x : Value) : ReflectliteValue.set #[v, x] = (do
    let (some (dst, a, fl), some (src, b, _)) := (← ReflectliteValue.parts v, ← ReflectliteValue.parts x)
      | unsupported (.noEntry "extern/(internal/reflectlite.Value).Set.zeroValue")
    if fl / ReflectliteValue.flagAddr % 2 == 0 then unsupported (.noEntry "extern/(internal/reflectlite.Value).Set.unaddressable")
    let val ← loadVar src b
    if ← Rtype.directlyAssignable dst src then storeVar dst a val
    else if ← Rtype.implements dst src then
      if (← Rtype.kind src) == 20 then
        match val with
        | .nilIface => unsupported (.noEntry "extern/reflectlite: a nil value of one interface type handed on as a value of another")
        | _ => storeVar dst a val
      else storeVar dst a (.iface src val)
    else panicString ("reflectlite.Set: value of type " ++ (← Rtype.spelt src) ++ " is not assignable to type " ++ (← Rtype.spelt dst))
    pure (.tuple #[])) := rfl
theorem partsEa (a : Addr) (w : World) : (ReflectliteValue.parts (.agg #[.pointer (some ⟨1, 53, none⟩), .pointer (some a), .int .u64 386])).run Tryd.prog w = .ok (some (53, a, 386)) w := by kernel_rfl
theorem partsE (a : Addr) (w : World) : (ReflectliteValue.parts (.agg #[.pointer (some ⟨1, 53, none⟩), .pointer (some a), .int .u64 130])).run Tryd.prog w = .ok (some (53, a, 130)) w := by kernel_rfl
theorem directE (w : World) : (Rtype.directlyAssignable 53 53).run Tryd.prog w = .ok true w := by kernel_rfl
theorem setE (ta b : Addr) (n : Int) (old : Value) (W : World) (hb : W.cell? b = some (.int .i64 n)) (ht : W.cell? ta = some old) (hf : W.frozen? ta = false) :
    (ReflectliteValue.set #[.agg #[.pointer (some ⟨1, 53, none⟩), .pointer (some ta), .int .u64 386], .agg #[.pointer (some ⟨1, 53, none⟩), .pointer (some b), .int .u64 130]]).run Tryd.prog W
      = .ok (.tuple #[]) (W.setCell ta (.int .i64 n)) := by
  rw [rls]
  simp only [Sem.run_bind, partsEa, partsE, Result.andThen]
  simp [ReflectliteValue.flagAddr, loadVar, isAgg, underlying, Tryd.underlying53, hb, Result.andThen, directE, storeVar, Value.cells, storeCells, Addr.add]
  rw [run_store Tryd.prog W ta _ _ (by rfl)]
  simp [ht, hf]

/-- The variable errors.errorType holds its type. -/
abbrev Laid (w : World) : Prop := w.cell? ⟨0, 0, none⟩ = some (.iface 112 (.agg #[.pointer (some ⟨1, 28, none⟩)]))

theorem laid_lt {w : World} (h : Laid w) : 0 < w.heap.size := by
  have h1 : w.cell? ⟨0, 0, none⟩ = some (.iface 112 (.agg #[.pointer (some ⟨1, 28, none⟩)])) := h
  rcases Nat.lt_or_ge 0 w.heap.size with h' | h'
  · exact h'
  · have e : w.heap[0]? = none := Array.getElem?_eq_none h'
    simp [World.cell?, e] at h1

set_option maxHeartbeats 4000000 in
theorem as_hit (n : Int) (t : Addr) (old : Value) (w : World) (hg : Laid w) (ht0 : w.cell? t = some old) (hf0 : w.frozen? t = false) :
    Calls Tryd.prog 57 #[.iface 53 (.int .i64 n), .iface 79 (.pointer (some t))] w fun ev w' => ev = .returned (.bool true) ∧ w' = ((((w.alloc (.cells #[.pointer (some t)] 79)).alloc (.cells #[.pointer (some ⟨1, 79, none⟩), .pointer (some ⟨w.heap.size, 0, none⟩), .int .u64 150] 97)).alloc (.cells #[.pointer (some ⟨1, 79, none⟩), .pointer (some ⟨w.heap.size, 0, none⟩), .int .u64 150] 97)).alloc (.cells #[.int .i64 n] 53)).setCell t (.int .i64 n) := by
  have h6 := @run_callFunc_extern Tryd.prog 75 _ (fun args => ReflectliteValue.unpack (args.getD 0 (.tuple #[]))) Tryd.func75 (by kernel_rfl) (by kernel_rfl) (by kernel_rfl) (by kernel_rfl)
  have h7 := @run_callFunc_extern Tryd.prog 76 _ (ReflectliteValue.methodAny (ReflectliteValue.valueError "reflectlite.Value.Type" 0) (fun t _ _ _ => ReflectliteType.toType t)) Tryd.func76 (by kernel_rfl) (by kernel_rfl) (by kernel_rfl) (by kernel_rfl)
  have h8 := @run_callFunc_extern Tryd.prog 77 _ (ReflectliteValue.method (ReflectliteValue.valueError "reflectlite.Value.IsNil" 0) ReflectliteValue.isNil) Tryd.func77 (by kernel_rfl) (by kernel_rfl) (by kernel_rfl) (by kernel_rfl)
  have h27 := @run_callFunc_extern Tryd.prog 105 _ (ReflectliteType.abiMethod fun t => do pure (.int .u8 (← Rtype.kind t))) Tryd.func105 (by kernel_rfl) (by kernel_rfl) (by kernel_rfl) (by kernel_rfl)
  have h37 := @run_callFunc_extern Tryd.prog 115 _ (ReflectliteType.method ReflectliteType.elem) Tryd.func115 (by kernel_rfl) (by kernel_rfl) (by kernel_rfl) (by kernel_rfl)
  have h38 := @run_callFunc_extern Tryd.prog 116 _ (ReflectliteType.relation "Implements" ReflectliteType.implements_) Tryd.func116 (by kernel_rfl) (by kernel_rfl) (by kernel_rfl) (by kernel_rfl)
  have h10 := @run_callFunc_extern Tryd.prog 88 _ ReflectliteType.typeOf Tryd.func88 (by kernel_rfl) (by kernel_rfl) (by kernel_rfl) (by kernel_rfl)
  have h35 := @run_callFunc_extern Tryd.prog 113 _ (ReflectliteType.relation "AssignableTo" ReflectliteType.assignableTo) Tryd.func113 (by kernel_rfl) (by kernel_rfl) (by kernel_rfl) (by kernel_rfl)
  have h11 := @run_callFunc_extern Tryd.prog 89 _ (ReflectliteValue.method (ReflectliteValue.valueError "reflectlite.Value.Elem" 0) ReflectliteValue.elem) Tryd.func89 (by kernel_rfl) (by kernel_rfl) (by kernel_rfl) (by kernel_rfl)
  have h12 := @run_callFunc_extern Tryd.prog 90 _ ReflectliteValue.set Tryd.func90 (by kernel_rfl) (by kernel_rfl) (by kernel_rfl) (by kernel_rfl)
  have tO := typeOfE
  have mA := methodAssignableTo
  have a25 := assignableE
  have v25 := valueOfE
  have f6 := valueOfP
  have f7 := typeP
  have mK := methodKind
  have mE := methodElem
  have mI := methodImplements
  have k27 := kindP
  have k25 := kindE
  have e27 := elemP
  have i25 := implementsE
  have n8 := isNilP ⟨w.heap.size, 0, none⟩ t ((w.alloc (.cells #[.pointer (some t)] 79)).alloc (.cells #[.pointer (some ⟨1, 79, none⟩), .pointer (some ⟨w.heap.size, 0, none⟩), .int .u64 150] 97)) (by simp)
  have hlt : 0 < w.heap.size := laid_lt hg
  have hg2 : ((w.alloc (.cells #[.pointer (some t)] 79)).alloc (.cells #[.pointer (some ⟨1, 79, none⟩), .pointer (some ⟨w.heap.size, 0, none⟩), .int .u64 150] 97)).cell? ⟨0, 0, none⟩ = some (.iface 112 (.agg #[.pointer (some ⟨1, 28, none⟩)])) := by
    rw [World.cell?_alloc_lt _ _ ⟨0, 0, none⟩ (by show 0 < (w.heap.push _).size; rw [Array.size_push]; omega), World.cell?_alloc_lt _ _ ⟨0, 0, none⟩ hlt]; exact hg
  have htl : t.block < w.heap.size := by
    rcases Nat.lt_or_ge t.block w.heap.size with h | h
    · exact h
    · simp [World.cell?, Array.getElem?_eq_none h] at ht0
  have el := elemVP ⟨w.heap.size, 0, none⟩ t (((w.alloc (.cells #[.pointer (some t)] 79)).alloc (.cells #[.pointer (some ⟨1, 79, none⟩), .pointer (some ⟨w.heap.size, 0, none⟩), .int .u64 150] 97)).alloc (.cells #[.pointer (some ⟨1, 79, none⟩), .pointer (some ⟨w.heap.size, 0, none⟩), .int .u64 150] 97)) (by rw [World.cell?_alloc_lt _ _ ⟨w.heap.size, 0, none⟩ (by simp; omega)]; simp)
  have st := setE t ⟨w.heap.size + 1 + 1 + 1, 0, none⟩ n old ((((w.alloc (.cells #[.pointer (some t)] 79)).alloc (.cells #[.pointer (some ⟨1, 79, none⟩), .pointer (some ⟨w.heap.size, 0, none⟩), .int .u64 150] 97)).alloc (.cells #[.pointer (some ⟨1, 79, none⟩), .pointer (some ⟨w.heap.size, 0, none⟩), .int .u64 150] 97)).alloc (.cells #[.int .i64 n] 53))
    (by rw [World.cell?_alloc_at _ _ _ _ (by simp)]; rfl)
    (by rw [World.cell?_alloc_lt _ _ t (by simp; omega), World.cell?_alloc_lt _ _ t (by simp; omega), World.cell?_alloc_lt _ _ t (by simp; omega), World.cell?_alloc_lt _ _ t htl]; exact ht0)
    (by rw [World.frozen?_alloc_old _ _ t (by simp; omega), World.frozen?_alloc_old _ _ t (by simp; omega), World.frozen?_alloc_old _ _ t (by simp; omega), World.frozen?_alloc_old _ _ t (Nat.ne_of_lt htl)]; exact hf0)
  go_enter Tryd.func57, Tryd.ntmps57
  go_wp2
  refine wp_loop_rounds 1 ?_
  rw [rounds_succ]
  go_wp2
  go_ret
  exact ⟨rfl, rfl⟩

end Go.Proofs.YtofdhdnffkhojaaDoor.Told

/- Contracts of plain.Told and rankmeresame.Error: of nil and of an Errno; nothing that was there turns. The one premise: the variable errors.errorType holds its type. -/
namespace Go.Proofs.YtofdhdnffkhojaaDoor
open Go.RowKit Go.Proofs.YtofdhdnffkhojaaDoor.Told
set_option linter.unusedVariables false

theorem laid_kp {w w' : World} (h : Laid w) (hg : Kp w w') : Laid w' :=
  (hg.cell (p := ⟨0, 0, none⟩) (laid_lt h)).trans h

theorem toldK_nil (w : World) :
    Calls Tryd.prog 32 #[.nilIface] w fun e w' => e = .returned (.int .i64 0) ∧ w = w' := by
  go_enter Tryd.func32, Tryd.ntmps32
  go_wp2
  go_ret
  exact ⟨rfl, rfl⟩

set_option maxHeartbeats 4000000 in
theorem toldK_hit (n : Int) (w : World) (hg : Laid w) :
    Calls Tryd.prog 32 #[.iface 53 (.int .i64 n)] w fun e w' => e = .returned (.int .i64 n) ∧ Kp w w' := by
  have hgA := Lib.hid (laid_kp hg ((Kp.rfl' w).new (.cells #[.int .i64 0] 53)))
  clear hg
  go_enter Tryd.func32, Tryd.ntmps32
  go_wp2_with (go_at_call 57; refine (as_hit n _ (.int .i64 0) _ hgA.out (by simp) (by simp)).mono ?_; rintro e w' ⟨rfl, rfl⟩)
  go_ret
  exact ⟨rfl, ((((((Kp.rfl' w).new _).new _).new _).new _).new _)⟩

/-- rankmeresame.Error on no error. -/
theorem errorK_nil (c : Int) (w : World) (b : Bool) (hb : ((0 : Int) == c) = b) :
    Calls Tryd.prog 12 #[.nilIface, .int .i64 c] w fun e w' => e = .returned (.bool b) ∧ Kp w w' := by
  have H := Lib.hid hb
  clear hb
  go_enter Tryd.func12, Tryd.ntmps12
  go_wp2_with (go_at_call 32; refine (toldK_nil _).mono ?_; rintro e w' ⟨rfl, rfl⟩)
  go_ret
  exact ⟨congrArg (fun b => Ending.returned (.bool b)) H.out, Kp.rfl' _⟩

/-- rankmeresame.Error on an Errno. -/
theorem errorK_hit (n c : Int) (w : World) (hg : Laid w) (hn : 0 ≤ n ∧ n ≤ 100) (b : Bool) (hb : (n == c) = b) :
    Calls Tryd.prog 12 #[.iface 53 (.int .i64 n), .int .i64 c] w fun e w' => e = .returned (.bool b) ∧ Kp w w' := by
  have H := Lib.hid hb
  have HG := Lib.hid hg
  clear hb hg
  go_enter Tryd.func12, Tryd.ntmps12
  go_wp2_with (go_at_call 32; refine (toldK_hit _ _ HG.out).mono ?_; rintro e w' ⟨rfl, hw⟩)
  go_ret
  exact ⟨congrArg (fun b => Ending.returned (.bool b)) H.out, hw⟩

end Go.Proofs.YtofdhdnffkhojaaDoor

/- rankmeresame.Error at the errors by number. -/
namespace Go.Proofs.YtofdhdnffkhojaaDoor
open Go.ChangeShapes Go.WideShapes Go.ChangeAt Go.RowKit
set_option linter.unusedVariables false

/-- Error says yes to the error that is told. -/
theorem error_says (c : Nat) (w : World) (hl : Told.Laid w) (hc : c ≤ 100) :
    Calls Tryd.prog 12 #[errOf c, .int .i64 (c : Int)] w fun e w' => e = .returned (.bool true) ∧ Kp w w' := by
  by_cases h : c = 0
  · subst h; exact errorK_nil 0 w true rfl
  · rw [errOf_ne c h]
    exact errorK_hit c c w hl (by omega) true (by simp)

end Go.Proofs.YtofdhdnffkhojaaDoor

/- What inv.Of says of whatever comes in; its closed fact. -/
namespace Go.Proofs.YtofdhdnffkhojaaDoor
open Go.ChangeShapes Go.WideShapes Go.ChangeAt Go.RowKit
set_option linter.unusedVariables false

/-- An error, and nothing else. -/
def FailsI (z : Nat) (w : World) (e : Ending) (w' : World) : Prop := e = .returned (.tuple #[.slice none 0 0, .iface 53 (.int .i64 (z : Int))]) ∧ Kp w w'
theorem IOf_or (A : Option Addr) (m : List (List Int)) (n d : Nat) (hn : m.length = n) :
    (∃ f, Sh n n f m ∧ Mx.dt n f ≠ 0) ∨ ∃ z : Nat, ∀ (w : World), LiesM w A m → Calls Tryd.prog 11 #[.slice A n d] w fun e w' => FailsI z w e w' := by
  rcases sq_or m hn with ⟨f, s⟩ | h
  · by_cases hd : Mx.dt n f = 0
    · refine .inr ⟨5, fun w ha => ?_⟩
      rw [s.eq] at ha
      exact (IOf_none A f n d w ha s.r0 s.r5 hd).mono fun e w' h' => ⟨by rw [h'.1, errOf_ne 5 (by decide)], h'.2⟩
    · exact .inl ⟨f, s, hd⟩
  · exact .inr ⟨qcode 5 0 9972 m, fun w ha => ((IOf_bad A m n d w ha hn h).mono fun e w' h' => ⟨by rw [h'.1, errOf_ne _ h], h'.2⟩)⟩
theorem IOf_sh {A : Option Addr} {m : List (List Int)} {n p : Nat} {f : Nat → Nat → Fp.F} (s : Sh n n f m) (hn : n = p + 1) (hd : Mx.dt n f ≠ 0) (d : Nat) (w : World) (ha : LiesM w A m) :
    Calls Tryd.prog 11 #[.slice A n d] w fun e w' => ∃ g, e = .returned (.tuple #[.slice (some ⟨g, 0, none⟩) n n, .nilIface]) ∧ LiesM w' (some ⟨g, 0, none⟩) (Mx.matl n n (Mx.invm p f)) ∧ Kp w w' := by
  have h5 := s.r5
  rw [s.eq] at ha
  exact IOf_ok A f n p d w ha hn (by omega) hd
theorem Sh.inv {n p : Nat} {f : Nat → Nat → Fp.F} {m : List (List Int)} (s : Sh n n f m) : Sh n n (Mx.invm p f) (Mx.matl n n (Mx.invm p f)) := ⟨rfl, s.r0, s.r5, s.r0, s.r5⟩

def finv1 : Nat → Nat → Fp.F := f22 1 2 0 1
def finv2 : Nat → Nat → Fp.F := f22 1 2 2 4
theorem finv1_mat : Mx.tab 2 2 (n22 1 2 0 1) = Mx.matl 2 2 finv1 := by decide +kernel
theorem finv2_mat : Mx.tab 2 2 (n22 1 2 2 4) = Mx.matl 2 2 finv2 := by decide +kernel
theorem finv1_dt : Mx.dt 2 finv1 = 1 := by decide +kernel
theorem finv2_dt : Mx.dt 2 finv2 = 0 := by decide +kernel
theorem finv1_inv : Mx.matl 2 2 (Mx.invm 1 finv1) = Mx.tab 2 2 (n22 1 9971 0 1) := by
  have h1 : Mx.Unm 2 finv1 (Mx.invm 1 finv1) := Mx.unm_invm 1 finv1 (by show Mx.dt 2 finv1 ≠ 0; rw [finv1_dt]; decide)
  have h2 : Mx.Unm 2 finv1 (f22 1 9971 0 1) := Mx.unm_left fun i j hi hj => by
    have h : ∀ i, i < 2 → ∀ j, j < 2 → Mx.mul 2 (f22 1 9971 0 1) finv1 i j = Mx.one i j := by decide +kernel
    exact h i hi j hj
  rw [(h1.one_of h2).mat]
  decide +kernel

set_option maxRecDepth 100000 in
set_option maxHeartbeats 1600000 in
theorem invFact_any (w : World) (hl : Told.Laid w) : Calls Tryd.prog 17 #[] w fun e w' => e = .returned (.bool true) ∧ Kp w w' := by
  have A1 : LiesM (lit22 w w.heap.size 1 2 0 1) (some ⟨w.heap.size + 1 + 1, 0, none⟩) (Mx.matl 2 2 finv1) := by
    rw [← finv1_mat]; exact lit22_lies w _ 1 2 0 1 rfl
  have O1 := Lib.hid (IOf_ok _ finv1 2 1 2 _ A1 rfl (by decide) (by rw [finv1_dt]; decide))
  rw [finv1_inv] at O1
  clear A1
  have S1 := Lib.hid (fun (w1 : World) => IOf_none (some ⟨w1.heap.size + 1 + 1, 0, none⟩) finv2 2 2 (lit22 w1 w1.heap.size 1 2 2 4) (by rw [← finv2_mat]; exact lit22_lies w1 _ 1 2 2 4 rfl) (by decide) (by decide) finv2_dt)
  have HL := Lib.hid hl
  have E1 := Lib.hid (fun (wx : World) (hx : Kp w wx) => error_says 5 wx (laid_kp HL.out hx) (by decide))
  rw [errOf_ne 5 (by decide)] at S1 E1
  clear hl
  go_enter Tryd.func17, Tryd.ntmps17
  go_wp2_with fail
  refine (O1.out).mono ?_; rintro e w1 ⟨g, rfl, l1, k1⟩
  have L1 := Lib.hid l1
  have K1 := Lib.hid ((lit22_kp w w.heap.size 1 2 0 1).trans k1)
  clear k1 l1 O1
  go_wp2_with fail
  refine (S1.out w1).mono ?_; rintro e w2 ⟨rfl, k2⟩
  have k3 := (lit22_kp w1 w1.heap.size 1 2 2 4).trans k2
  have L2 := Lib.hid (L1.out.keep k3)
  have K2 := Lib.hid (K1.out.trans k3)
  clear k2 k3 S1
  go_wp2_with fail
  refine (E1.out _ K2.out).mono ?_; rintro e w3 ⟨rfl, k3⟩
  have K3 := Lib.hid (K2.out.trans k3)
  have L3 := Lib.hid (L2.out.keep k3)
  clear k3
  go_wp2_with fail
  refine (rows_eq (some ⟨g, 0, none⟩) (some ⟨w3.heap.size + 1 + 1, 0, none⟩) (Mx.tab 2 2 (n22 1 9971 0 1)) (Mx.tab 2 2 (n22 1 9971 0 1)) 2 2 2 2 (lit22 w3 w3.heap.size 1 9971 0 1) (L3.out.keep (lit22_kp _ _ _ _ _ _)) (lit22_lies _ _ _ _ _ _ rfl) (Mx.len_tab _ _ _) (Mx.len_tab _ _ _) (modest_tab _ (by decide) (by decide)) (modest_tab _ (by decide) (by decide)) rfl).mono ?_
  rintro e w4 ⟨rfl, k4⟩
  have K4 := Lib.hid ((K3.out.trans (lit22_kp w3 w3.heap.size 1 9971 0 1)).trans k4)
  clear k4
  go_wp2_with fail
  go_ret
  exact ⟨rfl, K4.out⟩

end Go.Proofs.YtofdhdnffkhojaaDoor

/- Contracts of package gauss, second part: clean. -/
namespace Go.Proofs.YtofdhdnffkhojaaDoor
open Go.ChangeShapes Go.WideShapes Go.ChangeAt Go.RowKit
set_option linter.unusedVariables false

set_option maxRecDepth 100000 in
set_option maxHeartbeats 3200000 in
theorem clean_any {B g cap : Nat} {G C : Nat → Nat} {r c : Nat} {f : Nat → Nat → Fp.F} {i j : Nat} (hi : i < r) (hj : j < c) (h0 : f i j ≠ 0) (w : World) (hr : r ≤ 1000) (hc : c ≤ 1000)
    (h : OwnM w B (.slice (some ⟨g, 0, none⟩) r cap) G C (Mx.matl r c f)) :
    Calls Tryd.prog 65 #[.slice (some ⟨g, 0, none⟩) r cap, .int .i64 (i : Int), .int .i64 (j : Int)] w fun e w' =>
      e = .returned .nilIface ∧ OwnM w' B (.slice (some ⟨g, 0, none⟩) r cap) G C (Mx.matl r c (cln f i j)) ∧ Only G r w w' := by
  have y1 := h.weak.head hi
  have y2 := h.weak.el hi hj
  have DV := Lib.hid (div_el 1 (f i j) w h0)
  have HO := Lib.hid h
  unfold el at DV
  rw [show (1 : Fp.F) * Fp.inv (f i j) = Fp.inv (f i j) by grind, show (((1 : Fp.F).val : Nat) : Int) = 1 from rfl] at DV
  obtain ⟨iv, hiv⟩ : ∃ iv, iv = ((Fp.inv (f i j)).val : Int) := ⟨_, rfl⟩
  rw [← hiv] at DV
  have HIV := Lib.hid hiv
  generalize ((f i j).val : Int) = pv at *
  clear h hiv
  go_enter Tryd.func65, Tryd.ntmps65
  go_wp2_with fail
  refine (DV.out).mono ?_; rintro e w1 ⟨rfl, hd⟩
  have HO1 := Lib.hid (HO.out.kp hd.kp)
  have HN1 := Lib.hid (Only.of (G := G) (r := r) hd.kp)
  have y3 := HO1.out.weak.head hi
  clear hd y1 y2
  go_wp2_with fail
  go_loopw [31] (fun u wr => ∃ k : Nat, k ≤ c ∧ u = .int .i64 (k : Int) ∧ OwnM wr B (.slice (some ⟨g, 0, none⟩) r cap) G C (Mx.tab r c fun p q => if p = i ∧ q < k then ((f i q * Fp.inv (f i j)).val : Int) else ((f p q).val : Int)) ∧ Only G r w wr) (fun u _ => c - (intOf u).toNat)
  case atStart => exact ⟨0, Nat.zero_le _, rfl, HO1.out.ext (fun p q _ _ => by rw [if_neg (by omega)]), HN1.out⟩
  case round =>
    obtain ⟨k, hk, rfl, ho, hon⟩ := hrel
    by_cases hlt : k < c
    · have z1 := ho.weak.head hi
      have z2 := ho.weak.el hi hlt
      have z3 := ho.weak.free hi k
      rw [if_neg (by omega)] at z2
      have HP := Lib.hid ho
      have HN := Lib.hid hon
      have hm := times_mod (f i k) (Fp.inv (f i j))
      have hb := times_bound (f i k) (Fp.inv (f i j))
      rw [← HIV.out] at hm hb
      obtain ⟨z, hz⟩ : ∃ z, z = ((f i k * Fp.inv (f i j)).val : Int) := ⟨_, rfl⟩
      rw [← hz] at hm
      have HZ := Lib.hid hz
      generalize ((f i k).val : Int) = v at *
      have hwm : IntKind.i64.wrap (v * iv) = v * iv := IntWalk.i64_in _ (by omega)
      clear ho hon hz hb y3
      go_wp2_with fail
      go_still_tail 16, (by kernel_rfl)
      change wpList _ _ _ _ _ wr.drew
      go_wp2_with fail
      go_roundw
      case rel =>
        refine ⟨k + 1, by omega, by go_num, ((HP.out.drewN 1).put hi k z).ext (fun p q hp hq => ?_), (HN.out.drewN 1).put hi k _⟩
        by_cases e : p = i ∧ q = k
        · rw [if_pos e, if_pos (by omega), HZ.out, e.2]
        · rw [if_neg e]
          by_cases e2 : p = i ∧ q < k
          · rw [if_pos e2, if_pos (by omega)]
          · rw [if_neg e2, if_neg (by omega)]
      case measure => simp [intOf]; omega
    · obtain rfl : k = c := by omega
      have HP := Lib.hid (ho.ext (f' := fun p q => ((clnTo f i j 0 p q).val : Int)) (fun p q hp hq => by
        unfold clnTo
        by_cases e : p = i
        · rw [if_pos ⟨e, hq⟩, if_pos e]
        · rw [if_neg (fun h => e h.1), if_neg e, if_neg (by omega)]))
      have HN := Lib.hid hon
      clear ho hon y3
      go_wp2_with fail
      go_loopw [53] (fun u wr => ∃ k' : Nat, k' ≤ r ∧ u = .int .i64 (k' : Int) ∧ OwnM wr B (.slice (some ⟨g, 0, none⟩) r cap) G C (Mx.matl r k (clnTo f i j k')) ∧ Only G r w wr) (fun u _ => r - (intOf u).toNat)
      case atStart => exact ⟨0, Nat.zero_le _, rfl, HP.out, HN.out⟩
      case round =>
        obtain ⟨t, ht, rfl, ho, hon⟩ := hrel
        obtain ⟨wo, hwo⟩ : ∃ x, x = wr := ⟨_, rfl⟩
        subst hwo
        by_cases hlt2 : t < r
        · have z1 := ho.weak.head hlt2
          have z2 := ho.weak.head hi
          by_cases hti : t = i
          · subst hti
            have e1 : ((t : Int) != (t : Int)) = false := by simp
            have HP := Lib.hid ho
            have HN := Lib.hid hon
            clear ho hon
            go_wp2_with fail
            go_roundw
            case rel => exact ⟨t + 1, by omega, by go_num, HP.out.ext (fun p q _ _ => by rw [clnTo_same]), HN.out⟩
            case measure => simp [intOf]; omega
          · have e1 : ((t : Int) != (i : Int)) = true := by rw [bne_iff_ne]; omega
            have z3 := ho.weak.el hlt2 hj
            rw [show clnTo f i j t t j = f t j by unfold clnTo; rw [if_neg hti, if_neg (by omega)]] at z3
            have SU := Lib.hid (fun w => subtract_any (B := B) (g := g) (cap := cap) (G := G) (C := C) hlt2 hi hti (f t j) w hc (f := clnTo f i j t))
            generalize ((f t j).val : Int) = v at *
            have HP := Lib.hid ho
            have HN := Lib.hid hon
            have HTI := Lib.hid hti
            clear ho hon hti
            go_wp2_with fail
            go_still_tail 9, (by kernel_rfl)
            change wpList _ _ _ _ _ wo.drew
            go_wp2_with fail
            refine (SU.out _ (HP.out.drewN 1)).mono ?_; rintro e w2 ⟨rfl, ho2, hon2⟩
            have HP2 := Lib.hid ho2
            have HN2 := Lib.hid ((HN.out.drewN 1).trans hon2)
            clear ho2 hon2
            go_wp2_with fail
            go_roundw
            case rel => exact ⟨t + 1, by omega, by go_num, HP2.out.ext (fun p q _ _ => by rw [clnTo_next f HTI.out]), HN2.out⟩
            case measure => simp [intOf]; omega
        · obtain rfl : t = r := by omega
          have HP := Lib.hid ho
          have HN := Lib.hid hon
          clear ho hon
          go_wp2_with fail
          go_ret
          refine ⟨rfl, HP.out.ext (fun p q hp hq => ?_), HN.out⟩
          unfold clnTo cln
          by_cases e : p = i
          · rw [if_pos e, if_pos e]
          · rw [if_neg e, if_neg e, if_pos hp]
end Go.Proofs.YtofdhdnffkhojaaDoor

/- Contracts of package gauss, third part: Steps, Rank. -/
namespace Go.Proofs.YtofdhdnffkhojaaDoor
open Go.ChangeShapes Go.WideShapes Go.ChangeAt Go.RowKit
set_option linter.unusedVariables false

/-- The matrix in steps, and the columns of its pivots. -/
def GotSteps (r c : Nat) (f : Nat → Nat → Fp.F) (w : World) (e : Ending) (w' : World) : Prop :=
  ∃ b g A d A' d', Stair r c c f b g ∧ e = .returned (.tuple #[.slice A r d, .slice A' b.length d', .nilIface]) ∧ LiesM w' A (Mx.matl r c g) ∧ Lies w' A' (cols b) ∧ Kp w w'
/-- No matrix, no columns, an error. -/
def FailsSteps (c : Nat) (w : World) (e : Ending) (w' : World) : Prop := e = .returned (.tuple #[.slice none 0 0, .slice none 0 0, errOf c]) ∧ Kp w w'

set_option maxRecDepth 100000 in
set_option maxHeartbeats 1600000 in
theorem Steps_bad (A : Option Addr) (m : List (List Int)) (n d : Nat) (w : World) (ha : LiesM w A m) (hn : m.length = n) (h : Mx.mcode 5 0 9972 m ≠ 0) :
    Calls Tryd.prog 49 #[.slice A n d] w fun e w' => FailsSteps (Mx.mcode 5 0 9972 m) w e w' := by
  have C := Lib.hid (Check_any A m n d w ha hn)
  unfold FailsSteps
  rw [errOf_ne _ h] at C ⊢
  generalize Mx.mcode 5 0 9972 m = z at *
  clear ha hn h
  go_enter Tryd.func49, Tryd.ntmps49
  go_wp2_with fail
  refine (C.out).mono ?_; rintro e w' ⟨rfl, rfl⟩
  go_wp2_with fail
  go_ret3
  exact ⟨rfl, Kp.rfl' _⟩

set_option maxRecDepth 100000 in
set_option maxHeartbeats 6400000 in
theorem Steps_ok (A : Option Addr) (f : Nat → Nat → Fp.F) (r c d : Nat) (w : World) (ha : LiesM w A (Mx.matl r c f)) (hr0 : 0 < r) (hr : r ≤ 5) (hc0 : 0 < c) (hc : c ≤ 5) :
    Calls Tryd.prog 49 #[.slice A r d] w fun e w' => GotSteps r c f w e w' := by
  have CK := Lib.hid (Check_any A (Mx.matl r c f) r d w ha (Mx.len_matl _ _ _))
  rw [Mx.mcode_matl f hr0 hr hc0 hc, errOf_zero] at CK
  have CL := Lib.hid (clone_any A r c d f w (by omega) (by omega) ha)
  clear ha
  obtain ⟨i0, hi, hz0, hz1, hz2⟩ := info_parts int_info
  go_enter Tryd.func49, Tryd.ntmps49
  go_wp2_with fail
  refine (CK.out).mono ?_; rintro e w' ⟨rfl, rfl⟩
  go_wp2_with fail
  refine (CL.out).mono ?_; rintro e w1 ⟨G0, rfl, hg, hk⟩
  obtain ⟨g, hg'⟩ : ∃ g, g = w.heap.size := ⟨_, rfl⟩
  have hB : w.heap.size ≤ g := by omega
  rw [← hg'] at hg ⊢
  clear hg'
  have ho := hg.own (B := w.heap.size) hB (by omega) (by omega)
  have hcell := ho.weak.head hr0
  have HO := Lib.hid ho
  have HK := Lib.hid hk
  clear ho hk hg hB
  go_wp2_with fail
  go_loopw [7, 23] (fun u i wr => ∃ (k : Nat) (b : List Nat) (h : Nat → Nat → Fp.F) (G C : Nat → Nat), k ≤ c ∧ i = .int .i64 (k : Int) ∧ Stair r c k f b h ∧ MatRow wr w.heap.size g r G C r c (fun i j => ((h i j).val : Int)) u (cols b) ∧ Kp w wr) (fun _ i _ => c - (intOf i).toNat)
  case atStart => exact ⟨0, [], f, G0, _, Nat.zero_le _, rfl, Stair.start r c f, MatRow.start HO.out, HK.out⟩
  case round =>
    clear hcell
    obtain ⟨k, b, h, G, C, hk, rfl, hst, hmr, hkp⟩ := hrel
    obtain ⟨Au, du, rfl, hlu, _⟩ := hmr.row.cap
    obtain ⟨p, hp⟩ : ∃ p, p = b.length := ⟨_, rfl⟩
    have hpr : p ≤ r := by rw [hp]; exact hst.steps.le
    rw [len_cols, ← hp] at hmr ⊢
    have HM := Lib.hid hmr
    have HS := Lib.hid hst
    have HK := Lib.hid hkp
    have HL := Lib.hid hlu
    have HP := Lib.hid hp
    clear hmr hst hkp hlu hp
    by_cases hlt : k < c
    · have BE := Lib.hid (below_any (some ⟨g, 0, none⟩) (d := r) hpr hlt wr (by omega) (by omega) HM.out.mat.liesM)
      go_wp2_with fail
      refine (BE.out).mono ?_; rintro e w' ⟨a, hf, rfl, rfl⟩
      have HF := Lib.hid hf
      have ha1 : p ≤ a := hf.1
      have ha2 : a ≤ r := hf.2.1
      clear hf
      by_cases har : a = r
      · have e1 : ((a : Int) == (r : Int)) = true := by rw [har]; simp
        have HS2 := Lib.hid (HS.out.skip fun i h1 h2 => HF.out.2.2.1 i (by rw [HP.out]; exact h1) (by omega))
        clear har ha1 ha2
        go_wp2_with fail
        go_roundw
        case rel => exact ⟨k + 1, b, h, G, C, by omega, by go_num, HS2.out, HM.out, HK.out⟩
        case measure => simp [intOf]; omega
      · have e1 : ((a : Int) == (r : Int)) = false := by rw [beq_eq_false_iff_ne]; omega
        have har' : a < r := by omega
        have hpr' : p < r := by omega
        have h0 := HF.out.2.2.2 har'
        have y1 := HM.out.mat.weak.head har'
        have y2 := HM.out.mat.weak.head hpr'
        have y3 := HM.out.mat.weak.topFree a
        have y4 := HM.out.mat.weak.topFree p
        have y5 : (wr.setCell ⟨g, p, none⟩ (.slice (some ⟨G a, 0, none⟩) c (C a))).cell? ⟨g, a, none⟩ = some (.slice (some ⟨G a, 0, none⟩) c (C a)) := by
          by_cases e : a = p
          · subst e; exact World.cell?_setCell_same' _ _ _ (by rw [y1]; rfl)
          · have hne : (⟨g, p, none⟩ : Addr) ≠ ⟨g, a, none⟩ := fun e' => e (by cases e'; rfl)
            rw [World.cell?_setCell_other (w := wr) (v := .slice (some ⟨G a, 0, none⟩) c (C a)) (h := hne)]; exact y1
        have y6 : (wr.setCell ⟨g, p, none⟩ (.slice (some ⟨G a, 0, none⟩) c (C a))).frozen? ⟨g, a, none⟩ = false := (HM.out.mat.weak.set hpr' (HM.out.mat.weak.row a har')).topFree a
        have hBg := HM.out.mat.weak.topLe.1
        obtain ⟨H, hH⟩ : ∃ H : Nat → Nat → Fp.F, H = fun i => if i = a then h p else if i = p then h a else h i := ⟨_, rfl⟩
        obtain ⟨G', hG'⟩ : ∃ G' : Nat → Nat, G' = fun i => if i = a then G p else if i = p then G a else G i := ⟨_, rfl⟩
        obtain ⟨C', hC'⟩ : ∃ C' : Nat → Nat, C' = fun i => if i = a then C p else if i = p then C a else C i := ⟨_, rfl⟩
        have SW := HM.out.swap hpr' har'
        rw [← hG', ← hC'] at SW
        have SW := Lib.hid (SW.ext (f' := fun i j => ((H i j).val : Int)) fun i j _ _ => by
          rw [hH]
          by_cases e1 : i = a
          · simp only [if_pos e1]
          · by_cases e2 : i = p
            · simp only [if_neg e1, if_pos e2]
            · simp only [if_neg e1, if_neg e2])
        have hHp : H p k = h a k := by
          rw [hH]
          show (if p = a then h p else if p = p then h a else h p) k = h a k
          by_cases e : p = a
          · rw [if_pos e, e]
          · rw [if_neg e, if_pos rfl]
        have CLN := Lib.hid (fun w' hh => clean_any (B := w.heap.size) (g := g) (cap := r) (G := G') (C := C') (f := H) hpr' hlt (by rw [hHp]; exact h0) w' (by omega) (by omega) hh)
        have HS2 := HS.out.next (a := a) (by rw [← HP.out]; exact ha1) har' h0
        rw [← HP.out, ← cln_nxt, ← hH] at HS2
        have HS2 := Lib.hid HS2
        have HK1 := Lib.hid (((HK.out.put (p := ⟨g, p, none⟩) hBg (.slice (some ⟨G a, 0, none⟩) c (C a))).put (p := ⟨g, a, none⟩) hBg (.slice (some ⟨G p, 0, none⟩) c (C p))).drewN 1)
        have HGL := Lib.hid (show ∀ i, i < r → w.heap.size ≤ G' i from fun i hi => (SW.out.mat.weak.lt hi).1)
        have HSN := Lib.hid (cols_snoc b k)
        have hlen : (cols b).length + 1 ≤ 17000000000000 := by rw [len_cols, ← HP.out]; omega
        clear har ha2 ha1 hH hG' hC' hHp h0 hBg HF
        go_wp2_with fail
        go_region_law (fail)
        all_goals
          go_wp2_with fail
          refine (CLN.out _ (SW.out.drewN 1).mat).mono ?_; rintro e w2 ⟨rfl, ho2, hon2⟩
          have HM2 := Lib.hid ((SW.out.drewN 1).only hon2 ho2)
          have HK2 := Lib.hid (show Kp w w2 from hon2.below HK1.out HK1.out.size HGL.out)
          clear ho2 hon2 y1 y2 y3 y4 y5 y6
          have hsz := HK2.out.size
          go_wp2_with (at_builtin; refine wpList_push rfl _ _ rfl w.heap.size _ (cols b) (k : Int) w2.heap.size 1 rfl rfl (HM2.out.row.new _) (by simp; done) hlen (Nat.le_trans hsz ((Kp.rfl' _).new _).size) ?_; intro v' w3 h1 h2 h3)
          have HM3 := Lib.hid ((HM2.out.kp ((Kp.rfl' _).new _)).push h1 h2 h3)
          have HK3 := Lib.hid (own_below (HM2.out.row.new _) (HK2.out.new _) (Nat.le_trans hsz ((Kp.rfl' _).new _).size) h2)
          clear h1 h2 h3
          go_wp2_with fail
          go_roundw
          case rel => exact ⟨k + 1, b ++ [k], cln H p k, G', C', by omega, by go_num, HS2.out, by rw [HSN.out]; exact HM3.out, HK3.out⟩
          case measure => simp [intOf]; omega
    · obtain rfl : k = c := by omega
      have HL2 := Lib.hid (HM.out.mat.liesM)
      go_wp2_with fail
      go_ret3
      exact ⟨b, h, some ⟨g, 0, none⟩, r, Au, du, HS.out, by rw [← HP.out]; rfl, HL2.out, HL.out, HK.out⟩

theorem Rank_bad (A : Option Addr) (m : List (List Int)) (n d : Nat) (w : World) (ha : LiesM w A m) (hn : m.length = n) (h : Mx.mcode 5 0 9972 m ≠ 0) :
    Calls Tryd.prog 23 #[.slice A n d] w fun e w' => e = .returned (.tuple #[.int .i64 0, errOf (Mx.mcode 5 0 9972 m)]) ∧ Kp w w' := by
  have C := Lib.hid (Steps_bad A m n d w ha hn h)
  unfold FailsSteps at C
  rw [errOf_ne _ h] at C ⊢
  generalize Mx.mcode 5 0 9972 m = z at *
  clear ha hn h
  go_enter Tryd.func23, Tryd.ntmps23
  go_wp2_with fail
  refine (C.out).mono ?_; rintro e w' ⟨rfl, hk⟩
  have HK := Lib.hid hk
  clear hk
  go_wp2_with fail
  go_ret2
  exact ⟨rfl, HK.out⟩

/-- How many steps a matrix has. -/
def GotRank (r c : Nat) (f : Nat → Nat → Fp.F) (w : World) (e : Ending) (w' : World) : Prop :=
  ∃ b g, Stair r c c f b g ∧ e = .returned (.tuple #[.int .i64 (b.length : Int), .nilIface]) ∧ Kp w w'
theorem Rank_ok (A : Option Addr) (f : Nat → Nat → Fp.F) (r c d : Nat) (w : World) (ha : LiesM w A (Mx.matl r c f)) (hr0 : 0 < r) (hr : r ≤ 5) (hc0 : 0 < c) (hc : c ≤ 5) :
    Calls Tryd.prog 23 #[.slice A r d] w fun e w' => GotRank r c f w e w' := by
  have C := Lib.hid (Steps_ok A f r c d w ha hr0 hr hc0 hc)
  clear ha
  go_enter Tryd.func23, Tryd.ntmps23
  go_wp2_with fail
  refine (C.out).mono ?_; rintro e w' ⟨b, g, A1, d1, A2, d2, hs, rfl, _, _, hk⟩
  have HK := Lib.hid hk
  have HS := Lib.hid hs
  clear hk hs
  go_wp2_with fail
  go_ret2
  exact ⟨b, g, HS.out, rfl, HK.out⟩
end Go.Proofs.YtofdhdnffkhojaaDoor

/- Plain facts for systems of equations over F: what is taken to noughts, the one answer that is nought at the free columns, step by step. No program is named here. -/
namespace Go.Proofs.YtofdhdnffkhojaaDoor.Mx
open Fp
set_option linter.unusedVariables false

/-- Where a matrix takes a row. -/
def tov (c : Nat) (f : Nat → Nat → F) (v : Nat → F) : Nat → F := fun i => sg c fun j => f i j * v j
theorem tov_congr {c : Nat} {f g : Nat → Nat → F} {v w : Nat → F} {i : Nat} (h : ∀ j, j < c → f i j = g i j) (h' : ∀ j, j < c → v j = w j) : tov c f v i = tov c g w i :=
  sg_congr fun j hj => by rw [h j hj, h' j hj]
theorem tov_more (c : Nat) (f : Nat → Nat → F) (v w : Nat → F) (a : F) (i : Nat) : tov c f (fun j => v j + a * w j) i = tov c f v i + a * tov c f w i := by
  unfold tov
  rw [← sg_times, ← sg_add]
  exact sg_congr fun j _ => by grind
theorem tov_less (c : Nat) (f : Nat → Nat → F) (v w : Nat → F) (i : Nat) : tov c f (fun j => v j - w j) i = tov c f v i - tov c f w i := by
  have h := tov_more c f v w (-1) i
  have e : (fun j => v j - w j) = fun j => v j + -1 * w j := by funext j; grind
  rw [e, h]; grind
theorem tov_none (c : Nat) (f : Nat → Nat → F) (i : Nat) : tov c f (fun _ => 0) i = 0 := by
  unfold tov
  rw [sg_congr (g := fun _ => 0) fun j _ => by grind, sg_none]
theorem tov_mul (r c : Nat) (s g : Nat → Nat → F) (v : Nat → F) (i : Nat) : tov c (mul r s g) v i = sg r fun x => s i x * tov c g v x :=
  congrFun (congrFun (mul_assoc r c s g (fun j _ => v j)) i) 0
/-- What comes of rows that are taken alike is taken alike. -/
theorem tov_come {r c : Nat} {f g : Nat → Nat → F} (h : ∃ s, Eqm r c f (mul r s g)) {v w : Nat → F} (e : ∀ x, x < r → tov c g v x = tov c g w x) {i : Nat} (hi : i < r) : tov c f v i = tov c f w i := by
  obtain ⟨s, hs⟩ := h
  rw [tov_congr (g := mul r s g) (fun j hj => hs i j hi hj) (fun _ _ => rfl), tov_congr (v := w) (g := mul r s g) (fun j hj => hs i j hi hj) (fun _ _ => rfl), tov_mul, tov_mul]
  exact sg_congr fun x hx => by rw [e x hx]

/-- The columns in which no row begins. -/
def fr (b : List Nat) (c : Nat) : List Nat := (List.range c).filter fun k => decide (k ∉ b)
theorem fr_zero (b : List Nat) : fr b 0 = [] := rfl
theorem fr_yes {b : List Nat} {k : Nat} (h : k ∈ b) : fr b (k + 1) = fr b k := by simp [fr, List.range_succ, h]
theorem fr_no {b : List Nat} {k : Nat} (h : k ∉ b) : fr b (k + 1) = fr b k ++ [k] := by simp [fr, List.range_succ, h]
theorem fr_mem {b : List Nat} {c k : Nat} : k ∈ fr b c ↔ k < c ∧ k ∉ b := by simp [fr]
theorem fr_le (b : List Nat) (c : Nat) : (fr b c).length ≤ c := by
  have := List.length_filter_le (fun k => decide (k ∉ b)) (List.range c)
  rwa [List.length_range] at this
theorem fr_pairs (b : List Nat) (c : Nat) : (fr b c).Pairwise (· < ·) := List.Pairwise.filter _ List.pairwise_lt_range
theorem count_not (p : Nat → Bool) : ∀ l : List Nat, (l.filter p).length + (l.filter fun k => !p k).length = l.length
  | [] => rfl
  | x :: l => by
    have := count_not p l
    by_cases h : p x = true
    · simp [h]; omega
    · simp [h]; omega
theorem Steps.count {r c : Nat} {b : List Nat} {g : Nat → Nat → F} (h : Steps r c b g) : b.length + (fr b c).length = c := by
  have e : b = (List.range c).filter fun k => decide (k ∈ b) := inc_same _ _ h.pairs (List.Pairwise.filter _ List.pairwise_lt_range) fun x => by
    simp only [List.mem_filter, List.mem_range, decide_eq_true_eq]
    exact ⟨fun hx => ⟨by obtain ⟨t, ht, rfl⟩ := h.mem hx; exact h.lt t ht, hx⟩, fun hx => hx.2⟩
  have := count_not (fun k => decide (k ∈ b)) (List.range c)
  rw [← e, List.length_range] at this
  have e2 : (List.range c).filter (fun k => !decide (k ∈ b)) = fr b c := by
    unfold fr; congr 1; funext k; simp
  rw [e2] at this
  exact this
theorem pv_mem {b : List Nat} {t : Nat} (ht : t < b.length) : pv b t ∈ b := by
  show b.getD t 0 ∈ b
  rw [List.getD_eq_getElem?_getD, List.getElem?_eq_getElem ht]; exact List.getElem_mem ht
theorem Steps.inj {r c : Nat} {b : List Nat} {g : Nat → Nat → F} (h : Steps r c b g) {s t : Nat} (hs : s < b.length) (ht : t < b.length) (e : pv b s = pv b t) : s = t := by
  rcases Nat.lt_trichotomy s t with hlt | he | hlt
  · have := h.inc s t hlt ht; omega
  · exact he
  · have := h.inc t s hlt hs; omega

/-- The row that is taken to noughts and is 1 at the free column k, nought at the other free ones: as far as the first t rows tell. -/
def nv (b : List Nat) (g : Nat → Nat → F) (k : Nat) : Nat → Nat → F
  | 0 => fun j => if j = k then 1 else 0
  | t + 1 => fun j => if j = pv b t then -(g t k) else nv b g k t j
theorem nv_off (b : List Nat) (g : Nat → Nat → F) (k : Nat) {j : Nat} : ∀ t, (∀ s, s < t → j ≠ pv b s) → nv b g k t j = if j = k then 1 else 0
  | 0, _ => rfl
  | t + 1, h => by
    show (if j = pv b t then _ else nv b g k t j) = _
    rw [if_neg (h t (Nat.lt_succ_self t)), nv_off b g k t fun s hs => h s (by omega)]
theorem nv_free (b : List Nat) (g : Nat → Nat → F) (k : Nat) {j : Nat} (h : j ∉ b) {t : Nat} (ht : t ≤ b.length) : nv b g k t j = if j = k then 1 else 0 :=
  nv_off b g k t fun s hs e => h (by rw [e]; exact pv_mem (by omega))
theorem Steps.nv_piv {r c : Nat} {b : List Nat} {g : Nat → Nat → F} (h : Steps r c b g) (k : Nat) : ∀ (t : Nat), t ≤ b.length → ∀ s, s < t → nv b g k t (pv b s) = -(g s k)
  | 0, _, s, hs => absurd hs (by omega)
  | t + 1, ht, s, hs => by
    show (if pv b s = pv b t then _ else nv b g k t (pv b s)) = _
    by_cases e : s = t
    · rw [e, if_pos rfl]
    · rw [if_neg fun e' => e (h.inj (by omega) (by omega) e'), h.nv_piv k t (by omega) s (by omega)]
theorem nv_congr {b : List Nat} {g g' : Nat → Nat → F} {k : Nat} : ∀ (t : Nat), (∀ s, s < t → g s k = g' s k) → nv b g k t = nv b g' k t
  | 0, _ => rfl
  | t + 1, h => by
    show (fun j => if j = pv b t then -(g t k) else nv b g k t j) = fun j => if j = pv b t then -(g' t k) else nv b g' k t j
    rw [h t (Nat.lt_succ_self t), nv_congr t fun s hs => h s (by omega)]
/-- It is taken to noughts. -/
theorem Steps.nv_zero {r c : Nat} {b : List Nat} {f g : Nat → Nat → F} (h : Steps r c b g) (e : Req r c f g) {k : Nat} (hk : k < c) (hkb : k ∉ b) {i : Nat} (hi : i < r) : tov c f (nv b g k b.length) i = 0 := by
  have hg : ∀ x, x < r → tov c g (nv b g k b.length) x = tov c g (fun _ => 0) x := fun x hx => by
    rw [tov_none]
    unfold tov
    by_cases hl : x < b.length
    · have hne : k ≠ pv b x := fun e => hkb (by rw [e]; exact pv_mem hl)
      rw [sg_two hk (h.lt x hl) hne fun j hj h1 h2 => ?_]
      · rw [nv_free b g k hkb (Nat.le_refl _), if_pos rfl, h.nv_piv k _ (Nat.le_refl _) x hl, h.piv x hl x hx, if_pos rfl]; grind
      · by_cases hjb : j ∈ b
        · obtain ⟨t, ht, rfl⟩ := h.mem hjb
          rw [h.piv t ht x hx, if_neg fun e => h2 (by rw [e])]; grind
        · rw [nv_free b g k hjb (Nat.le_refl _), if_neg h1]; grind
    · rw [sg_congr (g := fun _ => 0) fun j hj => by rw [h.zero x (by omega) hx j hj]; grind, sg_none]
  rw [tov_come e.1 hg hi, tov_none]

/-- Nought at the free columns. -/
def Off (b : List Nat) (c : Nat) (v : Nat → F) : Prop := ∀ j, j < c → j ∉ b → v j = 0
theorem Off.more {b : List Nat} {c : Nat} {v w : Nat → F} (h : Off b c v) (h' : Off b c w) (a : F) : Off b c (fun j => v j + a * w j) := fun j hj hb => by
  show v j + a * w j = 0
  rw [h j hj hb, h' j hj hb]; grind
theorem Off.less {b : List Nat} {c : Nat} {v w : Nat → F} (h : Off b c v) (h' : Off b c w) : Off b c (fun j => v j - w j) := fun j hj hb => by
  show v j - w j = 0
  rw [h j hj hb, h' j hj hb]; grind
/-- Taken to noughts, and nought at the free columns: nought. -/
theorem Steps.off_zero {r c : Nat} {b : List Nat} {f g : Nat → Nat → F} (h : Steps r c b g) (e : Req r c f g) {v : Nat → F} (ho : Off b c v) (hz : ∀ i, i < r → tov c f v i = 0) : ∀ j, j < c → v j = 0 := fun j hj => by
  by_cases hb : j ∈ b
  · obtain ⟨t, ht, rfl⟩ := h.mem hb
    have htr : t < r := Nat.lt_of_lt_of_le ht h.le
    have h1 : tov c g v t = 0 := by
      have := tov_come e.2 (v := v) (w := fun _ => 0) (fun x hx => by rw [hz x hx, tov_none]) htr
      rw [this, tov_none]
    unfold tov at h1
    rw [sg_one hj fun s hs hne => ?_, h.piv t ht t htr, if_pos rfl] at h1
    · rw [← h1]; grind
    · by_cases hsb : s ∈ b
      · obtain ⟨q, hq, rfl⟩ := h.mem hsb
        rw [h.piv q hq t htr, if_neg fun e => hne (by rw [e])]; grind
      · rw [ho s hs hsb]; grind
  · exact ho j hj hb
theorem Steps.off_one {r c : Nat} {b : List Nat} {f g : Nat → Nat → F} (h : Steps r c b g) (e : Req r c f g) {v w : Nat → F} (ho : Off b c v) (ho' : Off b c w) (hz : ∀ i, i < r → tov c f v i = tov c f w i) : ∀ j, j < c → v j = w j := fun j hj => by
  have := h.off_zero e (ho.less ho') (fun i hi => by rw [tov_less, hz i hi]; grind) j hj
  grind
/-- What is taken somewhere: something that is nought at the free columns is taken there. -/
theorem Steps.off_some {r c : Nat} {b : List Nat} {f g : Nat → Nat → F} (h : Steps r c b g) (e : Req r c f g) (z : Nat → F) : ∃ y, Off b c y ∧ ∀ i, i < r → tov c f y i = tov c f z i := by
  refine ⟨fun j => sg b.length fun t => if j = pv b t then tov c g z t else 0, fun j _ hb => ?_, fun i hi => tov_come e.1 (fun x hx => ?_) hi⟩
  · dsimp only
    rw [sg_congr (g := fun _ => 0) fun t ht => by rw [if_neg fun e => hb (by rw [e]; exact pv_mem ht)], sg_none]
  · by_cases hl : x < b.length
    · have hy : ∀ t, t < b.length → (sg b.length fun s => if pv b t = pv b s then tov c g z s else 0) = tov c g z t := fun t ht => by
        rw [sg_one ht fun s hs hne => by rw [if_neg fun e => hne (h.inj hs ht e.symm)], if_pos rfl]
      show sg c (fun j => g x j * sg b.length fun s => if j = pv b s then tov c g z s else 0) = _
      rw [sg_one (h.lt x hl) fun j hj hne => ?_, hy x hl, h.piv x hl x hx, if_pos rfl]
      · grind
      · by_cases hjb : j ∈ b
        · obtain ⟨t, ht, rfl⟩ := h.mem hjb
          rw [h.piv t ht x hx, if_neg fun e => hne (by rw [e])]; grind
        · rw [sg_congr (g := fun _ => 0) fun t ht => by rw [if_neg fun e => hjb (by rw [e]; exact pv_mem ht)], sg_none]; grind
    · have hz : ∀ v : Nat → F, tov c g v x = 0 := fun v => by
        unfold tov
        rw [sg_congr (g := fun _ => 0) fun j hj => by rw [h.zero x (by omega) hx j hj]; grind, sg_none]
      rw [hz, hz]

/-- THE answer of a system: nought at the free columns. -/
structure Ans (r c : Nat) (f : Nat → Nat → F) (tt0 : Nat → F) (b : List Nat) (x : Nat → F) : Prop where
  off : Off b c x
  sol : ∀ i, i < r → tov c f x i = tt0 i
/-- There is none at all. -/
def NoAns (r c : Nat) (f : Nat → Nat → F) (tt0 : Nat → F) : Prop := ¬ ∃ z : Nat → F, ∀ i, i < r → tov c f z i = tt0 i
theorem Ans.one {r c : Nat} {f g : Nat → Nat → F} {tt0 : Nat → F} {b : List Nat} {x y : Nat → F} (h : Steps r c b g) (e : Req r c f g) (hx : Ans r c f tt0 b x) (hy : Ans r c f tt0 b y) : ∀ j, j < c → x j = y j :=
  h.off_one e hx.off hy.off fun i hi => by rw [hx.sol i hi, hy.sol i hi]

/-- What comes of some rows. -/
def Comb (c : Nat) : List (Nat → F) → (Nat → F) → Prop
  | [], v => ∀ j, j < c → v j = 0
  | w :: ws, v => ∃ a, Comb c ws fun j => v j - a * w j
theorem Comb.congr {c : Nat} : ∀ {ws : List (Nat → F)} {u v : Nat → F}, Comb c ws u → (∀ j, j < c → u j = v j) → Comb c ws v
  | [], u, v, h, e => fun j hj => by rw [← e j hj]; exact h j hj
  | w :: ws, u, v, ⟨a, h⟩, e => ⟨a, h.congr fun j hj => by rw [e j hj]⟩
theorem Comb.less {c : Nat} (w : Nat → F) (a : F) : ∀ {ws : List (Nat → F)} {v : Nat → F}, Comb c ws v → (k : Nat) → (hk : k < ws.length) → (he : ws[k] = w) → Comb c ws fun j => v j - a * w j
  | [], v, h, k, hk, he => absurd hk (by simp)
  | w' :: ws, v, ⟨d, h⟩, 0, hk, he => by
    simp at he; subst he
    exact ⟨d - a, h.congr fun j _ => by grind⟩
  | w' :: ws, v, ⟨d, h⟩, k + 1, hk, he => by
    refine ⟨d, ?_⟩
    refine (Comb.less w a h k (by simpa using hk) (by simpa using he)).congr fun j _ => ?_
    grind
/-- Row i of f is where the k-th way moves. -/
theorem Comb.take {c : Nat} : ∀ {ws : List (Nat → F)} {v : Nat → F}, Comb c ws v → (k : Nat) → (hk : k < ws.length) → ∃ a, Comb c (ws.eraseIdx k) fun j => v j - a * ws[k] j
  | [], v, h, k, hk => absurd hk (by simp)
  | w :: ws, v, ⟨d, h⟩, 0, hk => ⟨d, by simpa using h⟩
  | w :: ws, v, ⟨d, h⟩, k + 1, hk => by
    obtain ⟨a, h2⟩ := h.take k (by simpa using hk)
    refine ⟨a, ?_⟩
    rw [List.eraseIdx_cons_succ]
    refine ⟨d, h2.congr fun j _ => ?_⟩
    simp only [List.getElem_cons_succ]
    grind
/-- Each of the rows moved along one: the same, but for so many times that one. -/
theorem Comb.moved {c : Nat} (w : Nat → F) (m : (Nat → F) → F) : ∀ {ws : List (Nat → F)} {v : Nat → F}, Comb c ws v → ∃ a, Comb c (ws.map fun u j => u j + m u * w j) fun j => v j - a * w j
  | [], v, h => ⟨0, fun j hj => by show v j - 0 * w j = 0; rw [h j hj]; grind⟩
  | u :: ws, v, ⟨d, h⟩ => by
    obtain ⟨a, h2⟩ := Comb.moved w m h
    exact ⟨a - d * m u, d, h2.congr fun j _ => by dsimp only; grind⟩
/-- What all ways take to nought, all that comes of them does. -/
theorem Comb.still {c : Nat} {f : Nat → Nat → F} {i : Nat} : ∀ {ws : List (Nat → F)} {v : Nat → F}, Comb c ws v → (∀ w, w ∈ ws → tov c f w i = 0) → tov c f v i = 0
  | [], v, h, _ => by rw [tov_congr (w := fun _ => 0) (fun _ _ => rfl) h, tov_none]
  | w :: ws, v, ⟨a, h⟩, h0 => by
    have h1 := h.still fun u hu => h0 u (List.mem_cons_of_mem _ hu)
    have h2 := tov_more c f v w (-a) i
    have e : (fun j => v j - a * w j) = fun j => v j + -a * w j := by funext j; grind
    rw [e, h2, h0 w (List.mem_cons_self ..)] at h1
    rw [← h1]; grind

/-- A way moved along another one until row i takes it where it should go. -/
def mv (c : Nat) (f : Nat → Nat → F) (i : Nat) (want : F) (w u : Nat → F) : Nat → F := fun j => u j + ((want - tov c f u i) * Fp.inv (tov c f w i)) * w j
theorem mv_there {c : Nat} {f : Nat → Nat → F} {i : Nat} {want : F} {w u : Nat → F} (h0 : tov c f w i ≠ 0) : tov c f (mv c f i want w u) i = want := by
  show tov c f (fun j => u j + ((want - tov c f u i) * Fp.inv (tov c f w i)) * w j) i = want
  rw [tov_more]
  have h1 := inv_mul h0
  generalize Fp.inv (tov c f w i) = v at *
  generalize tov c f w i = t at *
  have : (want - tov c f u i) * v * t = (want - tov c f u i) * (v * t) := by grind
  rw [this, h1]; grind
theorem mv_still {c : Nat} {f : Nat → Nat → F} {i s : Nat} {want : F} {w u : Nat → F} (h0 : tov c f w s = 0) : tov c f (mv c f i want w u) s = tov c f u s := by
  show tov c f (fun j => u j + ((want - tov c f u i) * Fp.inv (tov c f w i)) * w j) s = _
  rw [tov_more, h0]; grind
theorem mv_off {c : Nat} {f : Nat → Nat → F} {i : Nat} {want : F} {w u : Nat → F} {b : List Nat} (hw : Off b c w) (hu : Off b c u) : Off b c (mv c f i want w u) := hu.more hw _

/-- The first i rows are met by x and by what comes of x and the ways, and by nothing else that is nought at the free columns. -/
structure Srch (c : Nat) (f : Nat → Nat → F) (tt0 : Nat → F) (b : List Nat) (i : Nat) (x : Nat → F) (ws : List (Nat → F)) : Prop where
  offx : Off b c x
  offw : ∀ w, w ∈ ws → Off b c w
  solx : ∀ s, s < i → tov c f x s = tt0 s
  solw : ∀ w, w ∈ ws → ∀ s, s < i → tov c f w s = 0
  all : ∀ y, Off b c y → (∀ s, s < i → tov c f y s = tt0 s) → Comb c ws fun j => y j - x j

theorem comb_units (c : Nat) : ∀ (b : List Nat) (y : Nat → F), Off b c y → Comb c (b.map fun k j => if j = k then 1 else 0) y
  | [], y, h => fun j hj => h j hj (by simp)
  | k :: b, y, h => by
    refine ⟨y k, comb_units c b _ fun j hj hb => ?_⟩
    show y j - y k * (if j = k then 1 else 0) = 0
    by_cases e : j = k
    · rw [if_pos e, e]; grind
    · rw [if_neg e, h j hj (by simp [e, hb])]; grind
theorem Srch.start (c : Nat) (f : Nat → Nat → F) (tt0 : Nat → F) (b : List Nat) : Srch c f tt0 b 0 (fun _ => 0) (b.map fun k j => if j = k then 1 else 0) := by
  refine ⟨fun _ _ _ => rfl, fun w hw j hj hb => ?_, fun s hs => absurd hs (by omega), fun w _ s hs => absurd hs (by omega), fun y hy _ => (comb_units c b y hy).congr fun j _ => by grind⟩
  obtain ⟨k, hk, rfl⟩ := List.mem_map.1 hw
  show (if j = k then (1 : F) else 0) = 0
  rw [if_neg fun e => hb (by rw [e]; exact hk)]
theorem Srch.keep {c : Nat} {f : Nat → Nat → F} {tt0 : Nat → F} {b : List Nat} {i : Nat} {x : Nat → F} {ws : List (Nat → F)} (h : Srch c f tt0 b i x ws) (h0 : ∀ w, w ∈ ws → tov c f w i = 0) (hx : tov c f x i = tt0 i) : Srch c f tt0 b (i + 1) x ws :=
  ⟨h.offx, h.offw, fun s hs => by
    by_cases e : s = i
    · rw [e, hx]
    · exact h.solx s (by omega), fun w hw s hs => by
    by_cases e : s = i
    · rw [e, h0 w hw]
    · exact h.solw w hw s (by omega), fun y hy hs => h.all y hy fun s h' => hs s (by omega)⟩
theorem Srch.fail {r c : Nat} {f g : Nat → Nat → F} {tt0 : Nat → F} {b : List Nat} {i : Nat} {x : Nat → F} {ws : List (Nat → F)} (h : Srch c f tt0 b i x ws) (st : Steps r c b g) (e : Req r c f g) (hi : i < r) (h0 : ∀ w, w ∈ ws → tov c f w i = 0) (hx : tov c f x i ≠ tt0 i) : NoAns r c f tt0 := by
  rintro ⟨z, hz⟩
  obtain ⟨y, hy, hyz⟩ := st.off_some e z
  have h1 := (h.all y hy fun s hs => by rw [hyz s (by omega), hz s (by omega)]).still h0
  rw [tov_less, hyz i hi, hz i hi] at h1
  exact hx (by grind)
theorem Srch.move {c : Nat} {f : Nat → Nat → F} {tt0 : Nat → F} {b : List Nat} {i : Nat} {x : Nat → F} {ws : List (Nat → F)} (h : Srch c f tt0 b i x ws) (k : Nat) (hk : k < ws.length) (h0 : tov c f ws[k] i ≠ 0) :
    Srch c f tt0 b (i + 1) (mv c f i (tt0 i) ws[k] x) ((ws.eraseIdx k).map (mv c f i 0 ws[k])) := by
  have hw : ws[k] ∈ ws := List.getElem_mem hk
  have he : ∀ u, u ∈ ws.eraseIdx k → u ∈ ws := fun u hu => (List.eraseIdx_sublist ws k).subset hu
  refine ⟨mv_off (h.offw _ hw) h.offx, fun v hv => ?_, fun s hs => ?_, fun v hv s hs => ?_, fun y hy hs => ?_⟩
  · obtain ⟨u, hu, rfl⟩ := List.mem_map.1 hv
    exact mv_off (h.offw _ hw) (h.offw u (he u hu))
  · by_cases e : s = i
    · rw [e, mv_there h0]
    · rw [mv_still (h.solw _ hw s (by omega)), h.solx s (by omega)]
  · obtain ⟨u, hu, rfl⟩ := List.mem_map.1 hv
    by_cases e : s = i
    · rw [e, mv_there h0]
    · rw [mv_still (h.solw _ hw s (by omega)), h.solw u (he u hu) s (by omega)]
  · obtain ⟨a, h1⟩ := (h.all y hy fun s h' => hs s (by omega)).take k hk
    obtain ⟨d, h2⟩ := Comb.moved ws[k] (fun u => (0 - tov c f u i) * Fp.inv (tov c f ws[k] i)) h1
    have h3 : Comb c ((ws.eraseIdx k).map (mv c f i 0 ws[k])) fun j => (y j - mv c f i (tt0 i) ws[k] x j) + (-(a + d - (tt0 i - tov c f x i) * Fp.inv (tov c f ws[k] i))) * ws[k] j :=
      Comb.congr (c := c) h2 fun j _ => by
        show y j - x j - a * ws[k] j - d * ws[k] j = y j - (x j + ((tt0 i - tov c f x i) * Fp.inv (tov c f ws[k] i)) * ws[k] j) + _
        generalize (tt0 i - tov c f x i) * Fp.inv (tov c f ws[k] i) = q
        generalize ws[k] j = z
        generalize x j = z2
        generalize y j = z3
        grind
    have h4 := h3.still (f := f) (i := i) fun w hw' => by
      obtain ⟨u, hu, rfl⟩ := List.mem_map.1 hw'
      exact mv_there h0
    rw [tov_more, tov_less, mv_there h0, hs i (Nat.lt_succ_self i)] at h4
    have h5 : a + d - (tt0 i - tov c f x i) * Fp.inv (tov c f ws[k] i) = 0 := by
      generalize a + d - (tt0 i - tov c f x i) * Fp.inv (tov c f ws[k] i) = q at *
      generalize tov c f ws[k] i = t at *
      rcases Fp.mul_zero_or (a := q) (b := t) (by grind) with e | e
      · exact e
      · exact absurd e h0
    rw [h5] at h3
    exact h3.congr fun j _ => by grind
theorem Srch.done {r c : Nat} {f : Nat → Nat → F} {tt0 : Nat → F} {b : List Nat} {x : Nat → F} {ws : List (Nat → F)} (h : Srch c f tt0 b r x ws) : Ans r c f tt0 b x := ⟨h.offx, h.solx⟩

/-- The ways as rows of a matrix. -/
def wl (n : Nat) (w : Nat → Nat → F) : List (Nat → F) := (List.range n).map w
theorem len_wl (n : Nat) (w : Nat → Nat → F) : (wl n w).length = n := by simp [wl]
theorem wl_at (n : Nat) (w : Nat → Nat → F) {k : Nat} (hk : k < (wl n w).length) : (wl n w)[k] = w k := by simp [wl]
theorem wl_mem {n : Nat} {w : Nat → Nat → F} {v : Nat → F} : v ∈ wl n w ↔ ∃ k, k < n ∧ w k = v := by simp [wl]
theorem wl_erase (n : Nat) (w : Nat → Nat → F) (k : Nat) (hk : k < n + 1) : (wl (n + 1) w).eraseIdx k = wl n fun i => w (sk k i) := by
  refine List.ext_getElem (by simp [wl, List.length_eraseIdx, hk]) fun i h1 h2 => ?_
  rw [List.getElem_eraseIdx]
  have h3 : i < n := by simpa [wl] using h2
  by_cases e : i < k
  · simp [wl, e, sk]
  · simp [wl, e, sk]
theorem wl_map (n : Nat) (w : Nat → Nat → F) (m : (Nat → F) → Nat → F) : (wl n w).map m = wl n fun i => m (w i) := by simp [wl]
theorem wl_units (b : List Nat) : (b.map fun k j => if j = k then (1 : F) else 0) = wl b.length fun t j => if j = pv b t then 1 else 0 := by
  refine List.ext_getElem (by simp [wl]) fun i h1 h2 => ?_
  have : i < b.length := by simpa using h1
  simp [wl, pv, this]

/-- With one more column. -/
def aug (c : Nat) (f : Nat → Nat → F) (tt0 : Nat → F) : Nat → Nat → F := fun i j => if j = c then tt0 i else f i j
theorem Req.less {r c d : Nat} {f g : Nat → Nat → F} (h : Req r c f g) (hd : d ≤ c) : Req r d f g := by
  obtain ⟨⟨s, hs⟩, ⟨t, ht⟩⟩ := h
  exact ⟨⟨s, fun i j hi hj => hs i j hi (by omega)⟩, ⟨t, fun i j hi hj => ht i j hi (by omega)⟩⟩
theorem aug_less (r c : Nat) (f : Nat → Nat → F) (tt0 : Nat → F) : Eqm r c f (aug c f tt0) := fun i j _ hj => by
  show f i j = if j = c then tt0 i else f i j
  rw [if_neg (by omega)]
theorem aug_tov (c : Nat) (f : Nat → Nat → F) (tt0 : Nat → F) (y : Nat → F) (i : Nat) : tov (c + 1) (aug c f tt0) (fun j => if j = c then -1 else y j) i = tov c f y i - tt0 i := by
  show sg c _ + aug c f tt0 i c * (if c = c then -1 else y c) = _
  rw [if_pos rfl, show aug c f tt0 i c = tt0 i from if_pos rfl]
  have : sg c (fun j => aug c f tt0 i j * (if j = c then -1 else y j)) = tov c f y i := sg_congr fun j hj => by
    rw [if_neg (by omega), show aug c f tt0 i j = f i j from if_neg (by omega)]
  rw [this]; grind
/-- What f takes to to, its steps take to what stands behind them. -/
theorem aug_same {r c : Nat} {f a : Nat → Nat → F} {tt0 : Nat → F} (e : Req r (c + 1) (aug c f tt0) a) (y : Nat → F) : (∀ i, i < r → tov c f y i = tt0 i) ↔ ∀ i, i < r → tov c a y i = a i c := by
  have ha : ∀ i, tov (c + 1) a (fun j => if j = c then -1 else y j) i = tov c a y i - a i c := fun i => by
    have := aug_tov c a (fun i => a i c) y i
    rw [← this]
    refine tov_congr (fun j _ => ?_) fun _ _ => rfl
    show a i j = if j = c then a i c else a i j
    by_cases e : j = c
    · rw [if_pos e, e]
    · rw [if_neg e]
  constructor
  · intro h i hi
    have := tov_come e.2 (v := fun j => if j = c then -1 else y j) (w := fun _ => 0) (fun x hx => by rw [aug_tov, h x hx, tov_none]; grind) hi
    rw [ha, tov_none] at this; grind
  · intro h i hi
    have := tov_come e.1 (v := fun j => if j = c then -1 else y j) (w := fun _ => 0) (fun x hx => by rw [ha, h x hx, tov_none]; grind) hi
    rw [aug_tov, tov_none] at this; grind
/-- The answer read off. -/
def ov (b : List Nat) (a : Nat → Nat → F) (c : Nat) : Nat → Nat → F
  | 0 => fun _ => 0
  | t + 1 => fun j => if j = pv b t then a t c else ov b a c t j
theorem ov_off {b : List Nat} {a : Nat → Nat → F} {c j : Nat} : ∀ t, (∀ s, s < t → j ≠ pv b s) → ov b a c t j = 0
  | 0, _ => rfl
  | t + 1, h => by
    show (if j = pv b t then _ else ov b a c t j) = _
    rw [if_neg (h t (Nat.lt_succ_self t)), ov_off t fun s hs => h s (by omega)]
theorem Steps.ov_piv {r k c : Nat} {b : List Nat} {g a : Nat → Nat → F} (h : Steps r k b g) : ∀ (t : Nat), t ≤ b.length → ∀ s, s < t → ov b a c t (pv b s) = a s c
  | 0, _, s, hs => absurd hs (by omega)
  | t + 1, ht, s, hs => by
    show (if pv b s = pv b t then _ else ov b a c t (pv b s)) = _
    by_cases e : s = t
    · rw [e, if_pos rfl]
    · rw [if_neg fun e' => e (h.inj (by omega) (by omega) e'), h.ov_piv t (by omega) s (by omega)]
theorem aug_ans {r c : Nat} {f a : Nat → Nat → F} {tt0 : Nat → F} {b : List Nat} (h : Steps r c b a) (e : Req r (c + 1) (aug c f tt0) a) (h0 : ∀ i, b.length ≤ i → i < r → a i c = 0) : Ans r c f tt0 b (ov b a c b.length) := by
  have hoff : Off b c (ov b a c b.length) := fun j hj hb => ov_off _ fun s hs e => hb (by rw [e]; exact pv_mem hs)
  refine ⟨hoff, (aug_same e _).2 fun i hi => ?_⟩
  unfold tov
  by_cases hl : i < b.length
  · rw [sg_one (h.lt i hl) fun j hj hne => ?_, h.ov_piv _ (Nat.le_refl _) i hl, h.piv i hl i hi, if_pos rfl]
    · grind
    · by_cases hjb : j ∈ b
      · obtain ⟨t, ht, rfl⟩ := h.mem hjb
        rw [h.piv t ht i hi, if_neg fun e => hne (by rw [e])]; grind
      · rw [hoff j hj hjb]; grind
  · rw [sg_congr (g := fun _ => 0) fun j hj => by rw [h.zero i (by omega) hi j hj]; grind, sg_none, h0 i (by omega) hi]
theorem aug_not {r c : Nat} {f a : Nat → Nat → F} {tt0 : Nat → F} {b : List Nat} (h : Steps r c b a) (e : Req r (c + 1) (aug c f tt0) a) {i : Nat} (hb : b.length ≤ i) (hi : i < r) (h0 : a i c ≠ 0) : NoAns r c f tt0 := by
  rintro ⟨z, hz⟩
  have := (aug_same e z).1 hz i hi
  unfold tov at this
  rw [sg_congr (g := fun _ => 0) fun j hj => by rw [h.zero i hb hi j hj]; grind, sg_none] at this
  exact h0 this.symm
/-- How many steps there are with one more column. -/
theorem aug_rank {r c : Nat} {f g h : Nat → Nat → F} {tt0 : Nat → F} {b d : List Nat} (s : Stair r c c f b g) (t : Stair r (c + 1) (c + 1) (aug c f tt0) d h) :
    ((∃ z : Nat → F, ∀ i, i < r → tov c f z i = tt0 i) → d.length = b.length) ∧ (NoAns r c f tt0 → d.length = b.length + 1) := by
  obtain ⟨b2, a, hs, hr⟩ := steps_some r (c + 1) (aug c f tt0) c (by omega)
  have hfa : Req r c f a := (Req.of r c (aug_less r c f tt0)).trans (hr.less (by omega))
  obtain ⟨rfl, _⟩ := s.steps.unique hs (s.req.symm.trans hfa)
  by_cases h0 : ∀ i, b.length ≤ i → i < r → a i c = 0
  · have hs2 := hs.skip h0
    obtain ⟨rfl, _⟩ := t.steps.unique hs2 (t.req.symm.trans hr)
    exact ⟨fun _ => rfl, fun hn => absurd ⟨_, (aug_ans hs hr h0).sol⟩ hn⟩
  · have : ∃ i, b.length ≤ i ∧ i < r ∧ a i c ≠ 0 := Classical.byContradiction fun hn => h0 fun i h1 h2 => Classical.byContradiction fun h3 => hn ⟨i, h1, h2, h3⟩
    obtain ⟨i, h1, h2, h3⟩ := this
    have hs2 := hs.next h1 h2 h3
    have hle := hs.le
    obtain ⟨rfl, _⟩ := t.steps.unique hs2 ((t.req.symm.trans hr).trans (req_next a (by omega) h2 h3))
    refine ⟨fun hz => absurd hz (aug_not hs hr h1 h2 h3), fun _ => by simp⟩

/-- The rows that are taken to noughts, one behind the other. -/
def nm (b : List Nat) (g : Nat → Nat → F) (c : Nat) : Nat → Nat → F := fun i => nv b g (pv (fr b c) i) b.length
theorem fr_at {b : List Nat} {c i : Nat} (hi : i < (fr b c).length) : pv (fr b c) i < c ∧ pv (fr b c) i ∉ b := fr_mem.1 (pv_mem hi)
theorem fr_inj {b : List Nat} {c i j : Nat} (hi : i < (fr b c).length) (hj : j < (fr b c).length) (e : pv (fr b c) i = pv (fr b c) j) : i = j := by
  have hp := List.pairwise_iff_getElem.1 (fr_pairs b c)
  have e1 : (fr b c)[i] = (fr b c)[j] := by simpa [pv, hi, hj] using e
  rcases Nat.lt_trichotomy i j with h | h | h
  · have := hp i j hi hj h; omega
  · exact h
  · have := hp j i hj hi h; omega
/-- No one of them is made of the others. -/
theorem nm_rank {r c : Nat} {b d : List Nat} {g h : Nat → Nat → F} (s : Stair (fr b c).length c c (nm b g c) d h) : d.length = (fr b c).length := by
  refine Nat.le_antisymm s.le (sees_thru (p := (fr b c).length) ⟨one, fun j i => if j = pv (fr b c) i then 1 else 0, ?_⟩ s.thru)
  refine (one_mul _ _ _).trans fun i j hi hj => ?_
  show sg c (fun x => nm b g c i x * (if x = pv (fr b c) j then 1 else 0)) = one i j
  rw [sg_one (fr_at hj).1 fun x _ hne => by rw [if_neg hne]; grind, if_pos rfl]
  show nv b g (pv (fr b c) i) b.length (pv (fr b c) j) * 1 = _
  rw [nv_free b g _ (fr_at hj).2 (Nat.le_refl _)]
  unfold one
  by_cases e : i = j
  · rw [e, if_pos rfl, if_pos rfl]; grind
  · rw [if_neg fun e' => e (fr_inj hj hi e').symm, if_neg e]; grind
theorem fr_next {b : List Nat} {c k : Nat} (hk : k < c) (hkb : k ∉ b) : (fr b k).length < (fr b c).length ∧ pv (fr b c) (fr b k).length = k := by
  have h : ∀ n, ∃ l, fr b (k + 1 + n) = fr b k ++ k :: l := by
    intro n
    induction n with
    | zero => exact ⟨[], by rw [Nat.add_zero, fr_no hkb]⟩
    | succ n ih =>
      obtain ⟨l, hl⟩ := ih
      by_cases e : k + 1 + n ∈ b
      · exact ⟨l, by rw [← Nat.add_assoc, fr_yes e, hl]⟩
      · exact ⟨l ++ [k + 1 + n], by rw [← Nat.add_assoc, fr_no e, hl]; simp⟩
  obtain ⟨l, hl⟩ := h (c - (k + 1))
  rw [show k + 1 + (c - (k + 1)) = c by omega] at hl
  rw [hl]
  exact ⟨by simp, by simp [pv]⟩

/-- One answer, and so many times what is taken to noughts. -/
def tot (b : List Nat) (g : Nat → Nat → F) (x y : Nat → F) : Nat → Nat → F
  | 0 => y
  | k + 1 => if k ∈ b then tot b g x y k else fun j => tot b g x y k j + x k * nv b g k b.length j
theorem tot_free {b : List Nat} {g : Nat → Nat → F} {x y : Nat → F} {j : Nat} (hj : j ∉ b) : ∀ k, tot b g x y k j = y j + if j < k then x j else 0
  | 0 => by show y j = _; rw [if_neg (by omega)]; grind
  | k + 1 => by
    show (if k ∈ b then tot b g x y k else fun j => tot b g x y k j + x k * nv b g k b.length j) j = _
    by_cases hk : k ∈ b
    · rw [if_pos hk, tot_free hj k]
      have : j ≠ k := fun e => hj (by rw [e]; exact hk)
      by_cases h : j < k
      · rw [if_pos h, if_pos (by omega)]
      · rw [if_neg h, if_neg (by omega)]
    · rw [if_neg hk]
      show tot b g x y k j + x k * nv b g k b.length j = _
      rw [tot_free hj k, nv_free b g k hj (Nat.le_refl _)]
      by_cases e : j = k
      · rw [if_pos e, if_neg (by omega), if_pos (by omega), e]; grind
      · rw [if_neg e]
        by_cases h : j < k
        · rw [if_pos h, if_pos (by omega)]; grind
        · rw [if_neg h, if_neg (by omega)]; grind
theorem tot_sol {r c : Nat} {b : List Nat} {f g : Nat → Nat → F} {x y : Nat → F} (h : Steps r c b g) (e : Req r c f g) {i : Nat} (hi : i < r) : ∀ k, k ≤ c → tov c f (tot b g x y k) i = tov c f y i
  | 0, _ => rfl
  | k + 1, hk => by
    show tov c f (if k ∈ b then tot b g x y k else fun j => tot b g x y k j + x k * nv b g k b.length j) i = _
    by_cases hkb : k ∈ b
    · rw [if_pos hkb, tot_sol h e hi k (by omega)]
    · rw [if_neg hkb, tov_more, tot_sol h e hi k (by omega), h.nv_zero e (by omega) hkb hi]; grind
theorem tot_all {r c : Nat} {b : List Nat} {f g : Nat → Nat → F} {x y : Nat → F} (s : Stair r c c f b g) (hy : Ans r c f (tov c f x) b y) : ∀ j, j < c → tot b g x y c j = x j := fun j hj => by
  have h := s.steps.off_zero s.req (v := fun j => tot b g x y c j - x j) (fun j hj hb => by
    show tot b g x y c j - x j = 0
    rw [tot_free hb, hy.off j hj hb, if_pos hj]; grind) (fun i hi => by rw [tov_less, tot_sol s.steps s.req hi c (Nat.le_refl _), hy.sol i hi]; grind) j hj
  have h : tot b g x y c j - x j = 0 := h
  grind
end Go.Proofs.YtofdhdnffkhojaaDoor.Mx

/- Contracts of package solve, first part: what keeps what, unit, checkSide, the function that valueOf makes. -/
namespace Go.Proofs.YtofdhdnffkhojaaDoor
open Go.ChangeShapes Go.WideShapes Go.ChangeAt Go.RowKit
set_option linter.unusedVariables false

/-- Nothing but what stands in some blocks has turned. -/
structure Save (S : Nat → Prop) (w w' : World) : Prop where
  os : w'.os = w.os
  tape : w'.tape = w.tape
  output : w'.output = w.output
  size : w.heap.size ≤ w'.heap.size
  block : ∀ b, b < w.heap.size → ¬ S b → w'.heap[b]? = w.heap[b]?
theorem Save.of {S : Nat → Prop} {w w' : World} (h : Kp w w') : Save S w w' := ⟨h.os, h.tape, h.output, h.size, fun b hb _ => h.block b hb⟩
theorem Save.refl (S : Nat → Prop) (w : World) : Save S w w := Save.of (Kp.rfl' w)
theorem Save.trans {S : Nat → Prop} {a b c : World} (h : Save S a b) (k : Save S b c) : Save S a c :=
  ⟨k.os.trans h.os, k.tape.trans h.tape, k.output.trans h.output, Nat.le_trans h.size k.size, fun i hi hn => (k.block i (Nat.lt_of_lt_of_le hi h.size) hn).trans (h.block i hi hn)⟩
theorem Save.drewN {S : Nat → Prop} {a b : World} (h : Save S a b) (n : Nat) : Save S a (b.drewN n) := h.trans (Save.of ((Kp.rfl' b).drewN n))
theorem Save.put {S : Nat → Prop} {a b : World} (h : Save S a b) {p : Addr} (hp : S p.block) (u : Value) : Save S a (b.setCell p u) :=
  h.trans ⟨rfl, rfl, rfl, by simp [World.setCell], fun k _ hn => Below.heap_setCell _ _ _ _ (fun e => hn (by rw [e]; exact hp))⟩
theorem Save.below {S : Nat → Prop} {B : Nat} {w0 w w' : World} (h : Save S w w') (hb : Below B w0 w) (hB : B ≤ w.heap.size) (hS : ∀ b, S b → B ≤ b) : Below B w0 w' :=
  hb.trans ⟨h.os, h.tape, h.output, h.size, fun k hk => h.block k (by omega) fun e => by have := hS k e; omega⟩
theorem Save.cell {S : Nat → Prop} {w w' : World} (h : Save S w w') {a : Addr} {v : Value} (hc : w.cell? a = some v) (hn : ¬ S a.block) : w'.cell? a = some v :=
  (World.cell?_of_block (w := w) (h.block a.block (cell_lt hc) hn)).trans hc
theorem ownsRow_save {S : Nat → Prop} {w w' : World} {B n : Nat} {e : TypeId} {v : Value} {xs : List Value} (h : w.ownsRow B e 1 v n xs) (hk : Save S w w') (hn : ∀ b, v.ownBlock = some b → ¬ S b) : w'.ownsRow B e 1 v n xs := by
  obtain ⟨h1, h2⟩ := h
  refine ⟨h1, ?_⟩
  rcases h2 with h2 | ⟨g, cap, cur, rfl, hg, hh, r⟩
  · exact .inl h2
  · refine .inr ⟨g, cap, cur, rfl, hg, ?_, r⟩
    rw [hk.block g ?_ (hn g rfl)]; exact hh
    rcases Nat.lt_or_ge g w.heap.size with hlt | hge
    · exact hlt
    · rw [Array.getElem?_eq_none hge] at hh; cases hh
theorem Own.save {S : Nat → Prop} {w w' : World} {B : Nat} {v : Value} {l : List Int} (h : Own w B v l) (hk : Save S w w') (hn : ∀ b, v.ownBlock = some b → ¬ S b) : Own w' B v l := ownsRow_save h hk hn
theorem OwnM.save {S : Nat → Prop} {w w' : World} {B : Nat} {v : Value} {G C : Nat → Nat} {m : List (List Int)} (h : OwnM w B v G C m) (hk : Save S w w') (hn : ∀ b, v.ownBlock = Option.some b → ¬ S b) (hr : ∀ i, i < m.length → ¬ S (G i)) : OwnM w' B v G C m :=
  ⟨ownsRow_save h.top hk hn, fun i hi => (h.row i hi).save hk fun b hb => by
    have : G i = b := Option.some.inj hb
    rw [← this]; exact hr i hi, h.apart⟩

/-- A row of numbers of the field. -/
abbrev rowF (c : Nat) (u : Nat → Fp.F) : List Int := Mx.row c fun j => ((u j).val : Int)
theorem matl_row {n c : Nat} (W : Nat → Nat → Fp.F) {k : Nat} (hk : k < n) : (Mx.matl n c W).getD k [] = rowF c (W k) := Mx.tab_at _ _ _ _ hk

theorem more_mod (s a b : Fp.F) : ((s.val : Int) + (a.val : Int) * (b.val : Int)).tmod 9973 = ((s + a * b).val : Int) := by
  have h := times_bound a b
  rw [Int.tmod_eq_emod_of_nonneg (by have := gval s; omega), Mx.val_more]
theorem sub_mod (a b : Fp.F) : ((a.val : Int) - (b.val : Int) + 9973).tmod 9973 = ((a - b).val : Int) := by
  have h1 := gval a
  have h2 := gval b
  rw [Int.tmod_eq_emod_of_nonneg (by omega), ← Fp.ofInt_val]
  have h : Fp.ofInt ((a.val : Int) - (b.val : Int) + 9973) + b = a := by
    have := Fp.ofInt_add ((a.val : Int) - (b.val : Int) + 9973) (b.val : Int)
    rw [Fp.ofInt_self, show (a.val : Int) - (b.val : Int) + 9973 + (b.val : Int) = (a.val : Int) + 9973 by omega, Fp.ofInt_add, Fp.ofInt_self, show Fp.ofInt 9973 = 0 from rfl] at this
    rw [← this]; grind
  have : Fp.ofInt ((a.val : Int) - (b.val : Int) + 9973) = a - b := by rw [← h]; grind
  rw [this]

/-- The function that valueOf made stands over row i of f: its box names the row, which lies in what was there. -/
structure Val (w : World) (gp B0 c : Nat) (f : Nat → Nat → Fp.F) (i : Nat) : Prop where
  ex : ∃ A1 d1, w.cell? ⟨gp, 0, none⟩ = some (.slice A1 c d1) ∧ LiesIn w B0 A1 (rowF c (f i))
theorem Val.save {S : Nat → Prop} {w w' : World} {gp B0 c : Nat} {f : Nat → Nat → Fp.F} {i : Nat} (h : Val w gp B0 c f i) (hk : Save S w w') (hg : ¬ S gp) (hS : ∀ b, S b → B0 ≤ b) (hB : B0 ≤ w.heap.size) : Val w' gp B0 c f i := by
  obtain ⟨A1, d1, h1, h2⟩ := h.ex
  exact ⟨A1, d1, hk.cell h1 hg, h2.below (hk.below (Below.refl B0 w) hB hS)⟩
theorem Val.keep {w w' : World} {gp B0 c : Nat} {f : Nat → Nat → Fp.F} {i : Nat} (h : Val w gp B0 c f i) (hk : Kp w w') (hB : B0 ≤ w.heap.size) : Val w' gp B0 c f i :=
  h.save (Save.of (S := fun _ => False) hk) (fun h => h) (fun _ h => h.elim) hB




set_option maxRecDepth 100000 in
set_option maxHeartbeats 1600000 in
theorem unit_any (c j : Nat) (w : World) (hc : c ≤ 1000) (hj : j < c) :
    Calls Tryd.prog 51 #[.int .i64 (c : Int), .int .i64 (j : Int)] w fun e w' =>
      ∃ g, e = .returned (.slice (some ⟨g, 0, none⟩) c c) ∧ w.heap.size ≤ g ∧ Row w' g (rowF c fun k => if k = j then 1 else 0) ∧ Kp w w' := by
  obtain ⟨i0, hi, hz0, hz1, hz2⟩ := info_parts int_info
  go_enter Tryd.func51, Tryd.ntmps51
  go_wp2_with (at_make; refine wpList_make_full _ rfl _ _ 23 rfl w.heap.size 3 i0 (.int .i64 0) 1 Tryd.underlying23 hi hz0 hz1 _ _ _ _ c rfl rfl rfl rfl (by rw [hz2]; omega) (by unfold maxLen; omega) (Nat.le_refl _) ?_; intro w2 hown hgrow; have hkp2 : Kp w w2 := (Kp.rfl' w).grown hgrow (by simp) (fun k hk => by cases hk); have hrow := row_made hown; have hcell := hrow.cell j (by rw [List.length_replicate]; exact hj); have hfree := hrow.free j)
  go_ret
  refine ⟨w.heap.size, rfl, Nat.le_refl _, ?_, hkp2.put (p := ⟨w.heap.size, j, none⟩) (Nat.le_refl _) _⟩
  have := hrow.put j 1
  rw [Mx.row_rep, Mx.row_set] at this
  rw [show rowF c (fun k => if k = j then 1 else 0) = Mx.row c fun k => if k = j then 1 else 0 from Mx.row_ext fun k _ => by
    by_cases e : k = j
    · simp only [if_pos e]; rfl
    · simp only [if_neg e]; rfl]
  exact this

end Go.Proofs.YtofdhdnffkhojaaDoor

/- Contracts of package solve, second part: a way less (slices.Delete), move, satisfy. -/
namespace Go.Proofs.YtofdhdnffkhojaaDoor
open Go.ChangeShapes Go.WideShapes Go.ChangeAt Go.RowKit
set_option linter.unusedVariables false

theorem own_at {w : World} {B n d : Nat} {A : Option Addr} {l : List Int} (h : Own w B (.slice A n d) l) : Lies w A l := by
  obtain ⟨A', c', e, hl⟩ := h.lies
  cases e; exact hl
theorem ownM_some {w : World} {B : Nat} {v : Value} {G C : Nat → Nat} {m : List (List Int)} (h : OwnM w B v G C m) (h0 : 0 < m.length) : ∃ g cap, v = .slice (some ⟨g, 0, none⟩) m.length cap ∧ m.length ≤ cap ∧ cap ≤ maxLen ∧ B ≤ g := by
  rcases h.top.2 with ⟨_, h1⟩ | ⟨g, cap, cur, e, hg, _, hc, hm, _⟩
  · omega
  · exact ⟨g, cap, e, hc, hm, hg⟩
/-- A row of such a matrix has turned, and nothing else. -/
theorem OwnM.turned {w w' : World} {B n c g cap : Nat} {G C : Nat → Nat} {F : Nat → Nat → Int} {t : Nat} {h1 : Nat → Int} (h : OwnM w B (.slice (Option.some ⟨g, 0, Option.none⟩) n cap) G C (Mx.tab n c F)) (ht : t < n)
    (ho : Own w' B (.slice (Option.some ⟨G t, 0, Option.none⟩) c (C t)) (Mx.row c h1)) (hs : Save (fun b => b = G t) w w') : OwnM w' B (.slice (Option.some ⟨g, 0, Option.none⟩) n cap) G C (Mx.tab n c fun s => if s = t then h1 else F s) := by
  have hw := h.weak
  have ap : ∀ i j, i < n → j < n → i ≠ j → G i ≠ G j := fun i j hi hj => h.apart i j (by rw [Mx.len_tab]; exact hi) (by rw [Mx.len_tab]; exact hj)
  refine OwnH.strong ⟨ownsRow_save hw.top hs fun b hb e => ?_, fun i hi => ?_⟩ ap
  · have : g = b := Option.some.inj hb
    exact hw.apartTop ht (by rw [← e, this])
  · by_cases e : i = t
    · subst e; rw [if_pos rfl]; exact ho
    · rw [if_neg e]
      exact (hw.row i hi).save hs fun b hb e2 => ap i t hi ht e (by rw [← e2]; exact Option.some.inj hb)

theorem save_setCells (g : Nat) : ∀ (vs : List Value) (o : Nat) (w : World), Save (fun b => b = g) w (w.setCells g o vs)
  | [], _, w => Save.refl _ w
  | v :: r, o, w => by
    rw [World.setCells]
    exact Save.trans (S := fun b => b = g) ((Save.refl (fun b => b = g) w).put (p := ⟨g, o, none⟩) rfl v) (save_setCells g r (o + 1) _)
theorem heap_setCells (g : Nat) (e : TypeId) : ∀ (vs : List Value) (o : Nat) (w : World) (cur : Array Value), w.heap[g]? = some (.cells cur e (0, 0)) →
    ∃ cur', (w.setCells g o vs).heap[g]? = some (.cells cur' e (0, 0)) ∧ cur'.size = cur.size ∧ ∀ j, j < cur.size → cur'[j]? = if o ≤ j ∧ j < o + vs.length then vs[j - o]? else cur[j]?
  | [], o, w, cur, h => ⟨cur, h, rfl, fun j _ => by simp; omega⟩
  | v :: r, o, w, cur, h => by
    rw [World.setCells]
    obtain ⟨cur', h1, h2, h3⟩ := heap_setCells g e r (o + 1) (w.setCell ⟨g, o, none⟩ v) _ (heap_setCell_same w g o _ _ v h)
    refine ⟨cur', h1, by rw [h2]; simp, fun j hj => ?_⟩
    rw [h3 j (by simpa using hj)]
    by_cases e1 : j = o
    · subst e1
      rw [if_neg (by omega), if_pos ⟨Nat.le_refl _, by simp⟩]
      simp [hj]
    · by_cases e2 : o + 1 ≤ j ∧ j < o + 1 + r.length
      · rw [if_pos e2, if_pos ⟨by omega, by simp; omega⟩]
        obtain ⟨t, rfl⟩ : ∃ t, j = o + 1 + t := ⟨j - (o + 1), by omega⟩
        rw [show o + 1 + t - (o + 1) = t by omega, show o + 1 + t - o = t + 1 by omega, List.getElem?_cons_succ]
      · rw [if_neg e2, if_neg (by simp; omega), Array.getElem?_setIfInBounds_ne (by omega)]


end Go.Proofs.YtofdhdnffkhojaaDoor

/- Contracts of package solve, third part: satisfy. -/
namespace Go.Proofs.YtofdhdnffkhojaaDoor
open Go.ChangeShapes Go.WideShapes Go.ChangeAt Go.RowKit
set_option linter.unusedVariables false

/-- One more row is met; or there is no answer at all. -/
def Stepped (B0 B gx cx r c i : Nat) (f : Nat → Nat → Fp.F) (tt0 : Nat → Fp.F) (b : List Nat) (w : World) (e : Ending) (w' : World) : Prop :=
  (∃ A n d G C x W, e = .returned (.tuple #[.slice A n d, .nilIface]) ∧ OwnM w' B (.slice A n d) G C (Mx.matl n c W) ∧ Own w' B0 (.slice (some ⟨gx, 0, none⟩) c cx) (rowF c x) ∧
    Mx.Srch c f tt0 b (i + 1) x (Mx.wl n W) ∧ n ≤ 1000 ∧ Below B0 w w') ∨
  (e = .returned (.tuple #[.slice none 0 0, .iface 53 (.int .i64 5)]) ∧ Mx.NoAns r c f tt0 ∧ Below B0 w w')

end Go.Proofs.YtofdhdnffkhojaaDoor

/- Contracts of package solve, fourth part: One. -/
namespace Go.Proofs.YtofdhdnffkhojaaDoor
open Go.ChangeShapes Go.WideShapes Go.ChangeAt Go.RowKit
set_option linter.unusedVariables false

theorem cols_at (b : List Nat) {k : Nat} (hk : k < b.length) : (cols b).getD k 0 = (Mx.pv b k : Int) := by simp [cols, Mx.pv, hk]
/-- What satisfy leaves, value by value. -/
def SRel (B0 B gx cx r c i : Nat) (f : Nat → Nat → Fp.F) (ys : Nat → Fp.F) (b : List Nat) (q p : Value) (w w' : World) : Prop :=
  (∃ n G C x W, p = .nilIface ∧ OwnM w' B q G C (Mx.matl n c W) ∧ Own w' B0 (.slice (some ⟨gx, 0, none⟩) c cx) (rowF c x) ∧ Mx.Srch c f ys b (i + 1) x (Mx.wl n W) ∧ n ≤ 1000 ∧ Below B0 w w') ∨
  (p = .iface 53 (.int .i64 5) ∧ Mx.NoAns r c f ys ∧ Below B0 w w')
theorem stepped_rel {B0 B gx cx r c i : Nat} {f : Nat → Nat → Fp.F} {ys : Nat → Fp.F} {b : List Nat} {w : World} {e : Ending} {w' : World} (h : Stepped B0 B gx cx r c i f ys b w e w') :
    ∃ q p, e = .returned (.tuple #[q, p]) ∧ SRel B0 B gx cx r c i f ys b q p w w' := by
  rcases h with ⟨A, n, d, G, C, x, W, he, h⟩ | ⟨he, h⟩
  · exact ⟨_, _, he, .inl ⟨n, G, C, x, W, rfl, h⟩⟩
  · exact ⟨_, _, he, .inr ⟨rfl, h⟩⟩

theorem SRel.from {B0 B gx cx r c i : Nat} {f : Nat → Nat → Fp.F} {ys : Nat → Fp.F} {b : List Nat} {q p : Value} {w0 w w' : World} (h : SRel B0 B gx cx r c i f ys b q p w w') (k : Below B0 w0 w) : SRel B0 B gx cx r c i f ys b q p w0 w' := by
  rcases h with ⟨n, G, C, x, W, h1, h2, h3, h4, h5, h6⟩ | ⟨h1, h2, h3⟩
  · exact .inl ⟨n, G, C, x, W, h1, h2, h3, h4, h5, k.trans h6⟩
  · exact .inr ⟨h1, h2, k.trans h3⟩

/-- The answer of a system, or that there is none. -/
def GotOne (r c : Nat) (f : Nat → Nat → Fp.F) (ys : Nat → Fp.F) (w : World) (e : Ending) (w' : World) : Prop :=
  ∃ b g, Stair r c c f b g ∧ ((∃ x A d, Mx.Ans r c f ys b x ∧ e = .returned (.tuple #[.slice A c d, .nilIface]) ∧ Lies w' A (rowF c x) ∧ Kp w w') ∨
    (Mx.NoAns r c f ys ∧ e = .returned (.tuple #[.slice none 0 0, .iface 53 (.int .i64 5)]) ∧ Kp w w'))
/-- No row, an error. -/
def FailsRow (c : Nat) (w : World) (e : Ending) (w' : World) : Prop := e = .returned (.tuple #[.slice none 0 0, errOf c]) ∧ Kp w w'

end Go.Proofs.YtofdhdnffkhojaaDoor

/- Contracts of slices.Index and slices.Contains at rows of integers: for all packages. -/
namespace Go.Proofs.YtofdhdnffkhojaaDoor
open Go.ChangeShapes Go.WideShapes Go.ChangeAt Go.RowKit
set_option linter.unusedVariables false

/-- A number occurs among the first. -/
def Occurs (l : List Int) (n : Nat) (v : Int) : Prop := ∃ j, j < n ∧ l.getD j 0 = v
/-- An index where it occurs, or -1. -/
def Idx (P : Prop) (e : Ending) : Prop := (P ∧ ∃ k : Nat, e = .returned (.int .i64 (k : Int))) ∨ (¬ P ∧ e = .returned (.int .i64 (-1)))

set_option maxHeartbeats 800000 in
theorem index_any (A : Option Addr) (l : List Int) (n c : Nat) (v : Int) (w : World) (hl : Lies w A l) (hn : n ≤ l.length) (ln : n ≤ 1000000) :
    Calls Tryd.prog 66 #[.slice A n c, .int .i64 v] w fun e w' => Idx (Occurs l n v) e ∧ w = w' := by
  have HL := Lib.hid hl
  have HN := Lib.hid hn
  clear hl hn
  go_enter Tryd.func66, Tryd.ntmps66
  go_wp2_with fail
  go_loop [8] (fun i => ∃ k : Nat, k ≤ n ∧ i = .int .i64 (k : Int) ∧ ∀ j, j < k → l.getD j 0 ≠ v) (fun i => n - (intOf i).toNat)
  case atStart => exact ⟨0, Nat.zero_le _, rfl, fun j hj => absurd hj (by omega)⟩
  case round =>
    obtain ⟨k, hk, rfl, hg⟩ := hrel
    have HG := Lib.hid hg
    clear hg
    by_cases hlt : k < n
    · obtain ⟨ad, rfl, _, hc⟩ := HL.out k (by have := HN.out; omega)
      obtain ⟨m, hm⟩ : ∃ m, m = l.getD k 0 := ⟨_, rfl⟩
      rw [← hm] at hc
      by_cases h0 : v = m
      · have F := Lib.hid (show Occurs l n v from ⟨k, hlt, by rw [← hm, h0]⟩)
        have e0 : (v == m) = true := by rw [h0]; exact beq_self_eq_true m
        clear hm h0
        go_wp2_with fail
        go_ret
        exact ⟨.inl ⟨F.out, k, rfl⟩, rfl⟩
      · have GG := Lib.hid (show ∀ j, j < k + 1 → l.getD j 0 ≠ v from fun j hj => by
          by_cases e : j = k
          · subst e; rw [← hm]; exact fun h => h0 h.symm
          · exact HG.out j (by omega))
        have e0 : (v == m) = false := by rw [beq_eq_false_iff_ne]; exact h0
        clear hm h0
        go_wp2_with fail
        go_round
        case rel => exact ⟨k + 1, by omega, by go_num, GG.out⟩
        case measure => simp [intOf]; omega
    · have F := Lib.hid (show ¬ Occurs l n v from fun ⟨j, h1, h2⟩ => HG.out j (by omega) h2)
      go_wp2_with fail
      go_ret
      exact ⟨.inr ⟨F.out, rfl⟩, rfl⟩

theorem contains_any (A : Option Addr) (l : List Int) (n c : Nat) (v : Int) (w : World) (hl : Lies w A l) (hn : n ≤ l.length) (ln : n ≤ 1000000) :
    Calls Tryd.prog 50 #[.slice A n c, .int .i64 v] w fun e w' => Tells (Occurs l n v) e ∧ w = w' := by
  have H := Lib.hid (index_any A l n c v w hl hn ln)
  clear hl hn
  go_enter Tryd.func50, Tryd.ntmps50
  go_wp2_with fail
  refine (H.out).mono ?_; rintro e w' ⟨hi, rfl⟩
  rcases hi with ⟨hp, k, rfl⟩ | ⟨hp, rfl⟩
  · have HP := Lib.hid hp
    go_wp2_with fail
    go_ret
    exact ⟨.inl ⟨HP.out, by simp⟩, rfl⟩
  · have HP := Lib.hid hp
    go_wp2_with fail
    go_ret
    exact ⟨.inr ⟨HP.out, by simp⟩, rfl⟩

end Go.Proofs.YtofdhdnffkhojaaDoor

/- Contracts of package solve, fifth part: Null. -/
namespace Go.Proofs.YtofdhdnffkhojaaDoor
open Go.ChangeShapes Go.WideShapes Go.ChangeAt Go.RowKit
set_option linter.unusedVariables false

theorem neg_mod (a : Fp.F) : ((9973 : Int) - (a.val : Int)).tmod 9973 = ((-a : Fp.F).val : Int) := by
  have h := sub_mod 0 a
  rw [show (((0 : Fp.F).val : Nat) : Int) = 0 from rfl, show (0 : Int) - (a.val : Int) + 9973 = 9973 - (a.val : Int) by omega] at h
  rw [h]
  have : (0 : Fp.F) - a = -a := by grind
  rw [this]
theorem cols_el (b : List Nat) {k : Nat} (hk : k < b.length) : (cols b).getD k 0 = (Mx.pv b k : Int) := by simp [cols, Mx.pv, hk]
theorem occurs_cols {b : List Nat} {k : Nat} : Occurs (cols b) b.length (k : Int) ↔ k ∈ b := by
  constructor
  · rintro ⟨j, hj, e⟩
    rw [cols_el b hj] at e
    have : Mx.pv b j = k := by omega
    rw [← this]; exact Mx.pv_mem hj
  · intro h
    obtain ⟨t, ht, rfl⟩ := List.mem_iff_getElem.1 h
    exact ⟨t, ht, by rw [cols_el b ht]; simp [Mx.pv, ht]⟩

/-- The rows that are taken to noughts, as far as the first k columns. -/
def nulls (b : List Nat) (g : Nat → Nat → Fp.F) (c k : Nat) : List (List Int) := (Mx.fr b k).map fun q => rowF c (Mx.nv b g q b.length)
theorem nulls_yes {b : List Nat} {g : Nat → Nat → Fp.F} {c k : Nat} (h : k ∈ b) : nulls b g c (k + 1) = nulls b g c k := by unfold nulls; rw [Mx.fr_yes h]
theorem nulls_no {b : List Nat} {g : Nat → Nat → Fp.F} {c k : Nat} (h : k ∉ b) : nulls b g c (k + 1) = nulls b g c k ++ [rowF c (Mx.nv b g k b.length)] := by unfold nulls; rw [Mx.fr_no h]; simp
theorem len_nulls (b : List Nat) (g : Nat → Nat → Fp.F) (c k : Nat) : (nulls b g c k).length = (Mx.fr b k).length := by simp [nulls]
theorem nulls_all (b : List Nat) (g : Nat → Nat → Fp.F) (c : Nat) : nulls b g c c = Mx.matl (Mx.fr b c).length c (Mx.nm b g c) := by
  refine List.ext_getElem (by rw [len_nulls, Mx.len_matl]) fun i h1 h2 => ?_
  have hi : i < (Mx.fr b c).length := by rwa [len_nulls] at h1
  simp [nulls, Mx.matl, Mx.tab, Mx.nm, Mx.pv, hi]

/-- The rows that are taken to noughts. -/
def GotNull (r c : Nat) (f : Nat → Nat → Fp.F) (w : World) (e : Ending) (w' : World) : Prop :=
  ∃ b g A d, Stair r c c f b g ∧ e = .returned (.tuple #[.slice A (Mx.fr b c).length d, .nilIface]) ∧ LiesM w' A (Mx.matl (Mx.fr b c).length c (Mx.nm b g c)) ∧ Kp w w'

set_option maxRecDepth 100000 in
theorem Null_bad (A : Option Addr) (m : List (List Int)) (n d : Nat) (w : World) (ha : LiesM w A m) (hn : m.length = n) (h : Mx.mcode 5 0 9972 m ≠ 0) :
    Calls Tryd.prog 24 #[.slice A n d] w fun e w' => e = .returned (.tuple #[.slice none 0 0, errOf (Mx.mcode 5 0 9972 m)]) ∧ Kp w w' := by
  have C := Lib.hid (Steps_bad A m n d w ha hn h)
  unfold FailsSteps at C
  rw [errOf_ne _ h] at C ⊢
  generalize Mx.mcode 5 0 9972 m = z at *
  clear ha hn h
  go_enter Tryd.func24, Tryd.ntmps24
  go_wp2_with fail
  refine (C.out).mono ?_; rintro e w' ⟨rfl, hk⟩
  have HK := Lib.hid hk
  clear hk
  go_wp2_with fail
  go_ret2
  exact ⟨rfl, HK.out⟩

set_option maxRecDepth 100000 in
set_option maxHeartbeats 6400000 in
theorem Null_ok (A : Option Addr) (f : Nat → Nat → Fp.F) (r c d : Nat) (w : World) (ha : LiesM w A (Mx.matl r c f)) (hr0 : 0 < r) (hr : r ≤ 5) (hc0 : 0 < c) (hc : c ≤ 5) :
    Calls Tryd.prog 24 #[.slice A r d] w fun e w' => GotNull r c f w e w' := by
  have STP := Lib.hid (Steps_ok A f r c d w ha hr0 hr hc0 hc)
  clear ha
  go_enter Tryd.func24, Tryd.ntmps24
  go_wp2_with fail
  refine (STP.out).mono ?_; rintro e w1 ⟨b, g, A1, d1, A2, d2, hs, rfl, l1, l2, k1⟩
  obtain ⟨ad, A0, d0, rfl, hlad, x1, _, l0⟩ := l1.row hr0
  rw [add_zero'] at x1
  have hble := hs.le
  obtain ⟨p, hp⟩ : ∃ p, p = b.length := ⟨_, rfl⟩
  rw [← hp] at hble ⊢
  have HP := Lib.hid hp
  have ST := Lib.hid hs
  have L1 := Lib.hid l1
  have L2 := Lib.hid l2
  have K1 := Lib.hid k1
  have X1 := Lib.hid x1
  have HAD := Lib.hid hlad
  clear hs l1 l2 k1 hp l0 hlad
  go_wp2_with fail
  go_loopw [7, 25] (fun v j wr => ∃ (k : Nat) (G C : Nat → Nat), k ≤ c ∧ j = .int .i64 (k : Int) ∧ OwnM wr w1.heap.size v G C (nulls b g c k) ∧ Kp w1 wr) (fun _ j _ => c - (intOf j).toNat)
  case atStart => exact ⟨0, fun _ => 0, fun _ => 0, Nat.zero_le _, rfl, ownM_none _ _ _ _, Kp.rfl' _⟩
  case round =>
    clear x1
    obtain ⟨k, G, C, hk, rfl, ho, hkp⟩ := hrel
    have HO := Lib.hid ho
    have HK := Lib.hid hkp
    by_cases hlt : k < c
    · have CT := Lib.hid (contains_any A2 (cols b) b.length d2 (k : Int) wr (L2.out.keep hkp) (by rw [len_cols]; exact Nat.le_refl _) (by rw [← HP.out]; omega))
      rw [← HP.out] at CT
      by_cases hkb : k ∈ b
      · have CY := Lib.hid ((CT.out).mono fun e w' h => (⟨tells_yes h.1 (by rw [HP.out]; exact occurs_cols.2 hkb), h.2⟩ : e = .returned (.bool true) ∧ wr = w'))
        have HO2 := Lib.hid (show OwnM wr w1.heap.size u7 G C (nulls b g c (k + 1)) by rw [nulls_yes hkb]; exact ho)
        clear ho hkp hkb
        go_wp2_with fail
        refine (CY.out).mono ?_; rintro e w' ⟨rfl, rfl⟩
        go_wp2_with fail
        go_roundw
        case rel => exact ⟨k + 1, G, C, by omega, by go_num, HO2.out, HK.out⟩
        case measure => simp [intOf]; omega
      · have CN := Lib.hid ((CT.out).mono fun e w' h => (⟨tells_no h.1 (by rw [HP.out]; exact fun h => hkb (occurs_cols.1 h)), h.2⟩ : e = .returned (.bool false) ∧ wr = w'))
        have HKB := Lib.hid hkb
        have x1 := (hkp.cell (p := ad) HAD.out).trans X1.out
        have UN := Lib.hid (unit_any c k wr (by omega) hlt)
        clear ho hkp hkb
        obtain ⟨wo, hwo⟩ : ∃ x, x = wr := ⟨_, rfl⟩
        subst hwo
        go_wp2_with fail
        refine (CN.out).mono ?_; rintro e w' ⟨rfl, rfl⟩
        go_wp2_with fail
        refine (UN.out).mono ?_; rintro e w3 ⟨gu, rfl, hgu, hru, k3⟩
        have HGU := Lib.hid hgu
        have HRU := Lib.hid hru
        have K3 := Lib.hid k3
        clear hgu hru k3 x1
        go_wp2_with fail
        go_loopw [39] (fun j wr => ∃ t : Nat, t ≤ p ∧ j = .int .i64 (t : Int) ∧ Row wr gu (rowF c (Mx.nv b g k t)) ∧ Kp wo wr) (fun j _ => p - (intOf j).toNat)
        case atStart => exact ⟨0, Nat.zero_le _, rfl, HRU.out, K3.out⟩
        case round =>
          obtain ⟨t, ht, rfl, hrow, hkw⟩ := hrel
          by_cases hlt2 : t < p
          · have hkk := HK.out.trans hkw
            obtain ⟨ad2, rfl, _, x2⟩ := (L2.out.keep hkk) t (by rw [len_cols, ← HP.out]; exact hlt2)
            rw [cols_el b (by rw [← HP.out]; exact hlt2)] at x2
            obtain ⟨_, A3, d3, e3, _, x3, _, l3⟩ := (L1.out.keep hkk).row (show t < r by omega)
            obtain rfl := Option.some.inj e3
            obtain ⟨ad4, rfl, _, x4⟩ := l3.el hlt
            have hj := ST.out.steps.lt t (by rw [← HP.out]; exact hlt2)
            have y1 := hrow.cell (Mx.pv b t) (by rw [Mx.len_row]; exact hj)
            have y2 := hrow.free (Mx.pv b t)
            rw [Mx.row_at _ _ _ hj] at y1
            have hm := neg_mod (g t k)
            have hb := gval (g t k)
            obtain ⟨z, hz⟩ : ∃ z, z = ((-(g t k) : Fp.F).val : Int) := ⟨_, rfl⟩
            rw [← hz] at hm
            have HN := Lib.hid (show Row (wr.setCell ⟨gu, Mx.pv b t, none⟩ (.int .i64 z)) gu (rowF c (Mx.nv b g k (t + 1))) from by
              have h := hrow.put (Mx.pv b t) z
              rw [Mx.row_set] at h
              rw [show rowF c (Mx.nv b g k (t + 1)) = Mx.row c fun j => if j = Mx.pv b t then z else ((Mx.nv b g k t j).val : Int) from Mx.row_ext fun j _ => by
                show (((if j = Mx.pv b t then -(g t k) else Mx.nv b g k t j) : Fp.F).val : Int) = _
                by_cases e : j = Mx.pv b t
                · rw [if_pos e, if_pos e, hz]
                · rw [if_neg e, if_neg e]]
              exact h)
            have HKW := Lib.hid (hkw.put (p := ⟨gu, Mx.pv b t, none⟩) HGU.out (.int .i64 z))
            generalize ((Mx.nv b g k t (Mx.pv b t)).val : Int) = old at *
            generalize ((g t k).val : Int) = gv at *
            generalize Mx.pv b t = q at *
            have hws : IntKind.i64.wrap (9973 - gv) = 9973 - gv := IntWalk.i64_in _ (by omega)
            clear hrow hkw hkk l3 hz hb
            go_wp2_with fail
            go_roundw
            case rel => exact ⟨t + 1, by omega, by go_num, HN.out, HKW.out⟩
            case measure => simp [intOf]; omega
          · obtain rfl : t = p := by omega
            have OM := Lib.hid (HO.out.kp hkw)
            have HU := Lib.hid (hrow.own (B := w1.heap.size) (Nat.le_trans HK.out.size HGU.out) (Mx.len_row _ _) (by omega))
            have HAP := Lib.hid (show ∀ i, i < (nulls b g c k).length → G i ≠ gu from fun i hi => by
              have := (HO.out.lt hi).2
              have := HGU.out
              omega)
            have HK3 := Lib.hid (HK.out.trans hkw)
            have HLN := Lib.hid (show (nulls b g c k).length + 1 ≤ 1000000 by rw [len_nulls]; have := Mx.fr_le b k; omega)
            have HNX := Lib.hid (show nulls b g c k ++ [rowF c (Mx.nv b g k t)] = nulls b g c (k + 1) by rw [HP.out, nulls_no HKB.out])
            clear hrow hkw
            go_wp2_with (at_builtin; refine wpList_pushM rfl _ _ rfl w1.heap.size _ G C (nulls b g c k) _ gu c c _ 1 (Mx.len_row _ _) rfl rfl (OM.out.new _) (cell_made _ _ _ _ 0 rfl) (HU.out.new _) HAP.out HLN.out (Nat.le_trans HK3.out.size ((Kp.rfl' _).new _).size) ?_; intro v' w4 G' C' ho4 hk4)
            rw [HNX.out] at ho4
            have HO4 := Lib.hid ho4
            have HK4 := Lib.hid (hk4 w1 (Nat.le_refl _) (HK3.out.new _))
            clear ho4 hk4
            go_wp2_with fail
            go_roundw
            case rel => exact ⟨k + 1, G', C', by omega, by go_num, HO4.out, HK4.out⟩
            case measure => simp [intOf]; omega
    · obtain rfl : k = c := by omega
      obtain ⟨A5, d5, rfl, hl5, _⟩ := ho.lies
      have HL := Lib.hid hl5
      rw [nulls_all] at HL
      have HKK := Lib.hid (K1.out.trans hkp)
      rw [len_nulls]
      clear ho hkp hl5
      go_wp2_with fail
      go_ret2
      exact ⟨b, g, A5, d5, ST.out, rfl, HL.out, HKK.out⟩
end Go.Proofs.YtofdhdnffkhojaaDoor

/- Good matrices, and what gauss says of whatever comes in: for seats without package mat's products. -/
namespace Go.Proofs.YtofdhdnffkhojaaDoor
open Go.ChangeShapes Go.WideShapes Go.ChangeAt Go.RowKit
set_option linter.unusedVariables false

theorem Rank_or (A : Option Addr) (m : List (List Int)) (n d : Nat) (hn : m.length = n) :
    (∃ r c f, Sh r c f m) ∨ ∀ (w : World), LiesM w A m → Calls Tryd.prog 23 #[.slice A n d] w fun e w' => ∃ z : Nat, e = .returned (.tuple #[.int .i64 0, .iface 53 (.int .i64 (z : Int))]) ∧ Kp w w' := by
  rcases sh_or m with ⟨_, h⟩ | h
  · exact .inl h
  · exact .inr fun w ha => ((Rank_bad A m n d w ha hn h).mono fun e w' h' => ⟨Mx.mcode 5 0 9972 m, by rw [h'.1, errOf_ne _ h], h'.2⟩)
theorem Rank_sh {A : Option Addr} {m : List (List Int)} {r c : Nat} {f : Nat → Nat → Fp.F} (s : Sh r c f m) (d : Nat) (w : World) (ha : LiesM w A m) :
    Calls Tryd.prog 23 #[.slice A r d] w fun e w' => GotRank r c f w e w' := by
  rw [s.eq] at ha
  exact Rank_ok A f r c d w ha s.r0 s.r5 s.c0 s.c5
theorem Steps_or (A : Option Addr) (m : List (List Int)) (n d : Nat) (hn : m.length = n) :
    (∃ r c f, Sh r c f m) ∨ ∀ (w : World), LiesM w A m → Calls Tryd.prog 49 #[.slice A n d] w fun e w' => ∃ z : Nat, e = .returned (.tuple #[.slice none 0 0, .slice none 0 0, .iface 53 (.int .i64 (z : Int))]) ∧ Kp w w' := by
  rcases sh_or m with ⟨_, h⟩ | h
  · exact .inl h
  · exact .inr fun w ha => ((Steps_bad A m n d w ha hn h).mono fun e w' h' => ⟨Mx.mcode 5 0 9972 m, by rw [h'.1, errOf_ne _ h], h'.2⟩)
theorem Steps_sh {A : Option Addr} {m : List (List Int)} {r c : Nat} {f : Nat → Nat → Fp.F} (s : Sh r c f m) (d : Nat) (w : World) (ha : LiesM w A m) :
    Calls Tryd.prog 49 #[.slice A r d] w fun e w' => GotSteps r c f w e w' := by
  rw [s.eq] at ha
  exact Steps_ok A f r c d w ha s.r0 s.r5 s.c0 s.c5
end Go.Proofs.YtofdhdnffkhojaaDoor

/- The closed fact of package solve, outright; what its functions say of whatever comes in. -/
namespace Go.Proofs.YtofdhdnffkhojaaDoor
open Go.ChangeShapes Go.WideShapes Go.ChangeAt Go.RowKit
set_option linter.unusedVariables false

/-- One row of two, and its head, just laid down. -/
theorem lit12_lies (w : World) (g : Nat) (a b : Int) (h : g = w.heap.size) : LiesM ((w.alloc (.cells #[.int .i64 a, .int .i64 b] 3)).alloc (.cells #[.slice (some ⟨g, 0, none⟩) 2 2] 23)) (some ⟨g + 1, 0, none⟩) [[a, b]] := by
  subst h
  have h0 : Lies (w.alloc (.cells #[.int .i64 a, .int .i64 b] 3)) (some ⟨w.heap.size, 0, none⟩) [a, b] := lies_new' w _ [a, b] _ rfl
  have k1 := (Kp.rfl' (w.alloc (.cells #[.int .i64 a, .int .i64 b] 3))).new (.cells #[.slice (some ⟨w.heap.size, 0, none⟩) 2 2] 23)
  intro k hk
  have e : k = 0 := by simp at hk; omega
  subst e
  exact ⟨_, some ⟨w.heap.size, 0, none⟩, 2, rfl, by simp, by rw [add_at, cell_just _ _ _ _ _ (by simp)]; rfl, by simp, h0.keep k1⟩
theorem modest12 (a b : Int) : Modest [[a, b]] := ⟨by simp, fun k hk => by
  have e : k = 0 := by simpa using hk
  subst e
  simp⟩

def fo : Nat → Nat → Fp.F := f22 1 1 0 2
def t34 : Nat → Fp.F := fun j => if j = 0 then 3 else 4
theorem fo_mat : Mx.tab 2 2 (n22 1 1 0 2) = Mx.matl 2 2 fo := by decide +kernel
theorem t34_row : rowF 2 t34 = [3, 4] := by decide +kernel
theorem fo_ans {b : List Nat} {x : Nat → Fp.F} (h : Mx.Ans 2 2 fo t34 b x) : rowF 2 x = [1, 2] := by
  have h1 : (0 + 0 * x 0) + 2 * x 1 = 4 := h.sol 1 (by decide)
  have h0 : (0 + 1 * x 0) + 1 * x 1 = 3 := h.sol 0 (by decide)
  have e1 : x 1 = 2 := by
    have h2 : (x 1 - 2) * 2 = 0 := by grind
    rcases Fp.mul_zero_or h2 with e | e
    · grind
    · exact absurd e (by decide)
  have e0 : x 0 = 1 := by rw [e1] at h0; grind
  show [(((x 0).val : Nat) : Int), (((x 1).val : Nat) : Int)] = [1, 2]
  rw [e0, e1]; rfl
theorem fo_some (h : Mx.NoAns 2 2 fo t34) : False := h ⟨fun j => if j = 0 then 1 else 2, fun i hi => by
  have : i = 0 ∨ i = 1 := by omega
  rcases this with rfl | rfl <;> decide⟩
def fn : Nat → Nat → Fp.F := fun _ j => if j = 0 then 1 else 2
theorem fn_mat : [[1, 2]] = Mx.matl 1 2 fn := by decide +kernel
theorem fn_inv : Fp.inv (fn 0 0) = 1 := (inv_unique (by decide) (by decide)).symm
theorem fn_stair : Stair 1 2 2 fn [0] (Mx.nxt 0 0 0 fn) := by
  have h1 := (Stair.start 1 2 fn).next (a := 0) (by decide) (by decide) (by decide)
  exact h1.skip fun i h1 h2 => absurd h2 (by simp at h1; omega)
theorem fn_null {g : Nat → Nat → Fp.F} (h : Mx.Eqm 1 2 g (Mx.nxt 0 0 0 fn)) : Mx.matl 1 2 (Mx.nm [0] g 2) = [[9971, 1]] := by
  have e : g 0 1 = 2 := by
    rw [h 0 1 (by decide) (by decide)]
    unfold Mx.nxt
    rw [if_pos rfl, fn_inv]; decide
  have h2 : Mx.matl 1 2 (Mx.nm [0] g 2) = Mx.matl 1 2 (fun _ j => if j = 0 then -2 else 1) := Mx.matl_ext fun i j hi hj => by
    obtain rfl : i = 0 := by omega
    have : j = 0 ∨ j = 1 := by omega
    rcases this with rfl | rfl
    · show -(g 0 1) = if 0 = 0 then -2 else 1
      rw [e, if_pos rfl]
    · show (1 : Fp.F) = if 1 = 0 then -2 else 1
      rw [if_neg (by decide)]
  rw [h2]; decide +kernel


theorem Null_or (A : Option Addr) (m : List (List Int)) (n d : Nat) (hn : m.length = n) :
    (∃ r c f, Sh r c f m) ∨ ∀ (w : World), LiesM w A m → Calls Tryd.prog 24 #[.slice A n d] w fun e w' => ∃ z : Nat, e = .returned (.tuple #[.slice none 0 0, .iface 53 (.int .i64 (z : Int))]) ∧ Kp w w' := by
  rcases sh_or m with ⟨_, h⟩ | h
  · exact .inl h
  · exact .inr fun w ha => ((Null_bad A m n d w ha hn h).mono fun e w' h' => ⟨Mx.mcode 5 0 9972 m, by rw [h'.1, errOf_ne _ h], h'.2⟩)
theorem Null_sh {A : Option Addr} {m : List (List Int)} {r c : Nat} {f : Nat → Nat → Fp.F} (s : Sh r c f m) (d : Nat) (w : World) (ha : LiesM w A m) :
    Calls Tryd.prog 24 #[.slice A r d] w fun e w' => GotNull r c f w e w' := by
  rw [s.eq] at ha
  exact Null_ok A f r c d w ha s.r0 s.r5 s.c0 s.c5
/-- A list of numbers of the field is a row of them. -/
theorem row_of {l : List Int} (h : ∀ k, k < l.length → 0 ≤ l.getD k 0 ∧ l.getD k 0 ≤ 9972) : ∃ t : Nat → Fp.F, l = rowF l.length t := by
  refine ⟨fun j => Fp.ofInt (l.getD j 0), ?_⟩
  refine (Mx.is_row l).trans (Mx.row_ext fun k hk => ?_)
  show l.getD k 0 = ((Fp.ofInt (l.getD k 0)).val : Int)
  rw [Fp.ofInt_val]
  have := h k hk
  omega
theorem rowF_in (q : Nat) (t : Nat → Fp.F) : AllIn (rowF q t) 0 9972 := fun k hk => by
  rw [Mx.len_row] at hk
  rw [Mx.row_at _ _ _ hk]
  exact gval (t k)
end Go.Proofs.YtofdhdnffkhojaaDoor

/- The law DetZero. -/
namespace Go.Proofs.YtofdhdnffkhojaaDoor
open Go.ChangeShapes Go.WideShapes Go.ChangeAt Go.RowKit
set_option linter.unusedVariables false

theorem Stair.dt {n : Nat} {f g : Nat → Nat → Fp.F} {b : List Nat} (h : Stair n n n f b g) : Mx.dt n f = 0 ↔ b.length < n := by
  constructor
  · intro h0
    refine Classical.byContradiction fun hn => ?_
    have hl : b.length = n := by have := h.steps.le; omega
    obtain ⟨_, ⟨t, ht⟩⟩ := h.req
    have h1 := Mx.dt_congr n (ht.symm.trans (h.steps.full hl))
    rw [Mx.dt_mul, Mx.dt_one, h0] at h1
    have : (0 : Fp.F) = 1 := by rw [← h1]; grind
    exact Fp.one_ne this.symm
  · intro hl
    obtain ⟨y, k, hk, hy, hz⟩ := h.steps.null h.req hl
    exact Mx.dt_null hk hy hz


end Go.Proofs.YtofdhdnffkhojaaDoor

/- What minors says of good matrices; its closed fact, outright. -/
namespace Go.Proofs.YtofdhdnffkhojaaDoor
open Go.ChangeShapes Go.WideShapes Go.ChangeAt Go.RowKit
set_option linter.unusedVariables false

theorem MAdj_sh {A : Option Addr} {m : List (List Int)} {n p : Nat} {f : Nat → Nat → Fp.F} (s : Sh n n f m) (hn : n = p + 1) (d : Nat) (w : World) (ha : LiesM w A m) :
    Calls Tryd.prog 30 #[.slice A n d] w fun e w' => ∃ g, e = .returned (.tuple #[.slice (some ⟨g, 0, none⟩) n n, .nilIface]) ∧ LiesM w' (some ⟨g, 0, none⟩) (Mx.matl n n (Mx.adj p f)) ∧ Kp w w' := by
  have h5 := s.r5
  rw [s.eq] at ha
  exact MAdj_ok A f n p d w ha hn (by omega)

theorem fadj_mat : Mx.matl 2 2 (Mx.adj 1 fdet) = Mx.tab 2 2 (n22 4 9971 9970 1) := by decide +kernel
/-- A matrix of one number, just laid down. -/
def lit11 (w : World) (g : Nat) (a : Int) : World := (w.alloc (.cells #[.int .i64 a] 3)).alloc (.cells #[.slice (some ⟨g, 0, none⟩) 1 1] 23)
theorem lit11_kp (w : World) (g : Nat) (a : Int) : Kp w (lit11 w g a) := ((Kp.rfl' w).new _).new _
theorem lit11_lies (w : World) (g : Nat) (a : Fp.F) (h : g = w.heap.size) : LiesM (lit11 w g (a.val : Int)) (some ⟨g + 1, 0, none⟩) (Mx.matl 1 1 fun _ _ => a) := by
  subst h
  have e1 : (w.alloc (.cells #[.int .i64 (a.val : Int)] 3)).heap.size = w.heap.size + 1 := by simp
  intro k hk
  rw [Mx.len_matl] at hk
  obtain rfl : k = 0 := by omega
  refine ⟨⟨w.heap.size + 1, 0, none⟩, some ⟨w.heap.size, 0, none⟩, 1, rfl, ?_, ?_, ?_, ?_⟩
  · show w.heap.size + 1 < (World.alloc _ _).heap.size
    rw [World.size_alloc, e1]; omega
  · rw [add_zero']
    exact (cell_made _ _ _ _ 0 e1.symm).trans rfl
  · exact Nat.le_refl _
  · exact (lies_new w 3 [(a.val : Int)]).keep ((Kp.rfl' _).new _)


end Go.Proofs.YtofdhdnffkhojaaDoor

/- The law TopRank. -/
namespace Go.Proofs.YtofdhdnffkhojaaDoor
open Go.ChangeShapes Go.WideShapes Go.ChangeAt Go.RowKit
set_option linter.unusedVariables false

theorem sh11 (a : Fp.F) : Sh 1 1 (fun _ _ => a) (Mx.matl 1 1 fun _ _ => a) := ⟨rfl, by decide, by decide, by decide, by decide⟩
theorem rank11 (w : World) : Calls Tryd.prog 23 #[.slice (some ⟨w.heap.size + 1, 0, none⟩) 1 1] (lit11 w w.heap.size 3) fun e w' => e = .returned (.tuple #[.int .i64 1, .nilIface]) ∧ Kp w w' := by
  have h := lit11_lies w w.heap.size (3 : Fp.F) rfl
  have k := lit11_kp w w.heap.size (3 : Int)
  refine (Rank_sh (sh11 3) 1 (lit11 w w.heap.size 3) h).mono ?_
  rintro e w' ⟨b, g, st, rfl, hk⟩
  have hd := st.dt
  have hb : b.length = 1 := by
    have h1 := st.steps.le
    have h2 : ¬ b.length < 1 := fun h => absurd (hd.2 h) (by decide +kernel)
    omega
  rw [hb]
  exact ⟨rfl, k.trans hk⟩

set_option maxRecDepth 100000 in
set_option maxHeartbeats 3200000 in
theorem walk_TopRank (A : Option Addr) (a : List (List Int)) (c : Nat) (w : World) (hl : Told.Laid w) (ha : LiesM w A a) :
    Calls Tryd.prog 7 #[.slice A a.length c] w fun e w' => e = .returned (.bool true) ∧ Kp w w' := by
  obtain ⟨n, hn⟩ : ∃ n, n = a.length := ⟨_, rfl⟩
  rw [← hn]
  have HA := Lib.hid ha
  have HL := Lib.hid hl
  have RK := Lib.hid (fun w => rank11 w)
  have E1 := Lib.hid (fun (wx : World) (hx : Kp w wx) => error_says 5 wx (laid_kp HL.out hx) (by decide))
  rw [errOf_ne 5 (by decide)] at E1
  clear ha hl
  rcases Of_or A a n c hn.symm with ⟨f, sa⟩ | bad
  · have SA := Lib.hid sa
    have n0 := sa.r0
    have n5 := sa.r5
    clear hn sa
    go_enter Tryd.func7, Tryd.ntmps7
    go_wp2_with fail
    refine (Of_sh SA.out c w HA.out).mono ?_; rintro e w2 ⟨rfl, k2⟩
    have K2 := Lib.hid k2; clear k2
    obtain ⟨x, hx⟩ : ∃ x, x = ((Mx.dt n f).val : Int) := ⟨_, rfl⟩
    rw [← hx]
    have HX := Lib.hid hx
    clear hx
    go_wp2_with fail
    refine (RK.out w2).mono ?_; rintro e w1 ⟨rfl, k1⟩
    have K1 := Lib.hid (K2.out.trans k1); clear k1
    go_wp2_with fail
    refine (Rank_sh SA.out c w1 (HA.out.keep K1.out)).mono ?_; rintro e w3 ⟨b, g, st, rfl, k3⟩
    have K3 := Lib.hid (K1.out.trans k3); have ST := Lib.hid st
    clear k3 st
    obtain ⟨p, hp⟩ : ∃ p, p = b.length := ⟨_, rfl⟩
    rw [← hp]
    have HP := Lib.hid hp
    clear hp
    go_wp2_with fail
    refine (Null_sh SA.out c w3 (HA.out.keep K3.out)).mono ?_; rintro e w4 ⟨b2, g2, A1, d1, st2, rfl, l1, k4⟩
    have K4 := Lib.hid (K3.out.trans k4)
    have e1 := (ST.out.one st2).1
    have hcnt := st2.steps.count
    rw [← e1] at hcnt ⊢
    obtain ⟨q, hq⟩ : ∃ q, q = (Mx.fr b n).length := ⟨_, rfl⟩
    rw [← hq, ← HP.out] at hcnt
    rw [← hq]
    have hd := ST.out.dt
    rw [← HP.out] at hd
    clear st2 l1 k4 e1 hq
    by_cases h0 : p < n
    · have hdt := hd.2 h0
      have e4 : (x == 0) = true := by rw [HX.out, hdt]; rfl
      have e4' : (x != 0) = false := by rw [HX.out, hdt]; rfl
      have e5 : ((q : Int) == 0) = false := by rw [beq_eq_false_iff_ne]; omega
      have e6 : ((p : Int) == (n : Int)) = false := by rw [beq_eq_false_iff_ne]; omega
      have OI := Lib.hid (fun w1 (h : LiesM w1 A a) => IOf_none A f n c w1 (by rw [← SA.out.eq]; exact h) n0 n5 hdt)
      rw [errOf_ne 5 (by decide)] at OI
      clear hcnt hd hdt
      go_wp2_with fail
      refine (OI.out w4 (HA.out.keep K4.out)).mono ?_; rintro e w5 ⟨rfl, k5⟩
      have K5 := Lib.hid (K4.out.trans k5); clear k5
      go_wp2_with fail
      refine (E1.out _ K5.out).mono ?_; rintro e w6 ⟨rfl, k6⟩
      have K6 := Lib.hid (K5.out.trans k6); clear k6
      go_wp2_with fail
      go_ret
      exact ⟨ret_bool (by simp), K6.out⟩
    · have hdt : Mx.dt n f ≠ 0 := fun e => h0 (hd.1 e)
      have hx0 : x ≠ 0 := fun e => hdt (Fp.val_inj (by rw [← HX.out, e]; rfl))
      have e4 : (x == 0) = false := beq_false_of_ne hx0
      have e4' : (x != 0) = true := by rw [bne_iff_ne]; exact hx0
      have e5 : ((q : Int) == 0) = true := by rw [beq_iff_eq]; omega
      have e6 : ((p : Int) == (n : Int)) = true := by rw [beq_iff_eq]; have := ST.out.steps.le; have := HP.out; omega
      have OI := Lib.hid (fun w1 (h : LiesM w1 A a) => IOf_sh (p := n - 1) SA.out (by omega) hdt c w1 h)
      clear hcnt hd hdt hx0
      go_wp2_with fail
      refine (OI.out w4 (HA.out.keep K4.out)).mono ?_; rintro e w5 ⟨g5, rfl, l5, k5⟩
      have K5 := Lib.hid (K4.out.trans k5); clear k5 l5
      go_wp2_with fail
      go_ret
      exact ⟨ret_bool (by simp), K5.out⟩
  · have BAD := Lib.hid bad
    clear hn bad
    go_enter Tryd.func7, Tryd.ntmps7
    go_wp2_with fail
    refine (BAD.out w HA.out).mono ?_; rintro e w2 ⟨z, rfl, k2⟩
    have K2 := Lib.hid k2; clear k2
    go_wp2_with fail
    refine (RK.out w2).mono ?_; rintro e w1 ⟨rfl, k1⟩
    have K1 := Lib.hid (K2.out.trans k1); clear k1
    go_wp2_with fail
    go_ret
    exact ⟨rfl, K1.out⟩

end Go.Proofs.YtofdhdnffkhojaaDoor
