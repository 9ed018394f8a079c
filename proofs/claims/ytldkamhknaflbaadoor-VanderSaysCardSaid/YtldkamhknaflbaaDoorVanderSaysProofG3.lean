/- Several texts, one behind the other: Told, ErrK, ErrG, VdSays. -/
import Derived.Test.YtldkamhknaflbaaDoorProg
import Derived.WalkKit
import Derived.LaidEql
import Derived.Stop.Asserts
import Derived.RowKitTokens
import Derived.Handy
import Derived.Test.YtldkamhknaflbaaDoorVanderSaysProofG1
import Derived.ProofKit
import Derived.OpenShut
import Derived.Lib.Hide
import Derived.Test.YtldkamhknaflbaaDoorVanderSaysProofG2

/- Contracts of plain.Told and rankmeresame.Error: of nil and of an Errno. Go's own text of errors.As is walked, by closed facts on the model's entries for internal/reflectlite at this translation's numbers. The one premise: the variable errors.errorType holds its type. -/
namespace Go.Proofs.YtldkamhknaflbaaDoor.Told
open Go.RowKit Go.Extern.Stop Go.Stop Go.Extern
set_option linter.unusedVariables false

theorem valueOfP (t : Addr) (w : World) : (ReflectliteValue.unpack (.iface 53 (.pointer (some t)))).run Tryd.prog w
    = .ok (.agg #[.pointer (some ⟨1, 53, none⟩), .pointer (some ⟨w.heap.size, 0, none⟩), .int .u64 150]) (w.alloc (.cells #[.pointer (some t)] 53)) := by kernel_rfl
theorem typeP (a : Addr) (w : World) : (ReflectliteValue.methodAny (ReflectliteValue.valueError "reflectlite.Value.Type" 0) (fun t _ _ _ => ReflectliteType.toType t) #[.agg #[.pointer (some ⟨1, 53, none⟩), .pointer (some a), .int .u64 150]]).run Tryd.prog w
    = .ok (.iface 71 (.agg #[.pointer (some ⟨1, 53, none⟩)])) w := by kernel_rfl
theorem methodKind (h : Value) (w : World) : (Go.method 214 71 (.agg #[h]) "Kind").run Tryd.prog w = .ok (47, h) w := by kernel_rfl
theorem kindP (w : World) : ((ReflectliteType.abiMethod fun t => (fun a : Nat => Value.int IntKind.u8 (a : Int)) <$> Rtype.kind t) #[.pointer (some ⟨1, 53, none⟩)]).run Tryd.prog w = .ok (.int .u8 22) w := by kernel_rfl
theorem kindE (w : World) : ((ReflectliteType.abiMethod fun t => (fun a : Nat => Value.int IntKind.u8 (a : Int)) <$> Rtype.kind t) #[.pointer (some ⟨1, 38, none⟩)]).run Tryd.prog w = .ok (.int .u8 2) w := by kernel_rfl
theorem rlm (z : Sem Value) (f : TypeId → Addr → Nat → Nat → Sem Value) (v : Value) :
    ReflectliteValue.method z f #[v] = (do match ← ReflectliteValue.parts v with | none => z | some (t, a, fl) => f t a fl (fl % 32)) := rfl
theorem partsP (a : Addr) (w : World) : (ReflectliteValue.parts (.agg #[.pointer (some ⟨1, 53, none⟩), .pointer (some a), .int .u64 150])).run Tryd.prog w = .ok (some (53, a, 150)) w := by kernel_rfl
theorem isNilP (a p : Addr) (W : World) (ha : W.cell? a = some (.pointer (some p))) :
    (ReflectliteValue.method (ReflectliteValue.valueError "reflectlite.Value.IsNil" 0) ReflectliteValue.isNil #[.agg #[.pointer (some ⟨1, 53, none⟩), .pointer (some a), .int .u64 150]]).run Tryd.prog W = .ok (.bool false) W := by
  rw [rlm]
  simp only [Sem.run_bind, partsP, Result.andThen]
  simp [ReflectliteValue.isNil, loadVar, isAgg, underlying, Tryd.underlying53, ha, Result.andThen]
theorem methodElem (h : Value) (w : World) : (Go.method 214 71 (.agg #[h]) "Elem").run Tryd.prog w = .ok (57, .agg #[h]) w := by kernel_rfl
theorem methodImplements (h : Value) (w : World) : (Go.method 214 71 (.agg #[h]) "Implements").run Tryd.prog w = .ok (58, .agg #[h]) w := by kernel_rfl
theorem methodAssignableTo (h : Value) (w : World) : (Go.method 214 71 (.agg #[h]) "AssignableTo").run Tryd.prog w = .ok (55, .agg #[h]) w := by kernel_rfl
theorem elemP (w : World) : (ReflectliteType.method ReflectliteType.elem #[.agg #[.pointer (some ⟨1, 53, none⟩)]]).run Tryd.prog w = .ok (.iface 71 (.agg #[.pointer (some ⟨1, 38, none⟩)])) w := by kernel_rfl
theorem implementsE (w : World) : (ReflectliteType.relation "Implements" ReflectliteType.implements_ #[.agg #[.pointer (some ⟨1, 38, none⟩)], .iface 71 (.agg #[.pointer (some ⟨1, 26, none⟩)])]).run Tryd.prog w = .ok (.bool true) w := by kernel_rfl
theorem typeOfE (v : Value) (w : World) : (ReflectliteType.typeOf #[.iface 38 v]).run Tryd.prog w = .ok (.iface 71 (.agg #[.pointer (some ⟨1, 38, none⟩)])) w := by kernel_rfl
theorem assignableE (w : World) : (ReflectliteType.relation "AssignableTo" ReflectliteType.assignableTo #[.agg #[.pointer (some ⟨1, 38, none⟩)], .iface 71 (.agg #[.pointer (some ⟨1, 38, none⟩)])]).run Tryd.prog w = .ok (.bool true) w := by kernel_rfl
theorem valueOfE (n : Int) (w : World) : (ReflectliteValue.unpack (.iface 38 (.int .i64 n))).run Tryd.prog w
    = .ok (.agg #[.pointer (some ⟨1, 38, none⟩), .pointer (some ⟨w.heap.size, 0, none⟩), .int .u64 130]) (w.alloc (.cells #[.int .i64 n] 38)) := by kernel_rfl
theorem elemOfP (w : World) : (Rtype.elem? 53).run Tryd.prog w = .ok (some 38) w := by kernel_rfl
theorem mkE (p : Addr) (w : World) : (ReflectliteValue.mk 38 p ReflectliteValue.flagAddr).run Tryd.prog w = .ok (.agg #[.pointer (some ⟨1, 38, none⟩), .pointer (some p), .int .u64 386]) w := by kernel_rfl
theorem elemVP (a p : Addr) (W : World) (ha : W.cell? a = some (.pointer (some p))) :
    (ReflectliteValue.method (ReflectliteValue.valueError "reflectlite.Value.Elem" 0) ReflectliteValue.elem #[.agg #[.pointer (some ⟨1, 53, none⟩), .pointer (some a), .int .u64 150]]).run Tryd.prog W
      = .ok (.agg #[.pointer (some ⟨1, 38, none⟩), .pointer (some p), .int .u64 386]) W := by
  rw [rlm]
  simp only [Sem.run_bind, partsP, Result.andThen]
  simp [ReflectliteValue.elem, loadVar, isAgg, underlying, Tryd.underlying53, ha, Result.andThen, elemOfP, mkE]
theorem rls (v x : Value) : ReflectliteValue.set #[v, x] = (do
    let (some (dst, a, fl), some (src, b, _)) := (← ReflectliteValue.parts v, ← ReflectliteValue.parts x)
      | unsupported (.noEntry "extern/(internal/reflectlite.Value).Set.zeroValue")
    if fl / ReflectliteValue.flagAddr % 2 == 0 then unsupported (.noEntry "extern/(internal/reflectlite.Value).Set.unaddressable")
    let val ← loadVar src b
    if ← Rtype.directlyAssignable dst src then storeVar dst a val
    else if ← Rtype.implements dst src then
      if (← Rtype.kind src) == 20 then
        match val with
        | .nilIface => unsupported (.noEntry "extern/reflectlite: a nil value of one interface type handed on as a value of another")
        | _ => storeVar dst a val
      else storeVar dst a (.iface src val)
    else panicString ("reflectlite.Set: value of type " ++ (← Rtype.spelt src) ++ " is not assignable to type " ++ (← Rtype.spelt dst))
    pure (.tuple #[])) := rfl
theorem partsEa (a : Addr) (w : World) : (ReflectliteValue.parts (.agg #[.pointer (some ⟨1, 38, none⟩), .pointer (some a), .int .u64 386])).run Tryd.prog w = .ok (some (38, a, 386)) w := by kernel_rfl
theorem partsE (a : Addr) (w : World) : (ReflectliteValue.parts (.agg #[.pointer (some ⟨1, 38, none⟩), .pointer (some a), .int .u64 130])).run Tryd.prog w = .ok (some (38, a, 130)) w := by kernel_rfl
theorem directE (w : World) : (Rtype.directlyAssignable 38 38).run Tryd.prog w = .ok true w := by kernel_rfl
theorem setE (ta b : Addr) (n : Int) (old : Value) (W : World) (hb : W.cell? b = some (.int .i64 n)) (ht : W.cell? ta = some old) (hf : W.frozen? ta = false) :
    (ReflectliteValue.set #[.agg #[.pointer (some ⟨1, 38, none⟩), .pointer (some ta), .int .u64 386], .agg #[.pointer (some ⟨1, 38, none⟩), .pointer (some b), .int .u64 130]]).run Tryd.prog W
      = .ok (.tuple #[]) (W.setCell ta (.int .i64 n)) := by
  rw [rls]
  simp only [Sem.run_bind, partsEa, partsE, Result.andThen]
  simp [ReflectliteValue.flagAddr, loadVar, isAgg, underlying, Tryd.underlying38, hb, Result.andThen, directE, storeVar, Value.cells, storeCells, Addr.add]
  rw [run_store Tryd.prog W ta _ _ (by rfl)]
  simp [ht, hf]

/-- The variable errors.errorType holds its type. -/
abbrev Laid (w : World) : Prop := w.cell? ⟨0, 0, none⟩ = some (.iface 71 (.agg #[.pointer (some ⟨1, 26, none⟩)]))

theorem laid_lt {w : World} (h : Laid w) : 0 < w.heap.size := by
  have h1 : w.cell? ⟨0, 0, none⟩ = some (.iface 71 (.agg #[.pointer (some ⟨1, 26, none⟩)])) := h
  rcases Nat.lt_or_ge 0 w.heap.size with h' | h'
  · exact h'
  · have e : w.heap[0]? = none := Array.getElem?_eq_none h'
    simp [World.cell?, e] at h1

set_option maxHeartbeats 4000000 in
theorem as_hit (n : Int) (t : Addr) (old : Value) (w : World) (hg : Laid w) (ht0 : w.cell? t = some old) (hf0 : w.frozen? t = false) :
    Calls Tryd.prog 22 #[.iface 38 (.int .i64 n), .iface 53 (.pointer (some t))] w fun ev w' => ev = .returned (.bool true) ∧ w' = ((((w.alloc (.cells #[.pointer (some t)] 53)).alloc (.cells #[.pointer (some ⟨1, 53, none⟩), .pointer (some ⟨w.heap.size, 0, none⟩), .int .u64 150] 60)).alloc (.cells #[.pointer (some ⟨1, 53, none⟩), .pointer (some ⟨w.heap.size, 0, none⟩), .int .u64 150] 60)).alloc (.cells #[.int .i64 n] 38)).setCell t (.int .i64 n) := by
  have h6 := @run_callFunc_extern Tryd.prog 26 _ (fun args => ReflectliteValue.unpack (args.getD 0 (.tuple #[]))) Tryd.func26 (by kernel_rfl) (by kernel_rfl) (by kernel_rfl) (by kernel_rfl)
  have h7 := @run_callFunc_extern Tryd.prog 27 _ (ReflectliteValue.methodAny (ReflectliteValue.valueError "reflectlite.Value.Type" 0) (fun t _ _ _ => ReflectliteType.toType t)) Tryd.func27 (by kernel_rfl) (by kernel_rfl) (by kernel_rfl) (by kernel_rfl)
  have h8 := @run_callFunc_extern Tryd.prog 28 _ (ReflectliteValue.method (ReflectliteValue.valueError "reflectlite.Value.IsNil" 0) ReflectliteValue.isNil) Tryd.func28 (by kernel_rfl) (by kernel_rfl) (by kernel_rfl) (by kernel_rfl)
  have h27 := @run_callFunc_extern Tryd.prog 47 _ (ReflectliteType.abiMethod fun t => do pure (.int .u8 (← Rtype.kind t))) Tryd.func47 (by kernel_rfl) (by kernel_rfl) (by kernel_rfl) (by kernel_rfl)
  have h37 := @run_callFunc_extern Tryd.prog 57 _ (ReflectliteType.method ReflectliteType.elem) Tryd.func57 (by kernel_rfl) (by kernel_rfl) (by kernel_rfl) (by kernel_rfl)
  have h38 := @run_callFunc_extern Tryd.prog 58 _ (ReflectliteType.relation "Implements" ReflectliteType.implements_) Tryd.func58 (by kernel_rfl) (by kernel_rfl) (by kernel_rfl) (by kernel_rfl)
  have h10 := @run_callFunc_extern Tryd.prog 30 _ ReflectliteType.typeOf Tryd.func30 (by kernel_rfl) (by kernel_rfl) (by kernel_rfl) (by kernel_rfl)
  have h35 := @run_callFunc_extern Tryd.prog 55 _ (ReflectliteType.relation "AssignableTo" ReflectliteType.assignableTo) Tryd.func55 (by kernel_rfl) (by kernel_rfl) (by kernel_rfl) (by kernel_rfl)
  have h11 := @run_callFunc_extern Tryd.prog 31 _ (ReflectliteValue.method (ReflectliteValue.valueError "reflectlite.Value.Elem" 0) ReflectliteValue.elem) Tryd.func31 (by kernel_rfl) (by kernel_rfl) (by kernel_rfl) (by kernel_rfl)
  have h12 := @run_callFunc_extern Tryd.prog 32 _ ReflectliteValue.set Tryd.func32 (by kernel_rfl) (by kernel_rfl) (by kernel_rfl) (by kernel_rfl)
  have tO := typeOfE
  have mA := methodAssignableTo
  have a25 := assignableE
  have v25 := valueOfE
  have f6 := valueOfP
  have f7 := typeP
  have mK := methodKind
  have mE := methodElem
  have mI := methodImplements
  have k27 := kindP
  have k25 := kindE
  have e27 := elemP
  have i25 := implementsE
  have n8 := isNilP ⟨w.heap.size, 0, none⟩ t ((w.alloc (.cells #[.pointer (some t)] 53)).alloc (.cells #[.pointer (some ⟨1, 53, none⟩), .pointer (some ⟨w.heap.size, 0, none⟩), .int .u64 150] 60)) (by simp)
  have hlt : 0 < w.heap.size := laid_lt hg
  have hg2 : ((w.alloc (.cells #[.pointer (some t)] 53)).alloc (.cells #[.pointer (some ⟨1, 53, none⟩), .pointer (some ⟨w.heap.size, 0, none⟩), .int .u64 150] 60)).cell? ⟨0, 0, none⟩ = some (.iface 71 (.agg #[.pointer (some ⟨1, 26, none⟩)])) := by
    rw [World.cell?_alloc_lt _ _ ⟨0, 0, none⟩ (by show 0 < (w.heap.push _).size; rw [Array.size_push]; omega), World.cell?_alloc_lt _ _ ⟨0, 0, none⟩ hlt]; exact hg
  have htl : t.block < w.heap.size := by
    rcases Nat.lt_or_ge t.block w.heap.size with h | h
    · exact h
    · simp [World.cell?, Array.getElem?_eq_none h] at ht0
  have el := elemVP ⟨w.heap.size, 0, none⟩ t (((w.alloc (.cells #[.pointer (some t)] 53)).alloc (.cells #[.pointer (some ⟨1, 53, none⟩), .pointer (some ⟨w.heap.size, 0, none⟩), .int .u64 150] 60)).alloc (.cells #[.pointer (some ⟨1, 53, none⟩), .pointer (some ⟨w.heap.size, 0, none⟩), .int .u64 150] 60)) (by rw [World.cell?_alloc_lt _ _ ⟨w.heap.size, 0, none⟩ (by simp; omega)]; simp)
  have st := setE t ⟨w.heap.size + 1 + 1 + 1, 0, none⟩ n old ((((w.alloc (.cells #[.pointer (some t)] 53)).alloc (.cells #[.pointer (some ⟨1, 53, none⟩), .pointer (some ⟨w.heap.size, 0, none⟩), .int .u64 150] 60)).alloc (.cells #[.pointer (some ⟨1, 53, none⟩), .pointer (some ⟨w.heap.size, 0, none⟩), .int .u64 150] 60)).alloc (.cells #[.int .i64 n] 38))
    (by rw [World.cell?_alloc_at _ _ _ _ (by simp)]; rfl)
    (by rw [World.cell?_alloc_lt _ _ t (by simp; omega), World.cell?_alloc_lt _ _ t (by simp; omega), World.cell?_alloc_lt _ _ t (by simp; omega), World.cell?_alloc_lt _ _ t htl]; exact ht0)
    (by rw [World.frozen?_alloc_old _ _ t (by simp; omega), World.frozen?_alloc_old _ _ t (by simp; omega), World.frozen?_alloc_old _ _ t (by simp; omega), World.frozen?_alloc_old _ _ t (Nat.ne_of_lt htl)]; exact hf0)
  go_enter Tryd.func22, Tryd.ntmps22
  go_wp2
  refine wp_loop_rounds 1 ?_
  rw [rounds_succ]
  go_wp2
  go_ret
  exact ⟨rfl, rfl⟩

end Go.Proofs.YtldkamhknaflbaaDoor.Told

/- Contracts of plain.Told and rankmeresame.Error: of nil and of an Errno; nothing that was there turns. The one premise: the variable errors.errorType holds its type. -/
namespace Go.Proofs.YtldkamhknaflbaaDoor
open Go.RowKit Go.Proofs.YtldkamhknaflbaaDoor.Told
set_option linter.unusedVariables false

theorem laid_kp {w w' : World} (h : Laid w) (hg : Kp w w') : Laid w' :=
  (hg.cell (p := ⟨0, 0, none⟩) (laid_lt h)).trans h

theorem toldK_nil (w : World) :
    Calls Tryd.prog 13 #[.nilIface] w fun e w' => e = .returned (.int .i64 0) ∧ w = w' := by
  go_enter Tryd.func13, Tryd.ntmps13
  go_wp2
  go_ret
  exact ⟨rfl, rfl⟩

set_option maxHeartbeats 4000000 in
theorem toldK_hit (n : Int) (w : World) (hg : Laid w) :
    Calls Tryd.prog 13 #[.iface 38 (.int .i64 n)] w fun e w' => e = .returned (.int .i64 n) ∧ Kp w w' := by
  have hgA := Lib.hid (laid_kp hg ((Kp.rfl' w).new (.cells #[.int .i64 0] 38)))
  clear hg
  go_enter Tryd.func13, Tryd.ntmps13
  go_wp2_with (go_at_call 22; refine (as_hit n _ (.int .i64 0) _ hgA.out (by simp) (by simp)).mono ?_; rintro e w' ⟨rfl, rfl⟩)
  go_ret
  exact ⟨rfl, ((((((Kp.rfl' w).new _).new _).new _).new _).new _)⟩

/-- rankmeresame.Error on no error. -/
theorem errorK_nil (c : Int) (w : World) (b : Bool) (hb : ((0 : Int) == c) = b) :
    Calls Tryd.prog 5 #[.nilIface, .int .i64 c] w fun e w' => e = .returned (.bool b) ∧ Kp w w' := by
  have H := Lib.hid hb
  clear hb
  go_enter Tryd.func5, Tryd.ntmps5
  go_wp2_with (go_at_call 13; refine (toldK_nil _).mono ?_; rintro e w' ⟨rfl, rfl⟩)
  go_ret
  exact ⟨congrArg (fun b => Ending.returned (.bool b)) H.out, Kp.rfl' _⟩

/-- rankmeresame.Error on an Errno. -/
theorem errorK_hit (n c : Int) (w : World) (hg : Laid w) (hn : 0 ≤ n ∧ n ≤ 100) (b : Bool) (hb : (n == c) = b) :
    Calls Tryd.prog 5 #[.iface 38 (.int .i64 n), .int .i64 c] w fun e w' => e = .returned (.bool b) ∧ Kp w w' := by
  have H := Lib.hid hb
  have HG := Lib.hid hg
  clear hb hg
  go_enter Tryd.func5, Tryd.ntmps5
  go_wp2_with (go_at_call 13; refine (toldK_hit _ _ HG.out).mono ?_; rintro e w' ⟨rfl, hw⟩)
  go_ret
  exact ⟨congrArg (fun b => Ending.returned (.bool b)) H.out, hw⟩

end Go.Proofs.YtldkamhknaflbaaDoor

/- rankmeresame.Error at the errors by number. -/
namespace Go.Proofs.YtldkamhknaflbaaDoor
open Go.ChangeShapes Go.WideShapes Go.ChangeAt Go.RowKit
set_option linter.unusedVariables false

/-- Error says yes to the error that is told. -/
theorem error_says (c : Nat) (w : World) (hl : Told.Laid w) (hc : c ≤ 100) :
    Calls Tryd.prog 5 #[errOf c, .int .i64 (c : Int)] w fun e w' => e = .returned (.bool true) ∧ Kp w w' := by
  by_cases h : c = 0
  · subst h; exact errorK_nil 0 w true rfl
  · rw [errOf_ne c h]
    exact errorK_hit c c w hl (by omega) true (by simp)

end Go.Proofs.YtldkamhknaflbaaDoor

/- The law VanderSays. -/
namespace Go.Proofs.YtldkamhknaflbaaDoor
open Go.ChangeShapes Go.WideShapes Go.ChangeAt Go.RowKit
set_option linter.unusedVariables false

set_option maxRecDepth 100000 in
set_option maxHeartbeats 6400000 in
theorem vsays_bad (A : Option Addr) (L : List Int) (c : Nat) (w : World) (hl : Told.Laid w) (ha : Lies w A L) (h : vcd L ≠ 0) :
    Calls Tryd.prog 3 #[.slice A L.length c] w fun e w' => e = .returned (.bool true) ∧ Kp w w' := by
  have HL := Lib.hid hl
  have SQ := Lib.hid (rPowers_any A L c w ha)
  have CK := Lib.hid (vChk_any A L c w ha)
  have FU := Lib.hid (fun w' (k : Kp w w') => VFull_bad A L c w' (ha.keep k) h)
  have DE := Lib.hid (fun w' (k : Kp w w') => VDet_bad A L c w' (ha.keep k) h)
  have hz := vcd_some L
  have ERR := Lib.hid (fun (wx : World) (hx : Kp w wx) => error_says (vcd L) wx (laid_kp HL.out hx) (by omega))
  have RWN := Lib.hid (fun (wx : World) => show Calls Tryd.prog 10 #[.slice none 0 0, .slice none 0 0] wx fun e w' => e = .returned (.bool true) ∧ Kp wx w' from
    rows_eq none none [] [] 0 0 0 0 wx (LiesM.empty _ _) (LiesM.empty _ _) rfl rfl modest_nil modest_nil rfl)
  rw [errOf_ne _ h] at CK FU DE ERR
  have e1 : ((vcd L : Int) == 0) = false := by rw [beq_eq_false_iff_ne]; omega
  generalize vcd L = z at *
  generalize L.length = n1 at *
  clear ha hl h hz
  go_enter Tryd.func3, Tryd.ntmps3
  go_wp2_with fail
  refine (SQ.out).mono ?_; rintro e w1 ⟨rfl, rfl⟩
  go_wp2_with fail
  refine (CK.out).mono ?_; rintro e w1 ⟨rfl, rfl⟩
  go_wp2_with fail
  refine (ERR.out _ (Kp.rfl' _)).mono ?_; rintro e w1 ⟨rfl, k1⟩
  have K := Lib.hid k1
  clear k1 CK SQ
  go_wp2_with fail
  refine (FU.out _ K.out).mono ?_; rintro e w2 ⟨rfl, rfl⟩
  go_wp2_with fail
  refine (ERR.out _ K.out).mono ?_; rintro e w3 ⟨rfl, k3⟩
  replace K := Lib.hid (K.out.trans k3); clear k3
  go_wp2_with fail
  refine (RWN.out _).mono ?_; rintro e w4 ⟨rfl, k4⟩
  replace K := Lib.hid (K.out.trans k4); clear k4
  go_wp2_with fail
  refine (DE.out _ K.out).mono ?_; rintro e w5 ⟨rfl, k5⟩
  replace K := Lib.hid (K.out.trans k5); clear k5
  go_wp2_with fail
  refine (ERR.out _ K.out).mono ?_; rintro e w6 ⟨rfl, k6⟩
  replace K := Lib.hid (K.out.trans k6); clear k6
  go_wp2_with fail
  go_ret
  exact ⟨rfl, K.out⟩

set_option maxRecDepth 100000 in
set_option maxHeartbeats 6400000 in
theorem vsays_good (A : Option Addr) (L : List Int) (n c : Nat) (X : Nat → Fp.F) (w : World) (hl : Told.Laid w) (ha : Lies w A L) (s : Vd n X L) (lc : n ≤ c) :
    Calls Tryd.prog 3 #[.slice A n c] w fun e w' => e = .returned (.bool true) ∧ Kp w w' := by
  have HL := Lib.hid hl
  have h0 := s.n0
  have h5 := s.n5
  have SQ := Lib.hid (rPowers_any A L c w ha)
  rw [s.code, s.len] at SQ
  have CK := Lib.hid (vChk_good s A c w ha)
  have RV := Lib.hid (fun w' (k : Kp w w') => rVander_any A X n c w' ((s.lies ha).keep k) h0 h5)
  unfold Made at RV
  have RD := Lib.hid (fun (M : Option Addr) (d : Nat) (w' : World) (h : LiesM w' M (Mx.matl n n (Mx.vm X))) => rDetMod_any n (by omega) M (Mx.vm X) d w' h)
  rw [Mx.dt_vm] at RD
  have FU := Lib.hid (fun w' (k : Kp w w') => VFull_ok A L n c X w' (ha.keep k) s)
  unfold MadeM at FU
  have DE := Lib.hid (fun w' (k : Kp w w') => VDet_ok A L n c X w' (ha.keep k) s lc)
  have ERR0 := Lib.hid (fun (wx : World) (hx : Kp w wx) => show Calls Tryd.prog 5 #[.nilIface, .int .i64 0] wx fun e w' => e = .returned (.bool true) ∧ Kp wx w' from error_says 0 wx (laid_kp HL.out hx) (by decide))
  have RWE := Lib.hid (fun (wx : World) (A' B' : Option Addr) (c' d' : Nat) (h1 : LiesM wx A' (Mx.matl n n (Mx.vm X))) (h2 : LiesM wx B' (Mx.matl n n (Mx.vm X))) => rows_eq A' B' (Mx.matl n n (Mx.vm X)) (Mx.matl n n (Mx.vm X)) n n c' d' wx h1 h2 (Mx.len_matl _ _ _) (Mx.len_matl _ _ _) (modest_tab _ (by omega) (by omega)) (modest_tab _ (by omega) (by omega)) rfl)
  generalize Mx.df n X = dd at *
  clear ha hl s lc h0 h5
  have e1 : ((dd.val : Int) == (dd.val : Int)) = true := by simp
  go_enter Tryd.func3, Tryd.ntmps3
  go_wp2_with fail
  refine (SQ.out).mono ?_; rintro e w1 ⟨rfl, rfl⟩
  go_wp2_with fail
  refine (CK.out).mono ?_; rintro e w1 ⟨rfl, rfl⟩
  go_wp2_with fail
  refine (ERR0.out _ (Kp.rfl' _)).mono ?_; rintro e w1 ⟨rfl, k1⟩
  have K := Lib.hid k1
  clear k1 CK SQ
  go_wp2_with fail
  refine (RV.out _ K.out).mono ?_; rintro e w2 ⟨M, d, rfl, lm, k2⟩
  replace K := Lib.hid (K.out.trans k2)
  have LM := Lib.hid lm
  clear k2 lm
  go_wp2_with fail
  refine (RD.out M d _ LM.out).mono ?_; rintro e w3 ⟨rfl, k3⟩
  replace K := Lib.hid (K.out.trans k3)
  replace LM := Lib.hid (LM.out.keep k3)
  clear k3
  go_wp2_with fail
  refine (FU.out _ K.out).mono ?_; rintro e w4 ⟨M', d', rfl, _, lm', k4⟩
  replace K := Lib.hid (K.out.trans k4)
  replace LM := Lib.hid (LM.out.keep k4)
  have LN := Lib.hid lm'
  clear k4 lm'
  go_wp2_with fail
  refine (ERR0.out _ K.out).mono ?_; rintro e w5 ⟨rfl, k5⟩
  replace K := Lib.hid (K.out.trans k5)
  replace LM := Lib.hid (LM.out.keep k5)
  replace LN := Lib.hid (LN.out.keep k5)
  clear k5
  go_wp2_with fail
  refine (RWE.out _ M' M d' d LN.out LM.out).mono ?_; rintro e w6 ⟨rfl, k6⟩
  replace K := Lib.hid (K.out.trans k6); clear k6
  go_wp2_with fail
  refine (DE.out _ K.out).mono ?_; rintro e w7 ⟨rfl, k7⟩
  replace K := Lib.hid (K.out.trans k7); clear k7
  go_wp2_with fail
  refine (ERR0.out _ K.out).mono ?_; rintro e w8 ⟨rfl, k8⟩
  replace K := Lib.hid (K.out.trans k8); clear k8
  go_wp2_with fail
  go_ret
  exact ⟨rfl, K.out⟩

theorem walk_VanderSays (A : Option Addr) (L : List Int) (c : Nat) (w : World) (hl : Told.Laid w) (ha : Lies w A L) (lc : L.length ≤ c) :
    Calls Tryd.prog 3 #[.slice A L.length c] w fun e w' => e = .returned (.bool true) ∧ Kp w w' := by
  rcases vd_or L with ⟨n, X, s⟩ | h
  · rw [s.len] at lc ⊢
    exact vsays_good A L n c X w hl ha s lc
  · exact vsays_bad A L c w hl ha h

end Go.Proofs.YtldkamhknaflbaaDoor
