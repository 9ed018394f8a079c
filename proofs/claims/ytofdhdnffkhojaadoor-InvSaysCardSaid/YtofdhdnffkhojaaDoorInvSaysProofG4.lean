/- Several texts, one behind the other: Told, ErrK, ErrG, InSays. -/
import Derived.Test.YtofdhdnffkhojaaDoorProg
import Derived.WalkKit
import Derived.LaidEql
import Derived.Stop.Asserts
import Derived.RowKitTokens
import Derived.Handy
import Derived.Test.YtofdhdnffkhojaaDoorInvSaysProofG1
import Derived.ProofKit
import Derived.OpenShut
import Derived.Lib.Hide
import Derived.Test.YtofdhdnffkhojaaDoorInvSaysProofG2
import Derived.Test.YtofdhdnffkhojaaDoorInvSaysProofG3

/- Contracts of plain.Told and rankmeresame.Error: of nil and of an Errno. Go's own text of errors.As is walked, by closed facts on the model's entries for internal/reflectlite at this translation's numbers. The one premise: the variable errors.errorType holds its type. -/
namespace Go.Proofs.YtofdhdnffkhojaaDoor.Told
open Go.RowKit Go.Extern.Stop Go.Stop Go.Extern
set_option linter.unusedVariables false

theorem valueOfP (t : Addr) (w : World) : (ReflectliteValue.unpack (.iface 79 (.pointer (some t)))).run Tryd.prog w
    = .ok (.agg #[.pointer (some ⟨1, 79, none⟩), .pointer (some ⟨w.heap.size, 0, none⟩), .int .u64 150]) (w.alloc (.cells #[.pointer (some t)] 79)) := by kernel_rfl
theorem typeP (a : Addr) (w : World) : (ReflectliteValue.methodAny (ReflectliteValue.valueError "reflectlite.Value.Type" 0) (fun t _ _ _ => ReflectliteType.toType t) #[.agg #[.pointer (some ⟨1, 79, none⟩), .pointer (some a), .int .u64 150]]).run Tryd.prog w
    = .ok (.iface 112 (.agg #[.pointer (some ⟨1, 79, none⟩)])) w := by kernel_rfl
theorem methodKind (h : Value) (w : World) : (Go.method 255 112 (.agg #[h]) "Kind").run Tryd.prog w = .ok (105, h) w := by kernel_rfl
theorem kindP (w : World) : ((ReflectliteType.abiMethod fun t => (fun a : Nat => Value.int IntKind.u8 (a : Int)) <$> Rtype.kind t) #[.pointer (some ⟨1, 79, none⟩)]).run Tryd.prog w = .ok (.int .u8 22) w := by kernel_rfl
theorem kindE (w : World) : ((ReflectliteType.abiMethod fun t => (fun a : Nat => Value.int IntKind.u8 (a : Int)) <$> Rtype.kind t) #[.pointer (some ⟨1, 53, none⟩)]).run Tryd.prog w = .ok (.int .u8 2) w := by kernel_rfl
theorem rlm (z : Sem Value) (f : TypeId → Addr → Nat → Nat → Sem Value) (v : Value) :
    ReflectliteValue.method z f #[v] = (do match ← ReflectliteValue.parts v with | none => z | some (t, a, fl) => f t a fl (fl % 32)) := rfl
theorem partsP (a : Addr) (w : World) : (ReflectliteValue.parts (.agg #[.pointer (some ⟨1, 79, none⟩), .pointer (some a), .int .u64 150])).run Tryd.prog w = .ok (some (79, a, 150)) w := by kernel_rfl
theorem isNilP (a p : Addr) (W : World) (ha : W.cell? a = some (.pointer (some p))) :
    (ReflectliteValue.method (ReflectliteValue.valueError "reflectlite.Value.IsNil" 0) ReflectliteValue.isNil #[.agg #[.pointer (some ⟨1, 79, none⟩), .pointer (some a), .int .u64 150]]).run Tryd.prog W = .ok (.bool false) W := by
  rw [rlm]
  simp only [Sem.run_bind, partsP, Result.andThen]
  simp [ReflectliteValue.isNil, loadVar, isAgg, underlying, Tryd.underlying79, ha, Result.andThen]
theorem methodElem (h : Value) (w : World) : (Go.method 255 112 (.agg #[h]) "Elem").run Tryd.prog w = .ok (115, .agg #[h]) w := by kernel_rfl
theorem methodImplements (h : Value) (w : World) : (Go.method 255 112 (.agg #[h]) "Implements").run Tryd.prog w = .ok (116, .agg #[h]) w := by kernel_rfl
theorem methodAssignableTo (h : Value) (w : World) : (Go.method 255 112 (.agg #[h]) "AssignableTo").run Tryd.prog w = .ok (113, .agg #[h]) w := by kernel_rfl
theorem elemP (w : World) : (ReflectliteType.method ReflectliteType.elem #[.agg #[.pointer (some ⟨1, 79, none⟩)]]).run Tryd.prog w = .ok (.iface 112 (.agg #[.pointer (some ⟨1, 53, none⟩)])) w := by kernel_rfl
theorem implementsE (w : World) : (ReflectliteType.relation "Implements" ReflectliteType.implements_ #[.agg #[.pointer (some ⟨1, 53, none⟩)], .iface 112 (.agg #[.pointer (some ⟨1, 28, none⟩)])]).run Tryd.prog w = .ok (.bool true) w := by kernel_rfl
theorem typeOfE (v : Value) (w : World) : (ReflectliteType.typeOf #[.iface 53 v]).run Tryd.prog w = .ok (.iface 112 (.agg #[.pointer (some ⟨1, 53, none⟩)])) w := by kernel_rfl
theorem assignableE (w : World) : (ReflectliteType.relation "AssignableTo" ReflectliteType.assignableTo #[.agg #[.pointer (some ⟨1, 53, none⟩)], .iface 112 (.agg #[.pointer (some ⟨1, 53, none⟩)])]).run Tryd.prog w = .ok (.bool true) w := by kernel_rfl
theorem valueOfE (n : Int) (w : World) : (ReflectliteValue.unpack (.iface 53 (.int .i64 n))).run Tryd.prog w
    = .ok (.agg #[.pointer (some ⟨1, 53, none⟩), .pointer (some ⟨w.heap.size, 0, none⟩), .int .u64 130]) (w.alloc (.cells #[.int .i64 n] 53)) := by kernel_rfl
theorem elemOfP (w : World) : (Rtype.elem? 79).run Tryd.prog w = .ok (some 53) w := by kernel_rfl
theorem mkE (p : Addr) (w : World) : (ReflectliteValue.mk 53 p ReflectliteValue.flagAddr).run Tryd.prog w = .ok (.agg #[.pointer (some ⟨1, 53, none⟩), .pointer (some p), .int .u64 386]) w := by kernel_rfl
theorem elemVP (a p : Addr) (W : World) (ha : W.cell? a = some (.pointer (some p))) :
    (ReflectliteValue.method (ReflectliteValue.valueError "reflectlite.Value.Elem" 0) ReflectliteValue.elem #[.agg #[.pointer (some ⟨1, 79, none⟩), .pointer (some a), .int .u64 150]]).run Tryd.prog W
      = .ok (.agg #[.pointer (some ⟨1, 53, none⟩), .pointer (some p), .int .u64 386]) W := by
  rw [rlm]
  simp only [Sem.run_bind, partsP, Result.andThen]
  simp [ReflectliteValue.elem, loadVar, isAgg, underlying, Tryd.underlying79, ha, Result.andThen, elemOfP, mkE]
theorem rls (v x : Value) : ReflectliteValue.set #[v, x] = (do
    let (some (dst, a, fl), some (src, b, _)) := (← ReflectliteValue.parts v, ← ReflectliteValue.parts x)
      | unsupported (.noEntry "extern/(internal/reflectlite.Value).Set.zeroValue")
    if fl / ReflectliteValue.flagAddr % 2 == 0 then unsupported (.noEntry "extern/(internal/reflectlite.Value).Set.unaddressable")
    let val ← loadVar src b
    if ← Rtype.directlyAssignable dst src then storeVar dst a val
    else if ← Rtype.implements dst src then
      if (← Rtype.kind src) == 20 then
        match val with
        | .nilIface => unsupported (.noEntry "extern/reflectlite: a nil value of one interface type handed on as a value of another")
        | _ => storeVar dst a val
      else storeVar dst a (.iface src val)
    else panicString ("reflectlite.Set: value of type " ++ (← Rtype.spelt src) ++ " is not assignable to type " ++ (← Rtype.spelt dst))
    pure (.tuple #[])) := rfl
theorem partsEa (a : Addr) (w : World) : (ReflectliteValue.parts (.agg #[.pointer (some ⟨1, 53, none⟩), .pointer (some a), .int .u64 386])).run Tryd.prog w = .ok (some (53, a, 386)) w := by kernel_rfl
theorem partsE (a : Addr) (w : World) : (ReflectliteValue.parts (.agg #[.pointer (some ⟨1, 53, none⟩), .pointer (some a), .int .u64 130])).run Tryd.prog w = .ok (some (53, a, 130)) w := by kernel_rfl
theorem directE (w : World) : (Rtype.directlyAssignable 53 53).run Tryd.prog w = .ok true w := by kernel_rfl
theorem setE (ta b : Addr) (n : Int) (old : Value) (W : World) (hb : W.cell? b = some (.int .i64 n)) (ht : W.cell? ta = some old) (hf : W.frozen? ta = false) :
    (ReflectliteValue.set #[.agg #[.pointer (some ⟨1, 53, none⟩), .pointer (some ta), .int .u64 386], .agg #[.pointer (some ⟨1, 53, none⟩), .pointer (some b), .int .u64 130]]).run Tryd.prog W
      = .ok (.tuple #[]) (W.setCell ta (.int .i64 n)) := by
  rw [rls]
  simp only [Sem.run_bind, partsEa, partsE, Result.andThen]
  simp [ReflectliteValue.flagAddr, loadVar, isAgg, underlying, Tryd.underlying53, hb, Result.andThen, directE, storeVar, Value.cells, storeCells, Addr.add]
  rw [run_store Tryd.prog W ta _ _ (by rfl)]
  simp [ht, hf]

/-- The variable errors.errorType holds its type. -/
abbrev Laid (w : World) : Prop := w.cell? ⟨0, 0, none⟩ = some (.iface 112 (.agg #[.pointer (some ⟨1, 28, none⟩)]))

theorem laid_lt {w : World} (h : Laid w) : 0 < w.heap.size := by
  have h1 : w.cell? ⟨0, 0, none⟩ = some (.iface 112 (.agg #[.pointer (some ⟨1, 28, none⟩)])) := h
  rcases Nat.lt_or_ge 0 w.heap.size with h' | h'
  · exact h'
  · have e : w.heap[0]? = none := Array.getElem?_eq_none h'
    simp [World.cell?, e] at h1

set_option maxHeartbeats 4000000 in
theorem as_hit (n : Int) (t : Addr) (old : Value) (w : World) (hg : Laid w) (ht0 : w.cell? t = some old) (hf0 : w.frozen? t = false) :
    Calls Tryd.prog 57 #[.iface 53 (.int .i64 n), .iface 79 (.pointer (some t))] w fun ev w' => ev = .returned (.bool true) ∧ w' = ((((w.alloc (.cells #[.pointer (some t)] 79)).alloc (.cells #[.pointer (some ⟨1, 79, none⟩), .pointer (some ⟨w.heap.size, 0, none⟩), .int .u64 150] 97)).alloc (.cells #[.pointer (some ⟨1, 79, none⟩), .pointer (some ⟨w.heap.size, 0, none⟩), .int .u64 150] 97)).alloc (.cells #[.int .i64 n] 53)).setCell t (.int .i64 n) := by
  have h6 := @run_callFunc_extern Tryd.prog 75 _ (fun args => ReflectliteValue.unpack (args.getD 0 (.tuple #[]))) Tryd.func75 (by kernel_rfl) (by kernel_rfl) (by kernel_rfl) (by kernel_rfl)
  have h7 := @run_callFunc_extern Tryd.prog 76 _ (ReflectliteValue.methodAny (ReflectliteValue.valueError "reflectlite.Value.Type" 0) (fun t _ _ _ => ReflectliteType.toType t)) Tryd.func76 (by kernel_rfl) (by kernel_rfl) (by kernel_rfl) (by kernel_rfl)
  have h8 := @run_callFunc_extern Tryd.prog 77 _ (ReflectliteValue.method (ReflectliteValue.valueError "reflectlite.Value.IsNil" 0) ReflectliteValue.isNil) Tryd.func77 (by kernel_rfl) (by kernel_rfl) (by kernel_rfl) (by kernel_rfl)
  have h27 := @run_callFunc_extern Tryd.prog 105 _ (ReflectliteType.abiMethod fun t => do pure (.int .u8 (← Rtype.kind t))) Tryd.func105 (by kernel_rfl) (by kernel_rfl) (by kernel_rfl) (by kernel_rfl)
  have h37 := @run_callFunc_extern Tryd.prog 115 _ (ReflectliteType.method ReflectliteType.elem) Tryd.func115 (by kernel_rfl) (by kernel_rfl) (by kernel_rfl) (by kernel_rfl)
  have h38 := @run_callFunc_extern Tryd.prog 116 _ (ReflectliteType.relation "Implements" ReflectliteType.implements_) Tryd.func116 (by kernel_rfl) (by kernel_rfl) (by kernel_rfl) (by kernel_rfl)
  have h10 := @run_callFunc_extern Tryd.prog 88 _ ReflectliteType.typeOf Tryd.func88 (by kernel_rfl) (by kernel_rfl) (by kernel_rfl) (by kernel_rfl)
  have h35 := @run_callFunc_extern Tryd.prog 113 _ (ReflectliteType.relation "AssignableTo" ReflectliteType.assignableTo) Tryd.func113 (by kernel_rfl) (by kernel_rfl) (by kernel_rfl) (by kernel_rfl)
  have h11 := @run_callFunc_extern Tryd.prog 89 _ (ReflectliteValue.method (ReflectliteValue.valueError "reflectlite.Value.Elem" 0) ReflectliteValue.elem) Tryd.func89 (by kernel_rfl) (by kernel_rfl) (by kernel_rfl) (by kernel_rfl)
  have h12 := @run_callFunc_extern Tryd.prog 90 _ ReflectliteValue.set Tryd.func90 (by kernel_rfl) (by kernel_rfl) (by kernel_rfl) (by kernel_rfl)
  have tO := typeOfE
  have mA := methodAssignableTo
  have a25 := assignableE
  have v25 := valueOfE
  have f6 := valueOfP
  have f7 := typeP
  have mK := methodKind
  have mE := methodElem
  have mI := methodImplements
  have k27 := kindP
  have k25 := kindE
  have e27 := elemP
  have i25 := implementsE
  have n8 := isNilP ⟨w.heap.size, 0, none⟩ t ((w.alloc (.cells #[.pointer (some t)] 79)).alloc (.cells #[.pointer (some ⟨1, 79, none⟩), .pointer (some ⟨w.heap.size, 0, none⟩), .int .u64 150] 97)) (by simp)
  have hlt : 0 < w.heap.size := laid_lt hg
  have hg2 : ((w.alloc (.cells #[.pointer (some t)] 79)).alloc (.cells #[.pointer (some ⟨1, 79, none⟩), .pointer (some ⟨w.heap.size, 0, none⟩), .int .u64 150] 97)).cell? ⟨0, 0, none⟩ = some (.iface 112 (.agg #[.pointer (some ⟨1, 28, none⟩)])) := by
    rw [World.cell?_alloc_lt _ _ ⟨0, 0, none⟩ (by show 0 < (w.heap.push _).size; rw [Array.size_push]; omega), World.cell?_alloc_lt _ _ ⟨0, 0, none⟩ hlt]; exact hg
  have htl : t.block < w.heap.size := by
    rcases Nat.lt_or_ge t.block w.heap.size with h | h
    · exact h
    · simp [World.cell?, Array.getElem?_eq_none h] at ht0
  have el := elemVP ⟨w.heap.size, 0, none⟩ t (((w.alloc (.cells #[.pointer (some t)] 79)).alloc (.cells #[.pointer (some ⟨1, 79, none⟩), .pointer (some ⟨w.heap.size, 0, none⟩), .int .u64 150] 97)).alloc (.cells #[.pointer (some ⟨1, 79, none⟩), .pointer (some ⟨w.heap.size, 0, none⟩), .int .u64 150] 97)) (by rw [World.cell?_alloc_lt _ _ ⟨w.heap.size, 0, none⟩ (by simp; omega)]; simp)
  have st := setE t ⟨w.heap.size + 1 + 1 + 1, 0, none⟩ n old ((((w.alloc (.cells #[.pointer (some t)] 79)).alloc (.cells #[.pointer (some ⟨1, 79, none⟩), .pointer (some ⟨w.heap.size, 0, none⟩), .int .u64 150] 97)).alloc (.cells #[.pointer (some ⟨1, 79, none⟩), .pointer (some ⟨w.heap.size, 0, none⟩), .int .u64 150] 97)).alloc (.cells #[.int .i64 n] 53))
    (by rw [World.cell?_alloc_at _ _ _ _ (by simp)]; rfl)
    (by rw [World.cell?_alloc_lt _ _ t (by simp; omega), World.cell?_alloc_lt _ _ t (by simp; omega), World.cell?_alloc_lt _ _ t (by simp; omega), World.cell?_alloc_lt _ _ t htl]; exact ht0)
    (by rw [World.frozen?_alloc_old _ _ t (by simp; omega), World.frozen?_alloc_old _ _ t (by simp; omega), World.frozen?_alloc_old _ _ t (by simp; omega), World.frozen?_alloc_old _ _ t (Nat.ne_of_lt htl)]; exact hf0)
  go_enter Tryd.func57, Tryd.ntmps57
  go_wp2
  refine wp_loop_rounds 1 ?_
  rw [rounds_succ]
  go_wp2
  go_ret
  exact ⟨rfl, rfl⟩

end Go.Proofs.YtofdhdnffkhojaaDoor.Told

/- Contracts of plain.Told and rankmeresame.Error: of nil and of an Errno; nothing that was there turns. The one premise: the variable errors.errorType holds its type. -/
namespace Go.Proofs.YtofdhdnffkhojaaDoor
open Go.RowKit Go.Proofs.YtofdhdnffkhojaaDoor.Told
set_option linter.unusedVariables false

theorem laid_kp {w w' : World} (h : Laid w) (hg : Kp w w') : Laid w' :=
  (hg.cell (p := ⟨0, 0, none⟩) (laid_lt h)).trans h

theorem toldK_nil (w : World) :
    Calls Tryd.prog 32 #[.nilIface] w fun e w' => e = .returned (.int .i64 0) ∧ w = w' := by
  go_enter Tryd.func32, Tryd.ntmps32
  go_wp2
  go_ret
  exact ⟨rfl, rfl⟩

set_option maxHeartbeats 4000000 in
theorem toldK_hit (n : Int) (w : World) (hg : Laid w) :
    Calls Tryd.prog 32 #[.iface 53 (.int .i64 n)] w fun e w' => e = .returned (.int .i64 n) ∧ Kp w w' := by
  have hgA := Lib.hid (laid_kp hg ((Kp.rfl' w).new (.cells #[.int .i64 0] 53)))
  clear hg
  go_enter Tryd.func32, Tryd.ntmps32
  go_wp2_with (go_at_call 57; refine (as_hit n _ (.int .i64 0) _ hgA.out (by simp) (by simp)).mono ?_; rintro e w' ⟨rfl, rfl⟩)
  go_ret
  exact ⟨rfl, ((((((Kp.rfl' w).new _).new _).new _).new _).new _)⟩

/-- rankmeresame.Error on no error. -/
theorem errorK_nil (c : Int) (w : World) (b : Bool) (hb : ((0 : Int) == c) = b) :
    Calls Tryd.prog 12 #[.nilIface, .int .i64 c] w fun e w' => e = .returned (.bool b) ∧ Kp w w' := by
  have H := Lib.hid hb
  clear hb
  go_enter Tryd.func12, Tryd.ntmps12
  go_wp2_with (go_at_call 32; refine (toldK_nil _).mono ?_; rintro e w' ⟨rfl, rfl⟩)
  go_ret
  exact ⟨congrArg (fun b => Ending.returned (.bool b)) H.out, Kp.rfl' _⟩

/-- rankmeresame.Error on an Errno. -/
theorem errorK_hit (n c : Int) (w : World) (hg : Laid w) (hn : 0 ≤ n ∧ n ≤ 100) (b : Bool) (hb : (n == c) = b) :
    Calls Tryd.prog 12 #[.iface 53 (.int .i64 n), .int .i64 c] w fun e w' => e = .returned (.bool b) ∧ Kp w w' := by
  have H := Lib.hid hb
  have HG := Lib.hid hg
  clear hb hg
  go_enter Tryd.func12, Tryd.ntmps12
  go_wp2_with (go_at_call 32; refine (toldK_hit _ _ HG.out).mono ?_; rintro e w' ⟨rfl, hw⟩)
  go_ret
  exact ⟨congrArg (fun b => Ending.returned (.bool b)) H.out, hw⟩

end Go.Proofs.YtofdhdnffkhojaaDoor

/- rankmeresame.Error at the errors by number. -/
namespace Go.Proofs.YtofdhdnffkhojaaDoor
open Go.ChangeShapes Go.WideShapes Go.ChangeAt Go.RowKit
set_option linter.unusedVariables false

/-- Error says yes to the error that is told. -/
theorem error_says (c : Nat) (w : World) (hl : Told.Laid w) (hc : c ≤ 100) :
    Calls Tryd.prog 12 #[errOf c, .int .i64 (c : Int)] w fun e w' => e = .returned (.bool true) ∧ Kp w w' := by
  by_cases h : c = 0
  · subst h; exact errorK_nil 0 w true rfl
  · rw [errOf_ne c h]
    exact errorK_hit c c w hl (by omega) true (by simp)

end Go.Proofs.YtofdhdnffkhojaaDoor

/- The law InvSays. (Made by tools/gen_InSays.py.) -/
namespace Go.Proofs.YtofdhdnffkhojaaDoor
open Go.ChangeShapes Go.WideShapes Go.ChangeAt Go.RowKit
set_option linter.unusedVariables false

theorem irow_of {l : List Int} {n : Nat} (hn : l.length = n) (h : AllIn l 0 9972) : ∃ t : Nat → Fp.F, l = rowF n t := by
  subst hn
  refine ⟨fun j => Fp.ofInt (l.getD j 0), ?_⟩
  refine (Mx.is_row l).trans (Mx.row_ext fun k hk => ?_)
  show l.getD k 0 = ((Fp.ofInt (l.getD k 0)).val : Int)
  rw [Fp.ofInt_val]
  have := h k hk
  omega
theorem irowF_in (q : Nat) (t : Nat → Fp.F) : AllIn (rowF q t) 0 9972 := fun k hk => by
  rw [Mx.len_row] at hk
  rw [Mx.row_at _ _ _ hk]
  exact gval (t k)
theorem fcode_shape {n : Nat} {l l' : List Int} (h : l.length ≠ n ∨ l'.length ≠ n) : fcode n l l' = 3 := by unfold fcode; rw [if_pos h]
theorem fcode_range {n : Nat} {l l' : List Int} (h1 : l.length = n) (h2 : l'.length = n) (h : ¬ (AllIn l 0 9972 ∧ AllIn l' 0 9972)) : fcode n l l' = 1 := by
  unfold fcode
  rw [if_neg (by omega), if_neg fun e => h ⟨Mx.mem_getD (p := fun x => 0 ≤ x ∧ x ≤ 9972) |>.1 fun x hx => e x (List.mem_append_left _ hx), Mx.mem_getD (p := fun x => 0 ≤ x ∧ x ≤ 9972) |>.1 fun x hx => e x (List.mem_append_right _ hx)⟩]
theorem iall_yes {U : Option Addr} {l : List Int} {n cu : Nat} {w : World} (hu : Lies w U l) (hn : l.length = n) (h : n ≤ 5) (ha : AllIn l 0 9972) : Calls Tryd.prog 14 #[.slice U n cu, .int .i64 0, .int .i64 9972] w fun e w' => e = .returned (.bool true) ∧ w = w' := by
  subst hn
  exact (all_any U l cu 0 9972 w hu (by omega)).mono fun e w' h2 => ⟨tells_yes h2.1 ha, h2.2⟩
theorem iall_no {U : Option Addr} {l : List Int} {n cu : Nat} {w : World} (hu : Lies w U l) (hn : l.length = n) (h : n ≤ 5) (ha : ¬ AllIn l 0 9972) : Calls Tryd.prog 14 #[.slice U n cu, .int .i64 0, .int .i64 9972] w fun e w' => e = .returned (.bool false) ∧ w = w' := by
  subst hn
  exact (all_any U l cu 0 9972 w hu (by omega)).mono fun e w' h2 => ⟨tells_no h2.1 ha, h2.2⟩

set_option maxRecDepth 100000 in
set_option maxHeartbeats 6400000 in
theorem insays_no_sh1 (A U V : Option Addr) (a : List (List Int)) (f : Nat → Nat → Fp.F) (l l' : List Int) (p q : Nat) (n r d cu cv : Nat) (w : World) (hl : Told.Laid w) (ha : LiesM w A a) (hu : Lies w U l) (hv : Lies w V l') (sa : Sh n n f a) (hr : n = r + 1) (hd : Mx.dt n f = 0) (hp : l.length = p) (hq : l'.length = q) (h2 : p ≠ n) :
    Calls Tryd.prog 3 #[.slice A n d, .slice U p cu, .slice V q cv] w fun e w' => e = .returned (.bool true) ∧ Kp w w' := by
  have HL := Lib.hid hl
  have SQ := Lib.hid (rSquare_any A a n d 5 0 9972 w ha sa.len (by omega))
  rw [sa.code2] at SQ
  have n5 := sa.r5
  have n0 := sa.r0
  have hm : LiesM w A (Mx.matl n n f) := by rw [← sa.eq]; exact ha
  have DM := Lib.hid (fun w1 (h : Kp w w1) => rDetMod_any n (by omega) A f d w1 (hm.keep h))
  have RN := Lib.hid (fun w => rows_eq none none [] [] 0 0 0 0 w (LiesM.empty _ _) (LiesM.empty _ _) rfl rfl modest_nil modest_nil rfl)
  rw [hd, show (((0 : Fp.F).val : Nat) : Int) = 0 from rfl] at DM
  have OF := Lib.hid (fun w1 (h : Kp w w1) => IOf_none A f n d w1 (hm.keep h) n0 n5 hd)
  have E1 := Lib.hid (fun (wx : World) (hx : Kp w wx) => error_says 5 wx (laid_kp HL.out hx) (by decide))
  rw [errOf_ne 5 (by decide)] at OF E1
  have CH := Lib.hid (fun w1 (h : Kp w w1) => Chg_shape A U V a l l' n d p q cu cv w1 (ha.keep h) (hu.keep h) (hv.keep h) sa.len hp hq n0 n5 sa.code2 (by rw [fcode_shape (by omega)]; decide))
  rw [fcode_shape (by omega), errOf_ne 3 (by decide)] at CH
  have E2 := Lib.hid (fun (wx : World) (hx : Kp w wx) => error_says 3 wx (laid_kp HL.out hx) (by decide))
  rw [errOf_ne 3 (by decide)] at E2
  have eu : ((p : Int) != (n : Int)) = true := by rw [bne_iff_ne]; omega
  clear ha hu hv hm hl sa hr hd hp hq h2
  go_enter Tryd.func3, Tryd.ntmps3
  go_wp2_with fail
  refine (SQ.out).mono ?_; rintro e w1 ⟨rfl, hk⟩
  have K := Lib.hid hk.kp
  clear hk
  go_wp2_with fail
  refine (DM.out w1 K.out).mono ?_; rintro e w2 ⟨rfl, k2⟩
  replace K := Lib.hid (K.out.trans k2); clear k2
  go_wp2_with fail
  refine (OF.out _ K.out).mono ?_; rintro e w4 ⟨rfl, k4⟩
  replace K := Lib.hid (K.out.trans k4); clear k4
  go_wp2_with fail
  refine (E1.out _ K.out).mono ?_; rintro e w5 ⟨rfl, k5⟩
  replace K := Lib.hid (K.out.trans k5); clear k5
  go_wp2_with fail
  refine (RN.out _).mono ?_; rintro e w6 ⟨rfl, k6⟩
  replace K := Lib.hid (K.out.trans k6); clear k6
  go_wp2_with fail
  refine (CH.out _ K.out).mono ?_; rintro e w9 ⟨rfl, k9⟩
  replace K := Lib.hid (K.out.trans k9); clear k9
  go_wp2_with fail
  refine (E2.out _ K.out).mono ?_; rintro e w10 ⟨rfl, k10⟩
  replace K := Lib.hid (K.out.trans k10); clear k10
  go_wp2_with fail
  refine (RN.out _).mono ?_; rintro e w11 ⟨rfl, k11⟩
  replace K := Lib.hid (K.out.trans k11); clear k11
  go_wp2_with fail
  go_ret
  exact ⟨ret_bool (by simp), K.out⟩

set_option maxRecDepth 100000 in
set_option maxHeartbeats 6400000 in
theorem insays_no_sh2 (A U V : Option Addr) (a : List (List Int)) (f : Nat → Nat → Fp.F) (l l' : List Int) (p q : Nat) (n r d cu cv : Nat) (w : World) (hl : Told.Laid w) (ha : LiesM w A a) (hu : Lies w U l) (hv : Lies w V l') (sa : Sh n n f a) (hr : n = r + 1) (hd : Mx.dt n f = 0) (hp : l.length = p) (hq : l'.length = q) (h1 : p = n) (h2 : q ≠ n) :
    Calls Tryd.prog 3 #[.slice A n d, .slice U p cu, .slice V q cv] w fun e w' => e = .returned (.bool true) ∧ Kp w w' := by
  have HL := Lib.hid hl
  have SQ := Lib.hid (rSquare_any A a n d 5 0 9972 w ha sa.len (by omega))
  rw [sa.code2] at SQ
  have n5 := sa.r5
  have n0 := sa.r0
  have hm : LiesM w A (Mx.matl n n f) := by rw [← sa.eq]; exact ha
  have DM := Lib.hid (fun w1 (h : Kp w w1) => rDetMod_any n (by omega) A f d w1 (hm.keep h))
  have RN := Lib.hid (fun w => rows_eq none none [] [] 0 0 0 0 w (LiesM.empty _ _) (LiesM.empty _ _) rfl rfl modest_nil modest_nil rfl)
  rw [hd, show (((0 : Fp.F).val : Nat) : Int) = 0 from rfl] at DM
  have OF := Lib.hid (fun w1 (h : Kp w w1) => IOf_none A f n d w1 (hm.keep h) n0 n5 hd)
  have E1 := Lib.hid (fun (wx : World) (hx : Kp w wx) => error_says 5 wx (laid_kp HL.out hx) (by decide))
  rw [errOf_ne 5 (by decide)] at OF E1
  have CH := Lib.hid (fun w1 (h : Kp w w1) => Chg_shape A U V a l l' n d p q cu cv w1 (ha.keep h) (hu.keep h) (hv.keep h) sa.len hp hq n0 n5 sa.code2 (by rw [fcode_shape (by omega)]; decide))
  rw [fcode_shape (by omega), errOf_ne 3 (by decide)] at CH
  have E2 := Lib.hid (fun (wx : World) (hx : Kp w wx) => error_says 3 wx (laid_kp HL.out hx) (by decide))
  rw [errOf_ne 3 (by decide)] at E2
  have eu : ((p : Int) != (n : Int)) = false := by rw [bne_eq_false_iff_eq]; omega
  have ev : ((q : Int) != (n : Int)) = true := by rw [bne_iff_ne]; omega
  clear ha hu hv hm hl sa hr hd hp hq h1 h2
  go_enter Tryd.func3, Tryd.ntmps3
  go_wp2_with fail
  refine (SQ.out).mono ?_; rintro e w1 ⟨rfl, hk⟩
  have K := Lib.hid hk.kp
  clear hk
  go_wp2_with fail
  refine (DM.out w1 K.out).mono ?_; rintro e w2 ⟨rfl, k2⟩
  replace K := Lib.hid (K.out.trans k2); clear k2
  go_wp2_with fail
  refine (OF.out _ K.out).mono ?_; rintro e w4 ⟨rfl, k4⟩
  replace K := Lib.hid (K.out.trans k4); clear k4
  go_wp2_with fail
  refine (E1.out _ K.out).mono ?_; rintro e w5 ⟨rfl, k5⟩
  replace K := Lib.hid (K.out.trans k5); clear k5
  go_wp2_with fail
  refine (RN.out _).mono ?_; rintro e w6 ⟨rfl, k6⟩
  replace K := Lib.hid (K.out.trans k6); clear k6
  go_wp2_with fail
  refine (CH.out _ K.out).mono ?_; rintro e w9 ⟨rfl, k9⟩
  replace K := Lib.hid (K.out.trans k9); clear k9
  go_wp2_with fail
  refine (E2.out _ K.out).mono ?_; rintro e w10 ⟨rfl, k10⟩
  replace K := Lib.hid (K.out.trans k10); clear k10
  go_wp2_with fail
  refine (RN.out _).mono ?_; rintro e w11 ⟨rfl, k11⟩
  replace K := Lib.hid (K.out.trans k11); clear k11
  go_wp2_with fail
  go_ret
  exact ⟨ret_bool (by simp), K.out⟩

set_option maxRecDepth 100000 in
set_option maxHeartbeats 6400000 in
theorem insays_no_r1 (A U V : Option Addr) (a : List (List Int)) (f : Nat → Nat → Fp.F) (l l' : List Int) (n r d cu cv : Nat) (w : World) (hl : Told.Laid w) (ha : LiesM w A a) (hu : Lies w U l) (hv : Lies w V l') (sa : Sh n n f a) (hr : n = r + 1) (hd : Mx.dt n f = 0) (hp : l.length = n) (hq : l'.length = n) (h2 : ¬ AllIn l 0 9972) :
    Calls Tryd.prog 3 #[.slice A n d, .slice U n cu, .slice V n cv] w fun e w' => e = .returned (.bool true) ∧ Kp w w' := by
  have HL := Lib.hid hl
  have SQ := Lib.hid (rSquare_any A a n d 5 0 9972 w ha sa.len (by omega))
  rw [sa.code2] at SQ
  have n5 := sa.r5
  have n0 := sa.r0
  have hm : LiesM w A (Mx.matl n n f) := by rw [← sa.eq]; exact ha
  have DM := Lib.hid (fun w1 (h : Kp w w1) => rDetMod_any n (by omega) A f d w1 (hm.keep h))
  have RN := Lib.hid (fun w => rows_eq none none [] [] 0 0 0 0 w (LiesM.empty _ _) (LiesM.empty _ _) rfl rfl modest_nil modest_nil rfl)
  rw [hd, show (((0 : Fp.F).val : Nat) : Int) = 0 from rfl] at DM
  have OF := Lib.hid (fun w1 (h : Kp w w1) => IOf_none A f n d w1 (hm.keep h) n0 n5 hd)
  have E1 := Lib.hid (fun (wx : World) (hx : Kp w wx) => error_says 5 wx (laid_kp HL.out hx) (by decide))
  rw [errOf_ne 5 (by decide)] at OF E1
  have eu : ((n : Int) != (n : Int)) = false := by rw [bne_eq_false_iff_eq]
  have CH := Lib.hid (fun w1 (h : Kp w w1) => Chg_shape A U V a l l' n d n n cu cv w1 (ha.keep h) (hu.keep h) (hv.keep h) sa.len hp hq n0 n5 sa.code2 (by rw [fcode_range hp hq (fun h => h2 h.1)]; decide))
  rw [fcode_range hp hq (fun h => h2 h.1), errOf_ne 1 (by decide)] at CH
  have E2 := Lib.hid (fun (wx : World) (hx : Kp w wx) => error_says 1 wx (laid_kp HL.out hx) (by decide))
  rw [errOf_ne 1 (by decide)] at E2
  have AU := Lib.hid (fun w1 (h : Kp w w1) => iall_no (cu := cu) (hu.keep h) hp n5 h2)
  clear ha hu hv hm hl sa hr hd hp hq h2
  go_enter Tryd.func3, Tryd.ntmps3
  go_wp2_with fail
  refine (SQ.out).mono ?_; rintro e w1 ⟨rfl, hk⟩
  have K := Lib.hid hk.kp
  clear hk
  go_wp2_with fail
  refine (DM.out w1 K.out).mono ?_; rintro e w2 ⟨rfl, k2⟩
  replace K := Lib.hid (K.out.trans k2); clear k2
  go_wp2_with fail
  refine (OF.out _ K.out).mono ?_; rintro e w4 ⟨rfl, k4⟩
  replace K := Lib.hid (K.out.trans k4); clear k4
  go_wp2_with fail
  refine (E1.out _ K.out).mono ?_; rintro e w5 ⟨rfl, k5⟩
  replace K := Lib.hid (K.out.trans k5); clear k5
  go_wp2_with fail
  refine (RN.out _).mono ?_; rintro e w6 ⟨rfl, k6⟩
  replace K := Lib.hid (K.out.trans k6); clear k6
  go_wp2_with fail
  refine (AU.out _ K.out).mono ?_; rintro e w7 ⟨rfl, rfl⟩
  go_wp2_with fail
  refine (CH.out _ K.out).mono ?_; rintro e w9 ⟨rfl, k9⟩
  replace K := Lib.hid (K.out.trans k9); clear k9
  go_wp2_with fail
  refine (E2.out _ K.out).mono ?_; rintro e w10 ⟨rfl, k10⟩
  replace K := Lib.hid (K.out.trans k10); clear k10
  go_wp2_with fail
  refine (RN.out _).mono ?_; rintro e w11 ⟨rfl, k11⟩
  replace K := Lib.hid (K.out.trans k11); clear k11
  go_wp2_with fail
  go_ret
  exact ⟨ret_bool (by simp), K.out⟩

set_option maxRecDepth 100000 in
set_option maxHeartbeats 6400000 in
theorem insays_no_r2 (A U V : Option Addr) (a : List (List Int)) (f : Nat → Nat → Fp.F) (l l' : List Int) (n r d cu cv : Nat) (w : World) (hl : Told.Laid w) (ha : LiesM w A a) (hu : Lies w U l) (hv : Lies w V l') (sa : Sh n n f a) (hr : n = r + 1) (hd : Mx.dt n f = 0) (hp : l.length = n) (hq : l'.length = n) (h1 : AllIn l 0 9972) (h2 : ¬ AllIn l' 0 9972) :
    Calls Tryd.prog 3 #[.slice A n d, .slice U n cu, .slice V n cv] w fun e w' => e = .returned (.bool true) ∧ Kp w w' := by
  have HL := Lib.hid hl
  have SQ := Lib.hid (rSquare_any A a n d 5 0 9972 w ha sa.len (by omega))
  rw [sa.code2] at SQ
  have n5 := sa.r5
  have n0 := sa.r0
  have hm : LiesM w A (Mx.matl n n f) := by rw [← sa.eq]; exact ha
  have DM := Lib.hid (fun w1 (h : Kp w w1) => rDetMod_any n (by omega) A f d w1 (hm.keep h))
  have RN := Lib.hid (fun w => rows_eq none none [] [] 0 0 0 0 w (LiesM.empty _ _) (LiesM.empty _ _) rfl rfl modest_nil modest_nil rfl)
  rw [hd, show (((0 : Fp.F).val : Nat) : Int) = 0 from rfl] at DM
  have OF := Lib.hid (fun w1 (h : Kp w w1) => IOf_none A f n d w1 (hm.keep h) n0 n5 hd)
  have E1 := Lib.hid (fun (wx : World) (hx : Kp w wx) => error_says 5 wx (laid_kp HL.out hx) (by decide))
  rw [errOf_ne 5 (by decide)] at OF E1
  have eu : ((n : Int) != (n : Int)) = false := by rw [bne_eq_false_iff_eq]
  have CH := Lib.hid (fun w1 (h : Kp w w1) => Chg_shape A U V a l l' n d n n cu cv w1 (ha.keep h) (hu.keep h) (hv.keep h) sa.len hp hq n0 n5 sa.code2 (by rw [fcode_range hp hq (fun h => h2 h.2)]; decide))
  rw [fcode_range hp hq (fun h => h2 h.2), errOf_ne 1 (by decide)] at CH
  have E2 := Lib.hid (fun (wx : World) (hx : Kp w wx) => error_says 1 wx (laid_kp HL.out hx) (by decide))
  rw [errOf_ne 1 (by decide)] at E2
  have AU := Lib.hid (fun w1 (h : Kp w w1) => iall_yes (cu := cu) (hu.keep h) hp n5 h1)
  have AV := Lib.hid (fun w1 (h : Kp w w1) => iall_no (cu := cv) (hv.keep h) hq n5 h2)
  clear ha hu hv hm hl sa hr hd hp hq h1 h2
  go_enter Tryd.func3, Tryd.ntmps3
  go_wp2_with fail
  refine (SQ.out).mono ?_; rintro e w1 ⟨rfl, hk⟩
  have K := Lib.hid hk.kp
  clear hk
  go_wp2_with fail
  refine (DM.out w1 K.out).mono ?_; rintro e w2 ⟨rfl, k2⟩
  replace K := Lib.hid (K.out.trans k2); clear k2
  go_wp2_with fail
  refine (OF.out _ K.out).mono ?_; rintro e w4 ⟨rfl, k4⟩
  replace K := Lib.hid (K.out.trans k4); clear k4
  go_wp2_with fail
  refine (E1.out _ K.out).mono ?_; rintro e w5 ⟨rfl, k5⟩
  replace K := Lib.hid (K.out.trans k5); clear k5
  go_wp2_with fail
  refine (RN.out _).mono ?_; rintro e w6 ⟨rfl, k6⟩
  replace K := Lib.hid (K.out.trans k6); clear k6
  go_wp2_with fail
  refine (AU.out _ K.out).mono ?_; rintro e w7 ⟨rfl, rfl⟩
  go_wp2_with fail
  refine (AV.out _ K.out).mono ?_; rintro e w7 ⟨rfl, rfl⟩
  go_wp2_with fail
  refine (CH.out _ K.out).mono ?_; rintro e w9 ⟨rfl, k9⟩
  replace K := Lib.hid (K.out.trans k9); clear k9
  go_wp2_with fail
  refine (E2.out _ K.out).mono ?_; rintro e w10 ⟨rfl, k10⟩
  replace K := Lib.hid (K.out.trans k10); clear k10
  go_wp2_with fail
  refine (RN.out _).mono ?_; rintro e w11 ⟨rfl, k11⟩
  replace K := Lib.hid (K.out.trans k11); clear k11
  go_wp2_with fail
  go_ret
  exact ⟨ret_bool (by simp), K.out⟩

set_option maxRecDepth 100000 in
set_option maxHeartbeats 6400000 in
theorem insays_no_no (A U V : Option Addr) (a : List (List Int)) (f : Nat → Nat → Fp.F) (u v : Nat → Fp.F) (n r d cu cv : Nat) (w : World) (hl : Told.Laid w) (ha : LiesM w A a) (hu : Lies w U (rowF n u)) (hv : Lies w V (rowF n v)) (sa : Sh n n f a) (hr : n = r + 1) (hd : Mx.dt n f = 0) (h2 : Mx.bent n f u v = 0) :
    Calls Tryd.prog 3 #[.slice A n d, .slice U n cu, .slice V n cv] w fun e w' => e = .returned (.bool true) ∧ Kp w w' := by
  have HL := Lib.hid hl
  have SQ := Lib.hid (rSquare_any A a n d 5 0 9972 w ha sa.len (by omega))
  rw [sa.code2] at SQ
  have n5 := sa.r5
  have n0 := sa.r0
  have hm : LiesM w A (Mx.matl n n f) := by rw [← sa.eq]; exact ha
  have DM := Lib.hid (fun w1 (h : Kp w w1) => rDetMod_any n (by omega) A f d w1 (hm.keep h))
  have RN := Lib.hid (fun w => rows_eq none none [] [] 0 0 0 0 w (LiesM.empty _ _) (LiesM.empty _ _) rfl rfl modest_nil modest_nil rfl)
  rw [hd, show (((0 : Fp.F).val : Nat) : Int) = 0 from rfl] at DM
  have OF := Lib.hid (fun w1 (h : Kp w w1) => IOf_none A f n d w1 (hm.keep h) n0 n5 hd)
  have E1 := Lib.hid (fun (wx : World) (hx : Kp w wx) => error_says 5 wx (laid_kp HL.out hx) (by decide))
  rw [errOf_ne 5 (by decide)] at OF E1
  have eu : ((n : Int) != (n : Int)) = false := by rw [bne_eq_false_iff_eq]
  have AU := Lib.hid (fun w1 (h : Kp w w1) => iall_yes (cu := cu) (hu.keep h) (Mx.len_row _ _) n5 (irowF_in n u))
  have AV := Lib.hid (fun w1 (h : Kp w w1) => iall_yes (cu := cv) (hv.keep h) (Mx.len_row _ _) n5 (irowF_in n v))
  have RC := Lib.hid (fun w1 (h : Kp w w1) => rChange_none A U V f u v n d cu cv w1 (hm.keep h) (hu.keep h) (hv.keep h) n0 n5 h2)
  have CH := Lib.hid (fun w1 (h : Kp w w1) => Chg_none A U V f u v n d cu cv w1 (hm.keep h) (hu.keep h) (hv.keep h) n0 n5 h2)
  rw [errOf_ne 5 (by decide)] at CH
  have E2 := Lib.hid (fun (wx : World) (hx : Kp w wx) => error_says 5 wx (laid_kp HL.out hx) (by decide))
  rw [errOf_ne 5 (by decide)] at E2
  clear ha hu hv hm hl sa hr hd h2
  go_enter Tryd.func3, Tryd.ntmps3
  go_wp2_with fail
  refine (SQ.out).mono ?_; rintro e w1 ⟨rfl, hk⟩
  have K := Lib.hid hk.kp
  clear hk
  go_wp2_with fail
  refine (DM.out w1 K.out).mono ?_; rintro e w2 ⟨rfl, k2⟩
  replace K := Lib.hid (K.out.trans k2); clear k2
  go_wp2_with fail
  refine (OF.out _ K.out).mono ?_; rintro e w4 ⟨rfl, k4⟩
  replace K := Lib.hid (K.out.trans k4); clear k4
  go_wp2_with fail
  refine (E1.out _ K.out).mono ?_; rintro e w5 ⟨rfl, k5⟩
  replace K := Lib.hid (K.out.trans k5); clear k5
  go_wp2_with fail
  refine (RN.out _).mono ?_; rintro e w6 ⟨rfl, k6⟩
  replace K := Lib.hid (K.out.trans k6); clear k6
  go_wp2_with fail
  refine (AU.out _ K.out).mono ?_; rintro e w7 ⟨rfl, rfl⟩
  go_wp2_with fail
  refine (AV.out _ K.out).mono ?_; rintro e w7 ⟨rfl, rfl⟩
  go_wp2_with fail
  refine (RC.out _ K.out).mono ?_; rintro e w8 ⟨rfl, k8⟩
  replace K := Lib.hid (K.out.trans k8); clear k8
  go_wp2_with fail
  refine (CH.out _ K.out).mono ?_; rintro e w9 ⟨rfl, k9⟩
  replace K := Lib.hid (K.out.trans k9); clear k9
  go_wp2_with fail
  refine (E2.out _ K.out).mono ?_; rintro e w10 ⟨rfl, k10⟩
  replace K := Lib.hid (K.out.trans k10); clear k10
  go_wp2_with fail
  refine (RN.out _).mono ?_; rintro e w11 ⟨rfl, k11⟩
  replace K := Lib.hid (K.out.trans k11); clear k11
  go_wp2_with fail
  go_ret
  exact ⟨ret_bool (by simp), K.out⟩

set_option maxRecDepth 100000 in
set_option maxHeartbeats 6400000 in
theorem insays_no_ok (A U V : Option Addr) (a : List (List Int)) (f : Nat → Nat → Fp.F) (u v : Nat → Fp.F) (n r d cu cv : Nat) (w : World) (hl : Told.Laid w) (ha : LiesM w A a) (hu : Lies w U (rowF n u)) (hv : Lies w V (rowF n v)) (sa : Sh n n f a) (hr : n = r + 1) (hd : Mx.dt n f = 0) (h2 : Mx.bent n f u v ≠ 0) :
    Calls Tryd.prog 3 #[.slice A n d, .slice U n cu, .slice V n cv] w fun e w' => e = .returned (.bool true) ∧ Kp w w' := by
  have HL := Lib.hid hl
  have SQ := Lib.hid (rSquare_any A a n d 5 0 9972 w ha sa.len (by omega))
  rw [sa.code2] at SQ
  have n5 := sa.r5
  have n0 := sa.r0
  have hm : LiesM w A (Mx.matl n n f) := by rw [← sa.eq]; exact ha
  have DM := Lib.hid (fun w1 (h : Kp w w1) => rDetMod_any n (by omega) A f d w1 (hm.keep h))
  have RN := Lib.hid (fun w => rows_eq none none [] [] 0 0 0 0 w (LiesM.empty _ _) (LiesM.empty _ _) rfl rfl modest_nil modest_nil rfl)
  rw [hd, show (((0 : Fp.F).val : Nat) : Int) = 0 from rfl] at DM
  have OF := Lib.hid (fun w1 (h : Kp w w1) => IOf_none A f n d w1 (hm.keep h) n0 n5 hd)
  have E1 := Lib.hid (fun (wx : World) (hx : Kp w wx) => error_says 5 wx (laid_kp HL.out hx) (by decide))
  rw [errOf_ne 5 (by decide)] at OF E1
  have eu : ((n : Int) != (n : Int)) = false := by rw [bne_eq_false_iff_eq]
  have AU := Lib.hid (fun w1 (h : Kp w w1) => iall_yes (cu := cu) (hu.keep h) (Mx.len_row _ _) n5 (irowF_in n u))
  have AV := Lib.hid (fun w1 (h : Kp w w1) => iall_yes (cu := cv) (hv.keep h) (Mx.len_row _ _) n5 (irowF_in n v))
  have RC := Lib.hid (fun w1 (h : Kp w w1) => rChange_ok A U V f u v n d cu cv w1 (hm.keep h) (hu.keep h) (hv.keep h) n0 n5 h2)
  have CH := Lib.hid (fun w1 (h : Kp w w1) => Chg_ok A U V f u v n d cu cv w1 (hm.keep h) (hu.keep h) (hv.keep h) n0 n5 h2)
  have S2 : Sh n n (Mx.shm n f u v) (Mx.matl n n (Mx.shm n f u v)) := ⟨rfl, n0, n5, n0, n5⟩
  have RO2 := Lib.hid (fun A B c d w ha hb => rows_eq A B (Mx.matl n n (Mx.shm n f u v)) (Mx.matl n n (Mx.shm n f u v)) n n c d w ha hb (Mx.len_matl _ _ _) (Mx.len_matl _ _ _) S2.modest S2.modest rfl)
  clear S2
  have E2 := Lib.hid (fun (wx : World) (hx : Kp w wx) => show Calls Tryd.prog 12 #[.nilIface, .int .i64 0] wx fun e w' => e = .returned (.bool true) ∧ Kp wx w' from error_says 0 wx (laid_kp HL.out hx) (by decide))
  clear ha hu hv hm hl sa hr hd h2
  go_enter Tryd.func3, Tryd.ntmps3
  go_wp2_with fail
  refine (SQ.out).mono ?_; rintro e w1 ⟨rfl, hk⟩
  have K := Lib.hid hk.kp
  clear hk
  go_wp2_with fail
  refine (DM.out w1 K.out).mono ?_; rintro e w2 ⟨rfl, k2⟩
  replace K := Lib.hid (K.out.trans k2); clear k2
  go_wp2_with fail
  refine (OF.out _ K.out).mono ?_; rintro e w4 ⟨rfl, k4⟩
  replace K := Lib.hid (K.out.trans k4); clear k4
  go_wp2_with fail
  refine (E1.out _ K.out).mono ?_; rintro e w5 ⟨rfl, k5⟩
  replace K := Lib.hid (K.out.trans k5); clear k5
  go_wp2_with fail
  refine (RN.out _).mono ?_; rintro e w6 ⟨rfl, k6⟩
  replace K := Lib.hid (K.out.trans k6); clear k6
  go_wp2_with fail
  refine (AU.out _ K.out).mono ?_; rintro e w7 ⟨rfl, rfl⟩
  go_wp2_with fail
  refine (AV.out _ K.out).mono ?_; rintro e w7 ⟨rfl, rfl⟩
  go_wp2_with fail
  refine (RC.out _ K.out).mono ?_; rintro e w8 ⟨A8, d8, rfl, l8, k8⟩
  replace K := Lib.hid (K.out.trans k8); have L8 := Lib.hid l8; clear k8 l8
  go_wp2_with fail
  refine (CH.out _ K.out).mono ?_; rintro e w9 ⟨g9, rfl, l9, k9⟩
  replace K := Lib.hid (K.out.trans k9); have L9 := Lib.hid l9; replace L8 := Lib.hid (L8.out.keep k9); clear k9 l9
  go_wp2_with fail
  refine (E2.out _ K.out).mono ?_; rintro e w10 ⟨rfl, k10⟩
  replace K := Lib.hid (K.out.trans k10); replace L9 := Lib.hid (L9.out.keep k10); replace L8 := Lib.hid (L8.out.keep k10); clear k10
  go_wp2_with fail
  refine (RO2.out _ _ _ _ _ L9.out L8.out).mono ?_; rintro e w11 ⟨rfl, k11⟩
  replace K := Lib.hid (K.out.trans k11); clear k11
  go_wp2_with fail
  go_ret
  exact ⟨ret_bool (by simp), K.out⟩

set_option maxRecDepth 100000 in
set_option maxHeartbeats 6400000 in
theorem insays_ok_sh1 (A U V : Option Addr) (a : List (List Int)) (f : Nat → Nat → Fp.F) (l l' : List Int) (p q : Nat) (n r d cu cv : Nat) (w : World) (hl : Told.Laid w) (ha : LiesM w A a) (hu : Lies w U l) (hv : Lies w V l') (sa : Sh n n f a) (hr : n = r + 1) (hd : Mx.dt n f ≠ 0) (hp : l.length = p) (hq : l'.length = q) (h2 : p ≠ n) :
    Calls Tryd.prog 3 #[.slice A n d, .slice U p cu, .slice V q cv] w fun e w' => e = .returned (.bool true) ∧ Kp w w' := by
  have HL := Lib.hid hl
  have SQ := Lib.hid (rSquare_any A a n d 5 0 9972 w ha sa.len (by omega))
  rw [sa.code2] at SQ
  have n5 := sa.r5
  have n0 := sa.r0
  have hm : LiesM w A (Mx.matl n n f) := by rw [← sa.eq]; exact ha
  have DM := Lib.hid (fun w1 (h : Kp w w1) => rDetMod_any n (by omega) A f d w1 (hm.keep h))
  have RN := Lib.hid (fun w => rows_eq none none [] [] 0 0 0 0 w (LiesM.empty _ _) (LiesM.empty _ _) rfl rfl modest_nil modest_nil rfl)
  have ex : (((Mx.dt n f).val : Int) == 0) = false := by
    rw [beq_eq_false_iff_ne]
    exact fun e => hd (Fin.ext (by show (Mx.dt n f).val = 0; omega))
  generalize ((Mx.dt n f).val : Int) = x at *
  have RI := Lib.hid (fun w1 (h : Kp w w1) => rInverse_any A f n r d w1 (hm.keep h) hr (by omega) hd)
  have OF := Lib.hid (fun w1 (h : Kp w w1) => IOf_ok A f n r d w1 (hm.keep h) hr (by omega) hd)
  have S1 : Sh n n (Mx.invm r f) (Mx.matl n n (Mx.invm r f)) := ⟨rfl, n0, n5, n0, n5⟩
  have RO1 := Lib.hid (fun A B c d w ha hb => rows_eq A B (Mx.matl n n (Mx.invm r f)) (Mx.matl n n (Mx.invm r f)) n n c d w ha hb (Mx.len_matl _ _ _) (Mx.len_matl _ _ _) S1.modest S1.modest rfl)
  have E1 := Lib.hid (fun (wx : World) (hx : Kp w wx) => show Calls Tryd.prog 12 #[.nilIface, .int .i64 0] wx fun e w' => e = .returned (.bool true) ∧ Kp wx w' from error_says 0 wx (laid_kp HL.out hx) (by decide))
  clear S1
  have CH := Lib.hid (fun w1 (h : Kp w w1) => Chg_shape A U V a l l' n d p q cu cv w1 (ha.keep h) (hu.keep h) (hv.keep h) sa.len hp hq n0 n5 sa.code2 (by rw [fcode_shape (by omega)]; decide))
  rw [fcode_shape (by omega), errOf_ne 3 (by decide)] at CH
  have E2 := Lib.hid (fun (wx : World) (hx : Kp w wx) => error_says 3 wx (laid_kp HL.out hx) (by decide))
  rw [errOf_ne 3 (by decide)] at E2
  have eu : ((p : Int) != (n : Int)) = true := by rw [bne_iff_ne]; omega
  clear ha hu hv hm hl sa hr hd hp hq h2
  go_enter Tryd.func3, Tryd.ntmps3
  go_wp2_with fail
  refine (SQ.out).mono ?_; rintro e w1 ⟨rfl, hk⟩
  have K := Lib.hid hk.kp
  clear hk
  go_wp2_with fail
  refine (DM.out w1 K.out).mono ?_; rintro e w2 ⟨rfl, k2⟩
  replace K := Lib.hid (K.out.trans k2); clear k2
  go_wp2_with fail
  refine (RI.out _ K.out).mono ?_; rintro e w3 ⟨A3, d3, rfl, l3, k3⟩
  replace K := Lib.hid (K.out.trans k3); have L3 := Lib.hid l3; clear k3 l3
  go_wp2_with fail
  refine (OF.out _ K.out).mono ?_; rintro e w4 ⟨g4, rfl, l4, k4⟩
  replace K := Lib.hid (K.out.trans k4); have L4 := Lib.hid l4; replace L3 := Lib.hid (L3.out.keep k4); clear k4 l4
  go_wp2_with fail
  refine (E1.out _ K.out).mono ?_; rintro e w5 ⟨rfl, k5⟩
  replace K := Lib.hid (K.out.trans k5); replace L4 := Lib.hid (L4.out.keep k5); replace L3 := Lib.hid (L3.out.keep k5); clear k5
  go_wp2_with fail
  refine (RO1.out _ _ _ _ _ L4.out L3.out).mono ?_; rintro e w6 ⟨rfl, k6⟩
  replace K := Lib.hid (K.out.trans k6); clear k6 L3 L4
  go_wp2_with fail
  refine (CH.out _ K.out).mono ?_; rintro e w9 ⟨rfl, k9⟩
  replace K := Lib.hid (K.out.trans k9); clear k9
  go_wp2_with fail
  refine (E2.out _ K.out).mono ?_; rintro e w10 ⟨rfl, k10⟩
  replace K := Lib.hid (K.out.trans k10); clear k10
  go_wp2_with fail
  refine (RN.out _).mono ?_; rintro e w11 ⟨rfl, k11⟩
  replace K := Lib.hid (K.out.trans k11); clear k11
  go_wp2_with fail
  go_ret
  exact ⟨ret_bool (by simp), K.out⟩

set_option maxRecDepth 100000 in
set_option maxHeartbeats 6400000 in
theorem insays_ok_sh2 (A U V : Option Addr) (a : List (List Int)) (f : Nat → Nat → Fp.F) (l l' : List Int) (p q : Nat) (n r d cu cv : Nat) (w : World) (hl : Told.Laid w) (ha : LiesM w A a) (hu : Lies w U l) (hv : Lies w V l') (sa : Sh n n f a) (hr : n = r + 1) (hd : Mx.dt n f ≠ 0) (hp : l.length = p) (hq : l'.length = q) (h1 : p = n) (h2 : q ≠ n) :
    Calls Tryd.prog 3 #[.slice A n d, .slice U p cu, .slice V q cv] w fun e w' => e = .returned (.bool true) ∧ Kp w w' := by
  have HL := Lib.hid hl
  have SQ := Lib.hid (rSquare_any A a n d 5 0 9972 w ha sa.len (by omega))
  rw [sa.code2] at SQ
  have n5 := sa.r5
  have n0 := sa.r0
  have hm : LiesM w A (Mx.matl n n f) := by rw [← sa.eq]; exact ha
  have DM := Lib.hid (fun w1 (h : Kp w w1) => rDetMod_any n (by omega) A f d w1 (hm.keep h))
  have RN := Lib.hid (fun w => rows_eq none none [] [] 0 0 0 0 w (LiesM.empty _ _) (LiesM.empty _ _) rfl rfl modest_nil modest_nil rfl)
  have ex : (((Mx.dt n f).val : Int) == 0) = false := by
    rw [beq_eq_false_iff_ne]
    exact fun e => hd (Fin.ext (by show (Mx.dt n f).val = 0; omega))
  generalize ((Mx.dt n f).val : Int) = x at *
  have RI := Lib.hid (fun w1 (h : Kp w w1) => rInverse_any A f n r d w1 (hm.keep h) hr (by omega) hd)
  have OF := Lib.hid (fun w1 (h : Kp w w1) => IOf_ok A f n r d w1 (hm.keep h) hr (by omega) hd)
  have S1 : Sh n n (Mx.invm r f) (Mx.matl n n (Mx.invm r f)) := ⟨rfl, n0, n5, n0, n5⟩
  have RO1 := Lib.hid (fun A B c d w ha hb => rows_eq A B (Mx.matl n n (Mx.invm r f)) (Mx.matl n n (Mx.invm r f)) n n c d w ha hb (Mx.len_matl _ _ _) (Mx.len_matl _ _ _) S1.modest S1.modest rfl)
  have E1 := Lib.hid (fun (wx : World) (hx : Kp w wx) => show Calls Tryd.prog 12 #[.nilIface, .int .i64 0] wx fun e w' => e = .returned (.bool true) ∧ Kp wx w' from error_says 0 wx (laid_kp HL.out hx) (by decide))
  clear S1
  have CH := Lib.hid (fun w1 (h : Kp w w1) => Chg_shape A U V a l l' n d p q cu cv w1 (ha.keep h) (hu.keep h) (hv.keep h) sa.len hp hq n0 n5 sa.code2 (by rw [fcode_shape (by omega)]; decide))
  rw [fcode_shape (by omega), errOf_ne 3 (by decide)] at CH
  have E2 := Lib.hid (fun (wx : World) (hx : Kp w wx) => error_says 3 wx (laid_kp HL.out hx) (by decide))
  rw [errOf_ne 3 (by decide)] at E2
  have eu : ((p : Int) != (n : Int)) = false := by rw [bne_eq_false_iff_eq]; omega
  have ev : ((q : Int) != (n : Int)) = true := by rw [bne_iff_ne]; omega
  clear ha hu hv hm hl sa hr hd hp hq h1 h2
  go_enter Tryd.func3, Tryd.ntmps3
  go_wp2_with fail
  refine (SQ.out).mono ?_; rintro e w1 ⟨rfl, hk⟩
  have K := Lib.hid hk.kp
  clear hk
  go_wp2_with fail
  refine (DM.out w1 K.out).mono ?_; rintro e w2 ⟨rfl, k2⟩
  replace K := Lib.hid (K.out.trans k2); clear k2
  go_wp2_with fail
  refine (RI.out _ K.out).mono ?_; rintro e w3 ⟨A3, d3, rfl, l3, k3⟩
  replace K := Lib.hid (K.out.trans k3); have L3 := Lib.hid l3; clear k3 l3
  go_wp2_with fail
  refine (OF.out _ K.out).mono ?_; rintro e w4 ⟨g4, rfl, l4, k4⟩
  replace K := Lib.hid (K.out.trans k4); have L4 := Lib.hid l4; replace L3 := Lib.hid (L3.out.keep k4); clear k4 l4
  go_wp2_with fail
  refine (E1.out _ K.out).mono ?_; rintro e w5 ⟨rfl, k5⟩
  replace K := Lib.hid (K.out.trans k5); replace L4 := Lib.hid (L4.out.keep k5); replace L3 := Lib.hid (L3.out.keep k5); clear k5
  go_wp2_with fail
  refine (RO1.out _ _ _ _ _ L4.out L3.out).mono ?_; rintro e w6 ⟨rfl, k6⟩
  replace K := Lib.hid (K.out.trans k6); clear k6 L3 L4
  go_wp2_with fail
  refine (CH.out _ K.out).mono ?_; rintro e w9 ⟨rfl, k9⟩
  replace K := Lib.hid (K.out.trans k9); clear k9
  go_wp2_with fail
  refine (E2.out _ K.out).mono ?_; rintro e w10 ⟨rfl, k10⟩
  replace K := Lib.hid (K.out.trans k10); clear k10
  go_wp2_with fail
  refine (RN.out _).mono ?_; rintro e w11 ⟨rfl, k11⟩
  replace K := Lib.hid (K.out.trans k11); clear k11
  go_wp2_with fail
  go_ret
  exact ⟨ret_bool (by simp), K.out⟩

set_option maxRecDepth 100000 in
set_option maxHeartbeats 6400000 in
theorem insays_ok_r1 (A U V : Option Addr) (a : List (List Int)) (f : Nat → Nat → Fp.F) (l l' : List Int) (n r d cu cv : Nat) (w : World) (hl : Told.Laid w) (ha : LiesM w A a) (hu : Lies w U l) (hv : Lies w V l') (sa : Sh n n f a) (hr : n = r + 1) (hd : Mx.dt n f ≠ 0) (hp : l.length = n) (hq : l'.length = n) (h2 : ¬ AllIn l 0 9972) :
    Calls Tryd.prog 3 #[.slice A n d, .slice U n cu, .slice V n cv] w fun e w' => e = .returned (.bool true) ∧ Kp w w' := by
  have HL := Lib.hid hl
  have SQ := Lib.hid (rSquare_any A a n d 5 0 9972 w ha sa.len (by omega))
  rw [sa.code2] at SQ
  have n5 := sa.r5
  have n0 := sa.r0
  have hm : LiesM w A (Mx.matl n n f) := by rw [← sa.eq]; exact ha
  have DM := Lib.hid (fun w1 (h : Kp w w1) => rDetMod_any n (by omega) A f d w1 (hm.keep h))
  have RN := Lib.hid (fun w => rows_eq none none [] [] 0 0 0 0 w (LiesM.empty _ _) (LiesM.empty _ _) rfl rfl modest_nil modest_nil rfl)
  have ex : (((Mx.dt n f).val : Int) == 0) = false := by
    rw [beq_eq_false_iff_ne]
    exact fun e => hd (Fin.ext (by show (Mx.dt n f).val = 0; omega))
  generalize ((Mx.dt n f).val : Int) = x at *
  have RI := Lib.hid (fun w1 (h : Kp w w1) => rInverse_any A f n r d w1 (hm.keep h) hr (by omega) hd)
  have OF := Lib.hid (fun w1 (h : Kp w w1) => IOf_ok A f n r d w1 (hm.keep h) hr (by omega) hd)
  have S1 : Sh n n (Mx.invm r f) (Mx.matl n n (Mx.invm r f)) := ⟨rfl, n0, n5, n0, n5⟩
  have RO1 := Lib.hid (fun A B c d w ha hb => rows_eq A B (Mx.matl n n (Mx.invm r f)) (Mx.matl n n (Mx.invm r f)) n n c d w ha hb (Mx.len_matl _ _ _) (Mx.len_matl _ _ _) S1.modest S1.modest rfl)
  have E1 := Lib.hid (fun (wx : World) (hx : Kp w wx) => show Calls Tryd.prog 12 #[.nilIface, .int .i64 0] wx fun e w' => e = .returned (.bool true) ∧ Kp wx w' from error_says 0 wx (laid_kp HL.out hx) (by decide))
  clear S1
  have eu : ((n : Int) != (n : Int)) = false := by rw [bne_eq_false_iff_eq]
  have CH := Lib.hid (fun w1 (h : Kp w w1) => Chg_shape A U V a l l' n d n n cu cv w1 (ha.keep h) (hu.keep h) (hv.keep h) sa.len hp hq n0 n5 sa.code2 (by rw [fcode_range hp hq (fun h => h2 h.1)]; decide))
  rw [fcode_range hp hq (fun h => h2 h.1), errOf_ne 1 (by decide)] at CH
  have E2 := Lib.hid (fun (wx : World) (hx : Kp w wx) => error_says 1 wx (laid_kp HL.out hx) (by decide))
  rw [errOf_ne 1 (by decide)] at E2
  have AU := Lib.hid (fun w1 (h : Kp w w1) => iall_no (cu := cu) (hu.keep h) hp n5 h2)
  clear ha hu hv hm hl sa hr hd hp hq h2
  go_enter Tryd.func3, Tryd.ntmps3
  go_wp2_with fail
  refine (SQ.out).mono ?_; rintro e w1 ⟨rfl, hk⟩
  have K := Lib.hid hk.kp
  clear hk
  go_wp2_with fail
  refine (DM.out w1 K.out).mono ?_; rintro e w2 ⟨rfl, k2⟩
  replace K := Lib.hid (K.out.trans k2); clear k2
  go_wp2_with fail
  refine (RI.out _ K.out).mono ?_; rintro e w3 ⟨A3, d3, rfl, l3, k3⟩
  replace K := Lib.hid (K.out.trans k3); have L3 := Lib.hid l3; clear k3 l3
  go_wp2_with fail
  refine (OF.out _ K.out).mono ?_; rintro e w4 ⟨g4, rfl, l4, k4⟩
  replace K := Lib.hid (K.out.trans k4); have L4 := Lib.hid l4; replace L3 := Lib.hid (L3.out.keep k4); clear k4 l4
  go_wp2_with fail
  refine (E1.out _ K.out).mono ?_; rintro e w5 ⟨rfl, k5⟩
  replace K := Lib.hid (K.out.trans k5); replace L4 := Lib.hid (L4.out.keep k5); replace L3 := Lib.hid (L3.out.keep k5); clear k5
  go_wp2_with fail
  refine (RO1.out _ _ _ _ _ L4.out L3.out).mono ?_; rintro e w6 ⟨rfl, k6⟩
  replace K := Lib.hid (K.out.trans k6); clear k6 L3 L4
  go_wp2_with fail
  refine (AU.out _ K.out).mono ?_; rintro e w7 ⟨rfl, rfl⟩
  go_wp2_with fail
  refine (CH.out _ K.out).mono ?_; rintro e w9 ⟨rfl, k9⟩
  replace K := Lib.hid (K.out.trans k9); clear k9
  go_wp2_with fail
  refine (E2.out _ K.out).mono ?_; rintro e w10 ⟨rfl, k10⟩
  replace K := Lib.hid (K.out.trans k10); clear k10
  go_wp2_with fail
  refine (RN.out _).mono ?_; rintro e w11 ⟨rfl, k11⟩
  replace K := Lib.hid (K.out.trans k11); clear k11
  go_wp2_with fail
  go_ret
  exact ⟨ret_bool (by simp), K.out⟩

set_option maxRecDepth 100000 in
set_option maxHeartbeats 6400000 in
theorem insays_ok_r2 (A U V : Option Addr) (a : List (List Int)) (f : Nat → Nat → Fp.F) (l l' : List Int) (n r d cu cv : Nat) (w : World) (hl : Told.Laid w) (ha : LiesM w A a) (hu : Lies w U l) (hv : Lies w V l') (sa : Sh n n f a) (hr : n = r + 1) (hd : Mx.dt n f ≠ 0) (hp : l.length = n) (hq : l'.length = n) (h1 : AllIn l 0 9972) (h2 : ¬ AllIn l' 0 9972) :
    Calls Tryd.prog 3 #[.slice A n d, .slice U n cu, .slice V n cv] w fun e w' => e = .returned (.bool true) ∧ Kp w w' := by
  have HL := Lib.hid hl
  have SQ := Lib.hid (rSquare_any A a n d 5 0 9972 w ha sa.len (by omega))
  rw [sa.code2] at SQ
  have n5 := sa.r5
  have n0 := sa.r0
  have hm : LiesM w A (Mx.matl n n f) := by rw [← sa.eq]; exact ha
  have DM := Lib.hid (fun w1 (h : Kp w w1) => rDetMod_any n (by omega) A f d w1 (hm.keep h))
  have RN := Lib.hid (fun w => rows_eq none none [] [] 0 0 0 0 w (LiesM.empty _ _) (LiesM.empty _ _) rfl rfl modest_nil modest_nil rfl)
  have ex : (((Mx.dt n f).val : Int) == 0) = false := by
    rw [beq_eq_false_iff_ne]
    exact fun e => hd (Fin.ext (by show (Mx.dt n f).val = 0; omega))
  generalize ((Mx.dt n f).val : Int) = x at *
  have RI := Lib.hid (fun w1 (h : Kp w w1) => rInverse_any A f n r d w1 (hm.keep h) hr (by omega) hd)
  have OF := Lib.hid (fun w1 (h : Kp w w1) => IOf_ok A f n r d w1 (hm.keep h) hr (by omega) hd)
  have S1 : Sh n n (Mx.invm r f) (Mx.matl n n (Mx.invm r f)) := ⟨rfl, n0, n5, n0, n5⟩
  have RO1 := Lib.hid (fun A B c d w ha hb => rows_eq A B (Mx.matl n n (Mx.invm r f)) (Mx.matl n n (Mx.invm r f)) n n c d w ha hb (Mx.len_matl _ _ _) (Mx.len_matl _ _ _) S1.modest S1.modest rfl)
  have E1 := Lib.hid (fun (wx : World) (hx : Kp w wx) => show Calls Tryd.prog 12 #[.nilIface, .int .i64 0] wx fun e w' => e = .returned (.bool true) ∧ Kp wx w' from error_says 0 wx (laid_kp HL.out hx) (by decide))
  clear S1
  have eu : ((n : Int) != (n : Int)) = false := by rw [bne_eq_false_iff_eq]
  have CH := Lib.hid (fun w1 (h : Kp w w1) => Chg_shape A U V a l l' n d n n cu cv w1 (ha.keep h) (hu.keep h) (hv.keep h) sa.len hp hq n0 n5 sa.code2 (by rw [fcode_range hp hq (fun h => h2 h.2)]; decide))
  rw [fcode_range hp hq (fun h => h2 h.2), errOf_ne 1 (by decide)] at CH
  have E2 := Lib.hid (fun (wx : World) (hx : Kp w wx) => error_says 1 wx (laid_kp HL.out hx) (by decide))
  rw [errOf_ne 1 (by decide)] at E2
  have AU := Lib.hid (fun w1 (h : Kp w w1) => iall_yes (cu := cu) (hu.keep h) hp n5 h1)
  have AV := Lib.hid (fun w1 (h : Kp w w1) => iall_no (cu := cv) (hv.keep h) hq n5 h2)
  clear ha hu hv hm hl sa hr hd hp hq h1 h2
  go_enter Tryd.func3, Tryd.ntmps3
  go_wp2_with fail
  refine (SQ.out).mono ?_; rintro e w1 ⟨rfl, hk⟩
  have K := Lib.hid hk.kp
  clear hk
  go_wp2_with fail
  refine (DM.out w1 K.out).mono ?_; rintro e w2 ⟨rfl, k2⟩
  replace K := Lib.hid (K.out.trans k2); clear k2
  go_wp2_with fail
  refine (RI.out _ K.out).mono ?_; rintro e w3 ⟨A3, d3, rfl, l3, k3⟩
  replace K := Lib.hid (K.out.trans k3); have L3 := Lib.hid l3; clear k3 l3
  go_wp2_with fail
  refine (OF.out _ K.out).mono ?_; rintro e w4 ⟨g4, rfl, l4, k4⟩
  replace K := Lib.hid (K.out.trans k4); have L4 := Lib.hid l4; replace L3 := Lib.hid (L3.out.keep k4); clear k4 l4
  go_wp2_with fail
  refine (E1.out _ K.out).mono ?_; rintro e w5 ⟨rfl, k5⟩
  replace K := Lib.hid (K.out.trans k5); replace L4 := Lib.hid (L4.out.keep k5); replace L3 := Lib.hid (L3.out.keep k5); clear k5
  go_wp2_with fail
  refine (RO1.out _ _ _ _ _ L4.out L3.out).mono ?_; rintro e w6 ⟨rfl, k6⟩
  replace K := Lib.hid (K.out.trans k6); clear k6 L3 L4
  go_wp2_with fail
  refine (AU.out _ K.out).mono ?_; rintro e w7 ⟨rfl, rfl⟩
  go_wp2_with fail
  refine (AV.out _ K.out).mono ?_; rintro e w7 ⟨rfl, rfl⟩
  go_wp2_with fail
  refine (CH.out _ K.out).mono ?_; rintro e w9 ⟨rfl, k9⟩
  replace K := Lib.hid (K.out.trans k9); clear k9
  go_wp2_with fail
  refine (E2.out _ K.out).mono ?_; rintro e w10 ⟨rfl, k10⟩
  replace K := Lib.hid (K.out.trans k10); clear k10
  go_wp2_with fail
  refine (RN.out _).mono ?_; rintro e w11 ⟨rfl, k11⟩
  replace K := Lib.hid (K.out.trans k11); clear k11
  go_wp2_with fail
  go_ret
  exact ⟨ret_bool (by simp), K.out⟩

set_option maxRecDepth 100000 in
set_option maxHeartbeats 6400000 in
theorem insays_ok_no (A U V : Option Addr) (a : List (List Int)) (f : Nat → Nat → Fp.F) (u v : Nat → Fp.F) (n r d cu cv : Nat) (w : World) (hl : Told.Laid w) (ha : LiesM w A a) (hu : Lies w U (rowF n u)) (hv : Lies w V (rowF n v)) (sa : Sh n n f a) (hr : n = r + 1) (hd : Mx.dt n f ≠ 0) (h2 : Mx.bent n f u v = 0) :
    Calls Tryd.prog 3 #[.slice A n d, .slice U n cu, .slice V n cv] w fun e w' => e = .returned (.bool true) ∧ Kp w w' := by
  have HL := Lib.hid hl
  have SQ := Lib.hid (rSquare_any A a n d 5 0 9972 w ha sa.len (by omega))
  rw [sa.code2] at SQ
  have n5 := sa.r5
  have n0 := sa.r0
  have hm : LiesM w A (Mx.matl n n f) := by rw [← sa.eq]; exact ha
  have DM := Lib.hid (fun w1 (h : Kp w w1) => rDetMod_any n (by omega) A f d w1 (hm.keep h))
  have RN := Lib.hid (fun w => rows_eq none none [] [] 0 0 0 0 w (LiesM.empty _ _) (LiesM.empty _ _) rfl rfl modest_nil modest_nil rfl)
  have ex : (((Mx.dt n f).val : Int) == 0) = false := by
    rw [beq_eq_false_iff_ne]
    exact fun e => hd (Fin.ext (by show (Mx.dt n f).val = 0; omega))
  generalize ((Mx.dt n f).val : Int) = x at *
  have RI := Lib.hid (fun w1 (h : Kp w w1) => rInverse_any A f n r d w1 (hm.keep h) hr (by omega) hd)
  have OF := Lib.hid (fun w1 (h : Kp w w1) => IOf_ok A f n r d w1 (hm.keep h) hr (by omega) hd)
  have S1 : Sh n n (Mx.invm r f) (Mx.matl n n (Mx.invm r f)) := ⟨rfl, n0, n5, n0, n5⟩
  have RO1 := Lib.hid (fun A B c d w ha hb => rows_eq A B (Mx.matl n n (Mx.invm r f)) (Mx.matl n n (Mx.invm r f)) n n c d w ha hb (Mx.len_matl _ _ _) (Mx.len_matl _ _ _) S1.modest S1.modest rfl)
  have E1 := Lib.hid (fun (wx : World) (hx : Kp w wx) => show Calls Tryd.prog 12 #[.nilIface, .int .i64 0] wx fun e w' => e = .returned (.bool true) ∧ Kp wx w' from error_says 0 wx (laid_kp HL.out hx) (by decide))
  clear S1
  have eu : ((n : Int) != (n : Int)) = false := by rw [bne_eq_false_iff_eq]
  have AU := Lib.hid (fun w1 (h : Kp w w1) => iall_yes (cu := cu) (hu.keep h) (Mx.len_row _ _) n5 (irowF_in n u))
  have AV := Lib.hid (fun w1 (h : Kp w w1) => iall_yes (cu := cv) (hv.keep h) (Mx.len_row _ _) n5 (irowF_in n v))
  have RC := Lib.hid (fun w1 (h : Kp w w1) => rChange_none A U V f u v n d cu cv w1 (hm.keep h) (hu.keep h) (hv.keep h) n0 n5 h2)
  have CH := Lib.hid (fun w1 (h : Kp w w1) => Chg_none A U V f u v n d cu cv w1 (hm.keep h) (hu.keep h) (hv.keep h) n0 n5 h2)
  rw [errOf_ne 5 (by decide)] at CH
  have E2 := Lib.hid (fun (wx : World) (hx : Kp w wx) => error_says 5 wx (laid_kp HL.out hx) (by decide))
  rw [errOf_ne 5 (by decide)] at E2
  clear ha hu hv hm hl sa hr hd h2
  go_enter Tryd.func3, Tryd.ntmps3
  go_wp2_with fail
  refine (SQ.out).mono ?_; rintro e w1 ⟨rfl, hk⟩
  have K := Lib.hid hk.kp
  clear hk
  go_wp2_with fail
  refine (DM.out w1 K.out).mono ?_; rintro e w2 ⟨rfl, k2⟩
  replace K := Lib.hid (K.out.trans k2); clear k2
  go_wp2_with fail
  refine (RI.out _ K.out).mono ?_; rintro e w3 ⟨A3, d3, rfl, l3, k3⟩
  replace K := Lib.hid (K.out.trans k3); have L3 := Lib.hid l3; clear k3 l3
  go_wp2_with fail
  refine (OF.out _ K.out).mono ?_; rintro e w4 ⟨g4, rfl, l4, k4⟩
  replace K := Lib.hid (K.out.trans k4); have L4 := Lib.hid l4; replace L3 := Lib.hid (L3.out.keep k4); clear k4 l4
  go_wp2_with fail
  refine (E1.out _ K.out).mono ?_; rintro e w5 ⟨rfl, k5⟩
  replace K := Lib.hid (K.out.trans k5); replace L4 := Lib.hid (L4.out.keep k5); replace L3 := Lib.hid (L3.out.keep k5); clear k5
  go_wp2_with fail
  refine (RO1.out _ _ _ _ _ L4.out L3.out).mono ?_; rintro e w6 ⟨rfl, k6⟩
  replace K := Lib.hid (K.out.trans k6); clear k6 L3 L4
  go_wp2_with fail
  refine (AU.out _ K.out).mono ?_; rintro e w7 ⟨rfl, rfl⟩
  go_wp2_with fail
  refine (AV.out _ K.out).mono ?_; rintro e w7 ⟨rfl, rfl⟩
  go_wp2_with fail
  refine (RC.out _ K.out).mono ?_; rintro e w8 ⟨rfl, k8⟩
  replace K := Lib.hid (K.out.trans k8); clear k8
  go_wp2_with fail
  refine (CH.out _ K.out).mono ?_; rintro e w9 ⟨rfl, k9⟩
  replace K := Lib.hid (K.out.trans k9); clear k9
  go_wp2_with fail
  refine (E2.out _ K.out).mono ?_; rintro e w10 ⟨rfl, k10⟩
  replace K := Lib.hid (K.out.trans k10); clear k10
  go_wp2_with fail
  refine (RN.out _).mono ?_; rintro e w11 ⟨rfl, k11⟩
  replace K := Lib.hid (K.out.trans k11); clear k11
  go_wp2_with fail
  go_ret
  exact ⟨ret_bool (by simp), K.out⟩

set_option maxRecDepth 100000 in
set_option maxHeartbeats 6400000 in
theorem insays_ok_ok (A U V : Option Addr) (a : List (List Int)) (f : Nat → Nat → Fp.F) (u v : Nat → Fp.F) (n r d cu cv : Nat) (w : World) (hl : Told.Laid w) (ha : LiesM w A a) (hu : Lies w U (rowF n u)) (hv : Lies w V (rowF n v)) (sa : Sh n n f a) (hr : n = r + 1) (hd : Mx.dt n f ≠ 0) (h2 : Mx.bent n f u v ≠ 0) :
    Calls Tryd.prog 3 #[.slice A n d, .slice U n cu, .slice V n cv] w fun e w' => e = .returned (.bool true) ∧ Kp w w' := by
  have HL := Lib.hid hl
  have SQ := Lib.hid (rSquare_any A a n d 5 0 9972 w ha sa.len (by omega))
  rw [sa.code2] at SQ
  have n5 := sa.r5
  have n0 := sa.r0
  have hm : LiesM w A (Mx.matl n n f) := by rw [← sa.eq]; exact ha
  have DM := Lib.hid (fun w1 (h : Kp w w1) => rDetMod_any n (by omega) A f d w1 (hm.keep h))
  have RN := Lib.hid (fun w => rows_eq none none [] [] 0 0 0 0 w (LiesM.empty _ _) (LiesM.empty _ _) rfl rfl modest_nil modest_nil rfl)
  have ex : (((Mx.dt n f).val : Int) == 0) = false := by
    rw [beq_eq_false_iff_ne]
    exact fun e => hd (Fin.ext (by show (Mx.dt n f).val = 0; omega))
  generalize ((Mx.dt n f).val : Int) = x at *
  have RI := Lib.hid (fun w1 (h : Kp w w1) => rInverse_any A f n r d w1 (hm.keep h) hr (by omega) hd)
  have OF := Lib.hid (fun w1 (h : Kp w w1) => IOf_ok A f n r d w1 (hm.keep h) hr (by omega) hd)
  have S1 : Sh n n (Mx.invm r f) (Mx.matl n n (Mx.invm r f)) := ⟨rfl, n0, n5, n0, n5⟩
  have RO1 := Lib.hid (fun A B c d w ha hb => rows_eq A B (Mx.matl n n (Mx.invm r f)) (Mx.matl n n (Mx.invm r f)) n n c d w ha hb (Mx.len_matl _ _ _) (Mx.len_matl _ _ _) S1.modest S1.modest rfl)
  have E1 := Lib.hid (fun (wx : World) (hx : Kp w wx) => show Calls Tryd.prog 12 #[.nilIface, .int .i64 0] wx fun e w' => e = .returned (.bool true) ∧ Kp wx w' from error_says 0 wx (laid_kp HL.out hx) (by decide))
  clear S1
  have eu : ((n : Int) != (n : Int)) = false := by rw [bne_eq_false_iff_eq]
  have AU := Lib.hid (fun w1 (h : Kp w w1) => iall_yes (cu := cu) (hu.keep h) (Mx.len_row _ _) n5 (irowF_in n u))
  have AV := Lib.hid (fun w1 (h : Kp w w1) => iall_yes (cu := cv) (hv.keep h) (Mx.len_row _ _) n5 (irowF_in n v))
  have RC := Lib.hid (fun w1 (h : Kp w w1) => rChange_ok A U V f u v n d cu cv w1 (hm.keep h) (hu.keep h) (hv.keep h) n0 n5 h2)
  have CH := Lib.hid (fun w1 (h : Kp w w1) => Chg_ok A U V f u v n d cu cv w1 (hm.keep h) (hu.keep h) (hv.keep h) n0 n5 h2)
  have S2 : Sh n n (Mx.shm n f u v) (Mx.matl n n (Mx.shm n f u v)) := ⟨rfl, n0, n5, n0, n5⟩
  have RO2 := Lib.hid (fun A B c d w ha hb => rows_eq A B (Mx.matl n n (Mx.shm n f u v)) (Mx.matl n n (Mx.shm n f u v)) n n c d w ha hb (Mx.len_matl _ _ _) (Mx.len_matl _ _ _) S2.modest S2.modest rfl)
  clear S2
  have E2 := Lib.hid (fun (wx : World) (hx : Kp w wx) => show Calls Tryd.prog 12 #[.nilIface, .int .i64 0] wx fun e w' => e = .returned (.bool true) ∧ Kp wx w' from error_says 0 wx (laid_kp HL.out hx) (by decide))
  clear ha hu hv hm hl sa hr hd h2
  go_enter Tryd.func3, Tryd.ntmps3
  go_wp2_with fail
  refine (SQ.out).mono ?_; rintro e w1 ⟨rfl, hk⟩
  have K := Lib.hid hk.kp
  clear hk
  go_wp2_with fail
  refine (DM.out w1 K.out).mono ?_; rintro e w2 ⟨rfl, k2⟩
  replace K := Lib.hid (K.out.trans k2); clear k2
  go_wp2_with fail
  refine (RI.out _ K.out).mono ?_; rintro e w3 ⟨A3, d3, rfl, l3, k3⟩
  replace K := Lib.hid (K.out.trans k3); have L3 := Lib.hid l3; clear k3 l3
  go_wp2_with fail
  refine (OF.out _ K.out).mono ?_; rintro e w4 ⟨g4, rfl, l4, k4⟩
  replace K := Lib.hid (K.out.trans k4); have L4 := Lib.hid l4; replace L3 := Lib.hid (L3.out.keep k4); clear k4 l4
  go_wp2_with fail
  refine (E1.out _ K.out).mono ?_; rintro e w5 ⟨rfl, k5⟩
  replace K := Lib.hid (K.out.trans k5); replace L4 := Lib.hid (L4.out.keep k5); replace L3 := Lib.hid (L3.out.keep k5); clear k5
  go_wp2_with fail
  refine (RO1.out _ _ _ _ _ L4.out L3.out).mono ?_; rintro e w6 ⟨rfl, k6⟩
  replace K := Lib.hid (K.out.trans k6); clear k6 L3 L4
  go_wp2_with fail
  refine (AU.out _ K.out).mono ?_; rintro e w7 ⟨rfl, rfl⟩
  go_wp2_with fail
  refine (AV.out _ K.out).mono ?_; rintro e w7 ⟨rfl, rfl⟩
  go_wp2_with fail
  refine (RC.out _ K.out).mono ?_; rintro e w8 ⟨A8, d8, rfl, l8, k8⟩
  replace K := Lib.hid (K.out.trans k8); have L8 := Lib.hid l8; clear k8 l8
  go_wp2_with fail
  refine (CH.out _ K.out).mono ?_; rintro e w9 ⟨g9, rfl, l9, k9⟩
  replace K := Lib.hid (K.out.trans k9); have L9 := Lib.hid l9; replace L8 := Lib.hid (L8.out.keep k9); clear k9 l9
  go_wp2_with fail
  refine (E2.out _ K.out).mono ?_; rintro e w10 ⟨rfl, k10⟩
  replace K := Lib.hid (K.out.trans k10); replace L9 := Lib.hid (L9.out.keep k10); replace L8 := Lib.hid (L8.out.keep k10); clear k10
  go_wp2_with fail
  refine (RO2.out _ _ _ _ _ L9.out L8.out).mono ?_; rintro e w11 ⟨rfl, k11⟩
  replace K := Lib.hid (K.out.trans k11); clear k11
  go_wp2_with fail
  go_ret
  exact ⟨ret_bool (by simp), K.out⟩

set_option maxRecDepth 100000 in
set_option maxHeartbeats 6400000 in
theorem insays_bad (A U V : Option Addr) (a : List (List Int)) (n d p q cu cv : Nat) (w : World) (hl : Told.Laid w) (ha : LiesM w A a) (hn : a.length = n) (h : qcode 5 0 9972 a ≠ 0) :
    Calls Tryd.prog 3 #[.slice A n d, .slice U p cu, .slice V q cv] w fun e w' => e = .returned (.bool true) ∧ Kp w w' := by
  have HL := Lib.hid hl
  have SQ := Lib.hid (rSquare_any A a n d 5 0 9972 w ha hn (by omega))
  have OF := Lib.hid (fun w1 (hk : Kp w w1) => IOf_bad A a n d w1 (ha.keep hk) hn h)
  have CH := Lib.hid (fun w1 (hk : Kp w w1) => Chg_bad A U V a n d p q cu cv w1 (ha.keep hk) hn h)
  have hz := qcode_le 5 0 9972 a
  have E1 := Lib.hid (fun (wx : World) (hx : Kp w wx) => error_says (qcode 5 0 9972 a) wx (laid_kp HL.out hx) (by omega))
  rw [errOf_ne _ h] at OF CH E1
  have RN := Lib.hid (fun w => rows_eq none none [] [] 0 0 0 0 w (LiesM.empty _ _) (LiesM.empty _ _) rfl rfl modest_nil modest_nil rfl)
  have e1 : ((qcode 5 0 9972 a : Int) == 0) = false := by rw [beq_eq_false_iff_ne]; omega
  generalize qcode 5 0 9972 a = z at *
  clear ha hl hn h
  go_enter Tryd.func3, Tryd.ntmps3
  go_wp2_with fail
  refine (SQ.out).mono ?_; rintro e w1 ⟨rfl, hk⟩
  have K := Lib.hid hk.kp
  clear hk
  go_wp2_with fail
  refine (OF.out _ K.out).mono ?_; rintro e w4 ⟨rfl, k4⟩
  replace K := Lib.hid (K.out.trans k4); clear k4
  go_wp2_with fail
  refine (E1.out _ K.out).mono ?_; rintro e w5 ⟨rfl, k5⟩
  replace K := Lib.hid (K.out.trans k5); clear k5
  go_wp2_with fail
  refine (RN.out _).mono ?_; rintro e w6 ⟨rfl, k6⟩
  replace K := Lib.hid (K.out.trans k6); clear k6
  go_wp2_with fail
  refine (CH.out _ K.out).mono ?_; rintro e w7 ⟨rfl, k7⟩
  replace K := Lib.hid (K.out.trans k7); clear k7
  go_wp2_with fail
  refine (E1.out _ K.out).mono ?_; rintro e w8 ⟨rfl, k8⟩
  replace K := Lib.hid (K.out.trans k8); clear k8
  go_wp2_with fail
  refine (RN.out _).mono ?_; rintro e w9 ⟨rfl, k9⟩
  replace K := Lib.hid (K.out.trans k9); clear k9
  go_wp2_with fail
  go_ret
  exact ⟨ret_bool (by simp), K.out⟩

theorem walk_InvSays (A : Option Addr) (a : List (List Int)) (d : Nat) (U : Option Addr) (l : List Int) (cu : Nat) (V : Option Addr) (l' : List Int) (cv : Nat) (w : World) (hl : Told.Laid w) (ha : LiesM w A a) (hu : Lies w U l) (hv : Lies w V l') :
    Calls Tryd.prog 3 #[.slice A a.length d, .slice U l.length cu, .slice V l'.length cv] w fun e w' => e = .returned (.bool true) ∧ Kp w w' := by
  rcases sq_or a rfl with ⟨f, sa⟩ | h
  · have n0 := sa.r0
    have hr : a.length = (a.length - 1) + 1 := by omega
    by_cases hd : Mx.dt a.length f = 0
    · by_cases h1 : l.length = a.length
      · by_cases h2 : l'.length = a.length
        · by_cases h3 : AllIn l 0 9972
          · by_cases h4 : AllIn l' 0 9972
            · obtain ⟨u, eu⟩ := irow_of h1 h3
              obtain ⟨v, ev⟩ := irow_of h2 h4
              rw [h1, h2]
              rw [eu] at hu
              rw [ev] at hv
              by_cases h5 : Mx.bent a.length f u v = 0
              · exact insays_no_no A U V a f u v a.length _ d cu cv w hl ha hu hv sa hr hd h5
              · exact insays_no_ok A U V a f u v a.length _ d cu cv w hl ha hu hv sa hr hd h5
            · rw [h1, h2]
              exact insays_no_r2 A U V a f l l' a.length _ d cu cv w hl ha hu hv sa hr hd h1 h2 h3 h4
          · rw [h1, h2]
            exact insays_no_r1 A U V a f l l' a.length _ d cu cv w hl ha hu hv sa hr hd h1 h2 h3
        · exact insays_no_sh2 A U V a f l l' _ _ a.length _ d cu cv w hl ha hu hv sa hr hd rfl rfl h1 h2
      · exact insays_no_sh1 A U V a f l l' _ _ a.length _ d cu cv w hl ha hu hv sa hr hd rfl rfl h1
    · by_cases h1 : l.length = a.length
      · by_cases h2 : l'.length = a.length
        · by_cases h3 : AllIn l 0 9972
          · by_cases h4 : AllIn l' 0 9972
            · obtain ⟨u, eu⟩ := irow_of h1 h3
              obtain ⟨v, ev⟩ := irow_of h2 h4
              rw [h1, h2]
              rw [eu] at hu
              rw [ev] at hv
              by_cases h5 : Mx.bent a.length f u v = 0
              · exact insays_ok_no A U V a f u v a.length _ d cu cv w hl ha hu hv sa hr hd h5
              · exact insays_ok_ok A U V a f u v a.length _ d cu cv w hl ha hu hv sa hr hd h5
            · rw [h1, h2]
              exact insays_ok_r2 A U V a f l l' a.length _ d cu cv w hl ha hu hv sa hr hd h1 h2 h3 h4
          · rw [h1, h2]
            exact insays_ok_r1 A U V a f l l' a.length _ d cu cv w hl ha hu hv sa hr hd h1 h2 h3
        · exact insays_ok_sh2 A U V a f l l' _ _ a.length _ d cu cv w hl ha hu hv sa hr hd rfl rfl h1 h2
      · exact insays_ok_sh1 A U V a f l l' _ _ a.length _ d cu cv w hl ha hu hv sa hr hd rfl rfl h1
  · exact insays_bad A U V a a.length d l.length l'.length cu cv w hl ha rfl h
end Go.Proofs.YtofdhdnffkhojaaDoor
