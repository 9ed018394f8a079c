/- slices.Grow and slices.Concat of two rows of numbers. For all packages. -/
import Derived.Test.YtkebjmapdcbnaaaRowG
import Derived.Lib.AppendZerosOnto
namespace Go.Proofs.Ytkebjmapdcbnaaa
open Go.ChangeShapes Go.WideShapes Go.ChangeAt Go.RowKit Go.Lib
set_option linter.unusedVariables false

section
variable {ops : Array Oper} {rest : List Oper} {o : Oper} {a : Act} {w : World} {Q : Exit → Act → World → Prop}
/-- An append of noughts, whose run is known. -/
theorem wpList_zeros (hgd : o.guard = Option.none) (s x : Operand) (ho : o.op = .call { callee := .builtin .append, args := #[s, x], argTypes := #[32, 3] })
    (v nv v' : Value) (w' : World) (hs : a.eval s = v) (hx : a.eval x = nv) (hr : ∀ ty, (Builtin.append_ #[32, 3] ty #[v, nv]).run Try.prog w = .ok v' w')
    (h : wpList Try.prog ops Q rest (a.put o.dst v') w') : wpList Try.prog ops Q (o :: rest) a w := by
  refine wpList_plain hgd fun _ hK => ?_
  unfold Oper.wp execOp
  simp only [ho, resolve, invoke, builtin, Sem.run_bind, Sem.run_pure, Result.andThen_ok, List.map_toArray, List.map_cons, List.map_nil, hs, hx, hr]
  exact hK _ _ h
end

set_option maxRecDepth 100000 in
set_option maxHeartbeats 1600000 in
theorem grow_any (k : Nat) (w : World) (h0 : 0 < k) (hk : k ≤ 1000) :
    Calls Try.prog 30 #[.slice none 0 0, .int .i64 (k : Int)] w fun e w' => ∃ v, e = .returned v ∧ Own w' w.heap.size v [] ∧ Kp w w' := by
  obtain ⟨i0, hi, hz0, hz1, hz2⟩ := info_parts int_info
  have hrz : ∀ ty, (Builtin.append_ #[32, 3] ty #[.slice none 0 0, .int .i64 (k : Int)]).run Try.prog w = _ := fun ty =>
    Lib.run_append_grow_zeros (P := Try.prog) w 32 3 ty 3 i0 (.int .i64 0) .i64 .i64 Try.underlying32 Try.underlying3 hi hz0 none 0 0 [] (run_firstCells_none w.drew i0.size 0 0 0) k h0 (by rw [hz1]; decide) (by omega) (by omega) (by rw [hz2]; omega)
      (growslice_fits (by omega) (by rw [hz2]; omega))
  rw [Nat.zero_add] at hrz
  have hge : k ≤ grownCap w k 0 3 := grownCap_ge w _ _ _
  have hle : grownCap w k 0 3 ≤ maxLen := grownCap_le_maxLen w k 0 3 (by unfold maxLen; omega)
  generalize grownCap w k 0 3 = q at *
  obtain ⟨cur, hcur⟩ : ∃ cur, cur = (([] : List Value).toArray ++ Builtin.zeroCells (Value.int .i64 0).cells k ++ Builtin.zeroCells (Value.int .i64 0).cells (q - k)) := ⟨_, rfl⟩
  have hs : cur.size = q := by
    rw [hcur]
    have e1 : (Value.int IntKind.i64 0).cells.size = 1 := rfl
    rw [Array.size_append, Array.size_append, size_zeroCells, size_zeroCells, e1]
    simp
    omega
  rw [← hcur] at hrz
  clear hcur
  have HO := Lib.hid (show Own (w.drew.alloc (.cells cur 3)) w.heap.size (.slice (some ⟨w.heap.size, 0, none⟩) 0 q) [] from
    ⟨rfl, .inr ⟨w.heap.size, q, cur, rfl, Nat.le_refl _, heap_alloc_new w.drew _, Nat.zero_le _, hle, by rw [hs]; omega, by simp⟩⟩)
  have HK := Lib.hid (((Kp.rfl' w).drewN 1).new (.cells cur 3))
  have hq : q ≤ 9223372036854775807 := by unfold maxLen at hle; omega
  clear hle hs
  go_enter Try.func30, Try.ntmps30
  go_wp2_with (at_builtin; refine wpList_zeros rfl _ _ rfl _ _ _ _ rfl rfl hrz ?_)
  go_ret
  exact ⟨_, rfl, HO.out, HK.out⟩
theorem grow_none (w : World) :
    Calls Try.prog 30 #[.slice none 0 0, .int .i64 0] w fun e w' => e = .returned (.slice none 0 0) ∧ w = w' := by
  go_enter Try.func30, Try.ntmps30
  go_wp2
  go_ret
  exact ⟨rfl, rfl⟩
theorem grow_all (k : Nat) (w : World) (hk : k ≤ 1000) :
    Calls Try.prog 30 #[.slice none 0 0, .int .i64 (k : Int)] w fun e w' => ∃ v, e = .returned v ∧ Own w' w.heap.size v [] ∧ Kp w w' := by
  rcases Nat.eq_zero_or_pos k with rfl | h0
  · exact (grow_none w).mono fun e w' ⟨h1, h2⟩ => ⟨_, h1, Own.none _ _, h2 ▸ Kp.rfl' w⟩
  · exact grow_any k w h0 hk

/-- The first k of two rows, one behind the other; how many numbers they have. -/
def cat2 (l m : List Int) (k : Nat) : List Int := if k = 0 then [] else if k = 1 then l else l ++ m
def cat2n (p q : Nat) (k : Nat) : Nat := if k = 0 then 0 else if k = 1 then p else p + q

set_option maxRecDepth 100000 in
set_option maxHeartbeats 1600000 in
theorem concat_all (g p q c d : Nat) (A B : Option Addr) (l m : List Int) (w : World) (c0 : w.cell? ⟨g, 0, none⟩ = some (.slice A p c)) (c1 : w.cell? ⟨g, 1, none⟩ = some (.slice B q d))
    (hl : Lies w A l) (hm : Lies w B m) (hp : p = l.length) (hq : q = m.length) (hn : p + q ≤ 1000) :
    Calls Try.prog 23 #[.slice (some ⟨g, 0, none⟩) 2 2] w fun e w' => SomeRow (l ++ m) w e w' := by
  have GR := Lib.hid (fun w => grow_all (p + q) w hn)
  have HL := Lib.hid hl
  have HM := Lib.hid hm
  have HP := Lib.hid hp
  have HQ := Lib.hid hq
  have hg := cell_lt c0
  have C0 := Lib.hid c0
  have C1 := Lib.hid c1
  have hp5 : p ≤ 1000 := by omega
  have hq5 : q ≤ 1000 := by omega
  clear hl hm hp hq c0 c1
  go_enter Try.func23, Try.ntmps23
  go_wp2_with fail
  go_loop [3, 11] (fun s i => ∃ k : Nat, k ≤ 2 ∧ i = .int .i64 (k : Int) ∧ s = .int .i64 ((cat2n p q k : Nat) : Int)) (fun _ i => 2 - (intOf i).toNat)
  case atStart => exact ⟨0, Nat.zero_le _, rfl, rfl⟩
  case round =>
    obtain ⟨k, hk, rfl, rfl⟩ := hrel
    rcases (by omega : k = 0 ∨ k = 1 ∨ k = 2) with rfl | rfl | rfl
    · have c0 := C0.out
      rw [show (cat2n p q 0 : Nat) = 0 from rfl]
      have hw : IntKind.i64.wrap (p : Int) = (p : Int) := IntWalk.i64_in _ (by omega)
      go_wp2_with fail
      go_round
      case rel => exact ⟨1, by omega, rfl, by simp [cat2n]⟩
      case measure => simp [intOf]
    · have c1 := C1.out
      have e1 : (cat2n p q 1 : Nat) = p := rfl
      rw [e1]
      have hw : IntKind.i64.wrap ((p : Int) + (q : Int)) = (p : Int) + (q : Int) := IntWalk.i64_in _ (by omega)
      go_wp2_with fail
      go_round
      case rel => exact ⟨2, by omega, rfl, by simp [cat2n]⟩
      case measure => simp [intOf]
    · have e1 : (cat2n p q 2 : Nat) = p + q := rfl
      rw [e1]
      clear e1
      go_wp2_with fail
      refine (GR.out w).mono ?_; rintro e w1 ⟨v, rfl, hv, hk1⟩
      have HV := Lib.hid hv
      have HK1 := Lib.hid hk1
      clear hv hk1
      go_wp2_with fail
      go_loopw [6, 27] (fun u i wr => ∃ k : Nat, k ≤ 2 ∧ i = .int .i64 (k : Int) ∧ Own wr w.heap.size u (cat2 l m k) ∧ Kp w wr) (fun _ i _ => 2 - (intOf i).toNat)
      case atStart => exact ⟨0, Nat.zero_le _, rfl, HV.out, HK1.out⟩
      case round =>
        obtain ⟨k, hk, rfl, hu, hkw⟩ := hrel
        have HU := Lib.hid hu
        have HKW := Lib.hid hkw
        clear hu hkw HV HK1
        rcases (by omega : k = 0 ∨ k = 1 ∨ k = 2) with rfl | rfl | rfl
        · have c0 := (HKW.out.cell (p := ⟨g, 0, none⟩) hg).trans C0.out
          go_wp2_with (at_builtin; refine wpList_cat rfl _ _ rfl w.heap.size _ [] l A p c rfl rfl HP.out HU.out (HL.out.keep HKW.out) (by simp; have := HP.out; omega) HKW.out.size ?_; intro v' w' h1 h2 _)
          have HO := Lib.hid h1
          have HK' := Lib.hid (own_below HU.out HKW.out HKW.out.size h2)
          clear h1 h2
          go_roundw
          case rel => exact ⟨1, by omega, rfl, HO.out, HK'.out⟩
          case measure => simp [intOf]
        · have c1 := (HKW.out.cell (p := ⟨g, 1, none⟩) hg).trans C1.out
          go_wp2_with (at_builtin; refine wpList_cat rfl _ _ rfl w.heap.size _ l m B q d rfl rfl HQ.out HU.out (HM.out.keep HKW.out) (by have := HP.out; have := HQ.out; omega) HKW.out.size ?_; intro v' w' h1 h2 _)
          have HO := Lib.hid h1
          have HK' := Lib.hid (own_below HU.out HKW.out HKW.out.size h2)
          clear h1 h2
          go_roundw
          case rel => exact ⟨2, by omega, rfl, HO.out, HK'.out⟩
          case measure => simp [intOf]
        · go_wp2_with fail
          go_ret
          exact ⟨_, rfl, HU.out, HKW.out⟩
theorem concat_any (g p q c d : Nat) (A B : Option Addr) (l m : List Int) (w : World) (c0 : w.cell? ⟨g, 0, none⟩ = some (.slice A p c)) (c1 : w.cell? ⟨g, 1, none⟩ = some (.slice B q d))
    (hl : Lies w A l) (hm : Lies w B m) (hp : p = l.length) (hq : q = m.length) (h0 : 0 < p + q) (hn : p + q ≤ 1000) :
    Calls Try.prog 23 #[.slice (some ⟨g, 0, none⟩) 2 2] w fun e w' => SomeRow (l ++ m) w e w' := concat_all g p q c d A B l m w c0 c1 hl hm hp hq hn

end Go.Proofs.Ytkebjmapdcbnaaa
