/- Contracts of package ntt, first part: Check, a row of eight in a variable of its own, rowOf. -/
import Derived.Test.YtlemhkceilkfhaaRowG
import Derived.Test.YtlemhkceilkfhaaNtM
import Derived.StillTailTactics
import Derived.Laws.Tables
namespace Go.Proofs.Ytlemhkceilkfhaa
open Go.ChangeShapes Go.WideShapes Go.ChangeAt Go.RowKit
set_option linter.unusedVariables false

open Classical in
/-- What is wrong with a row to be turned, as a number. -/
noncomputable def ncode (l : List Int) : Nat := if l.length ≠ 8 then 3 else if ¬ AllIn l 0 256 then 1 else 0
theorem ncode_some (l : List Int) : ncode l = 0 ∨ ncode l = 1 ∨ ncode l = 3 := by
  unfold ncode; repeat' split
  all_goals simp
theorem ncode_shape {l : List Int} (h : l.length ≠ 8) : ncode l = 3 := by unfold ncode; rw [if_pos h]
theorem ncode_range {l : List Int} (h : l.length = 8) (h2 : ¬ AllIn l 0 256) : ncode l = 1 := by unfold ncode; rw [if_neg (by omega), if_pos h2]
theorem ncode_ok {l : List Int} (h : l.length = 8) (h2 : AllIn l 0 256) : ncode l = 0 := by unfold ncode; rw [if_neg (by omega), if_neg (fun e => e h2)]
theorem ncode_zero {l : List Int} (h : ncode l = 0) : l.length = 8 ∧ AllIn l 0 256 := by
  by_cases h1 : l.length = 8
  · by_cases h2 : AllIn l 0 256
    · exact ⟨h1, h2⟩
    · rw [ncode_range h1 h2] at h; cases h
  · rw [ncode_shape h1] at h; cases h

theorem nCheck_shape (A : Option Addr) (l : List Int) (c : Nat) (w : World) (h : l.length ≠ 8) :
    Calls Try.prog 18 #[.slice A l.length c] w fun e w' => e = .returned (errOf (ncode l)) ∧ w = w' := by
  rw [ncode_shape h]
  generalize l.length = n at *
  have h' : ((n : Int) != 8) = true := by rw [bne_iff_ne]; omega
  clear h
  go_enter Try.func18, Try.ntmps18
  go_wp2
  go_ret
  exact ⟨rfl, rfl⟩

set_option maxHeartbeats 800000 in
theorem nCheck_eight (A : Option Addr) (l : List Int) (c : Nat) (w : World) (hl : Lies w A l) (hn : l.length = 8) :
    Calls Try.prog 18 #[.slice A 8 c] w fun e w' => e = .returned (errOf (ncode l)) ∧ w = w' := by
  have HL := Lib.hid hl
  have BAD := Lib.hid (fun h => ncode_range hn h)
  have OK := Lib.hid (fun h => ncode_ok hn h)
  have HN := Lib.hid hn
  obtain ⟨v, hv⟩ : ∃ v, v = ncode l := ⟨_, rfl⟩
  rw [← hv] at BAD OK ⊢
  clear hl hn hv
  go_enter Try.func18, Try.ntmps18
  go_wp2_with fail
  go_loop [11] (fun i => ∃ k : Nat, k ≤ 8 ∧ i = .int .i64 (k : Int) ∧ ∀ j, j < k → 0 ≤ l.getD j 0 ∧ l.getD j 0 ≤ 256) (fun i => 8 - (intOf i).toNat)
  case atStart => exact ⟨0, Nat.zero_le _, rfl, fun j hj => absurd hj (by omega)⟩
  case round =>
    obtain ⟨k, hk, rfl, hg⟩ := hrel
    have HG := Lib.hid hg
    clear hg
    by_cases hlt : k < 8
    · obtain ⟨ad, rfl, _, hc⟩ := HL.out k (by have := HN.out; omega)
      obtain ⟨m, hm⟩ : ∃ m, m = l.getD k 0 := ⟨_, rfl⟩
      rw [← hm] at hc
      by_cases h0 : m < 0
      · have E := Lib.hid (BAD.out fun hh => by have := hh k (by have := HN.out; omega); rw [← hm] at this; omega)
        clear hm
        go_wp2_with fail
        go_ret
        exact ⟨by rw [E.out]; rfl, rfl⟩
      · by_cases h1 : m ≤ 256
        · have GG := Lib.hid (show ∀ j, j < k + 1 → 0 ≤ l.getD j 0 ∧ l.getD j 0 ≤ 256 from fun j hj => by
            by_cases e : j = k
            · subst e; rw [← hm]; omega
            · exact HG.out j (by omega))
          clear hm
          go_wp2_with fail
          go_round
          case rel => exact ⟨k + 1, by omega, by go_num, GG.out⟩
          case measure => simp [intOf]; omega
        · have E := Lib.hid (BAD.out fun hh => by have := hh k (by have := HN.out; omega); rw [← hm] at this; omega)
          have h2 : 257 ≤ m := by omega
          clear hm h1
          go_wp2_with fail
          go_ret
          exact ⟨by rw [E.out]; rfl, rfl⟩
    · have E := Lib.hid (OK.out (fun j hj => HG.out j (by have := HN.out; omega)))
      go_wp2_with fail
      go_ret
      exact ⟨by rw [E.out]; rfl, rfl⟩

theorem nCheck_any (A : Option Addr) (l : List Int) (c : Nat) (w : World) (hl : Lies w A l) :
    Calls Try.prog 18 #[.slice A l.length c] w fun e w' => e = .returned (errOf (ncode l)) ∧ w = w' := by
  by_cases h : l.length = 8
  · have := nCheck_eight A l c w hl h
    rw [h]; exact this
  · exact nCheck_shape A l c w h

/-- Block g of the world is a variable that holds these numbers, as an array of eight. -/
def Arr (w : World) (g : Nat) (l : List Int) : Prop := w.heap[g]? = some (.cells (ints l).toArray 41 (0, 0))
theorem Arr.lt {w : World} {g : Nat} {l : List Int} (h : Arr w g l) : g < w.heap.size := by
  rcases Nat.lt_or_ge g w.heap.size with h' | h'
  · exact h'
  · rw [Arr, Array.getElem?_eq_none h'] at h; cases h
theorem Arr.cell {w : World} {g : Nat} {l : List Int} (h : Arr w g l) (k : Nat) (hk : k < l.length) : w.cell? ⟨g, k, none⟩ = some (.int .i64 (l.getD k 0)) := by
  rw [cell_of_row _ _ k _ _ (0, 0) h]; simp [hk]
theorem Arr.free {w : World} {g : Nat} {l : List Int} (h : Arr w g l) (k : Nat) : w.frozen? ⟨g, k, none⟩ = false := frozen_of_row w g k _ _ h
theorem Arr.put {w : World} {g : Nat} {l : List Int} (h : Arr w g l) (k : Nat) (x : Int) : Arr (w.setCell ⟨g, k, none⟩ (.int .i64 x)) g (l.set k x) := by
  unfold Arr
  rw [heap_setCell_same w g k _ _ _ h]
  simp [ints, List.map_set]
theorem Arr.far {w : World} {g : Nat} {l : List Int} (h : Arr w g l) {a : Addr} (ha : g ≠ a.block) (u : Value) : Arr (w.setCell a u) g l := by
  unfold Arr
  rw [heap_setCell_other w a g u ha]; exact h
theorem Arr.keep {w w' : World} {g : Nat} {l : List Int} (h : Arr w g l) (hk : Kp w w') : Arr w' g l := by
  unfold Arr
  rw [hk.block g h.lt]; exact h
theorem Arr.drewN {w : World} {g : Nat} {l : List Int} (h : Arr w g l) (n : Nat) : Arr (w.drewN n) g l := h
theorem Arr.new {w : World} {g : Nat} {l : List Int} (h : Arr w g l) (o : Obj) : Arr (w.alloc o) g l := h.keep ((Kp.rfl' w).new o)
theorem Arr.lies {w : World} {g : Nat} {l : List Int} (h : Arr w g l) : Lies w (some ⟨g, 0, none⟩) l := fun k hk => by
  refine ⟨_, rfl, h.lt, ?_⟩
  rw [add_at, h.cell k hk]
theorem Arr.made (w : World) (l : List Int) : Arr (w.alloc (.cells (ints l).toArray 41)) w.heap.size l := by
  unfold Arr
  exact heap_alloc_new w _
theorem Arr.setRow {w : World} {g : Nat} {l m : List Int} (h : Arr w g l) : Arr (w.setRow g (ints m).toArray) g m := setRow_heap w g _ _ _ (0, 0) h
theorem Arr.apart {w : World} {g g' : Nat} {l : List Int} (h : Arr w g l) (hne : g ≠ g') (cs : Array Value) : Arr (w.setRow g' cs) g l := by
  unfold Arr
  rw [setRow_other w g' g cs hne]; exact h

theorem arr_info : (Try.prog.info? 41).map (·.size) = some 8 := by kernel_rfl
theorem arr_zero (w : World) : (zeroValue 41).run Try.prog w = .ok (.agg (ints [0, 0, 0, 0, 0, 0, 0, 0]).toArray) w := Try.zeroValue41 w
theorem arr_loadVar {w : World} {g : Nat} {l : List Int} (h : Arr w g l) (hl : l.length = 8) :
    (loadVar 41 ⟨g, 0, none⟩).run Try.prog w = .ok (.agg (ints l).toArray) w :=
  run_loadVar_row w g _ _ _ (0, 0) _ h Try.underlying41 rfl (by rw [arr_info]; simp [hl])
theorem arr_load {w : World} {g : Nat} {l : List Int} (h : Arr w g l) (hl : l.length = 8) :
    (Instr.loadAt 41 (.pointer (some ⟨g, 0, none⟩))).run Try.prog w = .ok (.agg (ints l).toArray) w := by
  simp only [Instr.loadAt, Instr.sureAddr, Sem.run_bind, Sem.run_pure, Result.andThen]
  exact run_loadVar_row w g _ _ _ (0, 0) _ h Try.underlying41 rfl (by rw [arr_info]; simp [hl])
theorem arr_store {w : World} {g : Nat} {l m : List Int} (h : Arr w g l) (hl : l.length = 8) (hm : m.length = 8) :
    (Instr.storeAt 41 (.pointer (some ⟨g, 0, none⟩)) (.agg (ints m).toArray)).run Try.prog w = .ok () (w.setRow g (ints m).toArray) := by
  simp only [Instr.storeAt, Instr.sureAddr, Sem.run_bind, Sem.run_pure, Result.andThen]
  exact run_storeVar_row w g _ _ _ _ h (by rw [arr_info]; simp [hm]) (by simp [hl, hm]) (by simp [Value.oneCell'])

theorem results_cell {fn : Func} {p : Tmp} {ty : TypeId} (h : fn.results = #[.cell p ty]) (tmps : Array Value) (P : Program) (w : World) :
    (results fn tmps).run P w = ((asAddr (tmps.getD p undef)).run P w).andThen fun a w₁ => (loadVar ty a).run P w₁ := by
  simp only [results, h]
  simp [Sem.run_bind, Result.andThen]
/-- An element of eight numbers by value. -/
theorem index_arr (L : List Value) (t : Nat) (x : Int) (w : World) (ht : t < 8) (h : L[t]? = some (.int .i64 x)) :
    (Instr.index 41 (.agg L.toArray) (.int .i64 (t : Int))).run Try.prog w = .ok (.int .i64 x) w := by
  obtain ⟨i0, hi, hz0, hz1, hz2⟩ := info_parts int_info
  have hu : Try.prog.underlying 41 = some (.array 8 3) := Try.underlying41
  simp [Instr.index, run_underlying hu, asIntOf, sizeOf, typeInfo, hi, hz1, h, go_sem]
  exact fun hc => absurd hc (by omega)
/-- The result is a variable of eight. -/
theorem results_arr {fn : Func} {p : Tmp} (h : fn.results = #[.cell p 41]) (tmps : Array Value) {w : World} {g : Nat} {l : List Int} (hg : tmps.getD p undef = .pointer (some ⟨g, 0, none⟩)) (hA : Arr w g l) (hl : l.length = 8) :
    (results fn tmps).run Try.prog w = .ok (.agg (ints l).toArray) w := by
  rw [results_cell h, hg]
  show Result.andThen (.ok _ w) _ = _
  rw [Result.andThen_ok, arr_loadVar hA hl]
section
variable {ops : Array Oper} {rest : List Oper} {o : Oper} {a : Act} {w : World} {Q : Exit → Act → World → Prop}
/-- A whole variable of eight is read. -/
theorem wpList_load_arr (hgd : o.guard = Option.none) (x : Operand) (ho : o.op = .load 41 x) (g : Nat) (hx : a.eval x = .pointer (some ⟨g, 0, none⟩)) (l : List Int) (hc : Arr w g l) (hl : l.length = 8)
    (h : wpList Try.prog ops Q rest (a.put o.dst (.agg (ints l).toArray)) w) : wpList Try.prog ops Q (o :: rest) a w :=
  wpList_plain hgd fun _ hK => by
    unfold Oper.wp execOp
    simp only [ho, hx, Sem.run_bind, arr_load hc hl, Sem.run_pure, Result.andThen_ok]
    exact hK _ _ h
/-- A whole variable of eight is written. -/
theorem wpList_store_arr (hgd : o.guard = Option.none) (x y : Operand) (ho : o.op = .store 41 x y) (g : Nat) (hx : a.eval x = .pointer (some ⟨g, 0, none⟩)) (m : List Int) (hy : a.eval y = .agg (ints m).toArray)
    (l : List Int) (hc : Arr w g l) (hl : l.length = 8) (hm : m.length = 8)
    (h : wpList Try.prog ops Q rest (a.put o.dst undef) (w.setRow g (ints m).toArray)) : wpList Try.prog ops Q (o :: rest) a w :=
  wpList_plain hgd fun _ hK => by
    unfold Oper.wp execOp
    simp only [ho, hx, hy, Sem.run_bind, arr_store hc hl hm, Sem.run_pure, Result.andThen_ok]
    exact hK _ _ h
end

theorem kp_setRow {w0 w : World} {g : Nat} (h : Kp w0 w) (hg : w0.heap.size ≤ g) (cs : Array Value) : Kp w0 (w.setRow g cs) := below_setRow h hg cs

/-- copy(row[:], l): a variable of eight, and a slice of eight. -/
theorem copy8 (w1 : World) (g c : Nat) (A : Option Addr) (l old : List Int) (ty : TypeId) (hr : Arr w1 g old) (ho : old.length = 8) (hl : Lies w1 A l) (hn : l.length = 8) :
    (Builtin.copy_ #[22, 22] ty #[.slice (some ⟨g, 0, none⟩) 8 8, .slice A 8 c]).run Try.prog w1 = .ok (goInt 8) (w1.setRow g (ints l).toArray) := by
  obtain ⟨i0, hi, hz0, hz1, hz2⟩ := info_parts int_info
  have hsz : (Try.prog.info? 3).map (·.size) = some 1 := by rw [hi]; simp [hz1]
  obtain ⟨ad, rfl, _, _⟩ := hl 0 (by omega)
  have hlen : (ints l).length = 8 := by rw [ints, List.length_map, hn]
  have hlo : (ints old).length = 8 := by rw [ints, List.length_map, ho]
  have hrun := run_copy_row (P := Try.prog) w1 22 22 ty 3 g 0 8 8 ad 8 c _ 41 (ints l) Try.underlying22 hsz hr (by rw [hlen]; rfl)
    (fun j v hj => by
      have hj' : j < l.length := by
        rcases Nat.lt_or_ge j l.length with hlt | hge
        · exact hlt
        · rw [List.getElem?_eq_none (by simpa using hge)] at hj; cases hj
      obtain ⟨ad', e, _, hc⟩ := hl j hj'
      injection e with e
      subst e
      rw [hc, ← hj]
      simp [hj']) (by rw [hlen]; simp [ho]) (fun v hv => by simp at hv; obtain ⟨y, _, rfl⟩ := hv; rfl)
  rw [hlen] at hrun
  rw [hrun]
  congr 2
  rw [List.take_zero, List.nil_append, List.drop_of_length_le (by rw [List.toList_toArray]; omega), List.append_nil]

/-- Eight noughts. -/
abbrev zs8 : List Int := [0, 0, 0, 0, 0, 0, 0, 0]

set_option maxRecDepth 100000 in
set_option maxHeartbeats 1600000 in
theorem rowOf_any (A : Option Addr) (l : List Int) (c : Nat) (w : World) (hl : Lies w A l) (hn : l.length = 8) :
    Calls Try.prog 20 #[.slice A 8 c] w fun e w' => e = .returned (.agg (ints l).toArray) ∧ Kp w w' := by
  have HL := Lib.hid hl
  clear hl
  go_enter Try.func20, Try.ntmps20
  go_wp2_with fail
  have K2 : Kp w ((w.alloc (.cells (ints zs8).toArray 41)).alloc (.cells (ints zs8).toArray 41)) := ((Kp.rfl' w).new _).new _
  have A1 : Arr ((w.alloc (.cells (ints zs8).toArray 41)).alloc (.cells (ints zs8).toArray 41)) w.heap.size zs8 := (Arr.made w zs8).new _
  have A2 : Arr ((w.alloc (.cells (ints zs8).toArray 41)).alloc (.cells (ints zs8).toArray 41)) (w.heap.size + 1) zs8 := by
    have := Arr.made (w.alloc (.cells (ints zs8).toArray 41)) zs8
    rwa [show (w.alloc (.cells (ints zs8).toArray 41)).heap.size = w.heap.size + 1 by simp] at this
  obtain ⟨w2, hw2⟩ : ∃ w2, w2 = (w.alloc (.cells (ints zs8).toArray 41)).alloc (.cells (ints zs8).toArray 41) := ⟨_, rfl⟩
  rw [← hw2] at K2 A1 A2
  change Oper.upon _ _ _ _ _ ((Sem.run _ _ ((w.alloc (.cells (ints zs8).toArray 41)).alloc (.cells (ints zs8).toArray 41))).andThen _)
  rw [← hw2]
  have hrun := copy8 w2 (w.heap.size + 1) c A l zs8 3 A2 rfl (HL.out.keep K2) hn
  rw [hrun]
  have A3 : Arr (w2.setRow (w.heap.size + 1) (ints l).toArray) (w.heap.size + 1) l := A2.setRow
  have A4 : Arr (w2.setRow (w.heap.size + 1) (ints l).toArray) w.heap.size zs8 := A1.apart (by omega) _
  have K3 := kp_setRow K2 (g := w.heap.size + 1) (by omega) (ints l).toArray
  generalize w2.setRow (w.heap.size + 1) (ints l).toArray = w3 at *
  clear hw2 hrun A1 A2 K2
  go_wp2_with (first
    | refine wpList_load_arr rfl _ rfl _ rfl l (by assumption) hn ?_
    | refine wpList_store_arr rfl _ _ rfl _ rfl l rfl zs8 (by assumption) rfl hn ?_)
  have A5 : Arr (w3.setRow w.heap.size (ints l).toArray) w.heap.size l := A4.setRow
  have K5 := kp_setRow K3 (g := w.heap.size) (Nat.le_refl _) (ints l).toArray
  exact bodyPost_ret (v := .agg (ints l).toArray) (results_arr rfl _ rfl A5 hn) rfl ⟨rfl, K5⟩

end Go.Proofs.Ytlemhkceilkfhaa
