/- Variables that hold numbers, of whatever type: what a block holds, and loads and stores of all of it. For all packages; no program is named. -/
import Derived.Test.YtolkdbijenbchaaRowG
import Derived.Test.YtolkdbijenbchaaOwn
import Derived.StillTailTactics
import Derived.Laws.Tables
import Derived.Deep.MidRow
namespace Go.Proofs.Ytolkdbijenbchaa
open Go.ChangeShapes Go.WideShapes Go.ChangeAt Go.RowKit
set_option linter.unusedVariables false

/-- Block g of the world is a variable that holds these numbers. -/
def Cl (ty : TypeId) (w : World) (g : Nat) (l : List Int) : Prop := w.heap[g]? = some (.cells (ints l).toArray ty (0, 0))
section
variable {ty : TypeId} {w w' : World} {g : Nat} {l m : List Int}
theorem Cl.lt (h : Cl ty w g l) : g < w.heap.size := by
  rcases Nat.lt_or_ge g w.heap.size with h' | h'
  · exact h'
  · rw [Cl, Array.getElem?_eq_none h'] at h; cases h
theorem Cl.cell (h : Cl ty w g l) (k : Nat) (hk : k < l.length) : w.cell? ⟨g, k, none⟩ = some (.int .i64 (l.getD k 0)) := by
  rw [cell_of_row _ _ k _ _ (0, 0) h]; simp [hk]
theorem Cl.free (h : Cl ty w g l) (k : Nat) : w.frozen? ⟨g, k, none⟩ = false := frozen_of_row w g k _ _ h
theorem Cl.put (h : Cl ty w g l) (k : Nat) (x : Int) : Cl ty (w.setCell ⟨g, k, none⟩ (.int .i64 x)) g (l.set k x) := by
  unfold Cl
  rw [heap_setCell_same w g k _ _ _ h]
  simp [ints, List.map_set]
theorem Cl.far (h : Cl ty w g l) {a : Addr} (ha : g ≠ a.block) (u : Value) : Cl ty (w.setCell a u) g l := by
  unfold Cl
  rw [heap_setCell_other w a g u ha]; exact h
theorem Cl.keep (h : Cl ty w g l) (hk : Kp w w') : Cl ty w' g l := by
  unfold Cl
  rw [hk.block g h.lt]; exact h
theorem Cl.new (h : Cl ty w g l) (o : Obj) : Cl ty (w.alloc o) g l := h.keep ((Kp.rfl' w).new o)
theorem Cl.lies (h : Cl ty w g l) : Lies w (some ⟨g, 0, none⟩) l := fun k hk => by
  refine ⟨_, rfl, h.lt, ?_⟩
  rw [add_at, h.cell k hk]
theorem Cl.made (w : World) (l : List Int) : Cl ty (w.alloc (.cells (ints l).toArray ty)) w.heap.size l := by
  unfold Cl
  exact heap_alloc_new w _
theorem Cl.setRow (h : Cl ty w g l) : Cl ty (w.setRow g (ints m).toArray) g m := setRow_heap w g _ _ _ (0, 0) h
theorem Cl.apart {g' : Nat} (h : Cl ty w g l) (hne : g ≠ g') (cs : Array Value) : Cl ty (w.setRow g' cs) g l := by
  unfold Cl
  rw [setRow_other w g' g cs hne]; exact h
theorem Cl.range (h : Cl ty w g l) (o n : Nat) : w.rangeAt g o (ints ((l.drop o).take n)) := fun j v hv => by
  have hj : j < (ints ((l.drop o).take n)).length := (List.getElem?_eq_some_iff.1 hv).1
  have hj' : j < n ∧ o + j < l.length := by simp at hj; omega
  rw [h.cell (o + j) hj'.2, ← hv]
  simp [hj'.1, hj'.2]
end
theorem bkp_setRow {w0 w : World} {g : Nat} (h : Kp w0 w) (hg : w0.heap.size ≤ g) (cs : Array Value) : Kp w0 (w.setRow g cs) := below_setRow h hg cs

section
variable {ops : Array Oper} {rest : List Oper} {o : Oper} {a : Act} {w : World} {Q : Exit → Act → World → Prop}
/-- A whole variable is read. -/
theorem wpList_load_cl (ty e : TypeId) (n : Nat) (hu : Try.prog.underlying ty = some (.array n e)) (hgd : o.guard = Option.none) (x : Operand) (ho : o.op = .load ty x) (g : Nat) (hx : a.eval x = .pointer (some ⟨g, 0, none⟩)) (l : List Int) (hc : Cl ty w g l)
    (hi : (Try.prog.info? ty).map (·.size) = some l.length) (h : wpList Try.prog ops Q rest (a.put o.dst (.agg (ints l).toArray)) w) : wpList Try.prog ops Q (o :: rest) a w :=
  wpList_plain hgd fun _ hK => by
    unfold Oper.wp execOp
    simp only [ho, hx, Instr.loadAt, Instr.sureAddr, Sem.run_bind, Sem.run_pure, Result.andThen_ok, run_loadVar_row w g ty ty _ (0, 0) _ hc hu rfl (by rw [hi]; simp)]
    exact hK _ _ h
/-- A whole variable is written. -/
theorem wpList_store_cl (ty : TypeId) (hgd : o.guard = Option.none) (x y : Operand) (ho : o.op = .store ty x y) (g : Nat) (hx : a.eval x = .pointer (some ⟨g, 0, none⟩)) (m : List Int) (hy : a.eval y = .agg (ints m).toArray)
    (l : List Int) (hc : Cl ty w g l) (hl : l.length = m.length) (hi : (Try.prog.info? ty).map (·.size) = some m.length) (h : wpList Try.prog ops Q rest (a.put o.dst undef) (w.setRow g (ints m).toArray)) : wpList Try.prog ops Q (o :: rest) a w :=
  wpList_plain hgd fun _ hK => by
    unfold Oper.wp execOp
    simp only [ho, hx, hy, Instr.storeAt, Instr.sureAddr, Sem.run_bind, Sem.run_pure, Result.andThen_ok, run_storeVar_row w g ty ty (ints l).toArray (ints m).toArray hc (by rw [hi]; simp) (by simp [hl]) (by simp [Value.oneCell'])]
    exact hK _ _ h
end
theorem results_cell' {fn : Func} {p : Tmp} {ty : TypeId} (h : fn.results = #[.cell p ty]) (tmps : Array Value) (P : Program) (w : World) :
    (results fn tmps).run P w = ((asAddr (tmps.getD p undef)).run P w).andThen fun a w₁ => (loadVar ty a).run P w₁ := by
  simp only [results, h]
  simp [Sem.run_bind, Result.andThen]
theorem results_cl (ty e : TypeId) (n : Nat) (hu : Try.prog.underlying ty = some (.array n e)) {fn : Func} {p : Tmp} (h : fn.results = #[.cell p ty]) (tmps : Array Value) {w : World} {g : Nat} {l : List Int} (hg : tmps.getD p undef = .pointer (some ⟨g, 0, none⟩)) (hA : Cl ty w g l)
    (hi : (Try.prog.info? ty).map (·.size) = some l.length) : (results fn tmps).run Try.prog w = .ok (.agg (ints l).toArray) w := by
  rw [results_cell' h, hg]
  show Result.andThen (.ok _ w) _ = _
  rw [Result.andThen_ok]
  exact run_loadVar_row w g ty ty _ (0, 0) _ hA hu rfl (by rw [hi]; simp)

/-- Behind a store of all of a variable. -/
structure Aft (ty : TypeId) (w : World) (g : Nat) (m : List Int) (w' : World) : Prop where
  own : Cl ty w' g m
  far : ∀ {ty' g' l}, g' ≠ g → Cl ty' w g' l → Cl ty' w' g' l
  kp : ∀ {w0}, Kp w0 w → w0.heap.size ≤ g → Kp w0 w'
  size : w'.heap.size = w.heap.size
section
variable {ops : Array Oper} {rest : List Oper} {o : Oper} {a : Act} {w : World} {Q : Exit → Act → World → Prop}
theorem wpList_store_aft (ty : TypeId) (hgd : o.guard = Option.none) (x y : Operand) (ho : o.op = .store ty x y) (g : Nat) (hx : a.eval x = .pointer (some ⟨g, 0, none⟩)) (m : List Int) (hy : a.eval y = .agg (ints m).toArray)
    (l : List Int) (hc : Cl ty w g l) (hl : l.length = m.length) (hi : (Try.prog.info? ty).map (·.size) = some m.length) (h : ∀ w', Aft ty w g m w' → wpList Try.prog ops Q rest (a.put o.dst undef) w') : wpList Try.prog ops Q (o :: rest) a w :=
  wpList_store_cl ty hgd x y ho g hx m hy l hc hl hi (h _ ⟨hc.setRow, fun hne k => k.apart hne _, fun hk hg => bkp_setRow hk hg _, by simp [World.setRow]⟩)
end
/-- copy of numbers into a part of a variable. -/
theorem cl_copy (w1 : World) (ty : TypeId) (g o dl dc : Nat) (A : Option Addr) (x : List Int) (n c : Nat) (rty : TypeId) (old : List Int) (hr : Cl ty w1 g old) (hn : x.length = n) (ho : o + n ≤ old.length) (hx : Lies w1 A x) (h0 : 0 < n) (hd : n ≤ dl) :
    (Builtin.copy_ #[22, 22] rty #[.slice (some ⟨g, o, none⟩) dl dc, .slice A n c]).run Try.prog w1 = .ok (goInt n) (w1.setRow g (ints (old.take o ++ x ++ old.drop (o + n))).toArray) := by
  subst hn
  obtain ⟨i0, hi, hz0, hz1, hz2⟩ := info_parts int_info
  have hsz : (Try.prog.info? 3).map (·.size) = some 1 := by rw [hi]; simp [hz1]
  obtain ⟨ad, rfl, _, _⟩ := hx 0 h0
  have hlen : (ints x).length = x.length := by rw [ints, List.length_map]
  have hrun := run_copy_row (P := Try.prog) w1 22 22 rty 3 g o dl dc ad x.length c _ ty (ints x) Try.underlying22 hsz hr (by rw [hlen]; exact (Nat.min_eq_left hd).symm)
    (fun j v hj => by
      have hj' : j < x.length := by
        rcases Nat.lt_or_ge j x.length with hlt | hge
        · exact hlt
        · rw [List.getElem?_eq_none (by simpa using hge)] at hj; cases hj
      obtain ⟨ad', e, _, hc⟩ := hx j hj'
      injection e with e
      subst e
      rw [hc, ← hj]
      simp [hj']) (by rw [hlen]; simpa using ho) (fun v hv => by simp at hv; obtain ⟨y, _, rfl⟩ := hv; rfl)
  rw [hlen] at hrun
  rw [hrun]
  congr 2
  simp [ints]
theorem cl_aft {ty : TypeId} {w : World} {g : Nat} {l m : List Int} (hc : Cl ty w g l) : Aft ty w g m (w.setRow g (ints m).toArray) :=
  ⟨hc.setRow, fun hne k => k.apart hne _, fun hk hg => bkp_setRow hk hg _, by simp [World.setRow]⟩

end Go.Proofs.Ytolkdbijenbchaa
