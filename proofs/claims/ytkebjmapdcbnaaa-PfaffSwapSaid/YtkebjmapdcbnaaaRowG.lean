/- Rows of memory of the call's own, errors as numbers, and what callers of small functions want: for all packages. -/
import Derived.Test.YtkebjmapdcbnaaaOwn
import Derived.Test.YtkebjmapdcbnaaaSame
import Derived.Lib.SliceRun
import Derived.Laws.CopyOwn
namespace Go.Proofs.Ytkebjmapdcbnaaa
open Go.ChangeShapes Go.WideShapes Go.ChangeAt Go.RowKit
set_option linter.unusedVariables false

theorem Drew.kp {w w' : World} (h : Drew w w') : Kp w w' := by
  obtain ⟨n, rfl⟩ := h
  exact (Kp.rfl' w).drewN n

/-- The error that belongs to a number of the document's. -/
def errOf (c : Nat) : Value := if c = 0 then .nilIface else .iface 44 (.int .i64 (c : Int))

/-- Block g of the world is the row of these numbers, and no more. -/
def Row (w : World) (g : Nat) (l : List Int) : Prop := w.heap[g]? = some (.cells (ints l).toArray 3 (0, 0))
theorem Row.lt {w : World} {g : Nat} {l : List Int} (h : Row w g l) : g < w.heap.size := by
  rcases Nat.lt_or_ge g w.heap.size with h' | h'
  · exact h'
  · rw [Row, Array.getElem?_eq_none h'] at h; cases h
theorem Row.cell {w : World} {g : Nat} {l : List Int} (h : Row w g l) (k : Nat) (hk : k < l.length) : w.cell? ⟨g, k, none⟩ = some (.int .i64 (l.getD k 0)) := by
  rw [cell_of_row _ _ k _ _ (0, 0) h]; simp [hk]
theorem Row.free {w : World} {g : Nat} {l : List Int} (h : Row w g l) (k : Nat) : w.frozen? ⟨g, k, none⟩ = false := frozen_of_row w g k _ _ h
theorem Row.put {w : World} {g : Nat} {l : List Int} (h : Row w g l) (k : Nat) (x : Int) : Row (w.setCell ⟨g, k, none⟩ (.int .i64 x)) g (l.set k x) := by
  unfold Row
  rw [heap_setCell_same w g k _ _ _ h]
  simp [ints, List.map_set]
theorem Row.far {w : World} {g : Nat} {l : List Int} (h : Row w g l) {a : Addr} (ha : g ≠ a.block) (u : Value) : Row (w.setCell a u) g l := by
  unfold Row
  rw [heap_setCell_other w a g u ha]; exact h
theorem Row.keep {w w' : World} {g : Nat} {l : List Int} (h : Row w g l) (hk : Kp w w') : Row w' g l := by
  unfold Row
  rw [hk.block g h.lt]; exact h
theorem Row.drewN {w : World} {g : Nat} {l : List Int} (h : Row w g l) (n : Nat) : Row (w.drewN n) g l := h
theorem Row.lies {w : World} {g : Nat} {l : List Int} (h : Row w g l) : Lies w (some ⟨g, 0, none⟩) l := fun k hk => by
  refine ⟨_, rfl, h.lt, ?_⟩
  rw [add_at, h.cell k hk]
theorem Lies.take {w : World} {A : Option Addr} {l : List Int} (h : Lies w A l) (n : Nat) : Lies w A (l.take n) := fun k hk => by
  rw [List.length_take] at hk
  obtain ⟨ad, e, hl, hc⟩ := h k (by omega)
  refine ⟨ad, e, hl, ?_⟩
  rw [hc]
  congr 2
  rw [List.getD_eq_getElem?_getD, List.getD_eq_getElem?_getD, List.getElem?_take_of_lt (by omega)]

/-- A row just made of noughts. -/
theorem row_made {w : World} {base : Nat} {g n : Nat} (h : w.ownsRow base 3 1 (.slice (some ⟨g, 0, none⟩) n n) n (madeCells #[.int .i64 0] (n * 1)).toList) : Row w g (List.replicate n 0) := by
  rcases h.2 with ⟨h', _⟩ | ⟨g', cap, cur, h', _, hg, _, _, hs, ht⟩
  · simp at h'
  · simp only [Value.slice.injEq, Option.some.injEq, Addr.mk.injEq, and_true, true_and] at h'
    obtain ⟨rfl, rfl⟩ := h'
    unfold Row
    rw [hg]
    congr 2
    apply Array.toList_inj.1
    rw [toList_madeCells_one] at ht
    rw [List.take_of_length_le (by rw [Array.length_toList, hs]; exact Nat.le_refl _)] at ht
    rw [ht]
    simp [ints]

theorem errOf_ne (c : Nat) (h : c ≠ 0) : errOf c = .iface 44 (.int .i64 (c : Int)) := by unfold errOf; rw [if_neg h]
theorem errOf_zero : errOf 0 = .nilIface := rfl

theorem quiet_here {P : Program} {f : FuncId} {args : Array Value} {w : World} {n : Nat} {v : Value} (h : Calls P f args (w.drewN n) fun e w' => e = .returned v ∧ w.drewN n = w') :
    Calls P f args (w.drewN n) fun e w'' => e = .returned v ∧ ∃ m, w'' = w.drewN m := h.mono fun _ _ ⟨he, hm⟩ => ⟨he, n, hm.symm⟩

theorem quiet_more {P : Program} {f : FuncId} {args : Array Value} {w : World} {a n : Nat} {v : Value} (h : Calls P f args (w.drewN (a + n)) fun e w' => e = .returned v ∧ w.drewN (a + n) = w') :
    Calls P f args (w.drewN (a + n)) fun e w'' => e = .returned v ∧ ∃ m, w'' = w.drewN (a + m) := h.mono fun _ _ ⟨he, hm⟩ => ⟨he, n, hm.symm⟩

theorem Own.cap {w : World} {B : Nat} {v : Value} {l : List Int} (h : Own w B v l) : ∃ A c, v = .slice A l.length c ∧ Lies w A l ∧ l.length ≤ c := by
  have h' := h
  rcases h'.2 with ⟨rfl, h0⟩ | ⟨g, cap, cur, rfl, _, _, hnc, _⟩
  · obtain rfl : l = [] := List.eq_nil_of_length_eq_zero h0
    exact ⟨Option.none, 0, rfl, Lies.empty _ _, Nat.le_refl _⟩
  · obtain ⟨A, c, e, hl⟩ := h.lies
    injection e with e1 e2 e3
    subst e1 e3
    exact ⟨_, _, rfl, hl, hnc⟩

theorem quiet_drew {P : Program} {f : FuncId} {args : Array Value} {w : World} {n : Nat} {v : Value} (h : Calls P f args (w.drewN n) fun e w' => e = .returned v ∧ Drew (w.drewN n) w') :
    Calls P f args (w.drewN n) fun e w'' => e = .returned v ∧ ∃ m, w'' = w.drewN m := h.mono fun _ _ ⟨he, m, hm⟩ => ⟨he, n + m, by rw [hm, World.drewN_drewN]⟩
theorem quiet_drew_more {P : Program} {f : FuncId} {args : Array Value} {w : World} {a n : Nat} {v : Value} (h : Calls P f args (w.drewN (a + n)) fun e w' => e = .returned v ∧ Drew (w.drewN (a + n)) w') :
    Calls P f args (w.drewN (a + n)) fun e w'' => e = .returned v ∧ ∃ m, w'' = w.drewN (a + m) := h.mono fun _ _ ⟨he, m, hm⟩ => ⟨he, n + m, by rw [hm, World.drewN_drewN, Nat.add_assoc]⟩

/-- A row of the call's own has an address where it is not empty. -/
theorem own_some {w : World} {B : Nat} {v : Value} {l : List Int} (h : Own w B v l) (h0 : 0 < l.length) : ∃ g c, v = .slice (some ⟨g, 0, none⟩) l.length c ∧ B ≤ g ∧ l.length ≤ c := by
  rcases h.2 with ⟨_, h1⟩ | ⟨g, cap, cur, e, hg, _, hc, _⟩
  · omega
  · exact ⟨g, cap, e, hg, hc⟩
theorem own_row {w : World} {B g n c : Nat} {l : List Int} (h : Own w B (.slice (some ⟨g, 0, none⟩) n c) l) : ∃ cur, w.heap[g]? = some (.cells cur 3 (0, 0)) ∧ cur.toList.take l.length = ints l := by
  rcases h.2 with ⟨h0, _⟩ | ⟨g', cap, cur, e, hg, hh, hc, hm, hs, ht⟩
  · cases h0
  · cases e
    exact ⟨cur, hh, by simpa using ht⟩
theorem own_cell {w : World} {B g n c : Nat} {l : List Int} (h : Own w B (.slice (some ⟨g, 0, none⟩) n c) l) (k : Nat) (hk : k < l.length) : w.cell? ⟨g, k, none⟩ = some (.int .i64 (l.getD k 0)) := by
  obtain ⟨cur, hh, ht⟩ := own_row h
  rw [cell_of_row _ _ k _ _ (0, 0) hh, ← Array.getElem?_toList, ← List.getElem?_take_of_lt hk, ht]
  simp [hk]
theorem own_free {w : World} {B g n c : Nat} {l : List Int} (h : Own w B (.slice (some ⟨g, 0, none⟩) n c) l) (k : Nat) : w.frozen? ⟨g, k, none⟩ = false := by
  obtain ⟨cur, hh, ht⟩ := own_row h
  exact frozen_of_row w g k _ _ hh
theorem own_put {w : World} {B g n c : Nat} {l : List Int} (h : Own w B (.slice (some ⟨g, 0, none⟩) n c) l) (k : Nat) (x : Int) :
    Own (w.setCell ⟨g, k, none⟩ (.int .i64 x)) B (.slice (some ⟨g, 0, none⟩) n c) (l.set k x) := by
  rcases h.2 with ⟨h0, _⟩ | ⟨g', cap, cur, e, hg, hh, hc, hm, hs, ht⟩
  · cases h0
  · cases e
    refine ⟨by simp, .inr ⟨g, c, cur.setIfInBounds k (.int .i64 x), by rw [List.length_set], hg, heap_setCell_same w g k _ _ _ hh, by rw [List.length_set]; exact hc, hm, by rw [Array.size_setIfInBounds]; exact hs, ?_⟩⟩
    rw [Array.toList_setIfInBounds, List.length_set, List.take_set, ht]
    simp [ints, List.map_set]

theorem own_far {w : World} {B : Nat} {v : Value} {l : List Int} (h : Own w B v l) {p : Addr} (hp : p.block < B) : some p.block ≠ v.ownBlock := fun e => by
  have := (World.ownsRow.lt h _ e.symm).1
  omega
/-- A row of the call's own that holds these numbers. -/
def SomeRow (l : List Int) (w : World) (e : Ending) (w' : World) : Prop := ∃ v, e = .returned v ∧ Own w' w.heap.size v l ∧ Kp w w'


theorem tells_no {P : Prop} {e : Ending} (h : Tells P e) (hp : ¬ P) : e = .returned (.bool false) := by rcases h with ⟨h, _⟩ | ⟨_, h⟩ <;> first | exact h | exact absurd h hp

theorem add_zero' (a : Addr) : a.add 0 = a := by unfold Addr.add; rw [if_pos rfl]
theorem Lies.drop {w : World} {ad : Addr} {l : List Int} (h : Lies w (some ad) l) (n : Nat) : Lies w (some (ad.add n)) (l.drop n) := fun k hk => by
  rw [List.length_drop] at hk
  obtain ⟨ad', e, hl, hc⟩ := h (n + k) (by omega)
  injection e with e
  subst e
  refine ⟨_, rfl, by rw [block_add]; exact hl, ?_⟩
  rw [add_add, hc, List.getD_eq_getElem?_getD, List.getD_eq_getElem?_getD, List.getElem?_drop]


end Go.Proofs.Ytkebjmapdcbnaaa
