/- Slices of integers in memory: a slice that holds a list of numbers, a row of the call's own that holds one, and what keeps them. -/
import Derived.Below
import Derived.OwnWalk
import Derived.Laws.OwnMore
import Derived.Deep.Draws
import Derived.Laws.Rows
import Derived.Deep.AppendLies
import Derived.ChangeSame
namespace Go.Proofs.Ytkebjmapdcbnaaa
open Go.RowKit
set_option linter.unusedVariables false

/-- Nothing that was there has turned. -/
abbrev Kp (w w' : World) : Prop := Below w.heap.size w w'
theorem Kp.rfl' (w : World) : Kp w w := Below.refl _ _
theorem Kp.trans {a b c : World} (h : Kp a b) (k : Kp b c) : Kp a c := Below.trans h (k.mono h.size)
theorem below_kp {B : Nat} {a b c : World} (h : Below B a b) (hB : B ≤ b.heap.size) (k : Kp b c) : Below B a c := h.trans (k.mono hB)
theorem below_drewN' {B : Nat} {a w : World} (h : Below B a w) (n : Nat) : Below B a (w.drewN n) := ⟨h.os, h.tape, h.output, h.size, h.block⟩
theorem Kp.drewN {a w : World} (h : Kp a w) (n : Nat) : Kp a (w.drewN n) := below_drewN' h n
theorem Kp.new {a w : World} (h : Kp a w) (o : Obj) : Kp a (w.alloc o) := Below.alloc h h.size o
theorem Kp.put {a w : World} (h : Kp a w) {p : Addr} (hp : a.heap.size ≤ p.block) (u : Value) : Kp a (w.setCell p u) := Below.setCell h hp u

theorem block_add (a : Addr) (n : Nat) : (a.add n).block = a.block := by unfold Addr.add; split <;> rfl
theorem add_add (a : Addr) (i j : Nat) : (a.add i).add j = a.add (i + j) := by
  unfold Addr.add
  by_cases hi : i = 0 <;> by_cases hj : j = 0 <;> simp [hi, hj, Nat.add_assoc]

/-- From address A on the numbers of l lie in the world, one a cell. (Of an empty list nothing is asked.) -/
def Lies (w : World) (A : Option Addr) (l : List Int) : Prop :=
  ∀ k, k < l.length → ∃ ad, A = some ad ∧ ad.block < w.heap.size ∧ w.cell? (ad.add k) = some (.int .i64 (l.getD k 0))

theorem Lies.empty (w : World) (A : Option Addr) : Lies w A [] := fun k h => absurd h (by simp)
theorem Lies.kp {w w' : World} {A : Option Addr} {l : List Int} (h : Lies w A l) {B : Nat} (hB : w.heap.size ≤ B) (hb : Below B w w') : Lies w' A l := fun k hk => by
  obtain ⟨ad, e, hl, hc⟩ := h k hk
  exact ⟨ad, e, Nat.lt_of_lt_of_le hl hb.size, (hb.cell (p := ad.add k) (by rw [block_add]; omega)).trans hc⟩
theorem Lies.keep {w w' : World} {A : Option Addr} {l : List Int} (h : Lies w A l) (hb : Kp w w') : Lies w' A l := h.kp (Nat.le_refl _) hb
/-- The same behind writes from block B on. -/
def LiesIn (w : World) (B : Nat) (A : Option Addr) (l : List Int) : Prop :=
  ∀ k, k < l.length → ∃ ad, A = some ad ∧ ad.block < B ∧ w.cell? (ad.add k) = some (.int .i64 (l.getD k 0))
theorem Lies.in {w : World} {A : Option Addr} {l : List Int} (h : Lies w A l) : LiesIn w w.heap.size A l := h
theorem LiesIn.below {w w' : World} {B : Nat} {A : Option Addr} {l : List Int} (h : LiesIn w B A l) (hb : Below B w w') : LiesIn w' B A l := fun k hk => by
  obtain ⟨ad, e, hl, hc⟩ := h k hk
  exact ⟨ad, e, hl, (hb.cell (p := ad.add k) (by rw [block_add]; omega)).trans hc⟩
theorem LiesIn.lies {w : World} {B : Nat} {A : Option Addr} {l : List Int} (h : LiesIn w B A l) (hB : B ≤ w.heap.size) : Lies w A l := fun k hk => by
  obtain ⟨ad, e, hl, hc⟩ := h k hk
  exact ⟨ad, e, by omega, hc⟩

/-- A list of numbers as cells. -/
abbrev ints (l : List Int) : List Value := l.map (Value.int .i64)

/-- A row of the call's own reads as its list. -/
theorem own_lies {w : World} {base : Nat} {e : TypeId} {v : Value} {l : List Int} (h : w.ownsRow base e 1 v l.length (ints l)) :
    ∃ A c, v = .slice A l.length c ∧ Lies w A l := by
  rcases Nat.eq_zero_or_pos l.length with h0 | h0
  · obtain rfl : l = [] := List.eq_nil_of_length_eq_zero h0
    rcases h.2 with ⟨rfl, _⟩ | ⟨g, cap, cur, rfl, _⟩
    · exact ⟨none, 0, rfl, Lies.empty _ _⟩
    · exact ⟨_, cap, rfl, Lies.empty _ _⟩
  · obtain ⟨g, cap, hv, _, hlt⟩ := h.form h0
    refine ⟨_, cap, hv, fun k hk => ⟨_, rfl, hlt, ?_⟩⟩
    refine h.cells (g := g) (by rw [hv]; rfl) k _ ?_
    simp [hk]

theorem add_at (g i : Nat) : Addr.add ⟨g, 0, none⟩ i = ⟨g, i, none⟩ := by
  unfold Addr.add
  by_cases h : i = 0 <;> simp [h]

/-- A block of numbers, just laid. -/
theorem lies_new (w : World) (e : TypeId) (l : List Int) : Lies (w.alloc (.cells (ints l).toArray e)) (some ⟨w.heap.size, 0, none⟩) l := fun k hk => by
  refine ⟨_, rfl, by simp, ?_⟩
  rw [add_at, cell_of_row _ _ k _ e (0, 0) (heap_alloc_new w _)]
  simp [hk]
theorem lies_new' (w : World) (e : TypeId) (l : List Int) (g : Nat) (hg : g = w.heap.size) : Lies (w.alloc (.cells (ints l).toArray e)) (some ⟨g, 0, none⟩) l := by
  subst hg; exact lies_new w e l

theorem cell_lt {w : World} {a : Addr} {v : Value} (h : w.cell? a = some v) : a.block < w.heap.size := by
  rcases Nat.lt_or_ge a.block w.heap.size with h' | h'
  · exact h'
  · have e : w.heap[a.block]? = none := Array.getElem?_eq_none h'
    simp [World.cell?, e] at h

/-- What came in: the numbers up to the capacity; its elements are the first of them. -/
theorem lies_take {w : World} {x : Addr} {zs : List Int} {l c : Nat} (hl : l ≤ c) (hz : zs.length = c) (hc : ∀ i, i < zs.length → w.cell? (x.add i) = some (.int .i64 (zs.getD i 0))) :
    (zs.take l).length = l ∧ Lies w (some x) (zs.take l) := by
  have e : (zs.take l).length = l := by rw [List.length_take]; omega
  refine ⟨e, fun k hk => ⟨x, rfl, ?_, ?_⟩⟩
  · have := cell_lt (hc k (by omega)); rwa [block_add] at this
  · rw [hc k (by omega)]
    have : (zs.take l).getD k 0 = zs.getD k 0 := by
      rw [List.getD_eq_getElem?_getD, List.getD_eq_getElem?_getD, List.getElem?_take_of_lt (by omega)]
    rw [this]

end Go.Proofs.Ytkebjmapdcbnaaa
