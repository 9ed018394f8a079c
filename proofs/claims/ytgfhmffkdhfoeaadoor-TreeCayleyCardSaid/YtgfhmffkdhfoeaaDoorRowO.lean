/- Rows of numbers beneath heads of the call's own, that stay readable while the heads grow; two such lists side by side. For all packages. -/
import Derived.Test.YtgfhmffkdhfoeaaDoorHdsV
namespace Go.Proofs.YtgfhmffkdhfoeaaDoor
open Go.ChangeShapes Go.WideShapes Go.ChangeAt Go.RowKit
set_option linter.unusedVariables false

/-- Numbers that lie apart from what the slice v owns. -/
def Off (w : World) (v : Value) (A : Option Addr) (l : List Int) : Prop := ∀ k, k < l.length → ∃ ad, A = some ad ∧ ad.block < w.heap.size ∧ v.ownBlock ≠ some ad.block ∧ w.cell? (ad.add k) = some (.int .i64 (l.getD k 0))
theorem cell_of_heap {w w' : World} {p : Addr} (h : w'.heap[p.block]? = w.heap[p.block]?) : w'.cell? p = w.cell? p := by
  unfold World.cell?; rw [h]
section
variable {w w' : World} {v v' : Value} {A : Option Addr} {l : List Int}
theorem Off.lies (h : Off w v A l) : Lies w A l := fun k hk => by
  obtain ⟨ad, e, a, _, c⟩ := h k hk
  exact ⟨ad, e, a, c⟩
theorem Off.keep (h : Off w v A l) (hk : Kp w w') : Off w' v A l := fun k hk' => by
  obtain ⟨ad, e, a, b, c⟩ := h k hk'
  exact ⟨ad, e, Nat.lt_of_lt_of_le a hk.size, b, (hk.cell (p := ad.add k) (by rw [block_add]; omega)).trans c⟩
theorem Off.push (h : Off w v A l) (hg : w.grownBy w' v.ownBlock) (ha : At w v v') : Off w' v' A l := fun k hk => by
  obtain ⟨ad, e, a, b, c⟩ := h k hk
  have hb := hg.block ad.block a (fun e => b e.symm)
  refine ⟨ad, e, Nat.lt_of_lt_of_le a hg.size, ?_, ?_⟩
  · rcases ha with ha | ha
    · rw [ha]; exact b
    · rw [ha]; intro e'; injection e' with e'; omega
  · rw [cell_of_heap (w := w) (by rw [block_add]; exact hb)]; exact c
theorem Off.of {g : Nat} (h : Lies w A l) (hv : v.ownBlock = some g) (ho : ∀ ad, A = some ad → ad.block ≠ g) : Off w v A l := fun k hk => by
  obtain ⟨ad, e, a, c⟩ := h k hk
  exact ⟨ad, e, a, by rw [hv]; intro e'; injection e' with e'; exact ho ad e e'.symm, c⟩
end
/-- Rows that lie beneath a row of heads of the call's own. -/
structure Rows (w : World) (B : Nat) (v : Value) (C : List (List Int)) : Prop where
  top : ∃ H : Nat → Value, HdsV w B v C.length H ∧ ∀ i, i < C.length → ∃ A c, H i = .slice A (C.getD i []).length c ∧ (C.getD i []).length ≤ c ∧ Off w v A (C.getD i [])
theorem Rows.keep {w w' : World} {B : Nat} {v : Value} {C : List (List Int)} (h : Rows w B v C) (hk : Kp w w') : Rows w' B v C := by
  obtain ⟨H, h1, h2⟩ := h.top
  refine ⟨H, h1.kp hk, fun i hi => ?_⟩
  obtain ⟨A, c, e, hc, ho⟩ := h2 i hi
  exact ⟨A, c, e, hc, ho.keep hk⟩
theorem Rows.lies {w : World} {B : Nat} {v : Value} {C : List (List Int)} (h : Rows w B v C) : ∃ A c, v = .slice A C.length c ∧ C.length ≤ c ∧ LiesM w A C := by
  obtain ⟨H, h1, h2⟩ := h.top
  exact h1.lies rfl fun i hi => by
    obtain ⟨A, c, e, hc, ho⟩ := h2 i hi
    exact ⟨A, c, e, hc, ho.lies⟩
theorem rows_lit {w w1 : World} {A : Option Addr} {l : List Int} {n c : Nat} (hl : Lies w A l) (hn : l.length = n) (hc : n ≤ c) (e : w1 = w.alloc (.cells #[.slice A n c] 28)) :
    Rows w1 w.heap.size (.slice (some ⟨w.heap.size, 0, none⟩) 1 1) [l] ∧ Off w1 (.slice (some ⟨w.heap.size, 0, none⟩) 1 1) A l ∧ Kp w w1 := by
  subst e
  have k : Kp w (w.alloc (.cells #[.slice A n c] 28)) := (Kp.rfl' w).new _
  have off : Off (w.alloc (.cells #[.slice A n c] 28)) (.slice (some ⟨w.heap.size, 0, none⟩) 1 1) A l := fun i hi => by
    obtain ⟨ad, e, a, c'⟩ := hl i hi
    obtain ⟨ad', e2, a2, c2⟩ := (hl.keep k) i hi
    rw [e] at e2
    obtain rfl := Option.some.inj e2
    exact ⟨ad, e, a2, fun e' => by have e' : some w.heap.size = some ad.block := e'; injection e' with e'; omega, c2⟩
  refine ⟨⟨fun _ => .slice A n c, ?_, fun i hi => ?_⟩, off, k⟩
  · exact ⟨by simp, .inr ⟨w.heap.size, 1, _, rfl, Nat.le_refl _, heap_alloc_new w _, Nat.le_refl _, by unfold maxLen; omega, by simp, by simp⟩⟩
  · have : i = 0 := by simpa using hi
    subst this
    exact ⟨A, c, by show Value.slice A n c = .slice A l.length c; rw [hn], by show l.length ≤ c; omega, off⟩

section
variable {ops : Array Oper} {rest : List Oper} {o : Oper} {a : Act} {w : World} {K : Act → World → Prop} {Q : Exit → Act → World → Prop}
/-- out = append(out, row). -/
theorem wpList_pushR (hgd : o.guard = Option.none) (s x : Operand) (ho : o.op = .call { callee := .builtin .append, args := #[s, x], argTypes := #[22, 22] })
    (B : Nat) (v : Value) (C : List (List Int)) (A : Option Addr) (l : List Int) (n c gb cb : Nat) (hn : l.length = n) (hc : n ≤ c) (hs : a.eval s = v) (hx : a.eval x = .slice (some ⟨gb, 0, none⟩) 1 cb) (hown : Rows w B v C)
    (hcell : w.cell? ⟨gb, 0, none⟩ = some (.slice A n c)) (hoff : Off w v A l) (hlen : C.length + 1 ≤ 1000000) (hB : B ≤ w.heap.size)
    (h : ∀ v' w', Rows w' B v' (C ++ [l]) → w.grownBy w' v.ownBlock → At w v v' → (∀ w0 : World, w0.heap.size ≤ B → Kp w0 w → Kp w0 w') → wpList Tryd.prog ops Q rest (a.put o.dst v') w') : wpList Tryd.prog ops Q (o :: rest) a w := by
  obtain ⟨i0, hi, hz0, hz1, hz2⟩ := info_parts ints_info
  obtain ⟨H, ht, hr⟩ := hown.top
  obtain ⟨v', w', hrun, h1, h2, _, h3⟩ := run_append_own_at (P := Tryd.prog) w B 22 o.type 28 i0 (.slice Option.none 0 0) 1 24 Tryd.underlying22 hi hz0 hz1 hz2 rfl (by decide) v C.length ((List.range C.length).map H) ht ⟨gb, 0, Option.none⟩ 1 cb [.slice A n c] rfl
    (fun j u' hj => by
      match j, hj with
      | 0, hj => simp at hj; subst hj; rw [add_at]; exact hcell) (fun u' hu' => by simp at hu'; subst hu'; rfl) (by unfold maxLen; omega) (by omega) hB
  refine wpList_plain hgd fun _ hK => ?_
  unfold Oper.wp execOp
  simp only [ho, resolve, invoke, builtin, Sem.run_bind, Sem.run_pure, Result.andThen_ok, List.map_toArray, List.map_cons, List.map_nil, hs, hx, hrun]
  refine hK _ _ (h v' w' ⟨fun i => if i = C.length then .slice A n c else H i, ?_, fun i hi => ?_⟩ h2 h3 fun w0 hw0 hk0 => Below.grown hk0 h2 hk0.size fun k hk => Nat.le_trans hw0 (World.ownsRow.lt ht k hk).1)
  · have e1 : (List.range C.length).map (fun i => if i = C.length then Value.slice A n c else H i) = (List.range C.length).map H := List.map_congr_left fun i hi => by
      have := List.mem_range.1 hi
      rw [if_neg (by omega)]
    have e2 : (List.range (C.length + 1)).map (fun i => if i = C.length then Value.slice A n c else H i) = (List.range C.length).map H ++ [.slice A n c] := by
      rw [List.range_succ, List.map_append, e1, List.map_singleton, if_pos rfl]
    rw [List.length_append, List.length_singleton]
    unfold HdsV
    rw [e2]
    exact h1
  · rw [List.length_append, List.length_singleton] at hi
    by_cases e : i = C.length
    · subst e
      rw [show (C ++ [l]).getD C.length [] = l by simp]
      exact ⟨A, c, by show (if C.length = C.length then Value.slice A n c else H C.length) = _; rw [if_pos rfl, hn], by omega, hoff.push h2 h3⟩
    · have hi' : i < C.length := by omega
      rw [show (C ++ [l]).getD i [] = C.getD i [] by
        rw [List.getD_eq_getElem?_getD, List.getD_eq_getElem?_getD, List.getElem?_append_left hi']]
      obtain ⟨A', c', e', hc', ho'⟩ := hr i hi'
      exact ⟨A', c', by show (if i = C.length then Value.slice A n c else H i) = _; rw [if_neg e]; exact e', hc', ho'.push h2 h3⟩
end
theorem Rows.own {w : World} {B : Nat} {v : Value} {C : List (List Int)} (h : Rows w B v C) (h0 : C ≠ []) : ∃ g, v.ownBlock = some g ∧ B ≤ g ∧ g < w.heap.size := by
  obtain ⟨H, h1, h2⟩ := h.top
  have hp := List.length_pos_iff.2 h0
  rcases h1.2 with ⟨_, h3⟩ | ⟨g, cap, cur, e, _⟩
  · have h3 : C.length = 0 := h3
    omega
  · exact ⟨g, by rw [e]; rfl, World.ownsRow.lt h1 g (by rw [e]; rfl)⟩

/-- Rows beneath heads of the call's own, each apart from what two slices own. -/
def Hd1 (w : World) (B : Nat) (u v : Value) (C : List (List Int)) : Prop :=
  ∃ H : Nat → Value, HdsV w B u C.length H ∧ ∀ i, i < C.length → ∃ A c, H i = .slice A (C.getD i []).length c ∧ (C.getD i []).length ≤ c ∧ Off w u A (C.getD i []) ∧ Off w v A (C.getD i [])
/-- Two lists of rows that grow side by side. -/
structure Rows2 (w : World) (B : Nat) (u v : Value) (C D : List (List Int)) : Prop where
  one : Hd1 w B u v C
  two : Hd1 w B v u D
  apart : ∀ g, u.ownBlock = some g → v.ownBlock ≠ some g
theorem Rows2.symm {w : World} {B : Nat} {u v : Value} {C D : List (List Int)} (h : Rows2 w B u v C D) : Rows2 w B v u D C := ⟨h.two, h.one, fun g h1 h2 => h.apart g h2 h1⟩
theorem hd1_none (w : World) (B : Nat) (u v : Value) (h : u = .slice none 0 0) : Hd1 w B u v [] := by
  subst h
  exact ⟨fun _ => .nilIface, hdsV_none _ _ _, fun i hi => absurd hi (by simp)⟩
theorem rows2_none (w : World) (B : Nat) : Rows2 w B (.slice none 0 0) (.slice none 0 0) [] [] := ⟨hd1_none _ _ _ _ rfl, hd1_none _ _ _ _ rfl, fun g h => by cases h⟩
theorem Hd1.keep {w w' : World} {B : Nat} {u v : Value} {C : List (List Int)} (h : Hd1 w B u v C) (hk : Kp w w') : Hd1 w' B u v C := by
  obtain ⟨H, h1, h2⟩ := h
  refine ⟨H, h1.kp hk, fun i hi => ?_⟩
  obtain ⟨A, c, e, hc, o1, o2⟩ := h2 i hi
  exact ⟨A, c, e, hc, o1.keep hk, o2.keep hk⟩
theorem Rows2.keep {w w' : World} {B : Nat} {u v : Value} {C D : List (List Int)} (h : Rows2 w B u v C D) (hk : Kp w w') : Rows2 w' B u v C D := ⟨h.one.keep hk, h.two.keep hk, h.apart⟩
theorem Rows2.new {w : World} {B : Nat} {u v : Value} {C D : List (List Int)} (h : Rows2 w B u v C D) (o : Obj) : Rows2 (w.alloc o) B u v C D := h.keep ((Kp.rfl' w).new o)
theorem Hd1.lies {w : World} {B : Nat} {u v : Value} {C : List (List Int)} (h : Hd1 w B u v C) : ∃ A c, u = .slice A C.length c ∧ C.length ≤ c ∧ LiesM w A C := by
  obtain ⟨H, h1, h2⟩ := h
  exact h1.lies rfl fun i hi => by
    obtain ⟨A, c, e, hc, ho, _⟩ := h2 i hi
    exact ⟨A, c, e, hc, ho.lies⟩
theorem Hd1.lt {w : World} {B : Nat} {u v : Value} {C : List (List Int)} (h : Hd1 w B u v C) {g : Nat} (hg : u.ownBlock = some g) : B ≤ g ∧ g < w.heap.size := by
  obtain ⟨H, h1, _⟩ := h
  exact World.ownsRow.lt h1 g hg
/-- What came in lies apart. -/
theorem Hd1.old {w0 w : World} {u v : Value} {C : List (List Int)} {A : Option Addr} {l : List Int} (h : Hd1 w w0.heap.size u v C) (hl : Lies w0 A l) (hk : Kp w0 w) : Off w u A l := fun k hk' => by
  obtain ⟨ad, e, a, c⟩ := hl k hk'
  exact ⟨ad, e, Nat.lt_of_lt_of_le a hk.size, fun e' => by have := (h.lt e').1; omega, (hk.cell (p := ad.add k) (by rw [block_add]; omega)).trans c⟩
/-- What is new lies apart. -/
theorem Hd1.fresh {w w' : World} {B : Nat} {u v : Value} {C : List (List Int)} {g : Nat} {l : List Int} (h : Hd1 w B u v C) (hl : Lies w' (some ⟨g, 0, none⟩) l) (hg : w.heap.size ≤ g) : Off w' u (some ⟨g, 0, none⟩) l := fun k hk => by
  obtain ⟨ad, e, a, c⟩ := hl k hk
  obtain rfl := Option.some.inj e
  exact ⟨_, rfl, a, fun e' => by have e' : u.ownBlock = some g := e'; have := (h.lt e').2; omega, c⟩
theorem Off.other {w w' : World} {u v : Value} {A : Option Addr} {l : List Int} (h : Off w v A l) (h' : Off w u A l) (hg : w.grownBy w' u.ownBlock) : Off w' v A l := fun k hk => by
  obtain ⟨ad, e, a, b, c⟩ := h k hk
  obtain ⟨ad', e', _, b', _⟩ := h' k hk
  subst e
  obtain rfl := Option.some.inj e'
  exact ⟨ad, rfl, Nat.lt_of_lt_of_le a hg.size, b, (cell_of_heap (p := ad.add k) (by rw [block_add]; exact hg.block ad.block a fun e => b' e.symm)).trans c⟩

section
variable {ops : Array Oper} {rest : List Oper} {o : Oper} {a : Act} {w : World} {K : Act → World → Prop} {Q : Exit → Act → World → Prop}
/-- out = append(out, row), beside another one. -/
theorem wpList_pushR2 (hgd : o.guard = Option.none) (s x : Operand) (ho : o.op = .call { callee := .builtin .append, args := #[s, x], argTypes := #[22, 22] })
    (B : Nat) (u v : Value) (C D : List (List Int)) (A : Option Addr) (l : List Int) (n c gb cb : Nat) (hn : l.length = n) (hc : n ≤ c) (hs : a.eval s = u) (hx : a.eval x = .slice (some ⟨gb, 0, none⟩) 1 cb) (hown : Rows2 w B u v C D)
    (hcell : w.cell? ⟨gb, 0, none⟩ = some (.slice A n c)) (h1 : Off w u A l) (h2 : Off w v A l) (hlen : C.length + 1 ≤ 1000000) (hB : B ≤ w.heap.size)
    (h : ∀ u' w', Rows2 w' B u' v (C ++ [l]) D → (∀ w0 : World, w0.heap.size ≤ B → Kp w0 w → Kp w0 w') → wpList Tryd.prog ops Q rest (a.put o.dst u') w') : wpList Tryd.prog ops Q (o :: rest) a w := by
  obtain ⟨i0, hi, hz0, hz1, hz2⟩ := info_parts ints_info
  obtain ⟨H, ht, hr⟩ := hown.one
  obtain ⟨E, ht2, hr2⟩ := hown.two
  obtain ⟨u', w', hrun, q1, q2, _, q3⟩ := run_append_own_at (P := Tryd.prog) w B 22 o.type 28 i0 (.slice Option.none 0 0) 1 24 Tryd.underlying22 hi hz0 hz1 hz2 rfl (by decide) u C.length ((List.range C.length).map H) ht ⟨gb, 0, Option.none⟩ 1 cb [.slice A n c] rfl
    (fun j u' hj => by
      match j, hj with
      | 0, hj => simp at hj; subst hj; rw [add_at]; exact hcell) (fun u' hu' => by simp at hu'; subst hu'; rfl) (by unfold maxLen; omega) (by omega) hB
  refine wpList_plain hgd fun _ hK => ?_
  unfold Oper.wp execOp
  simp only [ho, resolve, invoke, builtin, Sem.run_bind, Sem.run_pure, Result.andThen_ok, List.map_toArray, List.map_cons, List.map_nil, hs, hx, hrun]
  refine hK _ _ (h u' w' ⟨⟨fun i => if i = C.length then .slice A n c else H i, ?_, fun i hi => ?_⟩, ⟨E, ?_, fun i hi => ?_⟩, fun g hg hg2 => ?_⟩ fun w0 hw0 hk0 => Below.grown hk0 q2 hk0.size fun k hk => Nat.le_trans hw0 (World.ownsRow.lt ht k hk).1)
  · have e1 : (List.range C.length).map (fun i => if i = C.length then Value.slice A n c else H i) = (List.range C.length).map H := List.map_congr_left fun i hi => by
      have := List.mem_range.1 hi
      rw [if_neg (by omega)]
    have e2 : (List.range (C.length + 1)).map (fun i => if i = C.length then Value.slice A n c else H i) = (List.range C.length).map H ++ [.slice A n c] := by
      rw [List.range_succ, List.map_append, e1, List.map_singleton, if_pos rfl]
    rw [List.length_append, List.length_singleton]
    unfold HdsV
    rw [e2]
    exact q1
  · rw [List.length_append, List.length_singleton] at hi
    by_cases e : i = C.length
    · subst e
      rw [show (C ++ [l]).getD C.length [] = l by simp]
      exact ⟨A, c, by show (if C.length = C.length then Value.slice A n c else H C.length) = _; rw [if_pos rfl, hn], by omega, h1.push q2 q3, h2.other h1 q2⟩
    · have hi' : i < C.length := by omega
      rw [show (C ++ [l]).getD i [] = C.getD i [] by
        rw [List.getD_eq_getElem?_getD, List.getD_eq_getElem?_getD, List.getElem?_append_left hi']]
      obtain ⟨A', c', e', hc', o1, o2⟩ := hr i hi'
      exact ⟨A', c', by show (if i = C.length then Value.slice A n c else H i) = _; rw [if_neg e]; exact e', hc', o1.push q2 q3, o2.other o1 q2⟩
  · refine World.ownsRow.kept ht2 q2 ?_
    cases hv : v.ownBlock with
    | none => exact .inl rfl
    | some g => exact .inr fun e => hown.apart g e.symm hv
  · obtain ⟨A', c', e', hc', o1, o2⟩ := hr2 i hi
    exact ⟨A', c', e', hc', o1.other o2 q2, o2.push q2 q3⟩
  · rcases q3 with q3 | q3
    · rw [q3] at hg; exact hown.apart g hg hg2
    · rw [q3] at hg
      injection hg with hg
      have := (hown.two.lt hg2).2
      omega
end

end Go.Proofs.YtgfhmffkdhfoeaaDoor
