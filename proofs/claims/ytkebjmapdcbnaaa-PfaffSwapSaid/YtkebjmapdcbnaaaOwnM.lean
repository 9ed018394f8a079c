/- Matrices of the call's own, row by row: what append leaves, and stores into their rows. For all packages. -/
import Derived.Test.YtkebjmapdcbnaaaGrid
namespace Go.Proofs.Ytkebjmapdcbnaaa
open Go.ChangeShapes Go.WideShapes Go.ChangeAt Go.RowKit
set_option linter.unusedVariables false

/-- The heads of the rows of m, row i in block G i with room for C i. -/
def heads (G C : Nat → Nat) (m : List (List Int)) : List Value := (List.range m.length).map fun i => Value.slice (some ⟨G i, 0, none⟩) (m.getD i []).length (C i)
/-- The slice value v is the call's own (from block B on) and holds the rows of m, each the call's own, each apart from the others. -/
structure OwnM (w : World) (B : Nat) (v : Value) (G C : Nat → Nat) (m : List (List Int)) : Prop where
  top : w.ownsRow B 32 1 v m.length (heads G C m)
  row : ∀ i, i < m.length → Own w B (.slice (some ⟨G i, 0, none⟩) (m.getD i []).length (C i)) (m.getD i [])
  apart : ∀ i j, i < m.length → j < m.length → i ≠ j → G i ≠ G j

theorem ownM_none (w : World) (B : Nat) (G C : Nat → Nat) : OwnM w B (.slice none 0 0) G C [] :=
  ⟨World.ownsRow_nil _ _ _ _, fun i hi => absurd hi (by simp), fun i j hi => absurd hi (by simp)⟩
theorem ownsRow_kp {w w' : World} {B n : Nat} {e : TypeId} {v : Value} {xs : List Value} (h : w.ownsRow B e 1 v n xs) (hk : Kp w w') : w'.ownsRow B e 1 v n xs := by
  obtain ⟨h1, h2⟩ := h
  refine ⟨h1, ?_⟩
  rcases h2 with h2 | ⟨g, cap, cur, hv, hg, hh, r⟩
  · exact .inl h2
  · refine .inr ⟨g, cap, cur, hv, hg, ?_, r⟩
    rw [hk.block g ?_]; exact hh
    rcases Nat.lt_or_ge g w.heap.size with hlt | hge
    · exact hlt
    · rw [Array.getElem?_eq_none hge] at hh; cases hh
theorem OwnM.kp {w w' : World} {B : Nat} {v : Value} {G C : Nat → Nat} {m : List (List Int)} (h : OwnM w B v G C m) (hk : Kp w w') : OwnM w' B v G C m :=
  ⟨ownsRow_kp h.top hk, fun i hi => (h.row i hi).kp hk, h.apart⟩
theorem OwnM.lt {w : World} {B : Nat} {v : Value} {G C : Nat → Nat} {m : List (List Int)} (h : OwnM w B v G C m) {i : Nat} (hi : i < m.length) : B ≤ G i ∧ G i < w.heap.size :=
  World.ownsRow.lt (h.row i hi) (G i) rfl
/-- The block of the heads is no row's. -/
theorem top_ne {w : World} {B B' n : Nat} {v : Value} {hs : List Value} {g d c : Nat} {l : List Int} (h : w.ownsRow B 32 1 v n hs) (hr : Own w B' (.slice (some ⟨g, 0, none⟩) d c) l) : (Value.slice (some ⟨g, 0, none⟩) d c).ownBlock ≠ v.ownBlock := fun e => by
  obtain ⟨cur, hh, _⟩ := own_row hr
  rcases h.2 with ⟨rfl, _⟩ | ⟨g', cap, cur', rfl, _, hh', _⟩
  · cases e
  · have e' : g = g' := Option.some.inj e
    subst e'
    rw [hh] at hh'
    cases hh'
theorem OwnM.lies {w : World} {B : Nat} {v : Value} {G C : Nat → Nat} {m : List (List Int)} (h : OwnM w B v G C m) : ∃ A c, v = .slice A m.length c ∧ LiesM w A m ∧ m.length ≤ c := by
  rcases h.top.2 with ⟨rfl, h0⟩ | ⟨g, cap, cur, hv, hg, hh, hc, hm, hs, ht⟩
  · obtain rfl : m = [] := List.eq_nil_of_length_eq_zero h0
    exact ⟨Option.none, 0, rfl, LiesM.empty _ _, Nat.le_refl _⟩
  · refine ⟨_, cap, hv, fun k hk => ?_, hc⟩
    refine ⟨_, some ⟨G k, 0, Option.none⟩, C k, rfl, ?_, ?_, ?_, ?_⟩
    · rcases Nat.lt_or_ge g w.heap.size with h' | h'
      · exact h'
      · rw [Array.getElem?_eq_none h'] at hh; cases hh
    · have ht' : cur.toList.take m.length = heads G C m := by simpa using ht
      rw [add_at, cell_of_row _ _ k _ _ (0, 0) hh, ← Array.getElem?_toList, ← List.getElem?_take_of_lt hk, ht']
      simp [heads, hk]
    · obtain ⟨A, c, e, _, hle⟩ := (h.row k hk).cap
      cases e; exact hle
    · obtain ⟨A, c, e, hl⟩ := (h.row k hk).lies
      cases e; exact hl
theorem heads_snoc (G C : Nat → Nat) (m : List (List Int)) (l : List Int) (g c : Nat) :
    heads (fun i => if i = m.length then g else G i) (fun i => if i = m.length then c else C i) (m ++ [l]) = heads G C m ++ [Value.slice (some ⟨g, 0, none⟩) l.length c] := by
  unfold heads
  rw [List.length_append, List.length_singleton, List.range_succ, List.map_append]
  congr 1
  · refine List.map_congr_left fun i hi => ?_
    have hi' := List.mem_range.1 hi
    have e1 : i ≠ m.length := by omega
    simp [e1, List.getElem?_append_left hi']
  · simp

section
variable {ops : Array Oper} {rest : List Oper} {o : Oper} {a : Act} {w : World} {K : Act → World → Prop} {Q : Exit → Act → World → Prop}
/-- out = append(out, row). -/
theorem wp_pushM (s x : Operand) (ho : o.op = .call { callee := .builtin .append, args := #[s, x], argTypes := #[22, 22] })
    (B : Nat) (v : Value) (G C : Nat → Nat) (m : List (List Int)) (l : List Int) (g n c gb cb : Nat) (hn : l.length = n) (hs : a.eval s = v) (hx : a.eval x = .slice (some ⟨gb, 0, none⟩) 1 cb) (hown : OwnM w B v G C m)
    (hcell : w.cell? ⟨gb, 0, none⟩ = some (.slice (some ⟨g, 0, none⟩) n c)) (hrow : Own w B (.slice (some ⟨g, 0, none⟩) n c) l) (hap : ∀ i, i < m.length → G i ≠ g) (hlen : m.length + 1 ≤ 1000000) (hB : B ≤ w.heap.size)
    (h : ∀ v' w' G' C', OwnM w' B v' G' C' (m ++ [l]) → w.grownBy w' v.ownBlock → K (a.put o.dst v') w') : o.wp Try.prog a w K Q := by
  subst hn
  obtain ⟨i0, hi, hz0, hz1, hz2⟩ := info_parts ints_info
  obtain ⟨v', w', hrun, h1, h2, _, h3⟩ := run_append_own_at (P := Try.prog) w B 22 o.type 32 i0 (.slice Option.none 0 0) 1 24 Try.underlying22 hi hz0 hz1 hz2 rfl (by decide) v m.length (heads G C m) hown.top ⟨gb, 0, Option.none⟩ 1 cb [.slice (some ⟨g, 0, Option.none⟩) l.length c] rfl
    (fun j u hj => by
      match j, hj with
      | 0, hj => simp at hj; subst hj; rw [add_at]; exact hcell) (fun u hu => by simp at hu; subst hu; rfl) (by unfold maxLen; omega) (by omega) hB
  unfold Oper.wp execOp
  simp only [ho, resolve, invoke, builtin, Sem.run_bind, Sem.run_pure, Result.andThen_ok, List.map_toArray, List.map_cons, List.map_nil, hs, hx, hrun]
  refine (h v' w' (fun i => if i = m.length then g else G i) (fun i => if i = m.length then c else C i) ⟨?_, fun i hi => ?_, fun i j hi hj hne => ?_⟩ h2)
  · rw [heads_snoc, List.length_append]; exact h1
  · rw [List.length_append, List.length_singleton] at hi
    by_cases e : i = m.length
    · subst e
      have e2 : (m ++ [l]).getD m.length [] = l := by simp
      simp only [e2, if_true]
      exact hrow.grown h2 (.inr (top_ne hown.top hrow))
    · have hi' : i < m.length := by omega
      have e2 : (m ++ [l]).getD i [] = m.getD i [] := by simp [List.getElem?_append_left hi']
      simp only [if_neg e, e2]
      exact (hown.row i hi').grown h2 (.inr (top_ne hown.top (hown.row i hi')))
  · rw [List.length_append, List.length_singleton] at hi hj
    by_cases e : i = m.length
    · rw [if_pos e, if_neg (by omega)]
      exact fun e' => hap j (by omega) e'.symm
    · rw [if_neg e]
      by_cases e2 : j = m.length
      · rw [if_pos e2]; exact hap i (by omega)
      · rw [if_neg e2]; exact hown.apart i j (by omega) (by omega) hne
theorem wpList_pushM (hgd : o.guard = Option.none) (s x : Operand) (ho : o.op = .call { callee := .builtin .append, args := #[s, x], argTypes := #[22, 22] })
    (B : Nat) (v : Value) (G C : Nat → Nat) (m : List (List Int)) (l : List Int) (g n c gb cb : Nat) (hn : l.length = n) (hs : a.eval s = v) (hx : a.eval x = .slice (some ⟨gb, 0, none⟩) 1 cb) (hown : OwnM w B v G C m)
    (hcell : w.cell? ⟨gb, 0, none⟩ = some (.slice (some ⟨g, 0, none⟩) n c)) (hrow : Own w B (.slice (some ⟨g, 0, none⟩) n c) l) (hap : ∀ i, i < m.length → G i ≠ g) (hlen : m.length + 1 ≤ 1000000) (hB : B ≤ w.heap.size)
    (h : ∀ v' w' G' C', OwnM w' B v' G' C' (m ++ [l]) → (∀ w0 : World, w0.heap.size ≤ B → Kp w0 w → Kp w0 w') → wpList Try.prog ops Q rest (a.put o.dst v') w') : wpList Try.prog ops Q (o :: rest) a w :=
  wpList_plain hgd fun _ hK => wp_pushM s x ho B v G C m l g n c gb cb hn hs hx hown hcell hrow hap hlen hB fun v' w' G' C' h1 h2 => hK _ _ (h v' w' G' C' h1 fun w0 hw0 hk0 => Below.grown hk0 h2 hk0.size fun k hk => Nat.le_trans hw0 (World.ownsRow.lt hown.top k hk).1)
end

theorem cell_made (w : World) (cs : Array Value) (e : TypeId) (g k : Nat) (h : g = w.heap.size) : (w.alloc (.cells cs e)).cell? ⟨g, k, none⟩ = cs[k]? := by
  subst h
  exact cell_of_row _ _ k _ e (0, 0) (heap_alloc_new w _)
theorem size_set (w : World) (a : Addr) (u : Value) : w.heap.size = (w.setCell a u).heap.size := by simp [World.setCell]
theorem Own.from {w : World} {B B' : Nat} {v : Value} {l : List Int} (h : Own w B v l) (hB : B' ≤ B) : Own w B' v l :=
  ⟨h.1, h.2.imp id fun ⟨g, cap, cur, e, hg, r⟩ => ⟨g, cap, cur, e, Nat.le_trans hB hg, r⟩⟩
/-- Cells of a row of such a matrix; a store into one. -/
theorem OwnM.head {w : World} {B : Nat} {G C : Nat → Nat} {m : List (List Int)} {g n cap : Nat} (h : OwnM w B (.slice (some ⟨g, 0, none⟩) n cap) G C m) {i : Nat} (hi : i < m.length) : w.cell? ⟨g, i, none⟩ = some (.slice (some ⟨G i, 0, none⟩) (m.getD i []).length (C i)) := by
  rcases h.top.2 with ⟨e, _⟩ | ⟨g', cap', cur, hv, hg, hh, hc, hm, hs, ht⟩
  · cases e
  · cases hv
    have ht' : cur.toList.take m.length = heads G C m := by simpa using ht
    rw [cell_of_row _ _ i _ _ (0, 0) hh, ← Array.getElem?_toList, ← List.getElem?_take_of_lt hi, ht']
    simp [heads, hi]
theorem OwnM.el {w : World} {B : Nat} {v : Value} {G C : Nat → Nat} {m : List (List Int)} (h : OwnM w B v G C m) {i : Nat} (hi : i < m.length) {j : Nat} (hj : j < (m.getD i []).length) : w.cell? ⟨G i, j, none⟩ = some (.int .i64 ((m.getD i []).getD j 0)) :=
  own_cell (h.row i hi) j hj
theorem OwnM.free {w : World} {B : Nat} {v : Value} {G C : Nat → Nat} {m : List (List Int)} (h : OwnM w B v G C m) {i : Nat} (hi : i < m.length) (j : Nat) : w.frozen? ⟨G i, j, none⟩ = false :=
  own_free (h.row i hi) j
theorem own_store {w : World} {B g n c : Nat} {l : List Int} (h : Own w B (.slice (some ⟨g, 0, none⟩) n c) l) {a : Addr} (ha : g ≠ a.block) (u : Value) : Own (w.setCell a u) B (.slice (some ⟨g, 0, none⟩) n c) l := by
  rcases h.2 with ⟨h0, _⟩ | ⟨g', cap, cur, e, hg, hh, r⟩
  · cases h0
  · cases e
    exact ⟨h.1, .inr ⟨g, c, cur, rfl, hg, by rw [heap_setCell_other w a g u ha]; exact hh, r⟩⟩
theorem OwnM.put {w : World} {B : Nat} {v : Value} {G C : Nat → Nat} {r c : Nat} {f : Nat → Nat → Int} (h : OwnM w B v G C (Mx.tab r c f)) {i : Nat} (hi : i < r) (j : Nat) (x : Int) :
    OwnM (w.setCell ⟨G i, j, none⟩ (.int .i64 x)) B v G C (Mx.tab r c fun a b => if a = i ∧ b = j then x else f a b) := by
  have hl := Mx.len_tab r c f
  have hl' := Mx.len_tab r c fun a b => if a = i ∧ b = j then x else f a b
  have hri := h.row i (by rw [hl]; exact hi)
  refine ⟨?_, fun k hk => ?_, fun a b ha hb => h.apart a b (by omega) (by omega)⟩
  · have hh : heads G C (Mx.tab r c fun a b => if a = i ∧ b = j then x else f a b) = heads G C (Mx.tab r c f) := by
      unfold heads
      rw [hl, hl']
      refine List.map_congr_left fun k hk => ?_
      have := List.mem_range.1 hk
      rw [Mx.tab_len _ _ _ _ this, Mx.tab_len _ _ _ _ this]
    rw [hh, hl']
    have ht := h.top
    have hne := top_ne h.top hri
    rw [hl] at ht
    rcases ht.2 with ⟨h1, h2⟩ | ⟨g, cap, cur, e, hg, hh, rr⟩
    · exact ⟨ht.1, .inl ⟨h1, h2⟩⟩
    · refine ⟨ht.1, .inr ⟨g, cap, cur, e, hg, ?_, rr⟩⟩
      rw [heap_setCell_other w _ g _ (by
        show g ≠ G i
        intro e2
        apply hne
        rw [e]
        show some (G i) = some g
        rw [e2])]
      exact hh
  · rw [hl'] at hk
    rw [Mx.tab_at _ _ _ _ hk, Mx.len_row]
    have hk0 := h.row k (by omega)
    rw [Mx.tab_at _ _ _ _ hk, Mx.len_row] at hk0
    by_cases e : k = i
    · subst e
      have := own_put hk0 j x
      rw [Mx.row_set] at this
      rw [show (fun b => if k = k ∧ b = j then x else f k b) = fun b => if b = j then x else f k b by funext b; simp]
      exact this
    · rw [show (fun b => if k = i ∧ b = j then x else f k b) = f k by funext b; simp [e]]
      exact own_store hk0 (by show G k ≠ G i; exact h.apart k i (by omega) (by omega) e) _
theorem OwnM.ext {w : World} {B : Nat} {v : Value} {G C : Nat → Nat} {r c : Nat} {f f' : Nat → Nat → Int} (h : OwnM w B v G C (Mx.tab r c f)) (e : ∀ i j, i < r → j < c → f i j = f' i j) : OwnM w B v G C (Mx.tab r c f') := by
  rw [← Mx.tab_ext e]; exact h
theorem OwnM.drewN {w : World} {B : Nat} {v : Value} {G C : Nat → Nat} {m : List (List Int)} (h : OwnM w B v G C m) (n : Nat) : OwnM (w.drewN n) B v G C m := h.kp ((Kp.rfl' w).drewN n)
theorem OwnM.new {w : World} {B : Nat} {v : Value} {G C : Nat → Nat} {m : List (List Int)} (h : OwnM w B v G C m) (o : Obj) : OwnM (w.alloc o) B v G C m := h.kp ((Kp.rfl' w).new o)
end Go.Proofs.Ytkebjmapdcbnaaa
