/- Slices of integers that the call itself made: what append leaves. -/
import Derived.Test.YtkebjmapdcbnaaaProg
import Derived.Test.YtkebjmapdcbnaaaMem
import Derived.WalkKit
import Derived.Maps.AppendAt
namespace Go.Proofs.Ytkebjmapdcbnaaa
open Go.RowKit
set_option linter.unusedVariables false

theorem int_info : (Try.prog.info? 3).map (fun i => (i.zero, i.size, i.bytes)) = some (some (.int .i64 0), 1, 8) := by kernel_rfl

/-- The slice value v is the call's own (its block lies from B on) and holds the numbers of l. -/
def Own (w : World) (B : Nat) (v : Value) (l : List Int) : Prop := w.ownsRow B 3 1 v l.length (ints l)

theorem Own.none (w : World) (B : Nat) : Own w B (.slice none 0 0) [] := World.ownsRow_nil _ _ _ _
theorem Own.drewN {w : World} {B : Nat} {v : Value} {l : List Int} (h : Own w B v l) (n : Nat) : Own (w.drewN n) B v l := h
theorem Own.new {w : World} {B : Nat} {v : Value} {l : List Int} (h : Own w B v l) (o : Obj) : Own (w.alloc o) B v l := World.ownsRow.alloc h o
theorem Own.kp {w w' : World} {B : Nat} {v : Value} {l : List Int} (h : Own w B v l) (hk : Kp w w') : Own w' B v l := by
  obtain ⟨h1, h2⟩ := h
  refine ⟨h1, ?_⟩
  rcases h2 with h2 | ⟨g, cap, cur, hv, hg, hh, r⟩
  · exact .inl h2
  · refine .inr ⟨g, cap, cur, hv, hg, ?_, r⟩
    rw [hk.block g ?_]; exact hh
    rcases Nat.lt_or_ge g w.heap.size with hlt | hge
    · exact hlt
    · rw [Array.getElem?_eq_none hge] at hh; cases hh
theorem Own.lies {w : World} {B : Nat} {v : Value} {l : List Int} (h : Own w B v l) : ∃ A c, v = .slice A l.length c ∧ Lies w A l := own_lies h
theorem Own.grown {w w' : World} {B : Nat} {v u : Value} {l : List Int} (h : Own w B v l) (hg : w.grownBy w' u.ownBlock) (hne : v.ownBlock = Option.none ∨ v.ownBlock ≠ u.ownBlock) : Own w' B v l :=
  World.ownsRow.kept h hg hne

/-- Behind an append to a row of the call's own, below the row nothing has turned. -/
theorem own_below {a w w' : World} {B : Nat} {v : Value} {l : List Int} (h : Own w B v l) (ha : Below B a w) (hB : B ≤ w.heap.size) (hg : w.grownBy w' v.ownBlock) : Below B a w' :=
  ha.grown hg hB fun k hk => (World.ownsRow.lt h k hk).1

theorem run_cat_nil (w : World) (B : Nat) (v : Value) (l : List Int) (hown : Own w B v l) (c : Nat) (ty : TypeId) :
    (Builtin.append_ #[32, 32] ty #[v, .slice none 0 c]).run Try.prog w = .ok v w := by
  obtain ⟨i0, hi, hz0, hz1, hz2⟩ := info_parts int_info
  have hu : Try.prog.underlying 32 = some (.slice 3) := Try.underlying32
  rcases hown.2 with ⟨rfl, h0⟩ | ⟨g, cap, cur, rfl, _, _, hnc, _⟩
  · simp [Builtin.append_, run_underlying hu, sizeOf, typeInfo, hi, Builtin.lenOf, Builtin.firstCells]
  · simp [Builtin.append_, run_underlying hu, sizeOf, typeInfo, hi, Builtin.lenOf, Builtin.firstCells, hnc, storeCells]

/-- Where an append leaves its row: in its old block, or in a new one. -/
def At (w : World) (v v' : Value) : Prop := v'.ownBlock = v.ownBlock ∨ v'.ownBlock = some w.heap.size

section
variable {ops : Array Oper} {rest : List Oper} {o : Oper} {a : Act} {w : World} {K : Act → World → Prop} {Q : Exit → Act → World → Prop}

/-- out = append(out, n): at an operation. -/
theorem wp_push (s x : Operand) (ho : o.op = .call { callee := .builtin .append, args := #[s, x], argTypes := #[32, 32] })
    (B : Nat) (v : Value) (l : List Int) (n : Int) (g c : Nat) (hs : a.eval s = v) (hx : a.eval x = .slice (some ⟨g, 0, none⟩) 1 c) (hown : Own w B v l)
    (hc : w.cell? ⟨g, 0, none⟩ = some (.int .i64 n)) (hlen : l.length + 1 ≤ 17000000000000) (hB : B ≤ w.heap.size)
    (h : ∀ v' w', Own w' B v' (l ++ [n]) → w.grownBy w' v.ownBlock → At w v v' → K (a.put o.dst v') w') : o.wp Try.prog a w K Q := by
  obtain ⟨i0, hi, hz0, hz1, hz2⟩ := info_parts int_info
  obtain ⟨v', w', hrun, h1, h2, _, h3⟩ := run_append_own_at (P := Try.prog) w B 32 o.type 3 i0 (.int .i64 0) 1 8 Try.underlying32 hi hz0 hz1 hz2 rfl (by decide) v l.length (ints l) hown ⟨g, 0, none⟩ 1 c [.int .i64 n] rfl
    (fun j u hj => by
      match j, hj with
      | 0, hj => simp at hj; subst hj; rw [add_at]; exact hc) (fun u hu => by simp at hu; subst hu; rfl) (by unfold maxLen; omega) (by omega) hB
  unfold Oper.wp execOp
  simp only [ho, resolve, invoke, builtin, Sem.run_bind, Sem.run_pure, Result.andThen_ok, List.map_toArray, List.map_cons, List.map_nil, hs, hx, hrun]
  refine h v' w' ?_ h2 h3
  unfold Own
  rw [List.length_append, ints, List.map_append]
  exact h1

theorem wpList_push (hgd : o.guard = Option.none) (s x : Operand) (ho : o.op = .call { callee := .builtin .append, args := #[s, x], argTypes := #[32, 32] })
    (B : Nat) (v : Value) (l : List Int) (n : Int) (g c : Nat) (hs : a.eval s = v) (hx : a.eval x = .slice (some ⟨g, 0, none⟩) 1 c) (hown : Own w B v l)
    (hc : w.cell? ⟨g, 0, none⟩ = some (.int .i64 n)) (hlen : l.length + 1 ≤ 17000000000000) (hB : B ≤ w.heap.size)
    (h : ∀ v' w', Own w' B v' (l ++ [n]) → w.grownBy w' v.ownBlock → At w v v' → wpList Try.prog ops Q rest (a.put o.dst v') w') : wpList Try.prog ops Q (o :: rest) a w :=
  wpList_plain hgd fun _ hK => wp_push s x ho B v l n g c hs hx hown hc hlen hB fun v' w' h1 h2 h3 => hK _ _ (h v' w' h1 h2 h3)

theorem step_push {E : Prop} (hgd : o.guard = Option.none) (s x : Operand) (ho : o.op = .call { callee := .builtin .append, args := #[s, x], argTypes := #[32, 32] })
    (B : Nat) (v : Value) (l : List Int) (n : Int) (g c : Nat) (hs : a.eval s = v) (hx : a.eval x = .slice (some ⟨g, 0, none⟩) 1 c) (hown : Own w B v l)
    (hc : w.cell? ⟨g, 0, none⟩ = some (.int .i64 n)) (hlen : l.length + 1 ≤ 17000000000000) (hB : B ≤ w.heap.size)
    (h : ∀ v' w', Own w' B v' (l ++ [n]) → w.grownBy w' v.ownBlock → At w v v' → K (a.put o.dst v') w') :
    if Region.wanted o (yielded ops a.tmps) = true then Oper.wp Try.prog o a w K Q else E := by
  have hw : Region.wanted o (yielded ops a.tmps) = true := by simp [Region.wanted, hgd]
  rw [if_pos hw]
  exact wp_push s x ho B v l n g c hs hx hown hc hlen hB h

set_option maxRecDepth 100000 in
/-- out = append(out, xs...), whatever xs. -/
theorem wp_cat (s x : Operand) (ho : o.op = .call { callee := .builtin .append, args := #[s, x], argTypes := #[32, 32] })
    (B : Nat) (v : Value) (l l2 : List Int) (A : Option Addr) (m c : Nat) (hs : a.eval s = v) (hx : a.eval x = .slice A m c) (hm : m = l2.length) (hown : Own w B v l)
    (hl : Lies w A l2) (hlen : l.length + l2.length ≤ 17000000000000) (hB : B ≤ w.heap.size)
    (h : ∀ v' w', Own w' B v' (l ++ l2) → w.grownBy w' v.ownBlock → At w v v' → K (a.put o.dst v') w') : o.wp Try.prog a w K Q := by
  obtain ⟨i0, hi, hz0, hz1, hz2⟩ := info_parts int_info
  subst hm
  rcases A with _ | ad
  · have e : l2 = [] := by
      rcases Nat.eq_zero_or_pos l2.length with h0 | h0
      · exact List.eq_nil_of_length_eq_zero h0
      · obtain ⟨ad, h, _⟩ := hl 0 h0; cases h
    subst e
    have hrun := run_cat_nil w B v l hown c o.type
    unfold Oper.wp
    simp [execOp, ho, resolve, invoke, builtin, hs, hx, hrun, Result.andThen]
    exact h v w (by simpa using hown) (World.grownBy.refl w _) (.inl rfl)
  · obtain ⟨v', w', hrun, h1, h2, _, h3⟩ := run_append_own_at (P := Try.prog) w B 32 o.type 3 i0 (.int .i64 0) 1 8 Try.underlying32 hi hz0 hz1 hz2 rfl (by decide) v l.length (ints l) hown ad l2.length c (ints l2) (by simp)
      (fun j u hj => by
        have hj' : j < l2.length := by
          rcases Nat.lt_or_ge j l2.length with hlt | hge
          · exact hlt
          · rw [List.getElem?_eq_none (by simpa using hge)] at hj; cases hj
        obtain ⟨ad', e, _, hc⟩ := hl j hj'
        obtain rfl := Option.some.inj e
        rw [hc, ← hj]
        simp [hj']) (fun u hu => by simp at hu; obtain ⟨y, _, rfl⟩ := hu; rfl) (by unfold maxLen; omega) (by omega) hB
    unfold Oper.wp execOp
    simp only [ho, resolve, invoke, builtin, Sem.run_bind, Sem.run_pure, Result.andThen_ok, List.map_toArray, List.map_cons, List.map_nil, hs, hx, hrun]
    refine h v' w' ?_ h2 h3
    unfold Own
    rw [List.length_append, ints, List.map_append]
    exact h1

theorem wpList_cat (hgd : o.guard = Option.none) (s x : Operand) (ho : o.op = .call { callee := .builtin .append, args := #[s, x], argTypes := #[32, 32] })
    (B : Nat) (v : Value) (l l2 : List Int) (A : Option Addr) (m c : Nat) (hs : a.eval s = v) (hx : a.eval x = .slice A m c) (hm : m = l2.length) (hown : Own w B v l)
    (hl : Lies w A l2) (hlen : l.length + l2.length ≤ 17000000000000) (hB : B ≤ w.heap.size)
    (h : ∀ v' w', Own w' B v' (l ++ l2) → w.grownBy w' v.ownBlock → At w v v' → wpList Try.prog ops Q rest (a.put o.dst v') w') : wpList Try.prog ops Q (o :: rest) a w :=
  wpList_plain hgd fun _ hK => wp_cat s x ho B v l l2 A m c hs hx hm hown hl hlen hB fun v' w' h1 h2 h3 => hK _ _ (h v' w' h1 h2 h3)
end

/-- Two rows of the call's own, apart from each other; what was there when w0 stood is as it was. -/
structure Two (w0 : World) (u v : Value) (l m : List Int) (w : World) : Prop where
  one : Own w w0.heap.size u l
  two : Own w w0.heap.size v m
  apart : ∀ g, u.ownBlock = some g → v.ownBlock ≠ some g
  kp : Kp w0 w

theorem Two.symm {w0 : World} {u v : Value} {l m : List Int} {w : World} (h : Two w0 u v l m w) : Two w0 v u m l w :=
  ⟨h.two, h.one, fun g hg hu => h.apart g hu hg, h.kp⟩
theorem Two.drewN {w0 : World} {u v : Value} {l m : List Int} {w : World} (h : Two w0 u v l m w) (n : Nat) : Two w0 u v l m (w.drewN n) := ⟨h.one, h.two, h.apart, h.kp.drewN n⟩
theorem Two.drew {w0 : World} {u v : Value} {l m : List Int} {w : World} (h : Two w0 u v l m w) : Two w0 u v l m w.drew := ⟨h.one, h.two, h.apart, h.kp.drew⟩
theorem Two.new {w0 : World} {u v : Value} {l m : List Int} {w : World} (h : Two w0 u v l m w) (o : Obj) : Two w0 u v l m (w.alloc o) := ⟨h.one.new o, h.two.new o, h.apart, h.kp.new o⟩
/-- An append to the one leaves the other. -/
theorem Two.grown {w0 : World} {u u' v : Value} {l l' m : List Int} {w w' : World} (h : Two w0 u v l m w) (h1 : Own w' w0.heap.size u' l') (hg : w.grownBy w' u.ownBlock) (ha : At w u u') : Two w0 u' v l' m w' := by
  refine ⟨h1, Own.grown h.two hg ?_, ?_, own_below h.one h.kp h.kp.size hg⟩
  · cases hv : v.ownBlock with
    | none => exact .inl rfl
    | some g =>
      right
      intro e
      exact h.apart g e.symm hv
  · intro g hg' hv
    rcases ha with e | e
    · exact h.apart g (by rw [← e]; exact hg') hv
    · have hlt := (World.ownsRow.lt h.two g hv).2
      rw [e] at hg'
      injection hg' with hg'
      omega

/-- A second row, just begun, beside the first. -/
theorem two_start {w0 : World} {u v : Value} {l m : List Int} {w w' : World} (h1 : Own w w0.heap.size u l) (hk : Kp w0 w) (h2 : Own w' w0.heap.size v m) (hg : w.grownBy w' (Value.slice none 0 0).ownBlock) (ha : At w (.slice none 0 0) v) : Two w0 u v l m w' := by
  refine ⟨Own.grown h1 hg ?_, h2, ?_, own_below (Own.none w w0.heap.size) hk hk.size hg⟩
  · cases hu : u.ownBlock with
    | none => exact .inl rfl
    | some g => right; intro e; cases e
  · intro g hu hv
    have hlt := (World.ownsRow.lt h1 g hu).2
    rcases ha with e | e
    · rw [e] at hv; cases hv
    · rw [e] at hv; injection hv with hv; omega

section
variable {ops : Array Oper} {o : Oper} {a : Act} {w : World} {K : Act → World → Prop} {Q : Exit → Act → World → Prop}
/-- An append of one number to one of two rows, at a step of a region that draws. -/
theorem step_two {E : Prop} (hgd : o.guard = Option.none) (s x : Operand) (ho : o.op = .call { callee := .builtin .append, args := #[s, x], argTypes := #[32, 32] })
    (w0 : World) (u v : Value) (l m : List Int) (n : Int) (g c : Nat) (hs : a.eval s = u) (hx : a.eval x = .slice (some ⟨g, 0, none⟩) 1 c) (ht : Two w0 u v l m w)
    (hc : w.cell? ⟨g, 0, none⟩ = some (.int .i64 n)) (hlen : l.length + 1 ≤ 17000000000000)
    (h : ∀ u' w', Two w0 u' v (l ++ [n]) m w' → w.grownBy w' u.ownBlock → K (a.put o.dst u') w') :
    if Region.wanted o (yielded ops a.tmps) = true then Oper.wp Try.prog o a w K Q else E :=
  step_push hgd s x ho w0.heap.size u l n g c hs hx ht.one hc hlen ht.kp.size fun u' w' h1 h2 h3 => h u' w' (ht.grown h1 h2 h3) h2
end
theorem Two.ne {w0 : World} {u v : Value} {l m : List Int} {w : World} (h : Two w0 u v l m w) {p : Addr} (hp : p.block < w0.heap.size) : some p.block ≠ u.ownBlock := fun e => by
  have := (World.ownsRow.lt h.one p.block e.symm).1
  omega
theorem Two.ne' {w0 : World} {u v : Value} {l m : List Int} {w : World} (h : Two w0 u v l m w) {p : Addr} (hp : w.heap.size ≤ p.block) : some p.block ≠ u.ownBlock := fun e => by
  have := (World.ownsRow.lt h.one p.block e.symm).2
  omega

end Go.Proofs.Ytkebjmapdcbnaaa
