/- What stands in memory while package lu hands its lines out: the lines, an order, and two rows of heads, each of the call's own. -/
import Derived.Test.YtdkdpklohfdpmaaDoorLuC3
import Derived.Test.YtdkdpklohfdpmaaDoorHdsV
namespace Go.Proofs.YtdkdpklohfdpmaaDoor
open Go.ChangeShapes Go.WideShapes Go.ChangeAt Go.RowKit
set_option linter.unusedVariables false

theorem own_under {w w' : World} {B B2 z d c : Nat} {l : List Int} (h : Own w B (.slice (some ⟨z, 0, none⟩) d c) l) (hz : z < B2) (hb : Below B2 w w') : Own w' B (.slice (some ⟨z, 0, none⟩) d c) l := by
  obtain ⟨h1, h2⟩ := h
  refine ⟨h1, ?_⟩
  rcases h2 with h2 | ⟨g', cap, cur, hv, hg, hh, r⟩
  · exact .inl h2
  · refine .inr ⟨g', cap, cur, hv, hg, ?_, r⟩
    cases hv
    rw [hb.block z hz]; exact hh
theorem Lin.under {w w' : World} {B B2 g n : Nat} {s : Nat → Nat} {L C U D : Nat → Nat} {l u : Nat → Nat → Int} (h : Lin w B g n s L C U D l u) (hb : Below B2 w w') (hg : g < B2) (hl : ∀ i, i < n → L i < B2 ∧ U i < B2) : Lin w' B g n s L C U D l u :=
  ⟨h.hB, h.top.block (hb.block g hg), fun i hi => own_under (h.low i hi) (hl i hi).1 hb, fun i hi => own_under (h.up i hi) (hl i hi).2 hb, h.la, h.ua, h.lu⟩
/-- The block of heads is no row's of numbers. -/
theorem hds_ne {w : World} {B B' k : Nat} {u v : Value} {H : Nat → Value} {l : List Int} (h : HdsV w B u k H) (hr : Own w B' v l) {g : Nat} (hg : u.ownBlock = some g) : v.ownBlock ≠ some g := fun e => by
  rcases h.2 with ⟨rfl, _⟩ | ⟨g1, cap1, cur1, rfl, _, hh1, _⟩
  · cases hg
  · rcases hr.2 with ⟨rfl, _⟩ | ⟨g2, cap2, cur2, rfl, _, hh2, _⟩
    · cases e
    · have e1 : g1 = g := Option.some.inj hg
      have e2 : g2 = g := Option.some.inj e
      subst e1; subst e2
      rw [hh1] at hh2
      cases hh2
theorem hds_far {w : World} {B k : Nat} {u : Value} {H : Nat → Value} (h : HdsV w B u k H) {b : Nat} (hb : u.ownBlock = some b) : B ≤ b ∧ b < w.heap.size := World.ownsRow.lt h b hb
theorem hds_ext {w : World} {B k : Nat} {u : Value} {H H' : Nat → Value} (h : HdsV w B u k H) (e : ∀ i, i < k → H i = H' i) : HdsV w B u k H' := by
  unfold HdsV at h ⊢
  rw [← List.map_congr_left (f := H) (g := H') fun i hi => e i (List.mem_range.1 hi)]
  exact h
theorem set_grown (w : World) (a : Addr) (x : Value) : w.grownBy (w.setCell a x) (some a.block) :=
  ⟨rfl, rfl, rfl, by simp [World.setCell], fun k _ hn => Below.heap_setCell _ _ _ _ (fun e => hn (by rw [e]))⟩

section
variable {ops : Array Oper} {rest : List Oper} {o : Oper} {a : Act} {w : World} {K : Act → World → Prop} {Q : Exit → Act → World → Prop}
/-- out = append(out, head), with what else is kept. -/
theorem wpList_pushH (hgd : o.guard = Option.none) (s x : Operand) (ho : o.op = .call { callee := .builtin .append, args := #[s, x], argTypes := #[22, 22] })
    (B : Nat) (v : Value) (k : Nat) (H : Nat → Value) (u : Value) (gb cb : Nat) (hs : a.eval s = v) (hx : a.eval x = .slice (some ⟨gb, 0, none⟩) 1 cb) (hown : HdsV w B v k H)
    (hcell : w.cell? ⟨gb, 0, none⟩ = some u) (hu : u.oneCell' = true) (hH : H k = u) (hlen : k + 1 ≤ 1000000) (hB : B ≤ w.heap.size)
    (h : ∀ v' w', HdsV w' B v' (k + 1) H → w.grownBy w' v.ownBlock → At w v v' → wpList Tryd.prog ops Q rest (a.put o.dst v') w') : wpList Tryd.prog ops Q (o :: rest) a w := by
  obtain ⟨i0, hi, hz0, hz1, hz2⟩ := info_parts ints_info
  obtain ⟨v', w', hrun, h1, h2, _, h3⟩ := run_append_own_at (P := Tryd.prog) w B 22 o.type 24 i0 (.slice Option.none 0 0) 1 24 Tryd.underlying22 hi hz0 hz1 hz2 rfl (by decide) v k ((List.range k).map H) hown ⟨gb, 0, Option.none⟩ 1 cb [u] rfl
    (fun j u' hj => by
      match j, hj with
      | 0, hj => simp at hj; subst hj; rw [add_at]; exact hcell) (fun u' hu' => by simp at hu'; subst hu'; exact hu) (by unfold maxLen; omega) (by omega) hB
  refine wpList_plain hgd fun _ hK => ?_
  unfold Oper.wp execOp
  simp only [ho, resolve, invoke, builtin, Sem.run_bind, Sem.run_pure, Result.andThen_ok, List.map_toArray, List.map_cons, List.map_nil, hs, hx, hrun]
  refine hK _ _ (h v' w' ?_ h2 h3)
  unfold HdsV
  rw [List.range_succ, List.map_append, List.map_singleton, hH]
  exact h1
end

/-- The lines; the order so far; the heads of the factors' rows and of those of what is left. -/
structure Out3 (a w : World) (B B2 g n : Nat) (s : Nat → Nat) (L C U D : Nat → Nat) (l u : Nat → Nat → Int) (vo : Value) (lo : List Int) (vl : Value) (kl : Nat) (vu : Value) (ku : Nat) : Prop where
  kp : Kp a w
  hB : a.heap.size ≤ B
  hB2 : a.heap.size ≤ B2 ∧ B2 ≤ w.heap.size
  lin : Lin w B g n s L C U D l u
  lt : g < B2 ∧ ∀ i, i < n → L i < B2 ∧ U i < B2
  o : Own w B2 vo lo
  hl : HdsV w B2 vl kl (fun i => .slice (some ⟨L i, 0, none⟩) n (C i))
  hu : HdsV w B2 vu ku (fun i => .slice (some ⟨U i, 0, none⟩) n (D i))
  ne : vl.ownBlock = none ∨ vl.ownBlock ≠ vu.ownBlock
section
variable {a w w' : World} {B B2 g n : Nat} {s : Nat → Nat} {L C U D : Nat → Nat} {l u : Nat → Nat → Int} {vo vl vu : Value} {lo : List Int} {kl ku : Nat}
theorem Out3.keep (h : Out3 a w B B2 g n s L C U D l u vo lo vl kl vu ku) (hk : Kp w w') : Out3 a w' B B2 g n s L C U D l u vo lo vl kl vu ku :=
  ⟨h.kp.trans hk, h.hB, ⟨h.hB2.1, Nat.le_trans h.hB2.2 hk.size⟩, h.lin.keep hk, h.lt, h.o.kp hk, h.hl.kp hk, h.hu.kp hk, h.ne⟩
theorem Out3.ext {l' : Nat → Nat → Int} (h : Out3 a w B B2 g n s L C U D l u vo lo vl kl vu ku) (e : ∀ i j, i < n → j < n → l i j = l' i j) : Out3 a w B B2 g n s L C U D l' u vo lo vl kl vu ku :=
  ⟨h.kp, h.hB, h.hB2, h.lin.ext fun i j hi hj => ⟨e i j hi hj, rfl⟩, h.lt, h.o, h.hl, h.hu, h.ne⟩
theorem Out3.put (h : Out3 a w B B2 g n s L C U D l u vo lo vl kl vu ku) {i : Nat} (hi : i < n) (j : Nat) (x : Int) :
    Out3 a (w.setCell ⟨L i, j, none⟩ (.int .i64 x)) B B2 g n s L C U D (fun p q => if p = i ∧ q = j then x else l p q) u vo lo vl kl vu ku := by
  have hL := (h.lt.2 i hi).1
  have hg := set_grown w ⟨L i, j, none⟩ (.int .i64 x)
  have hk : ∀ (v : Value), (∀ b, v.ownBlock = some b → B2 ≤ b) → v.ownBlock = none ∨ v.ownBlock ≠ some (L i) := fun v hv => by
    cases e : v.ownBlock with
    | none => exact .inl rfl
    | some b => exact .inr fun e2 => by have e3 : b = L i := Option.some.inj e2; have := hv b e; omega
  refine ⟨h.kp.put (p := ⟨L i, j, none⟩) (Nat.le_trans h.hB (h.lin.lb hi).1) _, h.hB, ⟨h.hB2.1, by rw [← size_set]; exact h.hB2.2⟩, h.lin.put hi j x, h.lt, ?_, ?_, ?_, h.ne⟩
  · exact Own.far h.o (a := ⟨L i, j, none⟩) (fun e => by have h2 : B2 ≤ L i := (World.ownsRow.lt h.o (L i) e).1; omega) _
  · exact World.ownsRow.kept h.hl hg (hk vl fun b hb => (hds_far h.hl hb).1)
  · exact World.ownsRow.kept h.hu hg (hk vu fun b hb => (hds_far h.hu hb).1)
theorem Out3.pushO {vo' : Value} {lo' : List Int} (h : Out3 a w B B2 g n s L C U D l u vo lo vl kl vu ku) (h1 : Own w' B2 vo' lo') (hg : w.grownBy w' vo.ownBlock) :
    Out3 a w' B B2 g n s L C U D l u vo' lo' vl kl vu ku := by
  have hb : Below B2 w w' := (Below.refl B2 w).grown hg h.hB2.2 fun b hb => (World.ownsRow.lt h.o b hb).1
  have hk : ∀ (v : Value) (k : Nat) (H : Nat → Value), HdsV w B2 v k H → v.ownBlock = none ∨ v.ownBlock ≠ vo.ownBlock := fun v k H hv => by
    cases e : v.ownBlock with
    | none => exact .inl rfl
    | some b => exact .inr fun e2 => hds_ne hv h.o e e2.symm
  exact ⟨h.kp.grown hg h.kp.size fun b hb => Nat.le_trans h.hB2.1 (World.ownsRow.lt h.o b hb).1, h.hB, ⟨h.hB2.1, Nat.le_trans h.hB2.2 hg.size⟩, h.lin.under hb h.lt.1 h.lt.2, h.lt, h1,
    World.ownsRow.kept h.hl hg (hk _ _ _ h.hl), World.ownsRow.kept h.hu hg (hk _ _ _ h.hu), h.ne⟩
theorem own_hds {w : World} {B B' k : Nat} {u v : Value} {H : Nat → Value} {l : List Int} (h : HdsV w B u k H) (hr : Own w B' v l) : v.ownBlock = none ∨ v.ownBlock ≠ u.ownBlock := by
  cases e : v.ownBlock with
  | none => exact .inl rfl
  | some b => exact .inr fun e2 => hds_ne h hr e2.symm e
theorem Out3.pushL {vl' : Value} {kl' : Nat} (h : Out3 a w B B2 g n s L C U D l u vo lo vl kl vu ku) (h1 : HdsV w' B2 vl' kl' (fun i => .slice (some ⟨L i, 0, none⟩) n (C i))) (hg : w.grownBy w' vl.ownBlock) (ha : At w vl vl') :
    Out3 a w' B B2 g n s L C U D l u vo lo vl' kl' vu ku := by
  have hb : Below B2 w w' := (Below.refl B2 w).grown hg h.hB2.2 fun b hb => (hds_far h.hl hb).1
  refine ⟨h.kp.grown hg h.kp.size fun b hb => Nat.le_trans h.hB2.1 (hds_far h.hl hb).1, h.hB, ⟨h.hB2.1, Nat.le_trans h.hB2.2 hg.size⟩, h.lin.under hb h.lt.1 h.lt.2, h.lt, h.o.grown hg (own_hds h.hl h.o), h1,
    World.ownsRow.kept h.hu hg ?_, ?_⟩
  · cases e : vu.ownBlock with
    | none => exact .inl rfl
    | some b =>
      rcases h.ne with e2 | e2
      · rw [e2]; exact .inr (by simp)
      · exact .inr fun e3 => e2 (e3.symm.trans e.symm)
  · rcases ha with e | e
    · rw [e]; exact h.ne
    · rw [e]
      exact .inr fun e2 => by have := (hds_far h.hu e2.symm).2; omega
theorem Out3.pushU {vu' : Value} {ku' : Nat} (h : Out3 a w B B2 g n s L C U D l u vo lo vl kl vu ku) (h1 : HdsV w' B2 vu' ku' (fun i => .slice (some ⟨U i, 0, none⟩) n (D i))) (hg : w.grownBy w' vu.ownBlock) (ha : At w vu vu') :
    Out3 a w' B B2 g n s L C U D l u vo lo vl kl vu' ku' := by
  have hb : Below B2 w w' := (Below.refl B2 w).grown hg h.hB2.2 fun b hb => (hds_far h.hu hb).1
  refine ⟨h.kp.grown hg h.kp.size fun b hb => Nat.le_trans h.hB2.1 (hds_far h.hu hb).1, h.hB, ⟨h.hB2.1, Nat.le_trans h.hB2.2 hg.size⟩, h.lin.under hb h.lt.1 h.lt.2, h.lt, h.o.grown hg (own_hds h.hu h.o),
    World.ownsRow.kept h.hl hg h.ne, h1, ?_⟩
  cases e : vl.ownBlock with
  | none => exact .inl rfl
  | some b =>
    rcases ha with e2 | e2
    · rw [e2, ← e]
      rcases h.ne with e3 | e3
      · rw [e3] at e; cases e
      · exact .inr e3
    · rw [e2]
      exact .inr fun e3 => by have e4 : b = w.heap.size := Option.some.inj e3; have := (hds_far h.hl e).2; omega
end
/-- A line in a block of its own. -/
structure Bx (w : World) (q : Nat) (x y z : Value) : Prop where
  c0 : w.cell? ⟨q, 0, none⟩ = some x
  c1 : w.cell? ⟨q, 1, none⟩ = some y
  c2 : w.cell? ⟨q, 2, none⟩ = some z
theorem Bx.keep {w w' : World} {q : Nat} {x y z : Value} (h : Bx w q x y z) (hk : Kp w w') : Bx w' q x y z :=
  ⟨(hk.cell (p := ⟨q, 0, none⟩) (cell_lt h.c0)).trans h.c0, (hk.cell (p := ⟨q, 1, none⟩) (cell_lt h.c1)).trans h.c1, (hk.cell (p := ⟨q, 2, none⟩) (cell_lt h.c2)).trans h.c2⟩
theorem Bx.grown {w w' : World} {q : Nat} {x y z : Value} {r : Option Nat} (h : Bx w q x y z) (hg : w.grownBy w' r) (hn : some q ≠ r) : Bx w' q x y z := ⟨hg.cell h.c0 hn, hg.cell h.c1 hn, hg.cell h.c2 hn⟩

end Go.Proofs.YtdkdpklohfdpmaaDoor
