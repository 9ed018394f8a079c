/- What stands in memory while package bareiss eliminates: a row of functions of the call's own, each over a row, a list of columns, and the minors. -/
import Derived.Test.YtkebjmapdcbnaaaBaC2
import Derived.Test.YtkebjmapdcbnaaaDeC1
namespace Go.Proofs.Ytkebjmapdcbnaaa
open Go.ChangeShapes Go.WideShapes Go.ChangeAt Go.RowKit
set_option linter.unusedVariables false

theorem func_info : (Try.prog.info? 50).map (fun i => (i.zero, i.size, i.bytes)) = some (some .nilFunc, 1, 8) := by kernel_rfl

/-- The slice value v is the call's own and holds k functions. -/
def FnsV (w : World) (B : Nat) (v : Value) (k : Nat) (H : Nat → Value) : Prop := w.ownsRow B 50 1 v k ((List.range k).map H)
theorem fnsV_none (w : World) (B : Nat) (H : Nat → Value) : FnsV w B (.slice none 0 0) 0 H := World.ownsRow_nil _ _ _ _
theorem FnsV.kp {w w' : World} {B k : Nat} {v : Value} {H : Nat → Value} (h : FnsV w B v k H) (hk : Kp w w') : FnsV w' B v k H := ownsRow_kp h hk
theorem FnsV.form {w : World} {B k : Nat} {v : Value} {H : Nat → Value} (h : FnsV w B v k H) : ∃ A c, v = .slice A k c ∧ k ≤ c ∧ ∀ i, i < k → ∃ ad, A = some ad ∧ ad.block < w.heap.size ∧ w.cell? (ad.add i) = some (H i) := by
  rcases h.2 with ⟨rfl, h0⟩ | ⟨g, cap, cur, hv, hg, hh, hc, hm, hs, ht⟩
  · obtain rfl : k = 0 := h0
    exact ⟨Option.none, 0, rfl, Nat.le_refl _, fun i hi => absurd hi (by omega)⟩
  · refine ⟨_, cap, hv, hc, fun i hi => ⟨_, rfl, ?_, ?_⟩⟩
    · rcases Nat.lt_or_ge g w.heap.size with h' | h'
      · exact h'
      · rw [Array.getElem?_eq_none h'] at hh; cases hh
    · have ht' : cur.toList.take k = (List.range k).map H := by simpa using ht
      rw [add_at, cell_of_row _ _ i _ _ (0, 0) hh, ← Array.getElem?_toList, ← List.getElem?_take_of_lt hi, ht']
      simp [hi]
/-- The block of the functions is no row's of numbers. -/
theorem fns_ne {w : World} {B B' k : Nat} {u v : Value} {H : Nat → Value} {l : List Int} (h : FnsV w B u k H) (hr : Own w B' v l) {g : Nat} (hg : u.ownBlock = some g) : v.ownBlock ≠ some g := fun e => by
  rcases h.2 with ⟨rfl, _⟩ | ⟨g1, cap1, cur1, rfl, _, hh1, _⟩
  · cases hg
  · rcases hr.2 with ⟨rfl, _⟩ | ⟨g2, cap2, cur2, rfl, _, hh2, _⟩
    · cases e
    · have e1 : g1 = g := Option.some.inj hg
      have e2 : g2 = g := Option.some.inj e
      subst e1; subst e2
      rw [hh1] at hh2
      cases hh2

section
variable {ops : Array Oper} {rest : List Oper} {o : Oper} {a : Act} {w : World} {K : Act → World → Prop} {Q : Exit → Act → World → Prop}
/-- out = append(out, function). -/
theorem wpList_pushF (hgd : o.guard = Option.none) (s x : Operand) (ho : o.op = .call { callee := .builtin .append, args := #[s, x], argTypes := #[49, 49] })
    (B : Nat) (v : Value) (k : Nat) (H : Nat → Value) (u : Value) (gb cb : Nat) (hs : a.eval s = v) (hx : a.eval x = .slice (some ⟨gb, 0, none⟩) 1 cb) (hown : FnsV w B v k H)
    (hcell : w.cell? ⟨gb, 0, none⟩ = some u) (hu : u.oneCell' = true) (hlen : k + 1 ≤ 1000000) (hB : B ≤ w.heap.size)
    (h : ∀ v' w', FnsV w' B v' (k + 1) (fun i => if i = k then u else H i) → w.grownBy w' v.ownBlock → At w v v' → wpList Try.prog ops Q rest (a.put o.dst v') w') : wpList Try.prog ops Q (o :: rest) a w := by
  obtain ⟨i0, hi, hz0, hz1, hz2⟩ := info_parts func_info
  obtain ⟨v', w', hrun, h1, h2, _, h3⟩ := run_append_own_at (P := Try.prog) w B 49 o.type 50 i0 .nilFunc 1 8 Try.underlying49 hi hz0 hz1 hz2 rfl (by decide) v k ((List.range k).map H) hown ⟨gb, 0, Option.none⟩ 1 cb [u] rfl
    (fun j u' hj => by
      match j, hj with
      | 0, hj => simp at hj; subst hj; rw [add_at]; exact hcell) (fun u' hu' => by simp at hu'; subst hu'; exact hu) (by unfold maxLen; omega) (by omega) hB
  refine wpList_plain hgd fun _ hK => ?_
  unfold Oper.wp execOp
  simp only [ho, resolve, invoke, builtin, Sem.run_bind, Sem.run_pure, Result.andThen_ok, List.map_toArray, List.map_cons, List.map_nil, hs, hx, hrun]
  refine hK _ _ (h v' w' ?_ h2 h3)
  have e1 : (List.range k).map (fun i => if i = k then u else H i) = (List.range k).map H := List.map_congr_left fun i hi => by
    have := List.mem_range.1 hi
    rw [if_neg (by omega)]
  have e2 : (List.range (k + 1)).map (fun i => if i = k then u else H i) = (List.range k).map H ++ [u] := by
    rw [List.range_succ, List.map_append, e1, List.map_singleton, if_pos rfl]
  unfold FnsV
  rw [e2]
  exact h1
end

/-- A block that none of what is still written lies in. -/
def Free (w : World) (g0 : Nat) (u v : Value) (b : Nat) : Prop := g0 < b ∧ b < w.heap.size ∧ u.ownBlock ≠ some b ∧ v.ownBlock ≠ some b
theorem Free.more {w w' : World} {g0 b : Nat} {u v : Value} (h : Free w g0 u v b) (hs : w.heap.size ≤ w'.heap.size) : Free w' g0 u v b := ⟨h.1, Nat.lt_of_lt_of_le h.2.1 hs, h.2.2⟩
theorem Free.left {w w' : World} {g0 b : Nat} {u u' v : Value} (h : Free w g0 u v b) (hs : w.heap.size ≤ w'.heap.size) (ha : At w u u') : Free w' g0 u' v b :=
  ⟨h.1, Nat.lt_of_lt_of_le h.2.1 hs, by
    rcases ha with e | e
    · rw [e]; exact h.2.2.1
    · rw [e]; intro e2; have := Option.some.inj e2; have := h.2.1; omega, h.2.2.2⟩
theorem Free.right {w w' : World} {g0 b : Nat} {u v v' : Value} (h : Free w g0 u v b) (hs : w.heap.size ≤ w'.heap.size) (ha : At w v v') : Free w' g0 u v' b :=
  ⟨h.1, Nat.lt_of_lt_of_le h.2.1 hs, h.2.2.1, by
    rcases ha with e | e
    · rw [e]; exact h.2.2.2
    · rw [e]; intro e2; have := Option.some.inj e2; have := h.2.1; omega⟩

theorem StepAt.move {w w' : World} {u : Value} {P R L Z n c pv : Nat} {last : Int} {by' : Nat → Int} (h : StepAt w u P R L Z n c pv last by')
    (hk : ∀ (a : Addr) (x : Value), a.block = P ∨ a.block = R ∨ a.block = L ∨ a.block = Z → w.cell? a = some x → w'.cell? a = some x) : StepAt w' u P R L Z n c pv last by' :=
  ⟨h.fn, hk _ _ (.inl rfl) h.piv, hk _ _ (.inr (.inl rfl)) h.row, hk _ _ (.inr (.inr (.inl rfl))) h.last, fun j hj => hk _ _ (.inr (.inr (.inr rfl))) (h.el j hj)⟩
theorem StepAt.keep {w w' : World} {u : Value} {P R L Z n c pv : Nat} {last : Int} {by' : Nat → Int} (h : StepAt w u P R L Z n c pv last by') (hk : Kp w w') : StepAt w' u P R L Z n c pv last by' :=
  h.move fun a x _ hc => (hk.cell (p := a) (cell_lt hc)).trans hc

/-- Step i of an elimination, somewhere free. -/
def StepFree (w : World) (g0 : Nat) (u v : Value) (f : Value) (n : Nat) (x : Nat → Nat → Int) (p : Nat → Nat) (i : Nat) : Prop :=
  ∃ P R L Z c, StepAt w f P R L Z n c (p i) (Zx.lp x p i) (Zx.bd x p i i) ∧ Free w g0 u v P ∧ Free w g0 u v R ∧ Free w g0 u v L ∧ Free w g0 u v Z
theorem StepFree.keep {w w' : World} {g0 : Nat} {u v f : Value} {n : Nat} {x : Nat → Nat → Int} {p : Nat → Nat} {i : Nat} (h : StepFree w g0 u v f n x p i) (hk : Kp w w') : StepFree w' g0 u v f n x p i := by
  obtain ⟨P, R, L, Z, c, h0, h1, h2, h3, h4⟩ := h
  exact ⟨P, R, L, Z, c, h0.keep hk, h1.more hk.size, h2.more hk.size, h3.more hk.size, h4.more hk.size⟩
theorem StepFree.left {w w' : World} {g0 : Nat} {u u' v f : Value} {n : Nat} {x : Nat → Nat → Int} {p : Nat → Nat} {i : Nat} (h : StepFree w g0 u v f n x p i) (hg : w.grownBy w' u.ownBlock) (ha : At w u u') : StepFree w' g0 u' v f n x p i := by
  obtain ⟨P, R, L, Z, c, h0, h1, h2, h3, h4⟩ := h
  refine ⟨P, R, L, Z, c, h0.move fun a x hb hc => hg.cell hc fun e => ?_, h1.left hg.size ha, h2.left hg.size ha, h3.left hg.size ha, h4.left hg.size ha⟩
  rcases hb with b | b | b | b <;> rw [b] at e
  · exact h1.2.2.1 e.symm
  · exact h2.2.2.1 e.symm
  · exact h3.2.2.1 e.symm
  · exact h4.2.2.1 e.symm
theorem StepFree.right {w w' : World} {g0 : Nat} {u v v' f : Value} {n : Nat} {x : Nat → Nat → Int} {p : Nat → Nat} {i : Nat} (h : StepFree w g0 u v f n x p i) (hg : w.grownBy w' v.ownBlock) (ha : At w v v') : StepFree w' g0 u v' f n x p i := by
  obtain ⟨P, R, L, Z, c, h0, h1, h2, h3, h4⟩ := h
  refine ⟨P, R, L, Z, c, h0.move fun a x hb hc => hg.cell hc fun e => ?_, h1.right hg.size ha, h2.right hg.size ha, h3.right hg.size ha, h4.right hg.size ha⟩
  rcases hb with b | b | b | b <;> rw [b] at e
  · exact h1.2.2.2 e.symm
  · exact h2.2.2.2 e.symm
  · exact h3.2.2.2 e.symm
  · exact h4.2.2.2 e.symm
theorem StepFree.upd {w : World} {g0 : Nat} {u v f : Value} {n : Nat} {x : Nat → Nat → Int} {p : Nat → Nat} {i k q : Nat} (h : StepFree w g0 u v f n x p i) (hi : i < k) : StepFree w g0 u v f n x (Zx.upd p k q) i := by
  obtain ⟨P, R, L, Z, c, h0, r⟩ := h
  refine ⟨P, R, L, Z, c, ?_, r⟩
  rw [Zx.upd_lt hi, Zx.lp_upd (by omega), show Zx.bd x (Zx.upd p k q) i i = Zx.bd x p i i from funext fun j => Zx.bd_upd (by omega) i j]
  exact h0

/-- The minors in block g0, the functions, the columns. -/
structure Run (w0 w : World) (g0 : Nat) (u v : Value) (H : Nat → Value) (k : Nat) (pl ml : List Int) (n : Nat) (x : Nat → Nat → Int) (p : Nat → Nat) : Prop where
  kp : Kp w0 w
  b0 : w0.heap.size ≤ g0
  min : Row w g0 ml
  st : FnsV w (g0 + 1) u k H
  pv : Own w (g0 + 1) v pl
  fn : ∀ i, i < k → StepFree w g0 u v (H i) n x p i
theorem Run.keep {w0 w w' : World} {g0 : Nat} {u v : Value} {H : Nat → Value} {k : Nat} {pl ml : List Int} {n : Nat} {x : Nat → Nat → Int} {p : Nat → Nat} (h : Run w0 w g0 u v H k pl ml n x p) (hk : Kp w w') : Run w0 w' g0 u v H k pl ml n x p :=
  ⟨h.kp.trans hk, h.b0, h.min.keep hk, h.st.kp hk, h.pv.kp hk, fun i hi => (h.fn i hi).keep hk⟩
theorem Run.left {w0 w w' : World} {g0 : Nat} {u u' v f : Value} {H : Nat → Value} {k : Nat} {pl ml : List Int} {n : Nat} {x : Nat → Nat → Int} {p : Nat → Nat} {q : Nat} (h : Run w0 w g0 u v H k pl ml n x p)
    (hs : FnsV w' (g0 + 1) u' (k + 1) (fun i => if i = k then f else H i)) (hg : w.grownBy w' u.ownBlock) (ha : At w u u') (hn : StepFree w g0 u v f n x (Zx.upd p k q) k) :
    Run w0 w' g0 u' v (fun i => if i = k then f else H i) (k + 1) pl ml n x (Zx.upd p k q) := by
  refine ⟨h.kp.grown hg h.kp.size fun b hb => ?_, h.b0, ?_, hs, ?_, fun i hi => ?_⟩
  · have := (World.ownsRow.lt h.st b hb).1
    have := h.b0
    omega
  · unfold Row
    rw [hg.block g0 h.min.lt fun e => by have := (World.ownsRow.lt h.st g0 e.symm).1; omega]
    exact h.min
  · refine World.ownsRow.kept h.pv hg ?_
    cases hu : v.ownBlock with
    | none => exact .inl rfl
    | some b => right; intro e; exact fns_ne h.st h.pv e.symm hu
  · by_cases e : i = k
    · rw [e]; simp only [if_true]; exact hn.left hg ha
    · simp only [if_neg e]
      exact ((h.fn i (by omega)).left hg ha).upd (by omega)
theorem Run.right {w0 w w' : World} {g0 : Nat} {u v v' : Value} {H : Nat → Value} {k : Nat} {pl pl' ml : List Int} {n : Nat} {x : Nat → Nat → Int} {p : Nat → Nat} (h : Run w0 w g0 u v H k pl ml n x p)
    (hs : Own w' (g0 + 1) v' pl') (hg : w.grownBy w' v.ownBlock) (ha : At w v v') : Run w0 w' g0 u v' H k pl' ml n x p := by
  refine ⟨h.kp.grown hg h.kp.size fun b hb => ?_, h.b0, ?_, ?_, hs, fun i hi => (h.fn i hi).right hg ha⟩
  · have := (World.ownsRow.lt h.pv b hb).1
    have := h.b0
    omega
  · unfold Row
    rw [hg.block g0 h.min.lt fun e => by have := (World.ownsRow.lt h.pv g0 e.symm).1; omega]
    exact h.min
  · refine World.ownsRow.kept h.st hg ?_
    cases hu : u.ownBlock with
    | none => exact .inl rfl
    | some b => right; intro e; exact fns_ne h.st h.pv hu e.symm
theorem grown_set (w : World) (a : Addr) (x : Value) : w.grownBy (w.setCell a x) (some a.block) :=
  ⟨rfl, rfl, rfl, by simp [World.setCell], fun k _ hn => Below.heap_setCell _ _ _ _ (fun e => hn (by rw [e]))⟩
theorem Run.store {w0 w : World} {g0 : Nat} {u v : Value} {H : Nat → Value} {k : Nat} {pl ml : List Int} {n : Nat} {x : Nat → Nat → Int} {p : Nat → Nat} (h : Run w0 w g0 u v H k pl ml n x p) (i : Nat) (y : Int) :
    Run w0 (w.setCell ⟨g0, i, none⟩ (.int .i64 y)) g0 u v H k pl (ml.set i y) n x p := by
  have hg := grown_set w ⟨g0, i, none⟩ (.int .i64 y)
  refine ⟨h.kp.put (p := ⟨g0, i, none⟩) h.b0 _, h.b0, h.min.put i y, ?_, ?_, fun j hj => ?_⟩
  · refine World.ownsRow.kept h.st hg ?_
    cases hu : u.ownBlock with
    | none => exact .inl rfl
    | some b => right; intro e; have e2 : b = g0 := Option.some.inj e; have := (World.ownsRow.lt h.st b hu).1; omega
  · refine World.ownsRow.kept h.pv hg ?_
    cases hu : v.ownBlock with
    | none => exact .inl rfl
    | some b => right; intro e; have e2 : b = g0 := Option.some.inj e; have := (World.ownsRow.lt h.pv b hu).1; omega
  · obtain ⟨P, R, L, Z, c, h0, h1, h2, h3, h4⟩ := h.fn j hj
    refine ⟨P, R, L, Z, c, h0.move fun a x hb hc => hg.cell hc fun e => ?_, h1.more hg.size, h2.more hg.size, h3.more hg.size, h4.more hg.size⟩
    have e2 : a.block = g0 := Option.some.inj e
    have := h1.1
    have := h2.1
    have := h3.1
    have := h4.1
    omega

theorem Run.free {w0 w w' : World} {g0 : Nat} {u v : Value} {H : Nat → Value} {k : Nat} {pl ml : List Int} {n : Nat} {x : Nat → Nat → Int} {p : Nat → Nat} (h : Run w0 w g0 u v H k pl ml n x p) {b : Nat} (h1 : w.heap.size ≤ b) (h2 : b < w'.heap.size) : Free w' g0 u v b :=
  ⟨Nat.lt_of_lt_of_le h.min.lt h1, h2, fun e => by have := (World.ownsRow.lt h.st b e).2; omega, fun e => by have := (World.ownsRow.lt h.pv b e).2; omega⟩

theorem sign_sp {n : Nat} {s : Nat → Int} {y : Int} (h : Mx.SgnIs (Mx.sp n s) y) : y = Zx.sp n s := by
  refine h.one ⟨Zx.sp_some s, ?_⟩
  unfold Zx.sp Mx.sp
  rw [Zx.dt_ofInt]
  congr 1
  funext i j
  split <;> rfl

end Go.Proofs.Ytkebjmapdcbnaaa
