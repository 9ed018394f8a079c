/- What stands in memory while the document's answer of package lu eliminates: two matrices and an order, each of the call's own. -/
import Derived.Test.YtdkdpklohfdpmaaDoorMatU
import Derived.Test.YtdkdpklohfdpmaaDoorOwnH
import Derived.Test.YtdkdpklohfdpmaaDoorHdsV
namespace Go.Proofs.YtdkdpklohfdpmaaDoor
open Go.ChangeShapes Go.WideShapes Go.ChangeAt Go.RowKit
set_option linter.unusedVariables false

theorem ownsRow_at {w w' : World} {B n k : Nat} {e : TypeId} {v : Value} {xs : List Value} (h : w.ownsRow B e k v n xs) (hb : ∀ g, v.ownBlock = some g → w'.heap[g]? = w.heap[g]?) : w'.ownsRow B e k v n xs := by
  obtain ⟨h1, h2⟩ := h
  refine ⟨h1, ?_⟩
  rcases h2 with h2 | ⟨g, cap, cur, hv, hg, hh, r⟩
  · exact .inl h2
  · exact .inr ⟨g, cap, cur, hv, hg, by rw [hb g (by rw [hv]; rfl)]; exact hh, r⟩
theorem ownM_at {w w' : World} {B : Nat} {v : Value} {G C : Nat → Nat} {m : List (List Int)} (h : OwnM w B v G C m) (h1 : ∀ g, v.ownBlock = some g → w'.heap[g]? = w.heap[g]?) (h2 : ∀ i, i < m.length → w'.heap[G i]? = w.heap[G i]?) : OwnM w' B v G C m :=
  ⟨ownsRow_at h.top h1, fun i hi => ownsRow_at (h.row i hi) fun g hg => by cases hg; exact h2 i hi, h.apart⟩
theorem ownsRow_from {w : World} {B B' n k : Nat} {e : TypeId} {v : Value} {xs : List Value} (h : w.ownsRow B e k v n xs) (hB : B' ≤ B) : w.ownsRow B' e k v n xs := by
  obtain ⟨h1, h2⟩ := h
  refine ⟨h1, ?_⟩
  rcases h2 with h2 | ⟨g, cap, cur, hv, hg, r⟩
  · exact .inl h2
  · exact .inr ⟨g, cap, cur, hv, Nat.le_trans hB hg, r⟩
theorem ownM_from {w : World} {B B' : Nat} {v : Value} {G C : Nat → Nat} {m : List (List Int)} (h : OwnM w B v G C m) (hB : B' ≤ B) : OwnM w B' v G C m :=
  ⟨ownsRow_from h.top hB, fun i hi => ownsRow_from (h.row i hi) hB, h.apart⟩
theorem swf {α : Type} (f : Nat → α) (a b : Nat) : (fun i => if i = b then f a else if i = a then f b else f i) = fun i => f (Mx.sw a b i) := by
  funext i
  by_cases e1 : i = b
  · subst e1; rw [if_pos rfl, Mx.sw_right]
  · rw [if_neg e1]
    by_cases e2 : i = a
    · subst e2; rw [if_pos rfl, Mx.sw_left]
    · rw [if_neg e2, Mx.sw_none e2 e1]
/-- Two cells of one block are written. -/
def set2 (w : World) (g a b : Nat) (x y : Value) : World := (w.setCell ⟨g, a, none⟩ x).setCell ⟨g, b, none⟩ y
theorem set2_other (w : World) (g a b : Nat) (x y : Value) {c : Nat} (h : c ≠ g) : (set2 w g a b x y).heap[c]? = w.heap[c]? := by
  unfold set2
  rw [heap_setCell_other _ _ c _ h, heap_setCell_other _ _ c _ h]
theorem set2_kp {a0 w : World} (h : Kp a0 w) {g : Nat} (hg : a0.heap.size ≤ g) (a b : Nat) (x y : Value) : Kp a0 (set2 w g a b x y) := (h.put (p := ⟨g, a, none⟩) hg x).put (p := ⟨g, b, none⟩) hg y
/-- Two heads change places. -/
theorem OwnM.swap {w : World} {B g cap : Nat} {G C : Nat → Nat} {r c : Nat} {f : Nat → Nat → Int} (h : OwnM w B (.slice (some ⟨g, 0, none⟩) r cap) G C (Mx.tab r c f)) {a b : Nat} (ha : a < r) (hb : b < r) :
    OwnM (set2 w g a b (.slice (some ⟨G b, 0, none⟩) c (C b)) (.slice (some ⟨G a, 0, none⟩) c (C a))) B (.slice (some ⟨g, 0, none⟩) r cap) (fun i => G (Mx.sw a b i)) (fun i => C (Mx.sw a b i)) (Mx.tab r c fun i => f (Mx.sw a b i)) := by
  have := ((MatRow.start h).swap ha hb).mat
  rw [swf G a b, swf C a b, swf f a b] at this
  exact this

/-- Both matrices, and the order. -/
structure Tab3 (w : World) (B gu cu gl cl go co n : Nat) (s : Nat → Nat) (L C U D : Nat → Nat) (l u : Nat → Nat → Int) : Prop where
  up : OwnM w B (.slice (some ⟨gu, 0, none⟩) n cu) U D (Mx.tab n n u)
  low : OwnM w B (.slice (some ⟨gl, 0, none⟩) n cl) L C (Mx.tab n n l)
  ord : Own w B (.slice (some ⟨go, 0, none⟩) n co) (Mx.row n fun i => (s i : Int))
  hh : gu ≠ gl
  rr : ∀ i j, i < n → j < n → L i ≠ U j
  lo : ∀ i, i < n → L i ≠ go
  uo : ∀ i, i < n → U i ≠ go
section
variable {w w' : World} {B gu cu gl cl go co n : Nat} {s : Nat → Nat} {L C U D : Nat → Nat} {l u : Nat → Nat → Int}
theorem Tab3.keep (h : Tab3 w B gu cu gl cl go co n s L C U D l u) (hk : Kp w w') : Tab3 w' B gu cu gl cl go co n s L C U D l u :=
  ⟨h.up.kp hk, h.low.kp hk, h.ord.kp hk, h.hh, h.rr, h.lo, h.uo⟩
theorem Tab3.ext {l' u' : Nat → Nat → Int} (h : Tab3 w B gu cu gl cl go co n s L C U D l u) (e : ∀ i j, i < n → j < n → l i j = l' i j ∧ u i j = u' i j) : Tab3 w B gu cu gl cl go co n s L C U D l' u' :=
  ⟨h.up.ext fun i j hi hj => (e i j hi hj).2, h.low.ext fun i j hi hj => (e i j hi hj).1, h.ord, h.hh, h.rr, h.lo, h.uo⟩
theorem Tab3.ug (h : Tab3 w B gu cu gl cl go co n s L C U D l u) {i : Nat} (hi : i < n) : U i ≠ gu := h.up.weak.apartTop hi
theorem Tab3.lg (h : Tab3 w B gu cu gl cl go co n s L C U D l u) {i : Nat} (hi : i < n) : L i ≠ gl := h.low.weak.apartTop hi
theorem Tab3.ul (h : Tab3 w B gu cu gl cl go co n s L C U D l u) {i : Nat} (hi : i < n) : U i ≠ gl := fun e => top_ne h.low.top (h.up.weak.row i hi) (by show some (U i) = some gl; rw [e])
theorem Tab3.lu' (h : Tab3 w B gu cu gl cl go co n s L C U D l u) {i : Nat} (hi : i < n) : L i ≠ gu := fun e => top_ne h.up.top (h.low.weak.row i hi) (by show some (L i) = some gu; rw [e])
theorem Tab3.og (h : Tab3 w B gu cu gl cl go co n s L C U D l u) : go ≠ gu := fun e => top_ne h.up.top h.ord (by show some go = some gu; rw [e])
theorem Tab3.ol (h : Tab3 w B gu cu gl cl go co n s L C U D l u) : go ≠ gl := fun e => top_ne h.low.top h.ord (by show some go = some gl; rw [e])
theorem Tab3.bu (h : Tab3 w B gu cu gl cl go co n s L C U D l u) : B ≤ gu ∧ gu < w.heap.size := World.ownsRow.lt h.up.top gu rfl
theorem Tab3.bl (h : Tab3 w B gu cu gl cl go co n s L C U D l u) : B ≤ gl ∧ gl < w.heap.size := World.ownsRow.lt h.low.top gl rfl
theorem Tab3.bo (h : Tab3 w B gu cu gl cl go co n s L C U D l u) : B ≤ go ∧ go < w.heap.size := World.ownsRow.lt h.ord go rfl
theorem Tab3.swU (h : Tab3 w B gu cu gl cl go co n s L C U D l u) {a b : Nat} (ha : a < n) (hb : b < n) :
    Tab3 (set2 w gu a b (.slice (some ⟨U b, 0, none⟩) n (D b)) (.slice (some ⟨U a, 0, none⟩) n (D a))) B gu cu gl cl go co n s L C (fun i => U (Mx.sw a b i)) (fun i => D (Mx.sw a b i)) l (fun i => u (Mx.sw a b i)) := by
  refine ⟨h.up.swap ha hb, ownM_at h.low (fun g hg => by cases hg; exact set2_other _ _ _ _ _ _ (Ne.symm h.hh)) (fun i hi => ?_), ownsRow_at h.ord (fun g hg => by cases hg; exact set2_other _ _ _ _ _ _ h.og), h.hh, fun i j hi hj => h.rr i _ hi (Mx.sw_lt ha hb hj), h.lo, fun i hi => h.uo _ (Mx.sw_lt ha hb hi)⟩
  rw [Mx.len_tab] at hi
  exact set2_other _ _ _ _ _ _ (h.lu' hi)
theorem Tab3.swL (h : Tab3 w B gu cu gl cl go co n s L C U D l u) {a b : Nat} (ha : a < n) (hb : b < n) :
    Tab3 (set2 w gl a b (.slice (some ⟨L b, 0, none⟩) n (C b)) (.slice (some ⟨L a, 0, none⟩) n (C a))) B gu cu gl cl go co n s (fun i => L (Mx.sw a b i)) (fun i => C (Mx.sw a b i)) U D (fun i => l (Mx.sw a b i)) u := by
  refine ⟨ownM_at h.up (fun g hg => by cases hg; exact set2_other _ _ _ _ _ _ h.hh) (fun i hi => ?_), h.low.swap ha hb, ownsRow_at h.ord (fun g hg => by cases hg; exact set2_other _ _ _ _ _ _ h.ol), h.hh, fun i j hi hj => h.rr _ j (Mx.sw_lt ha hb hi) hj, fun i hi => h.lo _ (Mx.sw_lt ha hb hi), h.uo⟩
  rw [Mx.len_tab] at hi
  exact set2_other _ _ _ _ _ _ (h.ul hi)
theorem Tab3.swO (h : Tab3 w B gu cu gl cl go co n s L C U D l u) {a b : Nat} (ha : a < n) (hb : b < n) :
    Tab3 (set2 w go a b (.int .i64 (s b : Int)) (.int .i64 (s a : Int))) B gu cu gl cl go co n (fun i => s (Mx.sw a b i)) L C U D l u := by
  refine ⟨ownM_at h.up (fun g hg => by cases hg; exact set2_other _ _ _ _ _ _ (Ne.symm h.og)) (fun i hi => ?_), ownM_at h.low (fun g hg => by cases hg; exact set2_other _ _ _ _ _ _ (Ne.symm h.ol)) (fun i hi => ?_), ?_, h.hh, h.rr, h.lo, h.uo⟩
  · rw [Mx.len_tab] at hi
    exact set2_other _ _ _ _ _ _ (h.uo i hi)
  · rw [Mx.len_tab] at hi
    exact set2_other _ _ _ _ _ _ (h.lo i hi)
  · have h1 := own_put h.ord a (s b : Int)
    rw [Mx.row_set] at h1
    have h2 := own_put h1 b (s a : Int)
    rw [Mx.row_set] at h2
    rw [show (Mx.row n fun i => (s (Mx.sw a b i) : Int)) = Mx.row n fun j => if j = b then (s a : Int) else if j = a then (s b : Int) else (s j : Int) from Mx.row_ext fun j _ => (congrFun (swf (fun i => (s i : Int)) a b) j).symm]
    exact h2
theorem Tab3.putU (h : Tab3 w B gu cu gl cl go co n s L C U D l u) {i : Nat} (hi : i < n) (j : Nat) (x : Int) :
    Tab3 (w.setCell ⟨U i, j, none⟩ (.int .i64 x)) B gu cu gl cl go co n s L C U D l (fun p q => if p = i ∧ q = j then x else u p q) := by
  refine ⟨h.up.put hi j x, ownM_at h.low (fun g hg => by cases hg; exact heap_setCell_other _ _ _ _ (Ne.symm (h.ul hi))) (fun p hp => ?_), ownsRow_at h.ord (fun g hg => by cases hg; exact heap_setCell_other _ _ _ _ (Ne.symm (h.uo i hi))), h.hh, h.rr, h.lo, h.uo⟩
  rw [Mx.len_tab] at hp
  exact heap_setCell_other _ _ _ _ (h.rr p i hp hi)
theorem Tab3.putL (h : Tab3 w B gu cu gl cl go co n s L C U D l u) {i : Nat} (hi : i < n) (j : Nat) (x : Int) :
    Tab3 (w.setCell ⟨L i, j, none⟩ (.int .i64 x)) B gu cu gl cl go co n s L C U D (fun p q => if p = i ∧ q = j then x else l p q) u := by
  refine ⟨ownM_at h.up (fun g hg => by cases hg; exact heap_setCell_other _ _ _ _ (Ne.symm (h.lu' hi))) (fun p hp => ?_), h.low.put hi j x, ownsRow_at h.ord (fun g hg => by cases hg; exact heap_setCell_other _ _ _ _ (Ne.symm (h.lo i hi))), h.hh, h.rr, h.lo, h.uo⟩
  rw [Mx.len_tab] at hp
  exact heap_setCell_other _ _ _ _ (Ne.symm (h.rr i p hi hp))
theorem Tab3.lb (h : Tab3 w B gu cu gl cl go co n s L C U D l u) {i : Nat} (hi : i < n) : B ≤ L i := (h.low.weak.lt hi).1
theorem Tab3.ub (h : Tab3 w B gu cu gl cl go co n s L C U D l u) {i : Nat} (hi : i < n) : B ≤ U i := (h.up.weak.lt hi).1
end
/-- The same of what is known of an elimination. -/
def TabT (w : World) (B gu cu gl cl go co n : Nat) (L C U D : Nat → Nat) (t : Mx.Tri) : Prop := Tab3 w B gu cu gl cl go co n t.s L C U D (fun i j => ((t.l i j).val : Int)) (fun i j => ((t.u i j).val : Int))

theorem hdsO {w : World} {B B' k : Nat} {u v : Value} {H : Nat → Value} {l : List Int} (h : HdsV w B u k H) (hr : Own w B' v l) {g : Nat} (hg : u.ownBlock = some g) : v.ownBlock ≠ some g := fun e => by
  rcases h.2 with ⟨rfl, _⟩ | ⟨g1, cap1, cur1, rfl, _, hh1, _⟩
  · cases hg
  · rcases hr.2 with ⟨rfl, _⟩ | ⟨g2, cap2, cur2, rfl, _, hh2, _⟩
    · cases e
    · have e1 : g1 = g := Option.some.inj hg
      have e2 : g2 = g := Option.some.inj e
      subst e1; subst e2
      rw [hh1] at hh2
      cases hh2
section
variable {ops : Array Oper} {rest : List Oper} {o : Oper} {a : Act} {w : World} {K : Act → World → Prop} {Q : Exit → Act → World → Prop}
/-- out = append(out, head), with what else is kept. -/
theorem wpList_pushK (hgd : o.guard = Option.none) (s x : Operand) (ho : o.op = .call { callee := .builtin .append, args := #[s, x], argTypes := #[22, 22] })
    (B : Nat) (v : Value) (k : Nat) (H H' : Nat → Value) (u : Value) (gb cb : Nat) (hs : a.eval s = v) (hx : a.eval x = .slice (some ⟨gb, 0, none⟩) 1 cb) (hown : HdsV w B v k H)
    (hcell : w.cell? ⟨gb, 0, none⟩ = some u) (hu : u.oneCell' = true) (hH : H' k = u) (hHe : ∀ i, i < k → H' i = H i) (hlen : k + 1 ≤ 1000000) (hB : B ≤ w.heap.size)
    (h : ∀ v' w', HdsV w' B v' (k + 1) H' → w.grownBy w' v.ownBlock → At w v v' → wpList Tryd.prog ops Q rest (a.put o.dst v') w') : wpList Tryd.prog ops Q (o :: rest) a w := by
  obtain ⟨i0, hi, hz0, hz1, hz2⟩ := info_parts ints_info
  obtain ⟨v', w', hrun, h1, h2, _, h3⟩ := run_append_own_at (P := Tryd.prog) w B 22 o.type 24 i0 (.slice Option.none 0 0) 1 24 Tryd.underlying22 hi hz0 hz1 hz2 rfl (by decide) v k ((List.range k).map H) hown ⟨gb, 0, Option.none⟩ 1 cb [u] rfl
    (fun j u' hj => by
      match j, hj with
      | 0, hj => simp at hj; subst hj; rw [add_at]; exact hcell) (fun u' hu' => by simp at hu'; subst hu'; exact hu) (by unfold maxLen; omega) (by omega) hB
  refine wpList_plain hgd fun _ hK => ?_
  unfold Oper.wp execOp
  simp only [ho, resolve, invoke, builtin, Sem.run_bind, Sem.run_pure, Result.andThen_ok, List.map_toArray, List.map_cons, List.map_nil, hs, hx, hrun]
  refine hK _ _ (h v' w' ?_ h2 h3)
  unfold HdsV
  rw [List.range_succ, List.map_append, List.map_singleton, hH, List.map_congr_left fun i hi => hHe i (List.mem_range.1 hi)]
  exact h1
end
/-- Rows of noughts that grow, and an order that grows beside them. -/
structure LowOrd (w0 w : World) (B n k : Nat) (G : Nat → Nat) (vl vo : Value) (lo : List Int) : Prop where
  kp : Kp w0 w
  hB : w0.heap.size ≤ B ∧ B ≤ w.heap.size
  hl : HdsV w B vl k (fun i => .slice (some ⟨G i, 0, none⟩) n n)
  rows : ∀ i, i < k → Own w B (.slice (some ⟨G i, 0, none⟩) n n) (Mx.row n fun _ => 0)
  ap : ∀ i j, i < k → j < k → i ≠ j → G i ≠ G j
  o : Own w B vo lo
  ne : ∀ i, i < k → some (G i) ≠ vo.ownBlock
section
variable {w0 w w' : World} {B n k : Nat} {G : Nat → Nat} {vl vo : Value} {lo : List Int}
theorem LowOrd.keep (h : LowOrd w0 w B n k G vl vo lo) (hk : Kp w w') : LowOrd w0 w' B n k G vl vo lo :=
  ⟨h.kp.trans hk, ⟨h.hB.1, Nat.le_trans h.hB.2 hk.size⟩, h.hl.kp hk, fun i hi => (h.rows i hi).kp hk, h.ap, h.o.kp hk, h.ne⟩
theorem hdsG {B' : Nat} {v : Value} {H : Nat → Value} {l : List Int} (h : HdsV w B vl k H) (hr : Own w B' v l) : v.ownBlock = none ∨ v.ownBlock ≠ vl.ownBlock := by
  cases e : v.ownBlock with
  | none => exact .inl rfl
  | some b => exact .inr fun e2 => hdsO h hr e2.symm e
theorem LowOrd.pushL {vl' : Value} {z : Nat} (h : LowOrd w0 w B n k G vl vo lo) (hz : Own w B (.slice (some ⟨z, 0, none⟩) n n) (Mx.row n fun _ => 0)) (hzG : ∀ i, i < k → G i ≠ z) (hzo : some z ≠ vo.ownBlock)
    (h1 : HdsV w' B vl' (k + 1) (fun i => .slice (some ⟨if i = k then z else G i, 0, none⟩) n n)) (hg : w.grownBy w' vl.ownBlock) : LowOrd w0 w' B n (k + 1) (fun i => if i = k then z else G i) vl' vo lo := by
  refine ⟨h.kp.grown hg h.kp.size fun b hb => Nat.le_trans h.hB.1 (World.ownsRow.lt h.hl b hb).1, ⟨h.hB.1, Nat.le_trans h.hB.2 hg.size⟩, h1, fun i hi => ?_, fun i j hi hj hne => ?_, h.o.grown hg (hdsG h.hl h.o), fun i hi => ?_⟩
  · by_cases e : i = k
    · simp only [if_pos e]; exact hz.grown hg (hdsG h.hl hz)
    · simp only [if_neg e]; exact (h.rows i (by omega)).grown hg (hdsG h.hl (h.rows i (by omega)))
  · by_cases e : i = k
    · rw [if_pos e, if_neg (by omega)]; exact Ne.symm (hzG j (by omega))
    · rw [if_neg e]
      by_cases e2 : j = k
      · rw [if_pos e2]; exact hzG i (by omega)
      · rw [if_neg e2]; exact h.ap i j (by omega) (by omega) hne
  · by_cases e : i = k
    · rw [if_pos e]; exact hzo
    · rw [if_neg e]; exact h.ne i (by omega)
theorem LowOrd.pushO {vo' : Value} {lo' : List Int} (h : LowOrd w0 w B n k G vl vo lo) (h1 : Own w' B vo' lo') (hg : w.grownBy w' vo.ownBlock) (ha : At w vo vo') : LowOrd w0 w' B n k G vl vo' lo' := by
  refine ⟨h.kp.grown hg h.kp.size fun b hb => Nat.le_trans h.hB.1 (World.ownsRow.lt h.o b hb).1, ⟨h.hB.1, Nat.le_trans h.hB.2 hg.size⟩, World.ownsRow.kept h.hl hg ?_, fun i hi => (h.rows i hi).grown hg (.inr (h.ne i hi)), h.ap, h1, fun i hi => ?_⟩
  · cases e : vl.ownBlock with
    | none => exact .inl rfl
    | some b => exact .inr fun e2 => hdsO h.hl h.o e e2.symm
  · rcases ha with e | e
    · rw [e]; exact h.ne i hi
    · rw [e]; intro e2; have e3 : G i = w.heap.size := Option.some.inj e2; have := (World.ownsRow.lt (h.rows i hi) (G i) rfl).2; omega
theorem LowOrd.mat (h : LowOrd w0 w B n n G vl vo lo) : OwnM w B vl G (fun _ => n) (Mx.tab n n fun _ _ => 0) := by
  refine ⟨?_, fun i hi => ?_, fun i j hi hj => ?_⟩
  · rw [heads_tab, Mx.len_tab]; exact h.hl
  · rw [Mx.len_tab] at hi
    rw [Mx.tab_at _ _ _ _ hi, Mx.len_row]; exact h.rows i hi
  · rw [Mx.len_tab] at hi hj; exact h.ap i j hi hj
end

end Go.Proofs.YtdkdpklohfdpmaaDoor
