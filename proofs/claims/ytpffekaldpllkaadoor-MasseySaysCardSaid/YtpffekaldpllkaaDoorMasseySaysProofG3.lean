/- Several texts, one behind the other: LuRM, MatBy, Idx, SoC5, MxRef2, FldRef, MxRef5, SoR2, MsRefF, MsFact, LawIn, Told, ErrK, ErrG, MsSays. -/
import Derived.Test.YtpffekaldpllkaaDoorMasseySaysProofG2
import Derived.Test.YtpffekaldpllkaaDoorProg
import Derived.WalkKit
import Derived.LaidEql
import Derived.Stop.Asserts
import Derived.RowKitTokens
import Derived.Handy
import Derived.Test.YtpffekaldpllkaaDoorMasseySaysProofG1
import Derived.ProofKit
import Derived.OpenShut
import Derived.Lib.Hide

/- What stands in memory while the document's answer of package lu eliminates: two matrices and an order, each of the call's own. -/
namespace Go.Proofs.YtpffekaldpllkaaDoor
open Go.ChangeShapes Go.WideShapes Go.ChangeAt Go.RowKit
set_option linter.unusedVariables false

theorem ownsRow_at {w w' : World} {B n k : Nat} {e : TypeId} {v : Value} {xs : List Value} (h : w.ownsRow B e k v n xs) (hb : ∀ g, v.ownBlock = some g → w'.heap[g]? = w.heap[g]?) : w'.ownsRow B e k v n xs := by
  obtain ⟨h1, h2⟩ := h
  refine ⟨h1, ?_⟩
  rcases h2 with h2 | ⟨g, cap, cur, hv, hg, hh, r⟩
  · exact .inl h2
  · exact .inr ⟨g, cap, cur, hv, hg, by rw [hb g (by rw [hv]; rfl)]; exact hh, r⟩
theorem ownM_at {w w' : World} {B : Nat} {v : Value} {G C : Nat → Nat} {m : List (List Int)} (h : OwnM w B v G C m) (h1 : ∀ g, v.ownBlock = some g → w'.heap[g]? = w.heap[g]?) (h2 : ∀ i, i < m.length → w'.heap[G i]? = w.heap[G i]?) : OwnM w' B v G C m :=
  ⟨ownsRow_at h.top h1, fun i hi => ownsRow_at (h.row i hi) fun g hg => by cases hg; exact h2 i hi, h.apart⟩
theorem ownsRow_from {w : World} {B B' n k : Nat} {e : TypeId} {v : Value} {xs : List Value} (h : w.ownsRow B e k v n xs) (hB : B' ≤ B) : w.ownsRow B' e k v n xs := by
  obtain ⟨h1, h2⟩ := h
  refine ⟨h1, ?_⟩
  rcases h2 with h2 | ⟨g, cap, cur, hv, hg, r⟩
  · exact .inl h2
  · exact .inr ⟨g, cap, cur, hv, Nat.le_trans hB hg, r⟩
theorem ownM_from {w : World} {B B' : Nat} {v : Value} {G C : Nat → Nat} {m : List (List Int)} (h : OwnM w B v G C m) (hB : B' ≤ B) : OwnM w B' v G C m :=
  ⟨ownsRow_from h.top hB, fun i hi => ownsRow_from (h.row i hi) hB, h.apart⟩
theorem swf {α : Type} (f : Nat → α) (a b : Nat) : (fun i => if i = b then f a else if i = a then f b else f i) = fun i => f (Mx.sw a b i) := by
  funext i
  by_cases e1 : i = b
  · subst e1; rw [if_pos rfl, Mx.sw_right]
  · rw [if_neg e1]
    by_cases e2 : i = a
    · subst e2; rw [if_pos rfl, Mx.sw_left]
    · rw [if_neg e2, Mx.sw_none e2 e1]
/-- Two cells of one block are written. -/
def set2 (w : World) (g a b : Nat) (x y : Value) : World := (w.setCell ⟨g, a, none⟩ x).setCell ⟨g, b, none⟩ y
theorem set2_other (w : World) (g a b : Nat) (x y : Value) {c : Nat} (h : c ≠ g) : (set2 w g a b x y).heap[c]? = w.heap[c]? := by
  unfold set2
  rw [heap_setCell_other _ _ c _ h, heap_setCell_other _ _ c _ h]
theorem set2_kp {a0 w : World} (h : Kp a0 w) {g : Nat} (hg : a0.heap.size ≤ g) (a b : Nat) (x y : Value) : Kp a0 (set2 w g a b x y) := (h.put (p := ⟨g, a, none⟩) hg x).put (p := ⟨g, b, none⟩) hg y
/-- Two heads change places. -/
theorem OwnM.swap {w : World} {B g cap : Nat} {G C : Nat → Nat} {r c : Nat} {f : Nat → Nat → Int} (h : OwnM w B (.slice (some ⟨g, 0, none⟩) r cap) G C (Mx.tab r c f)) {a b : Nat} (ha : a < r) (hb : b < r) :
    OwnM (set2 w g a b (.slice (some ⟨G b, 0, none⟩) c (C b)) (.slice (some ⟨G a, 0, none⟩) c (C a))) B (.slice (some ⟨g, 0, none⟩) r cap) (fun i => G (Mx.sw a b i)) (fun i => C (Mx.sw a b i)) (Mx.tab r c fun i => f (Mx.sw a b i)) := by
  have := ((MatRow.start h).swap ha hb).mat
  rw [swf G a b, swf C a b, swf f a b] at this
  exact this

/-- Both matrices, and the order. -/
structure Tab3 (w : World) (B gu cu gl cl go co n : Nat) (s : Nat → Nat) (L C U D : Nat → Nat) (l u : Nat → Nat → Int) : Prop where
  up : OwnM w B (.slice (some ⟨gu, 0, none⟩) n cu) U D (Mx.tab n n u)
  low : OwnM w B (.slice (some ⟨gl, 0, none⟩) n cl) L C (Mx.tab n n l)
  ord : Own w B (.slice (some ⟨go, 0, none⟩) n co) (Mx.row n fun i => (s i : Int))
  hh : gu ≠ gl
  rr : ∀ i j, i < n → j < n → L i ≠ U j
  lo : ∀ i, i < n → L i ≠ go
  uo : ∀ i, i < n → U i ≠ go
section
variable {w w' : World} {B gu cu gl cl go co n : Nat} {s : Nat → Nat} {L C U D : Nat → Nat} {l u : Nat → Nat → Int}
theorem Tab3.keep (h : Tab3 w B gu cu gl cl go co n s L C U D l u) (hk : Kp w w') : Tab3 w' B gu cu gl cl go co n s L C U D l u :=
  ⟨h.up.kp hk, h.low.kp hk, h.ord.kp hk, h.hh, h.rr, h.lo, h.uo⟩
theorem Tab3.ext {l' u' : Nat → Nat → Int} (h : Tab3 w B gu cu gl cl go co n s L C U D l u) (e : ∀ i j, i < n → j < n → l i j = l' i j ∧ u i j = u' i j) : Tab3 w B gu cu gl cl go co n s L C U D l' u' :=
  ⟨h.up.ext fun i j hi hj => (e i j hi hj).2, h.low.ext fun i j hi hj => (e i j hi hj).1, h.ord, h.hh, h.rr, h.lo, h.uo⟩
theorem Tab3.ug (h : Tab3 w B gu cu gl cl go co n s L C U D l u) {i : Nat} (hi : i < n) : U i ≠ gu := h.up.weak.apartTop hi
theorem Tab3.lg (h : Tab3 w B gu cu gl cl go co n s L C U D l u) {i : Nat} (hi : i < n) : L i ≠ gl := h.low.weak.apartTop hi
theorem Tab3.ul (h : Tab3 w B gu cu gl cl go co n s L C U D l u) {i : Nat} (hi : i < n) : U i ≠ gl := fun e => top_ne h.low.top (h.up.weak.row i hi) (by show some (U i) = some gl; rw [e])
theorem Tab3.lu' (h : Tab3 w B gu cu gl cl go co n s L C U D l u) {i : Nat} (hi : i < n) : L i ≠ gu := fun e => top_ne h.up.top (h.low.weak.row i hi) (by show some (L i) = some gu; rw [e])
theorem Tab3.og (h : Tab3 w B gu cu gl cl go co n s L C U D l u) : go ≠ gu := fun e => top_ne h.up.top h.ord (by show some go = some gu; rw [e])
theorem Tab3.ol (h : Tab3 w B gu cu gl cl go co n s L C U D l u) : go ≠ gl := fun e => top_ne h.low.top h.ord (by show some go = some gl; rw [e])
theorem Tab3.bu (h : Tab3 w B gu cu gl cl go co n s L C U D l u) : B ≤ gu ∧ gu < w.heap.size := World.ownsRow.lt h.up.top gu rfl
theorem Tab3.bl (h : Tab3 w B gu cu gl cl go co n s L C U D l u) : B ≤ gl ∧ gl < w.heap.size := World.ownsRow.lt h.low.top gl rfl
theorem Tab3.bo (h : Tab3 w B gu cu gl cl go co n s L C U D l u) : B ≤ go ∧ go < w.heap.size := World.ownsRow.lt h.ord go rfl
theorem Tab3.swU (h : Tab3 w B gu cu gl cl go co n s L C U D l u) {a b : Nat} (ha : a < n) (hb : b < n) :
    Tab3 (set2 w gu a b (.slice (some ⟨U b, 0, none⟩) n (D b)) (.slice (some ⟨U a, 0, none⟩) n (D a))) B gu cu gl cl go co n s L C (fun i => U (Mx.sw a b i)) (fun i => D (Mx.sw a b i)) l (fun i => u (Mx.sw a b i)) := by
  refine ⟨h.up.swap ha hb, ownM_at h.low (fun g hg => by cases hg; exact set2_other _ _ _ _ _ _ (Ne.symm h.hh)) (fun i hi => ?_), ownsRow_at h.ord (fun g hg => by cases hg; exact set2_other _ _ _ _ _ _ h.og), h.hh, fun i j hi hj => h.rr i _ hi (Mx.sw_lt ha hb hj), h.lo, fun i hi => h.uo _ (Mx.sw_lt ha hb hi)⟩
  rw [Mx.len_tab] at hi
  exact set2_other _ _ _ _ _ _ (h.lu' hi)
theorem Tab3.swL (h : Tab3 w B gu cu gl cl go co n s L C U D l u) {a b : Nat} (ha : a < n) (hb : b < n) :
    Tab3 (set2 w gl a b (.slice (some ⟨L b, 0, none⟩) n (C b)) (.slice (some ⟨L a, 0, none⟩) n (C a))) B gu cu gl cl go co n s (fun i => L (Mx.sw a b i)) (fun i => C (Mx.sw a b i)) U D (fun i => l (Mx.sw a b i)) u := by
  refine ⟨ownM_at h.up (fun g hg => by cases hg; exact set2_other _ _ _ _ _ _ h.hh) (fun i hi => ?_), h.low.swap ha hb, ownsRow_at h.ord (fun g hg => by cases hg; exact set2_other _ _ _ _ _ _ h.ol), h.hh, fun i j hi hj => h.rr _ j (Mx.sw_lt ha hb hi) hj, fun i hi => h.lo _ (Mx.sw_lt ha hb hi), h.uo⟩
  rw [Mx.len_tab] at hi
  exact set2_other _ _ _ _ _ _ (h.ul hi)
theorem Tab3.swO (h : Tab3 w B gu cu gl cl go co n s L C U D l u) {a b : Nat} (ha : a < n) (hb : b < n) :
    Tab3 (set2 w go a b (.int .i64 (s b : Int)) (.int .i64 (s a : Int))) B gu cu gl cl go co n (fun i => s (Mx.sw a b i)) L C U D l u := by
  refine ⟨ownM_at h.up (fun g hg => by cases hg; exact set2_other _ _ _ _ _ _ (Ne.symm h.og)) (fun i hi => ?_), ownM_at h.low (fun g hg => by cases hg; exact set2_other _ _ _ _ _ _ (Ne.symm h.ol)) (fun i hi => ?_), ?_, h.hh, h.rr, h.lo, h.uo⟩
  · rw [Mx.len_tab] at hi
    exact set2_other _ _ _ _ _ _ (h.uo i hi)
  · rw [Mx.len_tab] at hi
    exact set2_other _ _ _ _ _ _ (h.lo i hi)
  · have h1 := own_put h.ord a (s b : Int)
    rw [Mx.row_set] at h1
    have h2 := own_put h1 b (s a : Int)
    rw [Mx.row_set] at h2
    rw [show (Mx.row n fun i => (s (Mx.sw a b i) : Int)) = Mx.row n fun j => if j = b then (s a : Int) else if j = a then (s b : Int) else (s j : Int) from Mx.row_ext fun j _ => (congrFun (swf (fun i => (s i : Int)) a b) j).symm]
    exact h2
theorem Tab3.putU (h : Tab3 w B gu cu gl cl go co n s L C U D l u) {i : Nat} (hi : i < n) (j : Nat) (x : Int) :
    Tab3 (w.setCell ⟨U i, j, none⟩ (.int .i64 x)) B gu cu gl cl go co n s L C U D l (fun p q => if p = i ∧ q = j then x else u p q) := by
  refine ⟨h.up.put hi j x, ownM_at h.low (fun g hg => by cases hg; exact heap_setCell_other _ _ _ _ (Ne.symm (h.ul hi))) (fun p hp => ?_), ownsRow_at h.ord (fun g hg => by cases hg; exact heap_setCell_other _ _ _ _ (Ne.symm (h.uo i hi))), h.hh, h.rr, h.lo, h.uo⟩
  rw [Mx.len_tab] at hp
  exact heap_setCell_other _ _ _ _ (h.rr p i hp hi)
theorem Tab3.putL (h : Tab3 w B gu cu gl cl go co n s L C U D l u) {i : Nat} (hi : i < n) (j : Nat) (x : Int) :
    Tab3 (w.setCell ⟨L i, j, none⟩ (.int .i64 x)) B gu cu gl cl go co n s L C U D (fun p q => if p = i ∧ q = j then x else l p q) u := by
  refine ⟨ownM_at h.up (fun g hg => by cases hg; exact heap_setCell_other _ _ _ _ (Ne.symm (h.lu' hi))) (fun p hp => ?_), h.low.put hi j x, ownsRow_at h.ord (fun g hg => by cases hg; exact heap_setCell_other _ _ _ _ (Ne.symm (h.lo i hi))), h.hh, h.rr, h.lo, h.uo⟩
  rw [Mx.len_tab] at hp
  exact heap_setCell_other _ _ _ _ (Ne.symm (h.rr i p hi hp))
theorem Tab3.lb (h : Tab3 w B gu cu gl cl go co n s L C U D l u) {i : Nat} (hi : i < n) : B ≤ L i := (h.low.weak.lt hi).1
theorem Tab3.ub (h : Tab3 w B gu cu gl cl go co n s L C U D l u) {i : Nat} (hi : i < n) : B ≤ U i := (h.up.weak.lt hi).1
end
/-- The same of what is known of an elimination. -/
def TabT (w : World) (B gu cu gl cl go co n : Nat) (L C U D : Nat → Nat) (t : Mx.Tri) : Prop := Tab3 w B gu cu gl cl go co n t.s L C U D (fun i j => ((t.l i j).val : Int)) (fun i j => ((t.u i j).val : Int))

theorem hdsO {w : World} {B B' k : Nat} {u v : Value} {H : Nat → Value} {l : List Int} (h : HdsV w B u k H) (hr : Own w B' v l) {g : Nat} (hg : u.ownBlock = some g) : v.ownBlock ≠ some g := fun e => by
  rcases h.2 with ⟨rfl, _⟩ | ⟨g1, cap1, cur1, rfl, _, hh1, _⟩
  · cases hg
  · rcases hr.2 with ⟨rfl, _⟩ | ⟨g2, cap2, cur2, rfl, _, hh2, _⟩
    · cases e
    · have e1 : g1 = g := Option.some.inj hg
      have e2 : g2 = g := Option.some.inj e
      subst e1; subst e2
      rw [hh1] at hh2
      cases hh2
section
variable {ops : Array Oper} {rest : List Oper} {o : Oper} {a : Act} {w : World} {K : Act → World → Prop} {Q : Exit → Act → World → Prop}
/-- out = append(out, head), with what else is kept. -/
theorem wpList_pushK (hgd : o.guard = Option.none) (s x : Operand) (ho : o.op = .call { callee := .builtin .append, args := #[s, x], argTypes := #[41, 41] })
    (B : Nat) (v : Value) (k : Nat) (H H' : Nat → Value) (u : Value) (gb cb : Nat) (hs : a.eval s = v) (hx : a.eval x = .slice (some ⟨gb, 0, none⟩) 1 cb) (hown : HdsV w B v k H)
    (hcell : w.cell? ⟨gb, 0, none⟩ = some u) (hu : u.oneCell' = true) (hH : H' k = u) (hHe : ∀ i, i < k → H' i = H i) (hlen : k + 1 ≤ 1000000) (hB : B ≤ w.heap.size)
    (h : ∀ v' w', HdsV w' B v' (k + 1) H' → w.grownBy w' v.ownBlock → At w v v' → wpList Tryd.prog ops Q rest (a.put o.dst v') w') : wpList Tryd.prog ops Q (o :: rest) a w := by
  obtain ⟨i0, hi, hz0, hz1, hz2⟩ := info_parts ints_info
  obtain ⟨v', w', hrun, h1, h2, _, h3⟩ := run_append_own_at (P := Tryd.prog) w B 41 o.type 22 i0 (.slice Option.none 0 0) 1 24 Tryd.underlying41 hi hz0 hz1 hz2 rfl (by decide) v k ((List.range k).map H) hown ⟨gb, 0, Option.none⟩ 1 cb [u] rfl
    (fun j u' hj => by
      match j, hj with
      | 0, hj => simp at hj; subst hj; rw [add_at]; exact hcell) (fun u' hu' => by simp at hu'; subst hu'; exact hu) (by unfold maxLen; omega) (by omega) hB
  refine wpList_plain hgd fun _ hK => ?_
  unfold Oper.wp execOp
  simp only [ho, resolve, invoke, builtin, Sem.run_bind, Sem.run_pure, Result.andThen_ok, List.map_toArray, List.map_cons, List.map_nil, hs, hx, hrun]
  refine hK _ _ (h v' w' ?_ h2 h3)
  unfold HdsV
  rw [List.range_succ, List.map_append, List.map_singleton, hH, List.map_congr_left fun i hi => hHe i (List.mem_range.1 hi)]
  exact h1
end
/-- Rows of noughts that grow, and an order that grows beside them. -/
structure LowOrd (w0 w : World) (B n k : Nat) (G : Nat → Nat) (vl vo : Value) (lo : List Int) : Prop where
  kp : Kp w0 w
  hB : w0.heap.size ≤ B ∧ B ≤ w.heap.size
  hl : HdsV w B vl k (fun i => .slice (some ⟨G i, 0, none⟩) n n)
  rows : ∀ i, i < k → Own w B (.slice (some ⟨G i, 0, none⟩) n n) (Mx.row n fun _ => 0)
  ap : ∀ i j, i < k → j < k → i ≠ j → G i ≠ G j
  o : Own w B vo lo
  ne : ∀ i, i < k → some (G i) ≠ vo.ownBlock
section
variable {w0 w w' : World} {B n k : Nat} {G : Nat → Nat} {vl vo : Value} {lo : List Int}
theorem LowOrd.keep (h : LowOrd w0 w B n k G vl vo lo) (hk : Kp w w') : LowOrd w0 w' B n k G vl vo lo :=
  ⟨h.kp.trans hk, ⟨h.hB.1, Nat.le_trans h.hB.2 hk.size⟩, h.hl.kp hk, fun i hi => (h.rows i hi).kp hk, h.ap, h.o.kp hk, h.ne⟩
theorem hdsG {B' : Nat} {v : Value} {H : Nat → Value} {l : List Int} (h : HdsV w B vl k H) (hr : Own w B' v l) : v.ownBlock = none ∨ v.ownBlock ≠ vl.ownBlock := by
  cases e : v.ownBlock with
  | none => exact .inl rfl
  | some b => exact .inr fun e2 => hdsO h hr e2.symm e
theorem LowOrd.pushL {vl' : Value} {z : Nat} (h : LowOrd w0 w B n k G vl vo lo) (hz : Own w B (.slice (some ⟨z, 0, none⟩) n n) (Mx.row n fun _ => 0)) (hzG : ∀ i, i < k → G i ≠ z) (hzo : some z ≠ vo.ownBlock)
    (h1 : HdsV w' B vl' (k + 1) (fun i => .slice (some ⟨if i = k then z else G i, 0, none⟩) n n)) (hg : w.grownBy w' vl.ownBlock) : LowOrd w0 w' B n (k + 1) (fun i => if i = k then z else G i) vl' vo lo := by
  refine ⟨h.kp.grown hg h.kp.size fun b hb => Nat.le_trans h.hB.1 (World.ownsRow.lt h.hl b hb).1, ⟨h.hB.1, Nat.le_trans h.hB.2 hg.size⟩, h1, fun i hi => ?_, fun i j hi hj hne => ?_, h.o.grown hg (hdsG h.hl h.o), fun i hi => ?_⟩
  · by_cases e : i = k
    · simp only [if_pos e]; exact hz.grown hg (hdsG h.hl hz)
    · simp only [if_neg e]; exact (h.rows i (by omega)).grown hg (hdsG h.hl (h.rows i (by omega)))
  · by_cases e : i = k
    · rw [if_pos e, if_neg (by omega)]; exact Ne.symm (hzG j (by omega))
    · rw [if_neg e]
      by_cases e2 : j = k
      · rw [if_pos e2]; exact hzG i (by omega)
      · rw [if_neg e2]; exact h.ap i j (by omega) (by omega) hne
  · by_cases e : i = k
    · rw [if_pos e]; exact hzo
    · rw [if_neg e]; exact h.ne i (by omega)
theorem LowOrd.pushO {vo' : Value} {lo' : List Int} (h : LowOrd w0 w B n k G vl vo lo) (h1 : Own w' B vo' lo') (hg : w.grownBy w' vo.ownBlock) (ha : At w vo vo') : LowOrd w0 w' B n k G vl vo' lo' := by
  refine ⟨h.kp.grown hg h.kp.size fun b hb => Nat.le_trans h.hB.1 (World.ownsRow.lt h.o b hb).1, ⟨h.hB.1, Nat.le_trans h.hB.2 hg.size⟩, World.ownsRow.kept h.hl hg ?_, fun i hi => (h.rows i hi).grown hg (.inr (h.ne i hi)), h.ap, h1, fun i hi => ?_⟩
  · cases e : vl.ownBlock with
    | none => exact .inl rfl
    | some b => exact .inr fun e2 => hdsO h.hl h.o e e2.symm
  · rcases ha with e | e
    · rw [e]; exact h.ne i hi
    · rw [e]; intro e2; have e3 : G i = w.heap.size := Option.some.inj e2; have := (World.ownsRow.lt (h.rows i hi) (G i) rfl).2; omega
theorem LowOrd.mat (h : LowOrd w0 w B n n G vl vo lo) : OwnM w B vl G (fun _ => n) (Mx.tab n n fun _ _ => 0) := by
  refine ⟨?_, fun i hi => ?_, fun i j hi hj => ?_⟩
  · rw [heads_tab, Mx.len_tab]; exact h.hl
  · rw [Mx.len_tab] at hi
    rw [Mx.tab_at _ _ _ _ hi, Mx.len_row]; exact h.rows i hi
  · rw [Mx.len_tab] at hi hj; exact h.ap i j hi hj
end

end Go.Proofs.YtpffekaldpllkaaDoor

/- A matrix of the call's own that grows by rows of the call's own, and a row of numbers that grows beside it. For all packages. -/
namespace Go.Proofs.YtpffekaldpllkaaDoor
open Go.ChangeShapes Go.WideShapes Go.ChangeAt Go.RowKit
set_option linter.unusedVariables false

structure MatBy (w0 w : World) (B k n : Nat) (G C : Nat → Nat) (f : Nat → Nat → Int) (vm vo : Value) (lo : List Int) : Prop where
  kp : Kp w0 w
  hB : w0.heap.size ≤ B ∧ B ≤ w.heap.size
  hl : HdsV w B vm k (fun i => .slice (some ⟨G i, 0, none⟩) n (C i))
  rows : ∀ i, i < k → Own w B (.slice (some ⟨G i, 0, none⟩) n (C i)) (Mx.row n (f i))
  ap : ∀ i j, i < k → j < k → i ≠ j → G i ≠ G j
  o : Own w B vo lo
  ne : ∀ i, i < k → some (G i) ≠ vo.ownBlock
section
variable {w0 w w' : World} {B n k : Nat} {G C : Nat → Nat} {f : Nat → Nat → Int} {vm vo : Value} {lo : List Int}
theorem MatBy.start (w : World) (n : Nat) (G C : Nat → Nat) (f : Nat → Nat → Int) : MatBy w w w.heap.size 0 n G C f (.slice none 0 0) (.slice none 0 0) [] :=
  ⟨Kp.rfl' w, ⟨Nat.le_refl _, Nat.le_refl _⟩, hdsV_none _ _ _, fun i hi => absurd hi (by omega), fun i j hi => absurd hi (by omega), Own.none _ _, fun i hi => absurd hi (by omega)⟩
theorem MatBy.keep (h : MatBy w0 w B k n G C f vm vo lo) (hk : Kp w w') : MatBy w0 w' B k n G C f vm vo lo :=
  ⟨h.kp.trans hk, ⟨h.hB.1, Nat.le_trans h.hB.2 hk.size⟩, h.hl.kp hk, fun i hi => (h.rows i hi).kp hk, h.ap, h.o.kp hk, h.ne⟩
theorem MatBy.new (h : MatBy w0 w B k n G C f vm vo lo) (o : Obj) : MatBy w0 (w.alloc o) B k n G C f vm vo lo := h.keep ((Kp.rfl' w).new o)
theorem MatBy.pushM {vm' : Value} {z c : Nat} (h : MatBy w0 w B k n G C f vm vo lo) (hz : Own w B (.slice (some ⟨z, 0, none⟩) n c) (Mx.row n (f k))) (hzG : ∀ i, i < k → G i ≠ z) (hzo : some z ≠ vo.ownBlock)
    (h1 : HdsV w' B vm' (k + 1) (fun i => .slice (some ⟨if i = k then z else G i, 0, Option.none⟩) n (if i = k then c else C i))) (hg : w.grownBy w' vm.ownBlock) :
    MatBy w0 w' B (k + 1) n (fun i => if i = k then z else G i) (fun i => if i = k then c else C i) f vm' vo lo := by
  refine ⟨h.kp.grown hg h.kp.size fun b hb => Nat.le_trans h.hB.1 (World.ownsRow.lt h.hl b hb).1, ⟨h.hB.1, Nat.le_trans h.hB.2 hg.size⟩, h1, fun i hi => ?_, fun i j hi hj hne => ?_, h.o.grown hg (hdsG h.hl h.o), fun i hi => ?_⟩
  · by_cases e : i = k
    · simp only [if_pos e]; rw [e]; exact hz.grown hg (hdsG h.hl hz)
    · simp only [if_neg e]; exact (h.rows i (by omega)).grown hg (hdsG h.hl (h.rows i (by omega)))
  · by_cases e : i = k
    · rw [if_pos e, if_neg (by omega)]; exact Ne.symm (hzG j (by omega))
    · rw [if_neg e]
      by_cases e2 : j = k
      · rw [if_pos e2]; exact hzG i (by omega)
      · rw [if_neg e2]; exact h.ap i j (by omega) (by omega) hne
  · by_cases e : i = k
    · rw [if_pos e]; exact hzo
    · rw [if_neg e]; exact h.ne i (by omega)
theorem MatBy.pushO {vo' : Value} {lo' : List Int} (h : MatBy w0 w B k n G C f vm vo lo) (h1 : Own w' B vo' lo') (hg : w.grownBy w' vo.ownBlock) (ha : At w vo vo') : MatBy w0 w' B k n G C f vm vo' lo' := by
  refine ⟨h.kp.grown hg h.kp.size fun b hb => Nat.le_trans h.hB.1 (World.ownsRow.lt h.o b hb).1, ⟨h.hB.1, Nat.le_trans h.hB.2 hg.size⟩, World.ownsRow.kept h.hl hg ?_, fun i hi => (h.rows i hi).grown hg (.inr (h.ne i hi)), h.ap, h1, fun i hi => ?_⟩
  · cases e : vm.ownBlock with
    | none => exact .inl rfl
    | some b => exact .inr fun e2 => hdsO h.hl h.o e e2.symm
  · rcases ha with e | e
    · rw [e]; exact h.ne i hi
    · rw [e]; intro e2; have e3 : G i = w.heap.size := Option.some.inj e2; have := (World.ownsRow.lt (h.rows i hi) (G i) rfl).2; omega
theorem MatBy.lies (h : MatBy w0 w B k n G C f vm vo lo) : ∃ A c, vm = .slice A k c ∧ k ≤ c ∧ LiesM w A (Mx.tab k n f) :=
  h.hl.lies (Mx.len_tab _ _ _) fun i hi => by
    obtain ⟨A, c, e, h1, h2⟩ := (h.rows i hi).cap
    rw [Mx.len_row] at e h2
    rw [Mx.tab_at _ _ _ _ hi, Mx.len_row]
    cases e
    exact ⟨_, _, rfl, h2, h1⟩
/-- A row made since lies apart from what was there. -/
theorem MatBy.far (h : MatBy w0 w B k n G C f vm vo lo) {z : Nat} (hz : w.heap.size ≤ z) : (∀ i, i < k → G i ≠ z) ∧ some z ≠ vo.ownBlock :=
  ⟨fun i hi e => by have := (World.ownsRow.lt (h.rows i hi) (G i) rfl).2; omega, fun e => by have := (World.ownsRow.lt h.o z e.symm).2; omega⟩
end

end Go.Proofs.YtpffekaldpllkaaDoor

/- Contracts of slices.Index and slices.Contains at rows of integers: for all packages. -/
namespace Go.Proofs.YtpffekaldpllkaaDoor
open Go.ChangeShapes Go.WideShapes Go.ChangeAt Go.RowKit
set_option linter.unusedVariables false

/-- A number occurs among the first. -/
def Occurs (l : List Int) (n : Nat) (v : Int) : Prop := ∃ j, j < n ∧ l.getD j 0 = v
/-- An index where it occurs, or -1. -/
def Idx (P : Prop) (e : Ending) : Prop := (P ∧ ∃ k : Nat, e = .returned (.int .i64 (k : Int))) ∨ (¬ P ∧ e = .returned (.int .i64 (-1)))


end Go.Proofs.YtpffekaldpllkaaDoor

/- Contracts of package solve, fifth part: Null. -/
namespace Go.Proofs.YtpffekaldpllkaaDoor
open Go.ChangeShapes Go.WideShapes Go.ChangeAt Go.RowKit
set_option linter.unusedVariables false

theorem neg_mod (a : Fp.F) : ((9973 : Int) - (a.val : Int)).tmod 9973 = ((-a : Fp.F).val : Int) := by
  have h := sub_mod 0 a
  rw [show (((0 : Fp.F).val : Nat) : Int) = 0 from rfl, show (0 : Int) - (a.val : Int) + 9973 = 9973 - (a.val : Int) by omega] at h
  rw [h]
  have : (0 : Fp.F) - a = -a := by grind
  rw [this]
theorem cols_el (b : List Nat) {k : Nat} (hk : k < b.length) : (cols b).getD k 0 = (Mx.pv b k : Int) := by simp [cols, Mx.pv, hk]
theorem occurs_cols {b : List Nat} {k : Nat} : Occurs (cols b) b.length (k : Int) ↔ k ∈ b := by
  constructor
  · rintro ⟨j, hj, e⟩
    rw [cols_el b hj] at e
    have : Mx.pv b j = k := by omega
    rw [← this]; exact Mx.pv_mem hj
  · intro h
    obtain ⟨t, ht, rfl⟩ := List.mem_iff_getElem.1 h
    exact ⟨t, ht, by rw [cols_el b ht]; simp [Mx.pv, ht]⟩

/-- The rows that are taken to noughts, as far as the first k columns. -/
def nulls (b : List Nat) (g : Nat → Nat → Fp.F) (c k : Nat) : List (List Int) := (Mx.fr b k).map fun q => rowF c (Mx.nv b g q b.length)
theorem nulls_yes {b : List Nat} {g : Nat → Nat → Fp.F} {c k : Nat} (h : k ∈ b) : nulls b g c (k + 1) = nulls b g c k := by unfold nulls; rw [Mx.fr_yes h]
theorem nulls_no {b : List Nat} {g : Nat → Nat → Fp.F} {c k : Nat} (h : k ∉ b) : nulls b g c (k + 1) = nulls b g c k ++ [rowF c (Mx.nv b g k b.length)] := by unfold nulls; rw [Mx.fr_no h]; simp
theorem len_nulls (b : List Nat) (g : Nat → Nat → Fp.F) (c k : Nat) : (nulls b g c k).length = (Mx.fr b k).length := by simp [nulls]
theorem nulls_all (b : List Nat) (g : Nat → Nat → Fp.F) (c : Nat) : nulls b g c c = Mx.matl (Mx.fr b c).length c (Mx.nm b g c) := by
  refine List.ext_getElem (by rw [len_nulls, Mx.len_matl]) fun i h1 h2 => ?_
  have hi : i < (Mx.fr b c).length := by rwa [len_nulls] at h1
  simp [nulls, Mx.matl, Mx.tab, Mx.nm, Mx.pv, hi]

/-- The rows that are taken to noughts. -/
def GotNull (r c : Nat) (f : Nat → Nat → Fp.F) (w : World) (e : Ending) (w' : World) : Prop :=
  ∃ b g A d, Stair r c c f b g ∧ e = .returned (.tuple #[.slice A (Mx.fr b c).length d, .nilIface]) ∧ LiesM w' A (Mx.matl (Mx.fr b c).length c (Mx.nm b g c)) ∧ Kp w w'

end Go.Proofs.YtpffekaldpllkaaDoor

/- Contracts of the document's answer on matrices, second part: Copy, MatMul, MatAdd, Matrix, Field. For all packages. -/
namespace Go.Proofs.YtpffekaldpllkaaDoor
open Go.ChangeShapes Go.WideShapes Go.ChangeAt Go.RowKit
set_option linter.unusedVariables false

/-- Where the heads lie. -/
theorem OwnM.some {w : World} {B : Nat} {v : Value} {G C : Nat → Nat} {m : List (List Int)} (h : OwnM w B v G C m) (h0 : 0 < m.length) : ∃ g c, v = .slice (.some ⟨g, 0, .none⟩) m.length c ∧ B ≤ g := by
  rcases h.top.2 with ⟨_, h1⟩ | ⟨g, cap, cur, e, hg, _⟩
  · omega
  · exact ⟨g, cap, e, hg⟩

set_option maxRecDepth 100000 in
set_option maxHeartbeats 3200000 in
theorem rCopy_any (A : Option Addr) (f : Nat → Nat → Fp.F) (r c d : Nat) (w : World) (ha : LiesM w A (Mx.matl r c f)) (hc0 : 0 < c) (hr : r ≤ 1000) (hc : c ≤ 1000) :
    Calls Tryd.prog 31 #[.slice A r d] w fun e w' => MadeOwn r c f w e w' := by
  have HA := Lib.hid ha
  clear ha
  go_enter Tryd.func31, Tryd.ntmps31
  go_wp2_with fail
  go_loopw [3, 4] (fun v i wr => ∃ (k : Nat) (G C : Nat → Nat), k ≤ r ∧ i = .int .i64 (k : Int) ∧ OwnM wr w.heap.size v G C (Mx.matl k c f) ∧ Kp w wr) (fun _ i _ => r - (intOf i).toNat)
  case atStart => exact ⟨0, fun _ => 0, fun _ => 0, Nat.zero_le _, rfl, ownM_none _ _ _ _, Kp.rfl' _⟩
  case round =>
    obtain ⟨k, G, C, hk, rfl, ho, hkp⟩ := hrel
    have HO := Lib.hid ho
    have HK := Lib.hid hkp
    by_cases hlt : k < r
    · obtain ⟨ad, A1, d1, rfl, _, x1, _, l1⟩ := (HA.out.keep hkp).row hlt
      clear ho hkp
      have L1 := Lib.hid l1
      clear l1
      have HS := Lib.hid (show Mx.matl (k + 1) c f = Mx.matl k c f ++ [Mx.row c fun j => ((f k j).val : Int)] by rw [Mx.matl, Mx.tab_snoc]; rfl)
      go_wp2_with (first
        | (at_builtin; refine wpList_cat rfl _ _ rfl wr.heap.size _ [] (Mx.row c fun j => ((f k j).val : Int)) A1 c d1 rfl rfl (Mx.len_row _ _).symm (Own.none _ _) L1.out (by rw [Mx.len_row]; simp; omega) (Nat.le_refl _) ?_; intro v1 w2 h1 h2 _; have kp2 : Kp wr w2 := own_below (Own.none wr wr.heap.size) (Kp.rfl' _) (Nat.le_refl _) h2; rw [List.nil_append] at h1; obtain ⟨g, gc, rfl, hg, hgc⟩ := own_some h1 (by rw [Mx.len_row]; exact hc0); rw [Mx.len_row] at h1 hgc ⊢; have HU := Lib.hid h1; have HQ := Lib.hid kp2; have OM := Lib.hid (HO.out.kp kp2); have HAP := Lib.hid (show ∀ i, i < (Mx.matl k c f).length → G i ≠ g from fun i hi => by have := (HO.out.lt hi).2; omega); clear h1 h2 kp2)
        | (at_builtin; refine wpList_pushM rfl _ _ rfl w.heap.size _ G C (Mx.matl k c f) _ g c gc _ 1 (Mx.len_row _ _) rfl rfl (OM.out.new _) (cell_made _ _ _ _ 0 rfl) ((HU.out.from HK.out.size).new _) HAP.out (by rw [Mx.len_matl]; omega) (Nat.le_trans HK.out.size (Nat.le_trans HQ.out.size ((Kp.rfl' _).new _).size)) ?_; intro v' w' G' C' ho' hk'))
      have HO' := Lib.hid ho'
      have HK' := Lib.hid (hk' w (Nat.le_refl _) ((HK.out.trans HQ.out).new _))
      clear ho' hk'
      go_wp2_with fail
      go_roundw
      case rel => exact ⟨k + 1, G', C', by omega, by go_num, by rw [HS.out]; exact HO'.out, HK'.out⟩
      case measure => simp [intOf]; omega
    · obtain rfl : k = r := by omega
      clear ho hkp
      go_wp2_with fail
      go_ret
      exact ⟨_, G, C, rfl, HO.out, HK.out⟩



end Go.Proofs.YtpffekaldpllkaaDoor

/- Contracts of the document's answer for package field (package rankmereref1: Mod, Pow, Div), within the document's bounds. -/
namespace Go.Proofs.YtpffekaldpllkaaDoor
open Go.ChangeShapes Go.WideShapes Go.ChangeAt Go.RowKit
set_option linter.unusedVariables false

theorem refMod_any (n : Int) (w : World) (h1 : -1000000000000000 ≤ n) (h2 : n ≤ 1000000000000000) :
    Calls Tryd.prog 21 #[.int .i64 n] w fun e w' => e = .returned (.int .i64 (n % 9973)) ∧ w = w' := by
  obtain ⟨f1, f2⟩ := Num.tmod_fix n 9973 (by omega)
  obtain ⟨b2, b1⟩ := Num.tmod_bound n 9973 (by omega)
  have F1 := Lib.hid f1
  have F2 := Lib.hid f2
  clear f1 f2
  by_cases h : n.tmod 9973 < 0
  · go_enter Tryd.func21, Tryd.ntmps21
    go_wp2
    go_ret
    exact ⟨ret_int (F1.out h), rfl⟩
  · have h' : 0 ≤ n.tmod 9973 := by omega
    clear h
    go_enter Tryd.func21, Tryd.ntmps21
    go_wp2
    go_ret
    exact ⟨ret_int (F2.out h'), rfl⟩

theorem refMod_el (n : Int) (w : World) (h1 : -1000000000000000 ≤ n) (h2 : n ≤ 1000000000000000) :
    Calls Tryd.prog 21 #[.int .i64 n] w fun e w' => e = .returned (el (Fp.ofInt n)) ∧ w = w' := by
  have h := refMod_any n w h1 h2
  unfold el
  rw [Fp.ofInt_val]
  exact h

set_option maxHeartbeats 800000 in
theorem refPow_any (k : Nat) : ∀ (a : Fp.F) (n : Nat) (w : World), n ≤ k → n ≤ 1000000 →
    Calls Tryd.prog 32 #[el a, .int .i64 (n : Int)] w fun e w' => e = .returned (el (Fp.pw a n)) ∧ w = w' := by
  have zero : ∀ (a : Fp.F) (w : World),
      Calls Tryd.prog 32 #[el a, .int .i64 ((0 : Nat) : Int)] w fun e w' => e = .returned (el (Fp.pw a 0)) ∧ w = w' := by
    intro a w
    unfold el
    generalize (a.val : Int) = x
    go_enter Tryd.func32, Tryd.ntmps32
    go_wp2_with fail
    go_ret
    exact ⟨rfl, rfl⟩
  induction k with
  | zero =>
    intro a n w hk hn
    obtain rfl : n = 0 := by omega
    exact zero a w
  | succ k ih =>
    intro a n w hk hn
    by_cases h : n = 0
    · subst h; exact zero a w
    · clear zero
      have IH := Lib.hid (ih (a * a) (n / 2))
      have EA := Lib.hid (Fp.mul_val a a)
      have ha := Fp.val_bound a
      have hp := prod_bound a a
      have hq : ((n : Int) == 0) = false := by rw [beq_eq_false_iff_ne]; omega
      have hn2 : ((n / 2 : Nat) : Int) = (n : Int) / 2 := by omega
      have hv := prod_bound (Fp.pw (a * a) (n / 2)) a
      have EP := Lib.hid (Fp.mul_val (Fp.pw (a * a) (n / 2)) a)
      have ST := Lib.hid (Fp.pw_half a n)
      have hz := Fp.val_bound (Fp.pw (a * a) (n / 2))
      unfold el at *
      rw [EA.out, hn2] at IH
      generalize hzz : ((Fp.pw (a * a) (n / 2)).val : Int) = z at *
      have E1 := Lib.hid (show n % 2 = 1 → z * (a.val : Int) % 9973 = ((Fp.pw a n).val : Int) from fun h => by
        have := ST.out; rw [if_pos h] at this; rw [this]; exact EP.out.symm)
      have E0 := Lib.hid (show ¬ n % 2 = 1 → z = ((Fp.pw a n).val : Int) from fun h => by
        have := ST.out; rw [if_neg h, Fin.mul_one] at this; rw [this, hzz])
      clear ST EP EA
      generalize (a.val : Int) = x at *
      by_cases h2 : n % 2 = 1
      · have E := Lib.hid (E1.out h2)
        have hr : ((n : Int) % 2 == 1) = true := by rw [beq_iff_eq]; omega
        clear E1 E0 ih h
        go_enter Tryd.func32, Tryd.ntmps32
        go_wp2_with fail
        refine (IH.out _ (by omega) (by omega)).mono ?_; rintro e w' ⟨rfl, rfl⟩
        go_wp2_with fail
        go_ret
        exact ⟨ret_int E.out, rfl⟩
      · have E := Lib.hid (E0.out h2)
        have hr : ((n : Int) % 2 == 1) = false := by rw [beq_eq_false_iff_ne]; omega
        clear E1 E0 ih h
        go_enter Tryd.func32, Tryd.ntmps32
        go_wp2_with fail
        refine (IH.out _ (by omega) (by omega)).mono ?_; rintro e w' ⟨rfl, rfl⟩
        go_wp2_with fail
        go_ret
        exact ⟨ret_int E.out, rfl⟩


end Go.Proofs.YtpffekaldpllkaaDoor

/- Contracts of the document's answer on matrices, fifth part: Stairs. For all packages. -/
namespace Go.Proofs.YtpffekaldpllkaaDoor
open Go.ChangeShapes Go.WideShapes Go.ChangeAt Go.RowKit
set_option linter.unusedVariables false

theorem mod_times (a b : Fp.F) : (a.val : Int) * (b.val : Int) % 9973 = ((a * b).val : Int) := (Fp.mul_val a b).symm
theorem mod_less (a x b : Fp.F) : ((a.val : Int) - (x.val : Int) * (b.val : Int)) % 9973 = ((a - x * b).val : Int) := by
  have h : Fp.ofInt ((a.val : Int) - (x.val : Int) * (b.val : Int)) = a - x * b := by
    have h2 := Fp.ofInt_add ((a.val : Int) - (x.val : Int) * (b.val : Int)) ((x.val : Int) * (b.val : Int))
    rw [Int.sub_add_cancel, Fp.ofInt_mul, Fp.ofInt_self, Fp.ofInt_self, Fp.ofInt_self] at h2
    generalize Fp.ofInt ((a.val : Int) - (x.val : Int) * (b.val : Int)) = y at *
    grind
  rw [← Fp.ofInt_val, h]

/-- A row from p on, before row t, that is not nought at column c; or there is none. -/
def Last (f : Nat → Nat → Fp.F) (p c t : Nat) (v : Int) : Prop := (v = -1 ∧ ∀ s, p ≤ s → s < t → f s c = 0) ∨ ∃ a : Nat, v = (a : Int) ∧ p ≤ a ∧ a < t ∧ f a c ≠ 0
theorem Last.start (f : Nat → Nat → Fp.F) (p c : Nat) : Last f p c p (-1) := .inl ⟨rfl, fun s h1 h2 => absurd h1 (by omega)⟩
theorem Last.zero {f : Nat → Nat → Fp.F} {p c t : Nat} {v : Int} (h : Last f p c t v) (h0 : f t c = 0) : Last f p c (t + 1) v := by
  rcases h with ⟨h1, h2⟩ | ⟨a, h1, h2, h3, h4⟩
  · exact .inl ⟨h1, fun s hs1 hs2 => by
      by_cases e : s = t
      · rw [e]; exact h0
      · exact h2 s hs1 (by omega)⟩
  · exact .inr ⟨a, h1, h2, by omega, h4⟩
theorem Last.hit {f : Nat → Nat → Fp.F} {p c t : Nat} (hp : p ≤ t) (h0 : f t c ≠ 0) : Last f p c (t + 1) (t : Int) := .inr ⟨t, rfl, hp, Nat.lt_succ_self t, h0⟩

/-- The matrix in steps and the columns in which they begin, as the document's answer has them. -/
def MadeSteps (r c k : Nat) (f : Nat → Nat → Fp.F) (w : World) (e : Ending) (w' : World) : Prop :=
  ∃ b g A d A' d', Stair r c k f b g ∧ e = .returned (.tuple #[.slice A r d, .slice A' b.length d']) ∧ LiesM w' A (Mx.matl r c g) ∧ Lies w' A' (cols b) ∧ Kp w w'

set_option maxRecDepth 100000 in
set_option maxHeartbeats 12800000 in
theorem rStairs_any (A : Option Addr) (f : Nat → Nat → Fp.F) (r c k0 d : Nat) (w : World) (ha : LiesM w A (Mx.matl r c f)) (hr0 : 0 < r) (hc0 : 0 < c) (hr : r ≤ 1000) (hc : c ≤ 1000) (hk0 : k0 ≤ c) :
    Calls Tryd.prog 24 #[.slice A r d, .int .i64 (k0 : Int)] w fun e w' => MadeSteps r c k0 f w e w' := by
  have CO := Lib.hid (rCopy_any A f r c d w ha hc0 hr hc)
  clear ha
  go_enter Tryd.func24, Tryd.ntmps24
  go_wp2_with fail
  refine (CO.out).mono ?_; rintro e w1 ⟨v, G0, C0, rfl, ho, hk⟩
  obtain ⟨g, gc, rfl, hg⟩ := ho.some (by rw [Mx.len_matl]; exact hr0)
  rw [Mx.len_matl] at ho ⊢
  have HO := Lib.hid ho
  have HK := Lib.hid hk
  clear ho hk
  go_wp2_with fail
  go_loopw [7, 8] (fun u i wr => ∃ (k : Nat) (b : List Nat) (h : Nat → Nat → Fp.F) (G C : Nat → Nat), k ≤ k0 ∧ i = .int .i64 (k : Int) ∧ Stair r c k f b h ∧ MatRow wr w.heap.size g gc G C r c (fun i j => ((h i j).val : Int)) u (cols b) ∧ Kp w wr) (fun _ i _ => k0 - (intOf i).toNat)
  case atStart => exact ⟨0, [], f, G0, C0, Nat.zero_le _, rfl, Stair.start r c f, MatRow.start HO.out, HK.out⟩
  case round =>
    obtain ⟨k, b, h, G, C, hk, rfl, hst, hmr, hkp⟩ := hrel
    obtain ⟨Au, du, rfl, hlu, _⟩ := hmr.row.cap
    obtain ⟨p, hp⟩ : ∃ p, p = b.length := ⟨_, rfl⟩
    have hpr : p ≤ r := by rw [hp]; exact hst.steps.le
    rw [len_cols, ← hp] at hmr ⊢
    have HM := Lib.hid hmr
    have HS := Lib.hid hst
    have HK := Lib.hid hkp
    have HL := Lib.hid hlu
    have HP := Lib.hid hp
    obtain ⟨w0, hw0⟩ : ∃ x, x = wr := ⟨_, rfl⟩
    subst hw0
    clear hmr hst hkp hlu hp
    by_cases hlt : k < k0
    · have hkc : k < c := by omega
      go_wp2_with fail
      go_loop [10, 11] (fun x i => ∃ (t : Nat) (v : Int), p ≤ t ∧ t ≤ r ∧ i = .int .i64 (t : Int) ∧ x = .int .i64 v ∧ Last h p k t v) (fun _ i => r - (intOf i).toNat)
      case atStart => exact ⟨p, -1, Nat.le_refl _, hpr, rfl, rfl, Last.start _ _ _⟩
      case round =>
        obtain ⟨t, v, hpt, htr, rfl, rfl, hla⟩ := hrel
        have HLA := Lib.hid hla
        by_cases hlt2 : t < r
        · have z1 := HM.out.mat.weak.head hlt2
          have z2 := HM.out.mat.weak.el hlt2 hkc
          by_cases h0 : h t k = 0
          · rw [h0, show (((0 : Fp.F).val : Nat) : Int) = 0 from rfl] at z2
            have HL2 := Lib.hid (hla.zero h0)
            clear hla h0
            go_wp2_with fail
            go_round
            case rel => exact ⟨t + 1, v, by omega, by omega, by go_num, rfl, HL2.out⟩
            case measure => simp [intOf]; omega
          · have HL2 := Lib.hid (Last.hit hpt h0)
            have hv := Fp.ne_val h0
            have e1 : (((h t k).val : Int) != 0) = true := by rw [bne_iff_ne]; omega
            generalize ((h t k).val : Int) = z at *
            clear hla h0 hv
            go_wp2_with fail
            go_round
            case rel => exact ⟨t + 1, t, by omega, by omega, by go_num, rfl, HL2.out⟩
            case measure => simp [intOf]; omega
        · obtain rfl : t = r := by omega
          rcases hla with ⟨rfl, hz⟩ | ⟨a, rfl, hpa, har, h0⟩
          · have HS2 := Lib.hid (HS.out.skip fun i h1 h2 => hz i (by rw [HP.out]; exact h1) h2)
            clear hz
            go_wp2_with fail
            go_roundw
            case rel => exact ⟨k + 1, b, h, G, C, by omega, by go_num, HS2.out, HM.out, HK.out⟩
            case measure => simp [intOf]; omega
          · have hpr' : p < t := by omega
            clear hlt2 htr hpt
            obtain ⟨r, hrr⟩ : ∃ r, r = t := ⟨_, rfl⟩
            subst hrr
            have y1 := HM.out.mat.weak.head har
            have y2 := HM.out.mat.weak.head hpr'
            have y3 := HM.out.mat.weak.topFree a
            have hBg := HM.out.mat.weak.topLe.1
            have HWA := Lib.hid (HM.out.mat.weak.set har (HM.out.mat.weak.row p hpr'))
            have HRA := Lib.hid (own_store (HM.out.mat.weak.row a har) (a := ⟨g, a, none⟩) (HM.out.mat.weak.apartTop har) (Value.slice (some ⟨G p, 0, none⟩) c (C p)))
            have HKA := Lib.hid (HK.out.put (p := ⟨g, a, none⟩) hBg (Value.slice (some ⟨G p, 0, none⟩) c (C p)))
            have y4 := own_cell HRA.out k (by rw [Mx.len_row]; exact hkc)
            rw [Mx.row_at _ _ _ hkc] at y4
            have PO := Lib.hid (fun w => refPow_any 9971 (h a k) 9971 w (Nat.le_refl _) (by decide))
            unfold el at PO
            change Hid (∀ w, Calls Tryd.prog 32 #[.int .i64 ((h a k).val : Int), .int .i64 9971] w fun e w' => e = .returned (.int .i64 ((Fp.inv (h a k)).val : Int)) ∧ w = w') at PO
            obtain ⟨pv, hpv⟩ : ∃ pv, pv = ((h a k).val : Int) := ⟨_, rfl⟩
            rw [← hpv] at y4 PO
            clear hpv
            go_wp2_with fail
            refine (PO.out _).mono ?_; rintro e w' ⟨rfl, rfl⟩
            clear y1 y2 y3 y4
            obtain ⟨wA, hwA⟩ : ∃ x, x = w0.setCell ⟨g, a, none⟩ (.slice (some ⟨G p, 0, none⟩) c (C p)) := ⟨_, rfl⟩
            rw [← hwA] at HWA HRA HKA ⊢
            have HEA := Lib.hid hwA
            have hszA : w0.heap.size = wA.heap.size := by rw [hwA]; exact size_set _ _ _
            have HSZ := Lib.hid hszA
            clear hwA hszA
            obtain ⟨iv, hiv⟩ : ∃ iv, iv = ((Fp.inv (h a k)).val : Int) := ⟨_, rfl⟩
            rw [← hiv]
            have HIV := Lib.hid hiv
            clear hiv
            go_wp2_with fail
            go_loopw [14, 15] (fun q i wq => ∃ t : Nat, t ≤ c ∧ i = .int .i64 (t : Int) ∧ Own wq wA.heap.size q (Mx.row t fun j => ((h a j * Fp.inv (h a k)).val : Int)) ∧ Kp wA wq) (fun _ i _ => c - (intOf i).toNat)
            case atStart => exact ⟨0, Nat.zero_le _, rfl, Own.none _ _, Kp.rfl' _⟩
            case round =>
              obtain ⟨t, htc, rfl, hu, hkq⟩ := hrel
              have HU := Lib.hid hu
              have HQ := Lib.hid hkq
              obtain ⟨wd, hwd⟩ : ∃ x, x = wr := ⟨_, rfl⟩
              subst hwd
              by_cases hlt3 : t < c
              · have z1 := own_cell (HRA.out.kp hkq) t (by rw [Mx.len_row]; exact hlt3)
                rw [Mx.row_at _ _ _ hlt3] at z1
                have hb := rprod (h a t) (Fp.inv (h a k))
                have hm := mod_times (h a t) (Fp.inv (h a k))
                have hlen : (Mx.row t fun j => ((h a j * Fp.inv (h a k)).val : Int)).length + 1 ≤ 17000000000000 := by rw [Mx.len_row]; omega
                have HSN := Lib.hid (Mx.row_snoc t fun j => ((h a j * Fp.inv (h a k)).val : Int))
                rw [← HIV.out] at hb hm
                obtain ⟨z, hz⟩ : ∃ z, z = ((h a t * Fp.inv (h a k)).val : Int) := ⟨_, rfl⟩
                rw [← hz] at hm HSN
                generalize ((h a t).val : Int) = x at *
                have hwm : IntKind.i64.wrap (x * iv) = x * iv := IntWalk.i64_in _ (by omega)
                have MO := Lib.hid (fun w => rMod_any (x * iv) w (by omega) (by omega))
                rw [hm] at MO
                have hsz := HQ.out.size
                clear hu hkq hb hm hz
                go_wp2_with fail
                refine (MO.out _).mono ?_; rintro e w' ⟨rfl, rfl⟩
                go_wp2_with (at_builtin; refine wpList_push rfl _ _ rfl wA.heap.size _ (Mx.row t fun j => ((h a j * Fp.inv (h a k)).val : Int)) z wd.heap.size 1 rfl rfl (HU.out.new _) (by simp; done) hlen (Nat.le_trans hsz ((Kp.rfl' _).new _).size) ?_; intro v' w' h1 h2 _)
                have HU' := Lib.hid h1
                have HQ' := Lib.hid (own_below (HU.out.new _) (HQ.out.new _) (Nat.le_trans hsz ((Kp.rfl' _).new _).size) h2)
                clear h1 h2
                go_wp2_with fail
                go_roundw
                case rel => exact ⟨t + 1, by omega, by go_num, by rw [HSN.out]; exact HU'.out, HQ'.out⟩
                case measure => simp [intOf]; omega
              · obtain rfl : t = c := by omega
                obtain ⟨go, co, rfl, hgo, hgc⟩ := own_some hu (by rw [Mx.len_row]; exact hc0)
                rw [Mx.len_row] at HU hgc ⊢
                have z1 := (HWA.out.kp hkq).head hpr'
                have z2 := (HWA.out.kp hkq).topFree p
                have RH := HM.out.rehead har hpr' (w' := wd) (by rw [← HEA.out]; exact hkq) (by rw [HSZ.out]; exact HU.out)
                obtain ⟨H, hH⟩ : ∃ H : Nat → Nat → Fp.F, H = fun i => if i = a then h p else if i = p then h a else h i := ⟨_, rfl⟩
                have hHp : H p = h a := by
                  rw [hH]
                  show (if p = a then h p else if p = p then h a else h p) = h a
                  by_cases e : p = a
                  · rw [if_pos e, e]
                  · rw [if_neg e, if_pos rfl]
                obtain ⟨G', hG'⟩ : ∃ G' : Nat → Nat, G' = fun i => if i = p then go else if i = a then G p else G i := ⟨_, rfl⟩
                obtain ⟨C', hC'⟩ : ∃ C' : Nat → Nat, C' = fun i => if i = p then co else if i = a then C p else C i := ⟨_, rfl⟩
                rw [← hG', ← hC'] at RH
                have RH := RH.ext (f' := fun i j => ((clnTo H p k 0 i j).val : Int)) fun i j _ _ => by
                  unfold clnTo
                  by_cases e1 : i = p
                  · simp only [if_pos e1, hHp]
                  · simp only [if_neg e1, hH, Nat.not_lt_zero, if_false]
                    by_cases e2 : i = a
                    · simp only [if_pos e2]
                    · simp only [if_neg e2]
                have eg : G' p = go := by rw [hG']; exact if_pos rfl
                have ec : C' p = co := by rw [hC']; exact if_pos rfl
                have HS2 := HS.out.next (a := a) (by rw [← HP.out]; exact hpa) har h0
                rw [← HP.out, ← cln_nxt, ← hH] at HS2
                have HS2 := Lib.hid HS2
                have HKD := Lib.hid ((HKA.out.trans hkq).put (p := ⟨g, p, none⟩) hBg (.slice (some ⟨go, 0, none⟩) t co))
                clear hG' hC' hH hHp hu hkq h0 hgo hgc
                subst eg ec
                have RH := Lib.hid RH
                go_wp2_with fail
                obtain ⟨wC, hwC⟩ : ∃ x, x = wd.setCell ⟨g, p, none⟩ (.slice (some ⟨G' p, 0, none⟩) t (C' p)) := ⟨_, rfl⟩
                rw [← hwC] at RH HKD ⊢
                clear hwC z1 z2 HU HQ HEA HSZ HIV HWA HRA HKA PO
                obtain ⟨c, hcc⟩ : ∃ c, c = t := ⟨_, rfl⟩
                subst hcc
                go_loopw [16] (fun i wq => ∃ t : Nat, t ≤ r ∧ i = .int .i64 (t : Int) ∧ MatRow wq w.heap.size g gc G' C' r c (fun i j => ((clnTo H p k t i j).val : Int)) (.slice Au p du) (cols b) ∧ Kp w wq) (fun i _ => r - (intOf i).toNat)
                case atStart => exact ⟨0, Nat.zero_le _, rfl, RH.out, HKD.out⟩
                case round =>
                  obtain ⟨t, htr, rfl, hmr, hkq⟩ := hrel
                  have HM2 := Lib.hid hmr
                  have HK2 := Lib.hid hkq
                  obtain ⟨wt, hwt⟩ : ∃ x, x = wr := ⟨_, rfl⟩
                  subst hwt
                  clear hmr hkq
                  by_cases hlt4 : t < r
                  · by_cases htp : t = p
                    · subst htp
                      have e1 : ((t : Int) != (t : Int)) = false := by simp
                      go_wp2_with fail
                      go_roundw
                      case rel => exact ⟨t + 1, by omega, by go_num, HM2.out.ext (fun i j _ _ => by rw [clnTo_same]), HK2.out⟩
                      case measure => simp [intOf]; omega
                    · have e1 : ((t : Int) != (p : Int)) = true := by rw [bne_iff_ne]; omega
                      have z1 := HM2.out.mat.weak.head hlt4
                      have z2 := HM2.out.mat.weak.el hlt4 hkc
                      have ht0 : ∀ j, clnTo H p k t t j = H t j := fun j => by unfold clnTo; rw [if_neg htp, if_neg (by omega)]
                      have ht1 : ∀ j, clnTo H p k (t + 1) t j = H t j - H t k * (H p j * Fp.inv (H p k)) := fun j => by unfold clnTo; rw [if_neg htp, if_pos (by omega)]
                      have ht2 : ∀ j, clnTo H p k t p j = H p j * Fp.inv (H p k) := fun j => by unfold clnTo; rw [if_pos rfl]
                      have ht3 : ∀ i j, i ≠ t → clnTo H p k (t + 1) i j = clnTo H p k t i j := fun i j hi => by
                        unfold clnTo
                        by_cases e : i = p
                        · rw [if_pos e, if_pos e]
                        · rw [if_neg e, if_neg e]
                          by_cases e2 : i < t
                          · rw [if_pos e2, if_pos (by omega)]
                          · rw [if_neg e2, if_neg (by omega)]
                      rw [ht0] at z2
                      have HT0 := Lib.hid ht0
                      have HT1 := Lib.hid ht1
                      have HT2 := Lib.hid ht2
                      have HT3 := Lib.hid ht3
                      have HTP := Lib.hid htp
                      obtain ⟨fv, hfv⟩ : ∃ fv, fv = ((H t k).val : Int) := ⟨_, rfl⟩
                      rw [← hfv] at z2
                      have HFV := Lib.hid hfv
                      clear htp ht0 ht1 ht2 ht3 hfv
                      go_wp2_with fail
                      go_loopw [18] (fun i wz => ∃ s : Nat, s ≤ c ∧ i = .int .i64 (s : Int) ∧ MatRow wz w.heap.size g gc G' C' r c (fun x y => if x = t ∧ y < s then ((clnTo H p k (t + 1) x y).val : Int) else ((clnTo H p k t x y).val : Int)) (.slice Au p du) (cols b) ∧ Kp w wz) (fun i _ => c - (intOf i).toNat)
                      case atStart => exact ⟨0, Nat.zero_le _, rfl, HM2.out.ext (fun x y _ _ => by rw [if_neg (by omega)]), HK2.out⟩
                      case round =>
                        obtain ⟨s, hs, rfl, hmz, hkz⟩ := hrel
                        have HM3 := Lib.hid hmz
                        have HK3 := Lib.hid hkz
                        clear hmz hkz z1 z2
                        by_cases hlt5 : s < c
                        · have x1 := HM3.out.mat.weak.head hlt4
                          have x2 := HM3.out.mat.weak.el hlt4 hlt5
                          have x3 := HM3.out.mat.weak.el hpr' hlt5
                          have x4 := HM3.out.mat.weak.free hlt4 s
                          have x5 := (HM3.out.mat.weak.lt hlt4).1
                          rw [if_neg (by omega), HT0.out] at x2
                          rw [if_neg (by have := HTP.out; omega), HT2.out] at x3
                          have hb := rprod (H t k) (H p s * Fp.inv (H p k))
                          have hm := mod_less (H t s) (H t k) (H p s * Fp.inv (H p k))
                          have hv := rval (H t s)
                          rw [← HFV.out] at hb hm
                          rw [← HT1.out] at hm
                          obtain ⟨z, hz⟩ : ∃ z, z = ((clnTo H p k (t + 1) t s).val : Int) := ⟨_, rfl⟩
                          rw [← hz] at hm
                          have HZ := Lib.hid hz
                          generalize ((H t s).val : Int) = u0 at *
                          generalize ((H p s * Fp.inv (H p k)).val : Int) = ov at *
                          have hwm : IntKind.i64.wrap (fv * ov) = fv * ov := IntWalk.i64_in _ (by omega)
                          have hws : IntKind.i64.wrap (u0 - fv * ov) = u0 - fv * ov := IntWalk.i64_in _ (by omega)
                          have MO := Lib.hid (fun w => rMod_any (u0 - fv * ov) w (by omega) (by omega))
                          rw [hm] at MO
                          have HX5 := Lib.hid x5
                          clear hb hm hv hz x5
                          go_wp2_with fail
                          refine wp_region_still_tail 21 (by kernel_rfl) (by kernel_rfl) ?_
                          simp only [List.take_succ_cons, List.take_zero, List.drop_succ_cons, List.drop_zero]
                          repeat still_step
                          still_call ((MO.out _).mono fun _ _ h => ⟨h.1, h.2.symm⟩)
                          repeat still_step
                          refine wpStill_nil ?_
                          change wpList _ _ _ _ _ wr.drew
                          go_wp2_with fail
                          go_roundw
                          case rel =>
                            refine ⟨s + 1, by omega, by go_num, ((HM3.out.drewN 1).put hlt4 s z).ext (fun x y hx hy => ?_), (HK3.out.drewN 1).put (p := ⟨G' t, s, none⟩) HX5.out _⟩
                            by_cases e : x = t ∧ y = s
                            · rw [if_pos e, if_pos (by omega), e.1, e.2]; exact HZ.out
                            · rw [if_neg e]
                              by_cases e2 : x = t ∧ y < s
                              · rw [if_pos e2, if_pos (by omega)]
                              · rw [if_neg e2, if_neg (by omega)]
                          case measure => simp [intOf]; omega
                        · obtain rfl : s = c := by omega
                          have HM4 := Lib.hid (HM3.out.ext (f' := fun i j => ((clnTo H p k (t + 1) i j).val : Int)) (fun x y _ hy => by
                            by_cases e : x = t
                            · rw [if_pos ⟨e, hy⟩]
                            · rw [if_neg (fun h => e h.1), HT3.out x y e]))
                          go_wp2_with fail
                          go_roundw
                          case rel => exact ⟨t + 1, by omega, by go_num, HM4.out, HK3.out⟩
                          case measure => simp [intOf]; omega
                  · obtain rfl : t = r := by omega
                    have HM5 := Lib.hid (HM2.out.ext (f' := fun i j => ((cln H p k i j).val : Int)) (fun i j hi _ => by
                      unfold clnTo cln
                      by_cases e : i = p
                      · rw [if_pos e, if_pos e]
                      · rw [if_neg e, if_neg e, if_pos hi]))
                    have hsz := HK2.out.size
                    have HSN := Lib.hid (cols_snoc b k)
                    have hlen : (cols b).length + 1 ≤ 17000000000000 := by rw [len_cols, ← HP.out]; omega
                    obtain ⟨we, hwe⟩ : ∃ x, x = wt := ⟨_, rfl⟩
                    subst hwe
                    go_wp2_with (at_builtin; refine wpList_push rfl _ _ rfl w.heap.size _ (cols b) (k : Int) we.heap.size 1 rfl rfl (HM5.out.row.new _) (by simp; done) hlen (Nat.le_trans hsz ((Kp.rfl' _).new _).size) ?_; intro v' w3 h1 h2 h3)
                    have HM6 := Lib.hid ((HM5.out.kp ((Kp.rfl' _).new _)).push h1 h2 h3)
                    have HK6 := Lib.hid (own_below (HM5.out.row.new _) (HK2.out.new _) (Nat.le_trans hsz ((Kp.rfl' _).new _).size) h2)
                    clear h1 h2 h3
                    go_wp2_with fail
                    go_roundw
                    case rel => exact ⟨k + 1, b ++ [k], cln H p k, G', C', by omega, by go_num, HS2.out, by rw [HSN.out]; exact HM6.out, HK6.out⟩
                    case measure => simp [intOf]; omega
    · obtain rfl : k = k0 := by omega
      have HL2 := Lib.hid (HM.out.mat.liesM)
      go_wp2_with fail
      go_ret2
      exact ⟨b, h, some ⟨g, 0, none⟩, gc, Au, du, HS.out, by rw [← HP.out]; rfl, HL2.out, HL.out, HK.out⟩
end Go.Proofs.YtpffekaldpllkaaDoor

/- Contracts of the document's Null and Solve. -/
namespace Go.Proofs.YtpffekaldpllkaaDoor
open Go.ChangeShapes Go.WideShapes Go.ChangeAt Go.RowKit
set_option linter.unusedVariables false

theorem neg_emod (a : Fp.F) : (-(a.val : Int)) % 9973 = ((-a : Fp.F).val : Int) := by
  have h := neg_mod a
  have hb := gval a
  rw [Int.tmod_eq_emod_of_nonneg (by omega)] at h
  omega
/-- What is taken to noughts, as the document's answer has it. -/
def MadeNull (r c : Nat) (f : Nat → Nat → Fp.F) (w : World) (e : Ending) (w' : World) : Prop :=
  ∃ b g A d, Stair r c c f b g ∧ e = .returned (.slice A (Mx.fr b c).length d) ∧ LiesM w' A (Mx.matl (Mx.fr b c).length c (Mx.nm b g c)) ∧ Kp w w'
/-- The one answer, as the document's answer has it. -/
def MadeSol (r c : Nat) (f : Nat → Nat → Fp.F) (ys : Nat → Fp.F) (w : World) (e : Ending) (w' : World) : Prop :=
  ∃ b g, Stair r c c f b g ∧ ((∃ x A d, Mx.Ans r c f ys b x ∧ e = .returned (.tuple #[.slice A c d, .bool true]) ∧ Lies w' A (rowF c x) ∧ Kp w w') ∨
    (Mx.NoAns r c f ys ∧ e = .returned (.tuple #[.slice none 0 0, .bool false]) ∧ Kp w w'))


set_option maxRecDepth 100000 in
set_option maxHeartbeats 6400000 in
theorem rSolve_any (A : Option Addr) (f : Nat → Nat → Fp.F) (r c d : Nat) (Y : Option Addr) (ys : Nat → Fp.F) (dy : Nat) (w : World) (ha : LiesM w A (Mx.matl r c f)) (hy : Lies w Y (rowF r ys)) (hr0 : 0 < r) (hr : r ≤ 1000) (hc0 : 0 < c) (hc : c ≤ 999) :
    Calls Tryd.prog 18 #[.slice A r d, .slice Y r dy] w fun e w' => MadeSol r c f ys w e w' := by
  obtain ⟨i0, hi, hz0, hz1, hz2⟩ := info_parts int_info
  obtain ⟨ad, A0, d0, rfl, hlad, x1, _, l0⟩ := ha.row hr0
  rw [add_zero'] at x1
  have X1 := Lib.hid x1
  have HA := Lib.hid ha
  have HY := Lib.hid hy
  clear ha l0 hlad hy x1
  go_enter Tryd.func18, Tryd.ntmps18
  go_wp2_with fail
  go_loopw [6, 7] (fun v i wr => ∃ (k : Nat) (G C : Nat → Nat), k ≤ r ∧ i = .int .i64 (k : Int) ∧ OwnM wr w.heap.size v G C (Mx.matl k (c + 1) (Mx.aug c f ys)) ∧ Kp w wr) (fun _ i _ => r - (intOf i).toNat)
  case atStart => exact ⟨0, fun _ => 0, fun _ => 0, Nat.zero_le _, rfl, ownM_none _ _ _ _, Kp.rfl' _⟩
  case round =>
    obtain ⟨k, G, C, hk, rfl, ho, hkp⟩ := hrel
    have HO := Lib.hid ho
    have HK := Lib.hid hkp
    by_cases hlt : k < r
    · obtain ⟨ad1, A1, d1, e1, _, x2, _, l1⟩ := (HA.out.keep hkp).row hlt
      obtain rfl := Option.some.inj e1
      obtain ⟨yd, rfl, _, y2⟩ := (HY.out.keep hkp).el hlt
      have HSR := Lib.hid (show Mx.row c (fun j => ((f k j).val : Int)) ++ [((ys k).val : Int)] = rowF (c + 1) (Mx.aug c f ys k) from by
        rw [show rowF (c + 1) (Mx.aug c f ys k) = rowF c (Mx.aug c f ys k) ++ [((Mx.aug c f ys k c).val : Int)] from Mx.row_snoc _ _, show Mx.aug c f ys k c = ys k from if_pos rfl]
        congr 1
        exact Mx.row_ext fun j hj => by rw [show Mx.aug c f ys k j = f k j from if_neg (by omega)])
      have HS := Lib.hid (show Mx.matl (k + 1) (c + 1) (Mx.aug c f ys) = Mx.matl k (c + 1) (Mx.aug c f ys) ++ [rowF (c + 1) (Mx.aug c f ys k)] by rw [Mx.matl, Mx.tab_snoc]; rfl)
      have L1 := Lib.hid l1
      have Y2 := Lib.hid y2
      have hylt := cell_lt y2
      clear ho hkp l1 y2
      obtain ⟨yv, hyv⟩ : ∃ yv, yv = ((ys k).val : Int) := ⟨_, rfl⟩
      rw [← hyv] at HSR Y2
      clear hyv
      go_wp2_with (first
        | (at_builtin; refine wpList_cat rfl _ _ rfl wr.heap.size _ [] (Mx.row c fun j => ((f k j).val : Int)) A1 c d1 rfl rfl (Mx.len_row _ _).symm (Own.none _ _) L1.out (by rw [Mx.len_row]; simp; omega) (Nat.le_refl _) ?_; intro v1 w2 h1 h2 _; have kp2 : Kp wr w2 := own_below (Own.none wr wr.heap.size) (Kp.rfl' _) (Nat.le_refl _) h2; rw [List.nil_append] at h1; have HU := Lib.hid h1; have HQ := Lib.hid kp2; have y3 := (kp2.cell (p := yd.add k) hylt).trans Y2.out; clear h1 h2 kp2)
        | (at_builtin; refine wpList_push rfl _ _ rfl wr.heap.size _ (Mx.row c fun j => ((f k j).val : Int)) yv _ 1 rfl rfl (HU.out.new _) (cell_made _ _ _ _ 0 rfl) (by rw [Mx.len_row]; omega) (Nat.le_trans HQ.out.size ((Kp.rfl' _).new _).size) ?_; intro v2 w3 h1 h2 _; have kp3 : Kp wr w3 := own_below (HU.out.new _) (HQ.out.new _) (Nat.le_trans HQ.out.size ((Kp.rfl' _).new _).size) h2; rw [HSR.out] at h1; obtain ⟨g3, gc3, rfl, hg3, hgc3⟩ := own_some h1 (by rw [Mx.len_row]; omega); rw [Mx.len_row] at h1 hgc3 ⊢; have HU3 := Lib.hid h1; have HQ3 := Lib.hid kp3; have OM := Lib.hid (HO.out.kp kp3); have HAP := Lib.hid (show ∀ i, i < (Mx.matl k (c + 1) (Mx.aug c f ys)).length → G i ≠ g3 from fun i hi => by have := (HO.out.lt hi).2; omega); clear h1 h2 kp3)
        | (at_builtin; refine wpList_pushM rfl _ _ rfl w.heap.size _ G C (Mx.matl k (c + 1) (Mx.aug c f ys)) _ g3 (c + 1) gc3 _ 1 (Mx.len_row _ _) rfl rfl (OM.out.new _) (cell_made _ _ _ _ 0 rfl) ((HU3.out.from HK.out.size).new _) HAP.out (by rw [Mx.len_matl]; omega) (Nat.le_trans HK.out.size (Nat.le_trans HQ3.out.size ((Kp.rfl' _).new _).size)) ?_; intro v' w' G' C' ho' hk'))
      rw [← HS.out] at ho'
      have HO' := Lib.hid ho'
      have HK' := Lib.hid (hk' w (Nat.le_refl _) ((HK.out.trans HQ3.out).new _))
      clear ho' hk'
      go_wp2_with fail
      go_roundw
      case rel => exact ⟨k + 1, G', C', by omega, by go_num, HO'.out, HK'.out⟩
      case measure => simp [intOf]; omega
    · obtain rfl : k = r := by omega
      obtain ⟨A5, d5, rfl, hl5, _⟩ := ho.lies
      rw [Mx.len_matl]
      have x1 := (hkp.cell (p := ad) (cell_lt X1.out)).trans X1.out
      have STP := Lib.hid (rStairs_any A5 (Mx.aug c f ys) k (c + 1) c d5 wr hl5 hr0 (by omega) hr (by omega) (by omega))
      clear ho hkp hl5
      obtain ⟨w1, hw1⟩ : ∃ x, x = wr := ⟨_, rfl⟩
      subst hw1
      go_wp2_with fail
      refine (STP.out).mono ?_; rintro e w2 ⟨b, g, B1, e1, B2, e2, hs, rfl, l1, l2, k2⟩
      have hble := hs.le
      obtain ⟨p, hp⟩ : ∃ p, p = b.length := ⟨_, rfl⟩
      rw [← hp] at hble ⊢
      obtain ⟨c1, hc1⟩ : ∃ c1, c1 = c + 1 := ⟨_, rfl⟩
      rw [← hc1] at l1
      have hcc : c < c1 := by omega
      have HP := Lib.hid hp
      have ST := Lib.hid hs
      have L1 := Lib.hid l1
      have L2 := Lib.hid l2
      have K2 := Lib.hid (HK.out.trans k2)
      clear hc1
      have SF := Lib.hid (show Stair k c c f b g from ⟨hs.steps, (Mx.Req.of k c (Mx.aug_less k c f ys)).trans (hs.req.less (by omega))⟩)
      clear hs l1 l2 k2 hp x1
      go_wp2_with (at_make; refine wpList_make_full _ rfl _ _ 22 rfl w2.heap.size 3 i0 (.int .i64 0) 1 Tryd.underlying22 hi hz0 hz1 _ _ _ _ c rfl rfl rfl rfl (by rw [hz2]; omega) (by unfold maxLen; omega) (Nat.le_refl _) ?_; intro w3 hown hgrow; have hkp2 : Kp w2 w3 := (Kp.rfl' w2).grown hgrow (by simp) (fun k hk => by cases hk); have hrow := row_made hown)
      have HR3 := Lib.hid (show Row w3 w2.heap.size (rowF c (Mx.ov b g c 0)) by
        rw [Mx.row_rep] at hrow
        exact hrow)
      have K3 := Lib.hid hkp2
      clear hrow hown hgrow hkp2
      obtain ⟨gu, hgu⟩ : ∃ gu, gu = w2.heap.size := ⟨_, rfl⟩
      rw [← hgu] at HR3 ⊢
      have HGU := Lib.hid (Nat.le_of_eq hgu.symm)
      clear hgu
      go_wp2_with fail
      go_loopw [13] (fun i wr => ∃ t : Nat, t ≤ k ∧ i = .int .i64 (t : Int) ∧ (∀ s, p ≤ s → s < t → g s c = 0) ∧ Row wr gu (rowF c (Mx.ov b g c (min t p))) ∧ Kp w2 wr) (fun i _ => k - (intOf i).toNat)
      case atStart => exact ⟨0, Nat.zero_le _, rfl, fun s h1 h2 => absurd h2 (by omega), by rw [Nat.zero_min]; exact HR3.out, K3.out⟩
      case round =>
        obtain ⟨t, ht, rfl, hz, hrow, hkw⟩ := hrel
        have HZ := Lib.hid hz
        clear hz
        by_cases hlt2 : t < k
        · obtain ⟨ad3, A3, d3, rfl, _, x3, _, l3⟩ := (L1.out.keep hkw).row hlt2
          obtain ⟨ad4, rfl, _, x4⟩ := l3.el hcc
          have hb := gval (g t c)
          by_cases hlt3 : t < p
          · obtain ⟨ad2, rfl, _, x2⟩ := (L2.out.keep hkw) t (by rw [len_cols, ← HP.out]; exact hlt3)
            rw [cols_el b (by rw [← HP.out]; exact hlt3)] at x2
            have hj := ST.out.steps.lt t (by rw [← HP.out]; exact hlt3)
            have y1 := hrow.cell (Mx.pv b t) (by rw [Mx.len_row]; exact hj)
            have y2 := hrow.free (Mx.pv b t)
            rw [Mx.row_at _ _ _ hj] at y1
            have HN := Lib.hid (show Row (wr.drew.setCell ⟨gu, Mx.pv b t, none⟩ (.int .i64 ((g t c).val : Int))) gu (rowF c (Mx.ov b g c (min (t + 1) p))) from by
              have h := (hrow.drewN 1).put (Mx.pv b t) ((g t c).val : Int)
              rw [Mx.row_set, Nat.min_eq_left (by omega)] at h
              rw [Nat.min_eq_left (by omega)]
              rw [show rowF c (Mx.ov b g c (t + 1)) = Mx.row c fun j => if j = Mx.pv b t then ((g t c).val : Int) else ((Mx.ov b g c t j).val : Int) from Mx.row_ext fun j _ => by
                show (((if j = Mx.pv b t then g t c else Mx.ov b g c t j) : Fp.F).val : Int) = _
                by_cases e : j = Mx.pv b t
                · rw [if_pos e, if_pos e]
                · rw [if_neg e, if_neg e]]
              exact h)
            have HKW := Lib.hid ((hkw.drewN 1).put (p := ⟨gu, Mx.pv b t, none⟩) HGU.out (.int .i64 ((g t c).val : Int)))
            have HZ2 := Lib.hid (show ∀ s, p ≤ s → s < t + 1 → g s c = 0 from fun s h1 h2 => absurd h2 (by omega))
            generalize ((Mx.ov b g c (min t p) (Mx.pv b t)).val : Int) = old at *
            generalize ((g t c).val : Int) = gv at *
            generalize Mx.pv b t = q at *
            clear hrow hkw l3
            go_wp2_with fail
            refine wp_region_still_tail 13 (by kernel_rfl) (by kernel_rfl) ?_
            simp only [List.take_succ_cons, List.take_zero, List.drop_succ_cons, List.drop_zero]
            repeat still_step
            refine wpStill_nil ?_
            change wpList _ _ _ _ _ wr.drew
            go_wp2_with fail
            go_roundw
            case rel => exact ⟨t + 1, by omega, by go_num, HZ2.out, HN.out, HKW.out⟩
            case measure => simp [intOf]; omega
          · by_cases h0 : g t c = 0
            · have HZ2 := Lib.hid (show ∀ s, p ≤ s → s < t + 1 → g s c = 0 from fun s h1 h2 => by
                by_cases e : s = t
                · rw [e]; exact h0
                · exact HZ.out s h1 (by omega))
              have HN := Lib.hid (show Row wr gu (rowF c (Mx.ov b g c (min (t + 1) p))) by
                rw [Nat.min_eq_right (by omega)] at hrow ⊢; exact hrow)
              have HKW := Lib.hid hkw
              rw [h0] at x4
              have e0 : (((0 : Fp.F).val : Int) != 0) = false := rfl
              clear hrow hkw l3 h0 hb
              go_wp2_with fail
              go_roundw
              case rel => exact ⟨t + 1, by omega, by go_num, HZ2.out, HN.out, HKW.out⟩
              case measure => simp [intOf]; omega
            · have NO := Lib.hid (Mx.aug_not ST.out.steps ST.out.req (by rw [← HP.out]; omega) hlt2 h0)
              have hne : ((g t c).val : Int) ≠ 0 := fun e => h0 (Fin.ext (show (g t c).val = 0 by omega))
              have HKW := Lib.hid (K2.out.trans hkw)
              generalize ((g t c).val : Int) = gv at *
              have e0 : (gv != 0) = true := by simpa using hne
              clear hrow hkw l3 h0 hb hne
              go_wp2_with fail
              go_ret2
              exact ⟨b, g, SF.out, .inr ⟨NO.out, rfl, HKW.out⟩⟩
        · obtain rfl : t = k := by omega
          have AN := Lib.hid (Mx.aug_ans ST.out.steps ST.out.req (fun i h1 h2 => HZ.out i (by rw [HP.out]; exact h1) h2))
          have HL := Lib.hid hrow.lies
          rw [Nat.min_eq_right hble, HP.out] at HL
          have HKW := Lib.hid (K2.out.trans hkw)
          clear hrow hkw
          go_wp2_with fail
          go_ret2
          exact ⟨b, g, SF.out, .inl ⟨_, _, c, AN.out, rfl, HL.out, HKW.out⟩⟩
end Go.Proofs.YtpffekaldpllkaaDoor

/- The document's answer on the fewest factors: Fewest. -/
namespace Go.Proofs.YtpffekaldpllkaaDoor
open Go.ChangeShapes Go.WideShapes Go.ChangeAt Go.RowKit
set_option linter.unusedVariables false

/-- The conditions on n factors: row i has the n numbers before the one at n + i, the last one first. -/
def eqm (n : Nat) (x : Nat → Fp.F) : Nat → Nat → Fp.F := fun i b => x (n + i - 1 - b)
theorem eqm_gn {N n : Nat} (h : n ≤ N) (x v : Nat → Fp.F) : (∀ i, i < N - n → Mx.tov n (eqm n x) v i = x (n + i)) ↔ Mx.Gn N n v x := by
  constructor
  · intro hh t h1 h2
    have := hh (t - n) (by omega)
    rw [show n + (t - n) = t by omega] at this
    rw [← this]
    exact Mx.sg_congr fun k hk => by
      show x (n + (t - n) - 1 - k) * v k = _
      rw [show n + (t - n) = t by omega]; grind
  · intro hg i hi
    rw [hg (n + i) (by omega) (by omega)]
    exact Mx.sg_congr fun k hk => by
      show x (n + i - 1 - k) * v k = _
      grind
theorem zero_row (N : Nat) : List.replicate N (0 : Int) = rowF N fun _ => 0 := by rw [Mx.row_rep]; rfl

/-- The fewest factors, as the document's answer has them. -/
def MadeF (N : Nat) (x : Nat → Fp.F) (w : World) (e : Ending) (w' : World) : Prop := ∃ B l d f, e = .returned (.slice B l d) ∧ Lies w' B (rowF l f) ∧ Mx.Few N l x ∧ Mx.Gn N l f x ∧ Kp w w'
theorem MadeF.of {N : Nat} {x : Nat → Fp.F} {w w' : World} {e : Ending} (B : Option Addr) (l d : Nat) (f : Nat → Fp.F) (he : e = .returned (.slice B l d)) (hl : Lies w' B (rowF l f)) (hg : Mx.Gn N l f x) (hno : ∀ m, m < l → ¬ ∃ e, Mx.Gn N m e x) (hk : Kp w w') : MadeF N x w e w' := by
  unfold MadeF; exact ⟨B, l, d, f, he, hl, ⟨⟨f, hg⟩, hno⟩, hg, hk⟩

set_option maxRecDepth 100000 in
set_option maxHeartbeats 12800000 in
theorem rFewest_any (A : Option Addr) (N c : Nat) (x : Nat → Fp.F) (w : World) (ha : Lies w A (rowF N x)) (hN : N ≤ 16) :
    Calls Tryd.prog 8 #[.slice A N c] w fun e w' => MadeF N x w e w' := by
  have HA := Lib.hid ha
  obtain ⟨i0, hi', hz0, hz1, hz2⟩ := info_parts int_info
  clear ha
  go_enter Tryd.func8, Tryd.ntmps8
  go_wp2_with fail
  go_loopw [2, 3, 4, 5, 6, 7, 8, 9, 10] (fun _ u _ _ _ _ _ _ _ wr => ∃ k : Nat, k ≤ N ∧ u = .int .i64 (k : Int) ∧ (∀ m, m < k → ¬ ∃ e, Mx.Gn N m e x) ∧ Kp w wr) (fun _ u _ _ _ _ _ _ _ _ => N - (intOf u).toNat)
  case atStart => exact ⟨0, Nat.zero_le _, rfl, fun m hm => absurd hm (by omega), Kp.rfl' _⟩
  case round =>
    obtain ⟨n, hn, rfl, hno, hkp⟩ := hrel
    have HNO := Lib.hid hno
    have HK := Lib.hid hkp
    clear hno hkp
    obtain ⟨wo, hwo⟩ : ∃ y, y = wr := ⟨_, rfl⟩
    subst hwo
    by_cases hlt : n < N
    · have hI : (n : Int) < (N : Int) := by omega
      by_cases h0 : n = 0
      · have e0 : ((n : Int) == 0) = true := by rw [h0]; rfl
        by_cases hg : Mx.Gn N 0 (fun _ => 0) x
        · have GG := Lib.hid (rGoes_any A none N 0 c 0 x (fun _ => 0) wo (HA.out.keep HK.out) (Lies.empty _ _) hN (by omega) true ⟨fun _ => hg, fun _ => rfl⟩)
          have HG := Lib.hid hg
          clear hg h0
          go_wp2_with fail
          refine (GG.out).mono ?_; rintro e w1 ⟨rfl, k1⟩
          have K1 := Lib.hid (HK.out.trans k1)
          clear k1 GG
          go_wp2_with fail
          go_ret
          exact MadeF.of none 0 0 (fun _ => 0) rfl (Lies.empty _ _) HG.out (fun m hm => absurd hm (by omega)) K1.out
        · have GG := Lib.hid (rGoes_any A none N 0 c 0 x (fun _ => 0) wo (HA.out.keep HK.out) (Lies.empty _ _) hN (by omega) false ⟨fun h => (by cases h), fun h => absurd h hg⟩)
          have HNO' := Lib.hid (show ∀ m, m < n + 1 → ¬ ∃ e, Mx.Gn N m e x from fun m hm ⟨e, he⟩ => by
            obtain rfl : m = 0 := by omega
            exact hg (he.factors fun k hk => absurd hk (by omega)))
          clear hg h0
          go_wp2_with fail
          refine (GG.out).mono ?_; rintro e w1 ⟨rfl, k1⟩
          have K1 := Lib.hid (HK.out.trans k1)
          clear k1 GG
          go_wp2_with fail
          go_roundw
          case rel => exact ⟨n + 1, by omega, by go_num, HNO'.out, K1.out⟩
          case measure => simp [intOf]; omega
      · have e0 : ((n : Int) == 0) = false := by rw [beq_eq_false_iff_ne]; omega
        have hn0 : 0 < n := by omega
        clear h0
        go_wp2_with fail
        go_loopw [4, 5, 6, 7, 8] (fun vm vo u _ _ wr => ∃ (k : Nat) (t : Nat) (G C : Nat → Nat), k ≤ N - n ∧ t = n + k ∧ u = .int .i64 (t : Int) ∧ MatBy wo wr wo.heap.size k n G C (fun i b => ((eqm n x i b).val : Int)) vm vo (rowF k fun i => x (n + i))) (fun _ _ u _ _ _ => N - (intOf u).toNat)
        case atStart => exact ⟨0, n, fun _ => 0, fun _ => 0, Nat.zero_le _, rfl, rfl, MatBy.start _ _ _ _ _⟩
        case round =>
          obtain ⟨k, t, G, C, hk, ht, rfl, hm⟩ := hrel
          have HM := Lib.hid hm
          have HT := Lib.hid ht
          clear hm ht
          obtain ⟨wi, hwi⟩ : ∃ y, y = wr := ⟨_, rfl⟩
          subst hwi
          by_cases hkt : t < N
          · have htI : (t : Int) < (N : Int) := by omega
            have hwt : IntKind.i64.wrap ((t : Int) - 1) = (t : Int) - 1 := IntWalk.i64_in _ (by omega)
            go_wp2_with fail
            go_loopw [7, 8] (fun v u wr => ∃ j : Nat, j ≤ n ∧ u = .int .i64 (j : Int) ∧ Own wr wi.heap.size v (rowF j (eqm n x k)) ∧ Kp wi wr) (fun _ u _ => n - (intOf u).toNat)
            case atStart => exact ⟨0, Nat.zero_le _, rfl, Own.none _ _, Kp.rfl' _⟩
            case round =>
              obtain ⟨j, hj, rfl, ho, hkq⟩ := hrel
              have HO := Lib.hid ho
              have HKQ := Lib.hid hkq
              have hsz := hkq.size
              clear ho
              obtain ⟨wq, hwq⟩ : ∃ y, y = wr := ⟨_, rfl⟩
              subst hwq
              by_cases hjn : j < n
              · obtain ⟨b, hb⟩ : ∃ b, b = t - 1 - j := ⟨_, rfl⟩
                have hbN : b < N := by omega
                have e2 : (t : Int) - 1 - (j : Int) = (b : Int) := by have := HT.out; omega
                have hwf : IntKind.i64.wrap ((t : Int) - 1 - (j : Int)) = (b : Int) := by rw [e2]; exact IntWalk.i64_in _ (by omega)
                obtain ⟨ad, rfl, _, y1⟩ := (HA.out.keep (HK.out.trans (HM.out.kp.trans hkq))).el hbN
                have HS := Lib.hid (show rowF (j + 1) (eqm n x k) = rowF j (eqm n x k) ++ [((x b).val : Int)] by
                  rw [show b = n + k - 1 - j by rw [hb, HT.out]]; exact Mx.row_snoc _ _)
                have hlen : (rowF j (eqm n x k)).length + 1 ≤ 17000000000000 := by rw [Mx.len_row]; omega
                clear hkq hb e2
                generalize ((x b).val : Int) = y at *
                go_wp2_with (at_builtin; refine wpList_push rfl _ _ rfl wi.heap.size _ (rowF j (eqm n x k)) y wq.heap.size 1 rfl rfl (HO.out.new _) (by simp) hlen (by simp; omega) ?_; intro v' w' h1 h2 _; have HO' := Lib.hid (show Own w' wi.heap.size v' (rowF (j + 1) (eqm n x k)) by rw [HS.out]; exact h1); have HK' := Lib.hid (show Kp wi w' from own_below (HO.out.new _) (HKQ.out.new _) (Nat.le_trans hsz (by simp)) h2); clear h1 h2)
                go_roundw
                case rel => exact ⟨j + 1, by omega, by go_num, HO'.out, HK'.out⟩
                case measure => simp [intOf]; omega
              · obtain rfl : j = n := by omega
                obtain ⟨z, cz, rfl, hz, _⟩ := own_some HO.out (by rw [Mx.len_row]; exact hn0)
                rw [Mx.len_row] at HO ⊢
                have MQ := Lib.hid (HM.out.keep hkq)
                have HFR := Lib.hid (HM.out.far hz)
                have HZ := Lib.hid (HO.out.from (Nat.le_trans HM.out.hB.2 (Nat.le_refl _)))
                obtain ⟨ad, rfl, _, y1⟩ := (HA.out.keep HK.out).el hkt
                have HS := Lib.hid (show (rowF (k + 1) fun i => x (j + i)) = (rowF k fun i => x (j + i)) ++ [((x t).val : Int)] by rw [HT.out]; exact Mx.row_snoc _ _)
                have hlen : (rowF k fun i => x (j + i)).length + 1 ≤ 17000000000000 := by rw [Mx.len_row]; omega
                have Y1 := Lib.hid y1
                have hszB : wo.heap.size ≤ wq.heap.size := Nat.le_trans HM.out.hB.2 hsz
                clear hkq hz y1
                generalize ((x t).val : Int) = y at *
                have HSB := Lib.hid (show ∀ o : Obj, wo.heap.size ≤ (wq.alloc o).heap.size from fun o => Nat.le_trans hszB ((Kp.rfl' _).new _).size)
                have HIF := Lib.hid (show ∀ i, i < k → (Value.slice (some ⟨if i = k then z else G i, 0, none⟩) j (if i = k then cz else C i)) = Value.slice (some ⟨G i, 0, none⟩) j (C i) from fun i hi => by rw [if_neg (by omega), if_neg (by omega)])
                have HIK := Lib.hid (show (Value.slice (some ⟨if k = k then z else G k, 0, none⟩) j (if k = k then cz else C k)) = Value.slice (some ⟨z, 0, none⟩) j cz by rw [if_pos rfl, if_pos rfl])
                have hk1 : k + 1 ≤ 1000000 := by omega
                go_wp2_with (first
                  | (at_builtin; refine wpList_pushK rfl _ _ rfl wo.heap.size _ k (fun i => .slice (some ⟨G i, 0, none⟩) j (C i)) (fun i => .slice (some ⟨if i = k then z else G i, 0, none⟩) j (if i = k then cz else C i)) (.slice (some ⟨z, 0, none⟩) j cz) wq.heap.size 1 rfl rfl ((MQ.out.new _).hl) (cell_made _ _ _ _ 0 rfl) rfl HIK.out HIF.out hk1 (HSB.out _) ?_; intro v1 w1 h1 h2 _; have M1 := Lib.hid ((MQ.out.new _).pushM (HZ.out.new _) HFR.out.1 HFR.out.2 h1 h2); have y2 := (M1.out.kp.cell (p := ad.add t) (cell_lt Y1.out)).trans Y1.out; clear h1 h2)
                  | (at_builtin; refine wpList_push rfl _ _ rfl wo.heap.size _ (rowF k fun i => x (j + i)) y w1.heap.size 1 rfl rfl ((M1.out.new _).o) (by simp) hlen (Nat.le_trans M1.out.hB.2 ((Kp.rfl' _).new _).size) ?_; intro v2 w2 h1 h2 h3; have M2 := Lib.hid ((M1.out.new _).pushO (show Own w2 wo.heap.size v2 (rowF (k + 1) fun i => x (j + i)) by rw [HS.out]; exact h1) h2 h3); clear h1 h2 h3))
                go_roundw
                case rel => exact ⟨k + 1, t + 1, _, _, by have := HT.out; omega, by have := HT.out; omega, by go_num, M2.out⟩
                case measure => simp [intOf]; omega
          · have htI : ¬ (t : Int) < (N : Int) := by omega
            have hkN : k = N - n := by have := HT.out; omega
            have HKN := Lib.hid hkN
            have hk0 : 0 < k := by omega
            obtain ⟨M, cm, rfl, _, hml⟩ := HM.out.lies
            obtain ⟨Y, cy, rfl, hyl, _⟩ := HM.out.o.cap
            rw [Mx.len_row]
            have SV := Lib.hid (rSolve_any M (eqm n x) k n cm Y (fun i => x (n + i)) cy wi hml hyl hk0 (by omega) hn0 (by omega))
            have HK3 := Lib.hid (HK.out.trans HM.out.kp)
            unfold MadeSol at SV
            clear hml hyl hkN hk0 HM
            go_wp2_with fail
            refine (SV.out).mono ?_; rintro e w4 ⟨b, g, _, ⟨v, B, d, hans, rfl, lv, k4⟩ | ⟨hnot, rfl, k4⟩⟩
            · have HGN := Lib.hid (show Mx.Gn N n v x from (eqm_gn (Nat.le_of_lt hlt) x v).1 (by have := hans.sol; rw [HKN.out] at this; exact this))
              have LV := Lib.hid lv
              have K4 := Lib.hid (HK3.out.trans k4)
              clear hans lv k4
              go_wp2_with fail
              go_ret
              exact MadeF.of B n d v rfl LV.out HGN.out HNO.out K4.out
            · have K4 := Lib.hid (HK3.out.trans k4)
              have HNO' := Lib.hid (show ∀ m, m < n + 1 → ¬ ∃ e, Mx.Gn N m e x from fun m hm => by
                by_cases e : m = n
                · subst e
                  rintro ⟨c0, hc0⟩
                  exact hnot ⟨c0, by rw [HKN.out]; exact (eqm_gn (Nat.le_of_lt hlt) x c0).2 hc0⟩
                · exact HNO.out m (by omega))
              clear hnot k4
              go_wp2_with fail
              go_roundw
              case rel => exact ⟨n + 1, by omega, by go_num, HNO'.out, K4.out⟩
              case measure => simp [intOf]; omega
    · obtain rfl : n = N := by omega
      have hI : ¬ (n : Int) < (n : Int) := by omega
      go_wp2_with (at_make; refine wpList_make_full _ rfl _ _ 22 rfl wo.heap.size 3 i0 (.int .i64 0) 1 Tryd.underlying22 hi' hz0 hz1 _ _ _ _ n rfl rfl rfl rfl (by rw [hz2]; omega) (by unfold maxLen; omega) (Nat.le_refl _) ?_; intro w1 hown hgrow; have hrow : Row w1 wo.heap.size (List.replicate n 0) := row_made hown; have hkp : Kp wo w1 := (Kp.rfl' wo).grown hgrow (by simp) (fun k hk => by cases hk); clear hown hgrow)
      go_ret
      rw [zero_row] at hrow
      exact MadeF.of _ n n (fun _ => 0) rfl hrow.lies (Mx.Gn.far _ x (Nat.le_refl n)) HNO.out (HK.out.trans hkp)

end Go.Proofs.YtpffekaldpllkaaDoor

/- Package massey in the laws' words: what comes in is a row, or every call fails; the closed fact. -/
namespace Go.Proofs.YtpffekaldpllkaaDoor
open Go.ChangeShapes Go.WideShapes Go.ChangeAt Go.RowKit
set_option linter.unusedVariables false

/-- An error, and no number. -/
def NoNum (w : World) (e : Ending) (w' : World) : Prop := ∃ z : Nat, e = .returned (.tuple #[.int .i64 0, .iface 39 (.int .i64 (z : Int))]) ∧ Kp w w'
theorem SFew_or (L : List Int) :
    (∃ N x, Sr N x L) ∨ ∀ (A : Option Addr) (c : Nat) (w : World), Lies w A L → Calls Tryd.prog 9 #[.slice A L.length c] w fun e w' => NoNum w e w' := by
  rcases sr_or L with h | h
  · exact .inl h
  · exact .inr fun A c w ha => (Fewest_bad A L c w ha h).mono fun e w' h' => ⟨scd L, by rw [h'.1, errOf_ne _ h], h'.2⟩
theorem SFew_sr {N l : Nat} {x : Nat → Fp.F} {L : List Int} (h : Sr N x L) (hf : Mx.Few N l x) (A : Option Addr) (c : Nat) (w : World) (ha : Lies w A L) :
    Calls Tryd.prog 9 #[.slice A N c] w fun e w' => e = .returned (.tuple #[.int .i64 (l : Int), .nilIface]) ∧ Kp w w' := by
  rw [h.row] at ha
  exact Fewest_ok A N c l x w ha h.le hf

def x6 : Nat → Fp.F := fun i => Fp.ofInt ([0, 1, 1, 2, 3, 5].getD i 0)
def x3 : Nat → Fp.F := fun i => Fp.ofInt ([1, 2, 4].getD i 0)
def x5 : Nat → Fp.F := fun i => Fp.ofInt ([0, 0, 5].getD i 0)
def cone : Nat → Fp.F := fun _ => 1
def ctwo : Nat → Fp.F := fun _ => 2
theorem sr6 : rowF 6 x6 = [0, 1, 1, 2, 3, 5] := by decide +kernel
theorem sr3 : rowF 3 x3 = [1, 2, 4] := by decide +kernel
theorem sr5 : rowF 3 x5 = [0, 0, 5] := by decide +kernel
theorem gn6 : Mx.Gn 6 2 cone x6 := fun i h1 h2 => by
  rcases (show i = 2 ∨ i = 3 ∨ i = 4 ∨ i = 5 by omega) with rfl | rfl | rfl | rfl <;> decide +kernel
theorem few6 : Mx.Few 6 2 x6 := ⟨⟨cone, gn6⟩, fun m hm ⟨c, h⟩ => by
  rcases (show m = 0 ∨ m = 1 by omega) with rfl | rfl
  · exact absurd (Mx.gn_none h 1 (by omega)) (by decide +kernel)
  · have := h 1 (by omega) (by omega)
    rw [Mx.sg_succ, Mx.sg_zero, show x6 (1 - 1 - 0) = 0 by decide +kernel, show x6 1 = 1 by decide +kernel] at this
    exact Fp.one_ne (by grind)⟩
theorem few6_row {f : Nat → Fp.F} (h : Mx.Gn 6 2 f x6) : rowF 2 f = [1, 1] := by
  have e := Mx.gn_same few6 h gn6 (by omega)
  rw [show rowF 2 f = rowF 2 cone from Mx.row_ext fun k hk => by rw [e k hk]]
  decide +kernel
theorem gn3 : Mx.Gn 3 1 ctwo x3 := fun i h1 h2 => by
  rcases (show i = 1 ∨ i = 2 by omega) with rfl | rfl <;> decide +kernel
theorem few5 : Mx.Few 3 3 x5 := ⟨⟨cone, Mx.Gn.far _ _ (by omega)⟩, fun m hm ⟨c, h⟩ => by
  rcases (show m = 0 ∨ m = 1 ∨ m = 2 by omega) with rfl | rfl | rfl
  · exact absurd (Mx.gn_none h 2 (by omega)) (by decide +kernel)
  · have := h 2 (by omega) (by omega)
    rw [Mx.sg_succ, Mx.sg_zero, show x5 (2 - 1 - 0) = 0 by decide +kernel] at this
    exact absurd (show x5 2 = 0 by rw [this]; grind) (by decide +kernel)
  · have := h 2 (by omega) (by omega)
    rw [Mx.sg_succ, Mx.sg_succ, Mx.sg_zero, show x5 (2 - 1 - 0) = 0 by decide +kernel, show x5 (2 - 1 - 1) = 0 by decide +kernel] at this
    exact absurd (show x5 2 = 0 by rw [this]; grind) (by decide +kernel)⟩

set_option maxRecDepth 100000 in
set_option maxHeartbeats 3200000 in
theorem masseyFact_any (w : World) : Calls Tryd.prog 14 #[] w fun e w' => e = .returned (.bool true) ∧ Kp w w' := by
  have R1 := Lib.hid (fun (w1 : World) (A : Option Addr) (h1 : Lies w1 A [0, 1, 1, 2, 3, 5]) => Fewest_ok A 6 6 2 x6 w1 (by rw [sr6]; exact h1) (by decide) few6)
  have R2 := Lib.hid (fun (w1 : World) (A : Option Addr) (h1 : Lies w1 A [0, 1, 1, 2, 3, 5]) => Factors_ok A 6 6 2 x6 w1 (by rw [sr6]; exact h1) (by decide) few6 (by decide))
  have R3 := Lib.hid (fun (w1 : World) (A B : Option Addr) (h1 : Lies w1 A [1, 2, 4]) (h2 : Lies w1 B [2]) => SGoes_ok A B 3 1 3 1 x3 ctwo w1 (by rw [sr3]; exact h1) (by rw [show rowF 1 ctwo = [2] by decide +kernel]; exact h2) (by decide) (by decide) true ⟨fun _ => gn3, fun _ => rfl⟩)
  go_enter Tryd.func14, Tryd.ntmps14
  go_wp2_with fail
  refine (R1.out _ _ (lies_new w _ [0, 1, 1, 2, 3, 5])).mono ?_; rintro e w1 ⟨rfl, k1⟩
  have K1 := Lib.hid (((Kp.rfl' w).new _).trans k1)
  clear k1
  go_wp2_with fail
  refine (R2.out _ _ (lies_new w1 _ [0, 1, 1, 2, 3, 5])).mono ?_; rintro e w2 ⟨B, d, f, rfl, hl, hg, k2⟩
  have K12 := Lib.hid ((Kp.rfl' w1).new _ |>.trans k2)
  have HL := Lib.hid (show Lies w2 B [1, 1] by rw [← few6_row hg]; exact hl)
  clear k2 hl hg
  go_wp2_with fail
  refine (R3.out _ _ _ ((lies_new w2 _ [1, 2, 4]).keep ((Kp.rfl' _).new _)) (lies_new' (w2.alloc _) _ [2] _ (by simp))).mono ?_; rintro e w3 ⟨rfl, h3⟩
  subst h3
  have K3 := Lib.hid (((Kp.rfl' w2).new (.cells (ints [1, 2, 4]).toArray 3)).new (.cells (ints [2]).toArray 3))
  have K4 := Lib.hid ((K1.out.trans K12.out).trans K3.out)
  go_wp2_with fail
  refine (same_eq B _ [1, 1] [1, 1] 2 2 d 2 _ ((HL.out.keep K3.out).keep ((Kp.rfl' _).new _)) (lies_new' _ _ [1, 1] _ (by simp)) rfl rfl (by decide) rfl).mono ?_; rintro e w3 ⟨rfl, k3⟩
  have K5 := Lib.hid ((K4.out.new _).trans k3)
  clear k3
  go_wp2_with fail
  go_ret
  exact ⟨rfl, K5.out⟩

end Go.Proofs.YtpffekaldpllkaaDoor

/- The laws' small function 'in'. -/
namespace Go.Proofs.YtpffekaldpllkaaDoor
open Go.ChangeShapes Go.WideShapes Go.ChangeAt Go.RowKit
set_option linter.unusedVariables false


theorem law3In_any (n a b : Int) (w : World) (t : Bool) (h : (decide (a ≤ n) && decide (n ≤ b)) = t) :
    Calls Tryd.prog 15 #[.int .i64 n, .int .i64 a, .int .i64 b] w fun e w' => e = .returned (.bool t) ∧ w = w' := by
  have H := Lib.hid h
  clear h
  by_cases h1 : a ≤ n
  · by_cases h2 : n ≤ b
    · go_enter Tryd.func15, Tryd.ntmps15
      go_wp2
      go_ret
      exact ⟨ret_bool (by rw [← H.out]; simp [h1, h2]), rfl⟩
    · go_enter Tryd.func15, Tryd.ntmps15
      go_wp2
      go_ret
      exact ⟨ret_bool (by rw [← H.out]; simp [h1]; omega), rfl⟩
  · go_enter Tryd.func15, Tryd.ntmps15
    go_wp2
    go_ret
    exact ⟨ret_bool (by rw [← H.out]; simp; omega), rfl⟩


end Go.Proofs.YtpffekaldpllkaaDoor

/- Contracts of plain.Told and rankmeresame.Error: of nil and of an Errno. Go's own text of errors.As is walked, by closed facts on the model's entries for internal/reflectlite at this translation's numbers. The one premise: the variable errors.errorType holds its type. -/
namespace Go.Proofs.YtpffekaldpllkaaDoor.Told
open Go.RowKit Go.Extern.Stop Go.Stop Go.Extern
set_option linter.unusedVariables false

theorem valueOfP (t : Addr) (w : World) : (ReflectliteValue.unpack (.iface 47 (.pointer (some t)))).run Tryd.prog w
    = .ok (.agg #[.pointer (some ⟨1, 47, none⟩), .pointer (some ⟨w.heap.size, 0, none⟩), .int .u64 150]) (w.alloc (.cells #[.pointer (some t)] 47)) := by kernel_rfl
theorem typeP (a : Addr) (w : World) : (ReflectliteValue.methodAny (ReflectliteValue.valueError "reflectlite.Value.Type" 0) (fun t _ _ _ => ReflectliteType.toType t) #[.agg #[.pointer (some ⟨1, 47, none⟩), .pointer (some a), .int .u64 150]]).run Tryd.prog w
    = .ok (.iface 72 (.agg #[.pointer (some ⟨1, 47, none⟩)])) w := by kernel_rfl
theorem methodKind (h : Value) (w : World) : (Go.method 215 72 (.agg #[h]) "Kind").run Tryd.prog w = .ok (60, h) w := by kernel_rfl
theorem kindP (w : World) : ((ReflectliteType.abiMethod fun t => (fun a : Nat => Value.int IntKind.u8 (a : Int)) <$> Rtype.kind t) #[.pointer (some ⟨1, 47, none⟩)]).run Tryd.prog w = .ok (.int .u8 22) w := by kernel_rfl
theorem kindE (w : World) : ((ReflectliteType.abiMethod fun t => (fun a : Nat => Value.int IntKind.u8 (a : Int)) <$> Rtype.kind t) #[.pointer (some ⟨1, 39, none⟩)]).run Tryd.prog w = .ok (.int .u8 2) w := by kernel_rfl
theorem rlm (z : Sem Value) (f : TypeId → Addr → Nat → Nat → Sem Value) (v : Value) :
    ReflectliteValue.method z f #[v] = (do match ← ReflectliteValue.parts v with | none => z | some (t, a, fl) => f t a fl (fl % 32)) := rfl
theorem partsP (a : Addr) (w : World) : (ReflectliteValue.parts (.agg #[.pointer (some ⟨1, 47, none⟩), .pointer (some a), .int .u64 150])).run Tryd.prog w = .ok (some (47, a, 150)) w := by kernel_rfl
theorem isNilP (a p : Addr) (W : World) (ha : W.cell? a = some (.pointer (some p))) :
    (ReflectliteValue.method (ReflectliteValue.valueError "reflectlite.Value.IsNil" 0) ReflectliteValue.isNil #[.agg #[.pointer (some ⟨1, 47, none⟩), .pointer (some a), .int .u64 150]]).run Tryd.prog W = .ok (.bool false) W := by
  rw [rlm]
  simp only [Sem.run_bind, partsP, Result.andThen]
  simp [ReflectliteValue.isNil, loadVar, isAgg, underlying, Tryd.underlying47, ha, Result.andThen]
theorem methodElem (h : Value) (w : World) : (Go.method 215 72 (.agg #[h]) "Elem").run Tryd.prog w = .ok (70, .agg #[h]) w := by kernel_rfl
theorem methodImplements (h : Value) (w : World) : (Go.method 215 72 (.agg #[h]) "Implements").run Tryd.prog w = .ok (71, .agg #[h]) w := by kernel_rfl
theorem methodAssignableTo (h : Value) (w : World) : (Go.method 215 72 (.agg #[h]) "AssignableTo").run Tryd.prog w = .ok (68, .agg #[h]) w := by kernel_rfl
theorem elemP (w : World) : (ReflectliteType.method ReflectliteType.elem #[.agg #[.pointer (some ⟨1, 47, none⟩)]]).run Tryd.prog w = .ok (.iface 72 (.agg #[.pointer (some ⟨1, 39, none⟩)])) w := by kernel_rfl
theorem implementsE (w : World) : (ReflectliteType.relation "Implements" ReflectliteType.implements_ #[.agg #[.pointer (some ⟨1, 39, none⟩)], .iface 72 (.agg #[.pointer (some ⟨1, 26, none⟩)])]).run Tryd.prog w = .ok (.bool true) w := by kernel_rfl
theorem typeOfE (v : Value) (w : World) : (ReflectliteType.typeOf #[.iface 39 v]).run Tryd.prog w = .ok (.iface 72 (.agg #[.pointer (some ⟨1, 39, none⟩)])) w := by kernel_rfl
theorem assignableE (w : World) : (ReflectliteType.relation "AssignableTo" ReflectliteType.assignableTo #[.agg #[.pointer (some ⟨1, 39, none⟩)], .iface 72 (.agg #[.pointer (some ⟨1, 39, none⟩)])]).run Tryd.prog w = .ok (.bool true) w := by kernel_rfl
theorem valueOfE (n : Int) (w : World) : (ReflectliteValue.unpack (.iface 39 (.int .i64 n))).run Tryd.prog w
    = .ok (.agg #[.pointer (some ⟨1, 39, none⟩), .pointer (some ⟨w.heap.size, 0, none⟩), .int .u64 130]) (w.alloc (.cells #[.int .i64 n] 39)) := by kernel_rfl
theorem elemOfP (w : World) : (Rtype.elem? 47).run Tryd.prog w = .ok (some 39) w := by kernel_rfl
theorem mkE (p : Addr) (w : World) : (ReflectliteValue.mk 39 p ReflectliteValue.flagAddr).run Tryd.prog w = .ok (.agg #[.pointer (some ⟨1, 39, none⟩), .pointer (some p), .int .u64 386]) w := by kernel_rfl
theorem elemVP (a p : Addr) (W : World) (ha : W.cell? a = some (.pointer (some p))) :
    (ReflectliteValue.method (ReflectliteValue.valueError "reflectlite.Value.Elem" 0) ReflectliteValue.elem #[.agg #[.pointer (some ⟨1, 47, none⟩), .pointer (some a), .int .u64 150]]).run Tryd.prog W
      = .ok (.agg #[.pointer (some ⟨1, 39, none⟩), .pointer (some p), .int .u64 386]) W := by
  rw [rlm]
  simp only [Sem.run_bind, partsP, Result.andThen]
  simp [ReflectliteValue.elem, loadVar, isAgg, underlying, Tryd.underlying47, ha, Result.andThen, elemOfP, mkE]
theorem rls (v x : Value) : ReflectliteValue.set #[v, x] = (do
    let (some (dst, a, fl), some (src, b, _)) := (← ReflectliteValue.parts v, ← ReflectliteValue.parts x)
      | unsupported (.noEntry "extern/(internal/reflectlite.Value).Set.zeroValue")
    if fl / ReflectliteValue.flagAddr % 2 == 0 then unsupported (.noEntry "extern/(internal/reflectlite.Value).Set.unaddressable")
    let val ← loadVar src b
    if ← Rtype.directlyAssignable dst src then storeVar dst a val
    else if ← Rtype.implements dst src then
      if (← Rtype.kind src) == 20 then
        match val with
        | .nilIface => unsupported (.noEntry "extern/reflectlite: a nil value of one interface type handed on as a value of another")
        | _ => storeVar dst a val
      else storeVar dst a (.iface src val)
    else panicString ("reflectlite.Set: value of type " ++ (← Rtype.spelt src) ++ " is not assignable to type " ++ (← Rtype.spelt dst))
    pure (.tuple #[])) := rfl
theorem partsEa (a : Addr) (w : World) : (ReflectliteValue.parts (.agg #[.pointer (some ⟨1, 39, none⟩), .pointer (some a), .int .u64 386])).run Tryd.prog w = .ok (some (39, a, 386)) w := by kernel_rfl
theorem partsE (a : Addr) (w : World) : (ReflectliteValue.parts (.agg #[.pointer (some ⟨1, 39, none⟩), .pointer (some a), .int .u64 130])).run Tryd.prog w = .ok (some (39, a, 130)) w := by kernel_rfl
theorem directE (w : World) : (Rtype.directlyAssignable 39 39).run Tryd.prog w = .ok true w := by kernel_rfl
theorem setE (ta b : Addr) (n : Int) (old : Value) (W : World) (hb : W.cell? b = some (.int .i64 n)) (ht : W.cell? ta = some old) (hf : W.frozen? ta = false) :
    (ReflectliteValue.set #[.agg #[.pointer (some ⟨1, 39, none⟩), .pointer (some ta), .int .u64 386], .agg #[.pointer (some ⟨1, 39, none⟩), .pointer (some b), .int .u64 130]]).run Tryd.prog W
      = .ok (.tuple #[]) (W.setCell ta (.int .i64 n)) := by
  rw [rls]
  simp only [Sem.run_bind, partsEa, partsE, Result.andThen]
  simp [ReflectliteValue.flagAddr, loadVar, isAgg, underlying, Tryd.underlying39, hb, Result.andThen, directE, storeVar, Value.cells, storeCells, Addr.add]
  rw [run_store Tryd.prog W ta _ _ (by rfl)]
  simp [ht, hf]

/-- The variable errors.errorType holds its type. -/
abbrev Laid (w : World) : Prop := w.cell? ⟨0, 0, none⟩ = some (.iface 72 (.agg #[.pointer (some ⟨1, 26, none⟩)]))

theorem laid_lt {w : World} (h : Laid w) : 0 < w.heap.size := by
  have h1 : w.cell? ⟨0, 0, none⟩ = some (.iface 72 (.agg #[.pointer (some ⟨1, 26, none⟩)])) := h
  rcases Nat.lt_or_ge 0 w.heap.size with h' | h'
  · exact h'
  · have e : w.heap[0]? = none := Array.getElem?_eq_none h'
    simp [World.cell?, e] at h1

set_option maxHeartbeats 4000000 in
theorem as_hit (n : Int) (t : Addr) (old : Value) (w : World) (hg : Laid w) (ht0 : w.cell? t = some old) (hf0 : w.frozen? t = false) :
    Calls Tryd.prog 23 #[.iface 39 (.int .i64 n), .iface 47 (.pointer (some t))] w fun ev w' => ev = .returned (.bool true) ∧ w' = ((((w.alloc (.cells #[.pointer (some t)] 47)).alloc (.cells #[.pointer (some ⟨1, 47, none⟩), .pointer (some ⟨w.heap.size, 0, none⟩), .int .u64 150] 57)).alloc (.cells #[.pointer (some ⟨1, 47, none⟩), .pointer (some ⟨w.heap.size, 0, none⟩), .int .u64 150] 57)).alloc (.cells #[.int .i64 n] 39)).setCell t (.int .i64 n) := by
  have h6 := @run_callFunc_extern Tryd.prog 27 _ (fun args => ReflectliteValue.unpack (args.getD 0 (.tuple #[]))) Tryd.func27 (by kernel_rfl) (by kernel_rfl) (by kernel_rfl) (by kernel_rfl)
  have h7 := @run_callFunc_extern Tryd.prog 28 _ (ReflectliteValue.methodAny (ReflectliteValue.valueError "reflectlite.Value.Type" 0) (fun t _ _ _ => ReflectliteType.toType t)) Tryd.func28 (by kernel_rfl) (by kernel_rfl) (by kernel_rfl) (by kernel_rfl)
  have h8 := @run_callFunc_extern Tryd.prog 29 _ (ReflectliteValue.method (ReflectliteValue.valueError "reflectlite.Value.IsNil" 0) ReflectliteValue.isNil) Tryd.func29 (by kernel_rfl) (by kernel_rfl) (by kernel_rfl) (by kernel_rfl)
  have h27 := @run_callFunc_extern Tryd.prog 60 _ (ReflectliteType.abiMethod fun t => do pure (.int .u8 (← Rtype.kind t))) Tryd.func60 (by kernel_rfl) (by kernel_rfl) (by kernel_rfl) (by kernel_rfl)
  have h37 := @run_callFunc_extern Tryd.prog 70 _ (ReflectliteType.method ReflectliteType.elem) Tryd.func70 (by kernel_rfl) (by kernel_rfl) (by kernel_rfl) (by kernel_rfl)
  have h38 := @run_callFunc_extern Tryd.prog 71 _ (ReflectliteType.relation "Implements" ReflectliteType.implements_) Tryd.func71 (by kernel_rfl) (by kernel_rfl) (by kernel_rfl) (by kernel_rfl)
  have h10 := @run_callFunc_extern Tryd.prog 36 _ ReflectliteType.typeOf Tryd.func36 (by kernel_rfl) (by kernel_rfl) (by kernel_rfl) (by kernel_rfl)
  have h35 := @run_callFunc_extern Tryd.prog 68 _ (ReflectliteType.relation "AssignableTo" ReflectliteType.assignableTo) Tryd.func68 (by kernel_rfl) (by kernel_rfl) (by kernel_rfl) (by kernel_rfl)
  have h11 := @run_callFunc_extern Tryd.prog 37 _ (ReflectliteValue.method (ReflectliteValue.valueError "reflectlite.Value.Elem" 0) ReflectliteValue.elem) Tryd.func37 (by kernel_rfl) (by kernel_rfl) (by kernel_rfl) (by kernel_rfl)
  have h12 := @run_callFunc_extern Tryd.prog 38 _ ReflectliteValue.set Tryd.func38 (by kernel_rfl) (by kernel_rfl) (by kernel_rfl) (by kernel_rfl)
  have tO := typeOfE
  have mA := methodAssignableTo
  have a25 := assignableE
  have v25 := valueOfE
  have f6 := valueOfP
  have f7 := typeP
  have mK := methodKind
  have mE := methodElem
  have mI := methodImplements
  have k27 := kindP
  have k25 := kindE
  have e27 := elemP
  have i25 := implementsE
  have n8 := isNilP ⟨w.heap.size, 0, none⟩ t ((w.alloc (.cells #[.pointer (some t)] 47)).alloc (.cells #[.pointer (some ⟨1, 47, none⟩), .pointer (some ⟨w.heap.size, 0, none⟩), .int .u64 150] 57)) (by simp)
  have hlt : 0 < w.heap.size := laid_lt hg
  have hg2 : ((w.alloc (.cells #[.pointer (some t)] 47)).alloc (.cells #[.pointer (some ⟨1, 47, none⟩), .pointer (some ⟨w.heap.size, 0, none⟩), .int .u64 150] 57)).cell? ⟨0, 0, none⟩ = some (.iface 72 (.agg #[.pointer (some ⟨1, 26, none⟩)])) := by
    rw [World.cell?_alloc_lt _ _ ⟨0, 0, none⟩ (by show 0 < (w.heap.push _).size; rw [Array.size_push]; omega), World.cell?_alloc_lt _ _ ⟨0, 0, none⟩ hlt]; exact hg
  have htl : t.block < w.heap.size := by
    rcases Nat.lt_or_ge t.block w.heap.size with h | h
    · exact h
    · simp [World.cell?, Array.getElem?_eq_none h] at ht0
  have el := elemVP ⟨w.heap.size, 0, none⟩ t (((w.alloc (.cells #[.pointer (some t)] 47)).alloc (.cells #[.pointer (some ⟨1, 47, none⟩), .pointer (some ⟨w.heap.size, 0, none⟩), .int .u64 150] 57)).alloc (.cells #[.pointer (some ⟨1, 47, none⟩), .pointer (some ⟨w.heap.size, 0, none⟩), .int .u64 150] 57)) (by rw [World.cell?_alloc_lt _ _ ⟨w.heap.size, 0, none⟩ (by simp; omega)]; simp)
  have st := setE t ⟨w.heap.size + 1 + 1 + 1, 0, none⟩ n old ((((w.alloc (.cells #[.pointer (some t)] 47)).alloc (.cells #[.pointer (some ⟨1, 47, none⟩), .pointer (some ⟨w.heap.size, 0, none⟩), .int .u64 150] 57)).alloc (.cells #[.pointer (some ⟨1, 47, none⟩), .pointer (some ⟨w.heap.size, 0, none⟩), .int .u64 150] 57)).alloc (.cells #[.int .i64 n] 39))
    (by rw [World.cell?_alloc_at _ _ _ _ (by simp)]; rfl)
    (by rw [World.cell?_alloc_lt _ _ t (by simp; omega), World.cell?_alloc_lt _ _ t (by simp; omega), World.cell?_alloc_lt _ _ t (by simp; omega), World.cell?_alloc_lt _ _ t htl]; exact ht0)
    (by rw [World.frozen?_alloc_old _ _ t (by simp; omega), World.frozen?_alloc_old _ _ t (by simp; omega), World.frozen?_alloc_old _ _ t (by simp; omega), World.frozen?_alloc_old _ _ t (Nat.ne_of_lt htl)]; exact hf0)
  go_enter Tryd.func23, Tryd.ntmps23
  go_wp2
  refine wp_loop_rounds 1 ?_
  rw [rounds_succ]
  go_wp2
  go_ret
  exact ⟨rfl, rfl⟩

end Go.Proofs.YtpffekaldpllkaaDoor.Told

/- Contracts of plain.Told and rankmeresame.Error: of nil and of an Errno; nothing that was there turns. The one premise: the variable errors.errorType holds its type. -/
namespace Go.Proofs.YtpffekaldpllkaaDoor
open Go.RowKit Go.Proofs.YtpffekaldpllkaaDoor.Told
set_option linter.unusedVariables false

theorem laid_kp {w w' : World} (h : Laid w) (hg : Kp w w') : Laid w' :=
  (hg.cell (p := ⟨0, 0, none⟩) (laid_lt h)).trans h

theorem toldK_nil (w : World) :
    Calls Tryd.prog 17 #[.nilIface] w fun e w' => e = .returned (.int .i64 0) ∧ w = w' := by
  go_enter Tryd.func17, Tryd.ntmps17
  go_wp2
  go_ret
  exact ⟨rfl, rfl⟩

set_option maxHeartbeats 4000000 in
theorem toldK_hit (n : Int) (w : World) (hg : Laid w) :
    Calls Tryd.prog 17 #[.iface 39 (.int .i64 n)] w fun e w' => e = .returned (.int .i64 n) ∧ Kp w w' := by
  have hgA := Lib.hid (laid_kp hg ((Kp.rfl' w).new (.cells #[.int .i64 0] 39)))
  clear hg
  go_enter Tryd.func17, Tryd.ntmps17
  go_wp2_with (go_at_call 23; refine (as_hit n _ (.int .i64 0) _ hgA.out (by simp) (by simp)).mono ?_; rintro e w' ⟨rfl, rfl⟩)
  go_ret
  exact ⟨rfl, ((((((Kp.rfl' w).new _).new _).new _).new _).new _)⟩

/-- rankmeresame.Error on no error. -/
theorem errorK_nil (c : Int) (w : World) (b : Bool) (hb : ((0 : Int) == c) = b) :
    Calls Tryd.prog 6 #[.nilIface, .int .i64 c] w fun e w' => e = .returned (.bool b) ∧ Kp w w' := by
  have H := Lib.hid hb
  clear hb
  go_enter Tryd.func6, Tryd.ntmps6
  go_wp2_with (go_at_call 17; refine (toldK_nil _).mono ?_; rintro e w' ⟨rfl, rfl⟩)
  go_ret
  exact ⟨congrArg (fun b => Ending.returned (.bool b)) H.out, Kp.rfl' _⟩

/-- rankmeresame.Error on an Errno. -/
theorem errorK_hit (n c : Int) (w : World) (hg : Laid w) (hn : 0 ≤ n ∧ n ≤ 100) (b : Bool) (hb : (n == c) = b) :
    Calls Tryd.prog 6 #[.iface 39 (.int .i64 n), .int .i64 c] w fun e w' => e = .returned (.bool b) ∧ Kp w w' := by
  have H := Lib.hid hb
  have HG := Lib.hid hg
  clear hb hg
  go_enter Tryd.func6, Tryd.ntmps6
  go_wp2_with (go_at_call 17; refine (toldK_hit _ _ HG.out).mono ?_; rintro e w' ⟨rfl, hw⟩)
  go_ret
  exact ⟨congrArg (fun b => Ending.returned (.bool b)) H.out, hw⟩

end Go.Proofs.YtpffekaldpllkaaDoor

/- rankmeresame.Error at the errors by number. -/
namespace Go.Proofs.YtpffekaldpllkaaDoor
open Go.ChangeShapes Go.WideShapes Go.ChangeAt Go.RowKit
set_option linter.unusedVariables false

/-- Error says yes to the error that is told. -/
theorem error_says (c : Nat) (w : World) (hl : Told.Laid w) (hc : c ≤ 100) :
    Calls Tryd.prog 6 #[errOf c, .int .i64 (c : Int)] w fun e w' => e = .returned (.bool true) ∧ Kp w w' := by
  by_cases h : c = 0
  · subst h; exact errorK_nil 0 w true rfl
  · rw [errOf_ne c h]
    exact errorK_hit c c w hl (by omega) true (by simp)

end Go.Proofs.YtpffekaldpllkaaDoor

/- The law MasseySays. -/
namespace Go.Proofs.YtpffekaldpllkaaDoor
open Go.ChangeShapes Go.WideShapes Go.ChangeAt Go.RowKit
set_option linter.unusedVariables false

set_option maxRecDepth 100000 in
set_option maxHeartbeats 6400000 in
theorem ssays_bad (A : Option Addr) (L : List Int) (c : Nat) (B : Option Addr) (S : List Int) (d : Nat) (w : World) (hl : Told.Laid w) (ha : Lies w A L) (hb : Lies w B S) (h : scd L ≠ 0) :
    Calls Tryd.prog 3 #[.slice A L.length c, .slice B S.length d] w fun e w' => e = .returned (.bool true) ∧ Kp w w' := by
  have HL := Lib.hid hl
  have SQ := Lib.hid (rSeq_any A L c w ha)
  have CK := Lib.hid (sChk_any A L c w ha)
  have FE := Lib.hid (fun w' (k : Kp w w') => Fewest_bad A L c w' (ha.keep k) h)
  have FC := Lib.hid (fun w' (k : Kp w w') => Factors_bad A L c w' (ha.keep k) h)
  have GO := Lib.hid (fun w' (k : Kp w w') => SGoes_bad A B L S c d w' (ha.keep k) h)
  have hz := scd_some L
  have ERR := Lib.hid (fun (wx : World) (hx : Kp w wx) => error_says (scd L) wx (laid_kp HL.out hx) (by omega))
  rw [errOf_ne _ h] at CK FE FC GO ERR
  have e1 : ((scd L : Int) == 0) = false := by rw [beq_eq_false_iff_ne]; omega
  generalize scd L = z at *
  generalize L.length = n1 at *
  generalize S.length = n2 at *
  clear ha hl hb h hz
  go_enter Tryd.func3, Tryd.ntmps3
  go_wp2_with fail
  refine (SQ.out).mono ?_; rintro e w1 ⟨rfl, rfl⟩
  go_wp2_with fail
  refine (CK.out).mono ?_; rintro e w1 ⟨rfl, rfl⟩
  go_wp2_with fail
  refine (ERR.out _ (Kp.rfl' _)).mono ?_; rintro e w1 ⟨rfl, k1⟩
  have K := Lib.hid k1
  clear k1 CK SQ
  go_wp2_with fail
  refine (FE.out _ K.out).mono ?_; rintro e w2 ⟨rfl, k2⟩
  replace K := Lib.hid (K.out.trans k2); clear k2
  go_wp2_with fail
  refine (ERR.out _ K.out).mono ?_; rintro e w3 ⟨rfl, k3⟩
  replace K := Lib.hid (K.out.trans k3); clear k3
  go_wp2_with fail
  refine (FC.out _ K.out).mono ?_; rintro e w4 ⟨rfl, k4⟩
  replace K := Lib.hid (K.out.trans k4); clear k4
  go_wp2_with fail
  refine (ERR.out _ K.out).mono ?_; rintro e w5 ⟨rfl, k5⟩
  replace K := Lib.hid (K.out.trans k5); clear k5
  go_wp2_with fail
  refine (same_nil _).mono ?_; rintro e w6 ⟨rfl, k6⟩
  replace K := Lib.hid (K.out.trans k6); clear k6
  go_wp2_with fail
  refine (GO.out _ K.out).mono ?_; rintro e w7 ⟨rfl, rfl⟩
  go_wp2_with fail
  refine (ERR.out _ K.out).mono ?_; rintro e w8 ⟨rfl, k8⟩
  replace K := Lib.hid (K.out.trans k8); clear k8
  go_wp2_with fail
  go_ret
  exact ⟨rfl, K.out⟩

set_option maxRecDepth 100000 in
set_option maxHeartbeats 12800000 in
theorem ssays_good (A : Option Addr) (L : List Int) (c : Nat) (B : Option Addr) (S : List Int) (d : Nat) (N : Nat) (x : Nat → Fp.F) (w : World) (hl : Told.Laid w) (ha : Lies w A L) (hb : Lies w B S) (sr : Sr N x L) :
    Calls Tryd.prog 3 #[.slice A N c, .slice B S.length d] w fun e w' => e = .returned (.bool true) ∧ Kp w w' := by
  have HL := Lib.hid hl
  have SQ := Lib.hid (rSeq_any A L c w ha)
  have CK := Lib.hid (sChk_good sr A c w ha)
  rw [sr.code, sr.len] at SQ
  have HN := sr.le
  have HA := Lib.hid (show Lies w A (rowF N x) by rw [← sr.row]; exact ha)
  have HB := Lib.hid hb
  have GB := Lib.hid (fun (h : scd S ≠ 0) w' (k : Kp w w') => show Calls Tryd.prog 12 #[.slice A N c, .slice B S.length d] w' fun e w'' => e = .returned (.tuple #[.bool false, errOf (scd S)]) ∧ w' = w'' by
    have h1 := SGoes_bad2 A B L S c d w' (ha.keep k) (hb.keep k) sr.code h
    rw [sr.len] at h1
    exact h1)
  have SQ2 := Lib.hid (fun w' (k : Kp w w') => rSeq_any B S d w' (hb.keep k))
  have RF := Lib.hid (fun w' (k : Kp w w') => rFewest_any A N c x w' (HA.out.keep k) HN)
  unfold MadeF at RF
  have ERR0 := Lib.hid (fun (wx : World) (hx : Kp w wx) => show Calls Tryd.prog 6 #[.nilIface, .int .i64 0] wx fun e w' => e = .returned (.bool true) ∧ Kp wx w' from error_says 0 wx (laid_kp HL.out hx) (by decide))
  have ERR5 := Lib.hid (fun (wx : World) (hx : Kp w wx) => show Calls Tryd.prog 6 #[.iface 39 (.int .i64 5), .int .i64 5] wx fun e w' => e = .returned (.bool true) ∧ Kp wx w' from error_says 5 wx (laid_kp HL.out hx) (by decide))
  have ERRZ := Lib.hid (fun (h : scd S ≠ 0) (wx : World) (hx : Kp w wx) => error_says (scd S) wx (laid_kp HL.out hx) (by have := scd_some S; omega))
  have GOOD := Lib.hid (fun h : scd S = 0 => sr_of h)
  obtain ⟨n2, hn2⟩ : ∃ n2, n2 = S.length := ⟨_, rfl⟩
  rw [← hn2] at GB SQ2 GOOD ⊢
  have HN2 := Lib.hid hn2
  clear ha hl hb sr hn2
  go_enter Tryd.func3, Tryd.ntmps3
  go_wp2_with fail
  refine (SQ.out).mono ?_; rintro e w1 ⟨rfl, rfl⟩
  go_wp2_with fail
  refine (CK.out).mono ?_; rintro e w1 ⟨rfl, rfl⟩
  go_wp2_with fail
  refine (ERR0.out _ (Kp.rfl' _)).mono ?_; rintro e w1 ⟨rfl, k1⟩
  have K := Lib.hid k1
  clear k1 CK SQ
  go_wp2_with fail
  refine (RF.out _ K.out).mono ?_; rintro e w2 ⟨Z, l, dz, f, rfl, lz, hf, hg, k2⟩
  have HF := Lib.hid hf
  have HG := Lib.hid hg
  have LZ := Lib.hid lz
  have hlN := hf.top
  replace K := Lib.hid (K.out.trans k2)
  clear k2 lz hf hg RF
  have hwl : IntKind.i64.wrap (2 * (l : Int)) = 2 * (l : Int) := IntWalk.i64_in _ (by omega)
  go_wp2_with fail
  refine (Fewest_ok A N c l x _ (HA.out.keep K.out) HN HF.out).mono ?_; rintro e w3 ⟨rfl, k3⟩
  replace K := Lib.hid (K.out.trans k3)
  replace LZ := Lib.hid (LZ.out.keep k3)
  clear k3
  go_wp2_with fail
  refine (ERR0.out _ K.out).mono ?_; rintro e w4 ⟨rfl, k4⟩
  replace K := Lib.hid (K.out.trans k4)
  replace LZ := Lib.hid (LZ.out.keep k4)
  clear k4
  have ell : ((l : Int) == (l : Int)) = true := by simp
  by_cases h2 : N < 2 * l
  · have h2' : (N : Int) < 2 * (l : Int) := by omega
    have FC := Lib.hid (fun w' (k : Kp w w') => Factors_none A N c l x w' (HA.out.keep k) HN HF.out h2)
    rw [show errOf 5 = .iface 39 (.int .i64 5) from rfl] at FC
    clear h2
    go_wp2_with fail
    refine (FC.out _ K.out).mono ?_; rintro e w5 ⟨rfl, k5⟩
    replace K := Lib.hid (K.out.trans k5); clear k5 FC
    go_wp2_with fail
    refine (ERR5.out _ K.out).mono ?_; rintro e w6 ⟨rfl, k6⟩
    replace K := Lib.hid (K.out.trans k6); clear k6
    go_wp2_with fail
    refine (same_nil _).mono ?_; rintro e w7 ⟨rfl, k7⟩
    replace K := Lib.hid (K.out.trans k7); clear k7
    go_wp2_with fail
    refine (SQ2.out _ K.out).mono ?_; rintro e w8 ⟨rfl, rfl⟩
    by_cases hz : scd S = 0
    · obtain ⟨y, sy⟩ := GOOD.out hz
      have hsl := sy.len
      have hse := sy.le
      rw [sy.row] at HB
      have hn : S.length = n2 := by rw [HN2.out]
      rw [hz]
      by_cases hgo : Mx.Gn N n2 y x
      · have G1 := Lib.hid (fun w' (k : Kp w w') => SGoes_ok A B N n2 c d x y w' (HA.out.keep k) (HB.out.keep k) HN hse true ⟨fun _ => hgo, fun _ => rfl⟩)
        have G2 := Lib.hid (fun w' (k : Kp w w') => rGoes_any A B N n2 c d x y w' (HA.out.keep k) (HB.out.keep k) HN hse true ⟨fun _ => hgo, fun _ => rfl⟩)
        clear hz hsl hn hgo GOOD GB ERRZ SQ2 sy
        go_wp2_with fail
        refine (G1.out _ K.out).mono ?_; rintro e w9 ⟨rfl, rfl⟩
        go_wp2_with fail
        refine (ERR0.out _ K.out).mono ?_; rintro e w9 ⟨rfl, k9⟩
        replace K := Lib.hid (K.out.trans k9); clear k9
        go_wp2_with fail
        refine (G2.out _ K.out).mono ?_; rintro e w10 ⟨rfl, k10⟩
        replace K := Lib.hid (K.out.trans k10); clear k10
        go_wp2_with fail
        go_ret
        exact ⟨rfl, K.out⟩
      · have G1 := Lib.hid (fun w' (k : Kp w w') => SGoes_ok A B N n2 c d x y w' (HA.out.keep k) (HB.out.keep k) HN hse false ⟨fun h => (by cases h), fun h => absurd h hgo⟩)
        have G2 := Lib.hid (fun w' (k : Kp w w') => rGoes_any A B N n2 c d x y w' (HA.out.keep k) (HB.out.keep k) HN hse false ⟨fun h => (by cases h), fun h => absurd h hgo⟩)
        clear hz hsl hn hgo GOOD GB ERRZ SQ2 sy
        go_wp2_with fail
        refine (G1.out _ K.out).mono ?_; rintro e w9 ⟨rfl, rfl⟩
        go_wp2_with fail
        refine (ERR0.out _ K.out).mono ?_; rintro e w9 ⟨rfl, k9⟩
        replace K := Lib.hid (K.out.trans k9); clear k9
        go_wp2_with fail
        refine (G2.out _ K.out).mono ?_; rintro e w10 ⟨rfl, k10⟩
        replace K := Lib.hid (K.out.trans k10); clear k10
        go_wp2_with fail
        go_ret
        exact ⟨rfl, K.out⟩
    · have G1 := Lib.hid (GB.out hz)
      have EZ := Lib.hid (ERRZ.out hz)
      rw [errOf_ne _ hz] at G1 EZ
      have e1 : ((scd S : Int) == 0) = false := by rw [beq_eq_false_iff_ne]; omega
      generalize scd S = z at *
      clear hz GOOD GB ERRZ SQ2
      go_wp2_with fail
      refine (G1.out _ K.out).mono ?_; rintro e w9 ⟨rfl, rfl⟩
      go_wp2_with fail
      refine (EZ.out _ K.out).mono ?_; rintro e w9 ⟨rfl, k9⟩
      replace K := Lib.hid (K.out.trans k9); clear k9
      go_wp2_with fail
      go_ret
      exact ⟨rfl, K.out⟩
  · have h2' : ¬ (N : Int) < 2 * (l : Int) := by omega
    have FC := Lib.hid (fun w' (k : Kp w w') => Factors_ok A N c l x w' (HA.out.keep k) HN HF.out (by omega))
    have SAME := Lib.hid (fun f' (h : Mx.Gn N l f' x) => show rowF l f' = rowF l f from Mx.row_ext fun k hk => by rw [Mx.gn_same HF.out h HG.out (by omega) k hk])
    clear h2
    go_wp2_with fail
    refine (FC.out _ K.out).mono ?_; rintro e w5 ⟨Z2, d2, f2, rfl, l2, hg2, k5⟩
    have SM := Lib.hid (SAME.out f2 hg2)
    have L2 := Lib.hid l2
    replace K := Lib.hid (K.out.trans k5)
    replace LZ := Lib.hid (LZ.out.keep k5)
    clear k5 l2 hg2 FC SAME
    go_wp2_with fail
    refine (ERR0.out _ K.out).mono ?_; rintro e w6 ⟨rfl, k6⟩
    replace K := Lib.hid (K.out.trans k6)
    have IC := Lib.hid (same_eq Z2 Z (rowF l f2) (rowF l f) l l d2 dz w6 (L2.out.keep k6) (LZ.out.keep k6) (Mx.len_row _ _).symm (Mx.len_row _ _).symm (by omega) SM.out)
    clear k6 L2 LZ SM
    go_wp2_with fail
    refine (IC.out).mono ?_; rintro e w7 ⟨rfl, k7⟩
    replace K := Lib.hid (K.out.trans k7); clear k7 IC
    go_wp2_with fail
    refine (SQ2.out _ K.out).mono ?_; rintro e w8 ⟨rfl, rfl⟩
    by_cases hz : scd S = 0
    · obtain ⟨y, sy⟩ := GOOD.out hz
      have hsl := sy.len
      have hse := sy.le
      rw [sy.row] at HB
      have hn : S.length = n2 := by rw [HN2.out]
      rw [hz]
      by_cases hgo : Mx.Gn N n2 y x
      · have G1 := Lib.hid (fun w' (k : Kp w w') => SGoes_ok A B N n2 c d x y w' (HA.out.keep k) (HB.out.keep k) HN hse true ⟨fun _ => hgo, fun _ => rfl⟩)
        have G2 := Lib.hid (fun w' (k : Kp w w') => rGoes_any A B N n2 c d x y w' (HA.out.keep k) (HB.out.keep k) HN hse true ⟨fun _ => hgo, fun _ => rfl⟩)
        clear hz hsl hn hgo GOOD GB ERRZ SQ2 sy
        go_wp2_with fail
        refine (G1.out _ K.out).mono ?_; rintro e w9 ⟨rfl, rfl⟩
        go_wp2_with fail
        refine (ERR0.out _ K.out).mono ?_; rintro e w9 ⟨rfl, k9⟩
        replace K := Lib.hid (K.out.trans k9); clear k9
        go_wp2_with fail
        refine (G2.out _ K.out).mono ?_; rintro e w10 ⟨rfl, k10⟩
        replace K := Lib.hid (K.out.trans k10); clear k10
        go_wp2_with fail
        go_ret
        exact ⟨rfl, K.out⟩
      · have G1 := Lib.hid (fun w' (k : Kp w w') => SGoes_ok A B N n2 c d x y w' (HA.out.keep k) (HB.out.keep k) HN hse false ⟨fun h => (by cases h), fun h => absurd h hgo⟩)
        have G2 := Lib.hid (fun w' (k : Kp w w') => rGoes_any A B N n2 c d x y w' (HA.out.keep k) (HB.out.keep k) HN hse false ⟨fun h => (by cases h), fun h => absurd h hgo⟩)
        clear hz hsl hn hgo GOOD GB ERRZ SQ2 sy
        go_wp2_with fail
        refine (G1.out _ K.out).mono ?_; rintro e w9 ⟨rfl, rfl⟩
        go_wp2_with fail
        refine (ERR0.out _ K.out).mono ?_; rintro e w9 ⟨rfl, k9⟩
        replace K := Lib.hid (K.out.trans k9); clear k9
        go_wp2_with fail
        refine (G2.out _ K.out).mono ?_; rintro e w10 ⟨rfl, k10⟩
        replace K := Lib.hid (K.out.trans k10); clear k10
        go_wp2_with fail
        go_ret
        exact ⟨rfl, K.out⟩
    · have G1 := Lib.hid (GB.out hz)
      have EZ := Lib.hid (ERRZ.out hz)
      rw [errOf_ne _ hz] at G1 EZ
      have e1 : ((scd S : Int) == 0) = false := by rw [beq_eq_false_iff_ne]; omega
      generalize scd S = z at *
      clear hz GOOD GB ERRZ SQ2
      go_wp2_with fail
      refine (G1.out _ K.out).mono ?_; rintro e w9 ⟨rfl, rfl⟩
      go_wp2_with fail
      refine (EZ.out _ K.out).mono ?_; rintro e w9 ⟨rfl, k9⟩
      replace K := Lib.hid (K.out.trans k9); clear k9
      go_wp2_with fail
      go_ret
      exact ⟨rfl, K.out⟩

theorem walk_MasseySays (A : Option Addr) (L : List Int) (c : Nat) (B : Option Addr) (S : List Int) (d : Nat) (w : World) (hl : Told.Laid w) (ha : Lies w A L) (hb : Lies w B S) :
    Calls Tryd.prog 3 #[.slice A L.length c, .slice B S.length d] w fun e w' => e = .returned (.bool true) ∧ Kp w w' := by
  rcases sr_or L with ⟨N, x, sr⟩ | h
  · rw [sr.len]
    exact ssays_good A L c B S d N x w hl ha hb sr
  · exact ssays_bad A L c B S d w hl ha hb h

end Go.Proofs.YtpffekaldpllkaaDoor
