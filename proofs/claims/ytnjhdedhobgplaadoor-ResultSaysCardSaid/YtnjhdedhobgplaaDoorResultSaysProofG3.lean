/- Several texts, one behind the other: KeN, ReC2, BoxM, ReC3, MxRef, LawIn, ReRef, HdP, DeM, DeC1, Sqr, DeC2, DeC3, ReC4, MxRef2, MxRef3, MxRef4, RowsG, Told, ErrK, ErrG, ReSays. -/
import Derived.Test.YtnjhdedhobgplaaDoorResultSaysProofG2
import Derived.Deep.RegionHeld3
import Derived.RangeFuncBox
import Derived.StillTailTactics
import Derived.BigQuiet
import Derived.Test.YtnjhdedhobgplaaDoorResultSaysProofG1
import Derived.Deep.LoopGhost
import Derived.Test.YtnjhdedhobgplaaDoorProg
import Derived.WalkKit
import Derived.LaidEql
import Derived.Stop.Asserts
import Derived.RowKitTokens
import Derived.Handy
import Derived.ProofKit
import Derived.OpenShut
import Derived.Lib.Hide

/- What the rounds over places keep: how many rows there are (for all packages). -/
namespace Go.Proofs.YtnjhdedhobgplaaDoor
open Go.ChangeShapes Go.WideShapes Go.ChangeAt Go.RowKit Go.Shelf
set_option linter.unusedVariables false
attribute [local go_sem] Oper.semAt_some

/-- What a round keeps: how many rows there are. -/
def KeepN (Bs n : Nat) (W W' : World) : Prop := W.cell? ⟨Bs, 0, none⟩ = some (.int .i64 (n : Int)) → W'.cell? ⟨Bs, 0, none⟩ = some (.int .i64 (n : Int))
theorem keepN_t {Bs n : Nat} {a b c : World} (h : KeepN Bs n a b) (h' : KeepN Bs n b c) : KeepN Bs n a c := fun x => h' (h x)
theorem keepN_b {Bs n : Nat} (W : World) (l : Nat) (o o' : Obj) (ho : W.heap[l]? = some o) (h1 : o.isCells = false) : KeepN Bs n W (W.putObj l o') :=
  fun x => cell_kept x (grownBy_putObj' W l o') (fun r e => by cases e; exact ⟨_, ho, h1⟩)
theorem keepN_set {Bs n : Nat} (W : World) (p : Addr) (v : Value) (h : p.block ≠ Bs) : KeepN Bs n W (W.setCell p v) := fun x =>
  (World.cell?_setCell_far W p ⟨Bs, 0, none⟩ v h).trans x

theorem boxed_keptN {W W' : World} {row : Option Nat} {B : Nat} {t : TypeId} {v : Value} (h : Boxed W B t v) (hg : W.grownBy W' row)
    (hr : ∀ r, row = some r → ∃ o : Obj, W.heap[r]? = some o ∧ o.isCells = false) : Boxed W' B t v :=
  h.kept hg fun e => by
    obtain ⟨o, ho, hc⟩ := hr B e.symm
    rw [show W.heap[B]? = _ from h] at ho; cases ho; cases hc
theorem boxed_kp {W W' : World} {B : Nat} {t : TypeId} {v : Value} (h : Boxed W B t v) (hk : Kp W W') : Boxed W' B t v :=
  (hk.block B h.lt).trans h
theorem keeps_kp {W W' : World} (h : Kp W W') : KeepsOthers W W' := ⟨h.size, fun k o hk _ => (h.block k (Array.getElem?_eq_some_iff.1 hk).1).trans hk⟩
theorem boxed_far {W : World} {B : Nat} {t : TypeId} {v : Value} (h : Boxed W B t v) {p : Addr} (hp : B ≠ p.block) (u : Value) : Boxed (W.setCell p u) B t v := by
  unfold Boxed
  rw [heap_setCell_other W p B u hp]; exact h
theorem boxed_same {W : World} {B : Nat} {t : TypeId} {v : Value} (h : Boxed W B t v) : W.setCell ⟨B, 0, none⟩ v = W := by
  have hl := h.lt
  have e : (W.setCell ⟨B, 0, none⟩ v).heap = W.heap := by
    refine Array.ext (by simp [World.setCell]) fun i h1 h2 => ?_
    by_cases e : i = B
    · subst e
      have h3 := Boxed.set v h
      have h4 : W.heap[i]? = some (.cells #[v] t (0, 0)) := h
      have h5 : (W.setCell ⟨i, 0, none⟩ v).heap[i]? = some (.cells #[v] t (0, 0)) := h3
      rw [Array.getElem?_eq_getElem h1] at h5
      rw [Array.getElem?_eq_getElem h2] at h4
      exact Option.some.inj (h5.trans h4.symm)
    · have h3 := heap_setCell_other W ⟨B, 0, none⟩ i v e
      rw [Array.getElem?_eq_getElem h1, Array.getElem?_eq_getElem h2] at h3
      exact Option.some.inj h3
  show { W with heap := (W.setCell ⟨B, 0, none⟩ v).heap } = W
  rw [e]
theorem boxed_drewN {W : World} {B : Nat} {t : TypeId} {v : Value} (h : Boxed W B t v) (n : Nat) : Boxed (W.drewN n) B t v := h

end Go.Proofs.YtnjhdedhobgplaaDoor

/- Contracts of package result, second part: slices.Reverse, what Full adds for one row of factors. -/
namespace Go.Proofs.YtnjhdedhobgplaaDoor
open Go.ChangeShapes Go.WideShapes Go.ChangeAt Go.RowKit Go.Shelf
set_option linter.unusedVariables false

/-- A row of which the first k and the last k numbers have changed places. -/
def rvk (n k : Nat) (f : Nat → Int) (t : Nat) : Int := if t < k ∨ n ≤ t + k then f (n - 1 - t) else f t
theorem rvk_none (n : Nat) (f : Nat → Int) : Mx.row n (rvk n 0 f) = Mx.row n f := Mx.row_ext fun t ht => by unfold rvk; rw [if_neg (by omega)]
theorem rvk_all {n k j : Nat} (f : Nat → Int) (hj : j + k + 1 = n) (h : ¬ k < j) : Mx.row n (rvk n k f) = Mx.row n fun t => f (n - 1 - t) := Mx.row_ext fun t ht => by
  unfold rvk
  by_cases e : t < k ∨ n ≤ t + k
  · rw [if_pos e]
  · rw [if_neg e, show n - 1 - t = t by omega]
theorem rvk_next {n k j : Nat} (f : Nat → Int) (hj : j + k + 1 = n) (h : k < j) : ((Mx.row n (rvk n k f)).set k (f j)).set j (f k) = Mx.row n (rvk n (k + 1) f) := by
  rw [Mx.row_set, Mx.row_set]
  refine Mx.row_ext fun t ht => ?_
  by_cases e1 : t = j
  · rw [if_pos e1, e1]; unfold rvk; rw [if_pos (by omega), show n - 1 - j = k by omega]
  · rw [if_neg e1]
    by_cases e2 : t = k
    · rw [if_pos e2, e2]; unfold rvk; rw [if_pos (by omega), show n - 1 - k = j by omega]
    · rw [if_neg e2]; unfold rvk
      by_cases e : t < k ∨ n ≤ t + k
      · rw [if_pos e, if_pos (by omega)]
      · rw [if_neg e, if_neg (by omega)]

set_option maxRecDepth 100000 in
set_option maxHeartbeats 3200000 in
theorem rev_any {w0 : World} (w : World) (g n c : Nat) (f : Nat → Int) (h : Own w w0.heap.size (.slice (some ⟨g, 0, none⟩) n c) (Mx.row n f)) (hk : Kp w0 w) (hB : w0.heap.size ≤ g) (h0 : 0 < n) (hn : n ≤ 1000) :
    Calls Tryd.prog 22 #[.slice (some ⟨g, 0, none⟩) n c] w fun e w' => e = .returned (.tuple #[]) ∧ Own w' w0.heap.size (.slice (some ⟨g, 0, none⟩) n c) (Mx.row n fun t => f (n - 1 - t)) ∧ Kp w0 w' := by
  have H := Lib.hid (show Own w w0.heap.size (.slice (some ⟨g, 0, none⟩) n c) (Mx.row n (rvk n 0 f)) by rw [rvk_none]; exact h)
  have HK := Lib.hid hk
  obtain ⟨n1, hn1⟩ : ∃ n1, n = n1 + 1 := ⟨n - 1, by omega⟩
  have e1 : (n : Int) - 1 = (n1 : Int) := by omega
  have HN := Lib.hid hn1
  clear h hk hn1
  go_enter Tryd.func22, Tryd.ntmps22
  go_wp2_with fail
  go_loopw [2, 3] (fun a b wr => ∃ k j : Nat, a = .int .i64 (k : Int) ∧ b = .int .i64 (j : Int) ∧ j + k + 1 = n ∧ Own wr w0.heap.size (.slice (some ⟨g, 0, none⟩) n c) (Mx.row n (rvk n k f)) ∧ Kp w0 wr) (fun a _ _ => n - (intOf a).toNat)
  case atStart => exact ⟨0, n1, rfl, by first | rfl | rw [e1], by have := HN.out; omega, H.out, HK.out⟩
  case round =>
    obtain ⟨k, j, rfl, rfl, hkj, ho, hkp⟩ := hrel
    by_cases hlt : k < j
    · have hkn : k < n := by omega
      have hjn : j < n := by omega
      have y1 := own_cell ho k (by rw [Mx.len_row]; exact hkn)
      have y2 := own_cell ho j (by rw [Mx.len_row]; exact hjn)
      rw [Mx.row_at n _ k hkn, show rvk n k f k = f k from if_neg (by omega)] at y1
      rw [Mx.row_at n _ j hjn, show rvk n k f j = f j from if_neg (by omega)] at y2
      have y3 := own_free ho k
      have y4 := own_free ho j
      have y5 := own_free (own_put ho k (f j)) j
      have hne : (⟨g, k, none⟩ : Addr) ≠ ⟨g, j, none⟩ := fun e' => by cases e'; omega
      have y6 : (wr.setCell ⟨g, k, none⟩ (.int .i64 (f j))).cell? ⟨g, j, none⟩ = some (.int .i64 (f j)) := by
        rw [World.cell?_setCell_other (w := wr) (v := .int .i64 (f j)) (h := hne)]; exact y2
      have HO := Lib.hid (show Own (((wr.setCell ⟨g, k, none⟩ (.int .i64 (f j))).setCell ⟨g, j, none⟩ (.int .i64 (f k)))) w0.heap.size (.slice (some ⟨g, 0, none⟩) n c) (Mx.row n (rvk n (k + 1) f)) from by
        rw [← rvk_next f hkj hlt]; exact own_put (own_put ho k (f j)) j (f k))
      have HK2 := Lib.hid ((hkp.put (p := ⟨g, k, none⟩) hB (.int .i64 (f j))).put (p := ⟨g, j, none⟩) hB (.int .i64 (f k)))
      obtain ⟨j1, hj1⟩ : ∃ j1, j = j1 + 1 := ⟨j - 1, by omega⟩
      have e2 : (j : Int) - 1 = (j1 : Int) := by omega
      have HJ := Lib.hid (show j1 + (k + 1) + 1 = n by omega)
      generalize f k = x at *
      generalize f j = y at *
      clear hkj ho hkp hne hj1
      go_wp2_with fail
      go_region_law (fail)
      all_goals
        go_wp2_with fail
        go_roundw
        case rel => exact ⟨k + 1, j1, by go_num, by first | rfl | rw [e2], HJ.out, HO.out, HK2.out.drewN 1⟩
        case measure => simp [intOf]; omega
    · have HO := Lib.hid (show Own wr w0.heap.size (.slice (some ⟨g, 0, none⟩) n c) (Mx.row n fun t => f (n - 1 - t)) by rw [← rvk_all f hkj hlt]; exact ho)
      have HK2 := Lib.hid hkp
      clear hkj ho hkp
      go_wp2_with fail
      go_end0
      exact ⟨rfl, HO.out, HK2.out⟩

end Go.Proofs.YtnjhdedhobgplaaDoor

/- A matrix of the call's own that lies in a variable: what leaves it as it is. For all packages. -/
namespace Go.Proofs.YtnjhdedhobgplaaDoor
open Go.ChangeShapes Go.WideShapes Go.ChangeAt Go.RowKit Go.Shelf
set_option linter.unusedVariables false

/-- What is the call's own abides the turn of what is no cells. -/
theorem ownsRow_keptN {W W' : World} {row : Option Nat} {B n : Nat} {e : TypeId} {v : Value} {xs : List Value} (h : W.ownsRow B e 1 v n xs) (hg : W.grownBy W' row)
    (hr : ∀ r, row = some r → ∃ o : Obj, W.heap[r]? = some o ∧ o.isCells = false) : W'.ownsRow B e 1 v n xs := by
  refine h.kept hg ?_
  rcases h.2 with ⟨rfl, _⟩ | ⟨g, cap, cur, rfl, _, hgb, _⟩
  · exact .inl rfl
  · refine .inr fun e' => ?_
    obtain ⟨o, ho, hc⟩ := hr g (by simpa [Value.ownBlock] using e'.symm)
    rw [hgb] at ho; cases ho; cases hc
theorem ownM_keptN {W W' : World} {row : Option Nat} {B : Nat} {v : Value} {G C : Nat → Nat} {m : List (List Int)} (h : OwnM W B v G C m) (hg : W.grownBy W' row)
    (hr : ∀ r, row = some r → ∃ o : Obj, W.heap[r]? = some o ∧ o.isCells = false) : OwnM W' B v G C m :=
  ⟨ownsRow_keptN h.top hg hr, fun i hi => ownsRow_keptN (h.row i hi) hg hr, h.apart⟩
/-- A store into a variable's box leaves the rows and their heads. -/
theorem ownM_box {W : World} {B Bx : Nat} {v u u' : Value} {G C : Nat → Nat} {m : List (List Int)} (h : OwnM W B v G C m) (hb : Boxed W Bx 28 u) : OwnM (W.setCell ⟨Bx, 0, none⟩ u') B v G C m := by
  refine ⟨World.ownsRow.kept h.top (grownBy_setCell' W Bx u') (.inr (hb.not_row (by decide) h.top).symm), fun i hi => own_store (h.row i hi) (a := ⟨Bx, 0, none⟩) (fun e => ?_) u', h.apart⟩
  obtain ⟨cur, hh, _⟩ := own_row (h.row i hi)
  have h2 : W.heap[Bx]? = some (.cells #[u] 28 (0, 0)) := hb
  rw [show G i = Bx from e, h2] at hh
  cases hh


end Go.Proofs.YtnjhdedhobgplaaDoor

/- Contracts of package result, third part: what Full adds for one row of factors. -/
namespace Go.Proofs.YtnjhdedhobgplaaDoor
open Go.ChangeShapes Go.WideShapes Go.ChangeAt Go.RowKit Go.Shelf
set_option linter.unusedVariables false

theorem row_mid (N k n : Nat) (u : Nat → Int) (h : k + n ≤ N) : List.replicate k 0 ++ Mx.row n u ++ List.replicate (N - (k + n)) 0 = Mx.row N fun x => if k ≤ x ∧ x < k + n then u (x - k) else 0 := by
  refine List.ext_getElem (by simp [Mx.row]; omega) fun i h1 h2 => ?_
  have hi : i < N := by simpa [Mx.row] using h2
  simp only [Mx.row, List.getElem_map, List.getElem_range, List.getElem_append, List.length_append, List.length_replicate, List.length_map, List.length_range, List.getElem_replicate]
  by_cases e1 : i < k
  · simp [e1, show i < k + n by omega, show ¬ k ≤ i by omega]
  · by_cases e2 : i < k + n
    · simp [e1, e2, show k ≤ i by omega]
    · simp [e2]
/-- One row of the matrix. -/
theorem shr_row {N k n : Nat} (p : Nat → Fp.F) (h : k + n ≤ N) (h0 : 0 < n) : List.replicate k 0 ++ (Mx.row n fun t => ((p (n - 1 - t)).val : Int)) ++ List.replicate (N - (k + n)) 0 = Mx.row N fun x => ((Mx.shr (n - 1) k n p x).val : Int) := by
  rw [row_mid N k n _ h]
  refine Mx.row_ext fun x hx => ?_
  unfold Mx.shr
  by_cases e : k ≤ x ∧ x < k + n
  · rw [if_pos e, if_pos e]
  · rw [if_neg e, if_neg e]; rfl
theorem vals_row (p : List Fp.F) : Pol.vals p = Mx.row p.length fun t => ((Pol.co p t).val : Int) := by
  refine List.ext_getElem (by simp [Pol.vals, Mx.row]) fun i h1 h2 => ?_
  have hi : i < p.length := by simpa [Pol.vals] using h1
  simp [Pol.vals, Mx.row, Pol.co, hi]

set_option maxRecDepth 100000 in
theorem copy_shift (w1 : World) (g N k n m c : Nat) (A : Option Addr) (l : List Int) (ty : TypeId) (hr : Row w1 g (List.replicate N 0)) (hl : Lies w1 A l) (hn : n = l.length) (hfit : k + n ≤ N) (hm : m = N - k) (h0 : 0 < n) :
    ∃ w2, (Builtin.copy_ #[22, 22] ty #[.slice (some ⟨g, k, none⟩) m m, .slice A n c]).run Tryd.prog w1 = .ok (goInt n) w2 ∧
      Row w2 g (List.replicate k 0 ++ l ++ List.replicate (N - (k + n)) 0) ∧ ∀ B w0, Below B w0 w1 → B ≤ g → Below B w0 w2 := by
  obtain ⟨i0, hi, hz0, hz1, hz2⟩ := info_parts int_info
  have hsz : (Tryd.prog.info? 3).map (·.size) = some 1 := by rw [hi]; simp [hz1]
  have hmm : Nat.min n m = n := Nat.min_eq_left (by omega)
  obtain ⟨ad, rfl, _, _⟩ := hl 0 (by omega)
  have hlen : (ints l).length = n := by rw [ints, List.length_map, hn]
  have hrun := run_copy_row (P := Tryd.prog) w1 22 22 ty 3 g k m m ad n c _ 3 (ints l) Tryd.underlying22 hsz hr (by rw [hlen]; exact hmm.symm)
    (fun j v hj => by
      have hj' : j < l.length := by
        rcases Nat.lt_or_ge j l.length with hlt | hge
        · exact hlt
        · rw [List.getElem?_eq_none (by rw [ints, List.length_map]; exact hge)] at hj; cases hj
      obtain ⟨ad', e, _, hc⟩ := hl j hj'
      obtain rfl := Option.some.inj e
      rw [hc, ← hj]
      rw [ints, List.getElem?_map, List.getD_eq_getElem?_getD, List.getElem?_eq_getElem hj']; rfl) (by rw [hlen]; simp; omega) (fun v hv => by simp only [ints, List.mem_map] at hv; obtain ⟨y, _, rfl⟩ := hv; rfl)
  rw [hlen] at hrun
  refine ⟨_, hrun, ?_, fun B w0 hb hB => below_setRow hb hB _⟩
  unfold Row
  rw [setRow_heap w1 g _ _ 3 (0, 0) hr]
  congr 3
  simp [ints, Nat.min_eq_left (show k ≤ N by omega)]

section
variable {w : World} {ops : Array Oper} {rest : List Oper} {o : Oper} {a : Act} {Q : Exit → Act → World → Prop}
/-- An append of a row: nothing but the block of heads may have turned. -/
theorem wpList_pushG (hgd : o.guard = Option.none) (s x : Operand) (ho : o.op = .call { callee := .builtin .append, args := #[s, x], argTypes := #[28, 28] })
    (B : Nat) (v : Value) (G C : Nat → Nat) (m : List (List Int)) (l : List Int) (g n c gb cb : Nat) (hn : l.length = n) (hs : a.eval s = v) (hx : a.eval x = .slice (some ⟨gb, 0, none⟩) 1 cb) (hown : OwnM w B v G C m)
    (hcell : w.cell? ⟨gb, 0, none⟩ = some (.slice (some ⟨g, 0, none⟩) n c)) (hrow : Own w B (.slice (some ⟨g, 0, none⟩) n c) l) (hap : ∀ i, i < m.length → G i ≠ g) (hlen : m.length + 1 ≤ 1000000) (hB : B ≤ w.heap.size)
    (h : ∀ v' w' G' C', OwnM w' B v' G' C' (m ++ [l]) → w.grownBy w' v.ownBlock → wpList Tryd.prog ops Q rest (a.put o.dst v') w') : wpList Tryd.prog ops Q (o :: rest) a w :=
  wpList_plain hgd fun _ hK => wp_pushM s x ho B v G C m l g n c gb cb hn hs hx hown hcell hrow hap hlen hB fun v' w' G' C' h1 h2 => hK _ _ (h v' w' G' C' h1 h2)
end

/-- What the rounds of Full keep: how many rows there are and the rows so far in variables of their own, the row that is laid ahead. -/
structure AddAt (w0 w : World) (bs bf g n gc N r : Nat) (f : Nat → Int) (F : Nat → Nat → Fp.F) (v : Value) (G C : Nat → Nat) : Prop where
  size : Boxed w bs 3 (.int .i64 (N : Int))
  full : Boxed w bf 28 v
  own : OwnM w w0.heap.size v G C (Mx.matl r N F)
  lead : Own w w0.heap.size (.slice (some ⟨g, 0, none⟩) n gc) (Mx.row n f)
  kp : Kp w0 w
theorem AddAt.fin {w0 w w2 w6 : World} {bs bf g n gc N r vg vc : Nat} {f : Nat → Int} {F : Nat → Nat → Fp.F} {v : Value} {G C G' C' : Nat → Nat} {tmp : Obj} (h : AddAt w0 w bs bf g n gc N r f F v G C) (hbf : w0.heap.size ≤ bf) (hne : bs ≠ bf) (hgf : g ≠ bf) (k : Kp w w2)
    (hg : (w2.alloc tmp).grownBy w6 v.ownBlock) (h6 : OwnM w6 w0.heap.size (.slice (some ⟨vg, 0, none⟩) (r + 1) vc) G' C' (Mx.matl r N F ++ [Mx.row N fun x => ((F r x).val : Int)])) :
    (w6.cell? ⟨bf, 0, none⟩ = some v ∧ w6.frozen? ⟨bf, 0, none⟩ = false) ∧
      AddAt w0 (w6.setCell ⟨bf, 0, none⟩ (.slice (some ⟨vg, 0, none⟩) (r + 1) vc)) bs bf g n gc N (r + 1) f F (.slice (some ⟨vg, 0, none⟩) (r + 1) vc) G' C' := by
  have hv4 := boxed_kp h.full k
  have hrow4 := (h.own.kp k).top
  have hs := (h.kp.trans k).size
  obtain ⟨b6, b7, _, ko, be⟩ := hv4.appended (by decide) hrow4 hs hbf h6.top hg
  have s4 := (boxed_kp h.size k).alloc tmp
  have s6 := s4.kept hg (s4.not_row (by decide) (hrow4.alloc tmp))
  have l4 := (ownsRow_kp h.lead k).alloc tmp
  have l6 : Own w6 w0.heap.size (.slice (some ⟨g, 0, none⟩) n gc) (Mx.row n f) := World.ownsRow.kept l4 hg (.inr (top_ne (hrow4.alloc tmp) l4))
  refine ⟨⟨b6.cell, b6.frozen⟩, (Below.heap_setCell w6 ⟨bf, 0, none⟩ _ bs hne).trans s6, b7, ?_, own_store l6 (a := ⟨bf, 0, none⟩) hgf _, Below.trans (h.kp.trans k) be⟩
  rw [show Mx.matl (r + 1) N F = Mx.matl r N F ++ [Mx.row N fun x => ((F r x).val : Int)] by rw [Mx.matl, Mx.tab_snoc]; rfl]
  exact ownM_box h6 b6

theorem AddAt.rows {w0 w : World} {bs bf g n gc N r : Nat} {f : Nat → Int} {F : Nat → Nat → Fp.F} {v : Value} {G C : Nat → Nat} (h : AddAt w0 w bs bf g n gc N r f F v G C) : ∃ A c, v = .slice A r c := by
  obtain ⟨A, c, e, _, _⟩ := h.own.lies
  rw [Mx.len_matl] at e
  exact ⟨A, c, e⟩

set_option maxRecDepth 100000 in
set_option maxHeartbeats 6400000 in
theorem add_any (w0 w : World) (A : Option Addr) (p : List Fp.F) (n c N r t bs bf : Nat) (F : Nat → Nat → Fp.F) (v : Value) (G C : Nat → Nat) (hn : n = p.length) (ha : Lies w A (Pol.vals p)) (h0 : 0 < n) (h1 : n ≤ 1000) (hfit : t + n ≤ N + 1) (hN : N ≤ 1000) (hr : r + t ≤ 1000)
    (bS : Boxed w bs 3 (.int .i64 (N : Int))) (bF : Boxed w bf 28 v) (ho : OwnM w w0.heap.size v G C (Mx.matl r N F)) (k0 : Kp w0 w) (hf : w0.heap.size ≤ bf) (hne : bs ≠ bf)
    (hF : ∀ i x, i < t → x < N → F (r + i) x = Mx.shr (n - 1) i n (Pol.co p) x) :
    Calls Tryd.prog 20 #[.slice A n c, .int .i64 (t : Int), .pointer (some ⟨bs, 0, none⟩), .pointer (some ⟨bf, 0, none⟩)] w fun e w' => e = .returned (.tuple #[]) ∧
      ∃ v' G' C', Boxed w' bs 3 (.int .i64 (N : Int)) ∧ Boxed w' bf 28 v' ∧ OwnM w' w0.heap.size v' G' C' (Mx.matl (r + t) N F) ∧ Kp w0 w' := by
  have CL := Lib.hid (show Calls Tryd.prog 21 #[.slice A n c] w fun e w' => ∃ g gc, e = .returned (.slice (some ⟨g, 0, none⟩) n gc) ∧ w.heap.size ≤ g ∧ Own w' w.heap.size (.slice (some ⟨g, 0, none⟩) n gc) (Mx.row n fun t => ((Pol.co p t).val : Int)) ∧ Kp w w' from by
    have h := sclone_any A (Pol.vals p) c w ha (by rw [Pol.len_vals]; omega)
    rw [Pol.len_vals, ← hn] at h
    refine h.mono ?_
    rintro e w' ⟨v, rfl, hv, hk⟩
    obtain ⟨g, gc, rfl, hg, _⟩ := own_some hv (by rw [Pol.len_vals]; omega)
    rw [vals_row, ← hn, Mx.len_row] at hv
    rw [Pol.len_vals, ← hn]
    exact ⟨g, gc, rfl, hg, hv, hk⟩)
  have SZ := Lib.hid bS
  have FU := Lib.hid bF
  have OW := Lib.hid ho
  have K0 := Lib.hid k0
  have HS := Lib.hid (show ∀ i, i < t → (List.replicate i 0 ++ (Mx.row n fun x => ((Pol.co p (n - 1 - x)).val : Int)) ++ List.replicate (N - (i + n)) 0) = Mx.row N fun x => ((F (r + i) x).val : Int) from fun i hi => by
    rw [shr_row (Pol.co p) (by omega) h0]
    exact Mx.row_ext fun x hx => by rw [hF i x hi hx])
  have HF := Lib.hid hf
  have HNE := Lib.hid hne
  obtain ⟨i0, hi, hz0, hz1, hz2⟩ := info_parts int_info
  clear ha bS bF ho k0 hF hn hf hne
  go_enter Tryd.func20, Tryd.ntmps20
  go_wp2_with fail
  refine (CL.out).mono ?_; rintro e w1 ⟨g, gc, rfl, hg, o1, k1⟩
  have RV := Lib.hid (rev_any (w0 := w) w1 g n gc (fun t => ((Pol.co p t).val : Int)) o1 k1 hg h0 h1)
  clear o1 k1
  go_wp2_with fail
  refine (RV.out).mono ?_; rintro e w2 ⟨rfl, o2, k2⟩
  have hgf : g ≠ bf := by have := FU.out.lt; omega
  have AT := Lib.hid (show AddAt w0 w2 bs bf g n gc N r (fun x => ((Pol.co p (n - 1 - x)).val : Int)) F v G C from ⟨boxed_kp SZ.out k2, boxed_kp FU.out k2, OW.out.kp k2, o2.from K0.out.size, K0.out.trans k2⟩)
  clear o2 k2 RV CL SZ FU OW K0 hg
  go_wp2_with fail
  go_loopw [14] (fun i wr => ∃ (k : Nat) (v' : Value) (G' C' : Nat → Nat), k ≤ t ∧ i = .int .i64 (k : Int) ∧ AddAt w0 wr bs bf g n gc N (r + k) (fun x => ((Pol.co p (n - 1 - x)).val : Int)) F v' G' C') (fun i _ => t - (intOf i).toNat)
  case atStart => exact ⟨0, v, G, C, Nat.zero_le _, rfl, AT.out⟩
  case round =>
    obtain ⟨k, v', G', C', hk, rfl, at0⟩ := hrel
    clear AT
    by_cases hlt : k < t
    · obtain ⟨Av, cv, rfl⟩ := at0.rows
      have x1 := at0.size.cell
      have HA := Lib.hid at0
      have hkN : k + n ≤ N := by omega
      have hkN2 : k < N := by omega
      have hNN : 0 < N := by omega
      clear at0
      go_wp2_with (at_make; refine wpList_make_full _ rfl _ _ 22 rfl w0.heap.size 3 i0 (.int .i64 0) 1 Tryd.underlying22 hi hz0 hz1 _ _ _ _ N rfl rfl rfl rfl (by rw [hz2]; omega) (by unfold maxLen; omega) HA.out.kp.size ?_; intro w3 hown hgrow; have hrow : Row w3 wr.heap.size (List.replicate N 0) := row_made hown; have k3 : Kp wr w3 := (Kp.rfl' wr).grown hgrow (by simp) (fun k hk => by cases hk))
      obtain ⟨z, hz⟩ : ∃ x, x = wr.heap.size := ⟨_, rfl⟩
      rw [← hz] at hrow ⊢
      have LD : Lies w3 (some ⟨g, 0, none⟩) (Mx.row n fun x => ((Pol.co p (n - 1 - x)).val : Int)) := by
        obtain ⟨A', c', e', hl'⟩ := HA.out.lead.lies
        have e1 : some (⟨g, 0, none⟩ : Addr) = A' := by injection e'
        rw [e1]
        exact hl'.keep k3
      obtain ⟨w4, hrun, hrow4, hk4⟩ := copy_shift w3 z N k n (N - k) gc _ _ 3 hrow LD (Mx.len_row _ _).symm hkN rfl h0
      rw [hrun]
      rw [HS.out k hlt] at hrow4
      have hzw : wr.heap.size ≤ z := Nat.le_of_eq hz.symm
      have HZ := Lib.hid hz
      have k4 : Kp wr w4 := hk4 _ _ k3 hzw
      have hs4 := (HA.out.kp.trans k4).size
      have f1 := (boxed_kp HA.out.full k4).cell
      have OM := Lib.hid (HA.out.own.kp k4)
      have RW := Lib.hid (show Own w4 w0.heap.size (.slice (some ⟨z, 0, none⟩) N N) (Mx.row N fun x => ((F (r + k) x).val : Int)) from hrow4.own (Nat.le_trans HA.out.kp.size hzw) (Mx.len_row _ _) (by omega))
      have HAP := Lib.hid (show ∀ i, i < (Mx.matl (r + k) N F).length → G' i ≠ z from fun i hi => by have := (HA.out.own.lt hi).2; omega)
      have K4 := Lib.hid k4
      have OS := Lib.hid (fun (v6 : Value) (w6 : World) (G6 C6 : Nat → Nat) (o6 : OwnM w6 w0.heap.size v6 G6 C6 (Mx.matl (r + k) N F ++ [Mx.row N fun x => ((F (r + k) x).val : Int)])) => (show ∃ vg vc, v6 = .slice (some ⟨vg, 0, none⟩) (r + k + 1) vc from by
        have ht := o6.top
        rw [List.length_append, List.length_singleton, Mx.len_matl] at ht
        exact ownsRow_succ ht))
      clear hrun hrow hrow4 hk4 LD k3 hown hgrow hz k4
      go_wp2_with (at_builtin; refine wpList_pushG rfl _ _ rfl w0.heap.size _ G' C' (Mx.matl (r + k) N F) (Mx.row N fun x => ((F (r + k) x).val : Int)) z N N _ 1 (Mx.len_row _ _) rfl rfl (OM.out.new _) (cell_made _ _ _ _ 0 rfl) (RW.out.new _) HAP.out (by rw [Mx.len_matl]; omega) (Nat.le_trans hs4 ((Kp.rfl' _).new _).size) ?_; intro v6 w6 G6 C6 o6 g6; obtain ⟨vg, vc, rfl⟩ := OS.out _ _ _ _ o6; obtain ⟨⟨b1, b2⟩, an⟩ := HA.out.fin HF.out HNE.out hgf K4.out g6 o6)
      have AN := Lib.hid an
      clear an g6 o6
      go_wp2_with fail
      go_roundw
      case rel => exact ⟨k + 1, _, _, _, by omega, by go_num, AN.out⟩
      case measure => simp [intOf]; omega
    · obtain rfl : k = t := by omega
      have HA := Lib.hid at0
      clear at0
      go_wp2_with fail
      go_end0
      exact ⟨rfl, _, _, _, HA.out.size, HA.out.full, HA.out.own, HA.out.kp⟩

end Go.Proofs.YtnjhdedhobgplaaDoor

/- Contracts of the document's answer on matrices (package rankmereref1: Mod, Unit, Flip, Copy, MatMul, MatAdd, Matrix, Field). For all packages. -/
namespace Go.Proofs.YtnjhdedhobgplaaDoor
open Go.ChangeShapes Go.WideShapes Go.ChangeAt Go.RowKit
set_option linter.unusedVariables false

theorem own_made {w : World} {base g n : Nat} (h : w.ownsRow base 3 1 (.slice (some ⟨g, 0, none⟩) n n) n (madeCells #[.int .i64 0] (n * 1)).toList) : Own w base (.slice (some ⟨g, 0, none⟩) n n) (Mx.row n fun _ => 0) := by
  unfold Own
  rw [Mx.len_row, ← Mx.row_rep]
  rw [toList_madeCells_one, Nat.mul_one] at h
  simpa [ints] using h
theorem rval (a : Fp.F) : 0 ≤ (a.val : Int) ∧ (a.val : Int) ≤ 9972 := by have := a.isLt; omega
theorem rprod (a b : Fp.F) : 0 ≤ (a.val : Int) * (b.val : Int) ∧ (a.val : Int) * (b.val : Int) ≤ 99440784 := by
  have h1 := rval a
  have h2 := rval b
  exact ⟨Int.mul_nonneg h1.1 h2.1, Int.mul_le_mul h1.2 h2.2 h2.1 (by decide)⟩
theorem rzero : ((0 : Fp.F).val : Int) = 0 := rfl

theorem rMod_any (n : Int) (w : World) (h1 : -1000000000000000 ≤ n) (h2 : n ≤ 1000000000000000) :
    Calls Tryd.prog 18 #[.int .i64 n] w fun e w' => e = .returned (.int .i64 (n % 9973)) ∧ w = w' := by
  obtain ⟨f1, f2⟩ := Num.tmod_fix n 9973 (by omega)
  obtain ⟨b2, b1⟩ := Num.tmod_bound n 9973 (by omega)
  have F1 := Lib.hid f1
  have F2 := Lib.hid f2
  clear f1 f2
  by_cases h : n.tmod 9973 < 0
  · go_enter Tryd.func18, Tryd.ntmps18
    go_wp2
    go_ret
    exact ⟨ret_int (F1.out h), rfl⟩
  · have h' : 0 ≤ n.tmod 9973 := by omega
    clear h
    go_enter Tryd.func18, Tryd.ntmps18
    go_wp2
    go_ret
    exact ⟨ret_int (F2.out h'), rfl⟩

/-- A matrix that the call made. -/
def Made (r c : Nat) (f : Nat → Nat → Fp.F) (w : World) (e : Ending) (w' : World) : Prop := ∃ A d, e = .returned (.slice A r d) ∧ LiesM w' A (Mx.matl r c f) ∧ Kp w w'
/-- The same, to be written to. -/
def MadeOwn (r c : Nat) (f : Nat → Nat → Fp.F) (w : World) (e : Ending) (w' : World) : Prop := ∃ v G C, e = .returned v ∧ OwnM w' w.heap.size v G C (Mx.matl r c f) ∧ Kp w w'



end Go.Proofs.YtnjhdedhobgplaaDoor

/- The laws' small function 'in'. -/
namespace Go.Proofs.YtnjhdedhobgplaaDoor
open Go.ChangeShapes Go.WideShapes Go.ChangeAt Go.RowKit
set_option linter.unusedVariables false




theorem ref2In_any (n a b : Int) (w : World) (t : Bool) (h : (decide (a ≤ n) && decide (n ≤ b)) = t) :
    Calls Tryd.prog 13 #[.int .i64 n, .int .i64 a, .int .i64 b] w fun e w' => e = .returned (.bool t) ∧ w = w' := by
  have H := Lib.hid h
  clear h
  by_cases h1 : a ≤ n
  · by_cases h2 : n ≤ b
    · go_enter Tryd.func13, Tryd.ntmps13
      go_wp2
      go_ret
      exact ⟨ret_bool (by rw [← H.out]; simp [h1, h2]), rfl⟩
    · go_enter Tryd.func13, Tryd.ntmps13
      go_wp2
      go_ret
      exact ⟨ret_bool (by rw [← H.out]; simp [h1]; omega), rfl⟩
  · go_enter Tryd.func13, Tryd.ntmps13
    go_wp2
    go_ret
    exact ⟨ret_bool (by rw [← H.out]; simp; omega), rfl⟩

end Go.Proofs.YtnjhdedhobgplaaDoor

/- The document's answer on two rows of factors: Two, Syl. Made by tools/gen_ReRef.py. -/
namespace Go.Proofs.YtnjhdedhobgplaaDoor
open Go.ChangeShapes Go.WideShapes Go.ChangeAt Go.RowKit
set_option linter.unusedVariables false

theorem rTwo_none (A B : Option Addr) (L M : List Int) (c d : Nat) (w : World) (h : L.length = 0 ∨ M.length = 0) :
    Calls Tryd.prog 4 #[.slice A L.length c, .slice B M.length d] w fun e w' => e = .returned (.int .i64 (recd L M : Int)) ∧ w = w' := by
  rw [recd_none h]
  by_cases h0 : L.length = 0
  · rw [h0]
    clear h h0
    go_enter Tryd.func4, Tryd.ntmps4
    go_wp2
    go_ret
    exact ⟨rfl, rfl⟩
  · rw [show M.length = 0 by omega]
    generalize L.length = n at *
    have e0 : ((n : Int) == 0) = false := by rw [beq_eq_false_iff_ne]; omega
    clear h h0
    go_enter Tryd.func4, Tryd.ntmps4
    go_wp2
    go_ret
    exact ⟨rfl, rfl⟩
theorem rTwo_range (A B : Option Addr) (L M : List Int) (n m c d : Nat) (w : World) (ha : Lies w A L) (hb : Lies w B M) (hL : L.length = n) (hM : M.length = m) (bL : n ≤ 9223372036854775807) (bM : m ≤ 9223372036854775807) (h0 : ¬ (n = 0 ∨ m = 0)) (h : ¬ (AllIn L 0 9972 ∧ AllIn M 0 9972)) :
    Calls Tryd.prog 4 #[.slice A n c, .slice B m d] w fun e w' => e = .returned (.int .i64 (recd L M : Int)) ∧ w = w' := by
  rw [recd_range (by rw [hL, hM]; exact h0) h]
  have e0 : ((n : Int) == 0) = false := by rw [beq_eq_false_iff_ne]; omega
  have e1 : ((m : Int) == 0) = false := by rw [beq_eq_false_iff_ne]; omega
  have C1 := all_big A L c 0 9972 w ha (by omega)
  have C2 := all_big B M d 0 9972 w hb (by omega)
  rw [hL] at C1
  rw [hM] at C2
  have C1 := Lib.hid C1
  have C2 := Lib.hid C2
  by_cases h1 : AllIn L 0 9972
  · have h2 := Lib.hid (show ¬ AllIn M 0 9972 from fun h3 => h ⟨h1, h3⟩)
    have H1 := Lib.hid h1
    clear ha hb hL hM h0 h h1
    go_enter Tryd.func4, Tryd.ntmps4
    go_wp2_with fail
    refine (C1.out).mono ?_; rintro e w' ⟨ht, rfl⟩
    obtain rfl := tells_yes ht H1.out
    clear ht
    go_wp2_with fail
    refine (C2.out).mono ?_; rintro e w' ⟨ht, rfl⟩
    obtain rfl := tells_no ht h2.out
    clear ht
    go_wp2_with fail
    go_ret
    exact ⟨rfl, rfl⟩
  · have H1 := Lib.hid h1
    clear ha hb hL hM h0 h h1
    go_enter Tryd.func4, Tryd.ntmps4
    go_wp2_with fail
    refine (C1.out).mono ?_; rintro e w' ⟨ht, rfl⟩
    obtain rfl := tells_no ht H1.out
    clear ht
    go_wp2_with fail
    go_ret
    exact ⟨rfl, rfl⟩
theorem wrap_sum (n m : Nat) (bL : n ≤ 9223372036854775807) (bM : m ≤ 9223372036854775807) (h0 : 0 < n) (h1 : 0 < m) :
    (1 ≤ IntKind.i64.wrap (IntKind.i64.wrap ((n : Int) + (m : Int)) - 2) ∧ IntKind.i64.wrap (IntKind.i64.wrap ((n : Int) + (m : Int)) - 2) ≤ 5) ↔ (3 ≤ n + m ∧ n + m ≤ 7) := by
  rw [IntKind.wrap_i64, IntKind.wrap_i64]; omega

set_option maxHeartbeats 800000 in
theorem rTwo_last (A B : Option Addr) (L M : List Int) (n m k j c d : Nat) (w : World) (ha : Lies w A L) (hb : Lies w B M) (hL : L.length = n) (hM : M.length = m) (hn : n = k + 1) (hm : m = j + 1)
    (bL : n ≤ 9223372036854775807) (bM : m ≤ 9223372036854775807) (h : AllIn L 0 9972 ∧ AllIn M 0 9972) :
    Calls Tryd.prog 4 #[.slice A n c, .slice B m d] w fun e w' => e = .returned (.int .i64 (recd L M : Int)) ∧ w = w' := by
  have h0 : ¬ (L.length = 0 ∨ M.length = 0) := by omega
  have C1 := all_big A L c 0 9972 w ha (by omega)
  have C2 := all_big B M d 0 9972 w hb (by omega)
  rw [hL] at C1
  rw [hM] at C2
  have C1 := Lib.hid (C1.mono fun (e : Ending) w' ⟨ht, hw⟩ => (show e = Ending.returned (Value.bool true) ∧ w = w' from ⟨tells_yes ht h.1, hw⟩))
  have C2 := Lib.hid (C2.mono fun (e : Ending) w' ⟨ht, hw⟩ => (show e = Ending.returned (Value.bool true) ∧ w = w' from ⟨tells_yes ht h.2, hw⟩))
  have E3 := Lib.hid (recd_shape h0 h)
  have E4 := Lib.hid (recd_full h0 h)
  have E0 := Lib.hid (recd_ok h0 h)
  have SZ := Lib.hid (show 3 ≤ L.length + M.length ∧ L.length + M.length ≤ 7 ↔ 3 ≤ n + m ∧ n + m ≤ 7 from by omega)
  have W := Lib.hid (wrap_sum n m bL bM (by omega) (by omega))
  obtain ⟨a, rfl, xa⟩ := ha.last (hL.trans hn)
  obtain ⟨b, rfl, xb⟩ := hb.last (hM.trans hm)
  have e0 : ((n : Int) == 0) = false := by rw [beq_eq_false_iff_ne]; omega
  have e1 : ((m : Int) == 0) = false := by rw [beq_eq_false_iff_ne]; omega
  have k0 : k < n := by omega
  have j0 : j < m := by omega
  have ek : (n : Int) - 1 = (k : Int) := by omega
  have ej : (m : Int) - 1 = (j : Int) := by omega
  generalize L.getD (L.length - 1) 0 = x at *
  generalize M.getD (M.length - 1) 0 = y at *
  obtain ⟨s1, hs1⟩ : ∃ s1, s1 = IntKind.i64.wrap ((n : Int) + (m : Int)) := ⟨_, rfl⟩
  rw [← hs1] at W
  obtain ⟨s, hs⟩ : ∃ s, s = IntKind.i64.wrap (s1 - 2) := ⟨_, rfl⟩
  rw [← hs] at W
  have IN := Lib.hid (fun (t : Bool) (ht : (decide (1 ≤ s) && decide (s ≤ 5)) = t) w' => ref2In_any s 1 5 w' t ht)
  have HS := hs.symm
  have HS1 := hs1.symm
  clear ha hb hL hM hn hm h h0 hs hs1
  by_cases hx : x = 0
  · have E := Lib.hid (E3.out (.inl hx))
    rw [hx] at xa
    clear hx E3 E4 E0 SZ
    go_enter Tryd.func4, Tryd.ntmps4
    go_wp2_with fail
    refine (C1.out).mono ?_; rintro e w' ⟨rfl, rfl⟩
    go_wp2_with fail
    refine (C2.out).mono ?_; rintro e w' ⟨rfl, rfl⟩
    go_wp2_with fail
    go_ret
    exact ⟨by rw [E.out]; rfl, rfl⟩
  · have ex : (x == 0) = false := by rw [beq_eq_false_iff_ne]; exact hx
    by_cases hy : y = 0
    · have E := Lib.hid (E3.out (.inr hy))
      rw [hy] at xb
      clear hx hy E3 E4 E0 SZ
      go_enter Tryd.func4, Tryd.ntmps4
      go_wp2_with fail
      refine (C1.out).mono ?_; rintro e w' ⟨rfl, rfl⟩
      go_wp2_with fail
      refine (C2.out).mono ?_; rintro e w' ⟨rfl, rfl⟩
      go_wp2_with fail
      go_ret
      exact ⟨by rw [E.out]; rfl, rfl⟩
    · have ey : (y == 0) = false := by rw [beq_eq_false_iff_ne]; exact hy
      have hxy : ¬ (x = 0 ∨ y = 0) := fun h => h.elim hx hy
      by_cases hz : 3 ≤ n + m ∧ n + m ≤ 7
      · have E := Lib.hid (E0.out hxy (SZ.out.2 hz))
        have I := Lib.hid (fun w' => IN.out true (by have := W.out.2 hz; simp; exact this) w')
        clear hx hy hxy E3 E4 E0 SZ W hz IN
        go_enter Tryd.func4, Tryd.ntmps4
        go_wp2_with fail
        refine (C1.out).mono ?_; rintro e w' ⟨rfl, rfl⟩
        go_wp2_with fail
        refine (C2.out).mono ?_; rintro e w' ⟨rfl, rfl⟩
        go_wp2_with fail
        refine (I.out _).mono ?_; rintro e w' ⟨rfl, rfl⟩
        go_wp2_with fail
        go_ret
        exact ⟨by rw [E.out]; rfl, rfl⟩
      · have E := Lib.hid (E4.out hxy fun h => hz (SZ.out.1 h))
        have I := Lib.hid (fun w' => IN.out false (by have h3 : ¬ (1 ≤ s ∧ s ≤ 5) := (fun h => hz (W.out.1 h)); simp; omega) w')
        clear hx hy hxy E3 E4 E0 SZ W hz IN
        go_enter Tryd.func4, Tryd.ntmps4
        go_wp2_with fail
        refine (C1.out).mono ?_; rintro e w' ⟨rfl, rfl⟩
        go_wp2_with fail
        refine (C2.out).mono ?_; rintro e w' ⟨rfl, rfl⟩
        go_wp2_with fail
        refine (I.out _).mono ?_; rintro e w' ⟨rfl, rfl⟩
        go_wp2_with fail
        go_ret
        exact ⟨by rw [E.out]; rfl, rfl⟩
theorem rTwo_any (A B : Option Addr) (L M : List Int) (c d : Nat) (w : World) (ha : Lies w A L) (hb : Lies w B M) (bL : L.length ≤ 9223372036854775807) (bM : M.length ≤ 9223372036854775807) :
    Calls Tryd.prog 4 #[.slice A L.length c, .slice B M.length d] w fun e w' => e = .returned (.int .i64 (recd L M : Int)) ∧ w = w' := by
  by_cases h0 : L.length = 0 ∨ M.length = 0
  · exact rTwo_none A B L M c d w h0
  · by_cases h : AllIn L 0 9972 ∧ AllIn M 0 9972
    · exact rTwo_last A B L M L.length M.length (L.length - 1) (M.length - 1) c d w ha hb rfl rfl (by omega) (by omega) bL bM h
    · exact rTwo_range A B L M L.length M.length c d w ha hb rfl rfl bL bM h0 h

theorem shr_zero (N m a : Nat) (u : Nat → Fp.F) : List.replicate N (0 : Int) = Mx.row N fun x => ((Mx.shr m a 0 u x).val : Int) := by
  rw [Mx.row_rep]
  exact Mx.row_ext fun x _ => by rw [Mx.shr_none]; rfl
theorem shr_set (N m a k : Nat) (u : Nat → Fp.F) : (Mx.row N fun x => ((Mx.shr m a k u x).val : Int)).set (a + k) ((u (m - k)).val : Int) = Mx.row N fun x => ((Mx.shr m a (k + 1) u x).val : Int) := by
  rw [Mx.row_set]
  refine Mx.row_ext fun x _ => ?_
  by_cases e : x = a + k
  · rw [if_pos e, e, Mx.shr_here]
  · rw [if_neg e, Mx.shr_other _ _ _ _ e]

set_option maxRecDepth 100000 in
set_option maxHeartbeats 12800000 in
theorem rSyl_any (A B : Option Addr) (p q : List Fp.F) (n m c d : Nat) (w : World) (ha : Lies w A (Pol.vals p)) (hb : Lies w B (Pol.vals q)) (hn : n = p.length) (hm : m = q.length) (n0 : 0 < n) (m0 : 0 < m) (lo : 3 ≤ n + m) (hi : n + m ≤ 7) :
    Calls Tryd.prog 7 #[.slice A n c, .slice B m d] w fun e w' => Made (p.length - 1 + (q.length - 1)) (p.length - 1 + (q.length - 1)) (Mx.smx p q) w e w' := by
  obtain ⟨x, hx⟩ : ∃ x, n = x + 1 := ⟨n - 1, by omega⟩
  obtain ⟨y, hy⟩ : ∃ y, m = y + 1 := ⟨m - 1, by omega⟩
  obtain ⟨N, hN⟩ : ∃ N, N = x + y := ⟨_, rfl⟩
  rw [show p.length - 1 + (q.length - 1) = N by omega]
  have XA := Lib.hid (show ∀ (w' : World) (k : Kp w w') (i : Nat), i < n → ∃ ad, A = some ad ∧ w'.cell? (ad.add i) = some (.int .i64 ((Pol.co p i).val : Int)) from fun w' k i hi => by
    obtain ⟨ad, e, _, x⟩ := (ha.keep k) i (by rw [Pol.len_vals]; omega)
    rw [Pol.vals_at] at x
    exact ⟨ad, e, x⟩)
  have XB := Lib.hid (show ∀ (w' : World) (k : Kp w w') (i : Nat), i < m → ∃ ad, B = some ad ∧ w'.cell? (ad.add i) = some (.int .i64 ((Pol.co q i).val : Int)) from fun w' k i hi => by
    obtain ⟨ad, e, _, x⟩ := (hb.keep k) i (by rw [Pol.len_vals]; omega)
    rw [Pol.vals_at] at x
    exact ⟨ad, e, x⟩)
  have FA := Lib.hid (show ∀ i, i < y → (Mx.row N fun z => ((Mx.smx p q i z).val : Int)) = Mx.row N fun z => ((Mx.shr x i n (Pol.co p) z).val : Int) from fun i hi => Mx.row_ext fun z _ => by
    unfold Mx.smx
    rw [show p.length - 1 = x by omega, show q.length - 1 = y by omega, Mx.syd_first _ _ hi, hx])
  have FB := Lib.hid (show ∀ i, y ≤ i → (Mx.row N fun z => ((Mx.smx p q i z).val : Int)) = Mx.row N fun z => ((Mx.shr y (i - y) m (Pol.co q) z).val : Int) from fun i hi => Mx.row_ext fun z _ => by
    unfold Mx.smx
    rw [show p.length - 1 = x by omega, show q.length - 1 = y by omega, Mx.syd_last _ _ (show ¬ i < y by omega), hy])
  have HX := Lib.hid hx
  have HY := Lib.hid hy
  have HN := Lib.hid hN
  have es : (n : Int) + (m : Int) - 2 = (N : Int) := by omega
  have em : (m : Int) - 1 = (y : Int) := by omega
  have N5 : N ≤ 5 := by omega
  obtain ⟨i0, hi0, hz0, hz1, hz2⟩ := info_parts int_info
  generalize Mx.smx p q = F at *
  generalize Pol.co p = u at *
  generalize Pol.co q = v at *
  clear ha hb hn hm hx hy hN
  go_enter Tryd.func7, Tryd.ntmps7
  go_wp2_with fail
  go_loopw [6, 7] (fun o i wr => ∃ (k : Nat) (G C : Nat → Nat), k ≤ N ∧ i = .int .i64 (k : Int) ∧ OwnM wr w.heap.size o G C (Mx.matl k N F) ∧ Kp w wr) (fun _ i _ => N - (intOf i).toNat)
  case atStart => exact ⟨0, fun _ => 0, fun _ => 0, Nat.zero_le _, rfl, ownM_none _ _ _ _, Kp.rfl' _⟩
  case round =>
    obtain ⟨k, G, C, hk, rfl, ho, hkp⟩ := hrel
    obtain ⟨wo, hwo⟩ : ∃ x, x = wr := ⟨_, rfl⟩
    subst hwo
    have HO := Lib.hid ho
    have HK := Lib.hid hkp
    clear ho hkp
    by_cases hlt : k < N
    · have HS := Lib.hid (show Mx.matl (k + 1) N F = Mx.matl k N F ++ [Mx.row N fun j => ((F k j).val : Int)] by rw [Mx.matl, Mx.tab_snoc]; rfl)
      by_cases hr : k < y
      · have HR := Lib.hid hr
        have g1 : ¬ (y : Int) ≤ (k : Int) := by omega
        clear hr
        have hz0' : Mx.row N (fun zz => ((Mx.shr x k 0 u zz).val : Int)) = List.replicate N 0 := (shr_zero N x k u).symm
        have HZ0 := Lib.hid hz0'
        have AL := Lib.hid (show k + n ≤ N from by have := HX.out; have := HY.out; have := HN.out; omega)
        clear hz0'
        go_wp2_with (at_make; refine wpList_make_full _ rfl _ _ 22 rfl w.heap.size 3 i0 (.int .i64 0) 1 Tryd.underlying22 hi0 hz0 hz1 _ _ _ _ N rfl rfl rfl rfl (by rw [hz2]; omega) (by unfold maxLen; omega) HK.out.size ?_; intro w3 hown hgrow; have hrow : Row w3 wo.heap.size (List.replicate N 0) := row_made hown; have k3 : Kp wo w3 := (Kp.rfl' wo).grown hgrow (by simp) (fun k hk => by cases hk))
        obtain ⟨z, hz⟩ : ∃ z, z = wo.heap.size := ⟨_, rfl⟩
        rw [← hz] at hrow ⊢
        rw [← HZ0.out] at hrow
        have hzw := Nat.le_of_eq hz.symm
        have R3 := Lib.hid hrow
        have K3 := Lib.hid k3
        have HZ := Lib.hid hzw
        have HZE := Lib.hid hz
        clear hrow k3 hown hgrow hz hzw
        go_loopw [11] (fun i wr => ∃ t : Nat, t ≤ n ∧ i = .int .i64 (t : Int) ∧ Row wr z (Mx.row N fun zz => ((Mx.shr x k t u zz).val : Int)) ∧ Kp wo wr) (fun i _ => n - (intOf i).toNat)
        case atStart => exact ⟨0, Nat.zero_le _, rfl, R3.out, K3.out⟩
        case round =>
          obtain ⟨t, ht, rfl, hrw, hkq⟩ := hrel
          clear R3 K3
          by_cases hlt2 : t < n
          · obtain ⟨r, hr⟩ : ∃ r, r = x - t := ⟨_, rfl⟩
            have hrl : r < n := by have := HX.out; omega
            have er : (n : Int) - 1 - (t : Int) = (r : Int) := by have := HX.out; omega
            have er2 : (x : Int) - (t : Int) = (r : Int) := by have := HX.out; omega
            obtain ⟨o, hoo⟩ : ∃ o, o = k + t := ⟨_, rfl⟩
            have eo : (k : Int) + (t : Int) = (o : Int) := by omega
            have ol : o < N := by have := AL.out; omega
            obtain ⟨ad, rfl, x1⟩ := XA.out wr (HK.out.trans hkq) r hrl
            have x2 := hrw.cell o (by rw [Mx.len_row]; exact ol)
            have x3 := hrw.free o
            have RN := Lib.hid (show Row (wr.setCell ⟨z, o, none⟩ (.int .i64 ((u r).val : Int))) z (Mx.row N fun zz => ((Mx.shr x k (t + 1) u zz).val : Int)) from by
              have h := hrw.put o (((u r).val : Int))
              rw [hoo, hr, shr_set, ← hoo, ← hr] at h
              exact h)
            have KN := Lib.hid (hkq.put (p := ⟨z, o, none⟩) HZ.out (.int .i64 ((u r).val : Int)))
            generalize ((u r).val : Int) = val at *
            clear hr hoo hrw hkq
            go_wp2_with fail
            go_roundw
            case rel => exact ⟨t + 1, by omega, by go_num, RN.out, KN.out⟩
            case measure => simp [intOf]; omega
          · obtain rfl : t = n := by omega
            have OM := Lib.hid (HO.out.kp hkq)
            have RW := Lib.hid (show Own wr w.heap.size (.slice (some ⟨z, 0, none⟩) N N) (Mx.row N fun zz => ((F k zz).val : Int)) from by
              rw [FA.out k HR.out]
              exact hrw.own (Nat.le_trans HK.out.size HZ.out) (Mx.len_row _ _) (by omega))
            have HAP := Lib.hid (show ∀ i, i < (Mx.matl k N F).length → G i ≠ z from fun i hi => by have := (HO.out.lt hi).2; have := HZ.out; omega)
            have HQ := Lib.hid hkq
            clear hrw hkq
            go_wp2_with (at_builtin; refine wpList_pushM rfl _ _ rfl w.heap.size _ G C (Mx.matl k N F) (Mx.row N fun zz => ((F k zz).val : Int)) z N N _ 1 (Mx.len_row _ _) rfl rfl (OM.out.new _) (cell_made _ _ _ _ 0 rfl) (RW.out.new _) HAP.out (by rw [Mx.len_matl]; omega) (Nat.le_trans (HK.out.trans HQ.out).size ((Kp.rfl' _).new _).size) ?_; intro v' w' G' C' ho' hk')
            have HO' := Lib.hid ho'
            have HK' := Lib.hid (hk' w (Nat.le_refl _) ((HK.out.trans HQ.out).new _))
            clear ho' hk'
            go_wp2_with fail
            go_roundw
            case rel => exact ⟨k + 1, G', C', by omega, by go_num, by rw [HS.out]; exact HO'.out, HK'.out⟩
            case measure => simp [intOf]; omega
      · have g1 : (y : Int) ≤ (k : Int) := by omega
        obtain ⟨a, haa⟩ : ∃ a, a = k - y := ⟨_, rfl⟩
        have ea : (k : Int) - (y : Int) = (a : Int) := by omega
        have HFB := Lib.hid (show (Mx.row N fun z => ((F k z).val : Int)) = Mx.row N fun z => ((Mx.shr y a m v z).val : Int) from by rw [haa]; exact FB.out k (by omega))
        have hay : a + y < N := by omega
        clear hr haa
        have hz0' : Mx.row N (fun zz => ((Mx.shr y a 0 v zz).val : Int)) = List.replicate N 0 := (shr_zero N y a v).symm
        have HZ0 := Lib.hid hz0'
        have AL := Lib.hid (show a + m ≤ N from by have := HX.out; have := HY.out; have := HN.out; omega)
        clear hz0'
        go_wp2_with (at_make; refine wpList_make_full _ rfl _ _ 22 rfl w.heap.size 3 i0 (.int .i64 0) 1 Tryd.underlying22 hi0 hz0 hz1 _ _ _ _ N rfl rfl rfl rfl (by rw [hz2]; omega) (by unfold maxLen; omega) HK.out.size ?_; intro w3 hown hgrow; have hrow : Row w3 wo.heap.size (List.replicate N 0) := row_made hown; have k3 : Kp wo w3 := (Kp.rfl' wo).grown hgrow (by simp) (fun k hk => by cases hk))
        obtain ⟨z, hz⟩ : ∃ z, z = wo.heap.size := ⟨_, rfl⟩
        rw [← hz] at hrow ⊢
        rw [← HZ0.out] at hrow
        have hzw := Nat.le_of_eq hz.symm
        have R3 := Lib.hid hrow
        have K3 := Lib.hid k3
        have HZ := Lib.hid hzw
        have HZE := Lib.hid hz
        clear hrow k3 hown hgrow hz hzw
        go_loopw [11] (fun i wr => ∃ t : Nat, t ≤ m ∧ i = .int .i64 (t : Int) ∧ Row wr z (Mx.row N fun zz => ((Mx.shr y a t v zz).val : Int)) ∧ Kp wo wr) (fun i _ => m - (intOf i).toNat)
        case atStart => exact ⟨0, Nat.zero_le _, rfl, R3.out, K3.out⟩
        case round =>
          obtain ⟨t, ht, rfl, hrw, hkq⟩ := hrel
          clear R3 K3
          by_cases hlt2 : t < m
          · obtain ⟨r, hr⟩ : ∃ r, r = y - t := ⟨_, rfl⟩
            have hrl : r < m := by have := HY.out; omega
            have er : (m : Int) - 1 - (t : Int) = (r : Int) := by have := HY.out; omega
            have er2 : (y : Int) - (t : Int) = (r : Int) := by have := HY.out; omega
            obtain ⟨o, hoo⟩ : ∃ o, o = a + t := ⟨_, rfl⟩
            have eo : (a : Int) + (t : Int) = (o : Int) := by omega
            have ol : o < N := by have := AL.out; omega
            obtain ⟨ad, rfl, x1⟩ := XB.out wr (HK.out.trans hkq) r hrl
            have x2 := hrw.cell o (by rw [Mx.len_row]; exact ol)
            have x3 := hrw.free o
            have RN := Lib.hid (show Row (wr.setCell ⟨z, o, none⟩ (.int .i64 ((v r).val : Int))) z (Mx.row N fun zz => ((Mx.shr y a (t + 1) v zz).val : Int)) from by
              have h := hrw.put o (((v r).val : Int))
              rw [hoo, hr, shr_set, ← hoo, ← hr] at h
              exact h)
            have KN := Lib.hid (hkq.put (p := ⟨z, o, none⟩) HZ.out (.int .i64 ((v r).val : Int)))
            generalize ((v r).val : Int) = val at *
            clear hr hoo hrw hkq
            go_wp2_with fail
            go_roundw
            case rel => exact ⟨t + 1, by omega, by go_num, RN.out, KN.out⟩
            case measure => simp [intOf]; omega
          · obtain rfl : t = m := by omega
            have OM := Lib.hid (HO.out.kp hkq)
            have RW := Lib.hid (show Own wr w.heap.size (.slice (some ⟨z, 0, none⟩) N N) (Mx.row N fun zz => ((F k zz).val : Int)) from by
              rw [HFB.out]
              exact hrw.own (Nat.le_trans HK.out.size HZ.out) (Mx.len_row _ _) (by omega))
            have HAP := Lib.hid (show ∀ i, i < (Mx.matl k N F).length → G i ≠ z from fun i hi => by have := (HO.out.lt hi).2; have := HZ.out; omega)
            have HQ := Lib.hid hkq
            clear hrw hkq
            go_wp2_with (at_builtin; refine wpList_pushM rfl _ _ rfl w.heap.size _ G C (Mx.matl k N F) (Mx.row N fun zz => ((F k zz).val : Int)) z N N _ 1 (Mx.len_row _ _) rfl rfl (OM.out.new _) (cell_made _ _ _ _ 0 rfl) (RW.out.new _) HAP.out (by rw [Mx.len_matl]; omega) (Nat.le_trans (HK.out.trans HQ.out).size ((Kp.rfl' _).new _).size) ?_; intro v' w' G' C' ho' hk')
            have HO' := Lib.hid ho'
            have HK' := Lib.hid (hk' w (Nat.le_refl _) ((HK.out.trans HQ.out).new _))
            clear ho' hk'
            go_wp2_with fail
            go_roundw
            case rel => exact ⟨k + 1, G', C', by omega, by go_num, by rw [HS.out]; exact HO'.out, HK'.out⟩
            case measure => simp [intOf]; omega
    · obtain rfl : k = N := by omega
      obtain ⟨A2, d2, rfl, hl, _⟩ := HO.out.lies
      rw [Mx.len_matl]
      have HL := Lib.hid hl
      clear hl
      go_wp2_with fail
      go_ret
      exact ⟨A2, d2, rfl, HL.out, HK.out⟩

end Go.Proofs.YtnjhdedhobgplaaDoor

/- Heads of n rows of n numbers, written one by one, of rows that came of elsewhere; a matrix made. For all packages. -/
namespace Go.Proofs.YtnjhdedhobgplaaDoor
open Go.ChangeShapes Go.WideShapes Go.ChangeAt Go.RowKit
set_option linter.unusedVariables false

theorem Lies.off {w : World} {b : Nat} {l : List Int} (h : Lies w (some ⟨b, 0, none⟩) l) {a : Addr} (ha : b ≠ a.block) (u : Value) : Lies (w.setCell a u) (some ⟨b, 0, none⟩) l := fun k hk => by
  obtain ⟨ad, e, hl, hc⟩ := h k hk
  obtain rfl := Option.some.inj e
  refine ⟨_, rfl, by simpa [World.setCell] using hl, ?_⟩
  rw [add_at] at hc ⊢
  exact (World.cell?_of_block (w := w) (heap_setCell_other w a b u ha)).trans hc
/-- The heads of n rows of n numbers, the first k of them made. -/
structure HdP (w : World) (g : Nat) (G C : Nat → Nat) (n k : Nat) (f : Nat → Nat → Int) : Prop where
  head : w.heap[g]? = some (.cells ((List.range n).map fun i => if i < k then Value.slice (some ⟨G i, 0, none⟩) n (C i) else .slice none 0 0).toArray 22 (0, 0))
  row : ∀ i, i < k → Lies w (some ⟨G i, 0, none⟩) (Mx.row n (f i))
  cap : ∀ i, i < k → n ≤ C i
  apart : ∀ i, i < k → G i ≠ g
section
variable {w w' : World} {g : Nat} {G C : Nat → Nat} {n k : Nat} {f : Nat → Nat → Int}
theorem HdP.lt (h : HdP w g G C n k f) : g < w.heap.size := by
  rcases Nat.lt_or_ge g w.heap.size with h' | h'
  · exact h'
  · have := h.head; rw [Array.getElem?_eq_none h'] at this; cases this
theorem HdP.keep (h : HdP w g G C n k f) (hk : Kp w w') : HdP w' g G C n k f := ⟨by rw [hk.block g h.lt]; exact h.head, fun i hi => (h.row i hi).keep hk, h.cap, h.apart⟩
theorem HdP.cell (h : HdP w g G C n k f) {i : Nat} (hi : k ≤ i) (hr : i < n) : w.cell? ⟨g, i, none⟩ = some (.slice none 0 0) := by
  rw [cell_of_row _ _ i _ _ (0, 0) h.head]; simp [hr]; omega
theorem HdP.free (h : HdP w g G C n k f) (i : Nat) : w.frozen? ⟨g, i, none⟩ = false := frozen_of_row w g i _ _ h.head
theorem HdP.start {base : Nat} (f : Nat → Nat → Int) (h : w.ownsRow base 22 1 (.slice (some ⟨g, 0, none⟩) n n) n (madeCells #[.slice none 0 0] (n * 1)).toList) : HdP w g (fun _ => 0) (fun _ => 0) n 0 f :=
  ⟨by have := (PartF.start (c := 0) f h).head; simpa using this, fun i hi => absurd hi (by omega), fun i hi => absurd hi (by omega), fun i hi => absurd hi (by omega)⟩
theorem HdP.step (h : HdP w g G C n k f) (hk : k < n) {z cz : Nat} (hz : Lies w (some ⟨z, 0, none⟩) (Mx.row n (f k))) (hc : n ≤ cz) (hne : z ≠ g) :
    HdP (w.setCell ⟨g, k, none⟩ (.slice (some ⟨z, 0, none⟩) n cz)) g (fun i => if i = k then z else G i) (fun i => if i = k then cz else C i) n (k + 1) f := by
  refine ⟨?_, fun i hi => ?_, fun i hi => ?_, fun i hi => ?_⟩
  · rw [heap_setCell_same w g k _ _ _ h.head]
    congr 2
    refine Array.toList_inj.1 (List.ext_getElem (by simp) fun i h2 h3 => ?_)
    simp only [Array.toList_setIfInBounds, List.getElem_set, List.getElem_map, List.getElem_range]
    rcases Nat.lt_trichotomy i k with e | e | e
    · simp [show ¬ k = i by omega, show i < k from e, show i < k + 1 by omega, show ¬ i = k by omega]
    · subst e; simp
    · simp [show ¬ k = i by omega, show ¬ i < k by omega, show ¬ i < k + 1 by omega]
  · by_cases e : i = k
    · subst e
      rw [if_pos rfl]; exact hz.off hne _
    · rw [if_neg e]; exact (h.row i (by omega)).off (h.apart i (by omega)) _
  · by_cases e : i = k
    · rw [if_pos e]; exact hc
    · rw [if_neg e]; exact h.cap i (by omega)
  · by_cases e : i = k
    · rw [if_pos e]; exact hne
    · rw [if_neg e]; exact h.apart i (by omega)
theorem HdP.lies {f : Nat → Nat → Fp.F} (h : HdP w g G C n n fun i j => ((f i j).val : Int)) : LiesM w (some ⟨g, 0, none⟩) (Mx.matl n n f) := fun i hi => by
  rw [Mx.len_matl] at hi
  rw [matl_row f hi, Mx.len_row]
  refine ⟨_, some ⟨G i, 0, none⟩, C i, rfl, h.lt, ?_, h.cap i hi, h.row i hi⟩
  rw [add_at, cell_of_row _ _ i _ _ (0, 0) h.head]; simp [hi]
end

/-- A matrix made. -/
def MadeM (n : Nat) (f : Nat → Nat → Fp.F) (w : World) (e : Ending) (w' : World) : Prop := ∃ A d, e = .returned (.tuple #[.slice A n d, .nilIface]) ∧ n ≤ d ∧ LiesM w' A (Mx.matl n n f) ∧ Kp w w'

end Go.Proofs.YtnjhdedhobgplaaDoor

/- Plain facts for package det: how many numbers are not at their places; what a value is as a sign. No program is named here. -/
namespace Go.Proofs.YtnjhdedhobgplaaDoor.Mx
open Fp
set_option linter.unusedVariables false

/-- How many of the first n are not at their places. -/
def nf : Nat → (Nat → Int) → Nat
  | 0, _ => 0
  | n + 1, s => nf n s + if s n = (n : Int) then 0 else 1
theorem nf_le : ∀ (n : Nat) {s t : Nat → Int}, (∀ i, i < n → s i = (i : Int) → t i = (i : Int)) → nf n t ≤ nf n s
  | 0, _, _, _ => Nat.le_refl _
  | n + 1, s, t, h => by
    have h1 := nf_le n (s := s) (t := t) fun i hi => h i (by omega)
    show nf n t + (if t n = (n : Int) then 0 else 1) ≤ nf n s + if s n = (n : Int) then 0 else 1
    by_cases e : s n = (n : Int)
    · rw [if_pos e, if_pos (h n (by omega) e)]; omega
    · rw [if_neg e]; split <;> omega
theorem nf_lt : ∀ (n : Nat) {s t : Nat → Int} {m : Nat}, (∀ i, i < n → s i = (i : Int) → t i = (i : Int)) → m < n → s m ≠ (m : Int) → t m = (m : Int) → nf n t < nf n s
  | 0, _, _, m, _, hm, _, _ => absurd hm (by omega)
  | n + 1, s, t, m, h, hm, h1, h2 => by
    show nf n t + (if t n = (n : Int) then 0 else 1) < nf n s + if s n = (n : Int) then 0 else 1
    by_cases e : m = n
    · subst e
      have := nf_le m (s := s) (t := t) fun i hi => h i (by omega)
      rw [if_neg h1, if_pos h2]; omega
    · have := nf_lt n (s := s) (t := t) (m := m) (fun i hi => h i (by omega)) (by omega) h1 h2
      by_cases e : s n = (n : Int)
      · rw [if_pos e, if_pos (h n (by omega) e)]; omega
      · rw [if_neg e]; split <;> omega

theorem ofInt_neg (x : Int) : ofInt (-x) = -(ofInt x) := by
  have := ofInt_add x (-x)
  rw [show x + -x = 0 by omega, show ofInt 0 = 0 from rfl] at this
  grind
/-- x is 1, -1 or 0, and S in the field. -/
def SgnIs (S : F) (x : Int) : Prop := (x = 1 ∨ x = -1 ∨ x = 0) ∧ ofInt x = S
theorem SgnIs.one {S : F} {x y : Int} (h : SgnIs S x) (k : SgnIs S y) : x = y := by
  have e := h.2.trans k.2.symm
  have n1 : ofInt 1 ≠ ofInt (-1) := by decide
  have n2 : ofInt 1 ≠ ofInt 0 := by decide
  have n3 : ofInt (-1) ≠ ofInt 0 := by decide
  rcases h.1 with a | a | a <;> rcases k.1 with b | b | b <;> first | exact a.trans b.symm | (rw [a, b] at e; first | exact absurd e n1 | exact absurd e.symm n1 | exact absurd e n2 | exact absurd e.symm n2 | exact absurd e n3 | exact absurd e.symm n3)
theorem SgnIs.neg {S : F} {x : Int} (h : SgnIs S x) : SgnIs (-S) (-x) := by
  refine ⟨?_, by rw [ofInt_neg, h.2]⟩
  rcases h.1 with a | a | a <;> rw [a] <;> decide
theorem SgnIs.bound {S : F} {x : Int} (h : SgnIs S x) : -1 ≤ x ∧ x ≤ 1 := by rcases h.1 with a | a | a <;> omega
theorem tmod_F (x : Int) : ofInt (x.tmod 9973) = ofInt x := by
  have h := Int.mul_tdiv_add_tmod x 9973
  have h2 : ofInt x = ofInt (9973 * x.tdiv 9973 + x.tmod 9973) := by rw [h]
  rw [ofInt_add, ofInt_mul, show ofInt 9973 = 0 from rfl] at h2
  rw [h2]; grind
theorem tmod_bound (x : Int) : -9972 ≤ x.tmod 9973 ∧ x.tmod 9973 ≤ 9972 := by
  have h1 := Int.tmod_lt_of_pos x (show (0 : Int) < 9973 by omega)
  have h2 := Int.lt_tmod_of_pos x (show (0 : Int) < 9973 by omega)
  omega
/-- A remainder made an element. -/
theorem fit (x : Int) : (x.tmod 9973 + 9973).tmod 9973 = ((ofInt x).val : Int) := by
  have h := tmod_bound x
  rw [Int.tmod_eq_emod_of_nonneg (by omega), ← ofInt_val, ofInt_add, tmod_F, show ofInt 9973 = 0 from rfl]
  congr 1; congr 1; grind

/-- How many orders there may be of so many. -/
def lv : Nat → Nat
  | 0 => 1
  | m + 1 => 5 * lv m
theorem lv_le : ∀ {m : Nat}, m ≤ 5 → lv m ≤ 3125
  | 0, _ => by decide
  | 1, _ => by decide
  | 2, _ => by decide
  | 3, _ => by decide
  | 4, _ => by decide
  | 5, _ => by decide
  | m + 6, h => absurd h (by omega)

end Go.Proofs.YtnjhdedhobgplaaDoor.Mx

/- Contracts of package det, first part: ascending, Sign. -/
namespace Go.Proofs.YtnjhdedhobgplaaDoor
open Go.ChangeShapes Go.WideShapes Go.ChangeAt Go.RowKit
set_option linter.unusedVariables false

set_option maxRecDepth 100000 in
set_option maxHeartbeats 1600000 in
theorem ascending_any (n : Nat) (w : World) (hn : n ≤ 1000) :
    Calls Tryd.prog 30 #[.int .i64 (n : Int)] w fun e w' =>
      e = .returned (.slice (some ⟨w.heap.size, 0, none⟩) n n) ∧ Row w' w.heap.size (Mx.row n fun i => (i : Int)) ∧ Kp w w' := by
  obtain ⟨i0, hi, hz0, hz1, hz2⟩ := info_parts int_info
  go_enter Tryd.func30, Tryd.ntmps30
  go_wp2_with (at_make; refine wpList_make_full _ rfl _ _ 22 rfl w.heap.size 3 i0 (.int .i64 0) 1 Tryd.underlying22 hi hz0 hz1 _ _ _ _ n rfl rfl rfl rfl (by rw [hz2]; omega) (by unfold maxLen; omega) (Nat.le_refl _) ?_; intro w1 hown hgrow)
  have HR := Lib.hid (row_made hown)
  have HK := Lib.hid (show Kp w w1 from (Kp.rfl' w).grown hgrow (by simp) (fun k hk => by cases hk))
  obtain ⟨g, hg⟩ : ∃ g, g = w.heap.size := ⟨_, rfl⟩
  rw [← hg] at HR ⊢
  have HG := Lib.hid (show w.heap.size ≤ g by omega)
  have HE := Lib.hid hg
  clear hown hgrow hg
  go_wp2_with fail
  go_loopw [9] (fun i wr => ∃ k : Nat, k ≤ n ∧ i = .int .i64 (k : Int) ∧ Row wr g (Mx.row n fun j => if j < k then (j : Int) else 0) ∧ Kp w wr) (fun i _ => n - (intOf i).toNat)
  case atStart =>
    refine ⟨0, Nat.zero_le _, rfl, ?_, HK.out⟩
    have := HR.out
    rw [Mx.row_rep] at this
    rw [show (Mx.row n fun j => if j < 0 then (j : Int) else 0) = Mx.row n fun _ => 0 from Mx.row_ext fun j _ => by rw [if_neg (by omega)]]
    exact this
  case round =>
    obtain ⟨k, hk, rfl, hr, hkp⟩ := hrel
    by_cases hlt : k < n
    · have y1 := hr.cell k (by rw [Mx.len_row]; exact hlt)
      have y2 := hr.free k
      have HP := Lib.hid (hr.put k (k : Int))
      have HQ := Lib.hid (hkp.put (p := ⟨g, k, none⟩) HG.out (.int .i64 (k : Int)))
      clear hr hkp
      go_wp2_with fail
      go_roundw
      case rel =>
        refine ⟨k + 1, by omega, by go_num, ?_, HQ.out⟩
        have := HP.out
        rw [Mx.row_set] at this
        rw [show (Mx.row n fun j => if j < k + 1 then (j : Int) else 0) = Mx.row n fun j => if j = k then (k : Int) else if j < k then (j : Int) else 0 from Mx.row_ext fun j _ => by
          by_cases e : j = k
          · rw [if_pos e, if_pos (by omega), e]
          · rw [if_neg e]
            by_cases e2 : j < k
            · rw [if_pos e2, if_pos (by omega)]
            · rw [if_neg e2, if_neg (by omega)]]
        exact this
      case measure => simp [intOf]; omega
    · obtain rfl : k = n := by omega
      have HR2 := Lib.hid (show Row wr g (Mx.row k fun i => (i : Int)) by
        rw [show (Mx.row k fun i => (i : Int)) = Mx.row k fun j => if j < k then (j : Int) else 0 from Mx.row_ext fun j hj => by rw [if_pos hj]]
        exact hr)
      have HQ := Lib.hid hkp
      clear hr hkp
      go_wp2_with fail
      go_ret
      refine ⟨?_, ?_, HQ.out⟩
      · show Ending.returned (.slice (some ⟨g, 0, none⟩) k k) = _
        rw [HE.out]
      · rw [← HE.out]; exact HR2.out

/-- Where the sorting of an order stands: x times the sign of what is left is the order's sign; the first k are at their places. -/
structure Srt (w0 w : World) (g n c : Nat) (S : Fp.F) (k : Nat) (l : List Int) (x : Int) : Prop where
  own : Own w w0.heap.size (.slice (some ⟨g, 0, none⟩) n c) l
  len : l.length = n
  pm : x = 1 ∨ x = -1
  eq : Fp.ofInt x * Mx.sp n (fun i => l.getD i 0) = S
  fix : ∀ t, t < k → l.getD t 0 = (t : Int)
  kp : Kp w0 w
theorem Srt.next {w0 w : World} {g n c : Nat} {S : Fp.F} {k : Nat} {l : List Int} {x : Int} (h : Srt w0 w g n c S k l x) (e : l.getD k 0 = (k : Int)) : Srt w0 w g n c S (k + 1) l x :=
  ⟨h.own, h.len, h.pm, h.eq, fun t ht => by
    by_cases hk : t = k
    · rw [hk]; exact e
    · exact h.fix t (by omega), h.kp⟩
theorem getD_set2 {l : List Int} {k m : Nat} (hk : k < l.length) (hm : m < l.length) (x y : Int) (i : Nat) : ((l.set k x).set m y).getD i 0 = if i = m then y else if i = k then x else l.getD i 0 := by
  rw [List.getD_eq_getElem?_getD, List.getD_eq_getElem?_getD, List.getElem?_set, List.getElem?_set]
  by_cases h1 : i = m
  · rw [if_pos h1.symm, if_pos (by simpa using hm), if_pos h1]; rfl
  · rw [if_neg (fun e => h1 e.symm), if_neg h1]
    by_cases h2 : i = k
    · rw [if_pos h2.symm, if_pos hk, if_pos h2]; rfl
    · rw [if_neg (fun e => h2 e.symm), if_neg h2]
/-- Two numbers change places: the one that stood at place k comes home. -/
theorem Srt.swap {w0 w : World} {g n c : Nat} {S : Fp.F} {k : Nat} {l : List Int} {x : Int} (h : Srt w0 w g n c S k l x) (hk : k < n) {m : Nat} (hm : m < n) (e : l.getD k 0 = (m : Int)) (hne : m ≠ k) (h2 : l.getD m 0 ≠ (m : Int)) (hB : w0.heap.size ≤ g) :
    Srt w0 ((w.setCell ⟨g, k, none⟩ (.int .i64 (l.getD m 0))).setCell ⟨g, m, none⟩ (.int .i64 (m : Int))) g n c S k ((l.set k (l.getD m 0)).set m (m : Int)) (-x) ∧
      Mx.nf n (fun i => ((l.set k (l.getD m 0)).set m (m : Int)).getD i 0) < Mx.nf n fun i => l.getD i 0 := by
  have hg : ∀ i, ((l.set k (l.getD m 0)).set m (m : Int)).getD i 0 = l.getD (Mx.sw k m i) 0 := fun i => by
    rw [getD_set2 (by rw [h.len]; exact hk) (by rw [h.len]; exact hm)]
    by_cases h1 : i = m
    · rw [if_pos h1, h1, Mx.sw_right, e]
    · rw [if_neg h1]
      by_cases h3 : i = k
      · rw [if_pos h3, h3, Mx.sw_left]
      · rw [if_neg h3, Mx.sw_none h3 h1]
  refine ⟨⟨own_put (own_put h.own k _) m _, by rw [List.length_set, List.length_set]; exact h.len, ?_, ?_, fun t ht => ?_, (h.kp.put (p := ⟨g, k, none⟩) hB _).put (p := ⟨g, m, none⟩) hB _⟩, ?_⟩
  · rcases h.pm with a | a <;> rw [a] <;> simp
  · rw [Mx.sp_congr (t := fun i => l.getD (Mx.sw k m i) 0) fun i _ => hg i, Mx.sp_swap (fun i => l.getD i 0) hk hm (fun e => hne e.symm), Mx.ofInt_neg, ← h.eq]; grind
  · have h3 := h.fix t ht
    have : t ≠ m := fun e => by rw [e] at h3; exact h2 h3
    rw [hg, Mx.sw_none (by omega) this]; exact h3
  · refine Mx.nf_lt n (m := m) (fun i hi h3 => ?_) hm h2 ?_
    · have a1 : i ≠ m := fun e => by rw [e] at h3; exact h2 h3
      have a2 : i ≠ k := fun e2 => by rw [e2] at h3; rw [h3] at e; omega
      rw [hg, Mx.sw_none a2 a1]; exact h3
    · rw [hg, Mx.sw_right]; exact e

/-- The sign of an order comes out. -/
def Signed (S : Fp.F) (w : World) (e : Ending) (w' : World) : Prop := ∃ x, e = .returned (.int .i64 x) ∧ Mx.SgnIs S x ∧ Kp w w'
set_option maxRecDepth 100000 in
set_option maxHeartbeats 3200000 in
theorem Sign_pos (A : Option Addr) (l : List Int) (n c : Nat) (w : World) (hl : Lies w A l) (hn : l.length = n) (h0 : 0 < n) (h1 : n ≤ 1000) :
    Calls Tryd.prog 32 #[.slice A n c] w fun e w' => Signed (Mx.sp n fun i => l.getD i 0) w e w' := by
  have CL := Lib.hid (show Calls Tryd.prog 21 #[.slice A n c] w fun e w' => SomeRow l w e w' by
    rw [← hn]; exact sclone_any A l c w hl (by omega))
  obtain ⟨S, hS⟩ : ∃ S, S = Mx.sp n fun i => l.getD i 0 := ⟨_, rfl⟩
  rw [← hS]
  have HS := Lib.hid hS
  have HN := Lib.hid hn
  clear hl hS hn
  go_enter Tryd.func32, Tryd.ntmps32
  go_wp2_with fail
  refine (CL.out).mono ?_; rintro e w1 ⟨v, rfl, ho, hk⟩
  obtain ⟨g, cap, rfl, hg, hcap⟩ := own_some ho (by rw [HN.out]; exact h0)
  rw [HN.out] at ho hcap ⊢
  have ST := Lib.hid (show Srt w w1 g n cap S 0 l 1 from ⟨ho, HN.out, .inl rfl, by rw [← HS.out, show Fp.ofInt 1 = 1 from rfl]; grind, fun t ht => absurd ht (by omega), hk⟩)
  have HB := Lib.hid hg
  clear ho hk hg
  go_wp2_with fail
  go_loopw [3, 11] (fun s i wr => ∃ (k : Nat) (l : List Int) (x : Int), k ≤ n ∧ i = .int .i64 (k : Int) ∧ s = .int .i64 x ∧ Srt w wr g n cap S k l x) (fun _ i _ => n - (intOf i).toNat)
  case atStart => exact ⟨0, l, 1, Nat.zero_le _, rfl, rfl, ST.out⟩
  case round =>
    clear ST HS HN
    obtain ⟨k, l, x, hk, rfl, rfl, st⟩ := hrel
    by_cases hlt : k < n
    · have ST := Lib.hid st
      clear st
      go_wp2_with fail
      go_loopg [3] (Mx.nf n fun i => l.getD i 0) (fun q s wq => ∃ (l : List Int) (x : Int), s = .int .i64 x ∧ Srt w wq g n cap S k l x ∧ Mx.nf n (fun i => l.getD i 0) = q)
      case atStart => exact ⟨l, x, rfl, ST.out, rfl⟩
      case round =>
        clear ST
        obtain ⟨l, x, rfl, st, hq⟩ := hrel
        have ST := Lib.hid st
        have HQ := Lib.hid hq
        have c1 := own_cell st.own k (by rw [st.len]; exact hlt)
        have z1 := own_free st.own k
        have hxb : -1 ≤ x ∧ x ≤ 1 := by rcases st.pm with a | a <;> omega
        obtain ⟨y, hy⟩ : ∃ y, y = l.getD k 0 := ⟨_, rfl⟩
        rw [← hy] at c1
        have HY := Lib.hid hy
        clear st hq hy
        by_cases e : y = (k : Int)
        · have e1 : (y != (k : Int)) = false := by rw [e]; simp
          have ST2 := Lib.hid (ST.out.next (by rw [← HY.out]; exact e))
          clear e
          go_wp2_with fail
          go_roundw
          case rel => exact ⟨k + 1, l, x, by omega, by go_num, rfl, ST2.out⟩
          case measure => simp [intOf]; omega
        · have e1 : (y != (k : Int)) = true := by rw [bne_iff_ne]; exact e
          have ZERO := Lib.hid (fun h : Mx.sp n (fun i => l.getD i 0) = 0 => show Mx.SgnIs S 0 from ⟨.inr (.inr rfl), by rw [← ST.out.eq, h, show Fp.ofInt 0 = 0 from rfl]; grind⟩)
          by_cases h2 : y < 0
          · have Z := Lib.hid (ZERO.out (Mx.sp_out hlt (.inl (by rw [← HY.out]; exact h2))))
            clear e ZERO
            go_wp2_with fail
            go_ret
            exact ⟨0, rfl, Z.out, ST.out.kp⟩
          · by_cases h3 : (n : Int) ≤ y
            · have Z := Lib.hid (ZERO.out (Mx.sp_out hlt (.inr (by rw [← HY.out]; exact h3))))
              clear e ZERO
              go_wp2_with fail
              go_ret
              exact ⟨0, rfl, Z.out, ST.out.kp⟩
            · obtain ⟨m, rfl⟩ : ∃ m : Nat, y = (m : Int) := ⟨y.toNat, by omega⟩
              have hm : m < n := by omega
              have hne : m ≠ k := fun h => e (by rw [h])
              have c2 := own_cell ST.out.own m (by rw [ST.out.len]; exact hm)
              obtain ⟨z, hz⟩ : ∃ z, z = l.getD m 0 := ⟨_, rfl⟩
              rw [← hz] at c2
              have HZ := Lib.hid hz
              clear hz h2 h3 e
              by_cases e2 : z = (m : Int)
              · have e3 : (z == (m : Int)) = true := by rw [e2]; simp
                have Z := Lib.hid (ZERO.out (Mx.sp_twice hlt hm (fun h => hne h.symm) (by rw [← HY.out, ← HZ.out, e2])))
                clear ZERO e2
                go_wp2_with fail
                go_ret
                exact ⟨0, rfl, Z.out, ST.out.kp⟩
              · have e3 : (z == (m : Int)) = false := by rw [beq_eq_false_iff_ne]; exact e2
                have SW := Lib.hid (ST.out.swap hlt hm HY.out.symm hne (by rw [← HZ.out]; exact e2) HB.out)
                rw [← HZ.out] at SW
                have z3 := own_free (own_put ST.out.own k z) m
                have c3 : (wr.setCell ⟨g, k, none⟩ (.int .i64 z)).cell? ⟨g, m, none⟩ = some (.int .i64 z) := by
                  have hne' : (⟨g, k, none⟩ : Addr) ≠ ⟨g, m, none⟩ := fun e' => hne (by cases e'; rfl)
                  rw [World.cell?_setCell_other (w := wr) (v := .int .i64 z) (h := hne')]; exact c2

                have hwn : IntKind.i64.wrap (-x) = -x := IntWalk.i64_in _ (by omega)
                clear ZERO e2
                go_wp2_with fail
                go_roundg (Mx.nf n fun i => ((l.set k z).set m (m : Int)).getD i 0)
                case measure => rw [← HQ.out]; exact SW.out.2
                case rel => exact ⟨(l.set k z).set m (m : Int), -x, rfl, SW.out.1, rfl⟩
    · obtain rfl : k = n := by omega
      have Z := Lib.hid (show Mx.SgnIs S x from ⟨by rcases st.pm with a | a <;> simp [a], by
        rw [← st.eq, Mx.sp_id fun i hi => st.fix i hi]; grind⟩)
      have HK := Lib.hid st.kp
      clear st
      go_wp2_with fail
      go_ret
      exact ⟨x, rfl, Z.out, HK.out⟩

set_option maxRecDepth 100000 in
theorem Sign_zero (A : Option Addr) (c : Nat) (w : World) :
    Calls Tryd.prog 32 #[.slice A 0 c] w fun e w' => Signed 1 w e w' := by
  have CL := Lib.hid (sclone_any A [] c w (fun k hk => absurd hk (by simp)) (by simp))
  rw [List.length_nil] at CL
  go_enter Tryd.func32, Tryd.ntmps32
  go_wp2_with fail
  refine (CL.out).mono ?_; rintro e w1 ⟨v, rfl, ho, hk⟩
  obtain ⟨A1, c1, rfl, _, _⟩ := ho.cap
  rw [List.length_nil]
  have HK := Lib.hid hk
  clear ho hk
  go_wp2_with fail
  go_loopw [3, 11] (fun s i wr => i = .int .i64 0 ∧ s = .int .i64 1 ∧ wr = w1) (fun _ i _ => 0)
  case atStart => exact ⟨rfl, rfl, rfl⟩
  case round =>
    obtain ⟨rfl, rfl, rfl⟩ := hrel
    go_wp2_with fail
    go_ret
    exact ⟨1, rfl, ⟨.inl rfl, rfl⟩, HK.out⟩
theorem Sign_any (A : Option Addr) (l : List Int) (n c : Nat) (w : World) (hl : Lies w A l) (hn : l.length = n) (h1 : n ≤ 1000) :
    Calls Tryd.prog 32 #[.slice A n c] w fun e w' => Signed (Mx.sp n fun i => l.getD i 0) w e w' := by
  by_cases h0 : n = 0
  · subst h0; exact Sign_zero A c w
  · exact Sign_pos A l n c w hl hn (by omega) h1

end Go.Proofs.YtnjhdedhobgplaaDoor

/- Square matrices: what is wrong with one. No program is named here. -/
namespace Go.Proofs.YtnjhdedhobgplaaDoor
set_option linter.unusedVariables false

/-- What is wrong with a matrix that should be square. -/
def qcode (most : Nat) (lo hi : Int) (m : List (List Int)) : Nat := if Mx.mcode most lo hi m = 0 ∧ m.length ≠ (m.getD 0 []).length then 3 else Mx.mcode most lo hi m
theorem qcode_le (most : Nat) (lo hi : Int) (m : List (List Int)) : qcode most lo hi m ≤ 5 := by
  unfold qcode
  split
  · omega
  · exact Mx.mcode_le _ _ _ _
theorem qcode_bad {most : Nat} {lo hi : Int} {m : List (List Int)} (h : Mx.mcode most lo hi m ≠ 0) : qcode most lo hi m = Mx.mcode most lo hi m := by
  unfold qcode; rw [if_neg (fun h' => h h'.1)]
theorem qcode_zero {most : Nat} {m : List (List Int)} (h : qcode most 0 9972 m = 0) : Mx.mcode most 0 9972 m = 0 ∧ m.length = (m.getD 0 []).length := by
  unfold qcode at h
  by_cases h0 : Mx.mcode most 0 9972 m = 0 ∧ m.length ≠ (m.getD 0 []).length
  · rw [if_pos h0] at h; cases h
  · rw [if_neg h0] at h
    exact ⟨h, Classical.byContradiction fun e => h0 ⟨h, e⟩⟩
theorem qcode_matl {most n : Nat} (f : Nat → Nat → Fp.F) (h0 : 0 < n) (h1 : n ≤ most) : qcode most 0 9972 (Mx.matl n n f) = 0 := by
  unfold qcode
  rw [if_neg fun h => h.2 (by rw [Mx.len_matl]; exact (Mx.tab_len n n _ 0 h0).symm)]
  exact Mx.mcode_matl f h0 h1 h0 h1

end Go.Proofs.YtnjhdedhobgplaaDoor

/- Contracts of package det, second part: the sum over all orders, Check, Of. -/
namespace Go.Proofs.YtnjhdedhobgplaaDoor
open Go.ChangeShapes Go.WideShapes Go.ChangeAt Go.RowKit
set_option linter.unusedVariables false

/-- The order of the numbers, the sum and the matrix, each in a block of its own. -/
structure Vis (w0 w : World) (gm gs g n d : Nat) (A : Option Addr) (s : Nat → Nat) (z : Int) : Prop where
  mb : w.cell? ⟨gm, 0, none⟩ = some (.slice A n d)
  sb : w.cell? ⟨gs, 0, none⟩ = some (.int .i64 z)
  sf : w.frozen? ⟨gs, 0, none⟩ = false
  row : Row w g (Mx.row n fun i => (s i : Int))
  kp : Kp w0 w
  ms : gm ≠ gs
  mg : gm ≠ g
  sg : gs ≠ g
  bs : w0.heap.size ≤ gs
  bg : w0.heap.size ≤ g
theorem cell_far {w : World} {a b : Addr} {v : Value} (x : Value) (hc : w.cell? b = some v) (hne : a ≠ b) : (w.setCell a x).cell? b = some v := by
  rw [World.cell?_setCell_other (w := w) (v := x) (h := hne)]; exact hc
theorem Vis.keep {w0 w w' : World} {gm gs g n d : Nat} {A : Option Addr} {s : Nat → Nat} {z : Int} (h : Vis w0 w gm gs g n d A s z) (hk : Kp w w') : Vis w0 w' gm gs g n d A s z :=
  ⟨(hk.cell (p := ⟨gm, 0, none⟩) (cell_lt h.mb)).trans h.mb, (hk.cell (p := ⟨gs, 0, none⟩) (cell_lt h.sb)).trans h.sb, (hk.frozen (p := ⟨gs, 0, none⟩) (cell_lt h.sb)).trans h.sf, h.row.keep hk, h.kp.trans hk, h.ms, h.mg, h.sg, h.bs, h.bg⟩
theorem Vis.drewN {w0 w : World} {gm gs g n d : Nat} {A : Option Addr} {s : Nat → Nat} {z : Int} (h : Vis w0 w gm gs g n d A s z) (k : Nat) : Vis w0 (w.drewN k) gm gs g n d A s z := h.keep ((Kp.rfl' w).drewN k)
theorem Vis.ext {w0 w : World} {gm gs g n d : Nat} {A : Option Addr} {s t : Nat → Nat} {z : Int} (h : Vis w0 w gm gs g n d A s z) (e : ∀ i, i < n → s i = t i) : Vis w0 w gm gs g n d A t z :=
  ⟨h.mb, h.sb, h.sf, by rw [Mx.row_ext (h := fun i => (s i : Int)) fun i hi => by rw [e i hi]]; exact h.row, h.kp, h.ms, h.mg, h.sg, h.bs, h.bg⟩
theorem Vis.add {w0 w : World} {gm gs g n d : Nat} {A : Option Addr} {s : Nat → Nat} {z : Int} (h : Vis w0 w gm gs g n d A s z) (y : Int) : Vis w0 (w.setCell ⟨gs, 0, none⟩ (.int .i64 y)) gm gs g n d A s y :=
  ⟨cell_far _ h.mb (fun e => h.ms (by cases e; rfl)), World.cell?_setCell_same _ _ _ h.sb, by simp [h.sf], h.row.far (fun e => h.sg e.symm) _, h.kp.put (p := ⟨gs, 0, none⟩) h.bs _, h.ms, h.mg, h.sg, h.bs, h.bg⟩
theorem Vis.swap {w0 w : World} {gm gs g n d : Nat} {A : Option Addr} {s : Nat → Nat} {z : Int} (h : Vis w0 w gm gs g n d A s z) {a b : Nat} (ha : a < n) (hb : b < n) :
    Vis w0 ((w.setCell ⟨g, a, none⟩ (.int .i64 (s b : Int))).setCell ⟨g, b, none⟩ (.int .i64 (s a : Int))) gm gs g n d A (fun i => s (Mx.sw a b i)) z := by
  have other : ∀ (w : World) (k b x : Nat) (v : Value), g ≠ b → w.cell? ⟨b, 0, none⟩ = some v → (w.setCell ⟨g, k, none⟩ (.int .i64 (x : Int))).cell? ⟨b, 0, none⟩ = some v := fun w k b x v hne hc => by
    have hne' : (⟨g, k, none⟩ : Addr) ≠ ⟨b, 0, none⟩ := fun e => hne (by cases e; rfl)
    exact cell_far _ hc hne'
  refine ⟨other _ _ _ _ _ (fun e => h.mg e.symm) (other _ _ _ _ _ (fun e => h.mg e.symm) h.mb), other _ _ _ _ _ (fun e => h.sg e.symm) (other _ _ _ _ _ (fun e => h.sg e.symm) h.sb), by simp [h.sf], ?_,
    (h.kp.put (p := ⟨g, a, none⟩) h.bg _).put (p := ⟨g, b, none⟩) h.bg _, h.ms, h.mg, h.sg, h.bs, h.bg⟩
  have := (h.row.put a (s b : Int)).put b (s a : Int)
  rw [Mx.row_set, Mx.row_set] at this
  rw [show (Mx.row n fun i => ((s (Mx.sw a b i) : Nat) : Int)) = Mx.row n fun j => if j = b then (s a : Int) else if j = a then (s b : Int) else (s j : Int) from Mx.row_ext fun j _ => by
    by_cases h1 : j = b
    · rw [if_pos h1, h1, Mx.sw_right]
    · rw [if_neg h1]
      by_cases h2 : j = a
      · rw [if_pos h2, h2, Mx.sw_left]
      · rw [if_neg h2, Mx.sw_none h2 h1]]
  exact this
/-- What a visit leaves: the order as it was, so much more in the sum. -/
def VisEnd (w0 : World) (gm gs g n d : Nat) (A : Option Addr) (s : Nat → Nat) (z : Int) (x : Fp.F) (b : Nat) (e : Ending) (w' : World) : Prop :=
  e = .returned (.tuple #[]) ∧ ∃ z', Vis w0 w' gm gs g n d A s z' ∧ Fp.ofInt z' = Fp.ofInt z + x ∧ -(b : Int) ≤ z' ∧ z' ≤ (b : Int)

set_option maxRecDepth 100000 in
set_option maxHeartbeats 3200000 in
theorem visit_any (w0 : World) (gm gs g n d b : Nat) (A : Option Addr) (f : Nat → Nat → Fp.F) (s : Nat → Nat) (z : Int) (w : World) (ha : LiesM w0 A (Mx.matl n n f)) (hn : n ≤ 5) (hs : ∀ i, i < n → s i < n)
    (h : Vis w0 w gm gs g n d A s z) (h1 : -(b : Int) ≤ z) (h2 : z ≤ (b : Int)) (hb : b ≤ 1000000000000) :
    Calls Tryd.prog 31 #[.slice (some ⟨g, 0, none⟩) n n, .pointer (some ⟨gm, 0, none⟩), .pointer (some ⟨gs, 0, none⟩)] w fun e w' =>
      VisEnd w0 gm gs g n d A s z (Mx.part' n n f s) (b + 9972) e w' := by
  have SG := Lib.hid (Sign_any (some ⟨g, 0, none⟩) (Mx.row n fun i => (s i : Int)) n n w h.row.lies (Mx.len_row _ _) (by omega))
  rw [Mx.sp_congr (t := fun i => (s i : Int)) fun i hi => Mx.row_at n (fun i => (s i : Int)) i hi] at SG
  have HA := Lib.hid ha
  have HV := Lib.hid h
  have HS := Lib.hid hs
  have HP := Lib.hid (Mx.part_end n f s)
  obtain ⟨S, hS⟩ : ∃ S, S = Mx.sp n fun i => (s i : Int) := ⟨_, rfl⟩
  rw [← hS] at SG HP
  clear ha h hs hS
  go_enter Tryd.func31, Tryd.ntmps31
  go_wp2_with fail
  refine (SG.out).mono ?_; rintro e w1 ⟨x, rfl, hx, hk⟩
  have HX := Lib.hid hx
  have HV1 := Lib.hid (HV.out.keep hk)
  clear hx hk HV SG
  go_wp2_with fail
  go_loopw [4, 11] (fun p i wr => ∃ (k : Nat) (q : Int), k ≤ n ∧ i = .int .i64 (k : Int) ∧ p = .int .i64 q ∧ -9972 ≤ q ∧ q ≤ 9972 ∧ Fp.ofInt q = S * Mx.pr k (fun i => f i (s i)) ∧ w1 = wr) (fun _ i _ => n - (intOf i).toNat)
  case atStart =>
    have := HX.out.bound
    exact ⟨0, x, Nat.zero_le _, rfl, rfl, by omega, by omega, by rw [HX.out.2]; show S = S * 1; grind, rfl⟩
  case round =>
    obtain ⟨k, q, hk, rfl, rfl, hq1, hq2, hq, rfl⟩ := hrel
    have HQ := Lib.hid hq
    clear hq
    by_cases hlt : k < n
    · have y1 := HV1.out.row.cell k (by rw [Mx.len_row]; exact hlt)
      rw [Mx.row_at _ _ _ hlt] at y1
      have y2 := HV1.out.mb
      obtain ⟨ad, A0, d0, rfl, hl0, x1, _, l1⟩ := (HA.out.keep HV1.out.kp).row hlt
      obtain ⟨j, hj⟩ : ∃ j, j = s k := ⟨_, rfl⟩
      have hjn : j < n := by rw [hj]; exact HS.out k hlt
      rw [← hj] at y1
      obtain ⟨ad1, rfl, hl1, x2⟩ := l1.el hjn
      obtain ⟨v, hv⟩ : ∃ v, v = f k j := ⟨_, rfl⟩
      rw [← hv] at x2
      have hvb := gval v
      have HT := Lib.hid (show Fp.ofInt ((q * (v.val : Int)).tmod 9973) = S * Mx.pr (k + 1) (fun i => f i (s i)) by
        rw [Mx.tmod_F, Fp.ofInt_mul, Fp.ofInt_self, HQ.out]
        show _ = S * (Mx.pr k (fun i => f i (s i)) * f k (s k))
        rw [← hj, ← hv]; grind)
      have hmb : -99440784 ≤ q * (v.val : Int) ∧ q * (v.val : Int) ≤ 99440784 := by
        have a1 : q * (v.val : Int) ≤ 9972 * 9972 := by
          rcases Int.lt_or_le q 0 with hq0 | hq0
          · have := Int.mul_le_mul_of_nonneg_right (show q ≤ 0 by omega) hvb.1; omega
          · have := Int.mul_le_mul hq2 hvb.2 hvb.1 (by omega); omega
        have a2 : -q * (v.val : Int) ≤ 9972 * 9972 := by
          rcases Int.lt_or_le (-q) 0 with hq0 | hq0
          · have := Int.mul_le_mul_of_nonneg_right (show -q ≤ 0 by omega) hvb.1; omega
          · have := Int.mul_le_mul (show -q ≤ 9972 by omega) hvb.2 hvb.1 (by omega); omega
        rw [Int.neg_mul] at a2
        omega
      have HTB := Lib.hid (Mx.tmod_bound (q * (v.val : Int)))
      generalize (v.val : Int) = u at *
      have hwm : IntKind.i64.wrap (q * u) = q * u := IntWalk.i64_in _ (by omega)
      clear hj hv hmb
      go_wp2_with fail
      go_roundw
      case rel => exact ⟨k + 1, _, by omega, by go_num, rfl, HTB.out.1, HTB.out.2, HT.out, by first | rfl | trivial⟩
      case measure => simp [intOf]; omega
    · obtain rfl : k = n := by omega
      have y1 := HV1.out.sb
      have y2 := HV1.out.sf
      have hwa : IntKind.i64.wrap (z + q) = z + q := IntWalk.i64_in _ (by omega)
      have HV2 := Lib.hid (HV1.out.add (z + q))
      have HB := Lib.hid (show -((b + 9972 : Nat) : Int) ≤ z + q ∧ z + q ≤ ((b + 9972 : Nat) : Int) by omega)
      go_wp2_with fail
      go_end0
      exact ⟨rfl, z + q, HV2.out, by rw [Fp.ofInt_add, HQ.out, HP.out], HB.out.1, HB.out.2⟩

set_option maxRecDepth 100000 in
theorem orders_base (w0 : World) (gm gs g n d b : Nat) (A : Option Addr) (f : Nat → Nat → Fp.F) (s : Nat → Nat) (z : Int) (w : World) (ha : LiesM w0 A (Mx.matl n n f)) (hn : n ≤ 5) (hs : ∀ i, i < n → s i < n)
    (h : Vis w0 w gm gs g n d A s z) (h1 : -(b : Int) ≤ z) (h2 : z ≤ (b : Int)) (hb : b ≤ 1000000000000) :
    Calls Tryd.prog 29 #[.slice (some ⟨g, 0, none⟩) n n, .int .i64 (n : Int), .func (.func 31) #[] #[.pointer (some ⟨gm, 0, none⟩), .pointer (some ⟨gs, 0, none⟩)]] w fun e w' =>
      VisEnd w0 gm gs g n d A s z (Mx.part' n n f s) (b + 9972) e w' := by
  have C := Lib.hid (visit_any w0 gm gs g n d b A f s z w ha hn hs h h1 h2 hb)
  have e0 : ((n : Int) == (n : Int)) = true := by simp
  clear ha hs h h1 h2 hb
  go_enter Tryd.func29, Tryd.ntmps29
  go_wp2_with fail
  refine (C.out).mono ?_; rintro e w1 ⟨rfl, hv⟩
  have HV := Lib.hid hv
  clear hv
  go_wp2_with fail
  go_end0
  exact ⟨rfl, HV.out⟩

set_option maxRecDepth 100000 in
set_option maxHeartbeats 6400000 in
theorem orders_step (w0 : World) (gm gs g n d : Nat) (A : Option Addr) (f : Nat → Nat → Fp.F) (m k : Nat) (hkm : k + (m + 1) = n) (hn : n ≤ 5)
    (ih : ∀ (s : Nat → Nat) (z : Int) (b : Nat) (w : World), (∀ i, i < n → s i < n) → Vis w0 w gm gs g n d A s z → -(b : Int) ≤ z → z ≤ (b : Int) → b + 9972 * Mx.lv m ≤ 1000000000000 →
      Calls Tryd.prog 29 #[.slice (some ⟨g, 0, none⟩) n n, .int .i64 ((k + 1 : Nat) : Int), .func (.func 31) #[] #[.pointer (some ⟨gm, 0, none⟩), .pointer (some ⟨gs, 0, none⟩)]] w fun e w' =>
        VisEnd w0 gm gs g n d A s z (Mx.part' n (k + 1) f s) (b + 9972 * Mx.lv m) e w')
    (s : Nat → Nat) (z : Int) (b : Nat) (w : World) (hs : ∀ i, i < n → s i < n) (h : Vis w0 w gm gs g n d A s z) (h1 : -(b : Int) ≤ z) (h2 : z ≤ (b : Int)) (hb : b + 9972 * Mx.lv (m + 1) ≤ 1000000000000) :
    Calls Tryd.prog 29 #[.slice (some ⟨g, 0, none⟩) n n, .int .i64 (k : Int), .func (.func 31) #[] #[.pointer (some ⟨gm, 0, none⟩), .pointer (some ⟨gs, 0, none⟩)]] w fun e w' =>
      VisEnd w0 gm gs g n d A s z (Mx.part' n k f s) (b + 9972 * Mx.lv (m + 1)) e w' := by
  have IH := Lib.hid ih
  have HV := Lib.hid h
  have HS := Lib.hid hs
  have HP := Lib.hid (Mx.part_next (n := n) (k := k) f s (by omega))
  have HB := Lib.hid (show Mx.lv (m + 1) = 5 * Mx.lv m from rfl)
  have HZ := Lib.hid (And.intro h1 h2)
  have HM := Lib.hid (And.intro hkm hb)
  have hkn : k < n := by omega
  have e0 : ((k : Int) == (n : Int)) = false := by rw [beq_eq_false_iff_ne]; omega
  clear ih h hs h1 h2 hb hkm
  go_enter Tryd.func29, Tryd.ntmps29
  go_wp2_with fail
  go_loopw [6] (fun i wr => ∃ (j t : Nat) (y : Int), j = k + t ∧ j ≤ n ∧ i = .int .i64 (j : Int) ∧ Vis w0 wr gm gs g n d A s y ∧ Fp.ofInt y = Fp.ofInt z + Mx.sg t (fun t => Mx.part' n (k + 1) f fun i => s (Mx.sw k (k + t) i)) ∧ -((b + 9972 * (t * Mx.lv m) : Nat) : Int) ≤ y ∧ y ≤ ((b + 9972 * (t * Mx.lv m) : Nat) : Int)) (fun i _ => n - (intOf i).toNat)
  case atStart => exact ⟨k, 0, z, rfl, by omega, rfl, HV.out, by rw [Mx.sg_zero]; grind, by simpa using HZ.out.1, by simpa using HZ.out.2⟩
  case round =>
    clear HV
    obtain ⟨j, t, y, hjt, hjn, rfl, hv, hy, hy1, hy2⟩ := hrel
    have HJ := Lib.hid hjt
    have HV := Lib.hid hv
    have HY := Lib.hid hy
    have HYB := Lib.hid (And.intro hy1 hy2)
    clear hjt hv hy hy1 hy2
    by_cases hlt : j < n
    · have y1 := HV.out.row.cell k (by rw [Mx.len_row]; exact hkn)
      have y2 := HV.out.row.cell j (by rw [Mx.len_row]; exact hlt)
      have y3 := HV.out.row.free k
      have y4 := HV.out.row.free j
      rw [Mx.row_at _ _ _ hkn] at y1
      rw [Mx.row_at _ _ _ hlt] at y2
      have SW := HV.out.swap hkn hlt
      have y5 := (HV.out.row.put k (s j : Int)).free j
      have y6 : ∃ v, (wr.setCell ⟨g, k, none⟩ (.int .i64 (s j : Int))).cell? ⟨g, j, none⟩ = some v := ⟨_, (HV.out.row.put k (s j : Int)).cell j (by rw [List.length_set, Mx.len_row]; exact hlt)⟩
      obtain ⟨v6, y6⟩ := y6
      obtain ⟨sk, hsk⟩ : ∃ x : Int, x = (s k : Int) := ⟨_, rfl⟩
      obtain ⟨sj, hsj⟩ : ∃ x : Int, x = (s j : Int) := ⟨_, rfl⟩
      rw [← hsk] at y1 SW
      rw [← hsj] at y2 y5 y6 SW
      have hs' : ∀ i, i < n → (fun i => s (Mx.sw k j i)) i < n := fun i hi => HS.out _ (Mx.sw_lt hkn hlt hi)
      have hm : 9972 * (t * Mx.lv m) + 9972 * Mx.lv m = 9972 * ((t + 1) * Mx.lv m) := by rw [show (t + 1) * Mx.lv m = t * Mx.lv m + Mx.lv m from Nat.succ_mul _ _]; omega
      have hle : b + 9972 * ((t + 1) * Mx.lv m) ≤ 1000000000000 := by
        have a1 : (t + 1) * Mx.lv m ≤ 5 * Mx.lv m := Nat.mul_le_mul_right _ (by have := HJ.out; omega)
        have := HM.out.2
        rw [HB.out] at this
        omega
      have CALL := Lib.hid (fun w1 (hv : Vis w0 w1 gm gs g n d A (fun i => s (Mx.sw k j i)) y) => IH.out (fun i => s (Mx.sw k j i)) y (b + 9972 * (t * Mx.lv m)) w1 hs' hv HYB.out.1 HYB.out.2 (by omega))
      rw [show b + 9972 * (t * Mx.lv m) + 9972 * Mx.lv m = b + 9972 * ((t + 1) * Mx.lv m) by omega] at CALL
      have SWH := Lib.hid SW
      have hwk : IntKind.i64.wrap ((k : Int) + 1) = ((k + 1 : Nat) : Int) := by rw [IntWalk.i64_in _ (by omega)]; omega
      have HSK := Lib.hid (And.intro hsk hsj)
      clear SW hs' hm hle hsk hsj
      go_wp2_with fail
      go_region_law (fail)
      all_goals
        go_wp2_with fail
        refine (CALL.out _ (SWH.out.drewN 1)).mono ?_; rintro e w2 ⟨rfl, y', hv2, hy', hb1, hb2⟩
        have HV2 := Lib.hid hv2
        have HY2 := Lib.hid hy'
        have HB2 := Lib.hid (And.intro hb1 hb2)
        have x1 := hv2.row.cell k (by rw [Mx.len_row]; exact hkn)
        have x2 := hv2.row.cell j (by rw [Mx.len_row]; exact hlt)
        have x3 := hv2.row.free k
        have x4 := hv2.row.free j
        rw [Mx.row_at _ _ _ hkn, Mx.sw_left, ← HSK.out.2] at x1
        rw [Mx.row_at _ _ _ hlt, Mx.sw_right, ← HSK.out.1] at x2
        have x5 := (hv2.row.put k sk).free j
        have x6 : ∃ v, (w2.setCell ⟨g, k, none⟩ (.int .i64 sk)).cell? ⟨g, j, none⟩ = some v := ⟨_, (hv2.row.put k sk).cell j (by rw [List.length_set, Mx.len_row]; exact hlt)⟩
        obtain ⟨v7, x6⟩ := x6
        have SW2 := (hv2.swap hkn hlt).ext (t := s) fun i _ => by rw [Mx.sw_sw]
        simp only [Mx.sw_left, Mx.sw_right] at SW2
        rw [← HSK.out.1, ← HSK.out.2] at SW2
        have SWH2 := Lib.hid SW2
        clear SW2 hv2 hy' hb1 hb2 y1 y2 y3 y4 y5 y6
        go_wp2_with fail
        go_region_law (fail)
        all_goals
          go_wp2_with fail
          go_roundw
          case rel => exact ⟨j + 1, t + 1, y', by rw [HJ.out]; omega, by omega, by go_num, SWH2.out.drewN 1, by rw [HY2.out, HY.out, Mx.sg_succ, HJ.out]; grind, HB2.out.1, HB2.out.2⟩
          case measure => simp [intOf]; omega
    · have HE := Lib.hid (show t = m + 1 ∧ j = n by have := HJ.out; have := HM.out.1; omega)
      have HL := Lib.hid (show t * Mx.lv m ≤ Mx.lv (m + 1) by
        rw [HE.out.1, HB.out]; exact Nat.mul_le_mul_right _ (by have := HM.out.1; omega))
      go_wp2_with fail
      go_end0
      refine ⟨rfl, y, HV.out, ?_, ?_, ?_⟩
      · rw [HY.out, ← HP.out, show n - k = t by have := HJ.out; have := HE.out; omega]
      · have := HYB.out.1; have := HL.out; omega
      · have := HYB.out.2; have := HL.out; omega
theorem orders_any (w0 : World) (gm gs g n d : Nat) (A : Option Addr) (f : Nat → Nat → Fp.F) (ha : LiesM w0 A (Mx.matl n n f)) (hn : n ≤ 5) :
    ∀ (m k : Nat), k + m = n → ∀ (s : Nat → Nat) (z : Int) (b : Nat) (w : World), (∀ i, i < n → s i < n) → Vis w0 w gm gs g n d A s z → -(b : Int) ≤ z → z ≤ (b : Int) → b + 9972 * Mx.lv m ≤ 1000000000000 →
      Calls Tryd.prog 29 #[.slice (some ⟨g, 0, none⟩) n n, .int .i64 (k : Int), .func (.func 31) #[] #[.pointer (some ⟨gm, 0, none⟩), .pointer (some ⟨gs, 0, none⟩)]] w fun e w' =>
        VisEnd w0 gm gs g n d A s z (Mx.part' n k f s) (b + 9972 * Mx.lv m) e w'
  | 0, k, hkm => fun s z b w hs h h1 h2 hb => by
    obtain rfl : k = n := by omega
    exact orders_base w0 gm gs g k d b A f s z w ha hn hs h h1 h2 (by omega)
  | m + 1, k, hkm => fun s z b w hs h h1 h2 hb => orders_step w0 gm gs g n d A f m k hkm hn (orders_any w0 gm gs g n d A f ha hn m (k + 1) (by omega)) s z b w hs h h1 h2 hb

end Go.Proofs.YtnjhdedhobgplaaDoor

/- Contracts of package det, third part: Check, Of. -/
namespace Go.Proofs.YtnjhdedhobgplaaDoor
open Go.ChangeShapes Go.WideShapes Go.ChangeAt Go.RowKit
set_option linter.unusedVariables false

set_option maxRecDepth 100000 in
set_option maxHeartbeats 1600000 in
theorem DChk_any (A : Option Addr) (m : List (List Int)) (n d : Nat) (w : World) (ha : LiesM w A m) (hn : m.length = n) :
    Calls Tryd.prog 28 #[.slice A n d] w fun e w' => e = .returned (errOf (qcode 5 0 9972 m)) ∧ w = w' := by
  have CK := Lib.hid (Check_any A m n d w ha hn)
  by_cases h0 : Mx.mcode 5 0 9972 m = 0
  · have h0n : 0 < m.length := by
      rcases Nat.eq_zero_or_pos m.length with h | h
      · exfalso; unfold Mx.mcode at h0; rw [if_pos (.inl h)] at h0; cases h0
      · exact h
    obtain ⟨ad, A0, d0, rfl, hl0, hc0, _, _⟩ := ha 0 h0n
    rw [add_zero'] at hc0
    have EV := Lib.hid (show qcode 5 0 9972 m = if n ≠ (m.getD 0 []).length then 3 else 0 by
      unfold qcode
      rw [h0, hn]
      by_cases h : n ≠ (m.getD 0 []).length
      · rw [if_pos ⟨rfl, h⟩, if_pos h]
      · rw [if_neg (fun h' => h h'.2), if_neg h])
    rw [h0, errOf_zero] at CK
    have hn0 : 0 < n := by omega
    generalize (m.getD 0 []).length = q at *
    generalize qcode 5 0 9972 m = z at *
    clear ha h0 hn h0n
    by_cases hq : n = q
    · subst hq
      obtain rfl : z = 0 := by rw [EV.out, if_neg (fun h => h rfl)]
      rw [errOf_zero]
      have e1 : ((n : Int) != (n : Int)) = false := by simp
      clear EV
      go_enter Tryd.func28, Tryd.ntmps28
      go_wp2_with fail
      refine (CK.out).mono ?_; rintro e w' ⟨rfl, rfl⟩
      go_wp2_with fail
      go_ret
      exact ⟨rfl, rfl⟩
    · obtain rfl : z = 3 := by rw [EV.out, if_pos hq]
      rw [errOf_ne 3 (by omega)]
      have e1 : ((n : Int) != (q : Int)) = true := by rw [bne_iff_ne]; omega
      clear EV hq
      go_enter Tryd.func28, Tryd.ntmps28
      go_wp2_with fail
      refine (CK.out).mono ?_; rintro e w' ⟨rfl, rfl⟩
      go_wp2_with fail
      go_ret
      exact ⟨rfl, rfl⟩
  · rw [qcode_bad h0]
    rw [errOf_ne _ h0] at CK ⊢
    generalize Mx.mcode 5 0 9972 m = z at *
    clear ha hn h0
    go_enter Tryd.func28, Tryd.ntmps28
    go_wp2_with fail
    refine (CK.out).mono ?_; rintro e w' ⟨rfl, rfl⟩
    go_wp2_with fail
    go_ret
    exact ⟨rfl, rfl⟩

set_option maxRecDepth 100000 in
set_option maxHeartbeats 1600000 in
theorem Of_bad (A : Option Addr) (m : List (List Int)) (n d : Nat) (w : World) (ha : LiesM w A m) (hn : m.length = n) (h : qcode 5 0 9972 m ≠ 0) :
    Calls Tryd.prog 24 #[.slice A n d] w fun e w' => e = .returned (.tuple #[.int .i64 0, errOf (qcode 5 0 9972 m)]) ∧ Kp w w' := by
  have CK := Lib.hid (fun w (ha : LiesM w A m) => DChk_any A m n d w ha hn)
  rw [errOf_ne _ h] at CK ⊢
  have HA := Lib.hid ha
  generalize qcode 5 0 9972 m = z at *
  clear ha hn h
  go_enter Tryd.func24, Tryd.ntmps24
  go_wp2_with fail
  refine (CK.out _ (HA.out.keep ((Kp.rfl' w).new _))).mono ?_; rintro e w' ⟨rfl, rfl⟩
  go_wp2_with fail
  go_ret2
  exact ⟨rfl, (Kp.rfl' w).new _⟩

theorem orders_top (w0 : World) (gm gs g n d : Nat) (A : Option Addr) (f : Nat → Nat → Fp.F) (w : World) (ha : LiesM w0 A (Mx.matl n n f)) (hn : n ≤ 5) (h : Vis w0 w gm gs g n d A (fun i => i) 0) :
    Calls Tryd.prog 29 #[.slice (some ⟨g, 0, none⟩) n n, .int .i64 0, .func (.func 31) #[] #[.pointer (some ⟨gm, 0, none⟩), .pointer (some ⟨gs, 0, none⟩)]] w fun e w' =>
      VisEnd w0 gm gs g n d A (fun i => i) 0 (Mx.dt n f) 100000000 e w' := by
  have h1 := orders_any w0 gm gs g n d A f ha hn n 0 (by omega) (fun i => i) 0 0 w (fun i hi => hi) h (by omega) (by omega) (by have := Mx.lv_le hn; omega)
  rw [Mx.part_zero (n := n) f (s := fun i => i) fun j _ => rfl] at h1
  refine h1.mono ?_
  rintro e w' ⟨he, z, hv, hz, h2, h3⟩
  have := Mx.lv_le hn
  exact ⟨he, z, hv, hz, by omega, by omega⟩
theorem vis_made {w w2 : World} {n d : Nat} {T U : TypeId} (A : Option Addr)
    (hr : Row w2 ((w.alloc (.cells #[.slice A n d] T)).alloc (.cells #[.int .i64 0] U)).heap.size (Mx.row n fun i => (i : Int)))
    (hk : Kp ((w.alloc (.cells #[.slice A n d] T)).alloc (.cells #[.int .i64 0] U)) w2) : Vis w w2 w.heap.size (w.heap.size + 1) (w.heap.size + 2) n d A (fun i => i) 0 := by
  have e1 : (w.alloc (.cells #[.slice A n d] T)).heap.size = w.heap.size + 1 := by simp
  have e2 : ((w.alloc (.cells #[.slice A n d] T)).alloc (.cells #[.int .i64 0] U)).heap.size = w.heap.size + 2 := by simp
  have c1 : (w.alloc (.cells #[.slice A n d] T)).cell? ⟨w.heap.size, 0, none⟩ = some (.slice A n d) := (cell_made w #[.slice A n d] T w.heap.size 0 rfl).trans rfl
  have c2 : ((w.alloc (.cells #[.slice A n d] T)).alloc (.cells #[.int .i64 0] U)).cell? ⟨w.heap.size + 1, 0, none⟩ = some (.int .i64 0) := (cell_made (w.alloc (.cells #[.slice A n d] T)) #[.int .i64 0] U (w.heap.size + 1) 0 e1.symm).trans rfl
  have c3 : ((w.alloc (.cells #[.slice A n d] T)).alloc (.cells #[.int .i64 0] U)).cell? ⟨w.heap.size, 0, none⟩ = some (.slice A n d) :=
    (((Kp.rfl' (w.alloc (.cells #[.slice A n d] T))).new _).cell (p := ⟨w.heap.size, 0, none⟩) (by rw [e1]; exact Nat.lt_succ_self _)).trans c1
  have z2 : ((w.alloc (.cells #[.slice A n d] T)).alloc (.cells #[.int .i64 0] U)).frozen? ⟨w.heap.size + 1, 0, none⟩ = false := by simp
  rw [e2] at hr
  exact ⟨(hk.cell (p := ⟨w.heap.size, 0, none⟩) (cell_lt c3)).trans c3, (hk.cell (p := ⟨w.heap.size + 1, 0, none⟩) (cell_lt c2)).trans c2, (hk.frozen (p := ⟨w.heap.size + 1, 0, none⟩) (cell_lt c2)).trans z2, hr,
    (((Kp.rfl' w).new _).new _).trans hk, by omega, by omega, by omega, by omega, by omega⟩

set_option maxRecDepth 100000 in
set_option maxHeartbeats 1600000 in
theorem Of_ok (A : Option Addr) (f : Nat → Nat → Fp.F) (n d : Nat) (w : World) (ha : LiesM w A (Mx.matl n n f)) (h0 : 0 < n) (hn : n ≤ 5) :
    Calls Tryd.prog 24 #[.slice A n d] w fun e w' => e = .returned (.tuple #[.int .i64 ((Mx.dt n f).val : Int), .nilIface]) ∧ Kp w w' := by
  have CK := Lib.hid (fun w (ha : LiesM w A (Mx.matl n n f)) => DChk_any A (Mx.matl n n f) n d w ha (Mx.len_matl _ _ _))
  rw [qcode_matl f h0 hn, errOf_zero] at CK
  have HA := Lib.hid ha
  have AS := Lib.hid (fun w => ascending_any n w (by omega))
  have OR := Lib.hid (fun gm gs g w1 h => orders_top w gm gs g n d A f w1 ha hn h)
  generalize Mx.dt n f = dd at *
  clear ha
  go_enter Tryd.func24, Tryd.ntmps24
  go_wp2_with fail
  refine (CK.out _ (HA.out.keep ((Kp.rfl' w).new _))).mono ?_; rintro e w' ⟨rfl, rfl⟩
  go_wp2_with fail
  refine (AS.out _).mono ?_; rintro e w2 ⟨rfl, hr, hk⟩
  have VS := Lib.hid (vis_made (n := n) (d := d) A hr hk)
  clear hr hk
  go_wp2_with fail
  refine (OR.out _ _ _ _ VS.out).mono ?_; rintro e w3 ⟨rfl, z, hv, hz, hz1, hz2⟩
  have y1 := hv.sb
  have HK := Lib.hid hv.kp
  have hzb : -100000000 ≤ z ∧ z ≤ 100000000 := by omega
  have HR := Lib.hid (Mx.fit z)
  rw [hz, show Fp.ofInt 0 + dd = dd by rw [show Fp.ofInt 0 = 0 from rfl]; grind] at HR
  have hb := Mx.tmod_bound z
  have hwa : IntKind.i64.wrap (z.tmod 9973 + 9973) = z.tmod 9973 + 9973 := IntWalk.i64_in _ (by omega)
  clear hv hz hz1 hz2 hb
  go_wp2_with fail
  go_ret2
  refine ⟨?_, HK.out⟩
  show Ending.returned (.tuple #[.int .i64 ((z.tmod 9973 + 9973).tmod 9973), .nilIface]) = _
  rw [HR.out]

end Go.Proofs.YtnjhdedhobgplaaDoor

/- Contracts of package result, last part: Full and Of. -/
namespace Go.Proofs.YtnjhdedhobgplaaDoor
open Go.ChangeShapes Go.WideShapes Go.ChangeAt Go.RowKit Go.Shelf
set_option linter.unusedVariables false

theorem ReFull_bad (A B : Option Addr) (L M : List Int) (c d : Nat) (w : World) (ha : Lies w A L) (hb : Lies w B M) (bL : L.length ≤ 9223372036854775807) (bM : M.length ≤ 9223372036854775807) (h : recd L M ≠ 0) :
    Calls Tryd.prog 9 #[.slice A L.length c, .slice B M.length d] w fun e w' => e = .returned (.tuple #[.slice none 0 0, errOf (recd L M)]) ∧ w = w' := by
  have CK := Lib.hid (reChk_any A B L M c d w ha hb bL bM)
  rw [errOf_ne _ h] at CK ⊢
  generalize recd L M = z at *
  generalize L.length = n at *
  generalize M.length = m at *
  clear ha hb h
  go_enter Tryd.func9, Tryd.ntmps9
  go_wp2_with fail
  refine (CK.out).mono ?_; rintro e w' ⟨rfl, rfl⟩
  go_wp2_with fail
  go_ret2
  exact ⟨rfl, rfl⟩

set_option maxRecDepth 100000 in
set_option maxHeartbeats 6400000 in
theorem ReFull_ok {p q : List Fp.F} {L M : List Int} (s : Re p q L M) (A B : Option Addr) (c d : Nat) (w : World) (ha : Lies w A L) (hb : Lies w B M) :
    Calls Tryd.prog 9 #[.slice A p.length c, .slice B q.length d] w fun e w' => MadeM (p.length - 1 + (q.length - 1)) (Mx.smx p q) w e w' := by
  have CK := Lib.hid (reChk_good s A B c d w ha hb)
  have hp0 := s.p0
  have hq0 := s.q0
  have lo := s.lo
  have hi := s.hi
  obtain ⟨k, hk⟩ : ∃ k, p.length = k + 1 := ⟨p.length - 1, by omega⟩
  obtain ⟨j, hj⟩ : ∃ j, q.length = j + 1 := ⟨q.length - 1, by omega⟩
  obtain ⟨N, hN⟩ : ∃ N, N = k + j := ⟨_, rfl⟩
  have D1 := Lib.hid (fun w' => deg_any A p.length k c w' hk (by omega))
  have D2 := Lib.hid (fun w' => deg_any B q.length j d w' hj (by omega))
  have ADD1 := Lib.hid (fun (w1 : World) (b1 : Boxed w1 w.heap.size 3 (.int .i64 (N : Int))) (b2 : Boxed w1 (w.heap.size + 1) 28 (.slice none 0 0)) (k1 : Kp w w1) =>
    add_any w w1 A p p.length c N 0 j w.heap.size (w.heap.size + 1) (Mx.smx p q) _ (fun _ => 0) (fun _ => 0) rfl (by have h := ha.keep k1; rw [s.l] at h; exact h) hp0 (by omega) (by omega) (by omega) (by omega) b1 b2 (ownM_none _ _ _ _) k1 (by omega) (by omega)
      (fun i x hi hx => by
        unfold Mx.smx
        rw [show p.length - 1 = k by omega, show q.length - 1 = j by omega, Nat.zero_add, Mx.syd_first _ _ hi, hk]))
  have ADD2 := Lib.hid (fun (w1 : World) (v : Value) (G C : Nat → Nat) (b1 : Boxed w1 w.heap.size 3 (.int .i64 (N : Int))) (b2 : Boxed w1 (w.heap.size + 1) 28 v) (o : OwnM w1 w.heap.size v G C (Mx.matl (0 + j) N (Mx.smx p q))) (k1 : Kp w w1) =>
    add_any w w1 B q q.length d N (0 + j) k w.heap.size (w.heap.size + 1) (Mx.smx p q) v G C rfl (by have h := hb.keep k1; rw [s.m] at h; exact h) hq0 (by omega) (by omega) (by omega) (by omega) b1 b2 o k1 (by omega) (by omega)
      (fun i x hi hx => by
        unfold Mx.smx
        rw [show p.length - 1 = k by omega, show q.length - 1 = j by omega, Nat.zero_add, Mx.syd_last _ _ (show ¬ j + i < j by omega), hj, Nat.add_sub_cancel_left]))
  have HNN := Lib.hid (show p.length - 1 + (q.length - 1) = N by omega)
  rw [HNN.out]
  have HJ := Lib.hid (show 0 + j + k = N by omega)
  have e1 : (k : Int) + (j : Int) = (N : Int) := by omega
  have e2 : IntKind.i64.wrap (N : Int) = (N : Int) := IntWalk.i64_in _ (by omega)
  generalize Mx.smx p q = F at *
  generalize p.length = n at *
  generalize q.length = m at *
  clear ha hb s hk hj hN
  go_enter Tryd.func9, Tryd.ntmps9
  go_wp2_with fail
  refine (CK.out).mono ?_; rintro e w' ⟨rfl, rfl⟩
  go_wp2_with fail
  refine (D1.out _).mono ?_; rintro e w' ⟨rfl, rfl⟩
  go_wp2_with fail
  refine (D2.out _).mono ?_; rintro e w' ⟨rfl, rfl⟩
  go_wp2_with fail
  refine (D2.out _).mono ?_; rintro e w' ⟨rfl, rfl⟩
  go_wp2_with fail
  refine (ADD1.out _ ((Boxed.new w 3 (.int .i64 (N : Int))).alloc _) (by
    have := Boxed.new (w.alloc (.cells #[.int .i64 (N : Int)] 3)) 28 (.slice none 0 0)
    rwa [World.size_alloc] at this) (((Kp.rfl' w).new _).new _)).mono ?_; rintro e w1 ⟨rfl, v1, G1, C1, b1, b2, o1, k1⟩
  have ADD := Lib.hid (ADD2.out w1 v1 G1 C1 b1 b2 o1 k1)
  clear b1 b2 o1 k1 ADD1 ADD2
  go_wp2_with fail
  refine (D1.out _).mono ?_; rintro e w' ⟨rfl, rfl⟩
  go_wp2_with fail
  refine (ADD.out).mono ?_; rintro e w2 ⟨rfl, v2, G2, C2, b1, b2, o1, k1⟩
  rw [HJ.out] at o1
  obtain ⟨Av, cv, rfl, hl, hc⟩ := o1.lies
  rw [Mx.len_matl] at b2 hc
  have x2 := b2.cell
  have HL := Lib.hid hl
  have HK := Lib.hid k1
  have HC := Lib.hid hc
  clear b1 b2 o1 k1 hl hc
  go_wp2_with fail
  go_ret2
  exact ⟨Av, cv, rfl, HC.out, HL.out, HK.out⟩

theorem ReOf_bad (A B : Option Addr) (L M : List Int) (c d : Nat) (w : World) (ha : Lies w A L) (hb : Lies w B M) (bL : L.length ≤ 9223372036854775807) (bM : M.length ≤ 9223372036854775807) (h : recd L M ≠ 0) :
    Calls Tryd.prog 11 #[.slice A L.length c, .slice B M.length d] w fun e w' => e = .returned (.tuple #[.int .i64 0, errOf (recd L M)]) ∧ w = w' := by
  have CK := Lib.hid (ReFull_bad A B L M c d w ha hb bL bM h)
  rw [errOf_ne _ h] at CK ⊢
  generalize recd L M = z at *
  generalize L.length = n at *
  generalize M.length = m at *
  clear ha hb h
  go_enter Tryd.func11, Tryd.ntmps11
  go_wp2_with fail
  refine (CK.out).mono ?_; rintro e w' ⟨rfl, rfl⟩
  go_wp2_with fail
  go_ret2
  exact ⟨rfl, rfl⟩
theorem ReOf_ok {p q : List Fp.F} {L M : List Int} (s : Re p q L M) (A B : Option Addr) (c d : Nat) (w : World) (ha : Lies w A L) (hb : Lies w B M) :
    Calls Tryd.prog 11 #[.slice A p.length c, .slice B q.length d] w fun e w' => e = .returned (.tuple #[.int .i64 ((Mx.res p q).val : Int), .nilIface]) ∧ Kp w w' := by
  have FU := Lib.hid (ReFull_ok s A B c d w ha hb)
  have DE := Lib.hid (fun (A' : Option Addr) (d' : Nat) (w' : World) (h : LiesM w' A' (Mx.matl (p.length - 1 + (q.length - 1)) (p.length - 1 + (q.length - 1)) (Mx.smx p q))) => Of_ok A' (Mx.smx p q) (p.length - 1 + (q.length - 1)) d' w' h (by have := s.lo; have := s.p0; have := s.q0; omega) (by have := s.hi; have := s.p0; have := s.q0; omega))
  unfold MadeM at FU
  unfold Mx.res
  generalize Mx.dt (p.length - 1 + (q.length - 1)) (Mx.smx p q) = x at *
  generalize Mx.smx p q = F at *
  generalize p.length - 1 + (q.length - 1) = N at *
  generalize p.length = n at *
  generalize q.length = m at *
  clear ha hb s
  go_enter Tryd.func11, Tryd.ntmps11
  go_wp2_with fail
  refine (FU.out).mono ?_; rintro e w1 ⟨A1, d1, rfl, _, hl, k1⟩
  have DD := Lib.hid (DE.out A1 d1 w1 hl)
  have HK := Lib.hid k1
  clear hl k1 DE FU
  go_wp2_with fail
  refine (DD.out).mono ?_; rintro e w2 ⟨rfl, k2⟩
  have HK2 := Lib.hid (HK.out.trans k2)
  clear k2
  go_wp2_with fail
  go_ret2
  exact ⟨rfl, HK2.out⟩

end Go.Proofs.YtnjhdedhobgplaaDoor

/- Contracts of the document's answer on matrices, second part: Copy, MatMul, MatAdd, Matrix, Field. For all packages. -/
namespace Go.Proofs.YtnjhdedhobgplaaDoor
open Go.ChangeShapes Go.WideShapes Go.ChangeAt Go.RowKit
set_option linter.unusedVariables false

/-- Where the heads lie. -/
theorem OwnM.some {w : World} {B : Nat} {v : Value} {G C : Nat → Nat} {m : List (List Int)} (h : OwnM w B v G C m) (h0 : 0 < m.length) : ∃ g c, v = .slice (.some ⟨g, 0, .none⟩) m.length c ∧ B ≤ g := by
  rcases h.top.2 with ⟨_, h1⟩ | ⟨g, cap, cur, e, hg, _⟩
  · omega
  · exact ⟨g, cap, e, hg⟩




end Go.Proofs.YtnjhdedhobgplaaDoor

/- Contracts of the document's answer on matrices, third part: All, Matrix, Field. For all packages. -/
namespace Go.Proofs.YtnjhdedhobgplaaDoor
open Go.ChangeShapes Go.WideShapes Go.ChangeAt Go.RowKit
set_option linter.unusedVariables false

/-- The first k rows have no fault. -/
def rowsUp (lo hi : Int) (m : List (List Int)) (k : Nat) : Prop := Mx.rows lo hi (m.getD 0 []).length m = Mx.rows lo hi (m.getD 0 []).length (m.drop k)
theorem rowsUp_go {lo hi : Int} {m : List (List Int)} {k : Nat} (hk : k < m.length) (h : rowsUp lo hi m k) (h0 : Mx.rcode lo hi (m.getD 0 []).length (m.getD k []) = 0) : rowsUp lo hi m (k + 1) := by
  unfold rowsUp at *
  rw [h, Mx.rows_drop hk, if_pos h0]



end Go.Proofs.YtnjhdedhobgplaaDoor

/- Contracts of the document's answer on matrices, fourth part: Without, DetMod, Square. For all packages. -/
namespace Go.Proofs.YtnjhdedhobgplaaDoor
open Go.ChangeShapes Go.WideShapes Go.ChangeAt Go.RowKit
set_option linter.unusedVariables false

theorem wo_del (f : Nat → Nat → Fp.F) (j : Nat) : wo f 0 j = Mx.del j f := by
  funext a b
  unfold wo Mx.del
  congr 1

set_option maxRecDepth 100000 in
set_option maxHeartbeats 6400000 in
theorem rWithout_any (A : Option Addr) (f : Nat → Nat → Fp.F) (p a b d : Nat) (w : World) (ha : LiesM w A (Mx.matl (p + 1) (p + 1) f)) (hpa : a ≤ p) (hpb : b ≤ p) (hp : p ≤ 1000) :
    Calls Tryd.prog 19 #[.slice A ((p + 1 : Nat) : Int).toNat d, .int .i64 (a : Int), .int .i64 (b : Int)] w fun e w' => Made p p (wo f a b) w e w' := by
  rw [Int.toNat_natCast]
  have HA := Lib.hid ha
  clear ha
  obtain ⟨n, hn⟩ : ∃ n, n = p + 1 := ⟨_, rfl⟩
  rw [← hn] at HA ⊢
  have HN := Lib.hid hn
  have hn1 : n ≤ 1001 := by omega
  clear hn
  go_enter Tryd.func19, Tryd.ntmps19
  go_wp2_with fail
  go_loopw [7, 8] (fun v i wr => ∃ (k : Nat) (G C : Nat → Nat), k ≤ n ∧ i = .int .i64 (k : Int) ∧ OwnM wr w.heap.size v G C (Mx.matl (ct a k) p (wo f a b)) ∧ Kp w wr) (fun _ i _ => n - (intOf i).toNat)
  case atStart => exact ⟨0, fun _ => 0, fun _ => 0, Nat.zero_le _, rfl, by rw [ct_zero]; exact ownM_none _ _ _ _, Kp.rfl' _⟩
  case round =>
    obtain ⟨k, G, C, hk, rfl, ho, hkp⟩ := hrel
    obtain ⟨wo', hwo⟩ : ∃ x, x = wr := ⟨_, rfl⟩
    subst hwo
    have HO := Lib.hid ho
    have HK := Lib.hid hkp
    clear ho hkp
    by_cases hlt : k < n
    · by_cases hka : k = a
      · subst hka
        have e1 : ((k : Int) == (k : Int)) = true := by simp
        have HC := Lib.hid (ct_skip k)
        go_wp2_with fail
        go_roundw
        case rel => exact ⟨k + 1, G, C, by omega, by go_num, by rw [HC.out]; exact HO.out, HK.out⟩
        case measure => simp [intOf]; omega
      · have e1 : ((k : Int) == (a : Int)) = false := by rw [beq_eq_false_iff_ne]; omega
        have hp0 : 0 < p := by have := HN.out; omega
        have HC := Lib.hid (ct_next hka)
        have HSK := Lib.hid (sk_ct hka)
        have HS := Lib.hid (show Mx.matl (ct a k + 1) p (wo f a b) = Mx.matl (ct a k) p (wo f a b) ++ [Mx.row p fun j => ((f k (Mx.sk b j)).val : Int)] by
          rw [Mx.matl, Mx.tab_snoc]
          congr 2
          refine Mx.row_ext fun j _ => ?_
          show ((f (Mx.sk a (ct a k)) (Mx.sk b j)).val : Int) = _
          rw [HSK.out])
        have HCL := Lib.hid (show ct a k ≤ 2000 by have := ct_le (a := a) (p := p) (t := k) hpa (by have := HN.out; omega); omega)
        clear hka
        obtain ⟨ad, A1, d1, rfl, _, x1, _, l1⟩ := (HA.out.keep HK.out).row hlt
        have L1 := Lib.hid l1
        have X1 := Lib.hid x1
        clear l1 x1
        go_wp2_with fail
        go_loopw [9, 10] (fun u i wq => ∃ t : Nat, t ≤ n ∧ i = .int .i64 (t : Int) ∧ Own wq wo'.heap.size u (Mx.row (ct b t) fun j => ((f k (Mx.sk b j)).val : Int)) ∧ Kp wo' wq) (fun _ i _ => n - (intOf i).toNat)
        case atStart => exact ⟨0, Nat.zero_le _, rfl, by rw [ct_zero]; exact Own.none _ _, Kp.rfl' _⟩
        case round =>
          obtain ⟨t, ht, rfl, hu, hkq⟩ := hrel
          have HU := Lib.hid hu
          have HQ := Lib.hid hkq
          have x2 := (hkq.cell (p := ad.add k) (cell_lt X1.out)).trans X1.out
          by_cases hlt2 : t < n
          · by_cases htb : t = b
            · subst htb
              have e2 : ((t : Int) != (t : Int)) = false := by simp
              have HC2 := Lib.hid (ct_skip t)
              clear hu hkq
              go_wp2_with fail
              go_roundw
              case rel => exact ⟨t + 1, by omega, by go_num, by rw [HC2.out]; exact HU.out, HQ.out⟩
              case measure => simp [intOf]; omega
            · have e2 : ((t : Int) != (b : Int)) = true := by rw [bne_iff_ne]; omega
              have HC2 := Lib.hid (ct_next htb)
              have HSK2 := Lib.hid (sk_ct htb)
              obtain ⟨ad1, rfl, _, x3⟩ := (L1.out.keep hkq).el hlt2
              have hlen : (Mx.row (ct b t) fun j => ((f k (Mx.sk b j)).val : Int)).length + 1 ≤ 17000000000000 := by
                rw [Mx.len_row]; have := ct_le (a := b) (p := p) (t := t) hpb (by have := HN.out; omega); omega
              have HSN := Lib.hid (show Mx.row (ct b t + 1) (fun j => ((f k (Mx.sk b j)).val : Int)) = (Mx.row (ct b t) fun j => ((f k (Mx.sk b j)).val : Int)) ++ [((f k t).val : Int)] by
                rw [Mx.row_snoc, HSK2.out])
              have hsz := HQ.out.size
              generalize ((f k t).val : Int) = z at *
              obtain ⟨wd, hwd⟩ : ∃ x, x = wr := ⟨_, rfl⟩
              subst hwd
              clear hu hkq htb
              go_wp2_with (at_builtin; refine wpList_push rfl _ _ rfl wo'.heap.size _ (Mx.row (ct b t) fun j => ((f k (Mx.sk b j)).val : Int)) z wd.heap.size 1 rfl rfl (HU.out.new _) (by simp; done) hlen (Nat.le_trans hsz ((Kp.rfl' _).new _).size) ?_; intro v' w' h1 h2 _)
              have HU' := Lib.hid h1
              have HQ' := Lib.hid (own_below (HU.out.new _) (HQ.out.new _) (Nat.le_trans hsz ((Kp.rfl' _).new _).size) h2)
              clear h1 h2
              go_wp2_with fail
              go_roundw
              case rel => exact ⟨t + 1, by omega, by go_num, by rw [HC2.out, HSN.out]; exact HU'.out, HQ'.out⟩
              case measure => simp [intOf]; omega
          · obtain rfl : t = n := by omega
            rw [show ct b t = p by rw [HN.out]; exact ct_end hpb] at HU
            obtain ⟨g, gc, rfl, hg, hgc⟩ := own_some HU.out (by rw [Mx.len_row]; exact hp0)
            rw [Mx.len_row] at HU hgc ⊢
            clear hu hkq
            have OM := Lib.hid (HO.out.kp HQ.out)
            have HAP := Lib.hid (show ∀ i, i < (Mx.matl (ct a k) p (wo f a b)).length → G i ≠ g from fun i hi => by have := (HO.out.lt hi).2; omega)
            have HLE := Lib.hid (show (Mx.matl (ct a k) p (wo f a b)).length + 1 ≤ 1000000 by rw [Mx.len_matl]; have := HCL.out; omega)
            go_wp2_with (at_builtin; refine wpList_pushM rfl _ _ rfl w.heap.size _ G C (Mx.matl (ct a k) p (wo f a b)) _ g p gc _ 1 (Mx.len_row _ _) rfl rfl (OM.out.new _) (cell_made _ _ _ _ 0 rfl) ((HU.out.from HK.out.size).new _) HAP.out HLE.out (Nat.le_trans HK.out.size (Nat.le_trans HQ.out.size ((Kp.rfl' _).new _).size)) ?_; intro v' w' G' C' ho' hk')
            have HO' := Lib.hid ho'
            have HK' := Lib.hid (hk' w (Nat.le_refl _) ((HK.out.trans HQ.out).new _))
            clear ho' hk'
            go_wp2_with fail
            go_roundw
            case rel => exact ⟨k + 1, G', C', by omega, by go_num, by rw [HC.out, HS.out]; exact HO'.out, HK'.out⟩
            case measure => simp [intOf]; omega
    · obtain rfl : k = n := by omega
      obtain ⟨A, d2, rfl, hl, _⟩ := HO.out.lies
      rw [Mx.len_matl, show ct a k = p by rw [HN.out]; exact ct_end hpa] at *
      have HL := Lib.hid hl
      clear hl
      go_wp2_with fail
      go_ret
      exact ⟨A, d2, rfl, HL.out, HK.out⟩

/-- The sign of a place as a whole number. -/
def sgnI (j : Nat) : Int := if j % 2 = 0 then 1 else -1
theorem sgnI_some (j : Nat) : sgnI j = 1 ∨ sgnI j = -1 := by unfold sgnI; split <;> simp
theorem sgnI_succ (j : Nat) : sgnI (j + 1) = -(sgnI j) := by
  unfold sgnI
  by_cases h : j % 2 = 0
  · rw [if_pos h, if_neg (by omega)]
  · rw [if_neg h, if_pos (by omega)]; rfl
theorem sgnI_F (j : Nat) : Fp.ofInt (sgnI j) = Mx.sgn j := by
  unfold sgnI Mx.sgn
  split <;> decide
theorem det_step (s x d : Fp.F) (k : Nat) : ((s.val : Int) + sgnI k * (x.val : Int) * (d.val : Int)) % 9973 = ((s + Mx.sgn k * x * d).val : Int) := by
  rw [← Fp.ofInt_val, Fp.ofInt_add, Fp.ofInt_mul, Fp.ofInt_mul, Fp.ofInt_self, Fp.ofInt_self, Fp.ofInt_self, sgnI_F]
theorem det_bound (x d : Fp.F) (k : Nat) : (-9972 ≤ sgnI k * (x.val : Int) ∧ sgnI k * (x.val : Int) ≤ 9972) ∧ -99440784 ≤ sgnI k * (x.val : Int) * (d.val : Int) ∧ sgnI k * (x.val : Int) * (d.val : Int) ≤ 99440784 := by
  have h := rprod x d
  have hx := rval x
  rcases sgnI_some k with e | e
  · rw [e, Int.one_mul]; omega
  · rw [e, Int.neg_one_mul, Int.neg_mul]; omega

set_option maxRecDepth 100000 in
set_option maxHeartbeats 6400000 in
theorem rDetMod_step (A : Option Addr) (f : Nat → Nat → Fp.F) (p n d : Nat) (w : World) (ha : LiesM w A (Mx.matl n n f)) (hn : n = p + 1) (hp : p ≤ 1000)
    (ih : ∀ (A : Option Addr) (f : Nat → Nat → Fp.F) (d : Nat) (w : World), LiesM w A (Mx.matl p p f) → Calls Tryd.prog 8 #[.slice A p d] w fun e w' => e = .returned (.int .i64 ((Mx.dt p f).val : Int)) ∧ Kp w w') :
    Calls Tryd.prog 8 #[.slice A n d] w fun e w' => e = .returned (.int .i64 ((Mx.dt n f).val : Int)) ∧ Kp w w' := by
  have HA := Lib.hid ha
  have IH := Lib.hid ih
  have hdt : Mx.dt n f = Mx.sg n fun j => Mx.sgn j * f 0 j * Mx.dt p (Mx.del j f) := by rw [hn]; rfl
  rw [hdt]
  have h0 : 0 < n := by omega
  have hn1 : n ≤ 1001 := by omega
  have e0 : ((n : Int) == 0) = false := by rw [beq_eq_false_iff_ne]; omega
  have WO := Lib.hid (fun (k : Nat) (w : World) (hk : k < n) (h : LiesM w A (Mx.matl n n f)) => show Calls Tryd.prog 19 #[.slice A n d, .int .i64 0, .int .i64 (k : Int)] w fun e w' => Made p p (Mx.del k f) w e w' by
    subst hn
    have := rWithout_any A f p 0 k d w h (Nat.zero_le _) (by omega) hp
    rw [Int.toNat_natCast, wo_del] at this
    exact this)
  clear ha ih hdt hn
  go_enter Tryd.func8, Tryd.ntmps8
  go_wp2_with fail
  go_loopw [3, 4, 5] (fun s g i wr => ∃ k : Nat, k ≤ n ∧ i = .int .i64 (k : Int) ∧ g = .int .i64 (sgnI k) ∧ s = .int .i64 ((Mx.sg k fun j => Mx.sgn j * f 0 j * Mx.dt p (Mx.del j f)).val : Int) ∧ Kp w wr) (fun _ _ i _ => n - (intOf i).toNat)
  case atStart => exact ⟨0, Nat.zero_le _, rfl, rfl, rfl, Kp.rfl' _⟩
  case round =>
    obtain ⟨k, hk, rfl, rfl, rfl, hkp⟩ := hrel
    have HK := Lib.hid hkp
    by_cases hlt : k < n
    · obtain ⟨ad, A0, d0, ea, hl0, x1, _, l1⟩ := (HA.out.keep hkp).row h0
      subst ea
      rw [add_zero'] at x1
      obtain ⟨ad1, ea, hl1, x2⟩ := l1.el hlt
      subst ea
      obtain ⟨s, hs⟩ : ∃ s, s = Mx.sg k fun j => Mx.sgn j * f 0 j * Mx.dt p (Mx.del j f) := ⟨_, rfl⟩
      rw [← hs]
      have hs2 : (Mx.sg (k + 1) fun j => Mx.sgn j * f 0 j * Mx.dt p (Mx.del j f)) = s + Mx.sgn k * f 0 k * Mx.dt p (Mx.del k f) := by rw [Mx.sg_succ, hs]
      have HSG := Lib.hid (sgnI_succ k)
      have hsg := sgnI_some k
      have hb := det_bound (f 0 k) (Mx.dt p (Mx.del k f)) k
      have hst := det_step s (f 0 k) (Mx.dt p (Mx.del k f)) k
      have hsv := rval s
      have hneg : IntKind.i64.wrap (-(sgnI k)) = -(sgnI k) := IntWalk.i64_in _ (by omega)
      rw [← hs2] at hst
      clear l1 hs
      by_cases hz : f 0 k = 0
      · have HS := Lib.hid (show (s.val : Int) = ((Mx.sg (k + 1) fun j => Mx.sgn j * f 0 j * Mx.dt p (Mx.del j f)).val : Int) by rw [hs2, hz]; congr 2; grind)
        rw [hz, show (((0 : Fp.F).val : Nat) : Int) = 0 from rfl] at x2
        generalize (s.val : Int) = sv at *
        generalize sgnI k = gi at *
        clear hb hst hsv hkp hz hs2
        go_wp2_with fail
        go_roundw
        case rel => exact ⟨k + 1, by omega, by go_num, by rw [HSG.out], by rw [HS.out], HK.out⟩
        case measure => simp [intOf]; omega
      · have hv := Fp.ne_val hz
        have e1 : (((f 0 k).val : Int) != 0) = true := by rw [bne_iff_ne]; omega
        have HI := Lib.hid (fun A' d' w' h => IH.out A' (Mx.del k f) d' w' h)
        obtain ⟨u, hu⟩ : ∃ u, u = ((Mx.sg (k + 1) fun j => Mx.sgn j * f 0 j * Mx.dt p (Mx.del j f)).val : Int) := ⟨_, rfl⟩
        rw [← hu] at hst
        have HU := Lib.hid hu
        generalize (s.val : Int) = sv at *
        generalize ((f 0 k).val : Int) = xv at *
        generalize ((Mx.dt p (Mx.del k f)).val : Int) = dv at *
        generalize sgnI k = gi at *
        obtain ⟨y, hy⟩ : ∃ y, y = gi * xv := ⟨_, rfl⟩
        rw [← hy] at hb hst
        obtain ⟨z, hz'⟩ : ∃ z, z = y * dv := ⟨_, rfl⟩
        rw [← hz'] at hb hst
        have hw1 : IntKind.i64.wrap (gi * xv) = y := by rw [← hy]; exact IntWalk.i64_in _ (by omega)
        have hw2 : IntKind.i64.wrap (y * dv) = z := by rw [← hz']; exact IntWalk.i64_in _ (by omega)
        have hw3 : IntKind.i64.wrap (sv + z) = sv + z := IntWalk.i64_in _ (by omega)
        have MO := Lib.hid (fun w => rMod_any (sv + z) w (by omega) (by omega))
        rw [hst] at MO
        have kd : Kp wr wr.drew := (Kp.rfl' wr).drewN 1
        have W1 := Lib.hid (WO.out k wr.drew hlt (HA.out.keep (hkp.trans kd)))
        have SK := Lib.hid (fun (w' : World) (h : Kp wr w') => (show w'.cell? ad = some (.slice (some ad1) n d0) ∧ w'.cell? (ad1.add k) = some (.int .i64 xv) ∧ Kp wr w' from
          ⟨(h.cell (p := ad) hl0).trans x1, (h.cell (p := ad1.add k) (by rw [block_add]; exact hl1)).trans x2, h⟩))
        clear hb hst hsv hkp hz hs2 hu hv hy hz' hsg
        go_wp2_with fail
        go_region_held3 (fun w' => w'.cell? ad = some (.slice (some ad1) n d0) ∧ w'.cell? (ad1.add k) = some (.int .i64 xv) ∧ Kp wr w')
          (first
          | exact SK.out _ (Kp.rfl' _)
          | exact SK.out _ kd
          | exact SK.out _ (kd.trans k1)
          | exact SK.out _ ((kd.trans k1).trans k2))
          ((first
          | (go_at_call 19; (with_reducible refine (W1.out).mono ?_); rintro e w1 ⟨A1, c1, rfl, l1, k1⟩)
          | (go_at_call 8; (with_reducible refine (HI.out A1 c1 _ l1).mono ?_); rintro e w2 ⟨rfl, k2⟩)
          | (go_at_call 18; (with_reducible refine (MO.out _).mono ?_); rintro e w' ⟨rfl, rfl⟩)))
        have HK2 := Lib.hid (HK.out.trans ((kd.trans k1).trans k2))
        clear k1 k2 l1 x1 x2
        go_wp2_with fail
        go_roundw
        case rel => exact ⟨k + 1, by omega, by go_num, by rw [HSG.out], by rw [HU.out], HK2.out⟩
        case measure => simp [intOf]; omega
    · obtain rfl : k = n := by omega
      clear hkp
      go_wp2_with fail
      go_ret
      exact ⟨rfl, HK.out⟩

theorem rDetMod_any : ∀ (n : Nat) (hn : n ≤ 1000) (A : Option Addr) (f : Nat → Nat → Fp.F) (d : Nat) (w : World) (ha : LiesM w A (Mx.matl n n f)),
    Calls Tryd.prog 8 #[.slice A n d] w fun e w' => e = .returned (.int .i64 ((Mx.dt n f).val : Int)) ∧ Kp w w'
  | 0, _, A, f, d, w, ha => by
    have e1 : ((Mx.dt 0 f).val : Int) = 1 := rfl
    rw [e1]
    clear ha
    go_enter Tryd.func8, Tryd.ntmps8
    go_wp2
    go_ret
    exact ⟨rfl, Kp.rfl' _⟩
  | p + 1, hp, A, f, d, w, ha => rDetMod_step A f p (p + 1) d w ha rfl (by omega) (fun A f d w h => rDetMod_any p (by omega) A f d w h)

end Go.Proofs.YtnjhdedhobgplaaDoor

/- Comparing rows and matrices, small matrices just laid down: for all packages. -/
namespace Go.Proofs.YtnjhdedhobgplaaDoor
open Go.ChangeShapes Go.WideShapes Go.ChangeAt Go.RowKit
set_option linter.unusedVariables false

set_option maxHeartbeats 1600000 in
theorem ints_drew (A B : Option Addr) (l m : List Int) (c d : Nat) (w : World) (ha : Lies w A l) (hb : Lies w B m) (hn : l.length ≤ 1000000) (hm : m.length ≤ 1000000) :
    Calls Tryd.prog 23 #[.slice A l.length c, .slice B m.length d] w fun e w' => Tells (l = m) e ∧ Drew w w' := by
  have HA := Lib.hid ha
  have HB := Lib.hid hb
  obtain ⟨n, hn'⟩ : ∃ n, n = l.length := ⟨_, rfl⟩
  obtain ⟨q, hq'⟩ : ∃ q, q = m.length := ⟨_, rfl⟩
  rw [← hn'] at hn ⊢
  rw [← hq'] at hm ⊢
  have HN := Lib.hid hn'
  have HQ := Lib.hid hq'
  clear ha hb hn' hq'
  by_cases he : n = q
  · subst he
    have hne : ((n : Int) != (n : Int)) = false := by simp
    go_enter Tryd.func23, Tryd.ntmps23
    go_wp2_with fail
    go_loopw [5] (fun i wr => ∃ k : Nat, k ≤ n ∧ i = .int .i64 (k : Int) ∧ (∀ j, j < k → l.getD j 0 = m.getD j 0) ∧ Drew w wr) (fun i _ => n - (intOf i).toNat)
    case atStart => exact ⟨0, Nat.zero_le _, rfl, fun j hj => absurd hj (by omega), Drew.refl _⟩
    case round =>
      obtain ⟨k, hk, rfl, hg, hkp⟩ := hrel
      have HG := Lib.hid hg
      have HK := Lib.hid hkp
      clear hg hkp
      by_cases hlt : k < n
      · obtain ⟨ad, rfl, _, hc⟩ := (HA.out.keep HK.out.kp) k (by have := HN.out; omega)
        obtain ⟨bd, rfl, _, hd⟩ := (HB.out.keep HK.out.kp) k (by have := HQ.out; omega)
        obtain ⟨x, hx⟩ : ∃ x, x = l.getD k 0 := ⟨_, rfl⟩
        obtain ⟨y, hy⟩ : ∃ y, y = m.getD k 0 := ⟨_, rfl⟩
        rw [← hx] at hc
        rw [← hy] at hd
        by_cases hxy : x = y
        · have GG := Lib.hid (show ∀ j, j < k + 1 → l.getD j 0 = m.getD j 0 from fun j hj => by
            by_cases e : j = k
            · subst e; rw [← hx, ← hy]; exact hxy
            · exact HG.out j (by omega))
          have hb : (x != y) = false := by rw [hxy]; simp
          clear hx hy hxy
          go_wp2_with fail
          go_quiet (fail)
          go_wp2_with fail
          go_roundw
          case rel => exact ⟨k + 1, by omega, by go_num, GG.out, HK.out.more _⟩
          case measure => simp [intOf]; omega
        · have NF := Lib.hid (show ¬ l = m from fun e => hxy (by rw [hx, hy, e]))
          have hb : (x != y) = true := by rw [bne_iff_ne]; exact hxy
          clear hx hy hxy
          go_wp2_with fail
          go_quiet (fail)
          go_wp2_with fail
          go_ret
          exact ⟨.inr ⟨NF.out, rfl⟩, HK.out.more _⟩
      · have YES := Lib.hid (show l = m from list_same l m (by rw [← HN.out, ← HQ.out]) fun j hj => HG.out j (by have := HN.out; omega))
        go_wp2_with fail
        go_ret
        exact ⟨.inl ⟨YES.out, rfl⟩, HK.out⟩
  · have hne : ((n : Int) != (q : Int)) = true := by rw [bne_iff_ne]; omega
    have NF := Lib.hid (show ¬ l = m from fun e => he (by rw [HN.out, HQ.out, e]))
    clear he
    go_enter Tryd.func23, Tryd.ntmps23
    go_wp2_with fail
    go_ret
    exact ⟨.inr ⟨NF.out, rfl⟩, Drew.refl _⟩
theorem rows_same (a b : List (List Int)) (h : a.length = b.length) (h2 : ∀ k, k < a.length → a.getD k [] = b.getD k []) : a = b := by
  refine List.ext_getElem h fun k h3 h4 => ?_
  have := h2 k h3
  rwa [List.getD_eq_getElem?_getD, List.getD_eq_getElem?_getD, List.getElem?_eq_getElem h3, List.getElem?_eq_getElem h4] at this

/-- No row is longer than a slice may be. -/
def Modest (m : List (List Int)) : Prop := m.length ≤ 1000000 ∧ ∀ k, k < m.length → (m.getD k []).length ≤ 1000000
theorem modest_tab {r c : Nat} (g : Nat → Nat → Int) (hr : r ≤ 1000000) (hc : c ≤ 1000000) : Modest (Mx.tab r c g) :=
  ⟨by rw [Mx.len_tab]; exact hr, fun k hk => by rw [Mx.len_tab] at hk; rw [Mx.tab_len _ _ _ _ hk]; exact hc⟩
theorem modest_nil : Modest [] := ⟨by decide, fun k hk => absurd hk (by simp)⟩

set_option maxRecDepth 100000 in
set_option maxHeartbeats 1600000 in
theorem rows_any (A B : Option Addr) (a b : List (List Int)) (n m c d : Nat) (w : World) (ha : LiesM w A a) (hb : LiesM w B b) (hn : a.length = n) (hm : b.length = m) (ma : Modest a) (mb : Modest b) :
    Calls Tryd.prog 10 #[.slice A n c, .slice B m d] w fun e w' => Tells (a = b) e ∧ Drew w w' := by
  have HA := Lib.hid ha
  have HB := Lib.hid hb
  have MA := Lib.hid ma
  have MB := Lib.hid mb
  have HN := Lib.hid hn
  have HM := Lib.hid hm
  have hb : n ≤ 1000000 := by rw [← hn]; exact ma.1
  clear ha ma mb hn hm
  by_cases he : n = m
  · subst he
    have hne : ((n : Int) != (n : Int)) = false := by simp
    go_enter Tryd.func10, Tryd.ntmps10
    go_wp2_with fail
    go_loopw [5] (fun i wr => ∃ k : Nat, k ≤ n ∧ i = .int .i64 (k : Int) ∧ (∀ j, j < k → a.getD j [] = b.getD j []) ∧ Drew w wr) (fun i _ => n - (intOf i).toNat)
    case atStart => exact ⟨0, Nat.zero_le _, rfl, fun j hj => absurd hj (by omega), Drew.refl _⟩
    case round =>
      obtain ⟨k, hk, rfl, hg, hkp⟩ := hrel
      have HG := Lib.hid hg
      have HK := Lib.hid hkp
      clear hg hkp
      by_cases hlt : k < n
      · obtain ⟨ad, A1, c1, rfl, _, hc, _, l1⟩ := (HA.out.keep HK.out.kp) k (by have := HN.out; omega)
        obtain ⟨bd, B1, d1, rfl, _, hd, _, l2⟩ := (HB.out.keep HK.out.kp) k (by have := HM.out; omega)
        have IN := Lib.hid (fun i => ints_drew A1 B1 _ _ c1 d1 (wr.drewN i) (l1.keep ((Kp.rfl' wr).drewN i)) (l2.keep ((Kp.rfl' wr).drewN i)) (MA.out.2 k (by have := HN.out; omega)) (MB.out.2 k (by have := HM.out; omega)))
        obtain ⟨x, hx⟩ : ∃ x, x = a.getD k [] := ⟨_, rfl⟩
        obtain ⟨y, hy⟩ : ∃ y, y = b.getD k [] := ⟨_, rfl⟩
        rw [← hx, ← hy] at IN
        rw [← hx] at hc
        rw [← hy] at hd
        by_cases hxy : x = y
        · have GG := Lib.hid (show ∀ j, j < k + 1 → a.getD j [] = b.getD j [] from fun j hj => by
            by_cases e : j = k
            · subst e; rw [← hx, ← hy]; exact hxy
            · exact HG.out j (by omega))
          have IY := Lib.hid (fun i => (IN.out i).mono fun e w' ⟨ht, hd⟩ => (⟨tells_yes ht hxy, hd⟩ : e = Ending.returned (.bool true) ∧ Drew (wr.drewN i) w'))
          generalize x.length = p at *
          generalize y.length = q at *
          clear hx hy hxy l1 l2
          go_wp2_with fail
          go_quiet ((first
            | (with_reducible exact quiet_drew (IY.out _))
            | (with_reducible exact quiet_drew_more (IY.out _))))
          go_wp2_with fail
          go_roundw
          case rel => exact ⟨k + 1, by omega, by go_num, GG.out, HK.out.more _⟩
          case measure => simp [intOf]; omega
        · have NF := Lib.hid (show ¬ a = b from fun e => hxy (by rw [hx, hy, e]))
          have IY := Lib.hid (fun i => (IN.out i).mono fun e w' ⟨ht, hd⟩ => (⟨tells_no ht hxy, hd⟩ : e = Ending.returned (.bool false) ∧ Drew (wr.drewN i) w'))
          generalize x.length = p at *
          generalize y.length = q at *
          clear hx hy hxy l1 l2
          go_wp2_with fail
          go_quiet ((first
            | (with_reducible exact quiet_drew (IY.out _))
            | (with_reducible exact quiet_drew_more (IY.out _))))
          go_wp2_with fail
          go_ret
          exact ⟨.inr ⟨NF.out, rfl⟩, HK.out.more _⟩
      · have YES := Lib.hid (show a = b from rows_same a b (by rw [HN.out, HM.out]) fun j hj => HG.out j (by have := HN.out; omega))
        go_wp2_with fail
        go_ret
        exact ⟨.inl ⟨YES.out, rfl⟩, HK.out⟩
  · have hne : ((n : Int) != (m : Int)) = true := by rw [bne_iff_ne]; omega
    have NF := Lib.hid (show ¬ a = b from fun e => he (by rw [← HN.out, ← HM.out, e]))
    clear he
    go_enter Tryd.func10, Tryd.ntmps10
    go_wp2_with fail
    go_ret
    exact ⟨.inr ⟨NF.out, rfl⟩, Drew.refl _⟩
theorem rows_eq (A B : Option Addr) (a b : List (List Int)) (n m c d : Nat) (w : World) (ha : LiesM w A a) (hb : LiesM w B b) (hn : a.length = n) (hm : b.length = m) (ma : Modest a) (mb : Modest b) (h : a = b) :
    Calls Tryd.prog 10 #[.slice A n c, .slice B m d] w fun e w' => e = .returned (.bool true) ∧ Kp w w' :=
  (rows_any A B a b n m c d w ha hb hn hm ma mb).mono fun e w' ⟨ht, hd⟩ => ⟨tells_yes ht h, hd.kp⟩

theorem cell_just (w : World) (cs : Array Value) (e : TypeId) (g k : Nat) (h : g = w.heap.size) : (w.alloc (.cells cs e)).cell? ⟨g, k, none⟩ = cs[k]? := by
  subst h
  exact cell_of_row _ _ k _ e (0, 0) (heap_alloc_new w _)
/-- What came in: the rows up to the capacity, each with its numbers up to its own; its rows are the first of them. -/
theorem liesM_open {w : World} {a : Addr} {len cap : Nat} {A : Nat → Option Addr} {L C : Nat → Nat} {Z : Nat → List Int} (hl : len ≤ cap)
    (h : ∀ r, r < cap → w.cell? (a.add r) = some (.slice (A r) (L r) (C r)) ∧ L r ≤ C r ∧ C r ≤ maxLen ∧ (Z r).length = C r ∧ (∀ n ∈ Z r, (Lit.int .i64 n).wf = true) ∧ (A r = none → C r = 0) ∧
      ∀ a', A r = some a' → 0 ≤ a'.block ∧ ∀ c, c < C r → w.cell? (a'.add c) = some (.int .i64 ((Z r).getD c 0))) :
    ((List.range len).map fun r => (Z r).take (L r)).length = len ∧ LiesM w (some a) ((List.range len).map fun r => (Z r).take (L r)) := by
  refine ⟨by simp, fun k hk => ?_⟩
  have hk' : k < len := by simpa using hk
  obtain ⟨h1, h2, _, h4, _, h6, h7⟩ := h k (by omega)
  have e : ((List.range len).map fun r => (Z r).take (L r)).getD k [] = (Z k).take (L k) := by simp [hk']
  have el : ((Z k).take (L k)).length = L k := by rw [List.length_take]; omega
  rw [e, el]
  refine ⟨a, A k, C k, rfl, ?_, h1, h2, ?_⟩
  · have := cell_lt h1; rwa [block_add] at this
  · cases hA : A k with
    | none =>
      intro j hj
      have := h6 hA
      rw [el] at hj
      omega
    | some a' => exact (lies_take (w := w) (x := a') h2 h4 (fun i hi => (h7 a' hA).2 i (by omega))).2
/-- Two rows of two, and the heads of both, just laid down. -/
def laid22 (w : World) (x : Nat → Nat → Int) : World :=
  ((w.alloc (.cells #[.int .i64 (x 0 0), .int .i64 (x 0 1)] 3)).alloc (.cells #[.int .i64 (x 1 0), .int .i64 (x 1 1)] 3)).alloc (.cells #[.slice (some ⟨w.heap.size, 0, none⟩) 2 2, .slice (some ⟨w.heap.size + 1, 0, none⟩) 2 2] 22)
theorem laid22_kp (w : World) (x : Nat → Nat → Int) : Kp w (laid22 w x) := (((Kp.rfl' w).new _).new _).new _
theorem laid22_size (w : World) (x : Nat → Nat → Int) : (laid22 w x).heap.size = w.heap.size + 3 := by simp [laid22]
theorem laid22_lies (w : World) (x : Nat → Nat → Int) : LiesM (laid22 w x) (some ⟨w.heap.size + 2, 0, none⟩) (Mx.tab 2 2 x) := by
  have h0 : Lies (w.alloc (.cells #[.int .i64 (x 0 0), .int .i64 (x 0 1)] 3)) (some ⟨w.heap.size, 0, none⟩) (Mx.row 2 (x 0)) := lies_new' w _ [x 0 0, x 0 1] _ rfl
  have h1 : Lies ((w.alloc (.cells #[.int .i64 (x 0 0), .int .i64 (x 0 1)] 3)).alloc (.cells #[.int .i64 (x 1 0), .int .i64 (x 1 1)] 3)) (some ⟨w.heap.size + 1, 0, none⟩) (Mx.row 2 (x 1)) :=
    lies_new' (w.alloc _) _ [x 1 0, x 1 1] _ (by simp)
  have k2 := ((Kp.rfl' (w.alloc (.cells #[.int .i64 (x 0 0), .int .i64 (x 0 1)] 3))).new (.cells #[.int .i64 (x 1 0), .int .i64 (x 1 1)] 3)).new (.cells #[.slice (some ⟨w.heap.size, 0, none⟩) 2 2, .slice (some ⟨w.heap.size + 1, 0, none⟩) 2 2] 22)
  have k3 := (Kp.rfl' ((w.alloc (.cells #[.int .i64 (x 0 0), .int .i64 (x 0 1)] 3)).alloc (.cells #[.int .i64 (x 1 0), .int .i64 (x 1 1)] 3))).new (.cells #[.slice (some ⟨w.heap.size, 0, none⟩) 2 2, .slice (some ⟨w.heap.size + 1, 0, none⟩) 2 2] 22)
  have hs : w.heap.size + 2 < (laid22 w x).heap.size := by rw [laid22_size]; omega
  intro k hk
  rw [Mx.len_tab] at hk
  match k, hk with
  | 0, _ => exact ⟨_, some ⟨w.heap.size, 0, none⟩, 2, rfl, hs, by rw [add_at]; unfold laid22; rw [cell_just _ _ _ _ _ (by simp)]; simp [Mx.tab, Mx.row], by simp [Mx.tab, Mx.row], h0.keep k2⟩
  | 1, _ => exact ⟨_, some ⟨w.heap.size + 1, 0, none⟩, 2, rfl, hs, by rw [add_at]; unfold laid22; rw [cell_just _ _ _ _ _ (by simp)]; simp [Mx.tab, Mx.row], by simp [Mx.tab, Mx.row], h1.keep k3⟩

def n22 (a b c d : Int) : Nat → Nat → Int := fun i j => if i = 0 then (if j = 0 then a else b) else (if j = 0 then c else d)
/-- The same with the numbers and the block as they stand in a walk. -/
abbrev lit22 (w : World) (g : Nat) (a b c d : Int) : World :=
  ((w.alloc (.cells #[.int .i64 a, .int .i64 b] 3)).alloc (.cells #[.int .i64 c, .int .i64 d] 3)).alloc (.cells #[.slice (some ⟨g, 0, none⟩) 2 2, .slice (some ⟨g + 1, 0, none⟩) 2 2] 22)
theorem lit22_lies (w : World) (g : Nat) (a b c d : Int) (h : g = w.heap.size) : LiesM (lit22 w g a b c d) (some ⟨g + 1 + 1, 0, none⟩) (Mx.tab 2 2 (n22 a b c d)) := by
  subst h
  exact laid22_lies w (n22 a b c d)
theorem lit22_kp (w : World) (g : Nat) (a b c d : Int) : Kp w (lit22 w g a b c d) := (((Kp.rfl' w).new _).new _).new _
theorem lit22_size (w : World) (g : Nat) (a b c d : Int) : (lit22 w g a b c d).heap.size = w.heap.size + 1 + 1 + 1 := by simp [lit22]

end Go.Proofs.YtnjhdedhobgplaaDoor

/- Contracts of plain.Told and rankmeresame.Error: of nil and of an Errno. Go's own text of errors.As is walked, by closed facts on the model's entries for internal/reflectlite at this translation's numbers. The one premise: the variable errors.errorType holds its type. -/
namespace Go.Proofs.YtnjhdedhobgplaaDoor.Told
open Go.RowKit Go.Extern.Stop Go.Stop Go.Extern
set_option linter.unusedVariables false

theorem valueOfP (t : Addr) (w : World) : (ReflectliteValue.unpack (.iface 51 (.pointer (some t)))).run Tryd.prog w
    = .ok (.agg #[.pointer (some ⟨1, 51, none⟩), .pointer (some ⟨w.heap.size, 0, none⟩), .int .u64 150]) (w.alloc (.cells #[.pointer (some t)] 51)) := by kernel_rfl
theorem typeP (a : Addr) (w : World) : (ReflectliteValue.methodAny (ReflectliteValue.valueError "reflectlite.Value.Type" 0) (fun t _ _ _ => ReflectliteType.toType t) #[.agg #[.pointer (some ⟨1, 51, none⟩), .pointer (some a), .int .u64 150]]).run Tryd.prog w
    = .ok (.iface 70 (.agg #[.pointer (some ⟨1, 51, none⟩)])) w := by kernel_rfl
theorem methodKind (h : Value) (w : World) : (Go.method 214 70 (.agg #[h]) "Kind").run Tryd.prog w = .ok (56, h) w := by kernel_rfl
theorem kindP (w : World) : ((ReflectliteType.abiMethod fun t => (fun a : Nat => Value.int IntKind.u8 (a : Int)) <$> Rtype.kind t) #[.pointer (some ⟨1, 51, none⟩)]).run Tryd.prog w = .ok (.int .u8 22) w := by kernel_rfl
theorem kindE (w : World) : ((ReflectliteType.abiMethod fun t => (fun a : Nat => Value.int IntKind.u8 (a : Int)) <$> Rtype.kind t) #[.pointer (some ⟨1, 39, none⟩)]).run Tryd.prog w = .ok (.int .u8 2) w := by kernel_rfl
theorem rlm (z : Sem Value) (f : TypeId → Addr → Nat → Nat → Sem Value) (v : Value) :
    ReflectliteValue.method z f #[v] = (do match ← ReflectliteValue.parts v with | none => z | some (t, a, fl) => f t a fl (fl % 32)) := rfl
theorem partsP (a : Addr) (w : World) : (ReflectliteValue.parts (.agg #[.pointer (some ⟨1, 51, none⟩), .pointer (some a), .int .u64 150])).run Tryd.prog w = .ok (some (51, a, 150)) w := by kernel_rfl
theorem isNilP (a p : Addr) (W : World) (ha : W.cell? a = some (.pointer (some p))) :
    (ReflectliteValue.method (ReflectliteValue.valueError "reflectlite.Value.IsNil" 0) ReflectliteValue.isNil #[.agg #[.pointer (some ⟨1, 51, none⟩), .pointer (some a), .int .u64 150]]).run Tryd.prog W = .ok (.bool false) W := by
  rw [rlm]
  simp only [Sem.run_bind, partsP, Result.andThen]
  simp [ReflectliteValue.isNil, loadVar, isAgg, underlying, Tryd.underlying51, ha, Result.andThen]
theorem methodElem (h : Value) (w : World) : (Go.method 214 70 (.agg #[h]) "Elem").run Tryd.prog w = .ok (66, .agg #[h]) w := by kernel_rfl
theorem methodImplements (h : Value) (w : World) : (Go.method 214 70 (.agg #[h]) "Implements").run Tryd.prog w = .ok (67, .agg #[h]) w := by kernel_rfl
theorem methodAssignableTo (h : Value) (w : World) : (Go.method 214 70 (.agg #[h]) "AssignableTo").run Tryd.prog w = .ok (64, .agg #[h]) w := by kernel_rfl
theorem elemP (w : World) : (ReflectliteType.method ReflectliteType.elem #[.agg #[.pointer (some ⟨1, 51, none⟩)]]).run Tryd.prog w = .ok (.iface 70 (.agg #[.pointer (some ⟨1, 39, none⟩)])) w := by kernel_rfl
theorem implementsE (w : World) : (ReflectliteType.relation "Implements" ReflectliteType.implements_ #[.agg #[.pointer (some ⟨1, 39, none⟩)], .iface 70 (.agg #[.pointer (some ⟨1, 26, none⟩)])]).run Tryd.prog w = .ok (.bool true) w := by kernel_rfl
theorem typeOfE (v : Value) (w : World) : (ReflectliteType.typeOf #[.iface 39 v]).run Tryd.prog w = .ok (.iface 70 (.agg #[.pointer (some ⟨1, 39, none⟩)])) w := by kernel_rfl
theorem assignableE (w : World) : (ReflectliteType.relation "AssignableTo" ReflectliteType.assignableTo #[.agg #[.pointer (some ⟨1, 39, none⟩)], .iface 70 (.agg #[.pointer (some ⟨1, 39, none⟩)])]).run Tryd.prog w = .ok (.bool true) w := by kernel_rfl
theorem valueOfE (n : Int) (w : World) : (ReflectliteValue.unpack (.iface 39 (.int .i64 n))).run Tryd.prog w
    = .ok (.agg #[.pointer (some ⟨1, 39, none⟩), .pointer (some ⟨w.heap.size, 0, none⟩), .int .u64 130]) (w.alloc (.cells #[.int .i64 n] 39)) := by kernel_rfl
theorem elemOfP (w : World) : (Rtype.elem? 51).run Tryd.prog w = .ok (some 39) w := by kernel_rfl
theorem mkE (p : Addr) (w : World) : (ReflectliteValue.mk 39 p ReflectliteValue.flagAddr).run Tryd.prog w = .ok (.agg #[.pointer (some ⟨1, 39, none⟩), .pointer (some p), .int .u64 386]) w := by kernel_rfl
theorem elemVP (a p : Addr) (W : World) (ha : W.cell? a = some (.pointer (some p))) :
    (ReflectliteValue.method (ReflectliteValue.valueError "reflectlite.Value.Elem" 0) ReflectliteValue.elem #[.agg #[.pointer (some ⟨1, 51, none⟩), .pointer (some a), .int .u64 150]]).run Tryd.prog W
      = .ok (.agg #[.pointer (some ⟨1, 39, none⟩), .pointer (some p), .int .u64 386]) W := by
  rw [rlm]
  simp only [Sem.run_bind, partsP, Result.andThen]
  simp [ReflectliteValue.elem, loadVar, isAgg, underlying, Tryd.underlying51, ha, Result.andThen, elemOfP, mkE]
theorem rls (v x : Value) : ReflectliteValue.set #[v, x] = (do
    let (some (dst, a, fl), some (src, b, _)) := (← ReflectliteValue.parts v, ← ReflectliteValue.parts x)
      | unsupported (.noEntry "extern/(internal/reflectlite.Value).Set.zeroValue")
    if fl / ReflectliteValue.flagAddr % 2 == 0 then unsupported (.noEntry "extern/(internal/reflectlite.Value).Set.unaddressable")
    let val ← loadVar src b
    if ← Rtype.directlyAssignable dst src then storeVar dst a val
    else if ← Rtype.implements dst src then
      if (← Rtype.kind src) == 20 then
        match val with
        | .nilIface => unsupported (.noEntry "extern/reflectlite: a nil value of one interface type handed on as a value of another")
        | _ => storeVar dst a val
      else storeVar dst a (.iface src val)
    else panicString ("reflectlite.Set: value of type " ++ (← Rtype.spelt src) ++ " is not assignable to type " ++ (← Rtype.spelt dst))
    pure (.tuple #[])) := rfl
theorem partsEa (a : Addr) (w : World) : (ReflectliteValue.parts (.agg #[.pointer (some ⟨1, 39, none⟩), .pointer (some a), .int .u64 386])).run Tryd.prog w = .ok (some (39, a, 386)) w := by kernel_rfl
theorem partsE (a : Addr) (w : World) : (ReflectliteValue.parts (.agg #[.pointer (some ⟨1, 39, none⟩), .pointer (some a), .int .u64 130])).run Tryd.prog w = .ok (some (39, a, 130)) w := by kernel_rfl
theorem directE (w : World) : (Rtype.directlyAssignable 39 39).run Tryd.prog w = .ok true w := by kernel_rfl
theorem setE (ta b : Addr) (n : Int) (old : Value) (W : World) (hb : W.cell? b = some (.int .i64 n)) (ht : W.cell? ta = some old) (hf : W.frozen? ta = false) :
    (ReflectliteValue.set #[.agg #[.pointer (some ⟨1, 39, none⟩), .pointer (some ta), .int .u64 386], .agg #[.pointer (some ⟨1, 39, none⟩), .pointer (some b), .int .u64 130]]).run Tryd.prog W
      = .ok (.tuple #[]) (W.setCell ta (.int .i64 n)) := by
  rw [rls]
  simp only [Sem.run_bind, partsEa, partsE, Result.andThen]
  simp [ReflectliteValue.flagAddr, loadVar, isAgg, underlying, Tryd.underlying39, hb, Result.andThen, directE, storeVar, Value.cells, storeCells, Addr.add]
  rw [run_store Tryd.prog W ta _ _ (by rfl)]
  simp [ht, hf]

/-- The variable errors.errorType holds its type. -/
abbrev Laid (w : World) : Prop := w.cell? ⟨0, 0, none⟩ = some (.iface 70 (.agg #[.pointer (some ⟨1, 26, none⟩)]))

theorem laid_lt {w : World} (h : Laid w) : 0 < w.heap.size := by
  have h1 : w.cell? ⟨0, 0, none⟩ = some (.iface 70 (.agg #[.pointer (some ⟨1, 26, none⟩)])) := h
  rcases Nat.lt_or_ge 0 w.heap.size with h' | h'
  · exact h'
  · have e : w.heap[0]? = none := Array.getElem?_eq_none h'
    simp [World.cell?, e] at h1

set_option maxHeartbeats 4000000 in
theorem as_hit (n : Int) (t : Addr) (old : Value) (w : World) (hg : Laid w) (ht0 : w.cell? t = some old) (hf0 : w.frozen? t = false) :
    Calls Tryd.prog 26 #[.iface 39 (.int .i64 n), .iface 51 (.pointer (some t))] w fun ev w' => ev = .returned (.bool true) ∧ w' = ((((w.alloc (.cells #[.pointer (some t)] 51)).alloc (.cells #[.pointer (some ⟨1, 51, none⟩), .pointer (some ⟨w.heap.size, 0, none⟩), .int .u64 150] 59)).alloc (.cells #[.pointer (some ⟨1, 51, none⟩), .pointer (some ⟨w.heap.size, 0, none⟩), .int .u64 150] 59)).alloc (.cells #[.int .i64 n] 39)).setCell t (.int .i64 n) := by
  have h6 := @run_callFunc_extern Tryd.prog 33 _ (fun args => ReflectliteValue.unpack (args.getD 0 (.tuple #[]))) Tryd.func33 (by kernel_rfl) (by kernel_rfl) (by kernel_rfl) (by kernel_rfl)
  have h7 := @run_callFunc_extern Tryd.prog 34 _ (ReflectliteValue.methodAny (ReflectliteValue.valueError "reflectlite.Value.Type" 0) (fun t _ _ _ => ReflectliteType.toType t)) Tryd.func34 (by kernel_rfl) (by kernel_rfl) (by kernel_rfl) (by kernel_rfl)
  have h8 := @run_callFunc_extern Tryd.prog 35 _ (ReflectliteValue.method (ReflectliteValue.valueError "reflectlite.Value.IsNil" 0) ReflectliteValue.isNil) Tryd.func35 (by kernel_rfl) (by kernel_rfl) (by kernel_rfl) (by kernel_rfl)
  have h27 := @run_callFunc_extern Tryd.prog 56 _ (ReflectliteType.abiMethod fun t => do pure (.int .u8 (← Rtype.kind t))) Tryd.func56 (by kernel_rfl) (by kernel_rfl) (by kernel_rfl) (by kernel_rfl)
  have h37 := @run_callFunc_extern Tryd.prog 66 _ (ReflectliteType.method ReflectliteType.elem) Tryd.func66 (by kernel_rfl) (by kernel_rfl) (by kernel_rfl) (by kernel_rfl)
  have h38 := @run_callFunc_extern Tryd.prog 67 _ (ReflectliteType.relation "Implements" ReflectliteType.implements_) Tryd.func67 (by kernel_rfl) (by kernel_rfl) (by kernel_rfl) (by kernel_rfl)
  have h10 := @run_callFunc_extern Tryd.prog 38 _ ReflectliteType.typeOf Tryd.func38 (by kernel_rfl) (by kernel_rfl) (by kernel_rfl) (by kernel_rfl)
  have h35 := @run_callFunc_extern Tryd.prog 64 _ (ReflectliteType.relation "AssignableTo" ReflectliteType.assignableTo) Tryd.func64 (by kernel_rfl) (by kernel_rfl) (by kernel_rfl) (by kernel_rfl)
  have h11 := @run_callFunc_extern Tryd.prog 39 _ (ReflectliteValue.method (ReflectliteValue.valueError "reflectlite.Value.Elem" 0) ReflectliteValue.elem) Tryd.func39 (by kernel_rfl) (by kernel_rfl) (by kernel_rfl) (by kernel_rfl)
  have h12 := @run_callFunc_extern Tryd.prog 40 _ ReflectliteValue.set Tryd.func40 (by kernel_rfl) (by kernel_rfl) (by kernel_rfl) (by kernel_rfl)
  have tO := typeOfE
  have mA := methodAssignableTo
  have a25 := assignableE
  have v25 := valueOfE
  have f6 := valueOfP
  have f7 := typeP
  have mK := methodKind
  have mE := methodElem
  have mI := methodImplements
  have k27 := kindP
  have k25 := kindE
  have e27 := elemP
  have i25 := implementsE
  have n8 := isNilP ⟨w.heap.size, 0, none⟩ t ((w.alloc (.cells #[.pointer (some t)] 51)).alloc (.cells #[.pointer (some ⟨1, 51, none⟩), .pointer (some ⟨w.heap.size, 0, none⟩), .int .u64 150] 59)) (by simp)
  have hlt : 0 < w.heap.size := laid_lt hg
  have hg2 : ((w.alloc (.cells #[.pointer (some t)] 51)).alloc (.cells #[.pointer (some ⟨1, 51, none⟩), .pointer (some ⟨w.heap.size, 0, none⟩), .int .u64 150] 59)).cell? ⟨0, 0, none⟩ = some (.iface 70 (.agg #[.pointer (some ⟨1, 26, none⟩)])) := by
    rw [World.cell?_alloc_lt _ _ ⟨0, 0, none⟩ (by show 0 < (w.heap.push _).size; rw [Array.size_push]; omega), World.cell?_alloc_lt _ _ ⟨0, 0, none⟩ hlt]; exact hg
  have htl : t.block < w.heap.size := by
    rcases Nat.lt_or_ge t.block w.heap.size with h | h
    · exact h
    · simp [World.cell?, Array.getElem?_eq_none h] at ht0
  have el := elemVP ⟨w.heap.size, 0, none⟩ t (((w.alloc (.cells #[.pointer (some t)] 51)).alloc (.cells #[.pointer (some ⟨1, 51, none⟩), .pointer (some ⟨w.heap.size, 0, none⟩), .int .u64 150] 59)).alloc (.cells #[.pointer (some ⟨1, 51, none⟩), .pointer (some ⟨w.heap.size, 0, none⟩), .int .u64 150] 59)) (by rw [World.cell?_alloc_lt _ _ ⟨w.heap.size, 0, none⟩ (by simp; omega)]; simp)
  have st := setE t ⟨w.heap.size + 1 + 1 + 1, 0, none⟩ n old ((((w.alloc (.cells #[.pointer (some t)] 51)).alloc (.cells #[.pointer (some ⟨1, 51, none⟩), .pointer (some ⟨w.heap.size, 0, none⟩), .int .u64 150] 59)).alloc (.cells #[.pointer (some ⟨1, 51, none⟩), .pointer (some ⟨w.heap.size, 0, none⟩), .int .u64 150] 59)).alloc (.cells #[.int .i64 n] 39))
    (by rw [World.cell?_alloc_at _ _ _ _ (by simp)]; rfl)
    (by rw [World.cell?_alloc_lt _ _ t (by simp; omega), World.cell?_alloc_lt _ _ t (by simp; omega), World.cell?_alloc_lt _ _ t (by simp; omega), World.cell?_alloc_lt _ _ t htl]; exact ht0)
    (by rw [World.frozen?_alloc_old _ _ t (by simp; omega), World.frozen?_alloc_old _ _ t (by simp; omega), World.frozen?_alloc_old _ _ t (by simp; omega), World.frozen?_alloc_old _ _ t (Nat.ne_of_lt htl)]; exact hf0)
  go_enter Tryd.func26, Tryd.ntmps26
  go_wp2
  refine wp_loop_rounds 1 ?_
  rw [rounds_succ]
  go_wp2
  go_ret
  exact ⟨rfl, rfl⟩

end Go.Proofs.YtnjhdedhobgplaaDoor.Told

/- Contracts of plain.Told and rankmeresame.Error: of nil and of an Errno; nothing that was there turns. The one premise: the variable errors.errorType holds its type. -/
namespace Go.Proofs.YtnjhdedhobgplaaDoor
open Go.RowKit Go.Proofs.YtnjhdedhobgplaaDoor.Told
set_option linter.unusedVariables false

theorem laid_kp {w w' : World} (h : Laid w) (hg : Kp w w') : Laid w' :=
  (hg.cell (p := ⟨0, 0, none⟩) (laid_lt h)).trans h

theorem toldK_nil (w : World) :
    Calls Tryd.prog 14 #[.nilIface] w fun e w' => e = .returned (.int .i64 0) ∧ w = w' := by
  go_enter Tryd.func14, Tryd.ntmps14
  go_wp2
  go_ret
  exact ⟨rfl, rfl⟩

set_option maxHeartbeats 4000000 in
theorem toldK_hit (n : Int) (w : World) (hg : Laid w) :
    Calls Tryd.prog 14 #[.iface 39 (.int .i64 n)] w fun e w' => e = .returned (.int .i64 n) ∧ Kp w w' := by
  have hgA := Lib.hid (laid_kp hg ((Kp.rfl' w).new (.cells #[.int .i64 0] 39)))
  clear hg
  go_enter Tryd.func14, Tryd.ntmps14
  go_wp2_with (go_at_call 26; refine (as_hit n _ (.int .i64 0) _ hgA.out (by simp) (by simp)).mono ?_; rintro e w' ⟨rfl, rfl⟩)
  go_ret
  exact ⟨rfl, ((((((Kp.rfl' w).new _).new _).new _).new _).new _)⟩

/-- rankmeresame.Error on no error. -/
theorem errorK_nil (c : Int) (w : World) (b : Bool) (hb : ((0 : Int) == c) = b) :
    Calls Tryd.prog 5 #[.nilIface, .int .i64 c] w fun e w' => e = .returned (.bool b) ∧ Kp w w' := by
  have H := Lib.hid hb
  clear hb
  go_enter Tryd.func5, Tryd.ntmps5
  go_wp2_with (go_at_call 14; refine (toldK_nil _).mono ?_; rintro e w' ⟨rfl, rfl⟩)
  go_ret
  exact ⟨congrArg (fun b => Ending.returned (.bool b)) H.out, Kp.rfl' _⟩

/-- rankmeresame.Error on an Errno. -/
theorem errorK_hit (n c : Int) (w : World) (hg : Laid w) (hn : 0 ≤ n ∧ n ≤ 100) (b : Bool) (hb : (n == c) = b) :
    Calls Tryd.prog 5 #[.iface 39 (.int .i64 n), .int .i64 c] w fun e w' => e = .returned (.bool b) ∧ Kp w w' := by
  have H := Lib.hid hb
  have HG := Lib.hid hg
  clear hb hg
  go_enter Tryd.func5, Tryd.ntmps5
  go_wp2_with (go_at_call 14; refine (toldK_hit _ _ HG.out).mono ?_; rintro e w' ⟨rfl, hw⟩)
  go_ret
  exact ⟨congrArg (fun b => Ending.returned (.bool b)) H.out, hw⟩

end Go.Proofs.YtnjhdedhobgplaaDoor

/- rankmeresame.Error at the errors by number. -/
namespace Go.Proofs.YtnjhdedhobgplaaDoor
open Go.ChangeShapes Go.WideShapes Go.ChangeAt Go.RowKit
set_option linter.unusedVariables false

/-- Error says yes to the error that is told. -/
theorem error_says (c : Nat) (w : World) (hl : Told.Laid w) (hc : c ≤ 100) :
    Calls Tryd.prog 5 #[errOf c, .int .i64 (c : Int)] w fun e w' => e = .returned (.bool true) ∧ Kp w w' := by
  by_cases h : c = 0
  · subst h; exact errorK_nil 0 w true rfl
  · rw [errOf_ne c h]
    exact errorK_hit c c w hl (by omega) true (by simp)

end Go.Proofs.YtnjhdedhobgplaaDoor

/- The law ResultSays. -/
namespace Go.Proofs.YtnjhdedhobgplaaDoor
open Go.ChangeShapes Go.WideShapes Go.ChangeAt Go.RowKit
set_option linter.unusedVariables false

set_option maxRecDepth 100000 in
set_option maxHeartbeats 6400000 in
theorem ressays_bad (A B : Option Addr) (L M : List Int) (c d : Nat) (w : World) (hl : Told.Laid w) (ha : Lies w A L) (hb : Lies w B M) (bL : L.length ≤ 9223372036854775807) (bM : M.length ≤ 9223372036854775807) (h : recd L M ≠ 0) :
    Calls Tryd.prog 3 #[.slice A L.length c, .slice B M.length d] w fun e w' => e = .returned (.bool true) ∧ Kp w w' := by
  have HL := Lib.hid hl
  have SQ := Lib.hid (rTwo_any A B L M c d w ha hb bL bM)
  have CK := Lib.hid (reChk_any A B L M c d w ha hb bL bM)
  have FU := Lib.hid (fun w' (k : Kp w w') => ReFull_bad A B L M c d w' (ha.keep k) (hb.keep k) bL bM h)
  have DE := Lib.hid (fun w' (k : Kp w w') => ReOf_bad A B L M c d w' (ha.keep k) (hb.keep k) bL bM h)
  have hz := recd_some L M
  have ERR := Lib.hid (fun (wx : World) (hx : Kp w wx) => error_says (recd L M) wx (laid_kp HL.out hx) (by omega))
  have RWN := Lib.hid (fun (wx : World) => show Calls Tryd.prog 10 #[.slice none 0 0, .slice none 0 0] wx fun e w' => e = .returned (.bool true) ∧ Kp wx w' from
    rows_eq none none [] [] 0 0 0 0 wx (LiesM.empty _ _) (LiesM.empty _ _) rfl rfl modest_nil modest_nil rfl)
  rw [errOf_ne _ h] at CK FU DE ERR
  have e1 : ((recd L M : Int) == 0) = false := by rw [beq_eq_false_iff_ne]; omega
  generalize recd L M = z at *
  generalize L.length = n1 at *
  generalize M.length = m1 at *
  clear ha hb hl h hz
  go_enter Tryd.func3, Tryd.ntmps3
  go_wp2_with fail
  refine (SQ.out).mono ?_; rintro e w1 ⟨rfl, rfl⟩
  go_wp2_with fail
  refine (CK.out).mono ?_; rintro e w1 ⟨rfl, rfl⟩
  go_wp2_with fail
  refine (ERR.out _ (Kp.rfl' _)).mono ?_; rintro e w1 ⟨rfl, k1⟩
  have K := Lib.hid k1
  clear k1 CK SQ
  go_wp2_with fail
  refine (FU.out _ K.out).mono ?_; rintro e w2 ⟨rfl, rfl⟩
  go_wp2_with fail
  refine (ERR.out _ K.out).mono ?_; rintro e w3 ⟨rfl, k3⟩
  replace K := Lib.hid (K.out.trans k3); clear k3
  go_wp2_with fail
  refine (RWN.out _).mono ?_; rintro e w4 ⟨rfl, k4⟩
  replace K := Lib.hid (K.out.trans k4); clear k4
  go_wp2_with fail
  refine (DE.out _ K.out).mono ?_; rintro e w5 ⟨rfl, rfl⟩
  go_wp2_with fail
  refine (ERR.out _ K.out).mono ?_; rintro e w6 ⟨rfl, k6⟩
  replace K := Lib.hid (K.out.trans k6); clear k6
  go_wp2_with fail
  go_ret
  exact ⟨rfl, K.out⟩

set_option maxRecDepth 100000 in
set_option maxHeartbeats 6400000 in
theorem ressays_good {p q : List Fp.F} {L M : List Int} (s : Re p q L M) (A B : Option Addr) (c d0 : Nat) (w : World) (hl : Told.Laid w) (ha : Lies w A L) (hb : Lies w B M) :
    Calls Tryd.prog 3 #[.slice A p.length c, .slice B q.length d0] w fun e w' => e = .returned (.bool true) ∧ Kp w w' := by
  have HL := Lib.hid hl
  have p0 := s.p0
  have q0 := s.q0
  have lo := s.lo
  have hi := s.hi
  have SQ := rTwo_any A B L M c d0 w ha hb (by rw [s.lenL]; omega) (by rw [s.lenM]; omega)
  rw [s.code, s.lenL, s.lenM] at SQ
  have SQ := Lib.hid SQ
  have CK := Lib.hid (reChk_good s A B c d0 w ha hb)
  have RV := Lib.hid (fun w' (k : Kp w w') => rSyl_any A B p q p.length q.length c d0 w' (by have h := ha.keep k; rw [s.l] at h; exact h) (by have h := hb.keep k; rw [s.m] at h; exact h) rfl rfl p0 q0 lo hi)
  unfold Made at RV
  obtain ⟨N, hN⟩ : ∃ N, N = p.length - 1 + (q.length - 1) := ⟨_, rfl⟩
  have N5 : N ≤ 5 := by omega
  have FU := Lib.hid (fun w' (k : Kp w w') => ReFull_ok s A B c d0 w' (ha.keep k) (hb.keep k))
  unfold MadeM at FU
  have DE := Lib.hid (fun w' (k : Kp w w') => ReOf_ok s A B c d0 w' (ha.keep k) (hb.keep k))
  unfold Mx.res at DE
  rw [← hN] at RV FU DE
  generalize Mx.smx p q = F at *
  have RD := Lib.hid (fun (M : Option Addr) (d : Nat) (w' : World) (h : LiesM w' M (Mx.matl N N F)) => rDetMod_any N (by omega) M F d w' h)
  have ERR0 := Lib.hid (fun (wx : World) (hx : Kp w wx) => show Calls Tryd.prog 5 #[.nilIface, .int .i64 0] wx fun e w' => e = .returned (.bool true) ∧ Kp wx w' from error_says 0 wx (laid_kp HL.out hx) (by decide))
  have RWE := Lib.hid (fun (wx : World) (A' B' : Option Addr) (c' d' : Nat) (h1 : LiesM wx A' (Mx.matl N N F)) (h2 : LiesM wx B' (Mx.matl N N F)) => rows_eq A' B' (Mx.matl N N F) (Mx.matl N N F) N N c' d' wx h1 h2 (Mx.len_matl _ _ _) (Mx.len_matl _ _ _) (modest_tab _ (by omega) (by omega)) (modest_tab _ (by omega) (by omega)) rfl)
  generalize Mx.dt N F = dd at *
  generalize p.length = n at *
  generalize q.length = m at *
  clear ha hb hl s p0 q0 lo hi hN
  have e1 : ((dd.val : Int) == (dd.val : Int)) = true := by simp
  go_enter Tryd.func3, Tryd.ntmps3
  go_wp2_with fail
  refine (SQ.out).mono ?_; rintro e w1 ⟨rfl, rfl⟩
  go_wp2_with fail
  refine (CK.out).mono ?_; rintro e w1 ⟨rfl, rfl⟩
  go_wp2_with fail
  refine (ERR0.out _ (Kp.rfl' _)).mono ?_; rintro e w1 ⟨rfl, k1⟩
  have K := Lib.hid k1
  clear k1 CK SQ
  go_wp2_with fail
  refine (RV.out _ K.out).mono ?_; rintro e w2 ⟨M, d, rfl, lm, k2⟩
  replace K := Lib.hid (K.out.trans k2)
  have LM := Lib.hid lm
  clear k2 lm
  go_wp2_with fail
  refine (RD.out M d _ LM.out).mono ?_; rintro e w3 ⟨rfl, k3⟩
  replace K := Lib.hid (K.out.trans k3)
  replace LM := Lib.hid (LM.out.keep k3)
  clear k3
  go_wp2_with fail
  refine (FU.out _ K.out).mono ?_; rintro e w4 ⟨M', d', rfl, _, lm', k4⟩
  replace K := Lib.hid (K.out.trans k4)
  replace LM := Lib.hid (LM.out.keep k4)
  have LN := Lib.hid lm'
  clear k4 lm'
  go_wp2_with fail
  refine (ERR0.out _ K.out).mono ?_; rintro e w5 ⟨rfl, k5⟩
  replace K := Lib.hid (K.out.trans k5)
  replace LM := Lib.hid (LM.out.keep k5)
  replace LN := Lib.hid (LN.out.keep k5)
  clear k5
  go_wp2_with fail
  refine (RWE.out _ M' M d' d LN.out LM.out).mono ?_; rintro e w6 ⟨rfl, k6⟩
  replace K := Lib.hid (K.out.trans k6); clear k6
  go_wp2_with fail
  refine (DE.out _ K.out).mono ?_; rintro e w7 ⟨rfl, k7⟩
  replace K := Lib.hid (K.out.trans k7); clear k7
  go_wp2_with fail
  refine (ERR0.out _ K.out).mono ?_; rintro e w8 ⟨rfl, k8⟩
  replace K := Lib.hid (K.out.trans k8); clear k8
  go_wp2_with fail
  go_ret
  exact ⟨rfl, K.out⟩

theorem walk_ResultSays (A : Option Addr) (L : List Int) (c : Nat) (B : Option Addr) (M : List Int) (d : Nat) (w : World) (hl : Told.Laid w) (ha : Lies w A L) (lc : L.length ≤ c) (bL : L.length ≤ 9223372036854775807) (hb : Lies w B M) (ld : M.length ≤ d) (bM : M.length ≤ 9223372036854775807) :
    Calls Tryd.prog 3 #[.slice A L.length c, .slice B M.length d] w fun e w' => e = .returned (.bool true) ∧ Kp w w' := by
  rcases re_or L M with ⟨p, q, s⟩ | h
  · rw [s.lenL, s.lenM]
    exact ressays_good s A B c d w hl ha hb
  · exact ressays_bad A B L M c d w hl ha hb bL bM h

end Go.Proofs.YtnjhdedhobgplaaDoor
