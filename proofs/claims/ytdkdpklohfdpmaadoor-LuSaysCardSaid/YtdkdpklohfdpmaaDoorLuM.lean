/- What stands in memory while package lu eliminates: a block of lines of three cells each, and two rows of numbers to each line. -/
import Derived.Test.YtdkdpklohfdpmaaDoorMatU
import Derived.Test.YtdkdpklohfdpmaaDoorOwnH
import Derived.Test.YtdkdpklohfdpmaaDoorFld
namespace Go.Proofs.YtdkdpklohfdpmaaDoor
open Go.ChangeShapes Go.WideShapes Go.ChangeAt Go.RowKit
set_option linter.unusedVariables false

/-- Block g holds n lines of three cells each, nothing else. -/
def Lns (w : World) (g n : Nat) (T : Nat → Value × Value × Value) : Prop :=
  ∃ cur, w.heap[g]? = some (.cells cur 43 (0, 0)) ∧ cur.size = n * 3 ∧ ∀ i, i < n → cur[i * 3]? = some (T i).1 ∧ cur[i * 3 + 1]? = some (T i).2.1 ∧ cur[i * 3 + 2]? = some (T i).2.2
/-- Three cells, one behind the other, are written. -/
def st3 (w : World) (g o : Nat) (x y z : Value) : World := ((w.setCell ⟨g, o, none⟩ x).setCell ⟨g, o + 1, none⟩ y).setCell ⟨g, o + 2, none⟩ z
theorem Lns.cell0 {w : World} {g n : Nat} {T : Nat → Value × Value × Value} (h : Lns w g n T) {i : Nat} (hi : i < n) : w.cell? ⟨g, i * 3, none⟩ = some (T i).1 := by
  obtain ⟨cur, hh, _, hc⟩ := h
  rw [cell_of_row _ _ _ _ _ (0, 0) hh]; exact (hc i hi).1
theorem Lns.cell1 {w : World} {g n : Nat} {T : Nat → Value × Value × Value} (h : Lns w g n T) {i : Nat} (hi : i < n) : w.cell? ⟨g, i * 3 + 1, none⟩ = some (T i).2.1 := by
  obtain ⟨cur, hh, _, hc⟩ := h
  rw [cell_of_row _ _ _ _ _ (0, 0) hh]; exact (hc i hi).2.1
theorem Lns.cell2 {w : World} {g n : Nat} {T : Nat → Value × Value × Value} (h : Lns w g n T) {i : Nat} (hi : i < n) : w.cell? ⟨g, i * 3 + 2, none⟩ = some (T i).2.2 := by
  obtain ⟨cur, hh, _, hc⟩ := h
  rw [cell_of_row _ _ _ _ _ (0, 0) hh]; exact (hc i hi).2.2
theorem Lns.free {w : World} {g n : Nat} {T : Nat → Value × Value × Value} (h : Lns w g n T) (q : Nat) : w.frozen? ⟨g, q, none⟩ = false := by
  obtain ⟨cur, hh, _⟩ := h
  exact frozen_of_row w g q _ _ hh
/-- Whatever is written into it, its cells are there. -/
theorem Lns.has {w : World} {g n : Nat} {T : Nat → Value × Value × Value} (h : Lns w g n T) {q : Nat} (hq : q < n * 3) : ∃ v, w.cell? ⟨g, q, none⟩ = some v := by
  obtain ⟨cur, hh, hs, _⟩ := h
  refine ⟨cur[q]'(by omega), ?_⟩
  rw [cell_of_row _ _ _ _ _ (0, 0) hh]; simp
theorem Lns.lt {w : World} {g n : Nat} {T : Nat → Value × Value × Value} (h : Lns w g n T) : g < w.heap.size := by
  obtain ⟨cur, hh, _⟩ := h
  rcases Nat.lt_or_ge g w.heap.size with h' | h'
  · exact h'
  · rw [Array.getElem?_eq_none h'] at hh; cases hh
theorem Lns.block {w w' : World} {g n : Nat} {T : Nat → Value × Value × Value} (h : Lns w g n T) (hb : w'.heap[g]? = w.heap[g]?) : Lns w' g n T := by
  unfold Lns at h ⊢
  rw [hb]; exact h
theorem Lns.keep {w w' : World} {g n : Nat} {T : Nat → Value × Value × Value} (h : Lns w g n T) (hk : Kp w w') : Lns w' g n T := h.block (hk.block g h.lt)
theorem Lns.ext {w : World} {g n : Nat} {T T' : Nat → Value × Value × Value} (h : Lns w g n T) (e : ∀ i, i < n → T i = T' i) : Lns w g n T' := by
  obtain ⟨cur, hh, hs, hc⟩ := h
  exact ⟨cur, hh, hs, fun i hi => by rw [← e i hi]; exact hc i hi⟩
theorem Lns.put {w : World} {g n : Nat} {T : Nat → Value × Value × Value} (h : Lns w g n T) {k : Nat} (hk : k < n) (x y z : Value) : Lns (st3 w g (k * 3) x y z) g n (fun i => if i = k then (x, y, z) else T i) := by
  obtain ⟨cur, hh, hs, hc⟩ := h
  have h1 := heap_setCell_same w g (k * 3) _ _ x hh
  have h2 := heap_setCell_same _ g (k * 3 + 1) _ _ y h1
  have h3 := heap_setCell_same _ g (k * 3 + 2) _ _ z h2
  refine ⟨_, h3, by simp [hs], fun i hi => ?_⟩
  have hsz : k * 3 < cur.size ∧ k * 3 + 1 < cur.size ∧ k * 3 + 2 < cur.size := by omega
  simp only [Array.getElem?_setIfInBounds, Array.size_setIfInBounds, hsz.1, hsz.2.1, hsz.2.2, if_true]
  by_cases e : i = k
  · subst e
    refine ⟨?_, ?_, ?_⟩
    · rw [if_neg (by omega), if_neg (by omega), if_pos rfl, if_pos rfl]
    · rw [if_neg (by omega), if_pos rfl, if_pos rfl]
    · rw [if_pos rfl, if_pos rfl]
  · rw [if_neg e]
    refine ⟨?_, ?_, ?_⟩
    · rw [if_neg (by omega), if_neg (by omega), if_neg (by omega)]; exact (hc i hi).1
    · rw [if_neg (by omega), if_neg (by omega), if_neg (by omega)]; exact (hc i hi).2.1
    · rw [if_neg (by omega), if_neg (by omega), if_neg (by omega)]; exact (hc i hi).2.2
/-- What such stores leave alone. -/
theorem st3_other (w : World) (g o : Nat) (x y z : Value) {b : Nat} (hb : b ≠ g) : (st3 w g o x y z).heap[b]? = w.heap[b]? := by
  unfold st3
  rw [heap_setCell_other _ _ b _ hb, heap_setCell_other _ _ b _ hb, heap_setCell_other _ _ b _ hb]
theorem st3_kp {a w : World} (h : Kp a w) {g : Nat} (hg : a.heap.size ≤ g) (o : Nat) (x y z : Value) : Kp a (st3 w g o x y z) := ((h.put (p := ⟨g, o, none⟩) hg x).put (p := ⟨g, o + 1, none⟩) hg y).put (p := ⟨g, o + 2, none⟩) hg z
/-- Lines just made. -/
theorem lns_made {w : World} {B g n : Nat} (h : w.ownsRow B 43 3 (.slice (some ⟨g, 0, none⟩) n n) n (madeCells (Value.agg #[.int .i64 0, .slice none 0 0, .slice none 0 0]).cells (n * 3)).toList) :
    Lns w g n fun _ => (.int .i64 0, .slice none 0 0, .slice none 0 0) := by
  rcases h.2 with ⟨e, _⟩ | ⟨g', cap, cur, hv, hg, hh, hc, hm, hs, ht⟩
  · cases e
  · cases hv
    refine ⟨cur, hh, hs, fun i hi => ?_⟩
    have e : cur = madeCells (Value.agg #[.int .i64 0, .slice none 0 0, .slice none 0 0]).cells (n * 3) := by
      apply Array.toList_inj.1
      rw [← ht, List.take_of_length_le (by simp [hs])]
    rw [e]
    have h0 : i * 3 % 3 = 0 := by omega
    have h1 : (i * 3 + 1) % 3 = 1 := by omega
    have h2 : (i * 3 + 2) % 3 = 2 := by omega
    have l0 : i * 3 < n * 3 := by omega
    have l1 : i * 3 + 1 < n * 3 := by omega
    have l2 : i * 3 + 2 < n * 3 := by omega
    refine ⟨?_, ?_, ?_⟩ <;> simp [madeCells, Value.cells, h0, h1, h2, l0, l1, l2]

/-- A line as three values. -/
def lnv (n s a c b d : Nat) : Value × Value × Value := (.int .i64 (s : Int), .slice (some ⟨a, 0, none⟩) n c, .slice (some ⟨b, 0, none⟩) n d)
/-- The lines of an elimination: the factors of line i in block L i, what is left of it in block U i. -/
structure Lin (w : World) (B g n : Nat) (s : Nat → Nat) (L C U D : Nat → Nat) (l u : Nat → Nat → Int) : Prop where
  hB : B ≤ g
  top : Lns w g n fun i => lnv n (s i) (L i) (C i) (U i) (D i)
  low : ∀ i, i < n → Own w B (.slice (some ⟨L i, 0, none⟩) n (C i)) (Mx.row n (l i))
  up : ∀ i, i < n → Own w B (.slice (some ⟨U i, 0, none⟩) n (D i)) (Mx.row n (u i))
  la : ∀ i j, i < n → j < n → i ≠ j → L i ≠ L j
  ua : ∀ i j, i < n → j < n → i ≠ j → U i ≠ U j
  lu : ∀ i j, i < n → j < n → L i ≠ U j
/-- The block of the lines is no row's. -/
theorem lns_ne {w : World} {B g n z d c : Nat} {T : Nat → Value × Value × Value} {l : List Int} (h : Lns w g n T) (hr : Own w B (.slice (some ⟨z, 0, none⟩) d c) l) : z ≠ g := fun e => by
  subst e
  obtain ⟨cur, hh, _⟩ := own_row hr
  obtain ⟨cur', hh', _⟩ := h
  rw [hh] at hh'
  cases hh'
section
variable {w w' : World} {B g n : Nat} {s : Nat → Nat} {L C U D : Nat → Nat} {l u : Nat → Nat → Int}
theorem Lin.keep (h : Lin w B g n s L C U D l u) (hk : Kp w w') : Lin w' B g n s L C U D l u :=
  ⟨h.hB, h.top.keep hk, fun i hi => (h.low i hi).kp hk, fun i hi => (h.up i hi).kp hk, h.la, h.ua, h.lu⟩
theorem Lin.ext {l' u' : Nat → Nat → Int} (h : Lin w B g n s L C U D l u) (e : ∀ i j, i < n → j < n → l i j = l' i j ∧ u i j = u' i j) : Lin w B g n s L C U D l' u' :=
  ⟨h.hB, h.top, fun i hi => by rw [← Mx.row_ext (fun j hj => (e i j hi hj).1)]; exact h.low i hi, fun i hi => by rw [← Mx.row_ext (fun j hj => (e i j hi hj).2)]; exact h.up i hi, h.la, h.ua, h.lu⟩
theorem Lin.lb (h : Lin w B g n s L C U D l u) {i : Nat} (hi : i < n) : B ≤ L i ∧ L i < w.heap.size := World.ownsRow.lt (h.low i hi) (L i) rfl
theorem Lin.ub (h : Lin w B g n s L C U D l u) {i : Nat} (hi : i < n) : B ≤ U i ∧ U i < w.heap.size := World.ownsRow.lt (h.up i hi) (U i) rfl
theorem Lin.lc (h : Lin w B g n s L C U D l u) {i j : Nat} (hi : i < n) (hj : j < n) : w.cell? ⟨L i, j, none⟩ = some (.int .i64 (l i j)) := by
  have := own_cell (h.low i hi) j (by rw [Mx.len_row]; exact hj)
  rwa [Mx.row_at _ _ _ hj] at this
theorem Lin.uc (h : Lin w B g n s L C U D l u) {i j : Nat} (hi : i < n) (hj : j < n) : w.cell? ⟨U i, j, none⟩ = some (.int .i64 (u i j)) := by
  have := own_cell (h.up i hi) j (by rw [Mx.len_row]; exact hj)
  rwa [Mx.row_at _ _ _ hj] at this
theorem Lin.lf (h : Lin w B g n s L C U D l u) {i : Nat} (hi : i < n) (j : Nat) : w.frozen? ⟨L i, j, none⟩ = false := own_free (h.low i hi) j
/-- What turns the row of what is left of one line. -/
theorem Lin.turn {i : Nat} {x : Nat → Int} (h : Lin w B g n s L C U D l u) (hi : i < n) (ho : Only (fun _ => U i) 1 w w') (hx : Own w' B (.slice (some ⟨U i, 0, none⟩) n (D i)) (Mx.row n x)) :
    Lin w' B g n s L C U D l (fun p => if p = i then x else u p) := by
  refine ⟨h.hB, h.top.block (ho.block g h.top.lt fun _ _ e => lns_ne h.top (h.up i hi) e.symm), fun p hp => (h.low p hp).only ho fun b hb _ _ e => ?_, fun p hp => ?_, h.la, h.ua, h.lu⟩
  · have hb2 : L p = b := Option.some.inj hb; exact h.lu p i hp hi (by omega)
  · by_cases e : p = i
    · subst e; simp only [if_true]; exact hx
    · simp only [if_neg e]
      exact (h.up p hp).only ho fun b hb _ _ e2 => by have hb2 : U p = b := Option.some.inj hb; exact h.ua p i hp hi e (by omega)
/-- A factor is written. -/
theorem Lin.put (h : Lin w B g n s L C U D l u) {i : Nat} (hi : i < n) (j : Nat) (x : Int) :
    Lin (w.setCell ⟨L i, j, none⟩ (.int .i64 x)) B g n s L C U D (fun p q => if p = i ∧ q = j then x else l p q) u := by
  have ho : Only (fun _ => L i) 1 w (w.setCell ⟨L i, j, none⟩ (.int .i64 x)) := (Only.refl (fun _ => L i) 1 w).put (i := 0) (by omega) j _
  refine ⟨h.hB, h.top.block (ho.block g h.top.lt fun _ _ e => lns_ne h.top (h.low i hi) e.symm), fun p hp => ?_, fun p hp => (h.up p hp).only ho fun b hb _ _ e => ?_, h.la, h.ua, h.lu⟩
  · by_cases e : p = i
    · subst e
      have := own_put (h.low p hp) j x
      rw [Mx.row_set] at this
      rw [show (fun q => if p = p ∧ q = j then x else l p q) = fun q => if q = j then x else l p q by funext q; simp]
      exact this
    · rw [show (fun q => if p = i ∧ q = j then x else l p q) = l p by funext q; simp [e]]
      exact (h.low p hp).only ho fun b hb _ _ e2 => by have hb2 : L p = b := Option.some.inj hb; exact h.la p i hp hi e (by omega)
  · have hb2 : U p = b := Option.some.inj hb; exact h.lu i p hi hp (by omega)
/-- Two lines change places: the first is written first. (o1, o2: where they begin.) -/
def swW (w : World) (g n o1 o2 a b : Nat) (s L C U D : Nat → Nat) : World :=
  st3 (st3 w g o1 (lnv n (s b) (L b) (C b) (U b) (D b)).1 (lnv n (s b) (L b) (C b) (U b) (D b)).2.1 (lnv n (s b) (L b) (C b) (U b) (D b)).2.2) g o2 (lnv n (s a) (L a) (C a) (U a) (D a)).1 (lnv n (s a) (L a) (C a) (U a) (D a)).2.1 (lnv n (s a) (L a) (C a) (U a) (D a)).2.2
theorem swW_other (w : World) (g n o1 o2 a b : Nat) (s L C U D : Nat → Nat) {c : Nat} (hc : c ≠ g) : (swW w g n o1 o2 a b s L C U D).heap[c]? = w.heap[c]? := by
  unfold swW; rw [st3_other _ _ _ _ _ _ hc, st3_other _ _ _ _ _ _ hc]
theorem Lin.swap (h : Lin w B g n s L C U D l u) {a b o1 o2 : Nat} (ha : a < n) (hb : b < n) (h1 : o1 = a * 3) (h2 : o2 = b * 3) :
    Lin (swW w g n o1 o2 a b s L C U D) B g n (fun i => s (Mx.sw a b i)) (fun i => L (Mx.sw a b i)) (fun i => C (Mx.sw a b i)) (fun i => U (Mx.sw a b i)) (fun i => D (Mx.sw a b i)) (fun i => l (Mx.sw a b i)) (fun i => u (Mx.sw a b i)) := by
  subst h1 h2
  have hs : ∀ i, i < n → Mx.sw a b i < n := fun i hi => Mx.sw_lt ha hb hi
  have hown : ∀ (z d c : Nat) (x : List Int), Own w B (.slice (some ⟨z, 0, none⟩) d c) x → Own (swW w g n (a * 3) (b * 3) a b s L C U D) B (.slice (some ⟨z, 0, none⟩) d c) x := fun z d c x hx => by
    have hz := lns_ne h.top hx
    obtain ⟨h1, h2⟩ := hx
    refine ⟨h1, ?_⟩
    rcases h2 with h2 | ⟨g', cap, cur, hv, hg, hh, r⟩
    · exact .inl h2
    · refine .inr ⟨g', cap, cur, hv, hg, ?_, r⟩
      cases hv
      rw [swW_other _ _ _ _ _ _ _ _ _ _ _ _ hz]; exact hh
  refine ⟨h.hB, ?_, fun i hi => hown _ _ _ _ (h.low _ (hs i hi)), fun i hi => hown _ _ _ _ (h.up _ (hs i hi)), fun i j hi hj hne => h.la _ _ (hs i hi) (hs j hj) fun e => hne (Mx.sw_inj e),
    fun i j hi hj hne => h.ua _ _ (hs i hi) (hs j hj) fun e => hne (Mx.sw_inj e), fun i j hi hj => h.lu _ _ (hs i hi) (hs j hj)⟩
  refine ((h.top.put ha _ _ _).put hb _ _ _).ext fun i hi => ?_
  show (if i = b then _ else if i = a then _ else _) = _
  by_cases e1 : i = b
  · subst e1; rw [if_pos rfl, Mx.sw_right]
  · rw [if_neg e1]
    by_cases e2 : i = a
    · subst e2; rw [if_pos rfl, Mx.sw_left]
    · rw [if_neg e2, Mx.sw_none e2 e1]
theorem swW_kp {a0 : World} (hk : Kp a0 w) (hg : a0.heap.size ≤ g) (o1 o2 a b : Nat) : Kp a0 (swW w g n o1 o2 a b s L C U D) := st3_kp (st3_kp hk hg _ _ _ _) hg _ _ _ _
end

/-- The same of what is known of an elimination. -/
def LinT (w : World) (B g n : Nat) (L C U D : Nat → Nat) (t : Mx.Tri) : Prop := Lin w B g n t.s L C U D (fun i j => ((t.l i j).val : Int)) (fun i j => ((t.u i j).val : Int))

end Go.Proofs.YtdkdpklohfdpmaaDoor
