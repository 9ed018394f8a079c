/- Contract of package inv's products. -/
import Derived.Test.YtofdhdnffkhojaaDoorInC2
namespace Go.Proofs.YtofdhdnffkhojaaDoor
open Go.ChangeShapes Go.WideShapes Go.ChangeAt Go.RowKit Go.Shelf
set_option linter.unusedVariables false
attribute [local go_sem] Oper.semAt_some

/-- A sum over a list of places. -/
def lsum (g : Nat → Fp.F) (l : List Nat) : Fp.F := l.foldl (fun s k => s + g k) 0
theorem lsum_snoc (g : Nat → Fp.F) (l : List Nat) (k : Nat) : lsum g (l ++ [k]) = lsum g l + g k := by unfold lsum; rw [List.foldl_append]; rfl
theorem lsum_range (g : Nat → Fp.F) : ∀ m, lsum g (List.range m) = Mx.sg m g
  | 0 => rfl
  | m + 1 => by rw [List.range_succ, lsum_snoc, lsum_range g m, Mx.sg_succ]
theorem sg_split (m q : Nat) (g : Nat → Fp.F) : Mx.sg (m + q) g = Mx.sg m g + Mx.sg q fun j => g (m + j) := by
  induction q with
  | zero => rw [Nat.add_zero, Mx.sg_zero]; grind
  | succ q ih => rw [← Nat.add_assoc, Mx.sg_succ, ih, Mx.sg_succ]; grind
/-- The sum over all places, row by row. -/
theorem sg_places (c : Nat) (h : Nat → Nat → Fp.F) (n : Nat) : ∀ r, r ≤ n → Mx.sg (r * c) (fun k => h (rowOf n c k) (colOf c k)) = Mx.sg r fun i => Mx.sg c (h i)
  | 0, _ => by rw [Nat.zero_mul]; rfl
  | r + 1, hr => by
    rw [Nat.add_mul, Nat.one_mul, sg_split, sg_places c h n r (by omega), Mx.sg_succ]
    congr 1
    refine Mx.sg_congr fun j hj => ?_
    have hc : 0 < c := by omega
    have e1 : rowOf n c (r * c + j) = r := by unfold rowOf; rw [Nat.mul_comm, Nat.mul_add_div hc, Nat.div_eq_of_lt hj, Nat.add_zero, Nat.mod_eq_of_lt (by omega)]
    have e2 : colOf c (r * c + j) = j := by unfold colOf; rw [Nat.mul_comm, Nat.mul_add_mod, Nat.mod_eq_of_lt hj]
    rw [e1, e2]
/-- What has been added up as far as the places of l: into the column, into the row, into the number. -/
def colTo (n : Nat) (t : Nat → Nat → Fp.F) (u : Nat → Fp.F) (l : List Nat) (i : Nat) : Fp.F := lsum (fun k => if rowOf n n k = i then t i (colOf n k) * u (colOf n k) else 0) l
def rowTo (n : Nat) (t : Nat → Nat → Fp.F) (v : Nat → Fp.F) (l : List Nat) (j : Nat) : Fp.F := lsum (fun k => if colOf n k = j then v (rowOf n n k) * t (rowOf n n k) j else 0) l
def numTo (n : Nat) (t : Nat → Nat → Fp.F) (u v : Nat → Fp.F) (l : List Nat) : Fp.F := 1 + lsum (fun k => v (rowOf n n k) * (t (rowOf n n k) (colOf n k) * u (colOf n k))) l
theorem colTo_all (n : Nat) (t : Nat → Nat → Fp.F) (u : Nat → Fp.F) (i : Nat) (hi : i < n) : colTo n t u (List.range (n * n)) i = Mx.colv n t u i := by
  unfold colTo
  rw [lsum_range, sg_places n (fun a b => if a = i then t i b * u b else 0) n n (Nat.le_refl _)]
  rw [Mx.sg_one hi fun a _ hne => by rw [Mx.sg_congr (g := fun _ => 0) fun b _ => if_neg hne, Mx.sg_none]]
  exact Mx.sg_congr fun b _ => if_pos rfl
theorem rowTo_all (n : Nat) (t : Nat → Nat → Fp.F) (v : Nat → Fp.F) (j : Nat) (hj : j < n) : rowTo n t v (List.range (n * n)) j = Mx.rowv n v t j := by
  unfold rowTo
  rw [lsum_range, sg_places n (fun a b => if b = j then v a * t a j else 0) n n (Nat.le_refl _)]
  refine Mx.sg_congr fun a _ => ?_
  rw [Mx.sg_one hj fun b _ hne => if_neg hne, if_pos rfl]
theorem numTo_all (n : Nat) (t : Nat → Nat → Fp.F) (u v : Nat → Fp.F) : numTo n t u v (List.range (n * n)) = Mx.bent n t u v := by
  unfold numTo Mx.bent Mx.colv
  rw [lsum_range, sg_places n (fun a b => v a * (t a b * u b)) n n (Nat.le_refl _)]
  congr 1
  exact Mx.sg_congr fun a _ => by rw [Mx.sg_times]

theorem boxed_far {W : World} {B : Nat} {t : TypeId} {v : Value} (h : Boxed W B t v) {p : Addr} (hp : B ≠ p.block) (u : Value) : Boxed (W.setCell p u) B t v := by
  unfold Boxed
  rw [heap_setCell_other W p B u hp]; exact h
theorem boxed_same {W : World} {B : Nat} {t : TypeId} {v : Value} (h : Boxed W B t v) : W.setCell ⟨B, 0, none⟩ v = W := by
  have hl := h.lt
  have e : (W.setCell ⟨B, 0, none⟩ v).heap = W.heap := by
    refine Array.ext (by simp [World.setCell]) fun i h1 h2 => ?_
    by_cases e : i = B
    · subst e
      have h3 := Boxed.set v h
      have h4 : W.heap[i]? = some (.cells #[v] t (0, 0)) := h
      have h5 : (W.setCell ⟨i, 0, none⟩ v).heap[i]? = some (.cells #[v] t (0, 0)) := h3
      rw [Array.getElem?_eq_getElem h1] at h5
      rw [Array.getElem?_eq_getElem h2] at h4
      exact Option.some.inj (h5.trans h4.symm)
    · have h3 := heap_setCell_other W ⟨B, 0, none⟩ i v e
      rw [Array.getElem?_eq_getElem h1, Array.getElem?_eq_getElem h2] at h3
      exact Option.some.inj h3
  show { W with heap := (W.setCell ⟨B, 0, none⟩ v).heap } = W
  rw [e]
theorem boxed_drewN {W : World} {B : Nat} {t : TypeId} {v : Value} (h : Boxed W B t v) (n : Nat) : Boxed (W.drewN n) B t v := h
theorem rowg_kept {W W' : World} {row : Option Nat} {g : Nat} {l : List Int} (h : Row W g l) (hg : W.grownBy W' row) (hr : ∀ r, row = some r → ∃ o : Obj, W.heap[r]? = some o ∧ o.isCells = false) : Row W' g l :=
  (grownBy_keeps_cells hg hr h rfl).trans h
/-- A row that is not the variable that holds one thing of another type. -/
theorem row_new (w : World) (n : Nat) : Row (w.alloc (.cells (madeCells #[.int .i64 0] n) 3)) w.heap.size (Mx.row n fun _ => 0) := by
  unfold Row
  rw [World.alloc_heap_new]
  congr 2
  apply Array.toList_inj.1
  rw [toList_madeCells_one, ← Mx.row_rep]
  simp [ints]
theorem Row.alloc {w : World} {g : Nat} {l : List Int} (h : Row w g l) (o : Obj) : Row (w.alloc o) g l := h.keep ((Kp.rfl' w).new o)

theorem isum_mod (a b : Fp.F) : ((a.val : Int) + (b.val : Int)).tmod 9973 = ((a + b).val : Int) := by
  have h1 := gval a
  have h2 := gval b
  rw [Int.tmod_eq_emod_of_nonneg (by omega), Mx.val_plus]
theorem imore_mod (s a b : Fp.F) : ((s.val : Int) + (a.val : Int) * (b.val : Int)).tmod 9973 = ((s + a * b).val : Int) := by
  have h1 := gval s
  have h := (times_bound a b).1
  rw [Int.tmod_eq_emod_of_nonneg (by omega), Mx.val_more]
theorem colTo_snoc (n : Nat) (t : Nat → Nat → Fp.F) (u : Nat → Fp.F) (l : List Nat) (k a : Nat) : colTo n t u (l ++ [k]) a = if a = rowOf n n k then colTo n t u l a + t a (colOf n k) * u (colOf n k) else colTo n t u l a := by
  unfold colTo
  rw [lsum_snoc]
  by_cases h : a = rowOf n n k
  · rw [if_pos h.symm, if_pos h]
  · rw [if_neg (fun e => h e.symm), if_neg h]; grind
theorem rowTo_snoc (n : Nat) (t : Nat → Nat → Fp.F) (v : Nat → Fp.F) (l : List Nat) (k b : Nat) : rowTo n t v (l ++ [k]) b = if b = colOf n k then rowTo n t v l b + v (rowOf n n k) * t (rowOf n n k) b else rowTo n t v l b := by
  unfold rowTo
  rw [lsum_snoc]
  by_cases h : b = colOf n k
  · rw [if_pos h.symm, if_pos h]
  · rw [if_neg (fun e => h e.symm), if_neg h]; grind
theorem numTo_snoc (n : Nat) (t : Nat → Nat → Fp.F) (u v : Nat → Fp.F) (l : List Nat) (k : Nat) : numTo n t u v (l ++ [k]) = numTo n t u v l + v (rowOf n n k) * (t (rowOf n n k) (colOf n k) * u (colOf n k)) := by
  unfold numTo
  rw [lsum_snoc]; grind

/-- The variables of the call, and two rows in the making. -/
structure PAt (w0 : World) (b0 b1 b2 b3 b4 b5 gc gr n d du dv : Nat) (A U V : Option Addr) (cf rf : Nat → Int) (k : Int) (W : World) : Prop where
  m : Boxed W b0 22 (.slice A n d)
  u : Boxed W b1 23 (.slice U n du)
  v : Boxed W b2 23 (.slice V n dv)
  c : Boxed W b3 23 (.slice (some ⟨gc, 0, none⟩) n n)
  r : Boxed W b4 23 (.slice (some ⟨gr, 0, none⟩) n n)
  k : Boxed W b5 3 (.int .i64 k)
  cr : Row W gc (Mx.row n cf)
  rr : Row W gr (Mx.row n rf)
  kp : Kp w0 W
theorem pat_own (w0 : World) (b0 b1 b2 b3 b4 b5 gc gr n d du dv : Nat) (A U V : Option Addr) (t : Nat → Nat → Fp.F) (u v : Nat → Fp.F) (B : Nat) (hw : w0.heap.size ≤ B) :
    OwnFrom B (fun (pre : List Nat) W => PAt w0 b0 b1 b2 b3 b4 b5 gc gr n d du dv A U V (fun i => ((colTo n t u pre i).val : Int)) (fun j => ((rowTo n t v pre j).val : Int)) ((numTo n t u v pre).val : Int) W) := fun s W W' row h hg hr => by
  have hr' : ∀ r, row = some r → ∃ o : Obj, W.heap[r]? = some o ∧ o.isCells = false := fun r e => (hr r e).2
  exact ⟨boxed_keptN h.m hg hr', boxed_keptN h.u hg hr', boxed_keptN h.v hg hr', boxed_keptN h.c hg hr', boxed_keptN h.r hg hr', boxed_keptN h.k hg hr', rowg_kept h.cr hg hr', rowg_kept h.rr hg hr', h.kp.grown hg h.kp.size (fun k e => Nat.le_trans hw (hr k e).1)⟩
section
variable {w0 : World} {b0 b1 b2 b3 b4 b5 gc gr n d du dv : Nat} {A U V : Option Addr} {cf rf : Nat → Int} {k : Int} {W : World}
theorem PAt.drewN (h : PAt w0 b0 b1 b2 b3 b4 b5 gc gr n d du dv A U V cf rf k W) (q : Nat) : PAt w0 b0 b1 b2 b3 b4 b5 gc gr n d du dv A U V cf rf k (W.drewN q) :=
  ⟨h.m, h.u, h.v, h.c, h.r, h.k, h.cr, h.rr, h.kp.drewN q⟩
theorem PAt.putc (h : PAt w0 b0 b1 b2 b3 b4 b5 gc gr n d du dv A U V cf rf k W) (o : w0.heap.size = b0 ∧ b0 < b1 ∧ b1 < b2 ∧ b2 < b3 ∧ b3 < b4 ∧ b4 < b5 ∧ b5 < gc ∧ b5 < gr ∧ gc ≠ gr) (i : Nat) (x : Int) :
    PAt w0 b0 b1 b2 b3 b4 b5 gc gr n d du dv A U V (fun a => if a = i then x else cf a) rf k (W.setCell ⟨gc, i, none⟩ (.int .i64 x)) := by
  have hr := h.cr.put i x
  rw [Mx.row_set] at hr
  exact ⟨boxed_far h.m (by show b0 ≠ gc; omega) _, boxed_far h.u (by show b1 ≠ gc; omega) _, boxed_far h.v (by show b2 ≠ gc; omega) _, boxed_far h.c (by show b3 ≠ gc; omega) _, boxed_far h.r (by show b4 ≠ gc; omega) _, boxed_far h.k (by show b5 ≠ gc; omega) _,
    hr, h.rr.far (by show gr ≠ gc; omega) _, h.kp.put (p := ⟨gc, i, none⟩) (by show w0.heap.size ≤ gc; omega) _⟩
theorem PAt.putr (h : PAt w0 b0 b1 b2 b3 b4 b5 gc gr n d du dv A U V cf rf k W) (o : w0.heap.size = b0 ∧ b0 < b1 ∧ b1 < b2 ∧ b2 < b3 ∧ b3 < b4 ∧ b4 < b5 ∧ b5 < gc ∧ b5 < gr ∧ gc ≠ gr) (i : Nat) (x : Int) :
    PAt w0 b0 b1 b2 b3 b4 b5 gc gr n d du dv A U V cf (fun a => if a = i then x else rf a) k (W.setCell ⟨gr, i, none⟩ (.int .i64 x)) := by
  have hr := h.rr.put i x
  rw [Mx.row_set] at hr
  exact ⟨boxed_far h.m (by show b0 ≠ gr; omega) _, boxed_far h.u (by show b1 ≠ gr; omega) _, boxed_far h.v (by show b2 ≠ gr; omega) _, boxed_far h.c (by show b3 ≠ gr; omega) _, boxed_far h.r (by show b4 ≠ gr; omega) _, boxed_far h.k (by show b5 ≠ gr; omega) _,
    h.cr.far (by show gc ≠ gr; omega) _, hr, h.kp.put (p := ⟨gr, i, none⟩) (by show w0.heap.size ≤ gr; omega) _⟩
theorem PAt.putk (h : PAt w0 b0 b1 b2 b3 b4 b5 gc gr n d du dv A U V cf rf k W) (o : w0.heap.size = b0 ∧ b0 < b1 ∧ b1 < b2 ∧ b2 < b3 ∧ b3 < b4 ∧ b4 < b5 ∧ b5 < gc ∧ b5 < gr ∧ gc ≠ gr) (x : Int) :
    PAt w0 b0 b1 b2 b3 b4 b5 gc gr n d du dv A U V cf rf x (W.setCell ⟨b5, 0, none⟩ (.int .i64 x)) :=
  ⟨boxed_far h.m (by show b0 ≠ b5; omega) _, boxed_far h.u (by show b1 ≠ b5; omega) _, boxed_far h.v (by show b2 ≠ b5; omega) _, boxed_far h.c (by show b3 ≠ b5; omega) _, boxed_far h.r (by show b4 ≠ b5; omega) _, Boxed.set _ h.k,
    h.cr.far (by show gc ≠ b5; omega) _, h.rr.far (by show gr ≠ b5; omega) _, h.kp.put (p := ⟨b5, 0, none⟩) (by show w0.heap.size ≤ b5; omega) _⟩
theorem PAt.ext (h : PAt w0 b0 b1 b2 b3 b4 b5 gc gr n d du dv A U V cf rf k W) {cf' rf' : Nat → Int} {k' : Int} (e1 : ∀ a, a < n → cf a = cf' a) (e2 : ∀ a, a < n → rf a = rf' a) (e3 : k = k') : PAt w0 b0 b1 b2 b3 b4 b5 gc gr n d du dv A U V cf' rf' k' W := by
  subst e3
  exact ⟨h.m, h.u, h.v, h.c, h.r, h.k, by rw [← Mx.row_ext e1]; exact h.cr, by rw [← Mx.row_ext e2]; exact h.rr, h.kp⟩
end

/-- What the call begins with. -/
structure PZero (w w1 : World) (b0 b1 b2 b3 b4 b5 n d du dv : Nat) (A U V : Option Addr) : Prop where
  m : Boxed w1 b0 22 (.slice A n d)
  u : Boxed w1 b1 23 (.slice U n du)
  v : Boxed w1 b2 23 (.slice V n dv)
  c : Boxed w1 b3 23 (.slice none 0 0)
  r : Boxed w1 b4 23 (.slice none 0 0)
  k : Boxed w1 b5 3 (.int .i64 0)
  b : w.heap.size = b0 ∧ b0 < b1 ∧ b1 < b2 ∧ b2 < b3 ∧ b3 < b4 ∧ b4 < b5 ∧ w1.heap.size = b5 + 1
  kp : Kp w w1

theorem pat_bs {w w1 : World} {b0 b1 b2 b3 b4 b5 n d du dv : Nat} {A U V : Option Addr} (h : PZero w w1 b0 b1 b2 b3 b4 b5 n d du dv A U V) (C : Obj) (hC : ∀ w : World, Row (w.alloc C) w.heap.size (Mx.row n fun _ => 0)) (gc gr q : Nat) (e : (gc = b5 + 1 ∧ gr = b5 + 1 + 1) ∨ (gr = b5 + 1 ∧ gc = b5 + 1 + 1)) :
    ∃ gc' gr', b5 < gc' ∧ b5 < gr' ∧ gc' ≠ gr' ∧ PAt w b0 b1 b2 b3 b4 b5 gc' gr' n d du dv A U V (fun _ => 0) (fun _ => 0) 1
      ((((((w1.alloc C).alloc C).setCell ⟨b3, 0, none⟩ (.slice (some ⟨gc, 0, none⟩) n n)).setCell ⟨b4, 0, none⟩ (.slice (some ⟨gr, 0, none⟩) n n)).setCell ⟨b5, 0, none⟩ (.int .i64 1)).drewN q) := by
  have hb := h.b
  have h1 : Row ((w1.alloc C).alloc C) (b5 + 1) (Mx.row n fun _ => 0) := by
    have := (hC w1).alloc C
    rwa [hb.2.2.2.2.2.2] at this
  have h2 : Row ((w1.alloc C).alloc C) (b5 + 1 + 1) (Mx.row n fun _ => 0) := by
    have := hC (w1.alloc C)
    rwa [World.size_alloc, hb.2.2.2.2.2.2] at this
  obtain ⟨hc, hr⟩ : Row ((w1.alloc C).alloc C) gc (Mx.row n fun _ => 0) ∧ Row ((w1.alloc C).alloc C) gr (Mx.row n fun _ => 0) := by
    rcases e with ⟨rfl, rfl⟩ | ⟨rfl, rfl⟩
    · exact ⟨h1, h2⟩
    · exact ⟨h2, h1⟩
  have hk := (h.kp.new C).new C
  have n3 : w.heap.size ≤ b3 := by omega
  have n4 : w.heap.size ≤ b4 := by omega
  have n5 : w.heap.size ≤ b5 := by omega
  refine ⟨gc, gr, by omega, by omega, by omega, ?_⟩
  have m := (h.m.alloc C).alloc C
  have u := (h.u.alloc C).alloc C
  have v := (h.v.alloc C).alloc C
  have c := (h.c.alloc C).alloc C
  have r := (h.r.alloc C).alloc C
  have k := (h.k.alloc C).alloc C
  generalize (w1.alloc C).alloc C = W at *
  have hk2 := ((hk.put (p := ⟨b3, 0, none⟩) n3 (.slice (some ⟨gc, 0, none⟩) n n)).put (p := ⟨b4, 0, none⟩) n4 (.slice (some ⟨gr, 0, none⟩) n n)).put (p := ⟨b5, 0, none⟩) n5 (.int .i64 1)
  exact ⟨((m.other (by omega) _).other (by omega) _).other (by omega) _, ((u.other (by omega) _).other (by omega) _).other (by omega) _, ((v.other (by omega) _).other (by omega) _).other (by omega) _,
    ((Boxed.set _ c).other (by omega) _).other (by omega) _, (Boxed.set _ (r.other (by omega) _)).other (by omega) _, Boxed.set _ ((k.other (by omega) _).other (by omega) _),
    ((hc.far (by show gc ≠ b3; omega) _).far (by show gc ≠ b4; omega) _).far (by show gc ≠ b5; omega) _, ((hr.far (by show gr ≠ b3; omega) _).far (by show gr ≠ b4; omega) _).far (by show gr ≠ b5; omega) _, hk2.drewN q⟩
theorem pat_sa {w w1 : World} {b0 b1 b2 b3 b4 b5 n d du dv : Nat} {A U V : Option Addr} (h : PZero w w1 b0 b1 b2 b3 b4 b5 n d du dv A U V) (C : Obj) (hC : ∀ w : World, Row (w.alloc C) w.heap.size (Mx.row n fun _ => 0)) (q : Nat) :
    ∃ gc' gr', b5 < gc' ∧ b5 < gr' ∧ gc' ≠ gr' ∧ PAt w b0 b1 b2 b3 b4 b5 gc' gr' n d du dv A U V (fun _ => 0) (fun _ => 0) 1
      ((((((w1.alloc C).setCell ⟨b3, 0, none⟩ (.slice (some ⟨b5 + 1, 0, none⟩) n n)).alloc C).setCell ⟨b4, 0, none⟩ (.slice (some ⟨b5 + 1 + 1, 0, none⟩) n n)).setCell ⟨b5, 0, none⟩ (.int .i64 1)).drewN q) := by
  have hb := h.b
  have n3 : w.heap.size ≤ b3 := by omega
  have n4 : w.heap.size ≤ b4 := by omega
  have n5 : w.heap.size ≤ b5 := by omega
  have h1 : Row (w1.alloc C) (b5 + 1) (Mx.row n fun _ => 0) := by
    have := hC w1
    rwa [hb.2.2.2.2.2.2] at this
  have hk := (h.kp.new C).put (p := ⟨b3, 0, none⟩) n3 (.slice (some ⟨b5 + 1, 0, none⟩) n n)
  have h1' := h1.far (a := ⟨b3, 0, none⟩) (by show b5 + 1 ≠ b3; omega) (.slice (some ⟨b5 + 1, 0, none⟩) n n)
  have hs : ((w1.alloc C).setCell ⟨b3, 0, none⟩ (.slice (some ⟨b5 + 1, 0, none⟩) n n)).heap.size = b5 + 1 + 1 := by rw [← size_set, World.size_alloc, hb.2.2.2.2.2.2]
  have m := (h.m.alloc C).other (B' := b3) (by omega) (.slice (some ⟨b5 + 1, 0, none⟩) n n)
  have u := (h.u.alloc C).other (B' := b3) (by omega) (.slice (some ⟨b5 + 1, 0, none⟩) n n)
  have v := (h.v.alloc C).other (B' := b3) (by omega) (.slice (some ⟨b5 + 1, 0, none⟩) n n)
  have c := Boxed.set (.slice (some ⟨b5 + 1, 0, none⟩) n n) (h.c.alloc C)
  have r := (h.r.alloc C).other (B' := b3) (by omega) (.slice (some ⟨b5 + 1, 0, none⟩) n n)
  have k := (h.k.alloc C).other (B' := b3) (by omega) (.slice (some ⟨b5 + 1, 0, none⟩) n n)
  generalize ((w1.alloc C).setCell ⟨b3, 0, none⟩ (.slice (some ⟨b5 + 1, 0, none⟩) n n)) = W at *
  have h2 := hC W
  rw [hs] at h2
  have h1'' := h1'.alloc C
  have m := m.alloc C
  have u := u.alloc C
  have v := v.alloc C
  have c := c.alloc C
  have r := r.alloc C
  have k := k.alloc C
  have hk := hk.new C
  generalize W.alloc C = X at *
  have hk2 := (hk.put (p := ⟨b4, 0, none⟩) n4 (.slice (some ⟨b5 + 1 + 1, 0, none⟩) n n)).put (p := ⟨b5, 0, none⟩) n5 (.int .i64 1)
  exact ⟨b5 + 1, b5 + 1 + 1, by omega, by omega, by omega, (m.other (by omega) _).other (by omega) _, (u.other (by omega) _).other (by omega) _, (v.other (by omega) _).other (by omega) _,
    (c.other (by omega) _).other (by omega) _, (Boxed.set _ r).other (by omega) _, Boxed.set _ (k.other (by omega) _),
    (h1''.far (by show b5 + 1 ≠ b4; omega) _).far (by show b5 + 1 ≠ b5; omega) _, (h2.far (by show b5 + 1 + 1 ≠ b4; omega) _).far (by show b5 + 1 + 1 ≠ b5; omega) _, hk2.drewN q⟩

set_option maxRecDepth 100000 in
set_option maxHeartbeats 3200000 in
theorem products_any (A U V : Option Addr) (t : Nat → Nat → Fp.F) (u v : Nat → Fp.F) (n d du dv : Nat) (w : World) (ha : LiesM w A (Mx.matl n n t)) (hu : Lies w U (Mx.row n fun i => ((u i).val : Int))) (hv : Lies w V (Mx.row n fun i => ((v i).val : Int))) (h0 : 0 < n) (hn : n ≤ 5) :
    Calls Tryd.prog 40 #[.slice A n d, .slice U n du, .slice V n dv] w fun e w' => ∃ gc gr, e = .returned (.tuple #[.slice (some ⟨gc, 0, none⟩) n n, .slice (some ⟨gr, 0, none⟩) n n, .int .i64 ((Mx.bent n t u v).val : Int)]) ∧
      Row w' gc (Mx.row n fun i => ((Mx.colv n t u i).val : Int)) ∧ Row w' gr (Mx.row n fun j => ((Mx.rowv n v t j).val : Int)) ∧ Kp w w' := by
  obtain ⟨ad, A0, d0, rfl, -, -, -, -⟩ := ha.row h0
  obtain ⟨ud, rfl, -, -⟩ := hu.el h0
  obtain ⟨vd, rfl, -, -⟩ := hv.el h0
  have HA := Lib.hid ha
  have HU := Lib.hid hu
  have HV := Lib.hid hv
  clear ha hu hv
  obtain ⟨i0, hi, hz0, hz1, hz2⟩ := info_parts int_info
  have hmk : ∀ w, (Instr.makeSlice 23 (.int .i64 (n : Int)) (.int .i64 (n : Int))).run Tryd.prog w = .ok (.slice (some ⟨w.heap.size, 0, none⟩) n n) (w.alloc (.cells (madeCells #[.int .i64 0] n) 3)) := fun w => by
    have := run_make (P := Tryd.prog) w 23 3 i0 (.int .i64 0) Tryd.underlying23 hi hz0 .i64 .i64 (n : Int) (n : Int) (by omega) (Int.le_refl _) (by rw [hz2]; omega) (by omega)
    rw [hz1, Nat.mul_one, Int.toNat_natCast] at this
    exact this
  refine callsIn_wide.1 (callsIn_of_wp_marks (F := Fence.wide) (n := 9) Tryd.func40 rfl trivial ?_ rfl)
  simp only [Tryd.ntmps40, List.size_toArray, List.length_cons, List.length_nil, Nat.reduceAdd, Nat.reduceSub, Array.replicate_succ, Array.replicate_zero, List.push_toArray, List.append_toArray, List.nil_append, List.cons_append]
  refine wpIn_wide.2 ?_
  go_upto_region 1 with (fail)
  obtain ⟨b0, hb0⟩ : ∃ x, x = w.heap.size := ⟨_, rfl⟩
  obtain ⟨b1, hb1⟩ : ∃ x, x = b0 + 1 := ⟨_, rfl⟩
  obtain ⟨b2, hb2⟩ : ∃ x, x = b1 + 1 := ⟨_, rfl⟩
  obtain ⟨b3, hb3⟩ : ∃ x, x = b2 + 1 := ⟨_, rfl⟩
  obtain ⟨b4, hb4⟩ : ∃ x, x = b3 + 1 := ⟨_, rfl⟩
  obtain ⟨b5, hb5⟩ : ∃ x, x = b4 + 1 := ⟨_, rfl⟩
  obtain ⟨w1, hw1⟩ : ∃ x, x = ((((((w.alloc (.cells #[.slice (some ad) n d] 22)).alloc (.cells #[.slice (some ud) n du] 23)).alloc (.cells #[.slice (some vd) n dv] 23)).alloc (.cells #[.slice none 0 0] 23)).alloc (.cells #[.slice none 0 0] 23)).alloc (.cells #[.int .i64 0] 3)) := ⟨_, rfl⟩
  have k1 : Kp w w1 := by rw [hw1]; exact ((((((Kp.rfl' w).new _).new _).new _).new _).new _).new _
  have s1 : w1.heap.size = b5 + 1 := by rw [hw1]; simp; omega
  have m0 : Boxed w1 b0 22 (.slice (some ad) n d) := by rw [hw1, hb0]; exact (((((Boxed.new w _ _).alloc _).alloc _).alloc _).alloc _).alloc _
  have m1 : Boxed w1 b1 23 (.slice (some ud) n du) := by
    rw [hw1, show b1 = (w.alloc (.cells #[.slice (some ad) n d] 22)).heap.size by simp; omega]; exact ((((Boxed.new _ _ _).alloc _).alloc _).alloc _).alloc _
  have m2 : Boxed w1 b2 23 (.slice (some vd) n dv) := by
    rw [hw1, show b2 = ((w.alloc (.cells #[.slice (some ad) n d] 22)).alloc (.cells #[.slice (some ud) n du] 23)).heap.size by simp; omega]; exact (((Boxed.new _ _ _).alloc _).alloc _).alloc _
  have m3 : Boxed w1 b3 23 (.slice none 0 0) := by
    rw [hw1, show b3 = (((w.alloc (.cells #[.slice (some ad) n d] 22)).alloc (.cells #[.slice (some ud) n du] 23)).alloc (.cells #[.slice (some vd) n dv] 23)).heap.size by simp; omega]; exact ((Boxed.new _ _ _).alloc _).alloc _
  have m4 : Boxed w1 b4 23 (.slice none 0 0) := by
    rw [hw1, show b4 = ((((w.alloc (.cells #[.slice (some ad) n d] 22)).alloc (.cells #[.slice (some ud) n du] 23)).alloc (.cells #[.slice (some vd) n dv] 23)).alloc (.cells #[.slice none 0 0] 23)).heap.size by simp; omega]; exact (Boxed.new _ _ _).alloc _
  have m5 : Boxed w1 b5 3 (.int .i64 0) := by
    rw [hw1, show b5 = (((((w.alloc (.cells #[.slice (some ad) n d] 22)).alloc (.cells #[.slice (some ud) n du] 23)).alloc (.cells #[.slice (some vd) n dv] 23)).alloc (.cells #[.slice none 0 0] 23)).alloc (.cells #[.slice none 0 0] 23)).heap.size by simp; omega]; exact Boxed.new _ _ _
  rw [← hw1, ← hb0, ← hb1, ← hb2, ← hb3, ← hb4, ← hb5]
  have P0 := Lib.hid (show PZero w w1 b0 b1 b2 b3 b4 b5 n d du dv (some ad) (some ud) (some vd) from ⟨m0, m1, m2, m3, m4, m5, by omega, k1⟩)
  clear hw1 hb0 hb1 hb2 hb3 hb4 hb5
  have hbs := P0.out.b
  have z0a : ∀ o, Boxed (w1.alloc o) b0 22 (.slice (some ad) n d) := fun o => m0.alloc o
  have c0a : ∀ o, (w1.alloc o).cell? ⟨b0, 0, none⟩ = some (.slice (some ad) n d) := fun o => (z0a o).cell
  have z0b : ∀ o o', Boxed ((w1.alloc o).alloc o') b0 22 (.slice (some ad) n d) := fun o o' => (m0.alloc o).alloc o'
  have c0b : ∀ o o', ((w1.alloc o).alloc o').cell? ⟨b0, 0, none⟩ = some (.slice (some ad) n d) := fun o o' => (z0b o o').cell
  have z0s : ∀ o x, Boxed ((w1.alloc o).setCell ⟨b3, 0, none⟩ x) b0 22 (.slice (some ad) n d) := fun o x => (m0.alloc o).other (by omega) x
  have c0s : ∀ o x, ((w1.alloc o).setCell ⟨b3, 0, none⟩ x).cell? ⟨b0, 0, none⟩ = some (.slice (some ad) n d) := fun o x => (z0s o x).cell
  have z0sa : ∀ o x o', Boxed (((w1.alloc o).setCell ⟨b3, 0, none⟩ x).alloc o') b0 22 (.slice (some ad) n d) := fun o x o' => ((m0.alloc o).other (by omega) x).alloc o'
  have c0sa : ∀ o x o', (((w1.alloc o).setCell ⟨b3, 0, none⟩ x).alloc o').cell? ⟨b0, 0, none⟩ = some (.slice (some ad) n d) := fun o x o' => (z0sa o x o').cell
  have z0bs : ∀ o o' x, Boxed (((w1.alloc o).alloc o').setCell ⟨b3, 0, none⟩ x) b0 22 (.slice (some ad) n d) := fun o o' x => ((m0.alloc o).alloc o').other (by omega) x
  have c0bs : ∀ o o' x, (((w1.alloc o).alloc o').setCell ⟨b3, 0, none⟩ x).cell? ⟨b0, 0, none⟩ = some (.slice (some ad) n d) := fun o o' x => (z0bs o o' x).cell
  have z3a : ∀ o, Boxed (w1.alloc o) b3 23 (.slice none 0 0) := fun o => m3.alloc o
  have c3a : ∀ o, (w1.alloc o).cell? ⟨b3, 0, none⟩ = some (.slice none 0 0) := fun o => (z3a o).cell
  have f3a : ∀ o, (w1.alloc o).frozen? ⟨b3, 0, none⟩ = false := fun o => (z3a o).frozen
  have z3b : ∀ o o', Boxed ((w1.alloc o).alloc o') b3 23 (.slice none 0 0) := fun o o' => (m3.alloc o).alloc o'
  have c3b : ∀ o o', ((w1.alloc o).alloc o').cell? ⟨b3, 0, none⟩ = some (.slice none 0 0) := fun o o' => (z3b o o').cell
  have f3b : ∀ o o', ((w1.alloc o).alloc o').frozen? ⟨b3, 0, none⟩ = false := fun o o' => (z3b o o').frozen
  have z4sa : ∀ o x o', Boxed (((w1.alloc o).setCell ⟨b3, 0, none⟩ x).alloc o') b4 23 (.slice none 0 0) := fun o x o' => ((m4.alloc o).other (by omega) x).alloc o'
  have c4sa : ∀ o x o', (((w1.alloc o).setCell ⟨b3, 0, none⟩ x).alloc o').cell? ⟨b4, 0, none⟩ = some (.slice none 0 0) := fun o x o' => (z4sa o x o').cell
  have f4sa : ∀ o x o', (((w1.alloc o).setCell ⟨b3, 0, none⟩ x).alloc o').frozen? ⟨b4, 0, none⟩ = false := fun o x o' => (z4sa o x o').frozen
  have z4bs : ∀ o o' x, Boxed (((w1.alloc o).alloc o').setCell ⟨b3, 0, none⟩ x) b4 23 (.slice none 0 0) := fun o o' x => ((m4.alloc o).alloc o').other (by omega) x
  have c4bs : ∀ o o' x, (((w1.alloc o).alloc o').setCell ⟨b3, 0, none⟩ x).cell? ⟨b4, 0, none⟩ = some (.slice none 0 0) := fun o o' x => (z4bs o o' x).cell
  have f4bs : ∀ o o' x, (((w1.alloc o).alloc o').setCell ⟨b3, 0, none⟩ x).frozen? ⟨b4, 0, none⟩ = false := fun o o' x => (z4bs o o' x).frozen
  have z5sat : ∀ o x o' y, Boxed ((((w1.alloc o).setCell ⟨b3, 0, none⟩ x).alloc o').setCell ⟨b4, 0, none⟩ y) b5 3 (.int .i64 0) := fun o x o' y => (((m5.alloc o).other (by omega) x).alloc o').other (by omega) y
  have c5sat : ∀ o x o' y, ((((w1.alloc o).setCell ⟨b3, 0, none⟩ x).alloc o').setCell ⟨b4, 0, none⟩ y).cell? ⟨b5, 0, none⟩ = some (.int .i64 0) := fun o x o' y => (z5sat o x o' y).cell
  have f5sat : ∀ o x o' y, ((((w1.alloc o).setCell ⟨b3, 0, none⟩ x).alloc o').setCell ⟨b4, 0, none⟩ y).frozen? ⟨b5, 0, none⟩ = false := fun o x o' y => (z5sat o x o' y).frozen
  have z5bst : ∀ o o' x y, Boxed ((((w1.alloc o).alloc o').setCell ⟨b3, 0, none⟩ x).setCell ⟨b4, 0, none⟩ y) b5 3 (.int .i64 0) := fun o o' x y => (((m5.alloc o).alloc o').other (by omega) x).other (by omega) y
  have c5bst : ∀ o o' x y, ((((w1.alloc o).alloc o').setCell ⟨b3, 0, none⟩ x).setCell ⟨b4, 0, none⟩ y).cell? ⟨b5, 0, none⟩ = some (.int .i64 0) := fun o o' x y => (z5bst o o' x y).cell
  have f5bst : ∀ o o' x y, ((((w1.alloc o).alloc o').setCell ⟨b3, 0, none⟩ x).setCell ⟨b4, 0, none⟩ y).frozen? ⟨b5, 0, none⟩ = false := fun o o' x y => (z5bst o o' x y).frozen
  clear z0a z0b z0s z0sa z0bs z3a z3b z4sa z4bs z5sat z5bst
  have q0 := m0.cell
  clear m0 m1 m2 m3 m4 m5 k1 hbs
  go_cut [18] from 13 to 19 (fun _ wc => ∃ gc gr, b5 < gc ∧ b5 < gr ∧ gc ≠ gr ∧ PAt w b0 b1 b2 b3 b4 b5 gc gr n d du dv (some ad) (some ud) (some vd) (fun _ => 0) (fun _ => 0) 1 wc)
  case first =>
    go_region
    all_goals
      clear c0a c0b c0s c0sa c0bs c3a f3a c3b f3b c4sa f4sa c4bs f4bs c5sat f5sat c5bst f5bst
      go_wp2_with fail
      go_meet
      case rel => first | exact pat_bs P0.out _ (fun w => row_new w n) _ _ 1 (.inl ⟨rfl, rfl⟩) | exact pat_bs P0.out _ (fun w => row_new w n) _ _ 1 (.inr ⟨rfl, rfl⟩) | exact pat_sa P0.out _ (fun w => row_new w n) 1
  case rest =>
    clear c0a c0b c0s c0sa c0bs c3a f3a c3b f3b c4sa f4sa c4bs f4bs c5sat f5sat c5bst f5bst q0 hmk hz0 hz1 hz2 hi
    obtain ⟨gc, gr, hgc, hgr, hne, hp⟩ := hcut
    have hb := P0.out.b
    have hm := hp.m.cell
    have sgc := hp.cr.lt
    have sgr := hp.rr.lt
    have PW := Lib.hid hp
    clear hp P0
    go_wp2_with fail
    refine (iplaces_any n wc).mono ?_; rintro e w4 ⟨rfl, hw4⟩
    have kc : Kp wc w4 := by rw [hw4]; exact (Kp.rfl' wc).new _
    have s4 : w4.heap.size = wc.heap.size + 1 := by rw [hw4]; simp
    have c4 : w4.cell? ⟨wc.heap.size, 0, none⟩ = some (.int .i64 (n : Int)) := by rw [hw4]; simp
    have P4 := Lib.hid (show PAt w b0 b1 b2 b3 b4 b5 gc gr n d du dv (some ad) (some ud) (some vd) (fun i => ((colTo n t u [] i).val : Int)) (fun j => ((rowTo n t v [] j).val : Int)) ((numTo n t u v []).val : Int) w4 from
      ⟨boxed_kp PW.out.m kc, boxed_kp PW.out.u kc, boxed_kp PW.out.v kc, boxed_kp PW.out.c kc, boxed_kp PW.out.r kc, boxed_kp PW.out.k kc, PW.out.cr.keep kc, PW.out.rr.keep kc, PW.out.kp.trans kc⟩)
    have hsw := PW.out.kp.size
    clear hw4 kc PW hm
    go_wp2_with fail
    refine (wpIn_wide (n := 9)).1 (wpIn_rangeFunc_ownF (F := Fence.wide) rfl (Nat.le_add_left 1 8) (gf := 56) (lb := #[.pointer (some ⟨wc.heap.size, 0, none⟩)]) rfl trivial (enters_of Tryd.func56 (by kernel_rfl) rfl)
      (iplaces_stops 8 (Nat.le_add_left 1 7) wc.heap.size n (by omega) w4 (by omega) c4)
      keepN_t (fun W l o o' _ ho h1 _ => keepN_b W l o o' ho h1) (Below.refl _ _) (fun _ => rfl)
      (fun pre W => PAt w b0 b1 b2 b3 b4 b5 gc gr n d du dv (some ad) (some ud) (some vd) (fun i => ((colTo n t u pre i).val : Int)) (fun j => ((rowTo n t v pre j).val : Int)) ((numTo n t u v pre).val : Int) W)
      (fun _ _ _ => False)
      (pat_own w b0 b1 b2 b3 b4 b5 gc gr n d du dv (some ad) (some ud) (some vd) t u v _ (by omega))
      (fun _ _ _ _ _ hs _ _ => hs)
      P4.out
      ?a1 ?assign ?body ?done ?stop)
    case assign =>
      intro l x W K hK
      unfold placeOf
      gi_wp2
      exact hK
    case body =>
      rintro l pre y W hpat _
      have PP := Lib.hid hpat
      have hc' := fun a => colTo_snoc n t u pre y a
      have hr' := fun b => rowTo_snoc n t v pre y b
      have hk' := numTo_snoc n t u v pre y
      have hi := rowOf_lt (c := n) y h0
      have hj := colOf_lt y h0
      generalize rowOf n n y = i at *
      generalize colOf n y = j at *
      have HC := Lib.hid hc'
      have HR := Lib.hid hr'
      have HK := Lib.hid hk'
      clear hc' hr' hk' hpat
      have x0 := PP.out.m.cell
      have x1 := PP.out.u.cell
      have x2 := PP.out.v.cell
      obtain ⟨ad', A1, d1, ea, _, x3, _, l1⟩ := (HA.out.keep PP.out.kp).row hi
      obtain rfl := Option.some.inj ea
      obtain ⟨ad1, rfl, _, x4⟩ := l1.el hj
      obtain ⟨ud', eu, _, x5⟩ := (HU.out.keep PP.out.kp).el hj
      obtain rfl := Option.some.inj eu
      obtain ⟨vd', ev, _, x6⟩ := (HV.out.keep PP.out.kp).el hi
      obtain rfl := Option.some.inj ev
      have y3 := PP.out.c.cell
      have y4 := PP.out.r.cell
      have y5 := PP.out.k.cell
      have f5 := PP.out.k.frozen
      have z6 := PP.out.cr.cell i (by rw [Mx.len_row]; exact hi)
      have g6 := PP.out.cr.free i
      have z7 := PP.out.rr.cell j (by rw [Mx.len_row]; exact hj)
      have g7 := PP.out.rr.free j
      rw [Mx.row_at _ _ _ hi] at z6
      rw [Mx.row_at _ _ _ hj] at z7
      have ho : w.heap.size = b0 ∧ b0 < b1 ∧ b1 < b2 ∧ b2 < b3 ∧ b3 < b4 ∧ b4 < b5 ∧ b5 < gc ∧ b5 < gr ∧ gc ≠ gr := by omega
      have HO := Lib.hid ho
      have hm1 := times_mod (t i j) (u j)
      have hm2 := times_mod (v i) (t i j)
      have hb1 := times_bound (t i j) (u j)
      have hb2 := times_bound (v i) (t i j)
      have hwm1 : IntKind.i64.wrap (((t i j).val : Int) * ((u j).val : Int)) = ((t i j).val : Int) * ((u j).val : Int) := IntWalk.i64_in _ (by omega)
      have hwm2 : IntKind.i64.wrap (((v i).val : Int) * ((t i j).val : Int)) = ((v i).val : Int) * ((t i j).val : Int) := IntWalk.i64_in _ (by omega)
      clear l1 hb1 hb2
      refine wpIn_block ?_
      gi_wp2
      refine region_tail 27 (by kernel_rfl) (by kernel_rfl) (by kernel_rfl) ?_
      simp only [List.take_succ_cons, List.take_zero, List.drop_succ_cons, List.drop_zero]
      repeat still_step
      refine wpStill_nil ?_
      go_wp2_with fail
      refine ⟨rfl, ?_⟩
      clear hm1 hm2 hwm1 hwm2
      have hs1 := isum_mod (colTo n t u pre i) (t i j * u j)
      have v1 := gval (colTo n t u pre i)
      have v2 := gval (t i j * u j)
      have hws : IntKind.i64.wrap (((colTo n t u pre i).val : Int) + ((t i j * u j).val : Int)) = ((colTo n t u pre i).val : Int) + ((t i j * u j).val : Int) := IntWalk.i64_in _ (by omega)
      clear v1 v2
      gi_wp2
      refine region_tail 10 (by kernel_rfl) (by kernel_rfl) (by kernel_rfl) ?_
      simp only [List.take_succ_cons, List.take_zero, List.drop_succ_cons, List.drop_zero]
      repeat still_step
      refine wpStill_nil ?_
      go_wp2_with fail
      refine ⟨rfl, ?_⟩
      obtain ⟨W1, hW1⟩ : ∃ x, x = (W.setCell ⟨gc, i, none⟩ (.int .i64 ((colTo n t u pre i + t i j * u j).val : Int))).drew.drew := ⟨_, rfl⟩
      have P1 := Lib.hid (show PAt w b0 b1 b2 b3 b4 b5 gc gr n d du dv (some ad) (some ud) (some vd) _ _ _ W1 by rw [hW1]; exact ((PP.out.putc ho i ((colTo n t u pre i + t i j * u j).val : Int)).drewN 1).drewN 1)
      have K1 := Lib.hid (show KeepsOthers W W1 ∧ KeepN wc.heap.size n W W1 by
        rw [hW1]; exact ⟨((KeepsOthers.setCell _ _ _).trans (KeepsOthers.drew _)).trans (KeepsOthers.drew _), keepN_t (keepN_t (keepN_set W ⟨gc, i, none⟩ _ (by show gc ≠ wc.heap.size; omega)) id) id⟩)
      rw [← hW1]
      clear hW1 x0 x1 x2 x3 x4 x5 x6 y3 y4 y5 f5 z6 g6 z7 g7 hs1 hws PP
      have y4 := P1.out.r.cell
      have z7 := P1.out.rr.cell j (by rw [Mx.len_row]; exact hj)
      have g7 := P1.out.rr.free j
      rw [Mx.row_at _ _ _ hj] at z7
      have hs1 := isum_mod (rowTo n t v pre j) (v i * t i j)
      have v1 := gval (rowTo n t v pre j)
      have v2 := gval (v i * t i j)
      have hws : IntKind.i64.wrap (((rowTo n t v pre j).val : Int) + ((v i * t i j).val : Int)) = ((rowTo n t v pre j).val : Int) + ((v i * t i j).val : Int) := IntWalk.i64_in _ (by omega)
      clear v1 v2
      gi_wp2
      refine region_tail 10 (by kernel_rfl) (by kernel_rfl) (by kernel_rfl) ?_
      simp only [List.take_succ_cons, List.take_zero, List.drop_succ_cons, List.drop_zero]
      repeat still_step
      refine wpStill_nil ?_
      go_wp2_with fail
      refine ⟨rfl, ?_⟩
      obtain ⟨W2, hW2⟩ : ∃ x, x = (W1.setCell ⟨gr, j, none⟩ (.int .i64 ((rowTo n t v pre j + v i * t i j).val : Int))).drew := ⟨_, rfl⟩
      have P2 := Lib.hid (show PAt w b0 b1 b2 b3 b4 b5 gc gr n d du dv (some ad) (some ud) (some vd) _ _ _ W2 by rw [hW2]; exact (P1.out.putr ho j ((rowTo n t v pre j + v i * t i j).val : Int)).drewN 1)
      have K2 := Lib.hid (show KeepsOthers W W2 ∧ KeepN wc.heap.size n W W2 by
        rw [hW2]; exact ⟨(K1.out.1.trans (KeepsOthers.setCell _ _ _)).trans (KeepsOthers.drew _), keepN_t (keepN_t K1.out.2 (keepN_set W1 ⟨gr, j, none⟩ _ (by show gr ≠ wc.heap.size; omega))) id⟩)
      rw [← hW2]
      clear hW2 y4 z7 g7 hs1 hws K1 P1
      have x2 := P2.out.v.cell
      have y5 := P2.out.k.cell
      have f5 := P2.out.k.frozen
      obtain ⟨vd', ev, _, x6⟩ := (HV.out.keep P2.out.kp).el hi
      obtain rfl := Option.some.inj ev
      have hs1 := imore_mod (numTo n t u v pre) (v i) (t i j * u j)
      have v1 := gval (numTo n t u v pre)
      have v2 := times_bound (v i) (t i j * u j)
      have hwm : IntKind.i64.wrap (((v i).val : Int) * ((t i j * u j).val : Int)) = ((v i).val : Int) * ((t i j * u j).val : Int) := IntWalk.i64_in _ (by omega)
      have hws : IntKind.i64.wrap (((numTo n t u v pre).val : Int) + ((v i).val : Int) * ((t i j * u j).val : Int)) = ((numTo n t u v pre).val : Int) + ((v i).val : Int) * ((t i j * u j).val : Int) := IntWalk.i64_in _ (by omega)
      clear v1 v2
      gi_wp2
      refine region_tail 9 (by kernel_rfl) (by kernel_rfl) (by kernel_rfl) ?_
      simp only [List.take_succ_cons, List.take_zero, List.drop_succ_cons, List.drop_zero]
      repeat still_step
      refine wpStill_nil ?_
      go_wp2_with fail
      refine ⟨rfl, ?_⟩
      refine ⟨(K2.out.1.trans (KeepsOthers.setCell _ _ _)).trans (KeepsOthers.drew _), keepN_t (keepN_t K2.out.2 (keepN_set W2 ⟨b5, 0, none⟩ _ (by show b5 ≠ wc.heap.size; omega))) id, ?_⟩
      refine ((P2.out.putk ho ((numTo n t u v pre + v i * (t i j * u j)).val : Int)).drewN 1).ext (fun a _ => ?_) (fun a _ => ?_) ?_
      · rw [HC.out a]
        by_cases e : a = i
        · rw [if_pos e, if_pos e, e]
        · rw [if_neg e, if_neg e]
      · rw [HR.out a]
        by_cases e : a = j
        · rw [if_pos e, if_pos e, e]
        · rw [if_neg e, if_neg e]
      · rw [HK.out]
    case done =>
      rintro D ys W hD rfl hpat hK
      have y3 := hpat.c.cell
      have y4 := hpat.r.cell
      have y5 := hpat.k.cell
      have g3 := hpat.c.frozen
      have g4 := hpat.r.frozen
      have g5 := hpat.k.frozen
      have s3 := boxed_same hpat.c
      have s4 := boxed_same hpat.r
      have s5 := boxed_same hpat.k
      have PP := Lib.hid hpat
      clear hpat
      go_upto_region 9 with (fail)
      go_region
      go_wp2_with fail
      have hD2 : w.heap.size ≤ D := by omega
      have PX := pat_own w b0 b1 b2 b3 b4 b5 gc gr n d du dv (some ad) (some ud) (some vd) t u v w.heap.size (Nat.le_refl _) (List.range (n * n)) W.drew (W.drew.putObj D (.deferred none)) (some D) (PP.out.drewN 1) (grownBy_putObj' _ _ _) (fun r e => by cases e; exact ⟨hD2, _, hK, rfl⟩)
      refine ⟨by simp, .inl ⟨_, _, rfl, run_takeDeferred (w := W.drew) hK, ?_⟩⟩
      have e3 := PX.c.cell
      have e4 := PX.r.cell
      have e5 := PX.k.cell
      rw [numTo_all] at e5
      refine ⟨.tuple #[.slice (some ⟨gc, 0, none⟩) n n, .slice (some ⟨gr, 0, none⟩) n n, .int .i64 ((Mx.bent n t u v).val : Int)], by simp [results, Tryd.results40, go_sem, e3, e4, e5], ?_⟩
      refine ⟨gc, gr, rfl, ?_, ?_, PX.kp⟩
      · rw [← Mx.row_ext (g := fun i => ((colTo n t u (List.range (n * n)) i).val : Int)) (fun i hi => by rw [colTo_all n t u i hi])]
        exact PX.cr
      · rw [← Mx.row_ext (g := fun i => ((rowTo n t v (List.range (n * n)) i).val : Int)) (fun i hi => by rw [rowTo_all n t v i hi])]
        exact PX.rr
    case stop =>
      rintro D c pre W _ _ h _
      exact h.elim

end Go.Proofs.YtofdhdnffkhojaaDoor
