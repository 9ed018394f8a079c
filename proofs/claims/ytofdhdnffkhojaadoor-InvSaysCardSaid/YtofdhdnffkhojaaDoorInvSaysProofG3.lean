/- Several texts, one behind the other: InC4, InC5, HdsV, MxRef, MxRef2, FldRef, MxRef5, InR1, GaC2, GaC3, MatS, SoC1, SoR1, InR2, RowsG, ShM, DeFact, MxRef3, MxRef4. -/
import Derived.Test.YtofdhdnffkhojaaDoorInvSaysProofG2
import Derived.Test.YtofdhdnffkhojaaDoorInvSaysProofG1
import Derived.StillTailTactics
import Derived.BigQuiet
import Derived.Deep.RegionHeld3

/- Contract of package inv's products. -/
namespace Go.Proofs.YtofdhdnffkhojaaDoor
open Go.ChangeShapes Go.WideShapes Go.ChangeAt Go.RowKit Go.Shelf
set_option linter.unusedVariables false
attribute [local go_sem] Oper.semAt_some

/-- A sum over a list of places. -/
def lsum (g : Nat → Fp.F) (l : List Nat) : Fp.F := l.foldl (fun s k => s + g k) 0
theorem lsum_snoc (g : Nat → Fp.F) (l : List Nat) (k : Nat) : lsum g (l ++ [k]) = lsum g l + g k := by unfold lsum; rw [List.foldl_append]; rfl
theorem lsum_range (g : Nat → Fp.F) : ∀ m, lsum g (List.range m) = Mx.sg m g
  | 0 => rfl
  | m + 1 => by rw [List.range_succ, lsum_snoc, lsum_range g m, Mx.sg_succ]
theorem sg_split (m q : Nat) (g : Nat → Fp.F) : Mx.sg (m + q) g = Mx.sg m g + Mx.sg q fun j => g (m + j) := by
  induction q with
  | zero => rw [Nat.add_zero, Mx.sg_zero]; grind
  | succ q ih => rw [← Nat.add_assoc, Mx.sg_succ, ih, Mx.sg_succ]; grind
/-- The sum over all places, row by row. -/
theorem sg_places (c : Nat) (h : Nat → Nat → Fp.F) (n : Nat) : ∀ r, r ≤ n → Mx.sg (r * c) (fun k => h (rowOf n c k) (colOf c k)) = Mx.sg r fun i => Mx.sg c (h i)
  | 0, _ => by rw [Nat.zero_mul]; rfl
  | r + 1, hr => by
    rw [Nat.add_mul, Nat.one_mul, sg_split, sg_places c h n r (by omega), Mx.sg_succ]
    congr 1
    refine Mx.sg_congr fun j hj => ?_
    have hc : 0 < c := by omega
    have e1 : rowOf n c (r * c + j) = r := by unfold rowOf; rw [Nat.mul_comm, Nat.mul_add_div hc, Nat.div_eq_of_lt hj, Nat.add_zero, Nat.mod_eq_of_lt (by omega)]
    have e2 : colOf c (r * c + j) = j := by unfold colOf; rw [Nat.mul_comm, Nat.mul_add_mod, Nat.mod_eq_of_lt hj]
    rw [e1, e2]
/-- What has been added up as far as the places of l: into the column, into the row, into the number. -/
def colTo (n : Nat) (t : Nat → Nat → Fp.F) (u : Nat → Fp.F) (l : List Nat) (i : Nat) : Fp.F := lsum (fun k => if rowOf n n k = i then t i (colOf n k) * u (colOf n k) else 0) l
def rowTo (n : Nat) (t : Nat → Nat → Fp.F) (v : Nat → Fp.F) (l : List Nat) (j : Nat) : Fp.F := lsum (fun k => if colOf n k = j then v (rowOf n n k) * t (rowOf n n k) j else 0) l
def numTo (n : Nat) (t : Nat → Nat → Fp.F) (u v : Nat → Fp.F) (l : List Nat) : Fp.F := 1 + lsum (fun k => v (rowOf n n k) * (t (rowOf n n k) (colOf n k) * u (colOf n k))) l
theorem colTo_all (n : Nat) (t : Nat → Nat → Fp.F) (u : Nat → Fp.F) (i : Nat) (hi : i < n) : colTo n t u (List.range (n * n)) i = Mx.colv n t u i := by
  unfold colTo
  rw [lsum_range, sg_places n (fun a b => if a = i then t i b * u b else 0) n n (Nat.le_refl _)]
  rw [Mx.sg_one hi fun a _ hne => by rw [Mx.sg_congr (g := fun _ => 0) fun b _ => if_neg hne, Mx.sg_none]]
  exact Mx.sg_congr fun b _ => if_pos rfl
theorem rowTo_all (n : Nat) (t : Nat → Nat → Fp.F) (v : Nat → Fp.F) (j : Nat) (hj : j < n) : rowTo n t v (List.range (n * n)) j = Mx.rowv n v t j := by
  unfold rowTo
  rw [lsum_range, sg_places n (fun a b => if b = j then v a * t a j else 0) n n (Nat.le_refl _)]
  refine Mx.sg_congr fun a _ => ?_
  rw [Mx.sg_one hj fun b _ hne => if_neg hne, if_pos rfl]
theorem numTo_all (n : Nat) (t : Nat → Nat → Fp.F) (u v : Nat → Fp.F) : numTo n t u v (List.range (n * n)) = Mx.bent n t u v := by
  unfold numTo Mx.bent Mx.colv
  rw [lsum_range, sg_places n (fun a b => v a * (t a b * u b)) n n (Nat.le_refl _)]
  congr 1
  exact Mx.sg_congr fun a _ => by rw [Mx.sg_times]

theorem boxed_far {W : World} {B : Nat} {t : TypeId} {v : Value} (h : Boxed W B t v) {p : Addr} (hp : B ≠ p.block) (u : Value) : Boxed (W.setCell p u) B t v := by
  unfold Boxed
  rw [heap_setCell_other W p B u hp]; exact h
theorem boxed_same {W : World} {B : Nat} {t : TypeId} {v : Value} (h : Boxed W B t v) : W.setCell ⟨B, 0, none⟩ v = W := by
  have hl := h.lt
  have e : (W.setCell ⟨B, 0, none⟩ v).heap = W.heap := by
    refine Array.ext (by simp [World.setCell]) fun i h1 h2 => ?_
    by_cases e : i = B
    · subst e
      have h3 := Boxed.set v h
      have h4 : W.heap[i]? = some (.cells #[v] t (0, 0)) := h
      have h5 : (W.setCell ⟨i, 0, none⟩ v).heap[i]? = some (.cells #[v] t (0, 0)) := h3
      rw [Array.getElem?_eq_getElem h1] at h5
      rw [Array.getElem?_eq_getElem h2] at h4
      exact Option.some.inj (h5.trans h4.symm)
    · have h3 := heap_setCell_other W ⟨B, 0, none⟩ i v e
      rw [Array.getElem?_eq_getElem h1, Array.getElem?_eq_getElem h2] at h3
      exact Option.some.inj h3
  show { W with heap := (W.setCell ⟨B, 0, none⟩ v).heap } = W
  rw [e]
theorem boxed_drewN {W : World} {B : Nat} {t : TypeId} {v : Value} (h : Boxed W B t v) (n : Nat) : Boxed (W.drewN n) B t v := h
theorem rowg_kept {W W' : World} {row : Option Nat} {g : Nat} {l : List Int} (h : Row W g l) (hg : W.grownBy W' row) (hr : ∀ r, row = some r → ∃ o : Obj, W.heap[r]? = some o ∧ o.isCells = false) : Row W' g l :=
  (grownBy_keeps_cells hg hr h rfl).trans h
/-- A row that is not the variable that holds one thing of another type. -/
theorem row_new (w : World) (n : Nat) : Row (w.alloc (.cells (madeCells #[.int .i64 0] n) 3)) w.heap.size (Mx.row n fun _ => 0) := by
  unfold Row
  rw [World.alloc_heap_new]
  congr 2
  apply Array.toList_inj.1
  rw [toList_madeCells_one, ← Mx.row_rep]
  simp [ints]
theorem Row.alloc {w : World} {g : Nat} {l : List Int} (h : Row w g l) (o : Obj) : Row (w.alloc o) g l := h.keep ((Kp.rfl' w).new o)

theorem isum_mod (a b : Fp.F) : ((a.val : Int) + (b.val : Int)).tmod 9973 = ((a + b).val : Int) := by
  have h1 := gval a
  have h2 := gval b
  rw [Int.tmod_eq_emod_of_nonneg (by omega), Mx.val_plus]
theorem imore_mod (s a b : Fp.F) : ((s.val : Int) + (a.val : Int) * (b.val : Int)).tmod 9973 = ((s + a * b).val : Int) := by
  have h1 := gval s
  have h := (times_bound a b).1
  rw [Int.tmod_eq_emod_of_nonneg (by omega), Mx.val_more]
theorem colTo_snoc (n : Nat) (t : Nat → Nat → Fp.F) (u : Nat → Fp.F) (l : List Nat) (k a : Nat) : colTo n t u (l ++ [k]) a = if a = rowOf n n k then colTo n t u l a + t a (colOf n k) * u (colOf n k) else colTo n t u l a := by
  unfold colTo
  rw [lsum_snoc]
  by_cases h : a = rowOf n n k
  · rw [if_pos h.symm, if_pos h]
  · rw [if_neg (fun e => h e.symm), if_neg h]; grind
theorem rowTo_snoc (n : Nat) (t : Nat → Nat → Fp.F) (v : Nat → Fp.F) (l : List Nat) (k b : Nat) : rowTo n t v (l ++ [k]) b = if b = colOf n k then rowTo n t v l b + v (rowOf n n k) * t (rowOf n n k) b else rowTo n t v l b := by
  unfold rowTo
  rw [lsum_snoc]
  by_cases h : b = colOf n k
  · rw [if_pos h.symm, if_pos h]
  · rw [if_neg (fun e => h e.symm), if_neg h]; grind
theorem numTo_snoc (n : Nat) (t : Nat → Nat → Fp.F) (u v : Nat → Fp.F) (l : List Nat) (k : Nat) : numTo n t u v (l ++ [k]) = numTo n t u v l + v (rowOf n n k) * (t (rowOf n n k) (colOf n k) * u (colOf n k)) := by
  unfold numTo
  rw [lsum_snoc]; grind

/-- The variables of the call, and two rows in the making. -/
structure PAt (w0 : World) (b0 b1 b2 b3 b4 b5 gc gr n d du dv : Nat) (A U V : Option Addr) (cf rf : Nat → Int) (k : Int) (W : World) : Prop where
  m : Boxed W b0 22 (.slice A n d)
  u : Boxed W b1 23 (.slice U n du)
  v : Boxed W b2 23 (.slice V n dv)
  c : Boxed W b3 23 (.slice (some ⟨gc, 0, none⟩) n n)
  r : Boxed W b4 23 (.slice (some ⟨gr, 0, none⟩) n n)
  k : Boxed W b5 3 (.int .i64 k)
  cr : Row W gc (Mx.row n cf)
  rr : Row W gr (Mx.row n rf)
  kp : Kp w0 W
theorem pat_own (w0 : World) (b0 b1 b2 b3 b4 b5 gc gr n d du dv : Nat) (A U V : Option Addr) (t : Nat → Nat → Fp.F) (u v : Nat → Fp.F) (B : Nat) (hw : w0.heap.size ≤ B) :
    OwnFrom B (fun (pre : List Nat) W => PAt w0 b0 b1 b2 b3 b4 b5 gc gr n d du dv A U V (fun i => ((colTo n t u pre i).val : Int)) (fun j => ((rowTo n t v pre j).val : Int)) ((numTo n t u v pre).val : Int) W) := fun s W W' row h hg hr => by
  have hr' : ∀ r, row = some r → ∃ o : Obj, W.heap[r]? = some o ∧ o.isCells = false := fun r e => (hr r e).2
  exact ⟨boxed_keptN h.m hg hr', boxed_keptN h.u hg hr', boxed_keptN h.v hg hr', boxed_keptN h.c hg hr', boxed_keptN h.r hg hr', boxed_keptN h.k hg hr', rowg_kept h.cr hg hr', rowg_kept h.rr hg hr', h.kp.grown hg h.kp.size (fun k e => Nat.le_trans hw (hr k e).1)⟩
section
variable {w0 : World} {b0 b1 b2 b3 b4 b5 gc gr n d du dv : Nat} {A U V : Option Addr} {cf rf : Nat → Int} {k : Int} {W : World}
theorem PAt.drewN (h : PAt w0 b0 b1 b2 b3 b4 b5 gc gr n d du dv A U V cf rf k W) (q : Nat) : PAt w0 b0 b1 b2 b3 b4 b5 gc gr n d du dv A U V cf rf k (W.drewN q) :=
  ⟨h.m, h.u, h.v, h.c, h.r, h.k, h.cr, h.rr, h.kp.drewN q⟩
theorem PAt.putc (h : PAt w0 b0 b1 b2 b3 b4 b5 gc gr n d du dv A U V cf rf k W) (o : w0.heap.size = b0 ∧ b0 < b1 ∧ b1 < b2 ∧ b2 < b3 ∧ b3 < b4 ∧ b4 < b5 ∧ b5 < gc ∧ b5 < gr ∧ gc ≠ gr) (i : Nat) (x : Int) :
    PAt w0 b0 b1 b2 b3 b4 b5 gc gr n d du dv A U V (fun a => if a = i then x else cf a) rf k (W.setCell ⟨gc, i, none⟩ (.int .i64 x)) := by
  have hr := h.cr.put i x
  rw [Mx.row_set] at hr
  exact ⟨boxed_far h.m (by show b0 ≠ gc; omega) _, boxed_far h.u (by show b1 ≠ gc; omega) _, boxed_far h.v (by show b2 ≠ gc; omega) _, boxed_far h.c (by show b3 ≠ gc; omega) _, boxed_far h.r (by show b4 ≠ gc; omega) _, boxed_far h.k (by show b5 ≠ gc; omega) _,
    hr, h.rr.far (by show gr ≠ gc; omega) _, h.kp.put (p := ⟨gc, i, none⟩) (by show w0.heap.size ≤ gc; omega) _⟩
theorem PAt.putr (h : PAt w0 b0 b1 b2 b3 b4 b5 gc gr n d du dv A U V cf rf k W) (o : w0.heap.size = b0 ∧ b0 < b1 ∧ b1 < b2 ∧ b2 < b3 ∧ b3 < b4 ∧ b4 < b5 ∧ b5 < gc ∧ b5 < gr ∧ gc ≠ gr) (i : Nat) (x : Int) :
    PAt w0 b0 b1 b2 b3 b4 b5 gc gr n d du dv A U V cf (fun a => if a = i then x else rf a) k (W.setCell ⟨gr, i, none⟩ (.int .i64 x)) := by
  have hr := h.rr.put i x
  rw [Mx.row_set] at hr
  exact ⟨boxed_far h.m (by show b0 ≠ gr; omega) _, boxed_far h.u (by show b1 ≠ gr; omega) _, boxed_far h.v (by show b2 ≠ gr; omega) _, boxed_far h.c (by show b3 ≠ gr; omega) _, boxed_far h.r (by show b4 ≠ gr; omega) _, boxed_far h.k (by show b5 ≠ gr; omega) _,
    h.cr.far (by show gc ≠ gr; omega) _, hr, h.kp.put (p := ⟨gr, i, none⟩) (by show w0.heap.size ≤ gr; omega) _⟩
theorem PAt.putk (h : PAt w0 b0 b1 b2 b3 b4 b5 gc gr n d du dv A U V cf rf k W) (o : w0.heap.size = b0 ∧ b0 < b1 ∧ b1 < b2 ∧ b2 < b3 ∧ b3 < b4 ∧ b4 < b5 ∧ b5 < gc ∧ b5 < gr ∧ gc ≠ gr) (x : Int) :
    PAt w0 b0 b1 b2 b3 b4 b5 gc gr n d du dv A U V cf rf x (W.setCell ⟨b5, 0, none⟩ (.int .i64 x)) :=
  ⟨boxed_far h.m (by show b0 ≠ b5; omega) _, boxed_far h.u (by show b1 ≠ b5; omega) _, boxed_far h.v (by show b2 ≠ b5; omega) _, boxed_far h.c (by show b3 ≠ b5; omega) _, boxed_far h.r (by show b4 ≠ b5; omega) _, Boxed.set _ h.k,
    h.cr.far (by show gc ≠ b5; omega) _, h.rr.far (by show gr ≠ b5; omega) _, h.kp.put (p := ⟨b5, 0, none⟩) (by show w0.heap.size ≤ b5; omega) _⟩
theorem PAt.ext (h : PAt w0 b0 b1 b2 b3 b4 b5 gc gr n d du dv A U V cf rf k W) {cf' rf' : Nat → Int} {k' : Int} (e1 : ∀ a, a < n → cf a = cf' a) (e2 : ∀ a, a < n → rf a = rf' a) (e3 : k = k') : PAt w0 b0 b1 b2 b3 b4 b5 gc gr n d du dv A U V cf' rf' k' W := by
  subst e3
  exact ⟨h.m, h.u, h.v, h.c, h.r, h.k, by rw [← Mx.row_ext e1]; exact h.cr, by rw [← Mx.row_ext e2]; exact h.rr, h.kp⟩
end

/-- What the call begins with. -/
structure PZero (w w1 : World) (b0 b1 b2 b3 b4 b5 n d du dv : Nat) (A U V : Option Addr) : Prop where
  m : Boxed w1 b0 22 (.slice A n d)
  u : Boxed w1 b1 23 (.slice U n du)
  v : Boxed w1 b2 23 (.slice V n dv)
  c : Boxed w1 b3 23 (.slice none 0 0)
  r : Boxed w1 b4 23 (.slice none 0 0)
  k : Boxed w1 b5 3 (.int .i64 0)
  b : w.heap.size = b0 ∧ b0 < b1 ∧ b1 < b2 ∧ b2 < b3 ∧ b3 < b4 ∧ b4 < b5 ∧ w1.heap.size = b5 + 1
  kp : Kp w w1

theorem pat_bs {w w1 : World} {b0 b1 b2 b3 b4 b5 n d du dv : Nat} {A U V : Option Addr} (h : PZero w w1 b0 b1 b2 b3 b4 b5 n d du dv A U V) (C : Obj) (hC : ∀ w : World, Row (w.alloc C) w.heap.size (Mx.row n fun _ => 0)) (gc gr q : Nat) (e : (gc = b5 + 1 ∧ gr = b5 + 1 + 1) ∨ (gr = b5 + 1 ∧ gc = b5 + 1 + 1)) :
    ∃ gc' gr', b5 < gc' ∧ b5 < gr' ∧ gc' ≠ gr' ∧ PAt w b0 b1 b2 b3 b4 b5 gc' gr' n d du dv A U V (fun _ => 0) (fun _ => 0) 1
      ((((((w1.alloc C).alloc C).setCell ⟨b3, 0, none⟩ (.slice (some ⟨gc, 0, none⟩) n n)).setCell ⟨b4, 0, none⟩ (.slice (some ⟨gr, 0, none⟩) n n)).setCell ⟨b5, 0, none⟩ (.int .i64 1)).drewN q) := by
  have hb := h.b
  have h1 : Row ((w1.alloc C).alloc C) (b5 + 1) (Mx.row n fun _ => 0) := by
    have := (hC w1).alloc C
    rwa [hb.2.2.2.2.2.2] at this
  have h2 : Row ((w1.alloc C).alloc C) (b5 + 1 + 1) (Mx.row n fun _ => 0) := by
    have := hC (w1.alloc C)
    rwa [World.size_alloc, hb.2.2.2.2.2.2] at this
  obtain ⟨hc, hr⟩ : Row ((w1.alloc C).alloc C) gc (Mx.row n fun _ => 0) ∧ Row ((w1.alloc C).alloc C) gr (Mx.row n fun _ => 0) := by
    rcases e with ⟨rfl, rfl⟩ | ⟨rfl, rfl⟩
    · exact ⟨h1, h2⟩
    · exact ⟨h2, h1⟩
  have hk := (h.kp.new C).new C
  have n3 : w.heap.size ≤ b3 := by omega
  have n4 : w.heap.size ≤ b4 := by omega
  have n5 : w.heap.size ≤ b5 := by omega
  refine ⟨gc, gr, by omega, by omega, by omega, ?_⟩
  have m := (h.m.alloc C).alloc C
  have u := (h.u.alloc C).alloc C
  have v := (h.v.alloc C).alloc C
  have c := (h.c.alloc C).alloc C
  have r := (h.r.alloc C).alloc C
  have k := (h.k.alloc C).alloc C
  generalize (w1.alloc C).alloc C = W at *
  have hk2 := ((hk.put (p := ⟨b3, 0, none⟩) n3 (.slice (some ⟨gc, 0, none⟩) n n)).put (p := ⟨b4, 0, none⟩) n4 (.slice (some ⟨gr, 0, none⟩) n n)).put (p := ⟨b5, 0, none⟩) n5 (.int .i64 1)
  exact ⟨((m.other (by omega) _).other (by omega) _).other (by omega) _, ((u.other (by omega) _).other (by omega) _).other (by omega) _, ((v.other (by omega) _).other (by omega) _).other (by omega) _,
    ((Boxed.set _ c).other (by omega) _).other (by omega) _, (Boxed.set _ (r.other (by omega) _)).other (by omega) _, Boxed.set _ ((k.other (by omega) _).other (by omega) _),
    ((hc.far (by show gc ≠ b3; omega) _).far (by show gc ≠ b4; omega) _).far (by show gc ≠ b5; omega) _, ((hr.far (by show gr ≠ b3; omega) _).far (by show gr ≠ b4; omega) _).far (by show gr ≠ b5; omega) _, hk2.drewN q⟩
theorem pat_sa {w w1 : World} {b0 b1 b2 b3 b4 b5 n d du dv : Nat} {A U V : Option Addr} (h : PZero w w1 b0 b1 b2 b3 b4 b5 n d du dv A U V) (C : Obj) (hC : ∀ w : World, Row (w.alloc C) w.heap.size (Mx.row n fun _ => 0)) (q : Nat) :
    ∃ gc' gr', b5 < gc' ∧ b5 < gr' ∧ gc' ≠ gr' ∧ PAt w b0 b1 b2 b3 b4 b5 gc' gr' n d du dv A U V (fun _ => 0) (fun _ => 0) 1
      ((((((w1.alloc C).setCell ⟨b3, 0, none⟩ (.slice (some ⟨b5 + 1, 0, none⟩) n n)).alloc C).setCell ⟨b4, 0, none⟩ (.slice (some ⟨b5 + 1 + 1, 0, none⟩) n n)).setCell ⟨b5, 0, none⟩ (.int .i64 1)).drewN q) := by
  have hb := h.b
  have n3 : w.heap.size ≤ b3 := by omega
  have n4 : w.heap.size ≤ b4 := by omega
  have n5 : w.heap.size ≤ b5 := by omega
  have h1 : Row (w1.alloc C) (b5 + 1) (Mx.row n fun _ => 0) := by
    have := hC w1
    rwa [hb.2.2.2.2.2.2] at this
  have hk := (h.kp.new C).put (p := ⟨b3, 0, none⟩) n3 (.slice (some ⟨b5 + 1, 0, none⟩) n n)
  have h1' := h1.far (a := ⟨b3, 0, none⟩) (by show b5 + 1 ≠ b3; omega) (.slice (some ⟨b5 + 1, 0, none⟩) n n)
  have hs : ((w1.alloc C).setCell ⟨b3, 0, none⟩ (.slice (some ⟨b5 + 1, 0, none⟩) n n)).heap.size = b5 + 1 + 1 := by rw [← size_set, World.size_alloc, hb.2.2.2.2.2.2]
  have m := (h.m.alloc C).other (B' := b3) (by omega) (.slice (some ⟨b5 + 1, 0, none⟩) n n)
  have u := (h.u.alloc C).other (B' := b3) (by omega) (.slice (some ⟨b5 + 1, 0, none⟩) n n)
  have v := (h.v.alloc C).other (B' := b3) (by omega) (.slice (some ⟨b5 + 1, 0, none⟩) n n)
  have c := Boxed.set (.slice (some ⟨b5 + 1, 0, none⟩) n n) (h.c.alloc C)
  have r := (h.r.alloc C).other (B' := b3) (by omega) (.slice (some ⟨b5 + 1, 0, none⟩) n n)
  have k := (h.k.alloc C).other (B' := b3) (by omega) (.slice (some ⟨b5 + 1, 0, none⟩) n n)
  generalize ((w1.alloc C).setCell ⟨b3, 0, none⟩ (.slice (some ⟨b5 + 1, 0, none⟩) n n)) = W at *
  have h2 := hC W
  rw [hs] at h2
  have h1'' := h1'.alloc C
  have m := m.alloc C
  have u := u.alloc C
  have v := v.alloc C
  have c := c.alloc C
  have r := r.alloc C
  have k := k.alloc C
  have hk := hk.new C
  generalize W.alloc C = X at *
  have hk2 := (hk.put (p := ⟨b4, 0, none⟩) n4 (.slice (some ⟨b5 + 1 + 1, 0, none⟩) n n)).put (p := ⟨b5, 0, none⟩) n5 (.int .i64 1)
  exact ⟨b5 + 1, b5 + 1 + 1, by omega, by omega, by omega, (m.other (by omega) _).other (by omega) _, (u.other (by omega) _).other (by omega) _, (v.other (by omega) _).other (by omega) _,
    (c.other (by omega) _).other (by omega) _, (Boxed.set _ r).other (by omega) _, Boxed.set _ (k.other (by omega) _),
    (h1''.far (by show b5 + 1 ≠ b4; omega) _).far (by show b5 + 1 ≠ b5; omega) _, (h2.far (by show b5 + 1 + 1 ≠ b4; omega) _).far (by show b5 + 1 + 1 ≠ b5; omega) _, hk2.drewN q⟩

set_option maxRecDepth 100000 in
set_option maxHeartbeats 3200000 in
theorem products_any (A U V : Option Addr) (t : Nat → Nat → Fp.F) (u v : Nat → Fp.F) (n d du dv : Nat) (w : World) (ha : LiesM w A (Mx.matl n n t)) (hu : Lies w U (Mx.row n fun i => ((u i).val : Int))) (hv : Lies w V (Mx.row n fun i => ((v i).val : Int))) (h0 : 0 < n) (hn : n ≤ 5) :
    Calls Tryd.prog 40 #[.slice A n d, .slice U n du, .slice V n dv] w fun e w' => ∃ gc gr, e = .returned (.tuple #[.slice (some ⟨gc, 0, none⟩) n n, .slice (some ⟨gr, 0, none⟩) n n, .int .i64 ((Mx.bent n t u v).val : Int)]) ∧
      Row w' gc (Mx.row n fun i => ((Mx.colv n t u i).val : Int)) ∧ Row w' gr (Mx.row n fun j => ((Mx.rowv n v t j).val : Int)) ∧ Kp w w' := by
  obtain ⟨ad, A0, d0, rfl, -, -, -, -⟩ := ha.row h0
  obtain ⟨ud, rfl, -, -⟩ := hu.el h0
  obtain ⟨vd, rfl, -, -⟩ := hv.el h0
  have HA := Lib.hid ha
  have HU := Lib.hid hu
  have HV := Lib.hid hv
  clear ha hu hv
  obtain ⟨i0, hi, hz0, hz1, hz2⟩ := info_parts int_info
  have hmk : ∀ w, (Instr.makeSlice 23 (.int .i64 (n : Int)) (.int .i64 (n : Int))).run Tryd.prog w = .ok (.slice (some ⟨w.heap.size, 0, none⟩) n n) (w.alloc (.cells (madeCells #[.int .i64 0] n) 3)) := fun w => by
    have := run_make (P := Tryd.prog) w 23 3 i0 (.int .i64 0) Tryd.underlying23 hi hz0 .i64 .i64 (n : Int) (n : Int) (by omega) (Int.le_refl _) (by rw [hz2]; omega) (by omega)
    rw [hz1, Nat.mul_one, Int.toNat_natCast] at this
    exact this
  refine callsIn_wide.1 (callsIn_of_wp_marks (F := Fence.wide) (n := 9) Tryd.func40 rfl trivial ?_ rfl)
  simp only [Tryd.ntmps40, List.size_toArray, List.length_cons, List.length_nil, Nat.reduceAdd, Nat.reduceSub, Array.replicate_succ, Array.replicate_zero, List.push_toArray, List.append_toArray, List.nil_append, List.cons_append]
  refine wpIn_wide.2 ?_
  go_upto_region 1 with (fail)
  obtain ⟨b0, hb0⟩ : ∃ x, x = w.heap.size := ⟨_, rfl⟩
  obtain ⟨b1, hb1⟩ : ∃ x, x = b0 + 1 := ⟨_, rfl⟩
  obtain ⟨b2, hb2⟩ : ∃ x, x = b1 + 1 := ⟨_, rfl⟩
  obtain ⟨b3, hb3⟩ : ∃ x, x = b2 + 1 := ⟨_, rfl⟩
  obtain ⟨b4, hb4⟩ : ∃ x, x = b3 + 1 := ⟨_, rfl⟩
  obtain ⟨b5, hb5⟩ : ∃ x, x = b4 + 1 := ⟨_, rfl⟩
  obtain ⟨w1, hw1⟩ : ∃ x, x = ((((((w.alloc (.cells #[.slice (some ad) n d] 22)).alloc (.cells #[.slice (some ud) n du] 23)).alloc (.cells #[.slice (some vd) n dv] 23)).alloc (.cells #[.slice none 0 0] 23)).alloc (.cells #[.slice none 0 0] 23)).alloc (.cells #[.int .i64 0] 3)) := ⟨_, rfl⟩
  have k1 : Kp w w1 := by rw [hw1]; exact ((((((Kp.rfl' w).new _).new _).new _).new _).new _).new _
  have s1 : w1.heap.size = b5 + 1 := by rw [hw1]; simp; omega
  have m0 : Boxed w1 b0 22 (.slice (some ad) n d) := by rw [hw1, hb0]; exact (((((Boxed.new w _ _).alloc _).alloc _).alloc _).alloc _).alloc _
  have m1 : Boxed w1 b1 23 (.slice (some ud) n du) := by
    rw [hw1, show b1 = (w.alloc (.cells #[.slice (some ad) n d] 22)).heap.size by simp; omega]; exact ((((Boxed.new _ _ _).alloc _).alloc _).alloc _).alloc _
  have m2 : Boxed w1 b2 23 (.slice (some vd) n dv) := by
    rw [hw1, show b2 = ((w.alloc (.cells #[.slice (some ad) n d] 22)).alloc (.cells #[.slice (some ud) n du] 23)).heap.size by simp; omega]; exact (((Boxed.new _ _ _).alloc _).alloc _).alloc _
  have m3 : Boxed w1 b3 23 (.slice none 0 0) := by
    rw [hw1, show b3 = (((w.alloc (.cells #[.slice (some ad) n d] 22)).alloc (.cells #[.slice (some ud) n du] 23)).alloc (.cells #[.slice (some vd) n dv] 23)).heap.size by simp; omega]; exact ((Boxed.new _ _ _).alloc _).alloc _
  have m4 : Boxed w1 b4 23 (.slice none 0 0) := by
    rw [hw1, show b4 = ((((w.alloc (.cells #[.slice (some ad) n d] 22)).alloc (.cells #[.slice (some ud) n du] 23)).alloc (.cells #[.slice (some vd) n dv] 23)).alloc (.cells #[.slice none 0 0] 23)).heap.size by simp; omega]; exact (Boxed.new _ _ _).alloc _
  have m5 : Boxed w1 b5 3 (.int .i64 0) := by
    rw [hw1, show b5 = (((((w.alloc (.cells #[.slice (some ad) n d] 22)).alloc (.cells #[.slice (some ud) n du] 23)).alloc (.cells #[.slice (some vd) n dv] 23)).alloc (.cells #[.slice none 0 0] 23)).alloc (.cells #[.slice none 0 0] 23)).heap.size by simp; omega]; exact Boxed.new _ _ _
  rw [← hw1, ← hb0, ← hb1, ← hb2, ← hb3, ← hb4, ← hb5]
  have P0 := Lib.hid (show PZero w w1 b0 b1 b2 b3 b4 b5 n d du dv (some ad) (some ud) (some vd) from ⟨m0, m1, m2, m3, m4, m5, by omega, k1⟩)
  clear hw1 hb0 hb1 hb2 hb3 hb4 hb5
  have hbs := P0.out.b
  have z0a : ∀ o, Boxed (w1.alloc o) b0 22 (.slice (some ad) n d) := fun o => m0.alloc o
  have c0a : ∀ o, (w1.alloc o).cell? ⟨b0, 0, none⟩ = some (.slice (some ad) n d) := fun o => (z0a o).cell
  have z0b : ∀ o o', Boxed ((w1.alloc o).alloc o') b0 22 (.slice (some ad) n d) := fun o o' => (m0.alloc o).alloc o'
  have c0b : ∀ o o', ((w1.alloc o).alloc o').cell? ⟨b0, 0, none⟩ = some (.slice (some ad) n d) := fun o o' => (z0b o o').cell
  have z0s : ∀ o x, Boxed ((w1.alloc o).setCell ⟨b3, 0, none⟩ x) b0 22 (.slice (some ad) n d) := fun o x => (m0.alloc o).other (by omega) x
  have c0s : ∀ o x, ((w1.alloc o).setCell ⟨b3, 0, none⟩ x).cell? ⟨b0, 0, none⟩ = some (.slice (some ad) n d) := fun o x => (z0s o x).cell
  have z0sa : ∀ o x o', Boxed (((w1.alloc o).setCell ⟨b3, 0, none⟩ x).alloc o') b0 22 (.slice (some ad) n d) := fun o x o' => ((m0.alloc o).other (by omega) x).alloc o'
  have c0sa : ∀ o x o', (((w1.alloc o).setCell ⟨b3, 0, none⟩ x).alloc o').cell? ⟨b0, 0, none⟩ = some (.slice (some ad) n d) := fun o x o' => (z0sa o x o').cell
  have z0bs : ∀ o o' x, Boxed (((w1.alloc o).alloc o').setCell ⟨b3, 0, none⟩ x) b0 22 (.slice (some ad) n d) := fun o o' x => ((m0.alloc o).alloc o').other (by omega) x
  have c0bs : ∀ o o' x, (((w1.alloc o).alloc o').setCell ⟨b3, 0, none⟩ x).cell? ⟨b0, 0, none⟩ = some (.slice (some ad) n d) := fun o o' x => (z0bs o o' x).cell
  have z3a : ∀ o, Boxed (w1.alloc o) b3 23 (.slice none 0 0) := fun o => m3.alloc o
  have c3a : ∀ o, (w1.alloc o).cell? ⟨b3, 0, none⟩ = some (.slice none 0 0) := fun o => (z3a o).cell
  have f3a : ∀ o, (w1.alloc o).frozen? ⟨b3, 0, none⟩ = false := fun o => (z3a o).frozen
  have z3b : ∀ o o', Boxed ((w1.alloc o).alloc o') b3 23 (.slice none 0 0) := fun o o' => (m3.alloc o).alloc o'
  have c3b : ∀ o o', ((w1.alloc o).alloc o').cell? ⟨b3, 0, none⟩ = some (.slice none 0 0) := fun o o' => (z3b o o').cell
  have f3b : ∀ o o', ((w1.alloc o).alloc o').frozen? ⟨b3, 0, none⟩ = false := fun o o' => (z3b o o').frozen
  have z4sa : ∀ o x o', Boxed (((w1.alloc o).setCell ⟨b3, 0, none⟩ x).alloc o') b4 23 (.slice none 0 0) := fun o x o' => ((m4.alloc o).other (by omega) x).alloc o'
  have c4sa : ∀ o x o', (((w1.alloc o).setCell ⟨b3, 0, none⟩ x).alloc o').cell? ⟨b4, 0, none⟩ = some (.slice none 0 0) := fun o x o' => (z4sa o x o').cell
  have f4sa : ∀ o x o', (((w1.alloc o).setCell ⟨b3, 0, none⟩ x).alloc o').frozen? ⟨b4, 0, none⟩ = false := fun o x o' => (z4sa o x o').frozen
  have z4bs : ∀ o o' x, Boxed (((w1.alloc o).alloc o').setCell ⟨b3, 0, none⟩ x) b4 23 (.slice none 0 0) := fun o o' x => ((m4.alloc o).alloc o').other (by omega) x
  have c4bs : ∀ o o' x, (((w1.alloc o).alloc o').setCell ⟨b3, 0, none⟩ x).cell? ⟨b4, 0, none⟩ = some (.slice none 0 0) := fun o o' x => (z4bs o o' x).cell
  have f4bs : ∀ o o' x, (((w1.alloc o).alloc o').setCell ⟨b3, 0, none⟩ x).frozen? ⟨b4, 0, none⟩ = false := fun o o' x => (z4bs o o' x).frozen
  have z5sat : ∀ o x o' y, Boxed ((((w1.alloc o).setCell ⟨b3, 0, none⟩ x).alloc o').setCell ⟨b4, 0, none⟩ y) b5 3 (.int .i64 0) := fun o x o' y => (((m5.alloc o).other (by omega) x).alloc o').other (by omega) y
  have c5sat : ∀ o x o' y, ((((w1.alloc o).setCell ⟨b3, 0, none⟩ x).alloc o').setCell ⟨b4, 0, none⟩ y).cell? ⟨b5, 0, none⟩ = some (.int .i64 0) := fun o x o' y => (z5sat o x o' y).cell
  have f5sat : ∀ o x o' y, ((((w1.alloc o).setCell ⟨b3, 0, none⟩ x).alloc o').setCell ⟨b4, 0, none⟩ y).frozen? ⟨b5, 0, none⟩ = false := fun o x o' y => (z5sat o x o' y).frozen
  have z5bst : ∀ o o' x y, Boxed ((((w1.alloc o).alloc o').setCell ⟨b3, 0, none⟩ x).setCell ⟨b4, 0, none⟩ y) b5 3 (.int .i64 0) := fun o o' x y => (((m5.alloc o).alloc o').other (by omega) x).other (by omega) y
  have c5bst : ∀ o o' x y, ((((w1.alloc o).alloc o').setCell ⟨b3, 0, none⟩ x).setCell ⟨b4, 0, none⟩ y).cell? ⟨b5, 0, none⟩ = some (.int .i64 0) := fun o o' x y => (z5bst o o' x y).cell
  have f5bst : ∀ o o' x y, ((((w1.alloc o).alloc o').setCell ⟨b3, 0, none⟩ x).setCell ⟨b4, 0, none⟩ y).frozen? ⟨b5, 0, none⟩ = false := fun o o' x y => (z5bst o o' x y).frozen
  clear z0a z0b z0s z0sa z0bs z3a z3b z4sa z4bs z5sat z5bst
  have q0 := m0.cell
  clear m0 m1 m2 m3 m4 m5 k1 hbs
  go_cut [18] from 13 to 19 (fun _ wc => ∃ gc gr, b5 < gc ∧ b5 < gr ∧ gc ≠ gr ∧ PAt w b0 b1 b2 b3 b4 b5 gc gr n d du dv (some ad) (some ud) (some vd) (fun _ => 0) (fun _ => 0) 1 wc)
  case first =>
    go_region
    all_goals
      clear c0a c0b c0s c0sa c0bs c3a f3a c3b f3b c4sa f4sa c4bs f4bs c5sat f5sat c5bst f5bst
      go_wp2_with fail
      go_meet
      case rel => first | exact pat_bs P0.out _ (fun w => row_new w n) _ _ 1 (.inl ⟨rfl, rfl⟩) | exact pat_bs P0.out _ (fun w => row_new w n) _ _ 1 (.inr ⟨rfl, rfl⟩) | exact pat_sa P0.out _ (fun w => row_new w n) 1
  case rest =>
    clear c0a c0b c0s c0sa c0bs c3a f3a c3b f3b c4sa f4sa c4bs f4bs c5sat f5sat c5bst f5bst q0 hmk hz0 hz1 hz2 hi
    obtain ⟨gc, gr, hgc, hgr, hne, hp⟩ := hcut
    have hb := P0.out.b
    have hm := hp.m.cell
    have sgc := hp.cr.lt
    have sgr := hp.rr.lt
    have PW := Lib.hid hp
    clear hp P0
    go_wp2_with fail
    refine (iplaces_any n wc).mono ?_; rintro e w4 ⟨rfl, hw4⟩
    have kc : Kp wc w4 := by rw [hw4]; exact (Kp.rfl' wc).new _
    have s4 : w4.heap.size = wc.heap.size + 1 := by rw [hw4]; simp
    have c4 : w4.cell? ⟨wc.heap.size, 0, none⟩ = some (.int .i64 (n : Int)) := by rw [hw4]; simp
    have P4 := Lib.hid (show PAt w b0 b1 b2 b3 b4 b5 gc gr n d du dv (some ad) (some ud) (some vd) (fun i => ((colTo n t u [] i).val : Int)) (fun j => ((rowTo n t v [] j).val : Int)) ((numTo n t u v []).val : Int) w4 from
      ⟨boxed_kp PW.out.m kc, boxed_kp PW.out.u kc, boxed_kp PW.out.v kc, boxed_kp PW.out.c kc, boxed_kp PW.out.r kc, boxed_kp PW.out.k kc, PW.out.cr.keep kc, PW.out.rr.keep kc, PW.out.kp.trans kc⟩)
    have hsw := PW.out.kp.size
    clear hw4 kc PW hm
    go_wp2_with fail
    refine (wpIn_wide (n := 9)).1 (wpIn_rangeFunc_ownF (F := Fence.wide) rfl (Nat.le_add_left 1 8) (gf := 56) (lb := #[.pointer (some ⟨wc.heap.size, 0, none⟩)]) rfl trivial (enters_of Tryd.func56 (by kernel_rfl) rfl)
      (iplaces_stops 8 (Nat.le_add_left 1 7) wc.heap.size n (by omega) w4 (by omega) c4)
      keepN_t (fun W l o o' _ ho h1 _ => keepN_b W l o o' ho h1) (Below.refl _ _) (fun _ => rfl)
      (fun pre W => PAt w b0 b1 b2 b3 b4 b5 gc gr n d du dv (some ad) (some ud) (some vd) (fun i => ((colTo n t u pre i).val : Int)) (fun j => ((rowTo n t v pre j).val : Int)) ((numTo n t u v pre).val : Int) W)
      (fun _ _ _ => False)
      (pat_own w b0 b1 b2 b3 b4 b5 gc gr n d du dv (some ad) (some ud) (some vd) t u v _ (by omega))
      (fun _ _ _ _ _ hs _ _ => hs)
      P4.out
      ?a1 ?assign ?body ?done ?stop)
    case assign =>
      intro l x W K hK
      unfold placeOf
      gi_wp2
      exact hK
    case body =>
      rintro l pre y W hpat _
      have PP := Lib.hid hpat
      have hc' := fun a => colTo_snoc n t u pre y a
      have hr' := fun b => rowTo_snoc n t v pre y b
      have hk' := numTo_snoc n t u v pre y
      have hi := rowOf_lt (c := n) y h0
      have hj := colOf_lt y h0
      generalize rowOf n n y = i at *
      generalize colOf n y = j at *
      have HC := Lib.hid hc'
      have HR := Lib.hid hr'
      have HK := Lib.hid hk'
      clear hc' hr' hk' hpat
      have x0 := PP.out.m.cell
      have x1 := PP.out.u.cell
      have x2 := PP.out.v.cell
      obtain ⟨ad', A1, d1, ea, _, x3, _, l1⟩ := (HA.out.keep PP.out.kp).row hi
      obtain rfl := Option.some.inj ea
      obtain ⟨ad1, rfl, _, x4⟩ := l1.el hj
      obtain ⟨ud', eu, _, x5⟩ := (HU.out.keep PP.out.kp).el hj
      obtain rfl := Option.some.inj eu
      obtain ⟨vd', ev, _, x6⟩ := (HV.out.keep PP.out.kp).el hi
      obtain rfl := Option.some.inj ev
      have y3 := PP.out.c.cell
      have y4 := PP.out.r.cell
      have y5 := PP.out.k.cell
      have f5 := PP.out.k.frozen
      have z6 := PP.out.cr.cell i (by rw [Mx.len_row]; exact hi)
      have g6 := PP.out.cr.free i
      have z7 := PP.out.rr.cell j (by rw [Mx.len_row]; exact hj)
      have g7 := PP.out.rr.free j
      rw [Mx.row_at _ _ _ hi] at z6
      rw [Mx.row_at _ _ _ hj] at z7
      have ho : w.heap.size = b0 ∧ b0 < b1 ∧ b1 < b2 ∧ b2 < b3 ∧ b3 < b4 ∧ b4 < b5 ∧ b5 < gc ∧ b5 < gr ∧ gc ≠ gr := by omega
      have HO := Lib.hid ho
      have hm1 := times_mod (t i j) (u j)
      have hm2 := times_mod (v i) (t i j)
      have hb1 := times_bound (t i j) (u j)
      have hb2 := times_bound (v i) (t i j)
      have hwm1 : IntKind.i64.wrap (((t i j).val : Int) * ((u j).val : Int)) = ((t i j).val : Int) * ((u j).val : Int) := IntWalk.i64_in _ (by omega)
      have hwm2 : IntKind.i64.wrap (((v i).val : Int) * ((t i j).val : Int)) = ((v i).val : Int) * ((t i j).val : Int) := IntWalk.i64_in _ (by omega)
      clear l1 hb1 hb2
      refine wpIn_block ?_
      gi_wp2
      refine region_tail 27 (by kernel_rfl) (by kernel_rfl) (by kernel_rfl) ?_
      simp only [List.take_succ_cons, List.take_zero, List.drop_succ_cons, List.drop_zero]
      repeat still_step
      refine wpStill_nil ?_
      go_wp2_with fail
      refine ⟨rfl, ?_⟩
      clear hm1 hm2 hwm1 hwm2
      have hs1 := isum_mod (colTo n t u pre i) (t i j * u j)
      have v1 := gval (colTo n t u pre i)
      have v2 := gval (t i j * u j)
      have hws : IntKind.i64.wrap (((colTo n t u pre i).val : Int) + ((t i j * u j).val : Int)) = ((colTo n t u pre i).val : Int) + ((t i j * u j).val : Int) := IntWalk.i64_in _ (by omega)
      clear v1 v2
      gi_wp2
      refine region_tail 10 (by kernel_rfl) (by kernel_rfl) (by kernel_rfl) ?_
      simp only [List.take_succ_cons, List.take_zero, List.drop_succ_cons, List.drop_zero]
      repeat still_step
      refine wpStill_nil ?_
      go_wp2_with fail
      refine ⟨rfl, ?_⟩
      obtain ⟨W1, hW1⟩ : ∃ x, x = (W.setCell ⟨gc, i, none⟩ (.int .i64 ((colTo n t u pre i + t i j * u j).val : Int))).drew.drew := ⟨_, rfl⟩
      have P1 := Lib.hid (show PAt w b0 b1 b2 b3 b4 b5 gc gr n d du dv (some ad) (some ud) (some vd) _ _ _ W1 by rw [hW1]; exact ((PP.out.putc ho i ((colTo n t u pre i + t i j * u j).val : Int)).drewN 1).drewN 1)
      have K1 := Lib.hid (show KeepsOthers W W1 ∧ KeepN wc.heap.size n W W1 by
        rw [hW1]; exact ⟨((KeepsOthers.setCell _ _ _).trans (KeepsOthers.drew _)).trans (KeepsOthers.drew _), keepN_t (keepN_t (keepN_set W ⟨gc, i, none⟩ _ (by show gc ≠ wc.heap.size; omega)) id) id⟩)
      rw [← hW1]
      clear hW1 x0 x1 x2 x3 x4 x5 x6 y3 y4 y5 f5 z6 g6 z7 g7 hs1 hws PP
      have y4 := P1.out.r.cell
      have z7 := P1.out.rr.cell j (by rw [Mx.len_row]; exact hj)
      have g7 := P1.out.rr.free j
      rw [Mx.row_at _ _ _ hj] at z7
      have hs1 := isum_mod (rowTo n t v pre j) (v i * t i j)
      have v1 := gval (rowTo n t v pre j)
      have v2 := gval (v i * t i j)
      have hws : IntKind.i64.wrap (((rowTo n t v pre j).val : Int) + ((v i * t i j).val : Int)) = ((rowTo n t v pre j).val : Int) + ((v i * t i j).val : Int) := IntWalk.i64_in _ (by omega)
      clear v1 v2
      gi_wp2
      refine region_tail 10 (by kernel_rfl) (by kernel_rfl) (by kernel_rfl) ?_
      simp only [List.take_succ_cons, List.take_zero, List.drop_succ_cons, List.drop_zero]
      repeat still_step
      refine wpStill_nil ?_
      go_wp2_with fail
      refine ⟨rfl, ?_⟩
      obtain ⟨W2, hW2⟩ : ∃ x, x = (W1.setCell ⟨gr, j, none⟩ (.int .i64 ((rowTo n t v pre j + v i * t i j).val : Int))).drew := ⟨_, rfl⟩
      have P2 := Lib.hid (show PAt w b0 b1 b2 b3 b4 b5 gc gr n d du dv (some ad) (some ud) (some vd) _ _ _ W2 by rw [hW2]; exact (P1.out.putr ho j ((rowTo n t v pre j + v i * t i j).val : Int)).drewN 1)
      have K2 := Lib.hid (show KeepsOthers W W2 ∧ KeepN wc.heap.size n W W2 by
        rw [hW2]; exact ⟨(K1.out.1.trans (KeepsOthers.setCell _ _ _)).trans (KeepsOthers.drew _), keepN_t (keepN_t K1.out.2 (keepN_set W1 ⟨gr, j, none⟩ _ (by show gr ≠ wc.heap.size; omega))) id⟩)
      rw [← hW2]
      clear hW2 y4 z7 g7 hs1 hws K1 P1
      have x2 := P2.out.v.cell
      have y5 := P2.out.k.cell
      have f5 := P2.out.k.frozen
      obtain ⟨vd', ev, _, x6⟩ := (HV.out.keep P2.out.kp).el hi
      obtain rfl := Option.some.inj ev
      have hs1 := imore_mod (numTo n t u v pre) (v i) (t i j * u j)
      have v1 := gval (numTo n t u v pre)
      have v2 := times_bound (v i) (t i j * u j)
      have hwm : IntKind.i64.wrap (((v i).val : Int) * ((t i j * u j).val : Int)) = ((v i).val : Int) * ((t i j * u j).val : Int) := IntWalk.i64_in _ (by omega)
      have hws : IntKind.i64.wrap (((numTo n t u v pre).val : Int) + ((v i).val : Int) * ((t i j * u j).val : Int)) = ((numTo n t u v pre).val : Int) + ((v i).val : Int) * ((t i j * u j).val : Int) := IntWalk.i64_in _ (by omega)
      clear v1 v2
      gi_wp2
      refine region_tail 9 (by kernel_rfl) (by kernel_rfl) (by kernel_rfl) ?_
      simp only [List.take_succ_cons, List.take_zero, List.drop_succ_cons, List.drop_zero]
      repeat still_step
      refine wpStill_nil ?_
      go_wp2_with fail
      refine ⟨rfl, ?_⟩
      refine ⟨(K2.out.1.trans (KeepsOthers.setCell _ _ _)).trans (KeepsOthers.drew _), keepN_t (keepN_t K2.out.2 (keepN_set W2 ⟨b5, 0, none⟩ _ (by show b5 ≠ wc.heap.size; omega))) id, ?_⟩
      refine ((P2.out.putk ho ((numTo n t u v pre + v i * (t i j * u j)).val : Int)).drewN 1).ext (fun a _ => ?_) (fun a _ => ?_) ?_
      · rw [HC.out a]
        by_cases e : a = i
        · rw [if_pos e, if_pos e, e]
        · rw [if_neg e, if_neg e]
      · rw [HR.out a]
        by_cases e : a = j
        · rw [if_pos e, if_pos e, e]
        · rw [if_neg e, if_neg e]
      · rw [HK.out]
    case done =>
      rintro D ys W hD rfl hpat hK
      have y3 := hpat.c.cell
      have y4 := hpat.r.cell
      have y5 := hpat.k.cell
      have g3 := hpat.c.frozen
      have g4 := hpat.r.frozen
      have g5 := hpat.k.frozen
      have s3 := boxed_same hpat.c
      have s4 := boxed_same hpat.r
      have s5 := boxed_same hpat.k
      have PP := Lib.hid hpat
      clear hpat
      go_upto_region 9 with (fail)
      go_region
      go_wp2_with fail
      have hD2 : w.heap.size ≤ D := by omega
      have PX := pat_own w b0 b1 b2 b3 b4 b5 gc gr n d du dv (some ad) (some ud) (some vd) t u v w.heap.size (Nat.le_refl _) (List.range (n * n)) W.drew (W.drew.putObj D (.deferred none)) (some D) (PP.out.drewN 1) (grownBy_putObj' _ _ _) (fun r e => by cases e; exact ⟨hD2, _, hK, rfl⟩)
      refine ⟨by simp, .inl ⟨_, _, rfl, run_takeDeferred (w := W.drew) hK, ?_⟩⟩
      have e3 := PX.c.cell
      have e4 := PX.r.cell
      have e5 := PX.k.cell
      rw [numTo_all] at e5
      refine ⟨.tuple #[.slice (some ⟨gc, 0, none⟩) n n, .slice (some ⟨gr, 0, none⟩) n n, .int .i64 ((Mx.bent n t u v).val : Int)], by simp [results, Tryd.results40, go_sem, e3, e4, e5], ?_⟩
      refine ⟨gc, gr, rfl, ?_, ?_, PX.kp⟩
      · rw [← Mx.row_ext (g := fun i => ((colTo n t u (List.range (n * n)) i).val : Int)) (fun i hi => by rw [colTo_all n t u i hi])]
        exact PX.cr
      · rw [← Mx.row_ext (g := fun i => ((rowTo n t v (List.range (n * n)) i).val : Int)) (fun i hi => by rw [rowTo_all n t v i hi])]
        exact PX.rr
    case stop =>
      rintro D c pre W _ _ h _
      exact h.elim

end Go.Proofs.YtofdhdnffkhojaaDoor

/- Contract of package inv's Change. -/
namespace Go.Proofs.YtofdhdnffkhojaaDoor
open Go.ChangeShapes Go.WideShapes Go.ChangeAt Go.RowKit Go.Shelf
set_option linter.unusedVariables false
attribute [local go_sem] Oper.semAt_some

set_option maxRecDepth 100000 in
set_option maxHeartbeats 1600000 in
theorem Chg_bad (A U V : Option Addr) (m : List (List Int)) (n d p q c c' : Nat) (w : World) (ha : LiesM w A m) (hn : m.length = n) (h : qcode 5 0 9972 m ≠ 0) :
    Calls Tryd.prog 16 #[.slice A n d, .slice U p c, .slice V q c'] w fun e w' => e = .returned (.tuple #[.slice none 0 0, errOf (qcode 5 0 9972 m)]) ∧ Kp w w' := by
  have CK := Lib.hid (fun w' (h : Kp w w') => DChk_any A m n d w' (ha.keep h) hn)
  rw [errOf_ne _ h] at CK ⊢
  generalize qcode 5 0 9972 m = z at *
  have k1 := Lib.hid ((Kp.rfl' w).new (.cells #[.slice A n d] 22))
  clear ha hn h
  go_enter Tryd.func16, Tryd.ntmps16
  go_wp2_with fail
  refine (CK.out _ k1.out).mono ?_; rintro e w' ⟨rfl, rfl⟩
  go_wp2_with fail
  go_ret2
  exact ⟨rfl, k1.out⟩

set_option maxRecDepth 100000 in
set_option maxHeartbeats 1600000 in
theorem Chg_shape (A U V : Option Addr) (m : List (List Int)) (l l' : List Int) (n d p q c c' : Nat) (w : World) (ha : LiesM w A m) (hu : Lies w U l) (hv : Lies w V l') (hn : m.length = n) (hp : l.length = p) (hq : l'.length = q) (h0 : 0 < n) (hn5 : n ≤ 5)
    (h : qcode 5 0 9972 m = 0) (h2 : fcode n l l' ≠ 0) :
    Calls Tryd.prog 16 #[.slice A n d, .slice U p c, .slice V q c'] w fun e w' => e = .returned (.tuple #[.slice none 0 0, errOf (fcode n l l')]) ∧ Kp w w' := by
  have CK := Lib.hid (fun w' (h : Kp w w') => DChk_any A m n d w' (ha.keep h) hn)
  rw [h, errOf_zero] at CK
  have CF := Lib.hid (fun w' (h : Kp w w') => checkFactors_any U V l l' n p q c c' w' (hu.keep h) (hv.keep h) hp hq h0 hn5)
  rw [errOf_ne _ h2] at CF ⊢
  generalize fcode n l l' = z at *
  have k1 := Lib.hid ((Kp.rfl' w).new (.cells #[.slice A n d] 22))
  clear ha hn h h0 h2 hp hq hu hv
  go_enter Tryd.func16, Tryd.ntmps16
  go_wp2_with fail
  refine (CK.out _ k1.out).mono ?_; rintro e w' ⟨rfl, rfl⟩
  go_wp2_with fail
  refine (CF.out _ k1.out).mono ?_; rintro e w' ⟨rfl, k2⟩
  have K2 := Lib.hid (k1.out.trans k2)
  clear k2
  go_wp2_with fail
  go_ret2
  exact ⟨rfl, K2.out⟩

theorem fcode_rows (n : Nat) (u v : Nat → Fp.F) : fcode n (Mx.row n fun i => ((u i).val : Int)) (Mx.row n fun i => ((v i).val : Int)) = 0 := by
  unfold fcode
  rw [if_neg (by rw [Mx.len_row, Mx.len_row]; omega), if_pos]
  intro x hx
  rcases List.mem_append.1 hx with hx | hx
  · obtain ⟨i, _, rfl⟩ := List.mem_map.1 hx
    exact gval _
  · obtain ⟨i, _, rfl⟩ := List.mem_map.1 hx
    exact gval _

set_option maxRecDepth 100000 in
set_option maxHeartbeats 1600000 in
theorem Chg_none (A U V : Option Addr) (t : Nat → Nat → Fp.F) (u v : Nat → Fp.F) (n d du dv : Nat) (w : World) (ha : LiesM w A (Mx.matl n n t)) (hu : Lies w U (Mx.row n fun i => ((u i).val : Int))) (hv : Lies w V (Mx.row n fun i => ((v i).val : Int))) (h0 : 0 < n) (hn : n ≤ 5)
    (hz : Mx.bent n t u v = 0) :
    Calls Tryd.prog 16 #[.slice A n d, .slice U n du, .slice V n dv] w fun e w' => e = .returned (.tuple #[.slice none 0 0, errOf 5]) ∧ Kp w w' := by
  have CK := Lib.hid (fun w' (h : Kp w w') => DChk_any A _ n d w' (ha.keep h) (Mx.len_matl n n t))
  rw [qcode_matl t h0 hn, errOf_zero] at CK
  have CF := Lib.hid (fun w' (h : Kp w w') => checkFactors_any U V _ _ n n n du dv w' (hu.keep h) (hv.keep h) (Mx.len_row _ _) (Mx.len_row _ _) h0 hn)
  rw [fcode_rows, errOf_zero] at CF
  have PR := Lib.hid (fun w' (h : Kp w w') => products_any A U V t u v n d du dv w' (ha.keep h) (hu.keep h) (hv.keep h) h0 hn)
  rw [hz, show (((0 : Fp.F).val : Nat) : Int) = 0 from rfl] at PR
  have DV := Lib.hid (fun w => div_zero 1 w)
  have k1 := Lib.hid ((Kp.rfl' w).new (.cells #[.slice A n d] 22))
  have c1 : (w.alloc (.cells #[.slice A n d] 22)).cell? ⟨w.heap.size, 0, none⟩ = some (.slice A n d) := by simp
  obtain ⟨w1, hw1⟩ : ∃ x, x = w.alloc (.cells #[.slice A n d] 22) := ⟨_, rfl⟩
  have s1 : w.heap.size < w1.heap.size := by rw [hw1]; simp
  rw [← hw1] at c1 k1
  have HW := Lib.hid hw1
  clear ha hu hv h0 hn hz hw1
  go_enter Tryd.func16, Tryd.ntmps16
  go_upto_region 1 with (fail)
  rw [← HW.out]
  go_wp2_with fail
  refine (CK.out _ k1.out).mono ?_; rintro e w' ⟨rfl, rfl⟩
  go_wp2_with fail
  refine (CF.out _ k1.out).mono ?_; rintro e w2 ⟨rfl, k2⟩
  have K2 := Lib.hid (k1.out.trans k2)
  have c2 := (k2.cell (p := ⟨w.heap.size, 0, none⟩) s1).trans c1
  clear k2 c1
  go_wp2_with fail
  refine (PR.out _ K2.out).mono ?_; rintro e w3 ⟨gc, gr, rfl, r1, r2, k3⟩
  have K3 := Lib.hid (K2.out.trans k3)
  clear k3 c2 r1 r2
  go_wp2_with fail
  refine (DV.out _).mono ?_; rintro e w4 ⟨rfl, rfl⟩
  have K4 := Lib.hid (((K3.out.new (.cells #[.slice (some ⟨gc, 0, none⟩) n n] 23)).new (.cells #[.slice (some ⟨gr, 0, none⟩) n n] 23)).new (.cells #[.int .i64 0] 3))
  go_wp2_with fail
  go_ret2
  exact ⟨rfl, K4.out⟩

/-- The variables of Change in its loop, and the matrix in the making. -/
structure ChAt (w0 : World) (b0 bc br bf bx gc gr g n d : Nat) (A : Option Addr) (G : Nat → Nat) (cf rf : Nat → Int) (x : Int) (f : Nat → Nat → Int) (W : World) : Prop where
  m : W.cell? ⟨b0, 0, none⟩ = some (.slice A n d)
  c : W.cell? ⟨bc, 0, none⟩ = some (.slice (some ⟨gc, 0, none⟩) n n)
  r : W.cell? ⟨br, 0, none⟩ = some (.slice (some ⟨gr, 0, none⟩) n n)
  x : W.cell? ⟨bf, 0, none⟩ = some (.int .i64 x)
  b : W.cell? ⟨bx, 0, none⟩ = some (.slice (some ⟨g, 0, none⟩) n n)
  cr : Row W gc (Mx.row n cf)
  rr : Row W gr (Mx.row n rf)
  gr : Grid W g G n n f
  kp : Kp w0 W
theorem chat_own (w0 : World) (b0 bc br bf bx gc gr g n d : Nat) (A : Option Addr) (G : Nat → Nat) (cf rf : Nat → Int) (x : Int) (f : List Nat → Nat → Nat → Int) (B : Nat) (hw : w0.heap.size ≤ B) :
    OwnFrom B (fun (pre : List Nat) W => ChAt w0 b0 bc br bf bx gc gr g n d A G cf rf x (f pre) W) := fun s W W' row h hg hr => by
  have hr' : ∀ r, row = some r → ∃ o : Obj, W.heap[r]? = some o ∧ o.isCells = false := fun r e => (hr r e).2
  exact ⟨cell_kept h.m hg hr', cell_kept h.c hg hr', cell_kept h.r hg hr', cell_kept h.x hg hr', cell_kept h.b hg hr', rowg_kept h.cr hg hr', rowg_kept h.rr hg hr', h.gr.kept hg hr', h.kp.grown hg h.kp.size (fun k e => Nat.le_trans hw (hr k e).1)⟩
theorem ChAt.put {w0 : World} {b0 bc br bf bx gc gr g n d : Nat} {A : Option Addr} {G : Nat → Nat} {cf rf : Nat → Int} {x : Int} {f : Nat → Nat → Int} {W : World} (h : ChAt w0 b0 bc br bf bx gc gr g n d A G cf rf x f W) {i : Nat} (hi : i < n) (j : Nat) (z : Int)
    (o : b0 ≠ G i ∧ bc ≠ G i ∧ br ≠ G i ∧ bf ≠ G i ∧ bx ≠ G i ∧ gc ≠ G i ∧ gr ≠ G i ∧ w0.heap.size ≤ G i) :
    ChAt w0 b0 bc br bf bx gc gr g n d A G cf rf x (fun a b => if a = i ∧ b = j then z else f a b) (W.setCell ⟨G i, j, none⟩ (.int .i64 z)) := by
  have far : ∀ (b : Nat) (v : Value), b ≠ G i → W.cell? ⟨b, 0, none⟩ = some v → (W.setCell ⟨G i, j, none⟩ (.int .i64 z)).cell? ⟨b, 0, none⟩ = some v := fun b v hb hv => (World.cell?_setCell_far W ⟨G i, j, none⟩ ⟨b, 0, none⟩ _ (fun e => hb e.symm)).trans hv
  exact ⟨far _ _ (by omega) h.m, far _ _ (by omega) h.c, far _ _ (by omega) h.r, far _ _ (by omega) h.x, far _ _ (by omega) h.b, h.cr.far (by show gc ≠ G i; omega) _, h.rr.far (by show gr ≠ G i; omega) _, h.gr.put hi j z, h.kp.put (p := ⟨G i, j, none⟩) (by show w0.heap.size ≤ G i; omega) _⟩

set_option maxRecDepth 100000 in
set_option maxHeartbeats 3200000 in
theorem Chg_ok (A U V : Option Addr) (t : Nat → Nat → Fp.F) (u v : Nat → Fp.F) (n d du dv : Nat) (w : World) (ha : LiesM w A (Mx.matl n n t)) (hu : Lies w U (Mx.row n fun i => ((u i).val : Int))) (hv : Lies w V (Mx.row n fun i => ((v i).val : Int))) (h0 : 0 < n) (hn : n ≤ 5)
    (hz : Mx.bent n t u v ≠ 0) :
    Calls Tryd.prog 16 #[.slice A n d, .slice U n du, .slice V n dv] w fun e w' => ∃ g, e = .returned (.tuple #[.slice (some ⟨g, 0, none⟩) n n, .nilIface]) ∧ LiesM w' (some ⟨g, 0, none⟩) (Mx.matl n n (Mx.shm n t u v)) ∧ Kp w w' := by
  obtain ⟨ad, A0, d0, rfl, -, -, -, -⟩ := ha.row h0
  have CK := Lib.hid (fun w' (h : Kp w w') => DChk_any (some ad) _ n d w' (ha.keep h) (Mx.len_matl n n t))
  rw [qcode_matl t h0 hn, errOf_zero] at CK
  have CF := Lib.hid (fun w' (h : Kp w w') => checkFactors_any U V _ _ n n n du dv w' (hu.keep h) (hv.keep h) (Mx.len_row _ _) (Mx.len_row _ _) h0 hn)
  rw [fcode_rows, errOf_zero] at CF
  have PR := Lib.hid (fun w' (h : Kp w w') => products_any (some ad) U V t u v n d du dv w' (ha.keep h) (hu.keep h) (hv.keep h) h0 hn)
  have DV := Lib.hid (fun w => div_el 1 (Mx.bent n t u v) w hz)
  have HA := Lib.hid ha
  obtain ⟨x, hx⟩ : ∃ x, x = (1 : Fp.F) * Fp.inv (Mx.bent n t u v) := ⟨_, rfl⟩
  rw [← hx] at DV
  have HX := Lib.hid (show ∀ a b, t a b - Mx.colv n t u a * Mx.rowv n v t b * x = Mx.shm n t u v a b from fun a b => by rw [hx]; unfold Mx.shm; grind)
  have k1 := Lib.hid ((Kp.rfl' w).new (.cells #[.slice (some ad) n d] 22))
  have c1 : (w.alloc (.cells #[.slice (some ad) n d] 22)).cell? ⟨w.heap.size, 0, none⟩ = some (.slice (some ad) n d) := by simp
  obtain ⟨w1, hw1⟩ : ∃ x, x = w.alloc (.cells #[.slice (some ad) n d] 22) := ⟨_, rfl⟩
  have s1 : w.heap.size < w1.heap.size := by rw [hw1]; simp
  rw [← hw1] at c1 k1
  have HW := Lib.hid hw1
  obtain ⟨cf, hcf⟩ : ∃ cf, cf = Mx.colv n t u := ⟨_, rfl⟩
  obtain ⟨rf, hrf⟩ : ∃ rf, rf = Mx.rowv n v t := ⟨_, rfl⟩
  rw [← hcf] at PR HX
  rw [← hrf] at PR HX
  generalize Mx.bent n t u v = kk at *
  clear ha hu hv hz hw1 hcf hrf hx
  refine callsIn_wide.1 (callsIn_of_wp_marks (F := Fence.wide) (n := 9) Tryd.func16 rfl trivial ?_ rfl)
  simp only [Tryd.ntmps16, List.size_toArray, List.length_cons, List.length_nil, Nat.reduceAdd, Nat.reduceSub, Array.replicate_succ, Array.replicate_zero, List.push_toArray, List.append_toArray, List.nil_append, List.cons_append]
  refine wpIn_wide.2 ?_
  go_upto_region 1 with (fail)
  rw [← HW.out]
  go_wp2_with fail
  refine (CK.out _ k1.out).mono ?_; rintro e w' ⟨rfl, rfl⟩
  go_wp2_with fail
  refine (CF.out _ k1.out).mono ?_; rintro e w2 ⟨rfl, k2⟩
  have K2 := Lib.hid (k1.out.trans k2)
  have c2 := (k2.cell (p := ⟨w.heap.size, 0, none⟩) s1).trans c1
  have s2 : w.heap.size < w2.heap.size := Nat.lt_of_lt_of_le s1 k2.size
  clear k2 c1
  go_wp2_with fail
  refine (PR.out _ K2.out).mono ?_; rintro e w3 ⟨gc, gr, rfl, r1, r2, k3⟩
  have c3 := (k3.cell (p := ⟨w.heap.size, 0, none⟩) s2).trans c2
  have s3 : w.heap.size < w3.heap.size := Nat.lt_of_lt_of_le s2 k3.size
  have K3 := Lib.hid (K2.out.trans k3)
  have R1 := Lib.hid r1
  have R2 := Lib.hid r2
  clear k3 c2 r1 r2
  go_wp2_with fail
  obtain ⟨bc, hbc⟩ : ∃ y, y = w3.heap.size := ⟨_, rfl⟩
  obtain ⟨br, hbr⟩ : ∃ y, y = bc + 1 := ⟨_, rfl⟩
  obtain ⟨w4, hw4⟩ : ∃ y, y = (w3.alloc (.cells #[.slice (some ⟨gc, 0, none⟩) n n] 23)).alloc (.cells #[.slice (some ⟨gr, 0, none⟩) n n] 23) := ⟨_, rfl⟩
  have k4 : Kp w3 w4 := by rw [hw4]; exact ((Kp.rfl' w3).new _).new _
  have s4 : w4.heap.size = br + 1 := by rw [hw4]; simp; omega
  have p4 : w4.cell? ⟨bc, 0, none⟩ = some (.slice (some ⟨gc, 0, none⟩) n n) := by rw [hw4, hbc]; simp
  have q4 : w4.cell? ⟨br, 0, none⟩ = some (.slice (some ⟨gr, 0, none⟩) n n) := by rw [hw4, hbr, hbc]; simp
  rw [← hw4, ← hbc, ← hbr]
  have c4 := (k4.cell (p := ⟨w.heap.size, 0, none⟩) s3).trans c3
  have K4 := Lib.hid (K3.out.trans k4)
  have R1' := Lib.hid (R1.out.keep k4)
  have R2' := Lib.hid (R2.out.keep k4)
  have lgc := R1.out.lt
  have lgr := R2.out.lt
  have O4 := Lib.hid (show w.heap.size < bc ∧ bc < br ∧ gc < bc ∧ gr < bc ∧ w4.heap.size = br + 1 by omega)
  clear hw4 k4 c3 K3 R1 R2 hbc hbr s4 lgc lgr s1 s2 s3 HW k1
  refine (DV.out _).mono ?_; rintro e w5 ⟨rfl, k5⟩
  have k5 := k5.kp
  have c5 := (k5.cell (p := ⟨w.heap.size, 0, none⟩) (by have := O4.out; show w.heap.size < _; omega)).trans c4
  have O5 := Lib.hid (show w4.heap.size ≤ w5.heap.size from k5.size)
  have l5 : w.heap.size < w5.heap.size := cell_lt c5
  go_wp2_with fail
  obtain ⟨bf, hbf⟩ : ∃ y, y = w5.heap.size := ⟨_, rfl⟩
  obtain ⟨w6, hw6⟩ : ∃ y, y = w5.alloc (.cells #[.int .i64 (x.val : Int)] 3) := ⟨_, rfl⟩
  have k6 : Kp w5 w6 := by rw [hw6]; exact (Kp.rfl' w5).new _
  have s6 : w6.heap.size = bf + 1 := by rw [hw6, hbf]; simp
  have x6 : w6.cell? ⟨bf, 0, none⟩ = some (.int .i64 (x.val : Int)) := by rw [hw6, hbf]; simp
  have k46 := k5.trans k6
  have O6 := Lib.hid (show w.heap.size < bc ∧ bc < br ∧ br < bf ∧ gc < bc ∧ gr < bc ∧ w6.heap.size = bf + 1 by have := O4.out; have := O5.out; omega)
  have c6 := (k6.cell (p := ⟨w.heap.size, 0, none⟩) (cell_lt c5)).trans c5
  have K6 := Lib.hid (K4.out.trans k46)
  have S6 := Lib.hid (show Row w6 gc _ ∧ Row w6 gr _ ∧ w6.cell? ⟨bc, 0, none⟩ = some (.slice (some ⟨gc, 0, none⟩) n n) ∧ w6.cell? ⟨br, 0, none⟩ = some (.slice (some ⟨gr, 0, none⟩) n n) ∧ w6.cell? ⟨bf, 0, none⟩ = some (.int .i64 (x.val : Int)) from
    ⟨R1'.out.keep k46, R2'.out.keep k46, (k46.cell (p := ⟨bc, 0, none⟩) (cell_lt p4)).trans p4, (k46.cell (p := ⟨br, 0, none⟩) (cell_lt q4)).trans q4, x6⟩)
  rw [← hw6, ← hbf]
  clear hw6 k5 k6 k46 c4 c5 p4 q4 K4 R1' R2' hbf s6 x6 O4 O5
  have ZE := izero_any n w6 (by omega)
  refine ZE.mono ?_; rintro e w7 ⟨G, rfl, gr7, k7⟩
  obtain ⟨g, hg⟩ : ∃ y, y = w6.heap.size := ⟨_, rfl⟩
  rw [← hg] at gr7 ⊢
  have c7 := (k7.cell (p := ⟨w.heap.size, 0, none⟩) (cell_lt c6)).trans c6
  have K7 := Lib.hid (K6.out.trans k7)
  have S7 := Lib.hid (show Row w7 gc _ ∧ Row w7 gr _ ∧ w7.cell? ⟨bc, 0, none⟩ = some (.slice (some ⟨gc, 0, none⟩) n n) ∧ w7.cell? ⟨br, 0, none⟩ = some (.slice (some ⟨gr, 0, none⟩) n n) ∧ w7.cell? ⟨bf, 0, none⟩ = some (.int .i64 (x.val : Int)) from
    ⟨S6.out.1.keep k7, S6.out.2.1.keep k7, (k7.cell (p := ⟨bc, 0, none⟩) (cell_lt S6.out.2.2.1)).trans S6.out.2.2.1, (k7.cell (p := ⟨br, 0, none⟩) (cell_lt S6.out.2.2.2.1)).trans S6.out.2.2.2.1, (k7.cell (p := ⟨bf, 0, none⟩) (cell_lt S6.out.2.2.2.2)).trans S6.out.2.2.2.2⟩)
  have GR7 := Lib.hid gr7
  have O7 := Lib.hid (show w.heap.size < bc ∧ bc < br ∧ br < bf ∧ gc < bc ∧ gr < bc ∧ g = bf + 1 ∧ (∀ i, i < n → g < G i ∧ G i < w7.heap.size) from by
    have := O6.out
    exact ⟨by omega, by omega, by omega, by omega, by omega, by omega, fun i hi => ⟨gr7.after i hi, (gr7.row i hi).lt⟩⟩)
  have l7 : w.heap.size < w7.heap.size := cell_lt c7
  clear k7 c6 K6 S6 O6 gr7 hg ZE l5
  go_wp2_with fail
  obtain ⟨bx, hbx⟩ : ∃ y, y = w7.heap.size := ⟨_, rfl⟩
  obtain ⟨w8, hw8⟩ : ∃ y, y = w7.alloc (.cells #[.slice (some ⟨g, 0, none⟩) n n] 22) := ⟨_, rfl⟩
  have k8 : Kp w7 w8 := by rw [hw8]; exact (Kp.rfl' w7).new _
  have s8 : w8.heap.size = bx + 1 := by rw [hw8, hbx]; simp
  have x8 : w8.cell? ⟨bx, 0, none⟩ = some (.slice (some ⟨g, 0, none⟩) n n) := by rw [hw8, hbx]; simp
  rw [← hw8, ← hbx]
  rw [← hbx] at O7
  refine (iplaces_any n w8).mono ?_; rintro e w9 ⟨rfl, hw9⟩
  have k9 : Kp w8 w9 := by rw [hw9]; exact (Kp.rfl' w8).new _
  have n9 : w9.cell? ⟨bx + 1, 0, none⟩ = some (.int .i64 (n : Int)) := by rw [hw9, ← s8]; simp
  have s9 : w9.heap.size = bx + 2 := by rw [hw9]; simp [s8]
  rw [s8]
  have k79 := k8.trans k9
  have P9 := Lib.hid (show ChAt w w.heap.size bc br bf bx gc gr g n d (some ad) G (fun i => ((cf i).val : Int)) (fun i => ((rf i).val : Int)) (x.val : Int) (fun a b => ((Mx.setl n n (Mx.shm n t u v) [] a b).val : Int)) w9 from
    ⟨(k79.cell (p := ⟨w.heap.size, 0, none⟩) (cell_lt c7)).trans c7, (k79.cell (p := ⟨bc, 0, none⟩) (cell_lt S7.out.2.2.1)).trans S7.out.2.2.1, (k79.cell (p := ⟨br, 0, none⟩) (cell_lt S7.out.2.2.2.1)).trans S7.out.2.2.2.1,
      (k79.cell (p := ⟨bf, 0, none⟩) (cell_lt S7.out.2.2.2.2)).trans S7.out.2.2.2.2, (k9.cell (p := ⟨bx, 0, none⟩) (cell_lt x8)).trans x8, S7.out.1.keep k79, S7.out.2.1.keep k79, (GR7.out.keep k79).ext (fun _ _ _ _ => rfl), K7.out.trans k79⟩)
  clear hw9 hw8 hbx k8 k9 k79 x8 c7 S7 GR7 K7
  go_wp2_with fail
  refine (wpIn_wide (n := 9)).1 (wpIn_rangeFunc_ownF (F := Fence.wide) rfl (Nat.le_add_left 1 8) (gf := 56) (lb := #[.pointer (some ⟨bx + 1, 0, none⟩)]) rfl trivial (enters_of Tryd.func56 (by kernel_rfl) rfl)
    (iplaces_stops 8 (Nat.le_add_left 1 7) (bx + 1) n (by omega) w9 (by omega) n9)
    keepN_t (fun W l o o' _ ho h1 _ => keepN_b W l o o' ho h1) (Below.refl _ _) (fun _ => rfl)
    (fun pre W => ChAt w w.heap.size bc br bf bx gc gr g n d (some ad) G (fun i => ((cf i).val : Int)) (fun i => ((rf i).val : Int)) (x.val : Int) (fun a b => ((Mx.setl n n (Mx.shm n t u v) pre a b).val : Int)) W)
    (fun _ _ _ => False)
    (chat_own w w.heap.size bc br bf bx gc gr g n d (some ad) G _ _ _ _ _ (by have := P9.out.kp.size; omega))
    (fun _ _ _ _ _ hs _ _ => hs)
    P9.out
    ?a1 ?assign ?body ?done ?stop)
  case assign =>
    intro l x W K hK
    unfold placeOf
    gi_wp2
    exact hK
  case body =>
    rintro l pre y W hch _
    have PP := Lib.hid hch
    have hst := fun a b => Mx.setl_snoc n n (Mx.shm n t u v) pre y a b
    change ∀ a b, _ = if a = rowOf n n y ∧ b = colOf n y then _ else _ at hst
    have hi := rowOf_lt (c := n) y h0
    have hj := colOf_lt y h0
    generalize rowOf n n y = i at *
    generalize colOf n y = j at *
    have HST := Lib.hid hst
    clear hst hch
    have x0 := PP.out.m
    have x1 := PP.out.c
    have x2 := PP.out.r
    have x3 := PP.out.x
    have x4 := PP.out.b
    have y1 := PP.out.cr.cell i (by rw [Mx.len_row]; exact hi)
    have y2 := PP.out.rr.cell j (by rw [Mx.len_row]; exact hj)
    rw [Mx.row_at _ _ _ hi] at y1
    rw [Mx.row_at _ _ _ hj] at y2
    have z1 := PP.out.gr.cell hi
    have z2 := PP.out.gr.el hi hj
    have z3 := PP.out.gr.free hi j
    obtain ⟨ad', A1, d1, ea, _, x5, _, l1⟩ := (HA.out.keep PP.out.kp).row hi
    obtain rfl := Option.some.inj ea
    obtain ⟨ad1, rfl, _, x6⟩ := l1.el hj
    obtain ⟨p, hp⟩ : ∃ p, p = cf i * rf j := ⟨_, rfl⟩
    have hm1 := times_mod (cf i) (rf j)
    have hb1 := times_bound (cf i) (rf j)
    have hwm1 : IntKind.i64.wrap (((cf i).val : Int) * ((rf j).val : Int)) = ((cf i).val : Int) * ((rf j).val : Int) := IntWalk.i64_in _ (by omega)
    rw [← hp] at hm1
    have HP := Lib.hid hp
    clear l1 hb1 hp
    refine wpIn_block ?_
    gi_wp2
    refine region_tail 10 (by kernel_rfl) (by kernel_rfl) (by kernel_rfl) ?_
    simp only [List.take_succ_cons, List.take_zero, List.drop_succ_cons, List.drop_zero]
    repeat still_step
    refine wpStill_nil ?_
    go_wp2_with fail
    refine ⟨rfl, ?_⟩
    clear hwm1 hm1
    have hl := less_mod (t i j) p x
    have vp := gval p
    have vt := gval (t i j)
    have hb := less_bound p x
    have hws : IntKind.i64.wrap (9973 - (p.val : Int)) = 9973 - (p.val : Int) := IntWalk.i64_in _ (by omega)
    have hwm : IntKind.i64.wrap ((9973 - (p.val : Int)) * (x.val : Int)) = (9973 - (p.val : Int)) * (x.val : Int) := IntWalk.i64_in _ (by omega)
    have hwa : IntKind.i64.wrap (((t i j).val : Int) + (9973 - (p.val : Int)) * (x.val : Int)) = ((t i j).val : Int) + (9973 - (p.val : Int)) * (x.val : Int) := IntWalk.i64_in _ (by omega)
    clear vp vt hb
    gi_wp2
    refine region_tail 19 (by kernel_rfl) (by kernel_rfl) (by kernel_rfl) ?_
    simp only [List.take_succ_cons, List.take_zero, List.drop_succ_cons, List.drop_zero]
    repeat still_step
    refine wpStill_nil ?_
    go_wp2_with fail
    refine ⟨rfl, ?_⟩
    obtain ⟨o1, o2, o3, o4, o5, o6, o7⟩ := O7.out
    have o7 := o7 i hi
    have hsw := PP.out.kp.size
    have ho : w.heap.size ≠ G i ∧ bc ≠ G i ∧ br ≠ G i ∧ bf ≠ G i ∧ bx ≠ G i ∧ gc ≠ G i ∧ gr ≠ G i ∧ w.heap.size ≤ G i := by omega
    refine ⟨((KeepsOthers.setCell W ⟨G i, j, none⟩ _).trans (KeepsOthers.drew _)).trans (KeepsOthers.drew _), keepN_t (keepN_t (keepN_set W ⟨G i, j, none⟩ _ (by show G i ≠ bx + 1; omega)) id) id, ?_⟩
    have PF := PP.out.put hi j ((t i j - p * x).val : Int) ho
    refine ⟨PF.m, PF.c, PF.r, PF.x, PF.b, PF.cr, PF.rr, (((PF.gr.keep ((Kp.rfl' _).drewN 1)).keep ((Kp.rfl' _).drewN 1))).ext fun a b _ _ => ?_, (PF.kp.drewN 1).drewN 1⟩
    rw [HST.out a b]
    by_cases e : a = i ∧ b = j
    · rw [if_pos e, if_pos e, e.1, e.2, ← HX.out i j, HP.out]
    · rw [if_neg e, if_neg e]
  case done =>
    rintro D ys W hD rfl hch hK
    have x4 := hch.b
    have PP := Lib.hid hch
    clear hch
    go_wp2_with fail
    have hD2 : w.heap.size ≤ D := by have := P9.out.kp.size; omega
    have PX := chat_own w w.heap.size bc br bf bx gc gr g n d (some ad) G (fun i => ((cf i).val : Int)) (fun i => ((rf i).val : Int)) (x.val : Int) (fun pre a b => ((Mx.setl n n (Mx.shm n t u v) pre a b).val : Int)) w.heap.size (Nat.le_refl _) (List.range (n * n)) W (W.putObj D (.deferred none)) (some D) PP.out (grownBy_putObj' _ _ _) (fun r e => by cases e; exact ⟨hD2, _, hK, rfl⟩)
    refine ⟨by simp, .inl ⟨_, _, rfl, run_takeDeferred hK, ?_⟩⟩
    refine ⟨.tuple #[.slice (some ⟨g, 0, none⟩) n n, .nilIface], by simp [results, Tryd.results16, go_sem], ?_⟩
    refine ⟨g, rfl, ?_, PX.kp⟩
    have hl := PX.gr.lies
    rw [← (Mx.setl_all n n (Mx.shm n t u v)).mat]; exact hl
  case stop =>
    rintro D c pre W _ _ h _
    exact h.elim

end Go.Proofs.YtofdhdnffkhojaaDoor

/- A row of heads of the call's own, whatever they point to: append of one, and the matrix that lies. For all packages. -/
namespace Go.Proofs.YtofdhdnffkhojaaDoor
open Go.ChangeShapes Go.WideShapes Go.ChangeAt Go.RowKit
set_option linter.unusedVariables false

/-- The slice value v is the call's own and holds k heads. -/
def HdsV (w : World) (B : Nat) (v : Value) (k : Nat) (H : Nat → Value) : Prop := w.ownsRow B 23 1 v k ((List.range k).map H)
theorem hdsV_none (w : World) (B : Nat) (H : Nat → Value) : HdsV w B (.slice none 0 0) 0 H := World.ownsRow_nil _ _ _ _
theorem HdsV.kp {w w' : World} {B k : Nat} {v : Value} {H : Nat → Value} (h : HdsV w B v k H) (hk : Kp w w') : HdsV w' B v k H := ownsRow_kp h hk
theorem HdsV.new {w : World} {B k : Nat} {v : Value} {H : Nat → Value} (h : HdsV w B v k H) (o : Obj) : HdsV (w.alloc o) B v k H := h.kp ((Kp.rfl' w).new o)
/-- Where they lie, and what lies beneath. -/
theorem HdsV.form {w : World} {B k : Nat} {v : Value} {H : Nat → Value} (h : HdsV w B v k H) : ∃ A c, v = .slice A k c ∧ k ≤ c ∧ ∀ i, i < k → ∃ ad, A = some ad ∧ ad.block < w.heap.size ∧ w.cell? (ad.add i) = some (H i) := by
  rcases h.2 with ⟨rfl, h0⟩ | ⟨g, cap, cur, hv, hg, hh, hc, hm, hs, ht⟩
  · obtain rfl : k = 0 := h0
    exact ⟨Option.none, 0, rfl, Nat.le_refl _, fun i hi => absurd hi (by omega)⟩
  · refine ⟨_, cap, hv, hc, fun i hi => ⟨_, rfl, ?_, ?_⟩⟩
    · rcases Nat.lt_or_ge g w.heap.size with h' | h'
      · exact h'
      · rw [Array.getElem?_eq_none h'] at hh; cases hh
    · have ht' : cur.toList.take k = (List.range k).map H := by simpa using ht
      rw [add_at, cell_of_row _ _ i _ _ (0, 0) hh, ← Array.getElem?_toList, ← List.getElem?_take_of_lt hi, ht']
      simp [hi]
theorem HdsV.lies {w : World} {B k : Nat} {v : Value} {H : Nat → Value} {m : List (List Int)} (h : HdsV w B v k H) (hm : m.length = k) (hr : ∀ i, i < k → ∃ A' c, H i = .slice A' (m.getD i []).length c ∧ (m.getD i []).length ≤ c ∧ Lies w A' (m.getD i [])) : ∃ A c, v = .slice A k c ∧ k ≤ c ∧ LiesM w A m := by
  obtain ⟨A, c, hv, hc, hx⟩ := h.form
  refine ⟨A, c, hv, hc, fun i hi => ?_⟩
  obtain ⟨ad, e, hl, hcell⟩ := hx i (by omega)
  obtain ⟨A', c', e2, h2, h3⟩ := hr i (by omega)
  exact ⟨ad, A', c', e, hl, by rw [hcell, e2], h2, h3⟩

section
variable {ops : Array Oper} {rest : List Oper} {o : Oper} {a : Act} {w : World} {K : Act → World → Prop} {Q : Exit → Act → World → Prop}
/-- out = append(out, head). -/
theorem wpList_pushV (hgd : o.guard = Option.none) (s x : Operand) (ho : o.op = .call { callee := .builtin .append, args := #[s, x], argTypes := #[22, 22] })
    (B : Nat) (v : Value) (k : Nat) (H : Nat → Value) (u : Value) (gb cb : Nat) (hs : a.eval s = v) (hx : a.eval x = .slice (some ⟨gb, 0, none⟩) 1 cb) (hown : HdsV w B v k H)
    (hcell : w.cell? ⟨gb, 0, none⟩ = some u) (hu : u.oneCell' = true) (hlen : k + 1 ≤ 1000000) (hB : B ≤ w.heap.size)
    (h : ∀ v' w', HdsV w' B v' (k + 1) (fun i => if i = k then u else H i) → (∀ w0 : World, w0.heap.size ≤ B → Kp w0 w → Kp w0 w') → wpList Tryd.prog ops Q rest (a.put o.dst v') w') : wpList Tryd.prog ops Q (o :: rest) a w := by
  obtain ⟨i0, hi, hz0, hz1, hz2⟩ := info_parts ints_info
  obtain ⟨v', w', hrun, h1, h2, _, h3⟩ := run_append_own_at (P := Tryd.prog) w B 22 o.type 23 i0 (.slice Option.none 0 0) 1 24 Tryd.underlying22 hi hz0 hz1 hz2 rfl (by decide) v k ((List.range k).map H) hown ⟨gb, 0, Option.none⟩ 1 cb [u] rfl
    (fun j u' hj => by
      match j, hj with
      | 0, hj => simp at hj; subst hj; rw [add_at]; exact hcell) (fun u' hu' => by simp at hu'; subst hu'; exact hu) (by unfold maxLen; omega) (by omega) hB
  refine wpList_plain hgd fun _ hK => ?_
  unfold Oper.wp execOp
  simp only [ho, resolve, invoke, builtin, Sem.run_bind, Sem.run_pure, Result.andThen_ok, List.map_toArray, List.map_cons, List.map_nil, hs, hx, hrun]
  refine hK _ _ (h v' w' ?_ fun w0 hw0 hk0 => Below.grown hk0 h2 hk0.size fun k hk => Nat.le_trans hw0 (World.ownsRow.lt hown k hk).1)
  have e1 : (List.range k).map (fun i => if i = k then u else H i) = (List.range k).map H := List.map_congr_left fun i hi => by
    have := List.mem_range.1 hi
    rw [if_neg (by omega)]
  have e2 : (List.range (k + 1)).map (fun i => if i = k then u else H i) = (List.range k).map H ++ [u] := by
    rw [List.range_succ, List.map_append, e1, List.map_singleton, if_pos rfl]
  unfold HdsV
  rw [e2]
  exact h1
end

end Go.Proofs.YtofdhdnffkhojaaDoor

/- Contracts of the document's answer on matrices (package rankmereref1: Mod, Unit, Flip, Copy, MatMul, MatAdd, Matrix, Field). For all packages. -/
namespace Go.Proofs.YtofdhdnffkhojaaDoor
open Go.ChangeShapes Go.WideShapes Go.ChangeAt Go.RowKit
set_option linter.unusedVariables false

theorem own_made {w : World} {base g n : Nat} (h : w.ownsRow base 3 1 (.slice (some ⟨g, 0, none⟩) n n) n (madeCells #[.int .i64 0] (n * 1)).toList) : Own w base (.slice (some ⟨g, 0, none⟩) n n) (Mx.row n fun _ => 0) := by
  unfold Own
  rw [Mx.len_row, ← Mx.row_rep]
  rw [toList_madeCells_one, Nat.mul_one] at h
  simpa [ints] using h
theorem rval (a : Fp.F) : 0 ≤ (a.val : Int) ∧ (a.val : Int) ≤ 9972 := by have := a.isLt; omega
theorem rprod (a b : Fp.F) : 0 ≤ (a.val : Int) * (b.val : Int) ∧ (a.val : Int) * (b.val : Int) ≤ 99440784 := by
  have h1 := rval a
  have h2 := rval b
  exact ⟨Int.mul_nonneg h1.1 h2.1, Int.mul_le_mul h1.2 h2.2 h2.1 (by decide)⟩
theorem rzero : ((0 : Fp.F).val : Int) = 0 := rfl

theorem rMod_any (n : Int) (w : World) (h1 : -1000000000000000 ≤ n) (h2 : n ≤ 1000000000000000) :
    Calls Tryd.prog 21 #[.int .i64 n] w fun e w' => e = .returned (.int .i64 (n % 9973)) ∧ w = w' := by
  obtain ⟨f1, f2⟩ := Num.tmod_fix n 9973 (by omega)
  obtain ⟨b2, b1⟩ := Num.tmod_bound n 9973 (by omega)
  have F1 := Lib.hid f1
  have F2 := Lib.hid f2
  clear f1 f2
  by_cases h : n.tmod 9973 < 0
  · go_enter Tryd.func21, Tryd.ntmps21
    go_wp2
    go_ret
    exact ⟨ret_int (F1.out h), rfl⟩
  · have h' : 0 ≤ n.tmod 9973 := by omega
    clear h
    go_enter Tryd.func21, Tryd.ntmps21
    go_wp2
    go_ret
    exact ⟨ret_int (F2.out h'), rfl⟩

/-- A matrix that the call made. -/
def Made (r c : Nat) (f : Nat → Nat → Fp.F) (w : World) (e : Ending) (w' : World) : Prop := ∃ A d, e = .returned (.slice A r d) ∧ LiesM w' A (Mx.matl r c f) ∧ Kp w w'
/-- The same, to be written to. -/
def MadeOwn (r c : Nat) (f : Nat → Nat → Fp.F) (w : World) (e : Ending) (w' : World) : Prop := ∃ v G C, e = .returned v ∧ OwnM w' w.heap.size v G C (Mx.matl r c f) ∧ Kp w w'

set_option maxRecDepth 100000 in
set_option maxHeartbeats 3200000 in
theorem rUnit_own (n : Nat) (w : World) (hn : n ≤ 1000) :
    Calls Tryd.prog 27 #[.int .i64 (n : Int)] w fun e w' => MadeOwn n n Mx.one w e w' := by
  obtain ⟨i0, hi, hz0, hz1, hz2⟩ := info_parts int_info
  go_enter Tryd.func27, Tryd.ntmps27
  go_wp2_with fail
  go_loopw [3, 4] (fun v i wr => ∃ (k : Nat) (G C : Nat → Nat), k ≤ n ∧ i = .int .i64 (k : Int) ∧ OwnM wr w.heap.size v G C (Mx.matl k n Mx.one) ∧ Kp w wr) (fun _ i _ => n - (intOf i).toNat)
  case atStart => exact ⟨0, fun _ => 0, fun _ => 0, Nat.zero_le _, rfl, ownM_none _ _ _ _, Kp.rfl' _⟩
  case round =>
    obtain ⟨k, G, C, hk, rfl, ho, hkp⟩ := hrel
    have HO := Lib.hid ho
    have HK := Lib.hid hkp
    clear ho hkp
    by_cases hlt : k < n
    · have HS := Lib.hid (show Mx.matl (k + 1) n Mx.one = Mx.matl k n Mx.one ++ [(Mx.row n fun _ => 0).set k 1] by
        rw [Mx.matl, Mx.tab_snoc, Mx.row_set]
        congr 2
        refine Mx.row_ext fun j _ => ?_
        show (((if k = j then (1 : Fp.F) else 0)).val : Int) = _
        by_cases e : j = k
        · rw [if_pos e, if_pos e.symm]; rfl
        · rw [if_neg e, if_neg (fun e' => e e'.symm)]; rfl)
      have HAP := Lib.hid (show ∀ i, i < (Mx.matl k n Mx.one).length → G i ≠ wr.heap.size from fun i hi => by have := (HO.out.lt hi).2; omega)
      go_wp2_with (first
        | (at_make; refine wpList_make_full _ rfl _ _ 23 rfl wr.heap.size 3 i0 (.int .i64 0) 1 Tryd.underlying23 hi hz0 hz1 _ _ _ _ n rfl rfl rfl rfl (by rw [hz2]; omega) (by unfold maxLen; omega) (Nat.le_refl _) ?_; intro w2 hown hgrow; have kp2 : Kp wr w2 := (Kp.rfl' wr).grown hgrow (by simp) (fun k hk => by cases hk); have ow := own_made hown; have hcell := own_cell ow k (by rw [Mx.len_row]; exact hlt); have hfree := own_free ow k; have kp3 := Lib.hid (kp2.put (p := ⟨wr.heap.size, k, none⟩) (Nat.le_refl _) (.int .i64 1)); have ow3 := Lib.hid (own_put ow k 1); have om3 := Lib.hid (HO.out.kp kp3.out))
        | (at_builtin; refine wpList_pushM rfl _ _ rfl w.heap.size _ G C (Mx.matl k n Mx.one) _ wr.heap.size n n _ 1 (by rw [List.length_set, Mx.len_row]) rfl rfl (om3.out.new _) (cell_made _ _ _ _ 0 (size_set _ _ _)) ((ow3.out.from HK.out.size).new _) HAP.out (by rw [Mx.len_matl]; omega) (Nat.le_trans HK.out.size (Nat.le_trans kp3.out.size ((Kp.rfl' _).new _).size)) ?_; intro v' w' G' C' ho' hk'))
      have HO' := Lib.hid ho'
      have HK' := Lib.hid (hk' w (Nat.le_refl _) ((HK.out.trans kp3.out).new _))
      clear ho' hk'
      go_wp2_with fail
      go_roundw
      case rel => exact ⟨k + 1, G', C', by omega, by go_num, by rw [HS.out]; exact HO'.out, HK'.out⟩
      case measure => simp [intOf]; omega
    · obtain rfl : k = n := by omega
      go_wp2_with fail
      go_ret
      exact ⟨_, G, C, rfl, HO.out, HK.out⟩
theorem rUnit_any (n : Nat) (w : World) (hn : n ≤ 1000) :
    Calls Tryd.prog 27 #[.int .i64 (n : Int)] w fun e w' => Made n n Mx.one w e w' :=
  (rUnit_own n w hn).mono fun e w' ⟨v, G, C, he, ho, hk⟩ => by
    obtain ⟨A', d', hv, hl, _⟩ := ho.lies
    rw [Mx.len_matl] at hv
    exact ⟨A', d', by rw [he, hv], hl, hk⟩

set_option maxRecDepth 100000 in
set_option maxHeartbeats 3200000 in
theorem rFlip_own (A : Option Addr) (f : Nat → Nat → Fp.F) (r c d : Nat) (w : World) (ha : LiesM w A (Mx.matl r c f)) (hr0 : 0 < r) (hr : r ≤ 1000) (hc : c ≤ 1000) :
    Calls Tryd.prog 36 #[.slice A r d] w fun e w' => MadeOwn c r (Mx.flip f) w e w' := by
  obtain ⟨ad, A0, d0, rfl, hlt0, hc00, _, _⟩ := ha.row hr0
  rw [add_zero'] at hc00
  have HA := Lib.hid ha
  have C0 := Lib.hid hc00
  clear ha hc00
  go_enter Tryd.func36, Tryd.ntmps36
  go_wp2_with fail
  go_loopw [3, 4] (fun v i wr => ∃ (k : Nat) (G C : Nat → Nat), k ≤ c ∧ i = .int .i64 (k : Int) ∧ OwnM wr w.heap.size v G C (Mx.matl k r (Mx.flip f)) ∧ Kp w wr) (fun _ i _ => c - (intOf i).toNat)
  case atStart => exact ⟨0, fun _ => 0, fun _ => 0, Nat.zero_le _, rfl, ownM_none _ _ _ _, Kp.rfl' _⟩
  case round =>
    obtain ⟨k, G, C, hk, rfl, ho, hkp⟩ := hrel
    obtain ⟨wo, hwo⟩ : ∃ x, x = wr := ⟨_, rfl⟩
    subst hwo
    have hc0 := (hkp.cell (p := ad) hlt0).trans C0.out
    have HO := Lib.hid ho
    have HK := Lib.hid hkp
    clear ho hkp
    by_cases hlt : k < c
    · have HS := Lib.hid (show Mx.matl (k + 1) r (Mx.flip f) = Mx.matl k r (Mx.flip f) ++ [Mx.row r fun j => ((f j k).val : Int)] by rw [Mx.matl, Mx.tab_snoc]; rfl)
      go_wp2_with fail
      go_loopw [5, 6] (fun u i wq => ∃ t : Nat, t ≤ r ∧ i = .int .i64 (t : Int) ∧ Own wq wo.heap.size u (Mx.row t fun j => ((f j k).val : Int)) ∧ Kp wo wq) (fun _ i _ => r - (intOf i).toNat)
      case atStart => exact ⟨0, Nat.zero_le _, rfl, Own.none _ _, Kp.rfl' _⟩
      case round =>
        obtain ⟨t, ht, rfl, hu, hkq⟩ := hrel
        have HU := Lib.hid hu
        have HQ := Lib.hid hkq
        by_cases hlt2 : t < r
        · obtain ⟨ad', A1, d1, ea, _, x1, _, l1⟩ := (HA.out.keep (HK.out.trans hkq)).row hlt2
          obtain rfl := Option.some.inj ea
          obtain ⟨ad1, rfl, _, x2⟩ := l1.el hlt
          clear hu hkq l1
          have hlen : (Mx.row t fun j => ((f j k).val : Int)).length + 1 ≤ 17000000000000 := by rw [Mx.len_row]; omega
          have hsz := HQ.out.size
          have HSN := Lib.hid (Mx.row_snoc t fun j => ((f j k).val : Int))
          generalize ((f t k).val : Int) = z at *
          go_wp2_with (at_builtin; refine wpList_push rfl _ _ rfl wo.heap.size _ (Mx.row t fun j => ((f j k).val : Int)) z wr.heap.size 1 rfl rfl (HU.out.new _) (by simp; done) hlen (Nat.le_trans hsz ((Kp.rfl' _).new _).size) ?_; intro v' w' h1 h2 _)
          have HU' := Lib.hid h1
          have HQ' := Lib.hid (own_below (HU.out.new _) (HQ.out.new _) (by have := HQ.out.size; simp; omega) h2)
          clear h1 h2
          go_wp2_with fail
          go_roundw
          case rel => exact ⟨t + 1, by omega, by go_num, by rw [HSN.out]; exact HU'.out, HQ'.out⟩
          case measure => simp [intOf]; omega
        · obtain rfl : t = r := by omega
          obtain ⟨g, gc, rfl, hg, hgc⟩ := own_some hu (by rw [Mx.len_row]; exact hr0)
          rw [Mx.len_row] at HU hgc ⊢
          clear hu hkq
          have OM := Lib.hid (HO.out.kp HQ.out)
          have HAP := Lib.hid (show ∀ i, i < (Mx.matl k t (Mx.flip f)).length → G i ≠ g from fun i hi => by have := (HO.out.lt hi).2; omega)
          go_wp2_with (at_builtin; refine wpList_pushM rfl _ _ rfl w.heap.size _ G C (Mx.matl k t (Mx.flip f)) _ g t gc _ 1 (Mx.len_row _ _) rfl rfl (OM.out.new _) (by simp; done) ((HU.out.from HK.out.size).new _) HAP.out (by rw [Mx.len_matl]; omega) (Nat.le_trans HK.out.size (Nat.le_trans HQ.out.size ((Kp.rfl' _).new _).size)) ?_; intro v' w' G' C' ho' hk')
          have HO' := Lib.hid ho'
          have HK' := Lib.hid (hk' w (Nat.le_refl _) ((HK.out.trans HQ.out).new _))
          clear ho' hk'
          go_wp2_with fail
          go_roundw
          case rel => exact ⟨k + 1, G', C', by omega, by go_num, by rw [HS.out]; exact HO'.out, HK'.out⟩
          case measure => simp [intOf]; omega
    · obtain rfl : k = c := by omega
      go_wp2_with fail
      go_ret
      exact ⟨_, G, C, rfl, HO.out, HK.out⟩
theorem rFlip_any (A : Option Addr) (f : Nat → Nat → Fp.F) (r c d : Nat) (w : World) (ha : LiesM w A (Mx.matl r c f)) (hr0 : 0 < r) (hr : r ≤ 1000) (hc : c ≤ 1000) :
    Calls Tryd.prog 36 #[.slice A r d] w fun e w' => Made c r (Mx.flip f) w e w' :=
  (rFlip_own A f r c d w ha hr0 hr hc).mono fun e w' ⟨v, G, C, he, ho, hk⟩ => by
    obtain ⟨A', d', hv, hl, _⟩ := ho.lies
    rw [Mx.len_matl] at hv
    exact ⟨A', d', by rw [he, hv], hl, hk⟩

end Go.Proofs.YtofdhdnffkhojaaDoor

/- Contracts of the document's answer on matrices, second part: Copy, MatMul, MatAdd, Matrix, Field. For all packages. -/
namespace Go.Proofs.YtofdhdnffkhojaaDoor
open Go.ChangeShapes Go.WideShapes Go.ChangeAt Go.RowKit
set_option linter.unusedVariables false

/-- Where the heads lie. -/
theorem OwnM.some {w : World} {B : Nat} {v : Value} {G C : Nat → Nat} {m : List (List Int)} (h : OwnM w B v G C m) (h0 : 0 < m.length) : ∃ g c, v = .slice (.some ⟨g, 0, .none⟩) m.length c ∧ B ≤ g := by
  rcases h.top.2 with ⟨_, h1⟩ | ⟨g, cap, cur, e, hg, _⟩
  · omega
  · exact ⟨g, cap, e, hg⟩

set_option maxRecDepth 100000 in
set_option maxHeartbeats 3200000 in
theorem rCopy_any (A : Option Addr) (f : Nat → Nat → Fp.F) (r c d : Nat) (w : World) (ha : LiesM w A (Mx.matl r c f)) (hc0 : 0 < c) (hr : r ≤ 1000) (hc : c ≤ 1000) :
    Calls Tryd.prog 20 #[.slice A r d] w fun e w' => MadeOwn r c f w e w' := by
  have HA := Lib.hid ha
  clear ha
  go_enter Tryd.func20, Tryd.ntmps20
  go_wp2_with fail
  go_loopw [3, 4] (fun v i wr => ∃ (k : Nat) (G C : Nat → Nat), k ≤ r ∧ i = .int .i64 (k : Int) ∧ OwnM wr w.heap.size v G C (Mx.matl k c f) ∧ Kp w wr) (fun _ i _ => r - (intOf i).toNat)
  case atStart => exact ⟨0, fun _ => 0, fun _ => 0, Nat.zero_le _, rfl, ownM_none _ _ _ _, Kp.rfl' _⟩
  case round =>
    obtain ⟨k, G, C, hk, rfl, ho, hkp⟩ := hrel
    have HO := Lib.hid ho
    have HK := Lib.hid hkp
    by_cases hlt : k < r
    · obtain ⟨ad, A1, d1, rfl, _, x1, _, l1⟩ := (HA.out.keep hkp).row hlt
      clear ho hkp
      have L1 := Lib.hid l1
      clear l1
      have HS := Lib.hid (show Mx.matl (k + 1) c f = Mx.matl k c f ++ [Mx.row c fun j => ((f k j).val : Int)] by rw [Mx.matl, Mx.tab_snoc]; rfl)
      go_wp2_with (first
        | (at_builtin; refine wpList_cat rfl _ _ rfl wr.heap.size _ [] (Mx.row c fun j => ((f k j).val : Int)) A1 c d1 rfl rfl (Mx.len_row _ _).symm (Own.none _ _) L1.out (by rw [Mx.len_row]; simp; omega) (Nat.le_refl _) ?_; intro v1 w2 h1 h2 _; have kp2 : Kp wr w2 := own_below (Own.none wr wr.heap.size) (Kp.rfl' _) (Nat.le_refl _) h2; rw [List.nil_append] at h1; obtain ⟨g, gc, rfl, hg, hgc⟩ := own_some h1 (by rw [Mx.len_row]; exact hc0); rw [Mx.len_row] at h1 hgc ⊢; have HU := Lib.hid h1; have HQ := Lib.hid kp2; have OM := Lib.hid (HO.out.kp kp2); have HAP := Lib.hid (show ∀ i, i < (Mx.matl k c f).length → G i ≠ g from fun i hi => by have := (HO.out.lt hi).2; omega); clear h1 h2 kp2)
        | (at_builtin; refine wpList_pushM rfl _ _ rfl w.heap.size _ G C (Mx.matl k c f) _ g c gc _ 1 (Mx.len_row _ _) rfl rfl (OM.out.new _) (cell_made _ _ _ _ 0 rfl) ((HU.out.from HK.out.size).new _) HAP.out (by rw [Mx.len_matl]; omega) (Nat.le_trans HK.out.size (Nat.le_trans HQ.out.size ((Kp.rfl' _).new _).size)) ?_; intro v' w' G' C' ho' hk'))
      have HO' := Lib.hid ho'
      have HK' := Lib.hid (hk' w (Nat.le_refl _) ((HK.out.trans HQ.out).new _))
      clear ho' hk'
      go_wp2_with fail
      go_roundw
      case rel => exact ⟨k + 1, G', C', by omega, by go_num, by rw [HS.out]; exact HO'.out, HK'.out⟩
      case measure => simp [intOf]; omega
    · obtain rfl : k = r := by omega
      clear ho hkp
      go_wp2_with fail
      go_ret
      exact ⟨_, G, C, rfl, HO.out, HK.out⟩



end Go.Proofs.YtofdhdnffkhojaaDoor

/- Contracts of the document's answer for package field (package rankmereref1: Mod, Pow, Div), within the document's bounds. -/
namespace Go.Proofs.YtofdhdnffkhojaaDoor
open Go.ChangeShapes Go.WideShapes Go.ChangeAt Go.RowKit
set_option linter.unusedVariables false

theorem refMod_any (n : Int) (w : World) (h1 : -1000000000000000 ≤ n) (h2 : n ≤ 1000000000000000) :
    Calls Tryd.prog 21 #[.int .i64 n] w fun e w' => e = .returned (.int .i64 (n % 9973)) ∧ w = w' := by
  obtain ⟨f1, f2⟩ := Num.tmod_fix n 9973 (by omega)
  obtain ⟨b2, b1⟩ := Num.tmod_bound n 9973 (by omega)
  have F1 := Lib.hid f1
  have F2 := Lib.hid f2
  clear f1 f2
  by_cases h : n.tmod 9973 < 0
  · go_enter Tryd.func21, Tryd.ntmps21
    go_wp2
    go_ret
    exact ⟨ret_int (F1.out h), rfl⟩
  · have h' : 0 ≤ n.tmod 9973 := by omega
    clear h
    go_enter Tryd.func21, Tryd.ntmps21
    go_wp2
    go_ret
    exact ⟨ret_int (F2.out h'), rfl⟩

theorem refMod_el (n : Int) (w : World) (h1 : -1000000000000000 ≤ n) (h2 : n ≤ 1000000000000000) :
    Calls Tryd.prog 21 #[.int .i64 n] w fun e w' => e = .returned (el (Fp.ofInt n)) ∧ w = w' := by
  have h := refMod_any n w h1 h2
  unfold el
  rw [Fp.ofInt_val]
  exact h

set_option maxHeartbeats 800000 in
theorem refPow_any (k : Nat) : ∀ (a : Fp.F) (n : Nat) (w : World), n ≤ k → n ≤ 1000000 →
    Calls Tryd.prog 37 #[el a, .int .i64 (n : Int)] w fun e w' => e = .returned (el (Fp.pw a n)) ∧ w = w' := by
  have zero : ∀ (a : Fp.F) (w : World),
      Calls Tryd.prog 37 #[el a, .int .i64 ((0 : Nat) : Int)] w fun e w' => e = .returned (el (Fp.pw a 0)) ∧ w = w' := by
    intro a w
    unfold el
    generalize (a.val : Int) = x
    go_enter Tryd.func37, Tryd.ntmps37
    go_wp2_with fail
    go_ret
    exact ⟨rfl, rfl⟩
  induction k with
  | zero =>
    intro a n w hk hn
    obtain rfl : n = 0 := by omega
    exact zero a w
  | succ k ih =>
    intro a n w hk hn
    by_cases h : n = 0
    · subst h; exact zero a w
    · clear zero
      have IH := Lib.hid (ih (a * a) (n / 2))
      have EA := Lib.hid (Fp.mul_val a a)
      have ha := Fp.val_bound a
      have hp := prod_bound a a
      have hq : ((n : Int) == 0) = false := by rw [beq_eq_false_iff_ne]; omega
      have hn2 : ((n / 2 : Nat) : Int) = (n : Int) / 2 := by omega
      have hv := prod_bound (Fp.pw (a * a) (n / 2)) a
      have EP := Lib.hid (Fp.mul_val (Fp.pw (a * a) (n / 2)) a)
      have ST := Lib.hid (Fp.pw_half a n)
      have hz := Fp.val_bound (Fp.pw (a * a) (n / 2))
      unfold el at *
      rw [EA.out, hn2] at IH
      generalize hzz : ((Fp.pw (a * a) (n / 2)).val : Int) = z at *
      have E1 := Lib.hid (show n % 2 = 1 → z * (a.val : Int) % 9973 = ((Fp.pw a n).val : Int) from fun h => by
        have := ST.out; rw [if_pos h] at this; rw [this]; exact EP.out.symm)
      have E0 := Lib.hid (show ¬ n % 2 = 1 → z = ((Fp.pw a n).val : Int) from fun h => by
        have := ST.out; rw [if_neg h, Fin.mul_one] at this; rw [this, hzz])
      clear ST EP EA
      generalize (a.val : Int) = x at *
      by_cases h2 : n % 2 = 1
      · have E := Lib.hid (E1.out h2)
        have hr : ((n : Int) % 2 == 1) = true := by rw [beq_iff_eq]; omega
        clear E1 E0 ih h
        go_enter Tryd.func37, Tryd.ntmps37
        go_wp2_with fail
        refine (IH.out _ (by omega) (by omega)).mono ?_; rintro e w' ⟨rfl, rfl⟩
        go_wp2_with fail
        go_ret
        exact ⟨ret_int E.out, rfl⟩
      · have E := Lib.hid (E0.out h2)
        have hr : ((n : Int) % 2 == 1) = false := by rw [beq_eq_false_iff_ne]; omega
        clear E1 E0 ih h
        go_enter Tryd.func37, Tryd.ntmps37
        go_wp2_with fail
        refine (IH.out _ (by omega) (by omega)).mono ?_; rintro e w' ⟨rfl, rfl⟩
        go_wp2_with fail
        go_ret
        exact ⟨ret_int E.out, rfl⟩


end Go.Proofs.YtofdhdnffkhojaaDoor

/- Contracts of the document's answer on matrices, fifth part: Stairs. For all packages. -/
namespace Go.Proofs.YtofdhdnffkhojaaDoor
open Go.ChangeShapes Go.WideShapes Go.ChangeAt Go.RowKit
set_option linter.unusedVariables false

theorem mod_times (a b : Fp.F) : (a.val : Int) * (b.val : Int) % 9973 = ((a * b).val : Int) := (Fp.mul_val a b).symm
theorem mod_less (a x b : Fp.F) : ((a.val : Int) - (x.val : Int) * (b.val : Int)) % 9973 = ((a - x * b).val : Int) := by
  have h : Fp.ofInt ((a.val : Int) - (x.val : Int) * (b.val : Int)) = a - x * b := by
    have h2 := Fp.ofInt_add ((a.val : Int) - (x.val : Int) * (b.val : Int)) ((x.val : Int) * (b.val : Int))
    rw [Int.sub_add_cancel, Fp.ofInt_mul, Fp.ofInt_self, Fp.ofInt_self, Fp.ofInt_self] at h2
    generalize Fp.ofInt ((a.val : Int) - (x.val : Int) * (b.val : Int)) = y at *
    grind
  rw [← Fp.ofInt_val, h]

/-- A row from p on, before row t, that is not nought at column c; or there is none. -/
def Last (f : Nat → Nat → Fp.F) (p c t : Nat) (v : Int) : Prop := (v = -1 ∧ ∀ s, p ≤ s → s < t → f s c = 0) ∨ ∃ a : Nat, v = (a : Int) ∧ p ≤ a ∧ a < t ∧ f a c ≠ 0
theorem Last.start (f : Nat → Nat → Fp.F) (p c : Nat) : Last f p c p (-1) := .inl ⟨rfl, fun s h1 h2 => absurd h1 (by omega)⟩
theorem Last.zero {f : Nat → Nat → Fp.F} {p c t : Nat} {v : Int} (h : Last f p c t v) (h0 : f t c = 0) : Last f p c (t + 1) v := by
  rcases h with ⟨h1, h2⟩ | ⟨a, h1, h2, h3, h4⟩
  · exact .inl ⟨h1, fun s hs1 hs2 => by
      by_cases e : s = t
      · rw [e]; exact h0
      · exact h2 s hs1 (by omega)⟩
  · exact .inr ⟨a, h1, h2, by omega, h4⟩
theorem Last.hit {f : Nat → Nat → Fp.F} {p c t : Nat} (hp : p ≤ t) (h0 : f t c ≠ 0) : Last f p c (t + 1) (t : Int) := .inr ⟨t, rfl, hp, Nat.lt_succ_self t, h0⟩

/-- The matrix in steps and the columns in which they begin, as the document's answer has them. -/
def MadeSteps (r c k : Nat) (f : Nat → Nat → Fp.F) (w : World) (e : Ending) (w' : World) : Prop :=
  ∃ b g A d A' d', Stair r c k f b g ∧ e = .returned (.tuple #[.slice A r d, .slice A' b.length d']) ∧ LiesM w' A (Mx.matl r c g) ∧ Lies w' A' (cols b) ∧ Kp w w'

set_option maxRecDepth 100000 in
set_option maxHeartbeats 12800000 in
theorem rStairs_any (A : Option Addr) (f : Nat → Nat → Fp.F) (r c k0 d : Nat) (w : World) (ha : LiesM w A (Mx.matl r c f)) (hr0 : 0 < r) (hc0 : 0 < c) (hr : r ≤ 1000) (hc : c ≤ 1000) (hk0 : k0 ≤ c) :
    Calls Tryd.prog 28 #[.slice A r d, .int .i64 (k0 : Int)] w fun e w' => MadeSteps r c k0 f w e w' := by
  have CO := Lib.hid (rCopy_any A f r c d w ha hc0 hr hc)
  clear ha
  go_enter Tryd.func28, Tryd.ntmps28
  go_wp2_with fail
  refine (CO.out).mono ?_; rintro e w1 ⟨v, G0, C0, rfl, ho, hk⟩
  obtain ⟨g, gc, rfl, hg⟩ := ho.some (by rw [Mx.len_matl]; exact hr0)
  rw [Mx.len_matl] at ho ⊢
  have HO := Lib.hid ho
  have HK := Lib.hid hk
  clear ho hk
  go_wp2_with fail
  go_loopw [7, 8] (fun u i wr => ∃ (k : Nat) (b : List Nat) (h : Nat → Nat → Fp.F) (G C : Nat → Nat), k ≤ k0 ∧ i = .int .i64 (k : Int) ∧ Stair r c k f b h ∧ MatRow wr w.heap.size g gc G C r c (fun i j => ((h i j).val : Int)) u (cols b) ∧ Kp w wr) (fun _ i _ => k0 - (intOf i).toNat)
  case atStart => exact ⟨0, [], f, G0, C0, Nat.zero_le _, rfl, Stair.start r c f, MatRow.start HO.out, HK.out⟩
  case round =>
    obtain ⟨k, b, h, G, C, hk, rfl, hst, hmr, hkp⟩ := hrel
    obtain ⟨Au, du, rfl, hlu, _⟩ := hmr.row.cap
    obtain ⟨p, hp⟩ : ∃ p, p = b.length := ⟨_, rfl⟩
    have hpr : p ≤ r := by rw [hp]; exact hst.steps.le
    rw [len_cols, ← hp] at hmr ⊢
    have HM := Lib.hid hmr
    have HS := Lib.hid hst
    have HK := Lib.hid hkp
    have HL := Lib.hid hlu
    have HP := Lib.hid hp
    obtain ⟨w0, hw0⟩ : ∃ x, x = wr := ⟨_, rfl⟩
    subst hw0
    clear hmr hst hkp hlu hp
    by_cases hlt : k < k0
    · have hkc : k < c := by omega
      go_wp2_with fail
      go_loop [10, 11] (fun x i => ∃ (t : Nat) (v : Int), p ≤ t ∧ t ≤ r ∧ i = .int .i64 (t : Int) ∧ x = .int .i64 v ∧ Last h p k t v) (fun _ i => r - (intOf i).toNat)
      case atStart => exact ⟨p, -1, Nat.le_refl _, hpr, rfl, rfl, Last.start _ _ _⟩
      case round =>
        obtain ⟨t, v, hpt, htr, rfl, rfl, hla⟩ := hrel
        have HLA := Lib.hid hla
        by_cases hlt2 : t < r
        · have z1 := HM.out.mat.weak.head hlt2
          have z2 := HM.out.mat.weak.el hlt2 hkc
          by_cases h0 : h t k = 0
          · rw [h0, show (((0 : Fp.F).val : Nat) : Int) = 0 from rfl] at z2
            have HL2 := Lib.hid (hla.zero h0)
            clear hla h0
            go_wp2_with fail
            go_round
            case rel => exact ⟨t + 1, v, by omega, by omega, by go_num, rfl, HL2.out⟩
            case measure => simp [intOf]; omega
          · have HL2 := Lib.hid (Last.hit hpt h0)
            have hv := Fp.ne_val h0
            have e1 : (((h t k).val : Int) != 0) = true := by rw [bne_iff_ne]; omega
            generalize ((h t k).val : Int) = z at *
            clear hla h0 hv
            go_wp2_with fail
            go_round
            case rel => exact ⟨t + 1, t, by omega, by omega, by go_num, rfl, HL2.out⟩
            case measure => simp [intOf]; omega
        · obtain rfl : t = r := by omega
          rcases hla with ⟨rfl, hz⟩ | ⟨a, rfl, hpa, har, h0⟩
          · have HS2 := Lib.hid (HS.out.skip fun i h1 h2 => hz i (by rw [HP.out]; exact h1) h2)
            clear hz
            go_wp2_with fail
            go_roundw
            case rel => exact ⟨k + 1, b, h, G, C, by omega, by go_num, HS2.out, HM.out, HK.out⟩
            case measure => simp [intOf]; omega
          · have hpr' : p < t := by omega
            clear hlt2 htr hpt
            obtain ⟨r, hrr⟩ : ∃ r, r = t := ⟨_, rfl⟩
            subst hrr
            have y1 := HM.out.mat.weak.head har
            have y2 := HM.out.mat.weak.head hpr'
            have y3 := HM.out.mat.weak.topFree a
            have hBg := HM.out.mat.weak.topLe.1
            have HWA := Lib.hid (HM.out.mat.weak.set har (HM.out.mat.weak.row p hpr'))
            have HRA := Lib.hid (own_store (HM.out.mat.weak.row a har) (a := ⟨g, a, none⟩) (HM.out.mat.weak.apartTop har) (Value.slice (some ⟨G p, 0, none⟩) c (C p)))
            have HKA := Lib.hid (HK.out.put (p := ⟨g, a, none⟩) hBg (Value.slice (some ⟨G p, 0, none⟩) c (C p)))
            have y4 := own_cell HRA.out k (by rw [Mx.len_row]; exact hkc)
            rw [Mx.row_at _ _ _ hkc] at y4
            have PO := Lib.hid (fun w => refPow_any 9971 (h a k) 9971 w (Nat.le_refl _) (by decide))
            unfold el at PO
            change Hid (∀ w, Calls Tryd.prog 37 #[.int .i64 ((h a k).val : Int), .int .i64 9971] w fun e w' => e = .returned (.int .i64 ((Fp.inv (h a k)).val : Int)) ∧ w = w') at PO
            obtain ⟨pv, hpv⟩ : ∃ pv, pv = ((h a k).val : Int) := ⟨_, rfl⟩
            rw [← hpv] at y4 PO
            clear hpv
            go_wp2_with fail
            refine (PO.out _).mono ?_; rintro e w' ⟨rfl, rfl⟩
            clear y1 y2 y3 y4
            obtain ⟨wA, hwA⟩ : ∃ x, x = w0.setCell ⟨g, a, none⟩ (.slice (some ⟨G p, 0, none⟩) c (C p)) := ⟨_, rfl⟩
            rw [← hwA] at HWA HRA HKA ⊢
            have HEA := Lib.hid hwA
            have hszA : w0.heap.size = wA.heap.size := by rw [hwA]; exact size_set _ _ _
            have HSZ := Lib.hid hszA
            clear hwA hszA
            obtain ⟨iv, hiv⟩ : ∃ iv, iv = ((Fp.inv (h a k)).val : Int) := ⟨_, rfl⟩
            rw [← hiv]
            have HIV := Lib.hid hiv
            clear hiv
            go_wp2_with fail
            go_loopw [14, 15] (fun q i wq => ∃ t : Nat, t ≤ c ∧ i = .int .i64 (t : Int) ∧ Own wq wA.heap.size q (Mx.row t fun j => ((h a j * Fp.inv (h a k)).val : Int)) ∧ Kp wA wq) (fun _ i _ => c - (intOf i).toNat)
            case atStart => exact ⟨0, Nat.zero_le _, rfl, Own.none _ _, Kp.rfl' _⟩
            case round =>
              obtain ⟨t, htc, rfl, hu, hkq⟩ := hrel
              have HU := Lib.hid hu
              have HQ := Lib.hid hkq
              obtain ⟨wd, hwd⟩ : ∃ x, x = wr := ⟨_, rfl⟩
              subst hwd
              by_cases hlt3 : t < c
              · have z1 := own_cell (HRA.out.kp hkq) t (by rw [Mx.len_row]; exact hlt3)
                rw [Mx.row_at _ _ _ hlt3] at z1
                have hb := rprod (h a t) (Fp.inv (h a k))
                have hm := mod_times (h a t) (Fp.inv (h a k))
                have hlen : (Mx.row t fun j => ((h a j * Fp.inv (h a k)).val : Int)).length + 1 ≤ 17000000000000 := by rw [Mx.len_row]; omega
                have HSN := Lib.hid (Mx.row_snoc t fun j => ((h a j * Fp.inv (h a k)).val : Int))
                rw [← HIV.out] at hb hm
                obtain ⟨z, hz⟩ : ∃ z, z = ((h a t * Fp.inv (h a k)).val : Int) := ⟨_, rfl⟩
                rw [← hz] at hm HSN
                generalize ((h a t).val : Int) = x at *
                have hwm : IntKind.i64.wrap (x * iv) = x * iv := IntWalk.i64_in _ (by omega)
                have MO := Lib.hid (fun w => rMod_any (x * iv) w (by omega) (by omega))
                rw [hm] at MO
                have hsz := HQ.out.size
                clear hu hkq hb hm hz
                go_wp2_with fail
                refine (MO.out _).mono ?_; rintro e w' ⟨rfl, rfl⟩
                go_wp2_with (at_builtin; refine wpList_push rfl _ _ rfl wA.heap.size _ (Mx.row t fun j => ((h a j * Fp.inv (h a k)).val : Int)) z wd.heap.size 1 rfl rfl (HU.out.new _) (by simp; done) hlen (Nat.le_trans hsz ((Kp.rfl' _).new _).size) ?_; intro v' w' h1 h2 _)
                have HU' := Lib.hid h1
                have HQ' := Lib.hid (own_below (HU.out.new _) (HQ.out.new _) (Nat.le_trans hsz ((Kp.rfl' _).new _).size) h2)
                clear h1 h2
                go_wp2_with fail
                go_roundw
                case rel => exact ⟨t + 1, by omega, by go_num, by rw [HSN.out]; exact HU'.out, HQ'.out⟩
                case measure => simp [intOf]; omega
              · obtain rfl : t = c := by omega
                obtain ⟨go, co, rfl, hgo, hgc⟩ := own_some hu (by rw [Mx.len_row]; exact hc0)
                rw [Mx.len_row] at HU hgc ⊢
                have z1 := (HWA.out.kp hkq).head hpr'
                have z2 := (HWA.out.kp hkq).topFree p
                have RH := HM.out.rehead har hpr' (w' := wd) (by rw [← HEA.out]; exact hkq) (by rw [HSZ.out]; exact HU.out)
                obtain ⟨H, hH⟩ : ∃ H : Nat → Nat → Fp.F, H = fun i => if i = a then h p else if i = p then h a else h i := ⟨_, rfl⟩
                have hHp : H p = h a := by
                  rw [hH]
                  show (if p = a then h p else if p = p then h a else h p) = h a
                  by_cases e : p = a
                  · rw [if_pos e, e]
                  · rw [if_neg e, if_pos rfl]
                obtain ⟨G', hG'⟩ : ∃ G' : Nat → Nat, G' = fun i => if i = p then go else if i = a then G p else G i := ⟨_, rfl⟩
                obtain ⟨C', hC'⟩ : ∃ C' : Nat → Nat, C' = fun i => if i = p then co else if i = a then C p else C i := ⟨_, rfl⟩
                rw [← hG', ← hC'] at RH
                have RH := RH.ext (f' := fun i j => ((clnTo H p k 0 i j).val : Int)) fun i j _ _ => by
                  unfold clnTo
                  by_cases e1 : i = p
                  · simp only [if_pos e1, hHp]
                  · simp only [if_neg e1, hH, Nat.not_lt_zero, if_false]
                    by_cases e2 : i = a
                    · simp only [if_pos e2]
                    · simp only [if_neg e2]
                have eg : G' p = go := by rw [hG']; exact if_pos rfl
                have ec : C' p = co := by rw [hC']; exact if_pos rfl
                have HS2 := HS.out.next (a := a) (by rw [← HP.out]; exact hpa) har h0
                rw [← HP.out, ← cln_nxt, ← hH] at HS2
                have HS2 := Lib.hid HS2
                have HKD := Lib.hid ((HKA.out.trans hkq).put (p := ⟨g, p, none⟩) hBg (.slice (some ⟨go, 0, none⟩) t co))
                clear hG' hC' hH hHp hu hkq h0 hgo hgc
                subst eg ec
                have RH := Lib.hid RH
                go_wp2_with fail
                obtain ⟨wC, hwC⟩ : ∃ x, x = wd.setCell ⟨g, p, none⟩ (.slice (some ⟨G' p, 0, none⟩) t (C' p)) := ⟨_, rfl⟩
                rw [← hwC] at RH HKD ⊢
                clear hwC z1 z2 HU HQ HEA HSZ HIV HWA HRA HKA PO
                obtain ⟨c, hcc⟩ : ∃ c, c = t := ⟨_, rfl⟩
                subst hcc
                go_loopw [16] (fun i wq => ∃ t : Nat, t ≤ r ∧ i = .int .i64 (t : Int) ∧ MatRow wq w.heap.size g gc G' C' r c (fun i j => ((clnTo H p k t i j).val : Int)) (.slice Au p du) (cols b) ∧ Kp w wq) (fun i _ => r - (intOf i).toNat)
                case atStart => exact ⟨0, Nat.zero_le _, rfl, RH.out, HKD.out⟩
                case round =>
                  obtain ⟨t, htr, rfl, hmr, hkq⟩ := hrel
                  have HM2 := Lib.hid hmr
                  have HK2 := Lib.hid hkq
                  obtain ⟨wt, hwt⟩ : ∃ x, x = wr := ⟨_, rfl⟩
                  subst hwt
                  clear hmr hkq
                  by_cases hlt4 : t < r
                  · by_cases htp : t = p
                    · subst htp
                      have e1 : ((t : Int) != (t : Int)) = false := by simp
                      go_wp2_with fail
                      go_roundw
                      case rel => exact ⟨t + 1, by omega, by go_num, HM2.out.ext (fun i j _ _ => by rw [clnTo_same]), HK2.out⟩
                      case measure => simp [intOf]; omega
                    · have e1 : ((t : Int) != (p : Int)) = true := by rw [bne_iff_ne]; omega
                      have z1 := HM2.out.mat.weak.head hlt4
                      have z2 := HM2.out.mat.weak.el hlt4 hkc
                      have ht0 : ∀ j, clnTo H p k t t j = H t j := fun j => by unfold clnTo; rw [if_neg htp, if_neg (by omega)]
                      have ht1 : ∀ j, clnTo H p k (t + 1) t j = H t j - H t k * (H p j * Fp.inv (H p k)) := fun j => by unfold clnTo; rw [if_neg htp, if_pos (by omega)]
                      have ht2 : ∀ j, clnTo H p k t p j = H p j * Fp.inv (H p k) := fun j => by unfold clnTo; rw [if_pos rfl]
                      have ht3 : ∀ i j, i ≠ t → clnTo H p k (t + 1) i j = clnTo H p k t i j := fun i j hi => by
                        unfold clnTo
                        by_cases e : i = p
                        · rw [if_pos e, if_pos e]
                        · rw [if_neg e, if_neg e]
                          by_cases e2 : i < t
                          · rw [if_pos e2, if_pos (by omega)]
                          · rw [if_neg e2, if_neg (by omega)]
                      rw [ht0] at z2
                      have HT0 := Lib.hid ht0
                      have HT1 := Lib.hid ht1
                      have HT2 := Lib.hid ht2
                      have HT3 := Lib.hid ht3
                      have HTP := Lib.hid htp
                      obtain ⟨fv, hfv⟩ : ∃ fv, fv = ((H t k).val : Int) := ⟨_, rfl⟩
                      rw [← hfv] at z2
                      have HFV := Lib.hid hfv
                      clear htp ht0 ht1 ht2 ht3 hfv
                      go_wp2_with fail
                      go_loopw [18] (fun i wz => ∃ s : Nat, s ≤ c ∧ i = .int .i64 (s : Int) ∧ MatRow wz w.heap.size g gc G' C' r c (fun x y => if x = t ∧ y < s then ((clnTo H p k (t + 1) x y).val : Int) else ((clnTo H p k t x y).val : Int)) (.slice Au p du) (cols b) ∧ Kp w wz) (fun i _ => c - (intOf i).toNat)
                      case atStart => exact ⟨0, Nat.zero_le _, rfl, HM2.out.ext (fun x y _ _ => by rw [if_neg (by omega)]), HK2.out⟩
                      case round =>
                        obtain ⟨s, hs, rfl, hmz, hkz⟩ := hrel
                        have HM3 := Lib.hid hmz
                        have HK3 := Lib.hid hkz
                        clear hmz hkz z1 z2
                        by_cases hlt5 : s < c
                        · have x1 := HM3.out.mat.weak.head hlt4
                          have x2 := HM3.out.mat.weak.el hlt4 hlt5
                          have x3 := HM3.out.mat.weak.el hpr' hlt5
                          have x4 := HM3.out.mat.weak.free hlt4 s
                          have x5 := (HM3.out.mat.weak.lt hlt4).1
                          rw [if_neg (by omega), HT0.out] at x2
                          rw [if_neg (by have := HTP.out; omega), HT2.out] at x3
                          have hb := rprod (H t k) (H p s * Fp.inv (H p k))
                          have hm := mod_less (H t s) (H t k) (H p s * Fp.inv (H p k))
                          have hv := rval (H t s)
                          rw [← HFV.out] at hb hm
                          rw [← HT1.out] at hm
                          obtain ⟨z, hz⟩ : ∃ z, z = ((clnTo H p k (t + 1) t s).val : Int) := ⟨_, rfl⟩
                          rw [← hz] at hm
                          have HZ := Lib.hid hz
                          generalize ((H t s).val : Int) = u0 at *
                          generalize ((H p s * Fp.inv (H p k)).val : Int) = ov at *
                          have hwm : IntKind.i64.wrap (fv * ov) = fv * ov := IntWalk.i64_in _ (by omega)
                          have hws : IntKind.i64.wrap (u0 - fv * ov) = u0 - fv * ov := IntWalk.i64_in _ (by omega)
                          have MO := Lib.hid (fun w => rMod_any (u0 - fv * ov) w (by omega) (by omega))
                          rw [hm] at MO
                          have HX5 := Lib.hid x5
                          clear hb hm hv hz x5
                          go_wp2_with fail
                          refine wp_region_still_tail 21 (by kernel_rfl) (by kernel_rfl) ?_
                          simp only [List.take_succ_cons, List.take_zero, List.drop_succ_cons, List.drop_zero]
                          repeat still_step
                          still_call ((MO.out _).mono fun _ _ h => ⟨h.1, h.2.symm⟩)
                          repeat still_step
                          refine wpStill_nil ?_
                          change wpList _ _ _ _ _ wr.drew
                          go_wp2_with fail
                          go_roundw
                          case rel =>
                            refine ⟨s + 1, by omega, by go_num, ((HM3.out.drewN 1).put hlt4 s z).ext (fun x y hx hy => ?_), (HK3.out.drewN 1).put (p := ⟨G' t, s, none⟩) HX5.out _⟩
                            by_cases e : x = t ∧ y = s
                            · rw [if_pos e, if_pos (by omega), e.1, e.2]; exact HZ.out
                            · rw [if_neg e]
                              by_cases e2 : x = t ∧ y < s
                              · rw [if_pos e2, if_pos (by omega)]
                              · rw [if_neg e2, if_neg (by omega)]
                          case measure => simp [intOf]; omega
                        · obtain rfl : s = c := by omega
                          have HM4 := Lib.hid (HM3.out.ext (f' := fun i j => ((clnTo H p k (t + 1) i j).val : Int)) (fun x y _ hy => by
                            by_cases e : x = t
                            · rw [if_pos ⟨e, hy⟩]
                            · rw [if_neg (fun h => e h.1), HT3.out x y e]))
                          go_wp2_with fail
                          go_roundw
                          case rel => exact ⟨t + 1, by omega, by go_num, HM4.out, HK3.out⟩
                          case measure => simp [intOf]; omega
                  · obtain rfl : t = r := by omega
                    have HM5 := Lib.hid (HM2.out.ext (f' := fun i j => ((cln H p k i j).val : Int)) (fun i j hi _ => by
                      unfold clnTo cln
                      by_cases e : i = p
                      · rw [if_pos e, if_pos e]
                      · rw [if_neg e, if_neg e, if_pos hi]))
                    have hsz := HK2.out.size
                    have HSN := Lib.hid (cols_snoc b k)
                    have hlen : (cols b).length + 1 ≤ 17000000000000 := by rw [len_cols, ← HP.out]; omega
                    obtain ⟨we, hwe⟩ : ∃ x, x = wt := ⟨_, rfl⟩
                    subst hwe
                    go_wp2_with (at_builtin; refine wpList_push rfl _ _ rfl w.heap.size _ (cols b) (k : Int) we.heap.size 1 rfl rfl (HM5.out.row.new _) (by simp; done) hlen (Nat.le_trans hsz ((Kp.rfl' _).new _).size) ?_; intro v' w3 h1 h2 h3)
                    have HM6 := Lib.hid ((HM5.out.kp ((Kp.rfl' _).new _)).push h1 h2 h3)
                    have HK6 := Lib.hid (own_below (HM5.out.row.new _) (HK2.out.new _) (Nat.le_trans hsz ((Kp.rfl' _).new _).size) h2)
                    clear h1 h2 h3
                    go_wp2_with fail
                    go_roundw
                    case rel => exact ⟨k + 1, b ++ [k], cln H p k, G', C', by omega, by go_num, HS2.out, by rw [HSN.out]; exact HM6.out, HK6.out⟩
                    case measure => simp [intOf]; omega
    · obtain rfl : k = k0 := by omega
      have HL2 := Lib.hid (HM.out.mat.liesM)
      go_wp2_with fail
      go_ret2
      exact ⟨b, h, some ⟨g, 0, none⟩, gc, Au, du, HS.out, by rw [← HP.out]; rfl, HL2.out, HL.out, HK.out⟩
end Go.Proofs.YtofdhdnffkhojaaDoor

/- Contract of the document's Inverse. -/
namespace Go.Proofs.YtofdhdnffkhojaaDoor
open Go.ChangeShapes Go.WideShapes Go.ChangeAt Go.RowKit
set_option linter.unusedVariables false

/-- The heads of the rows, by their addresses. -/
theorem LiesM.headsAt {w : World} {A : Option Addr} {r c : Nat} {f : Nat → Nat → Fp.F} (h : LiesM w A (Mx.matl r c f)) (hc : 0 < c) :
    ∃ (R : Nat → Addr) (D : Nat → Nat), ∀ i, i < r → ∃ ad, A = some ad ∧ ad.block < w.heap.size ∧ w.cell? (ad.add i) = some (.slice (some (R i)) c (D i)) ∧ c ≤ D i ∧ Lies w (some (R i)) (Mx.row c fun b => ((f i b).val : Int)) := by
  have h1 : ∀ i, ∃ q : Addr × Nat, i < r → ∃ ad, A = some ad ∧ ad.block < w.heap.size ∧ w.cell? (ad.add i) = some (.slice (some q.1) c q.2) ∧ c ≤ q.2 ∧ Lies w (some q.1) (Mx.row c fun b => ((f i b).val : Int)) := fun i => by
    by_cases hi : i < r
    · obtain ⟨ad, A', cap, e, hl, hcell, hcap, hr⟩ := h.row hi
      obtain ⟨ad', rfl, _, _⟩ := hr.el hc
      exact ⟨(ad', cap), fun _ => ⟨ad, e, hl, hcell, hcap, hr⟩⟩
    · exact ⟨(⟨0, 0, none⟩, 0), fun h' => absurd h' hi⟩
  obtain ⟨q, hq⟩ := Classical.axiomOfChoice h1
  exact ⟨fun i => (q i).1, fun i => (q i).2, hq⟩

set_option maxRecDepth 100000 in
set_option maxHeartbeats 6400000 in
theorem rInverse_any (A : Option Addr) (f : Nat → Nat → Fp.F) (n p d : Nat) (w : World) (ha : LiesM w A (Mx.matl n n f)) (hn : n = p + 1) (hp : p ≤ 4) (hd : Mx.dt n f ≠ 0) :
    Calls Tryd.prog 10 #[.slice A n d] w fun e w' => Made n n (Mx.invm p f) w e w' := by
  have HA := Lib.hid ha
  have UN := Lib.hid (rUnit_any n w (by omega))
  have hn0 : 0 < n := by omega
  have hn5 : n ≤ 5 := by omega
  have UQ := Lib.hid (show ∀ b g, Stair n (n + n) n (Mx.beside n f Mx.one) b g → Mx.matl n n (fun i j => g i (n + j)) = Mx.matl n n (Mx.invm p f) from fun b g hs => by
    have h1 := (Mx.unm_steps hs.steps hs.req hd).2
    have h2 : Mx.Unm n f (Mx.invm p f) := by rw [hn] at hd ⊢; exact Mx.unm_invm p f hd
    exact (h1.one_of h2).mat)
  clear ha hn hp hd
  go_enter Tryd.func10, Tryd.ntmps10
  go_wp2_with fail
  refine (UN.out).mono ?_; rintro e w1 ⟨AU, du, rfl, lu, k1⟩
  have LU := Lib.hid lu
  have K1 := Lib.hid k1
  clear lu k1
  go_wp2_with fail
  go_loopw [5, 6] (fun v i wr => ∃ (k : Nat) (G C : Nat → Nat), k ≤ n ∧ i = .int .i64 (k : Int) ∧ OwnM wr w1.heap.size v G C (Mx.matl k (n + n) (Mx.beside n f Mx.one)) ∧ Kp w1 wr) (fun _ i _ => n - (intOf i).toNat)
  case atStart => exact ⟨0, fun _ => 0, fun _ => 0, Nat.zero_le _, rfl, ownM_none _ _ _ _, Kp.rfl' _⟩
  case round =>
    obtain ⟨k, G, C, hk, rfl, ho, hkp⟩ := hrel
    have HO := Lib.hid ho
    have HK := Lib.hid hkp
    by_cases hlt : k < n
    · obtain ⟨ad1, A1, d1, rfl, _, x2, _, l1⟩ := (HA.out.keep (K1.out.trans hkp)).row hlt
      obtain ⟨ad2, A2, d2, rfl, _, x3, _, l2⟩ := (LU.out.keep hkp).row hlt
      have HSR := Lib.hid (show Mx.row n (fun j => ((f k j).val : Int)) ++ Mx.row n (fun j => ((Mx.one k j).val : Int)) = Mx.row (n + n) (fun j => ((Mx.beside n f Mx.one k j).val : Int)) from by
        refine List.ext_getElem (by simp [Mx.row]) fun j h1 h2 => ?_
        simp only [Mx.row, List.length_map, List.length_range, List.length_append] at h1 h2
        by_cases hj : j < n
        · rw [List.getElem_append_left (by simpa [Mx.row] using hj)]
          simp [Mx.row, Mx.beside, hj]
        · rw [List.getElem_append_right (by simpa [Mx.row] using hj)]
          simp [Mx.row, Mx.beside, hj])
      have HS := Lib.hid (show Mx.matl (k + 1) (n + n) (Mx.beside n f Mx.one) = Mx.matl k (n + n) (Mx.beside n f Mx.one) ++ [Mx.row (n + n) (fun j => ((Mx.beside n f Mx.one k j).val : Int))] by rw [Mx.matl, Mx.tab_snoc]; rfl)
      have L1 := Lib.hid l1
      have L2 := Lib.hid l2
      have X3 := Lib.hid x3
      clear ho hkp l1 l2
      go_wp2_with (first
        | (at_builtin; refine wpList_cat rfl _ _ rfl wr.heap.size _ [] (Mx.row n fun j => ((f k j).val : Int)) A1 n d1 rfl rfl (Mx.len_row _ _).symm (Own.none _ _) L1.out (by rw [Mx.len_row]; simp; omega) (Nat.le_refl _) ?_; intro v1 w2 h1 h2 _; have kp2 : Kp wr w2 := own_below (Own.none wr wr.heap.size) (Kp.rfl' _) (Nat.le_refl _) h2; rw [List.nil_append] at h1; have HU := Lib.hid h1; have HQ := Lib.hid kp2; have x4 := (kp2.cell (p := ad2.add k) (cell_lt X3.out)).trans X3.out; clear h1 h2 kp2)
        | (at_builtin; refine wpList_cat rfl _ _ rfl wr.heap.size _ (Mx.row n fun j => ((f k j).val : Int)) (Mx.row n fun j => ((Mx.one k j).val : Int)) A2 n d2 rfl rfl (Mx.len_row _ _).symm HU.out (L2.out.keep HQ.out) (by rw [Mx.len_row, Mx.len_row]; omega) HQ.out.size ?_; intro v2 w3 h1 h2 _; have kp3 : Kp wr w3 := own_below HU.out HQ.out HQ.out.size h2; rw [HSR.out] at h1; obtain ⟨g3, gc3, rfl, hg3, hgc3⟩ := own_some h1 (by rw [Mx.len_row]; omega); rw [Mx.len_row] at h1 hgc3 ⊢; have HU3 := Lib.hid h1; have HQ3 := Lib.hid kp3; have OM := Lib.hid (HO.out.kp kp3); have HAP := Lib.hid (show ∀ i, i < (Mx.matl k (n + n) (Mx.beside n f Mx.one)).length → G i ≠ g3 from fun i hi => by have := (HO.out.lt hi).2; omega); clear h1 h2 kp3)
        | (at_builtin; refine wpList_pushM rfl _ _ rfl w1.heap.size _ G C (Mx.matl k (n + n) (Mx.beside n f Mx.one)) _ g3 (n + n) gc3 _ 1 (Mx.len_row _ _) rfl rfl (OM.out.new _) (cell_made _ _ _ _ 0 rfl) ((HU3.out.from HK.out.size).new _) HAP.out (by rw [Mx.len_matl]; omega) (Nat.le_trans HK.out.size (Nat.le_trans HQ3.out.size ((Kp.rfl' _).new _).size)) ?_; intro v' w' G' C' ho' hk'))
      rw [← HS.out] at ho'
      have HO' := Lib.hid ho'
      have HK' := Lib.hid (hk' w1 (Nat.le_refl _) ((HK.out.trans HQ3.out).new _))
      clear ho' hk'
      go_wp2_with fail
      go_roundw
      case rel => exact ⟨k + 1, G', C', by omega, by go_num, HO'.out, HK'.out⟩
      case measure => simp [intOf]; omega
    · obtain rfl : k = n := by omega
      obtain ⟨A5, d5, rfl, hl5, _⟩ := ho.lies
      rw [Mx.len_matl]
      have STP := Lib.hid (rStairs_any A5 (Mx.beside k f Mx.one) k (k + k) k d5 wr hl5 hn0 (by omega) (by omega) (by omega) (by omega))
      clear ho hkp hl5
      go_wp2_with fail
      refine (STP.out).mono ?_; rintro e w2 ⟨b, g, B1, e1, B2, e2, hs, rfl, l1, l2, k2⟩
      have K2 := Lib.hid (K1.out.trans (HK.out.trans k2))
      have HE := Lib.hid (UQ.out b g hs)
      obtain ⟨R, D, hh⟩ := l1.headsAt (by omega)
      have HH := Lib.hid hh
      clear l1 l2 hs k2 hh STP
      generalize b.length = q
      go_wp2_with fail
      go_loopw [10, 11] (fun v i wr => ∃ t : Nat, t ≤ k ∧ i = .int .i64 (t : Int) ∧ HdsV wr w2.heap.size v t (fun i => .slice (some ((R i).add k)) k (D i - k)) ∧ Kp w2 wr) (fun _ i _ => k - (intOf i).toNat)
      case atStart => exact ⟨0, Nat.zero_le _, rfl, hdsV_none _ _ _, Kp.rfl' _⟩
      case round =>
        obtain ⟨t, ht, rfl, ho, hkp⟩ := hrel
        have HO2 := Lib.hid ho
        have HK2 := Lib.hid hkp
        clear ho
        by_cases hlt : t < k
        · obtain ⟨ad, rfl, hadl, x0, hcap, _⟩ := HH.out t hlt
          have x1 := (hkp.cell (p := ad.add t) (by rw [block_add]; exact hadl)).trans x0
          clear hkp x0
          go_wp2_with (at_builtin; refine wpList_pushV rfl _ _ rfl w2.heap.size _ t (fun i => .slice (some ((R i).add k)) k (D i - k)) (.slice (some ((R t).add k)) k (D t - k)) wr.heap.size 1 rfl rfl (HO2.out.new _) (cell_made _ _ _ _ 0 rfl) rfl (by omega) (Nat.le_trans HK2.out.size ((Kp.rfl' _).new _).size) ?_; intro v' w' ho' hk')
          have HO3 := Lib.hid (show HdsV w' w2.heap.size v' (t + 1) (fun i => .slice (some ((R i).add k)) k (D i - k)) from by
            have e : (fun i => if i = t then Value.slice (some ((R t).add k)) k (D t - k) else Value.slice (some ((R i).add k)) k (D i - k)) = fun i => Value.slice (some ((R i).add k)) k (D i - k) := funext fun i => by
              by_cases e : i = t
              · rw [if_pos e, e]
              · rw [if_neg e]
            rw [e] at ho'
            exact ho')
          have HK3 := Lib.hid (hk' w2 (Nat.le_refl _) (HK2.out.new _))
          clear ho' hk'
          go_wp2_with fail
          go_roundw
          case rel => exact ⟨t + 1, by omega, by go_num, HO3.out, HK3.out⟩
          case measure => simp [intOf]; omega
        · obtain rfl : t = k := by omega
          obtain ⟨A9, d9, rfl, _, hl9⟩ := HO2.out.lies (m := Mx.matl t t fun i j => g i (t + j)) (Mx.len_matl _ _ _) fun i hi => by
            obtain ⟨ad, _, _, _, hcap, hr⟩ := HH.out i hi
            have e1 : (Mx.matl t t fun i j => g i (t + j)).getD i [] = Mx.row t fun j => ((g i (t + j)).val : Int) := Mx.tab_at _ _ _ _ hi
            refine ⟨some ((R i).add t), D i - t, by rw [e1, Mx.len_row], by rw [e1, Mx.len_row]; omega, ?_⟩
            have h1 := (hr.keep HK2.out).drop t
            rw [e1]
            rw [show (Mx.row (t + t) fun b => ((g i b).val : Int)).drop t = Mx.row t fun j => ((g i (t + j)).val : Int) from by
              refine List.ext_getElem (by simp [Mx.row]) fun j h1 h2 => ?_
              simp [Mx.row]] at h1
            exact h1
          have HL9 := Lib.hid hl9
          clear hl9 hkp
          go_wp2_with fail
          go_ret
          exact ⟨A9, d9, rfl, by rw [← HE.out]; exact HL9.out, K2.out.trans HK2.out⟩

end Go.Proofs.YtofdhdnffkhojaaDoor

/- Contracts of package gauss, second part: clean. -/
namespace Go.Proofs.YtofdhdnffkhojaaDoor
open Go.ChangeShapes Go.WideShapes Go.ChangeAt Go.RowKit
set_option linter.unusedVariables false

set_option maxRecDepth 100000 in
set_option maxHeartbeats 3200000 in
theorem clean_any {B g cap : Nat} {G C : Nat → Nat} {r c : Nat} {f : Nat → Nat → Fp.F} {i j : Nat} (hi : i < r) (hj : j < c) (h0 : f i j ≠ 0) (w : World) (hr : r ≤ 1000) (hc : c ≤ 1000)
    (h : OwnM w B (.slice (some ⟨g, 0, none⟩) r cap) G C (Mx.matl r c f)) :
    Calls Tryd.prog 65 #[.slice (some ⟨g, 0, none⟩) r cap, .int .i64 (i : Int), .int .i64 (j : Int)] w fun e w' =>
      e = .returned .nilIface ∧ OwnM w' B (.slice (some ⟨g, 0, none⟩) r cap) G C (Mx.matl r c (cln f i j)) ∧ Only G r w w' := by
  have y1 := h.weak.head hi
  have y2 := h.weak.el hi hj
  have DV := Lib.hid (div_el 1 (f i j) w h0)
  have HO := Lib.hid h
  unfold el at DV
  rw [show (1 : Fp.F) * Fp.inv (f i j) = Fp.inv (f i j) by grind, show (((1 : Fp.F).val : Nat) : Int) = 1 from rfl] at DV
  obtain ⟨iv, hiv⟩ : ∃ iv, iv = ((Fp.inv (f i j)).val : Int) := ⟨_, rfl⟩
  rw [← hiv] at DV
  have HIV := Lib.hid hiv
  generalize ((f i j).val : Int) = pv at *
  clear h hiv
  go_enter Tryd.func65, Tryd.ntmps65
  go_wp2_with fail
  refine (DV.out).mono ?_; rintro e w1 ⟨rfl, hd⟩
  have HO1 := Lib.hid (HO.out.kp hd.kp)
  have HN1 := Lib.hid (Only.of (G := G) (r := r) hd.kp)
  have y3 := HO1.out.weak.head hi
  clear hd y1 y2
  go_wp2_with fail
  go_loopw [31] (fun u wr => ∃ k : Nat, k ≤ c ∧ u = .int .i64 (k : Int) ∧ OwnM wr B (.slice (some ⟨g, 0, none⟩) r cap) G C (Mx.tab r c fun p q => if p = i ∧ q < k then ((f i q * Fp.inv (f i j)).val : Int) else ((f p q).val : Int)) ∧ Only G r w wr) (fun u _ => c - (intOf u).toNat)
  case atStart => exact ⟨0, Nat.zero_le _, rfl, HO1.out.ext (fun p q _ _ => by rw [if_neg (by omega)]), HN1.out⟩
  case round =>
    obtain ⟨k, hk, rfl, ho, hon⟩ := hrel
    by_cases hlt : k < c
    · have z1 := ho.weak.head hi
      have z2 := ho.weak.el hi hlt
      have z3 := ho.weak.free hi k
      rw [if_neg (by omega)] at z2
      have HP := Lib.hid ho
      have HN := Lib.hid hon
      have hm := times_mod (f i k) (Fp.inv (f i j))
      have hb := times_bound (f i k) (Fp.inv (f i j))
      rw [← HIV.out] at hm hb
      obtain ⟨z, hz⟩ : ∃ z, z = ((f i k * Fp.inv (f i j)).val : Int) := ⟨_, rfl⟩
      rw [← hz] at hm
      have HZ := Lib.hid hz
      generalize ((f i k).val : Int) = v at *
      have hwm : IntKind.i64.wrap (v * iv) = v * iv := IntWalk.i64_in _ (by omega)
      clear ho hon hz hb y3
      go_wp2_with fail
      go_still_tail 16, (by kernel_rfl)
      change wpList _ _ _ _ _ wr.drew
      go_wp2_with fail
      go_roundw
      case rel =>
        refine ⟨k + 1, by omega, by go_num, ((HP.out.drewN 1).put hi k z).ext (fun p q hp hq => ?_), (HN.out.drewN 1).put hi k _⟩
        by_cases e : p = i ∧ q = k
        · rw [if_pos e, if_pos (by omega), HZ.out, e.2]
        · rw [if_neg e]
          by_cases e2 : p = i ∧ q < k
          · rw [if_pos e2, if_pos (by omega)]
          · rw [if_neg e2, if_neg (by omega)]
      case measure => simp [intOf]; omega
    · obtain rfl : k = c := by omega
      have HP := Lib.hid (ho.ext (f' := fun p q => ((clnTo f i j 0 p q).val : Int)) (fun p q hp hq => by
        unfold clnTo
        by_cases e : p = i
        · rw [if_pos ⟨e, hq⟩, if_pos e]
        · rw [if_neg (fun h => e h.1), if_neg e, if_neg (by omega)]))
      have HN := Lib.hid hon
      clear ho hon y3
      go_wp2_with fail
      go_loopw [53] (fun u wr => ∃ k' : Nat, k' ≤ r ∧ u = .int .i64 (k' : Int) ∧ OwnM wr B (.slice (some ⟨g, 0, none⟩) r cap) G C (Mx.matl r k (clnTo f i j k')) ∧ Only G r w wr) (fun u _ => r - (intOf u).toNat)
      case atStart => exact ⟨0, Nat.zero_le _, rfl, HP.out, HN.out⟩
      case round =>
        obtain ⟨t, ht, rfl, ho, hon⟩ := hrel
        obtain ⟨wo, hwo⟩ : ∃ x, x = wr := ⟨_, rfl⟩
        subst hwo
        by_cases hlt2 : t < r
        · have z1 := ho.weak.head hlt2
          have z2 := ho.weak.head hi
          by_cases hti : t = i
          · subst hti
            have e1 : ((t : Int) != (t : Int)) = false := by simp
            have HP := Lib.hid ho
            have HN := Lib.hid hon
            clear ho hon
            go_wp2_with fail
            go_roundw
            case rel => exact ⟨t + 1, by omega, by go_num, HP.out.ext (fun p q _ _ => by rw [clnTo_same]), HN.out⟩
            case measure => simp [intOf]; omega
          · have e1 : ((t : Int) != (i : Int)) = true := by rw [bne_iff_ne]; omega
            have z3 := ho.weak.el hlt2 hj
            rw [show clnTo f i j t t j = f t j by unfold clnTo; rw [if_neg hti, if_neg (by omega)]] at z3
            have SU := Lib.hid (fun w => subtract_any (B := B) (g := g) (cap := cap) (G := G) (C := C) hlt2 hi hti (f t j) w hc (f := clnTo f i j t))
            generalize ((f t j).val : Int) = v at *
            have HP := Lib.hid ho
            have HN := Lib.hid hon
            have HTI := Lib.hid hti
            clear ho hon hti
            go_wp2_with fail
            go_still_tail 9, (by kernel_rfl)
            change wpList _ _ _ _ _ wo.drew
            go_wp2_with fail
            refine (SU.out _ (HP.out.drewN 1)).mono ?_; rintro e w2 ⟨rfl, ho2, hon2⟩
            have HP2 := Lib.hid ho2
            have HN2 := Lib.hid ((HN.out.drewN 1).trans hon2)
            clear ho2 hon2
            go_wp2_with fail
            go_roundw
            case rel => exact ⟨t + 1, by omega, by go_num, HP2.out.ext (fun p q _ _ => by rw [clnTo_next f HTI.out]), HN2.out⟩
            case measure => simp [intOf]; omega
        · obtain rfl : t = r := by omega
          have HP := Lib.hid ho
          have HN := Lib.hid hon
          clear ho hon
          go_wp2_with fail
          go_ret
          refine ⟨rfl, HP.out.ext (fun p q hp hq => ?_), HN.out⟩
          unfold clnTo cln
          by_cases e : p = i
          · rw [if_pos e, if_pos e]
          · rw [if_neg e, if_neg e, if_pos hp]
end Go.Proofs.YtofdhdnffkhojaaDoor

/- Contracts of package gauss, third part: Steps, Rank. -/
namespace Go.Proofs.YtofdhdnffkhojaaDoor
open Go.ChangeShapes Go.WideShapes Go.ChangeAt Go.RowKit
set_option linter.unusedVariables false

/-- The matrix in steps, and the columns of its pivots. -/
def GotSteps (r c : Nat) (f : Nat → Nat → Fp.F) (w : World) (e : Ending) (w' : World) : Prop :=
  ∃ b g A d A' d', Stair r c c f b g ∧ e = .returned (.tuple #[.slice A r d, .slice A' b.length d', .nilIface]) ∧ LiesM w' A (Mx.matl r c g) ∧ Lies w' A' (cols b) ∧ Kp w w'
/-- No matrix, no columns, an error. -/
def FailsSteps (c : Nat) (w : World) (e : Ending) (w' : World) : Prop := e = .returned (.tuple #[.slice none 0 0, .slice none 0 0, errOf c]) ∧ Kp w w'

set_option maxRecDepth 100000 in
set_option maxHeartbeats 1600000 in
theorem Steps_bad (A : Option Addr) (m : List (List Int)) (n d : Nat) (w : World) (ha : LiesM w A m) (hn : m.length = n) (h : Mx.mcode 5 0 9972 m ≠ 0) :
    Calls Tryd.prog 49 #[.slice A n d] w fun e w' => FailsSteps (Mx.mcode 5 0 9972 m) w e w' := by
  have C := Lib.hid (Check_any A m n d w ha hn)
  unfold FailsSteps
  rw [errOf_ne _ h] at C ⊢
  generalize Mx.mcode 5 0 9972 m = z at *
  clear ha hn h
  go_enter Tryd.func49, Tryd.ntmps49
  go_wp2_with fail
  refine (C.out).mono ?_; rintro e w' ⟨rfl, rfl⟩
  go_wp2_with fail
  go_ret3
  exact ⟨rfl, Kp.rfl' _⟩

set_option maxRecDepth 100000 in
set_option maxHeartbeats 6400000 in
theorem Steps_ok (A : Option Addr) (f : Nat → Nat → Fp.F) (r c d : Nat) (w : World) (ha : LiesM w A (Mx.matl r c f)) (hr0 : 0 < r) (hr : r ≤ 5) (hc0 : 0 < c) (hc : c ≤ 5) :
    Calls Tryd.prog 49 #[.slice A r d] w fun e w' => GotSteps r c f w e w' := by
  have CK := Lib.hid (Check_any A (Mx.matl r c f) r d w ha (Mx.len_matl _ _ _))
  rw [Mx.mcode_matl f hr0 hr hc0 hc, errOf_zero] at CK
  have CL := Lib.hid (clone_any A r c d f w (by omega) (by omega) ha)
  clear ha
  obtain ⟨i0, hi, hz0, hz1, hz2⟩ := info_parts int_info
  go_enter Tryd.func49, Tryd.ntmps49
  go_wp2_with fail
  refine (CK.out).mono ?_; rintro e w' ⟨rfl, rfl⟩
  go_wp2_with fail
  refine (CL.out).mono ?_; rintro e w1 ⟨G0, rfl, hg, hk⟩
  obtain ⟨g, hg'⟩ : ∃ g, g = w.heap.size := ⟨_, rfl⟩
  have hB : w.heap.size ≤ g := by omega
  rw [← hg'] at hg ⊢
  clear hg'
  have ho := hg.own (B := w.heap.size) hB (by omega) (by omega)
  have hcell := ho.weak.head hr0
  have HO := Lib.hid ho
  have HK := Lib.hid hk
  clear ho hk hg hB
  go_wp2_with fail
  go_loopw [7, 23] (fun u i wr => ∃ (k : Nat) (b : List Nat) (h : Nat → Nat → Fp.F) (G C : Nat → Nat), k ≤ c ∧ i = .int .i64 (k : Int) ∧ Stair r c k f b h ∧ MatRow wr w.heap.size g r G C r c (fun i j => ((h i j).val : Int)) u (cols b) ∧ Kp w wr) (fun _ i _ => c - (intOf i).toNat)
  case atStart => exact ⟨0, [], f, G0, _, Nat.zero_le _, rfl, Stair.start r c f, MatRow.start HO.out, HK.out⟩
  case round =>
    clear hcell
    obtain ⟨k, b, h, G, C, hk, rfl, hst, hmr, hkp⟩ := hrel
    obtain ⟨Au, du, rfl, hlu, _⟩ := hmr.row.cap
    obtain ⟨p, hp⟩ : ∃ p, p = b.length := ⟨_, rfl⟩
    have hpr : p ≤ r := by rw [hp]; exact hst.steps.le
    rw [len_cols, ← hp] at hmr ⊢
    have HM := Lib.hid hmr
    have HS := Lib.hid hst
    have HK := Lib.hid hkp
    have HL := Lib.hid hlu
    have HP := Lib.hid hp
    clear hmr hst hkp hlu hp
    by_cases hlt : k < c
    · have BE := Lib.hid (below_any (some ⟨g, 0, none⟩) (d := r) hpr hlt wr (by omega) (by omega) HM.out.mat.liesM)
      go_wp2_with fail
      refine (BE.out).mono ?_; rintro e w' ⟨a, hf, rfl, rfl⟩
      have HF := Lib.hid hf
      have ha1 : p ≤ a := hf.1
      have ha2 : a ≤ r := hf.2.1
      clear hf
      by_cases har : a = r
      · have e1 : ((a : Int) == (r : Int)) = true := by rw [har]; simp
        have HS2 := Lib.hid (HS.out.skip fun i h1 h2 => HF.out.2.2.1 i (by rw [HP.out]; exact h1) (by omega))
        clear har ha1 ha2
        go_wp2_with fail
        go_roundw
        case rel => exact ⟨k + 1, b, h, G, C, by omega, by go_num, HS2.out, HM.out, HK.out⟩
        case measure => simp [intOf]; omega
      · have e1 : ((a : Int) == (r : Int)) = false := by rw [beq_eq_false_iff_ne]; omega
        have har' : a < r := by omega
        have hpr' : p < r := by omega
        have h0 := HF.out.2.2.2 har'
        have y1 := HM.out.mat.weak.head har'
        have y2 := HM.out.mat.weak.head hpr'
        have y3 := HM.out.mat.weak.topFree a
        have y4 := HM.out.mat.weak.topFree p
        have y5 : (wr.setCell ⟨g, p, none⟩ (.slice (some ⟨G a, 0, none⟩) c (C a))).cell? ⟨g, a, none⟩ = some (.slice (some ⟨G a, 0, none⟩) c (C a)) := by
          by_cases e : a = p
          · subst e; exact World.cell?_setCell_same' _ _ _ (by rw [y1]; rfl)
          · have hne : (⟨g, p, none⟩ : Addr) ≠ ⟨g, a, none⟩ := fun e' => e (by cases e'; rfl)
            rw [World.cell?_setCell_other (w := wr) (v := .slice (some ⟨G a, 0, none⟩) c (C a)) (h := hne)]; exact y1
        have y6 : (wr.setCell ⟨g, p, none⟩ (.slice (some ⟨G a, 0, none⟩) c (C a))).frozen? ⟨g, a, none⟩ = false := (HM.out.mat.weak.set hpr' (HM.out.mat.weak.row a har')).topFree a
        have hBg := HM.out.mat.weak.topLe.1
        obtain ⟨H, hH⟩ : ∃ H : Nat → Nat → Fp.F, H = fun i => if i = a then h p else if i = p then h a else h i := ⟨_, rfl⟩
        obtain ⟨G', hG'⟩ : ∃ G' : Nat → Nat, G' = fun i => if i = a then G p else if i = p then G a else G i := ⟨_, rfl⟩
        obtain ⟨C', hC'⟩ : ∃ C' : Nat → Nat, C' = fun i => if i = a then C p else if i = p then C a else C i := ⟨_, rfl⟩
        have SW := HM.out.swap hpr' har'
        rw [← hG', ← hC'] at SW
        have SW := Lib.hid (SW.ext (f' := fun i j => ((H i j).val : Int)) fun i j _ _ => by
          rw [hH]
          by_cases e1 : i = a
          · simp only [if_pos e1]
          · by_cases e2 : i = p
            · simp only [if_neg e1, if_pos e2]
            · simp only [if_neg e1, if_neg e2])
        have hHp : H p k = h a k := by
          rw [hH]
          show (if p = a then h p else if p = p then h a else h p) k = h a k
          by_cases e : p = a
          · rw [if_pos e, e]
          · rw [if_neg e, if_pos rfl]
        have CLN := Lib.hid (fun w' hh => clean_any (B := w.heap.size) (g := g) (cap := r) (G := G') (C := C') (f := H) hpr' hlt (by rw [hHp]; exact h0) w' (by omega) (by omega) hh)
        have HS2 := HS.out.next (a := a) (by rw [← HP.out]; exact ha1) har' h0
        rw [← HP.out, ← cln_nxt, ← hH] at HS2
        have HS2 := Lib.hid HS2
        have HK1 := Lib.hid (((HK.out.put (p := ⟨g, p, none⟩) hBg (.slice (some ⟨G a, 0, none⟩) c (C a))).put (p := ⟨g, a, none⟩) hBg (.slice (some ⟨G p, 0, none⟩) c (C p))).drewN 1)
        have HGL := Lib.hid (show ∀ i, i < r → w.heap.size ≤ G' i from fun i hi => (SW.out.mat.weak.lt hi).1)
        have HSN := Lib.hid (cols_snoc b k)
        have hlen : (cols b).length + 1 ≤ 17000000000000 := by rw [len_cols, ← HP.out]; omega
        clear har ha2 ha1 hH hG' hC' hHp h0 hBg HF
        go_wp2_with fail
        go_region_law (fail)
        all_goals
          go_wp2_with fail
          refine (CLN.out _ (SW.out.drewN 1).mat).mono ?_; rintro e w2 ⟨rfl, ho2, hon2⟩
          have HM2 := Lib.hid ((SW.out.drewN 1).only hon2 ho2)
          have HK2 := Lib.hid (show Kp w w2 from hon2.below HK1.out HK1.out.size HGL.out)
          clear ho2 hon2 y1 y2 y3 y4 y5 y6
          have hsz := HK2.out.size
          go_wp2_with (at_builtin; refine wpList_push rfl _ _ rfl w.heap.size _ (cols b) (k : Int) w2.heap.size 1 rfl rfl (HM2.out.row.new _) (by simp; done) hlen (Nat.le_trans hsz ((Kp.rfl' _).new _).size) ?_; intro v' w3 h1 h2 h3)
          have HM3 := Lib.hid ((HM2.out.kp ((Kp.rfl' _).new _)).push h1 h2 h3)
          have HK3 := Lib.hid (own_below (HM2.out.row.new _) (HK2.out.new _) (Nat.le_trans hsz ((Kp.rfl' _).new _).size) h2)
          clear h1 h2 h3
          go_wp2_with fail
          go_roundw
          case rel => exact ⟨k + 1, b ++ [k], cln H p k, G', C', by omega, by go_num, HS2.out, by rw [HSN.out]; exact HM3.out, HK3.out⟩
          case measure => simp [intOf]; omega
    · obtain rfl : k = c := by omega
      have HL2 := Lib.hid (HM.out.mat.liesM)
      go_wp2_with fail
      go_ret3
      exact ⟨b, h, some ⟨g, 0, none⟩, r, Au, du, HS.out, by rw [← HP.out]; rfl, HL2.out, HL.out, HK.out⟩

theorem Rank_bad (A : Option Addr) (m : List (List Int)) (n d : Nat) (w : World) (ha : LiesM w A m) (hn : m.length = n) (h : Mx.mcode 5 0 9972 m ≠ 0) :
    Calls Tryd.prog 23 #[.slice A n d] w fun e w' => e = .returned (.tuple #[.int .i64 0, errOf (Mx.mcode 5 0 9972 m)]) ∧ Kp w w' := by
  have C := Lib.hid (Steps_bad A m n d w ha hn h)
  unfold FailsSteps at C
  rw [errOf_ne _ h] at C ⊢
  generalize Mx.mcode 5 0 9972 m = z at *
  clear ha hn h
  go_enter Tryd.func23, Tryd.ntmps23
  go_wp2_with fail
  refine (C.out).mono ?_; rintro e w' ⟨rfl, hk⟩
  have HK := Lib.hid hk
  clear hk
  go_wp2_with fail
  go_ret2
  exact ⟨rfl, HK.out⟩

/-- How many steps a matrix has. -/
def GotRank (r c : Nat) (f : Nat → Nat → Fp.F) (w : World) (e : Ending) (w' : World) : Prop :=
  ∃ b g, Stair r c c f b g ∧ e = .returned (.tuple #[.int .i64 (b.length : Int), .nilIface]) ∧ Kp w w'
theorem Rank_ok (A : Option Addr) (f : Nat → Nat → Fp.F) (r c d : Nat) (w : World) (ha : LiesM w A (Mx.matl r c f)) (hr0 : 0 < r) (hr : r ≤ 5) (hc0 : 0 < c) (hc : c ≤ 5) :
    Calls Tryd.prog 23 #[.slice A r d] w fun e w' => GotRank r c f w e w' := by
  have C := Lib.hid (Steps_ok A f r c d w ha hr0 hr hc0 hc)
  clear ha
  go_enter Tryd.func23, Tryd.ntmps23
  go_wp2_with fail
  refine (C.out).mono ?_; rintro e w' ⟨b, g, A1, d1, A2, d2, hs, rfl, _, _, hk⟩
  have HK := Lib.hid hk
  have HS := Lib.hid hs
  clear hk hs
  go_wp2_with fail
  go_ret2
  exact ⟨b, g, HS.out, rfl, HK.out⟩
end Go.Proofs.YtofdhdnffkhojaaDoor

/- Plain facts for systems of equations over F: what is taken to noughts, the one answer that is nought at the free columns, step by step. No program is named here. -/
namespace Go.Proofs.YtofdhdnffkhojaaDoor.Mx
open Fp
set_option linter.unusedVariables false

/-- Where a matrix takes a row. -/
def tov (c : Nat) (f : Nat → Nat → F) (v : Nat → F) : Nat → F := fun i => sg c fun j => f i j * v j
theorem tov_congr {c : Nat} {f g : Nat → Nat → F} {v w : Nat → F} {i : Nat} (h : ∀ j, j < c → f i j = g i j) (h' : ∀ j, j < c → v j = w j) : tov c f v i = tov c g w i :=
  sg_congr fun j hj => by rw [h j hj, h' j hj]
theorem tov_more (c : Nat) (f : Nat → Nat → F) (v w : Nat → F) (a : F) (i : Nat) : tov c f (fun j => v j + a * w j) i = tov c f v i + a * tov c f w i := by
  unfold tov
  rw [← sg_times, ← sg_add]
  exact sg_congr fun j _ => by grind
theorem tov_less (c : Nat) (f : Nat → Nat → F) (v w : Nat → F) (i : Nat) : tov c f (fun j => v j - w j) i = tov c f v i - tov c f w i := by
  have h := tov_more c f v w (-1) i
  have e : (fun j => v j - w j) = fun j => v j + -1 * w j := by funext j; grind
  rw [e, h]; grind
theorem tov_none (c : Nat) (f : Nat → Nat → F) (i : Nat) : tov c f (fun _ => 0) i = 0 := by
  unfold tov
  rw [sg_congr (g := fun _ => 0) fun j _ => by grind, sg_none]
theorem tov_mul (r c : Nat) (s g : Nat → Nat → F) (v : Nat → F) (i : Nat) : tov c (mul r s g) v i = sg r fun x => s i x * tov c g v x :=
  congrFun (congrFun (mul_assoc r c s g (fun j _ => v j)) i) 0
/-- What comes of rows that are taken alike is taken alike. -/
theorem tov_come {r c : Nat} {f g : Nat → Nat → F} (h : ∃ s, Eqm r c f (mul r s g)) {v w : Nat → F} (e : ∀ x, x < r → tov c g v x = tov c g w x) {i : Nat} (hi : i < r) : tov c f v i = tov c f w i := by
  obtain ⟨s, hs⟩ := h
  rw [tov_congr (g := mul r s g) (fun j hj => hs i j hi hj) (fun _ _ => rfl), tov_congr (v := w) (g := mul r s g) (fun j hj => hs i j hi hj) (fun _ _ => rfl), tov_mul, tov_mul]
  exact sg_congr fun x hx => by rw [e x hx]

/-- The columns in which no row begins. -/
def fr (b : List Nat) (c : Nat) : List Nat := (List.range c).filter fun k => decide (k ∉ b)
theorem fr_zero (b : List Nat) : fr b 0 = [] := rfl
theorem fr_yes {b : List Nat} {k : Nat} (h : k ∈ b) : fr b (k + 1) = fr b k := by simp [fr, List.range_succ, h]
theorem fr_no {b : List Nat} {k : Nat} (h : k ∉ b) : fr b (k + 1) = fr b k ++ [k] := by simp [fr, List.range_succ, h]
theorem fr_mem {b : List Nat} {c k : Nat} : k ∈ fr b c ↔ k < c ∧ k ∉ b := by simp [fr]
theorem fr_le (b : List Nat) (c : Nat) : (fr b c).length ≤ c := by
  have := List.length_filter_le (fun k => decide (k ∉ b)) (List.range c)
  rwa [List.length_range] at this
theorem fr_pairs (b : List Nat) (c : Nat) : (fr b c).Pairwise (· < ·) := List.Pairwise.filter _ List.pairwise_lt_range
theorem count_not (p : Nat → Bool) : ∀ l : List Nat, (l.filter p).length + (l.filter fun k => !p k).length = l.length
  | [] => rfl
  | x :: l => by
    have := count_not p l
    by_cases h : p x = true
    · simp [h]; omega
    · simp [h]; omega
theorem Steps.count {r c : Nat} {b : List Nat} {g : Nat → Nat → F} (h : Steps r c b g) : b.length + (fr b c).length = c := by
  have e : b = (List.range c).filter fun k => decide (k ∈ b) := inc_same _ _ h.pairs (List.Pairwise.filter _ List.pairwise_lt_range) fun x => by
    simp only [List.mem_filter, List.mem_range, decide_eq_true_eq]
    exact ⟨fun hx => ⟨by obtain ⟨t, ht, rfl⟩ := h.mem hx; exact h.lt t ht, hx⟩, fun hx => hx.2⟩
  have := count_not (fun k => decide (k ∈ b)) (List.range c)
  rw [← e, List.length_range] at this
  have e2 : (List.range c).filter (fun k => !decide (k ∈ b)) = fr b c := by
    unfold fr; congr 1; funext k; simp
  rw [e2] at this
  exact this
theorem pv_mem {b : List Nat} {t : Nat} (ht : t < b.length) : pv b t ∈ b := by
  show b.getD t 0 ∈ b
  rw [List.getD_eq_getElem?_getD, List.getElem?_eq_getElem ht]; exact List.getElem_mem ht
theorem Steps.inj {r c : Nat} {b : List Nat} {g : Nat → Nat → F} (h : Steps r c b g) {s t : Nat} (hs : s < b.length) (ht : t < b.length) (e : pv b s = pv b t) : s = t := by
  rcases Nat.lt_trichotomy s t with hlt | he | hlt
  · have := h.inc s t hlt ht; omega
  · exact he
  · have := h.inc t s hlt hs; omega

/-- The row that is taken to noughts and is 1 at the free column k, nought at the other free ones: as far as the first t rows tell. -/
def nv (b : List Nat) (g : Nat → Nat → F) (k : Nat) : Nat → Nat → F
  | 0 => fun j => if j = k then 1 else 0
  | t + 1 => fun j => if j = pv b t then -(g t k) else nv b g k t j
theorem nv_off (b : List Nat) (g : Nat → Nat → F) (k : Nat) {j : Nat} : ∀ t, (∀ s, s < t → j ≠ pv b s) → nv b g k t j = if j = k then 1 else 0
  | 0, _ => rfl
  | t + 1, h => by
    show (if j = pv b t then _ else nv b g k t j) = _
    rw [if_neg (h t (Nat.lt_succ_self t)), nv_off b g k t fun s hs => h s (by omega)]
theorem nv_free (b : List Nat) (g : Nat → Nat → F) (k : Nat) {j : Nat} (h : j ∉ b) {t : Nat} (ht : t ≤ b.length) : nv b g k t j = if j = k then 1 else 0 :=
  nv_off b g k t fun s hs e => h (by rw [e]; exact pv_mem (by omega))
theorem Steps.nv_piv {r c : Nat} {b : List Nat} {g : Nat → Nat → F} (h : Steps r c b g) (k : Nat) : ∀ (t : Nat), t ≤ b.length → ∀ s, s < t → nv b g k t (pv b s) = -(g s k)
  | 0, _, s, hs => absurd hs (by omega)
  | t + 1, ht, s, hs => by
    show (if pv b s = pv b t then _ else nv b g k t (pv b s)) = _
    by_cases e : s = t
    · rw [e, if_pos rfl]
    · rw [if_neg fun e' => e (h.inj (by omega) (by omega) e'), h.nv_piv k t (by omega) s (by omega)]
theorem nv_congr {b : List Nat} {g g' : Nat → Nat → F} {k : Nat} : ∀ (t : Nat), (∀ s, s < t → g s k = g' s k) → nv b g k t = nv b g' k t
  | 0, _ => rfl
  | t + 1, h => by
    show (fun j => if j = pv b t then -(g t k) else nv b g k t j) = fun j => if j = pv b t then -(g' t k) else nv b g' k t j
    rw [h t (Nat.lt_succ_self t), nv_congr t fun s hs => h s (by omega)]
/-- It is taken to noughts. -/
theorem Steps.nv_zero {r c : Nat} {b : List Nat} {f g : Nat → Nat → F} (h : Steps r c b g) (e : Req r c f g) {k : Nat} (hk : k < c) (hkb : k ∉ b) {i : Nat} (hi : i < r) : tov c f (nv b g k b.length) i = 0 := by
  have hg : ∀ x, x < r → tov c g (nv b g k b.length) x = tov c g (fun _ => 0) x := fun x hx => by
    rw [tov_none]
    unfold tov
    by_cases hl : x < b.length
    · have hne : k ≠ pv b x := fun e => hkb (by rw [e]; exact pv_mem hl)
      rw [sg_two hk (h.lt x hl) hne fun j hj h1 h2 => ?_]
      · rw [nv_free b g k hkb (Nat.le_refl _), if_pos rfl, h.nv_piv k _ (Nat.le_refl _) x hl, h.piv x hl x hx, if_pos rfl]; grind
      · by_cases hjb : j ∈ b
        · obtain ⟨t, ht, rfl⟩ := h.mem hjb
          rw [h.piv t ht x hx, if_neg fun e => h2 (by rw [e])]; grind
        · rw [nv_free b g k hjb (Nat.le_refl _), if_neg h1]; grind
    · rw [sg_congr (g := fun _ => 0) fun j hj => by rw [h.zero x (by omega) hx j hj]; grind, sg_none]
  rw [tov_come e.1 hg hi, tov_none]

/-- Nought at the free columns. -/
def Off (b : List Nat) (c : Nat) (v : Nat → F) : Prop := ∀ j, j < c → j ∉ b → v j = 0
theorem Off.more {b : List Nat} {c : Nat} {v w : Nat → F} (h : Off b c v) (h' : Off b c w) (a : F) : Off b c (fun j => v j + a * w j) := fun j hj hb => by
  show v j + a * w j = 0
  rw [h j hj hb, h' j hj hb]; grind
theorem Off.less {b : List Nat} {c : Nat} {v w : Nat → F} (h : Off b c v) (h' : Off b c w) : Off b c (fun j => v j - w j) := fun j hj hb => by
  show v j - w j = 0
  rw [h j hj hb, h' j hj hb]; grind
/-- Taken to noughts, and nought at the free columns: nought. -/
theorem Steps.off_zero {r c : Nat} {b : List Nat} {f g : Nat → Nat → F} (h : Steps r c b g) (e : Req r c f g) {v : Nat → F} (ho : Off b c v) (hz : ∀ i, i < r → tov c f v i = 0) : ∀ j, j < c → v j = 0 := fun j hj => by
  by_cases hb : j ∈ b
  · obtain ⟨t, ht, rfl⟩ := h.mem hb
    have htr : t < r := Nat.lt_of_lt_of_le ht h.le
    have h1 : tov c g v t = 0 := by
      have := tov_come e.2 (v := v) (w := fun _ => 0) (fun x hx => by rw [hz x hx, tov_none]) htr
      rw [this, tov_none]
    unfold tov at h1
    rw [sg_one hj fun s hs hne => ?_, h.piv t ht t htr, if_pos rfl] at h1
    · rw [← h1]; grind
    · by_cases hsb : s ∈ b
      · obtain ⟨q, hq, rfl⟩ := h.mem hsb
        rw [h.piv q hq t htr, if_neg fun e => hne (by rw [e])]; grind
      · rw [ho s hs hsb]; grind
  · exact ho j hj hb
theorem Steps.off_one {r c : Nat} {b : List Nat} {f g : Nat → Nat → F} (h : Steps r c b g) (e : Req r c f g) {v w : Nat → F} (ho : Off b c v) (ho' : Off b c w) (hz : ∀ i, i < r → tov c f v i = tov c f w i) : ∀ j, j < c → v j = w j := fun j hj => by
  have := h.off_zero e (ho.less ho') (fun i hi => by rw [tov_less, hz i hi]; grind) j hj
  grind
/-- What is taken somewhere: something that is nought at the free columns is taken there. -/
theorem Steps.off_some {r c : Nat} {b : List Nat} {f g : Nat → Nat → F} (h : Steps r c b g) (e : Req r c f g) (z : Nat → F) : ∃ y, Off b c y ∧ ∀ i, i < r → tov c f y i = tov c f z i := by
  refine ⟨fun j => sg b.length fun t => if j = pv b t then tov c g z t else 0, fun j _ hb => ?_, fun i hi => tov_come e.1 (fun x hx => ?_) hi⟩
  · dsimp only
    rw [sg_congr (g := fun _ => 0) fun t ht => by rw [if_neg fun e => hb (by rw [e]; exact pv_mem ht)], sg_none]
  · by_cases hl : x < b.length
    · have hy : ∀ t, t < b.length → (sg b.length fun s => if pv b t = pv b s then tov c g z s else 0) = tov c g z t := fun t ht => by
        rw [sg_one ht fun s hs hne => by rw [if_neg fun e => hne (h.inj hs ht e.symm)], if_pos rfl]
      show sg c (fun j => g x j * sg b.length fun s => if j = pv b s then tov c g z s else 0) = _
      rw [sg_one (h.lt x hl) fun j hj hne => ?_, hy x hl, h.piv x hl x hx, if_pos rfl]
      · grind
      · by_cases hjb : j ∈ b
        · obtain ⟨t, ht, rfl⟩ := h.mem hjb
          rw [h.piv t ht x hx, if_neg fun e => hne (by rw [e])]; grind
        · rw [sg_congr (g := fun _ => 0) fun t ht => by rw [if_neg fun e => hjb (by rw [e]; exact pv_mem ht)], sg_none]; grind
    · have hz : ∀ v : Nat → F, tov c g v x = 0 := fun v => by
        unfold tov
        rw [sg_congr (g := fun _ => 0) fun j hj => by rw [h.zero x (by omega) hx j hj]; grind, sg_none]
      rw [hz, hz]

/-- THE answer of a system: nought at the free columns. -/
structure Ans (r c : Nat) (f : Nat → Nat → F) (tt0 : Nat → F) (b : List Nat) (x : Nat → F) : Prop where
  off : Off b c x
  sol : ∀ i, i < r → tov c f x i = tt0 i
/-- There is none at all. -/
def NoAns (r c : Nat) (f : Nat → Nat → F) (tt0 : Nat → F) : Prop := ¬ ∃ z : Nat → F, ∀ i, i < r → tov c f z i = tt0 i
theorem Ans.one {r c : Nat} {f g : Nat → Nat → F} {tt0 : Nat → F} {b : List Nat} {x y : Nat → F} (h : Steps r c b g) (e : Req r c f g) (hx : Ans r c f tt0 b x) (hy : Ans r c f tt0 b y) : ∀ j, j < c → x j = y j :=
  h.off_one e hx.off hy.off fun i hi => by rw [hx.sol i hi, hy.sol i hi]

/-- What comes of some rows. -/
def Comb (c : Nat) : List (Nat → F) → (Nat → F) → Prop
  | [], v => ∀ j, j < c → v j = 0
  | w :: ws, v => ∃ a, Comb c ws fun j => v j - a * w j
theorem Comb.congr {c : Nat} : ∀ {ws : List (Nat → F)} {u v : Nat → F}, Comb c ws u → (∀ j, j < c → u j = v j) → Comb c ws v
  | [], u, v, h, e => fun j hj => by rw [← e j hj]; exact h j hj
  | w :: ws, u, v, ⟨a, h⟩, e => ⟨a, h.congr fun j hj => by rw [e j hj]⟩
theorem Comb.less {c : Nat} (w : Nat → F) (a : F) : ∀ {ws : List (Nat → F)} {v : Nat → F}, Comb c ws v → (k : Nat) → (hk : k < ws.length) → (he : ws[k] = w) → Comb c ws fun j => v j - a * w j
  | [], v, h, k, hk, he => absurd hk (by simp)
  | w' :: ws, v, ⟨d, h⟩, 0, hk, he => by
    simp at he; subst he
    exact ⟨d - a, h.congr fun j _ => by grind⟩
  | w' :: ws, v, ⟨d, h⟩, k + 1, hk, he => by
    refine ⟨d, ?_⟩
    refine (Comb.less w a h k (by simpa using hk) (by simpa using he)).congr fun j _ => ?_
    grind
/-- Row i of f is where the k-th way moves. -/
theorem Comb.take {c : Nat} : ∀ {ws : List (Nat → F)} {v : Nat → F}, Comb c ws v → (k : Nat) → (hk : k < ws.length) → ∃ a, Comb c (ws.eraseIdx k) fun j => v j - a * ws[k] j
  | [], v, h, k, hk => absurd hk (by simp)
  | w :: ws, v, ⟨d, h⟩, 0, hk => ⟨d, by simpa using h⟩
  | w :: ws, v, ⟨d, h⟩, k + 1, hk => by
    obtain ⟨a, h2⟩ := h.take k (by simpa using hk)
    refine ⟨a, ?_⟩
    rw [List.eraseIdx_cons_succ]
    refine ⟨d, h2.congr fun j _ => ?_⟩
    simp only [List.getElem_cons_succ]
    grind
/-- Each of the rows moved along one: the same, but for so many times that one. -/
theorem Comb.moved {c : Nat} (w : Nat → F) (m : (Nat → F) → F) : ∀ {ws : List (Nat → F)} {v : Nat → F}, Comb c ws v → ∃ a, Comb c (ws.map fun u j => u j + m u * w j) fun j => v j - a * w j
  | [], v, h => ⟨0, fun j hj => by show v j - 0 * w j = 0; rw [h j hj]; grind⟩
  | u :: ws, v, ⟨d, h⟩ => by
    obtain ⟨a, h2⟩ := Comb.moved w m h
    exact ⟨a - d * m u, d, h2.congr fun j _ => by dsimp only; grind⟩
/-- What all ways take to nought, all that comes of them does. -/
theorem Comb.still {c : Nat} {f : Nat → Nat → F} {i : Nat} : ∀ {ws : List (Nat → F)} {v : Nat → F}, Comb c ws v → (∀ w, w ∈ ws → tov c f w i = 0) → tov c f v i = 0
  | [], v, h, _ => by rw [tov_congr (w := fun _ => 0) (fun _ _ => rfl) h, tov_none]
  | w :: ws, v, ⟨a, h⟩, h0 => by
    have h1 := h.still fun u hu => h0 u (List.mem_cons_of_mem _ hu)
    have h2 := tov_more c f v w (-a) i
    have e : (fun j => v j - a * w j) = fun j => v j + -a * w j := by funext j; grind
    rw [e, h2, h0 w (List.mem_cons_self ..)] at h1
    rw [← h1]; grind

/-- A way moved along another one until row i takes it where it should go. -/
def mv (c : Nat) (f : Nat → Nat → F) (i : Nat) (want : F) (w u : Nat → F) : Nat → F := fun j => u j + ((want - tov c f u i) * Fp.inv (tov c f w i)) * w j
theorem mv_there {c : Nat} {f : Nat → Nat → F} {i : Nat} {want : F} {w u : Nat → F} (h0 : tov c f w i ≠ 0) : tov c f (mv c f i want w u) i = want := by
  show tov c f (fun j => u j + ((want - tov c f u i) * Fp.inv (tov c f w i)) * w j) i = want
  rw [tov_more]
  have h1 := inv_mul h0
  generalize Fp.inv (tov c f w i) = v at *
  generalize tov c f w i = t at *
  have : (want - tov c f u i) * v * t = (want - tov c f u i) * (v * t) := by grind
  rw [this, h1]; grind
theorem mv_still {c : Nat} {f : Nat → Nat → F} {i s : Nat} {want : F} {w u : Nat → F} (h0 : tov c f w s = 0) : tov c f (mv c f i want w u) s = tov c f u s := by
  show tov c f (fun j => u j + ((want - tov c f u i) * Fp.inv (tov c f w i)) * w j) s = _
  rw [tov_more, h0]; grind
theorem mv_off {c : Nat} {f : Nat → Nat → F} {i : Nat} {want : F} {w u : Nat → F} {b : List Nat} (hw : Off b c w) (hu : Off b c u) : Off b c (mv c f i want w u) := hu.more hw _

/-- The first i rows are met by x and by what comes of x and the ways, and by nothing else that is nought at the free columns. -/
structure Srch (c : Nat) (f : Nat → Nat → F) (tt0 : Nat → F) (b : List Nat) (i : Nat) (x : Nat → F) (ws : List (Nat → F)) : Prop where
  offx : Off b c x
  offw : ∀ w, w ∈ ws → Off b c w
  solx : ∀ s, s < i → tov c f x s = tt0 s
  solw : ∀ w, w ∈ ws → ∀ s, s < i → tov c f w s = 0
  all : ∀ y, Off b c y → (∀ s, s < i → tov c f y s = tt0 s) → Comb c ws fun j => y j - x j

theorem comb_units (c : Nat) : ∀ (b : List Nat) (y : Nat → F), Off b c y → Comb c (b.map fun k j => if j = k then 1 else 0) y
  | [], y, h => fun j hj => h j hj (by simp)
  | k :: b, y, h => by
    refine ⟨y k, comb_units c b _ fun j hj hb => ?_⟩
    show y j - y k * (if j = k then 1 else 0) = 0
    by_cases e : j = k
    · rw [if_pos e, e]; grind
    · rw [if_neg e, h j hj (by simp [e, hb])]; grind
theorem Srch.start (c : Nat) (f : Nat → Nat → F) (tt0 : Nat → F) (b : List Nat) : Srch c f tt0 b 0 (fun _ => 0) (b.map fun k j => if j = k then 1 else 0) := by
  refine ⟨fun _ _ _ => rfl, fun w hw j hj hb => ?_, fun s hs => absurd hs (by omega), fun w _ s hs => absurd hs (by omega), fun y hy _ => (comb_units c b y hy).congr fun j _ => by grind⟩
  obtain ⟨k, hk, rfl⟩ := List.mem_map.1 hw
  show (if j = k then (1 : F) else 0) = 0
  rw [if_neg fun e => hb (by rw [e]; exact hk)]
theorem Srch.keep {c : Nat} {f : Nat → Nat → F} {tt0 : Nat → F} {b : List Nat} {i : Nat} {x : Nat → F} {ws : List (Nat → F)} (h : Srch c f tt0 b i x ws) (h0 : ∀ w, w ∈ ws → tov c f w i = 0) (hx : tov c f x i = tt0 i) : Srch c f tt0 b (i + 1) x ws :=
  ⟨h.offx, h.offw, fun s hs => by
    by_cases e : s = i
    · rw [e, hx]
    · exact h.solx s (by omega), fun w hw s hs => by
    by_cases e : s = i
    · rw [e, h0 w hw]
    · exact h.solw w hw s (by omega), fun y hy hs => h.all y hy fun s h' => hs s (by omega)⟩
theorem Srch.fail {r c : Nat} {f g : Nat → Nat → F} {tt0 : Nat → F} {b : List Nat} {i : Nat} {x : Nat → F} {ws : List (Nat → F)} (h : Srch c f tt0 b i x ws) (st : Steps r c b g) (e : Req r c f g) (hi : i < r) (h0 : ∀ w, w ∈ ws → tov c f w i = 0) (hx : tov c f x i ≠ tt0 i) : NoAns r c f tt0 := by
  rintro ⟨z, hz⟩
  obtain ⟨y, hy, hyz⟩ := st.off_some e z
  have h1 := (h.all y hy fun s hs => by rw [hyz s (by omega), hz s (by omega)]).still h0
  rw [tov_less, hyz i hi, hz i hi] at h1
  exact hx (by grind)
theorem Srch.move {c : Nat} {f : Nat → Nat → F} {tt0 : Nat → F} {b : List Nat} {i : Nat} {x : Nat → F} {ws : List (Nat → F)} (h : Srch c f tt0 b i x ws) (k : Nat) (hk : k < ws.length) (h0 : tov c f ws[k] i ≠ 0) :
    Srch c f tt0 b (i + 1) (mv c f i (tt0 i) ws[k] x) ((ws.eraseIdx k).map (mv c f i 0 ws[k])) := by
  have hw : ws[k] ∈ ws := List.getElem_mem hk
  have he : ∀ u, u ∈ ws.eraseIdx k → u ∈ ws := fun u hu => (List.eraseIdx_sublist ws k).subset hu
  refine ⟨mv_off (h.offw _ hw) h.offx, fun v hv => ?_, fun s hs => ?_, fun v hv s hs => ?_, fun y hy hs => ?_⟩
  · obtain ⟨u, hu, rfl⟩ := List.mem_map.1 hv
    exact mv_off (h.offw _ hw) (h.offw u (he u hu))
  · by_cases e : s = i
    · rw [e, mv_there h0]
    · rw [mv_still (h.solw _ hw s (by omega)), h.solx s (by omega)]
  · obtain ⟨u, hu, rfl⟩ := List.mem_map.1 hv
    by_cases e : s = i
    · rw [e, mv_there h0]
    · rw [mv_still (h.solw _ hw s (by omega)), h.solw u (he u hu) s (by omega)]
  · obtain ⟨a, h1⟩ := (h.all y hy fun s h' => hs s (by omega)).take k hk
    obtain ⟨d, h2⟩ := Comb.moved ws[k] (fun u => (0 - tov c f u i) * Fp.inv (tov c f ws[k] i)) h1
    have h3 : Comb c ((ws.eraseIdx k).map (mv c f i 0 ws[k])) fun j => (y j - mv c f i (tt0 i) ws[k] x j) + (-(a + d - (tt0 i - tov c f x i) * Fp.inv (tov c f ws[k] i))) * ws[k] j :=
      Comb.congr (c := c) h2 fun j _ => by
        show y j - x j - a * ws[k] j - d * ws[k] j = y j - (x j + ((tt0 i - tov c f x i) * Fp.inv (tov c f ws[k] i)) * ws[k] j) + _
        generalize (tt0 i - tov c f x i) * Fp.inv (tov c f ws[k] i) = q
        generalize ws[k] j = z
        generalize x j = z2
        generalize y j = z3
        grind
    have h4 := h3.still (f := f) (i := i) fun w hw' => by
      obtain ⟨u, hu, rfl⟩ := List.mem_map.1 hw'
      exact mv_there h0
    rw [tov_more, tov_less, mv_there h0, hs i (Nat.lt_succ_self i)] at h4
    have h5 : a + d - (tt0 i - tov c f x i) * Fp.inv (tov c f ws[k] i) = 0 := by
      generalize a + d - (tt0 i - tov c f x i) * Fp.inv (tov c f ws[k] i) = q at *
      generalize tov c f ws[k] i = t at *
      rcases Fp.mul_zero_or (a := q) (b := t) (by grind) with e | e
      · exact e
      · exact absurd e h0
    rw [h5] at h3
    exact h3.congr fun j _ => by grind
theorem Srch.done {r c : Nat} {f : Nat → Nat → F} {tt0 : Nat → F} {b : List Nat} {x : Nat → F} {ws : List (Nat → F)} (h : Srch c f tt0 b r x ws) : Ans r c f tt0 b x := ⟨h.offx, h.solx⟩

/-- The ways as rows of a matrix. -/
def wl (n : Nat) (w : Nat → Nat → F) : List (Nat → F) := (List.range n).map w
theorem len_wl (n : Nat) (w : Nat → Nat → F) : (wl n w).length = n := by simp [wl]
theorem wl_at (n : Nat) (w : Nat → Nat → F) {k : Nat} (hk : k < (wl n w).length) : (wl n w)[k] = w k := by simp [wl]
theorem wl_mem {n : Nat} {w : Nat → Nat → F} {v : Nat → F} : v ∈ wl n w ↔ ∃ k, k < n ∧ w k = v := by simp [wl]
theorem wl_erase (n : Nat) (w : Nat → Nat → F) (k : Nat) (hk : k < n + 1) : (wl (n + 1) w).eraseIdx k = wl n fun i => w (sk k i) := by
  refine List.ext_getElem (by simp [wl, List.length_eraseIdx, hk]) fun i h1 h2 => ?_
  rw [List.getElem_eraseIdx]
  have h3 : i < n := by simpa [wl] using h2
  by_cases e : i < k
  · simp [wl, e, sk]
  · simp [wl, e, sk]
theorem wl_map (n : Nat) (w : Nat → Nat → F) (m : (Nat → F) → Nat → F) : (wl n w).map m = wl n fun i => m (w i) := by simp [wl]
theorem wl_units (b : List Nat) : (b.map fun k j => if j = k then (1 : F) else 0) = wl b.length fun t j => if j = pv b t then 1 else 0 := by
  refine List.ext_getElem (by simp [wl]) fun i h1 h2 => ?_
  have : i < b.length := by simpa using h1
  simp [wl, pv, this]

/-- With one more column. -/
def aug (c : Nat) (f : Nat → Nat → F) (tt0 : Nat → F) : Nat → Nat → F := fun i j => if j = c then tt0 i else f i j
theorem Req.less {r c d : Nat} {f g : Nat → Nat → F} (h : Req r c f g) (hd : d ≤ c) : Req r d f g := by
  obtain ⟨⟨s, hs⟩, ⟨t, ht⟩⟩ := h
  exact ⟨⟨s, fun i j hi hj => hs i j hi (by omega)⟩, ⟨t, fun i j hi hj => ht i j hi (by omega)⟩⟩
theorem aug_less (r c : Nat) (f : Nat → Nat → F) (tt0 : Nat → F) : Eqm r c f (aug c f tt0) := fun i j _ hj => by
  show f i j = if j = c then tt0 i else f i j
  rw [if_neg (by omega)]
theorem aug_tov (c : Nat) (f : Nat → Nat → F) (tt0 : Nat → F) (y : Nat → F) (i : Nat) : tov (c + 1) (aug c f tt0) (fun j => if j = c then -1 else y j) i = tov c f y i - tt0 i := by
  show sg c _ + aug c f tt0 i c * (if c = c then -1 else y c) = _
  rw [if_pos rfl, show aug c f tt0 i c = tt0 i from if_pos rfl]
  have : sg c (fun j => aug c f tt0 i j * (if j = c then -1 else y j)) = tov c f y i := sg_congr fun j hj => by
    rw [if_neg (by omega), show aug c f tt0 i j = f i j from if_neg (by omega)]
  rw [this]; grind
/-- What f takes to to, its steps take to what stands behind them. -/
theorem aug_same {r c : Nat} {f a : Nat → Nat → F} {tt0 : Nat → F} (e : Req r (c + 1) (aug c f tt0) a) (y : Nat → F) : (∀ i, i < r → tov c f y i = tt0 i) ↔ ∀ i, i < r → tov c a y i = a i c := by
  have ha : ∀ i, tov (c + 1) a (fun j => if j = c then -1 else y j) i = tov c a y i - a i c := fun i => by
    have := aug_tov c a (fun i => a i c) y i
    rw [← this]
    refine tov_congr (fun j _ => ?_) fun _ _ => rfl
    show a i j = if j = c then a i c else a i j
    by_cases e : j = c
    · rw [if_pos e, e]
    · rw [if_neg e]
  constructor
  · intro h i hi
    have := tov_come e.2 (v := fun j => if j = c then -1 else y j) (w := fun _ => 0) (fun x hx => by rw [aug_tov, h x hx, tov_none]; grind) hi
    rw [ha, tov_none] at this; grind
  · intro h i hi
    have := tov_come e.1 (v := fun j => if j = c then -1 else y j) (w := fun _ => 0) (fun x hx => by rw [ha, h x hx, tov_none]; grind) hi
    rw [aug_tov, tov_none] at this; grind
/-- The answer read off. -/
def ov (b : List Nat) (a : Nat → Nat → F) (c : Nat) : Nat → Nat → F
  | 0 => fun _ => 0
  | t + 1 => fun j => if j = pv b t then a t c else ov b a c t j
theorem ov_off {b : List Nat} {a : Nat → Nat → F} {c j : Nat} : ∀ t, (∀ s, s < t → j ≠ pv b s) → ov b a c t j = 0
  | 0, _ => rfl
  | t + 1, h => by
    show (if j = pv b t then _ else ov b a c t j) = _
    rw [if_neg (h t (Nat.lt_succ_self t)), ov_off t fun s hs => h s (by omega)]
theorem Steps.ov_piv {r k c : Nat} {b : List Nat} {g a : Nat → Nat → F} (h : Steps r k b g) : ∀ (t : Nat), t ≤ b.length → ∀ s, s < t → ov b a c t (pv b s) = a s c
  | 0, _, s, hs => absurd hs (by omega)
  | t + 1, ht, s, hs => by
    show (if pv b s = pv b t then _ else ov b a c t (pv b s)) = _
    by_cases e : s = t
    · rw [e, if_pos rfl]
    · rw [if_neg fun e' => e (h.inj (by omega) (by omega) e'), h.ov_piv t (by omega) s (by omega)]
theorem aug_ans {r c : Nat} {f a : Nat → Nat → F} {tt0 : Nat → F} {b : List Nat} (h : Steps r c b a) (e : Req r (c + 1) (aug c f tt0) a) (h0 : ∀ i, b.length ≤ i → i < r → a i c = 0) : Ans r c f tt0 b (ov b a c b.length) := by
  have hoff : Off b c (ov b a c b.length) := fun j hj hb => ov_off _ fun s hs e => hb (by rw [e]; exact pv_mem hs)
  refine ⟨hoff, (aug_same e _).2 fun i hi => ?_⟩
  unfold tov
  by_cases hl : i < b.length
  · rw [sg_one (h.lt i hl) fun j hj hne => ?_, h.ov_piv _ (Nat.le_refl _) i hl, h.piv i hl i hi, if_pos rfl]
    · grind
    · by_cases hjb : j ∈ b
      · obtain ⟨t, ht, rfl⟩ := h.mem hjb
        rw [h.piv t ht i hi, if_neg fun e => hne (by rw [e])]; grind
      · rw [hoff j hj hjb]; grind
  · rw [sg_congr (g := fun _ => 0) fun j hj => by rw [h.zero i (by omega) hi j hj]; grind, sg_none, h0 i (by omega) hi]
theorem aug_not {r c : Nat} {f a : Nat → Nat → F} {tt0 : Nat → F} {b : List Nat} (h : Steps r c b a) (e : Req r (c + 1) (aug c f tt0) a) {i : Nat} (hb : b.length ≤ i) (hi : i < r) (h0 : a i c ≠ 0) : NoAns r c f tt0 := by
  rintro ⟨z, hz⟩
  have := (aug_same e z).1 hz i hi
  unfold tov at this
  rw [sg_congr (g := fun _ => 0) fun j hj => by rw [h.zero i hb hi j hj]; grind, sg_none] at this
  exact h0 this.symm
/-- How many steps there are with one more column. -/
theorem aug_rank {r c : Nat} {f g h : Nat → Nat → F} {tt0 : Nat → F} {b d : List Nat} (s : Stair r c c f b g) (t : Stair r (c + 1) (c + 1) (aug c f tt0) d h) :
    ((∃ z : Nat → F, ∀ i, i < r → tov c f z i = tt0 i) → d.length = b.length) ∧ (NoAns r c f tt0 → d.length = b.length + 1) := by
  obtain ⟨b2, a, hs, hr⟩ := steps_some r (c + 1) (aug c f tt0) c (by omega)
  have hfa : Req r c f a := (Req.of r c (aug_less r c f tt0)).trans (hr.less (by omega))
  obtain ⟨rfl, _⟩ := s.steps.unique hs (s.req.symm.trans hfa)
  by_cases h0 : ∀ i, b.length ≤ i → i < r → a i c = 0
  · have hs2 := hs.skip h0
    obtain ⟨rfl, _⟩ := t.steps.unique hs2 (t.req.symm.trans hr)
    exact ⟨fun _ => rfl, fun hn => absurd ⟨_, (aug_ans hs hr h0).sol⟩ hn⟩
  · have : ∃ i, b.length ≤ i ∧ i < r ∧ a i c ≠ 0 := Classical.byContradiction fun hn => h0 fun i h1 h2 => Classical.byContradiction fun h3 => hn ⟨i, h1, h2, h3⟩
    obtain ⟨i, h1, h2, h3⟩ := this
    have hs2 := hs.next h1 h2 h3
    have hle := hs.le
    obtain ⟨rfl, _⟩ := t.steps.unique hs2 ((t.req.symm.trans hr).trans (req_next a (by omega) h2 h3))
    refine ⟨fun hz => absurd hz (aug_not hs hr h1 h2 h3), fun _ => by simp⟩

/-- The rows that are taken to noughts, one behind the other. -/
def nm (b : List Nat) (g : Nat → Nat → F) (c : Nat) : Nat → Nat → F := fun i => nv b g (pv (fr b c) i) b.length
theorem fr_at {b : List Nat} {c i : Nat} (hi : i < (fr b c).length) : pv (fr b c) i < c ∧ pv (fr b c) i ∉ b := fr_mem.1 (pv_mem hi)
theorem fr_inj {b : List Nat} {c i j : Nat} (hi : i < (fr b c).length) (hj : j < (fr b c).length) (e : pv (fr b c) i = pv (fr b c) j) : i = j := by
  have hp := List.pairwise_iff_getElem.1 (fr_pairs b c)
  have e1 : (fr b c)[i] = (fr b c)[j] := by simpa [pv, hi, hj] using e
  rcases Nat.lt_trichotomy i j with h | h | h
  · have := hp i j hi hj h; omega
  · exact h
  · have := hp j i hj hi h; omega
/-- No one of them is made of the others. -/
theorem nm_rank {r c : Nat} {b d : List Nat} {g h : Nat → Nat → F} (s : Stair (fr b c).length c c (nm b g c) d h) : d.length = (fr b c).length := by
  refine Nat.le_antisymm s.le (sees_thru (p := (fr b c).length) ⟨one, fun j i => if j = pv (fr b c) i then 1 else 0, ?_⟩ s.thru)
  refine (one_mul _ _ _).trans fun i j hi hj => ?_
  show sg c (fun x => nm b g c i x * (if x = pv (fr b c) j then 1 else 0)) = one i j
  rw [sg_one (fr_at hj).1 fun x _ hne => by rw [if_neg hne]; grind, if_pos rfl]
  show nv b g (pv (fr b c) i) b.length (pv (fr b c) j) * 1 = _
  rw [nv_free b g _ (fr_at hj).2 (Nat.le_refl _)]
  unfold one
  by_cases e : i = j
  · rw [e, if_pos rfl, if_pos rfl]; grind
  · rw [if_neg fun e' => e (fr_inj hj hi e').symm, if_neg e]; grind
theorem fr_next {b : List Nat} {c k : Nat} (hk : k < c) (hkb : k ∉ b) : (fr b k).length < (fr b c).length ∧ pv (fr b c) (fr b k).length = k := by
  have h : ∀ n, ∃ l, fr b (k + 1 + n) = fr b k ++ k :: l := by
    intro n
    induction n with
    | zero => exact ⟨[], by rw [Nat.add_zero, fr_no hkb]⟩
    | succ n ih =>
      obtain ⟨l, hl⟩ := ih
      by_cases e : k + 1 + n ∈ b
      · exact ⟨l, by rw [← Nat.add_assoc, fr_yes e, hl]⟩
      · exact ⟨l ++ [k + 1 + n], by rw [← Nat.add_assoc, fr_no e, hl]; simp⟩
  obtain ⟨l, hl⟩ := h (c - (k + 1))
  rw [show k + 1 + (c - (k + 1)) = c by omega] at hl
  rw [hl]
  exact ⟨by simp, by simp [pv]⟩

/-- One answer, and so many times what is taken to noughts. -/
def tot (b : List Nat) (g : Nat → Nat → F) (x y : Nat → F) : Nat → Nat → F
  | 0 => y
  | k + 1 => if k ∈ b then tot b g x y k else fun j => tot b g x y k j + x k * nv b g k b.length j
theorem tot_free {b : List Nat} {g : Nat → Nat → F} {x y : Nat → F} {j : Nat} (hj : j ∉ b) : ∀ k, tot b g x y k j = y j + if j < k then x j else 0
  | 0 => by show y j = _; rw [if_neg (by omega)]; grind
  | k + 1 => by
    show (if k ∈ b then tot b g x y k else fun j => tot b g x y k j + x k * nv b g k b.length j) j = _
    by_cases hk : k ∈ b
    · rw [if_pos hk, tot_free hj k]
      have : j ≠ k := fun e => hj (by rw [e]; exact hk)
      by_cases h : j < k
      · rw [if_pos h, if_pos (by omega)]
      · rw [if_neg h, if_neg (by omega)]
    · rw [if_neg hk]
      show tot b g x y k j + x k * nv b g k b.length j = _
      rw [tot_free hj k, nv_free b g k hj (Nat.le_refl _)]
      by_cases e : j = k
      · rw [if_pos e, if_neg (by omega), if_pos (by omega), e]; grind
      · rw [if_neg e]
        by_cases h : j < k
        · rw [if_pos h, if_pos (by omega)]; grind
        · rw [if_neg h, if_neg (by omega)]; grind
theorem tot_sol {r c : Nat} {b : List Nat} {f g : Nat → Nat → F} {x y : Nat → F} (h : Steps r c b g) (e : Req r c f g) {i : Nat} (hi : i < r) : ∀ k, k ≤ c → tov c f (tot b g x y k) i = tov c f y i
  | 0, _ => rfl
  | k + 1, hk => by
    show tov c f (if k ∈ b then tot b g x y k else fun j => tot b g x y k j + x k * nv b g k b.length j) i = _
    by_cases hkb : k ∈ b
    · rw [if_pos hkb, tot_sol h e hi k (by omega)]
    · rw [if_neg hkb, tov_more, tot_sol h e hi k (by omega), h.nv_zero e (by omega) hkb hi]; grind
theorem tot_all {r c : Nat} {b : List Nat} {f g : Nat → Nat → F} {x y : Nat → F} (s : Stair r c c f b g) (hy : Ans r c f (tov c f x) b y) : ∀ j, j < c → tot b g x y c j = x j := fun j hj => by
  have h := s.steps.off_zero s.req (v := fun j => tot b g x y c j - x j) (fun j hj hb => by
    show tot b g x y c j - x j = 0
    rw [tot_free hb, hy.off j hj hb, if_pos hj]; grind) (fun i hi => by rw [tov_less, tot_sol s.steps s.req hi c (Nat.le_refl _), hy.sol i hi]; grind) j hj
  have h : tot b g x y c j - x j = 0 := h
  grind
end Go.Proofs.YtofdhdnffkhojaaDoor.Mx

/- Contracts of package solve, first part: what keeps what, unit, checkSide, the function that valueOf makes. -/
namespace Go.Proofs.YtofdhdnffkhojaaDoor
open Go.ChangeShapes Go.WideShapes Go.ChangeAt Go.RowKit
set_option linter.unusedVariables false

/-- Nothing but what stands in some blocks has turned. -/
structure Save (S : Nat → Prop) (w w' : World) : Prop where
  os : w'.os = w.os
  tape : w'.tape = w.tape
  output : w'.output = w.output
  size : w.heap.size ≤ w'.heap.size
  block : ∀ b, b < w.heap.size → ¬ S b → w'.heap[b]? = w.heap[b]?
theorem Save.of {S : Nat → Prop} {w w' : World} (h : Kp w w') : Save S w w' := ⟨h.os, h.tape, h.output, h.size, fun b hb _ => h.block b hb⟩
theorem Save.refl (S : Nat → Prop) (w : World) : Save S w w := Save.of (Kp.rfl' w)
theorem Save.trans {S : Nat → Prop} {a b c : World} (h : Save S a b) (k : Save S b c) : Save S a c :=
  ⟨k.os.trans h.os, k.tape.trans h.tape, k.output.trans h.output, Nat.le_trans h.size k.size, fun i hi hn => (k.block i (Nat.lt_of_lt_of_le hi h.size) hn).trans (h.block i hi hn)⟩
theorem Save.drewN {S : Nat → Prop} {a b : World} (h : Save S a b) (n : Nat) : Save S a (b.drewN n) := h.trans (Save.of ((Kp.rfl' b).drewN n))
theorem Save.put {S : Nat → Prop} {a b : World} (h : Save S a b) {p : Addr} (hp : S p.block) (u : Value) : Save S a (b.setCell p u) :=
  h.trans ⟨rfl, rfl, rfl, by simp [World.setCell], fun k _ hn => Below.heap_setCell _ _ _ _ (fun e => hn (by rw [e]; exact hp))⟩
theorem Save.below {S : Nat → Prop} {B : Nat} {w0 w w' : World} (h : Save S w w') (hb : Below B w0 w) (hB : B ≤ w.heap.size) (hS : ∀ b, S b → B ≤ b) : Below B w0 w' :=
  hb.trans ⟨h.os, h.tape, h.output, h.size, fun k hk => h.block k (by omega) fun e => by have := hS k e; omega⟩
theorem Save.cell {S : Nat → Prop} {w w' : World} (h : Save S w w') {a : Addr} {v : Value} (hc : w.cell? a = some v) (hn : ¬ S a.block) : w'.cell? a = some v :=
  (World.cell?_of_block (w := w) (h.block a.block (cell_lt hc) hn)).trans hc
theorem ownsRow_save {S : Nat → Prop} {w w' : World} {B n : Nat} {e : TypeId} {v : Value} {xs : List Value} (h : w.ownsRow B e 1 v n xs) (hk : Save S w w') (hn : ∀ b, v.ownBlock = some b → ¬ S b) : w'.ownsRow B e 1 v n xs := by
  obtain ⟨h1, h2⟩ := h
  refine ⟨h1, ?_⟩
  rcases h2 with h2 | ⟨g, cap, cur, rfl, hg, hh, r⟩
  · exact .inl h2
  · refine .inr ⟨g, cap, cur, rfl, hg, ?_, r⟩
    rw [hk.block g ?_ (hn g rfl)]; exact hh
    rcases Nat.lt_or_ge g w.heap.size with hlt | hge
    · exact hlt
    · rw [Array.getElem?_eq_none hge] at hh; cases hh
theorem Own.save {S : Nat → Prop} {w w' : World} {B : Nat} {v : Value} {l : List Int} (h : Own w B v l) (hk : Save S w w') (hn : ∀ b, v.ownBlock = some b → ¬ S b) : Own w' B v l := ownsRow_save h hk hn
theorem OwnM.save {S : Nat → Prop} {w w' : World} {B : Nat} {v : Value} {G C : Nat → Nat} {m : List (List Int)} (h : OwnM w B v G C m) (hk : Save S w w') (hn : ∀ b, v.ownBlock = Option.some b → ¬ S b) (hr : ∀ i, i < m.length → ¬ S (G i)) : OwnM w' B v G C m :=
  ⟨ownsRow_save h.top hk hn, fun i hi => (h.row i hi).save hk fun b hb => by
    have : G i = b := Option.some.inj hb
    rw [← this]; exact hr i hi, h.apart⟩

/-- A row of numbers of the field. -/
abbrev rowF (c : Nat) (u : Nat → Fp.F) : List Int := Mx.row c fun j => ((u j).val : Int)
theorem matl_row {n c : Nat} (W : Nat → Nat → Fp.F) {k : Nat} (hk : k < n) : (Mx.matl n c W).getD k [] = rowF c (W k) := Mx.tab_at _ _ _ _ hk

theorem more_mod (s a b : Fp.F) : ((s.val : Int) + (a.val : Int) * (b.val : Int)).tmod 9973 = ((s + a * b).val : Int) := by
  have h := times_bound a b
  rw [Int.tmod_eq_emod_of_nonneg (by have := gval s; omega), Mx.val_more]
theorem sub_mod (a b : Fp.F) : ((a.val : Int) - (b.val : Int) + 9973).tmod 9973 = ((a - b).val : Int) := by
  have h1 := gval a
  have h2 := gval b
  rw [Int.tmod_eq_emod_of_nonneg (by omega), ← Fp.ofInt_val]
  have h : Fp.ofInt ((a.val : Int) - (b.val : Int) + 9973) + b = a := by
    have := Fp.ofInt_add ((a.val : Int) - (b.val : Int) + 9973) (b.val : Int)
    rw [Fp.ofInt_self, show (a.val : Int) - (b.val : Int) + 9973 + (b.val : Int) = (a.val : Int) + 9973 by omega, Fp.ofInt_add, Fp.ofInt_self, show Fp.ofInt 9973 = 0 from rfl] at this
    rw [← this]; grind
  have : Fp.ofInt ((a.val : Int) - (b.val : Int) + 9973) = a - b := by rw [← h]; grind
  rw [this]

/-- The function that valueOf made stands over row i of f: its box names the row, which lies in what was there. -/
structure Val (w : World) (gp B0 c : Nat) (f : Nat → Nat → Fp.F) (i : Nat) : Prop where
  ex : ∃ A1 d1, w.cell? ⟨gp, 0, none⟩ = some (.slice A1 c d1) ∧ LiesIn w B0 A1 (rowF c (f i))
theorem Val.save {S : Nat → Prop} {w w' : World} {gp B0 c : Nat} {f : Nat → Nat → Fp.F} {i : Nat} (h : Val w gp B0 c f i) (hk : Save S w w') (hg : ¬ S gp) (hS : ∀ b, S b → B0 ≤ b) (hB : B0 ≤ w.heap.size) : Val w' gp B0 c f i := by
  obtain ⟨A1, d1, h1, h2⟩ := h.ex
  exact ⟨A1, d1, hk.cell h1 hg, h2.below (hk.below (Below.refl B0 w) hB hS)⟩
theorem Val.keep {w w' : World} {gp B0 c : Nat} {f : Nat → Nat → Fp.F} {i : Nat} (h : Val w gp B0 c f i) (hk : Kp w w') (hB : B0 ≤ w.heap.size) : Val w' gp B0 c f i :=
  h.save (Save.of (S := fun _ => False) hk) (fun h => h) (fun _ h => h.elim) hB




set_option maxRecDepth 100000 in
set_option maxHeartbeats 1600000 in
theorem unit_any (c j : Nat) (w : World) (hc : c ≤ 1000) (hj : j < c) :
    Calls Tryd.prog 51 #[.int .i64 (c : Int), .int .i64 (j : Int)] w fun e w' =>
      ∃ g, e = .returned (.slice (some ⟨g, 0, none⟩) c c) ∧ w.heap.size ≤ g ∧ Row w' g (rowF c fun k => if k = j then 1 else 0) ∧ Kp w w' := by
  obtain ⟨i0, hi, hz0, hz1, hz2⟩ := info_parts int_info
  go_enter Tryd.func51, Tryd.ntmps51
  go_wp2_with (at_make; refine wpList_make_full _ rfl _ _ 23 rfl w.heap.size 3 i0 (.int .i64 0) 1 Tryd.underlying23 hi hz0 hz1 _ _ _ _ c rfl rfl rfl rfl (by rw [hz2]; omega) (by unfold maxLen; omega) (Nat.le_refl _) ?_; intro w2 hown hgrow; have hkp2 : Kp w w2 := (Kp.rfl' w).grown hgrow (by simp) (fun k hk => by cases hk); have hrow := row_made hown; have hcell := hrow.cell j (by rw [List.length_replicate]; exact hj); have hfree := hrow.free j)
  go_ret
  refine ⟨w.heap.size, rfl, Nat.le_refl _, ?_, hkp2.put (p := ⟨w.heap.size, j, none⟩) (Nat.le_refl _) _⟩
  have := hrow.put j 1
  rw [Mx.row_rep, Mx.row_set] at this
  rw [show rowF c (fun k => if k = j then 1 else 0) = Mx.row c fun k => if k = j then 1 else 0 from Mx.row_ext fun k _ => by
    by_cases e : k = j
    · simp only [if_pos e]; rfl
    · simp only [if_neg e]; rfl]
  exact this

end Go.Proofs.YtofdhdnffkhojaaDoor

/- Contracts of the document's To: where a matrix takes a row. -/
namespace Go.Proofs.YtofdhdnffkhojaaDoor
open Go.ChangeShapes Go.WideShapes Go.ChangeAt Go.RowKit
set_option linter.unusedVariables false

/-- A row made. -/
def MadeRow (n : Nat) (v : Nat → Fp.F) (w : World) (e : Ending) (w' : World) : Prop := ∃ A d, e = .returned (.slice A n d) ∧ Lies w' A (rowF n v) ∧ Kp w w'

set_option maxRecDepth 100000 in
set_option maxHeartbeats 6400000 in
theorem rTo_any (A X : Option Addr) (f : Nat → Nat → Fp.F) (x : Nat → Fp.F) (r c d e : Nat) (w : World) (ha : LiesM w A (Mx.matl r c f)) (hx : Lies w X (rowF c x)) (hr : r ≤ 1000) (hc : c ≤ 1000) :
    Calls Tryd.prog 35 #[.slice A r d, .slice X c e] w fun e w' => MadeRow r (Mx.tov c f x) w e w' := by
  have HA := Lib.hid ha
  have HX := Lib.hid hx
  clear ha hx
  go_enter Tryd.func35, Tryd.ntmps35
  go_wp2_with fail
  go_loopw [5, 6] (fun v i wr => ∃ k : Nat, k ≤ r ∧ i = .int .i64 (k : Int) ∧ Own wr w.heap.size v (rowF k (Mx.tov c f x)) ∧ Kp w wr) (fun _ i _ => r - (intOf i).toNat)
  case atStart => exact ⟨0, Nat.zero_le _, rfl, Own.none _ _, Kp.rfl' _⟩
  case round =>
    obtain ⟨k, hk, rfl, hu, hkq⟩ := hrel
    have HU := Lib.hid hu
    have HQ := Lib.hid hkq
    by_cases hlt : k < r
    · obtain ⟨w1, hw1⟩ : ∃ x, x = wr := ⟨_, rfl⟩
      subst hw1
      clear hu hkq
      go_wp2_with fail
      go_loopw [7, 8] (fun s i wz => ∃ p : Nat, p ≤ c ∧ i = .int .i64 (p : Int) ∧ s = .int .i64 ((Mx.sg p (fun j => f k j * x j)).val : Int) ∧ Drew w1 wz) (fun _ i _ => c - (intOf i).toNat)
      case atStart => exact ⟨0, Nat.zero_le _, rfl, rfl, Drew.refl _⟩
      case round =>
        obtain ⟨p, hp, rfl, rfl, hdr⟩ := hrel
        have HD := Lib.hid hdr
        by_cases hlt3 : p < c
        · have kz := HQ.out.trans hdr.kp
          obtain ⟨ad, A1, d1, rfl, _, x1, _, l1⟩ := (HA.out.keep kz).row hlt
          obtain ⟨ad1, rfl, _, x2⟩ := l1.el hlt3
          obtain ⟨xd, rfl, _, x4⟩ := (HX.out.keep kz).el hlt3
          have HSG := Lib.hid (show ((Mx.sg p (fun j => f k j * x j)).val : Int) + ((f k p).val : Int) * ((x p).val : Int) < 1000000000000 ∧ (((Mx.sg p (fun j => f k j * x j)).val : Int) + ((f k p).val : Int) * ((x p).val : Int)) % 9973 = ((Mx.sg (p + 1) (fun j => f k j * x j)).val : Int) by
            have b1 := gval (Mx.sg p (fun j => f k j * x j))
            have b2 := times_bound (f k p) (x p)
            exact ⟨by omega, Mx.val_more _ _ _⟩)
          have v0 := gval (Mx.sg p (fun j => f k j * x j))
          have v3 := times_bound (f k p) (x p)
          generalize ((Mx.sg p (fun j => f k j * x j)).val : Int) = u0 at *
          obtain ⟨u1, hu1⟩ : ∃ u1, u1 = ((Mx.sg (p + 1) (fun j => f k j * x j)).val : Int) := ⟨_, rfl⟩
          rw [← hu1] at HSG
          have HU1 := Lib.hid hu1
          generalize ((f k p).val : Int) = y at *
          generalize ((x p).val : Int) = z at *
          have hwm : IntKind.i64.wrap (y * z) = y * z := IntWalk.i64_in _ (by omega)
          have hwa : IntKind.i64.wrap (u0 + y * z) = u0 + y * z := IntWalk.i64_in _ (by omega)
          have MO := Lib.hid (fun w => (rMod_any (u0 + y * z) w (by omega) (by omega)))
          rw [HSG.out.2] at MO
          clear hdr kz l1 v0 v3 hu1
          go_wp2_with fail
          go_quiet ((first
            | (with_reducible exact quiet_here (MO.out _))
            | (with_reducible exact quiet_more (MO.out _))))
          go_wp2_with fail
          go_roundw
          case rel => exact ⟨p + 1, by omega, by go_num, by rw [HU1.out], HD.out.more _⟩
          case measure => simp [intOf]; omega
        · obtain rfl : p = c := by omega
          obtain ⟨wd, hwd⟩ : ∃ x, x = wr := ⟨_, rfl⟩
          subst hwd
          have hlen : (rowF k (Mx.tov p f x)).length + 1 ≤ 17000000000000 := by rw [Mx.len_row]; omega
          have HUd := Lib.hid (HU.out.kp HD.out.kp)
          have HQd := Lib.hid (HQ.out.trans HD.out.kp)
          have hsz := HQd.out.size
          have HSN := Lib.hid (show rowF (k + 1) (Mx.tov p f x) = rowF k (Mx.tov p f x) ++ [((Mx.sg p (fun j => f k j * x j)).val : Int)] from Mx.row_snoc k _)
          generalize ((Mx.sg p (fun j => f k j * x j)).val : Int) = z at *
          clear hdr
          go_wp2_with (at_builtin; refine wpList_push rfl _ _ rfl w.heap.size _ (rowF k (Mx.tov p f x)) z wd.heap.size 1 rfl rfl (HUd.out.new _) (by simp; done) hlen (Nat.le_trans hsz ((Kp.rfl' _).new _).size) ?_; intro v' w' h1 h2 _)
          have HU' := Lib.hid h1
          have HQ' := Lib.hid (own_below (HUd.out.new _) (HQd.out.new _) (Nat.le_trans hsz ((Kp.rfl' _).new _).size) h2)
          clear h1 h2
          go_wp2_with fail
          go_roundw
          case rel => exact ⟨k + 1, by omega, by go_num, by rw [HSN.out]; exact HU'.out, HQ'.out⟩
          case measure => simp [intOf]; omega
    · obtain rfl : k = r := by omega
      obtain ⟨A5, d5, rfl, hl5⟩ := hu.lies
      have HL := Lib.hid hl5
      rw [Mx.len_row]
      clear hu hkq hl5
      go_wp2_with fail
      go_ret
      exact ⟨A5, d5, rfl, HL.out, HQ.out⟩
end Go.Proofs.YtofdhdnffkhojaaDoor

/- Contract of the document's Change. -/
namespace Go.Proofs.YtofdhdnffkhojaaDoor
open Go.ChangeShapes Go.WideShapes Go.ChangeAt Go.RowKit
set_option linter.unusedVariables false

theorem chg_more (s a b : Fp.F) : ((s.val : Int) + (a.val : Int) * (b.val : Int)) % 9973 = ((s + a * b).val : Int) := Mx.val_more s a b

set_option maxRecDepth 100000 in
set_option maxHeartbeats 6400000 in
theorem rChange_none (A U V : Option Addr) (t : Nat → Nat → Fp.F) (u v : Nat → Fp.F) (n d du dv : Nat) (w : World) (ha : LiesM w A (Mx.matl n n t)) (hu : Lies w U (rowF n u)) (hv : Lies w V (rowF n v)) (h0 : 0 < n) (hn : n ≤ 5)
    (hz : Mx.bent n t u v = 0) :
    Calls Tryd.prog 15 #[.slice A n d, .slice U n du, .slice V n dv] w fun e w' => e = .returned (.tuple #[.slice none 0 0, .int .i64 5]) ∧ Kp w w' := by
  have HA := Lib.hid ha
  have HV := Lib.hid hv
  have T1 := Lib.hid (rTo_any A U t u n n d du w ha hu (by omega) (by omega))
  have FL := Lib.hid (fun w1 (h : Kp w w1) => rFlip_any A t n n d w1 (ha.keep h) h0 (by omega) (by omega))
  have T2 := Lib.hid (fun A' d' w1 (h : Kp w w1) (h2 : LiesM w1 A' (Mx.matl n n (Mx.flip t))) => rTo_any A' V (Mx.flip t) v n n d' dv w1 h2 (hv.keep h) (by omega) (by omega))
  have HZ := Lib.hid hz
  clear ha hu hv hz
  go_enter Tryd.func15, Tryd.ntmps15
  go_wp2_with fail
  refine (T1.out).mono ?_; rintro e w1 ⟨A1, d1, rfl, l1, k1⟩
  have K1 := Lib.hid k1
  have L1 := Lib.hid l1
  clear l1 k1
  go_wp2_with fail
  refine (FL.out w1 K1.out).mono ?_; rintro e w2 ⟨A2, d2, rfl, l2, k2⟩
  have K2 := Lib.hid (K1.out.trans k2)
  have L2 := Lib.hid l2
  have L12 := Lib.hid (L1.out.keep k2)
  clear l2 k2
  go_wp2_with fail
  refine (T2.out A2 d2 w2 K2.out L2.out).mono ?_; rintro e w3 ⟨A3, d3, rfl, l3, k3⟩
  have K3 := Lib.hid (K2.out.trans k3)
  have L13 := Lib.hid (L12.out.keep k3)
  clear l3 k3
  go_wp2_with fail
  go_loopw [11, 12] (fun s i wz => ∃ p : Nat, p ≤ n ∧ i = .int .i64 (p : Int) ∧ s = .int .i64 ((1 + Mx.sg p (fun i => v i * Mx.tov n t u i) : Fp.F).val : Int) ∧ Drew w3 wz) (fun _ i _ => n - (intOf i).toNat)
  case atStart => exact ⟨0, Nat.zero_le _, rfl, rfl, Drew.refl _⟩
  case round =>
    obtain ⟨p, hp, rfl, rfl, hdr⟩ := hrel
    have HD := Lib.hid hdr
    by_cases hlt : p < n
    · obtain ⟨xd, rfl, _, x1⟩ := (HV.out.keep (K3.out.trans hdr.kp)).el hlt
      obtain ⟨yd, rfl, _, x2⟩ := (L13.out.keep hdr.kp).el hlt
      have v0 := gval (1 + Mx.sg p (fun i => v i * Mx.tov n t u i))
      have v3 := times_bound (v p) (Mx.tov n t u p)
      have MO := Lib.hid (fun w => (rMod_any (((1 + Mx.sg p (fun i => v i * Mx.tov n t u i) : Fp.F).val : Int) + ((v p).val : Int) * ((Mx.tov n t u p).val : Int)) w (by omega) (by omega)))
      rw [chg_more, show (1 + Mx.sg p (fun i => v i * Mx.tov n t u i)) + v p * Mx.tov n t u p = 1 + Mx.sg (p + 1) (fun i => v i * Mx.tov n t u i) by rw [Mx.sg_succ]; grind] at MO
      generalize ((1 + Mx.sg p (fun i => v i * Mx.tov n t u i) : Fp.F).val : Int) = u0 at *
      obtain ⟨u1, hu1⟩ : ∃ u1, u1 = ((1 + Mx.sg (p + 1) (fun i => v i * Mx.tov n t u i) : Fp.F).val : Int) := ⟨_, rfl⟩
      rw [← hu1] at MO
      have HU1 := Lib.hid hu1
      generalize ((v p).val : Int) = y at *
      generalize ((Mx.tov n t u p).val : Int) = z at *
      have hwm : IntKind.i64.wrap (y * z) = y * z := IntWalk.i64_in _ (by omega)
      have hwa : IntKind.i64.wrap (u0 + y * z) = u0 + y * z := IntWalk.i64_in _ (by omega)
      clear hdr v0 v3 hu1
      go_wp2_with fail
      go_quiet ((first
        | (with_reducible exact quiet_here (MO.out _))
        | (with_reducible exact quiet_more (MO.out _))))
      go_wp2_with fail
      go_roundw
      case rel => exact ⟨p + 1, by omega, by go_num, by rw [HU1.out], HD.out.more _⟩
      case measure => simp [intOf]; omega
    · obtain rfl : p = n := by omega
      have e1 : (1 + Mx.sg p (fun i => v i * Mx.tov p t u i) : Fp.F) = 0 := HZ.out
      rw [e1]
      have e2 : (((0 : Fp.F).val : Nat) : Int) = 0 := rfl
      rw [e2]
      clear e1 e2 hdr
      go_wp2_with fail
      go_ret2
      exact ⟨rfl, K3.out.trans HD.out.kp⟩
set_option maxRecDepth 100000 in
set_option maxHeartbeats 6400000 in
theorem rChange_ok (A U V : Option Addr) (t : Nat → Nat → Fp.F) (u v : Nat → Fp.F) (n d du dv : Nat) (w : World) (ha : LiesM w A (Mx.matl n n t)) (hu : Lies w U (rowF n u)) (hv : Lies w V (rowF n v)) (h0 : 0 < n) (hn : n ≤ 5)
    (hz : Mx.bent n t u v ≠ 0) :
    Calls Tryd.prog 15 #[.slice A n d, .slice U n du, .slice V n dv] w fun e w' => ∃ A' d', e = .returned (.tuple #[.slice A' n d', .int .i64 0]) ∧ LiesM w' A' (Mx.matl n n (Mx.shm n t u v)) ∧ Kp w w' := by
  have HA := Lib.hid ha
  have HV := Lib.hid hv
  have T1 := Lib.hid (rTo_any A U t u n n d du w ha hu (by omega) (by omega))
  have FL := Lib.hid (fun w1 (h : Kp w w1) => rFlip_any A t n n d w1 (ha.keep h) h0 (by omega) (by omega))
  have T2 := Lib.hid (fun A' d' w1 (h : Kp w w1) (h2 : LiesM w1 A' (Mx.matl n n (Mx.flip t))) => rTo_any A' V (Mx.flip t) v n n d' dv w1 h2 (hv.keep h) (by omega) (by omega))
  have HZ := Lib.hid hz
  clear ha hu hv hz
  go_enter Tryd.func15, Tryd.ntmps15
  go_wp2_with fail
  refine (T1.out).mono ?_; rintro e w1 ⟨A1, d1, rfl, l1, k1⟩
  have K1 := Lib.hid k1
  have L1 := Lib.hid l1
  clear l1 k1
  go_wp2_with fail
  refine (FL.out w1 K1.out).mono ?_; rintro e w2 ⟨A2, d2, rfl, l2, k2⟩
  have K2 := Lib.hid (K1.out.trans k2)
  have L2 := Lib.hid l2
  have L12 := Lib.hid (L1.out.keep k2)
  clear l2 k2
  go_wp2_with fail
  refine (T2.out A2 d2 w2 K2.out L2.out).mono ?_; rintro e w3 ⟨A3, d3, rfl, l3, k3⟩
  have K3 := Lib.hid (K2.out.trans k3)
  have L13 := Lib.hid (L12.out.keep k3)
  have L3 := Lib.hid l3
  clear l3 k3
  go_wp2_with fail
  go_loopw [11, 12] (fun s i wz => ∃ p : Nat, p ≤ n ∧ i = .int .i64 (p : Int) ∧ s = .int .i64 ((1 + Mx.sg p (fun i => v i * Mx.tov n t u i) : Fp.F).val : Int) ∧ Drew w3 wz) (fun _ i _ => n - (intOf i).toNat)
  case atStart => exact ⟨0, Nat.zero_le _, rfl, rfl, Drew.refl _⟩
  case round =>
    obtain ⟨p, hp, rfl, rfl, hdr⟩ := hrel
    have HD := Lib.hid hdr
    by_cases hlt : p < n
    · obtain ⟨xd, rfl, _, x1⟩ := (HV.out.keep (K3.out.trans hdr.kp)).el hlt
      obtain ⟨yd, rfl, _, x2⟩ := (L13.out.keep hdr.kp).el hlt
      have v0 := gval (1 + Mx.sg p (fun i => v i * Mx.tov n t u i))
      have v3 := times_bound (v p) (Mx.tov n t u p)
      have MO := Lib.hid (fun w => (rMod_any (((1 + Mx.sg p (fun i => v i * Mx.tov n t u i) : Fp.F).val : Int) + ((v p).val : Int) * ((Mx.tov n t u p).val : Int)) w (by omega) (by omega)))
      rw [chg_more, show (1 + Mx.sg p (fun i => v i * Mx.tov n t u i)) + v p * Mx.tov n t u p = 1 + Mx.sg (p + 1) (fun i => v i * Mx.tov n t u i) by rw [Mx.sg_succ]; grind] at MO
      generalize ((1 + Mx.sg p (fun i => v i * Mx.tov n t u i) : Fp.F).val : Int) = u0 at *
      obtain ⟨u1, hu1⟩ : ∃ u1, u1 = ((1 + Mx.sg (p + 1) (fun i => v i * Mx.tov n t u i) : Fp.F).val : Int) := ⟨_, rfl⟩
      rw [← hu1] at MO
      have HU1 := Lib.hid hu1
      generalize ((v p).val : Int) = y at *
      generalize ((Mx.tov n t u p).val : Int) = z at *
      have hwm : IntKind.i64.wrap (y * z) = y * z := IntWalk.i64_in _ (by omega)
      have hwa : IntKind.i64.wrap (u0 + y * z) = u0 + y * z := IntWalk.i64_in _ (by omega)
      clear hdr v0 v3 hu1
      go_wp2_with fail
      go_quiet ((first
        | (with_reducible exact quiet_here (MO.out _))
        | (with_reducible exact quiet_more (MO.out _))))
      go_wp2_with fail
      go_roundw
      case rel => exact ⟨p + 1, by omega, by go_num, by rw [HU1.out], HD.out.more _⟩
      case measure => simp [intOf]; omega
    · obtain rfl : p = n := by omega
      have e0 : (((1 + Mx.sg p (fun i => v i * Mx.tov p t u i) : Fp.F).val : Int) == 0) = false := by
        rw [beq_eq_false_iff_ne]
        exact fun e => HZ.out (Fin.ext (by
          show (1 + Mx.sg p (fun i => v i * Mx.tov p t u i) : Fp.F).val = 0
          omega))
      have PW := Lib.hid (fun w => refPow_any 9971 (Mx.bent p t u v) 9971 w (Nat.le_refl _) (by omega))
      have HEB := Lib.hid (show Mx.bent p t u v = 1 + Mx.sg p (fun i => v i * Mx.tov p t u i) from rfl)
      rw [HEB.out] at PW
      unfold el at PW
      obtain ⟨x, hx⟩ : ∃ x, x = Fp.pw (1 + Mx.sg p (fun i => v i * Mx.tov p t u i)) 9971 := ⟨_, rfl⟩
      rw [← hx] at PW
      have HSM := Lib.hid (show ∀ i j, t i j - Mx.tov p t u i * Mx.tov p (Mx.flip t) v j * x = Mx.shm p t u v i j from fun i j => by
        have e1 : Mx.rowv p v t j = Mx.tov p (Mx.flip t) v j := Mx.sg_congr fun a _ => by show v a * t a j = t a j * v a; grind
        rw [hx]
        unfold Mx.shm Fp.inv
        rw [e1]
        rfl)
      generalize ((1 + Mx.sg p (fun i => v i * Mx.tov p t u i) : Fp.F).val : Int) = bv at *
      generalize Mx.tov p t u = lf at *
      generalize Mx.tov p (Mx.flip t) v = rf at *
      have CO := Lib.hid (fun w1 (h : Kp w w1) => rCopy_any A t p p d w1 (HA.out.keep h) h0 (by omega) (by omega))
      have HDK := Lib.hid (K3.out.trans HD.out.kp)
      have LL := Lib.hid (L13.out.keep HD.out.kp)
      have LR := Lib.hid (L3.out.keep HD.out.kp)
      clear hdr hx
      go_wp2_with fail
      refine (PW.out wr).mono ?_; rintro e w4 ⟨rfl, rfl⟩
      go_wp2_with fail
      refine (CO.out wr HDK.out).mono ?_; rintro e w5 ⟨v5, G, C, rfl, ho, k5⟩
      obtain ⟨g, gc, rfl, hg⟩ := ho.some (by rw [Mx.len_matl]; exact h0)
      rw [Mx.len_matl] at ho ⊢
      have HO := Lib.hid ho
      have HK5 := Lib.hid k5
      clear ho k5
      obtain ⟨wz, hwz⟩ : ∃ x, x = wr := ⟨_, rfl⟩
      subst hwz
      go_wp2_with fail
      go_loopw [15] (fun i wr => ∃ k : Nat, k ≤ p ∧ i = .int .i64 (k : Int) ∧ OwnM wr wz.heap.size (.slice (some ⟨g, 0, none⟩) p gc) G C (Mx.tab p p fun a b => if a < k then ((Mx.shm p t u v a b).val : Int) else ((t a b).val : Int)) ∧ Kp wz wr) (fun i _ => p - (intOf i).toNat)
      case atStart => exact ⟨0, Nat.zero_le _, rfl, HO.out.ext (fun a b _ _ => by rw [if_neg (by omega)]), HK5.out⟩
      case round =>
        obtain ⟨k, hk, rfl, ho, hkp⟩ := hrel
        obtain ⟨wo, hwo⟩ : ∃ x, x = wr := ⟨_, rfl⟩
        subst hwo
        have HO1 := Lib.hid ho
        have HK1 := Lib.hid hkp
        clear ho hkp
        by_cases hlt : k < p
        · go_wp2_with fail
          go_loopw [16] (fun i wq => ∃ q : Nat, q ≤ p ∧ i = .int .i64 (q : Int) ∧ OwnM wq wz.heap.size (.slice (some ⟨g, 0, none⟩) p gc) G C (Mx.tab p p fun a b => if a < k ∨ (a = k ∧ b < q) then ((Mx.shm p t u v a b).val : Int) else ((t a b).val : Int)) ∧ Kp wz wq) (fun i _ => p - (intOf i).toNat)
          case atStart => exact ⟨0, Nat.zero_le _, rfl, HO1.out.ext (fun a b _ _ => by
            by_cases e : a < k
            · rw [if_pos e, if_pos (.inl e)]
            · rw [if_neg e, if_neg (by omega)]), HK1.out⟩
          case round =>
            obtain ⟨q, hq, rfl, ho, hkq⟩ := hrel
            by_cases hlt2 : q < p
            · have kq := HDK.out.trans hkq
              obtain ⟨ad, A1', d1', rfl, _, x1, _, l1⟩ := (HA.out.keep kq).row hlt
              obtain ⟨ad1, rfl, _, x2⟩ := l1.el hlt2
              obtain ⟨ld, rfl, _, x3⟩ := (LL.out.keep hkq).el hlt
              obtain ⟨rd, rfl, _, x4⟩ := (LR.out.keep hkq).el hlt2
              have y1 := ho.head (i := k) (by rw [Mx.len_tab]; exact hlt)
              have y2 := ho.el (i := k) (j := q) (by rw [Mx.len_tab]; exact hlt) (by rw [Mx.tab_len _ _ _ _ hlt]; exact hlt2)
              have y3 := ho.free (i := k) (by rw [Mx.len_tab]; exact hlt) q
              have y4 := (ho.lt (i := k) (by rw [Mx.len_tab]; exact hlt)).1
              rw [Mx.tab_len _ _ _ _ hlt] at y1
              rw [Mx.tab_el _ _ _ _ _ hlt hlt2] at y2
              have HO2 := Lib.hid ho
              have HK2 := Lib.hid hkq
              have v1 := gval (t k q)
              have v2 := times_bound (lf k) (rf q)
              have v3 := times_bound (lf k * rf q) x
              have M1 := Lib.hid (fun w => (rMod_any (((lf k).val : Int) * ((rf q).val : Int)) w (by omega) (by omega)))
              rw [mod_times] at M1
              have M2 := Lib.hid (fun w => (rMod_any (((t k q).val : Int) - ((lf k * rf q).val : Int) * (x.val : Int)) w (by omega) (by omega)))
              rw [mod_less] at M2
              obtain ⟨z, hz⟩ : ∃ z, z = ((t k q - lf k * rf q * x).val : Int) := ⟨_, rfl⟩
              rw [← hz] at M2
              have HZZ := Lib.hid (show z = ((Mx.shm p t u v k q).val : Int) by rw [hz, HSM.out])
              generalize ((t k q).val : Int) = n1 at *
              generalize ((lf k * rf q).val : Int) = n4 at *
              generalize ((lf k).val : Int) = n2 at *
              generalize ((rf q).val : Int) = n3 at *
              generalize (x.val : Int) = n5 at *
              have hwm : IntKind.i64.wrap (n2 * n3) = n2 * n3 := IntWalk.i64_in _ (by omega)
              have hwm2 : IntKind.i64.wrap (n4 * n5) = n4 * n5 := IntWalk.i64_in _ (by omega)
              have hws : IntKind.i64.wrap (n1 - n4 * n5) = n1 - n4 * n5 := IntWalk.i64_in _ (by omega)
              generalize (if k < k ∨ k = k ∧ q < q then ((Mx.shm p t u v k q).val : Int) else n1) = old at y2
              clear ho hkq kq l1 v1 v2 v3 hz
              go_wp2_with fail
              refine wp_region_still_tail 27 (by kernel_rfl) (by kernel_rfl) ?_
              simp only [List.take_succ_cons, List.take_zero, List.drop_succ_cons, List.drop_zero]
              repeat still_step
              still_call ((M1.out _).mono fun _ _ h => ⟨h.1, h.2.symm⟩)
              repeat still_step
              still_call ((M2.out _).mono fun _ _ h => ⟨h.1, h.2.symm⟩)
              repeat still_step
              refine wpStill_nil ?_
              change wpList _ _ _ _ _ wr.drew
              go_wp2_with fail
              go_roundw
              case rel =>
                refine ⟨q + 1, by omega, by go_num, ((HO2.out.drewN 1).put hlt q z).ext (fun a b ha hb => ?_), (HK2.out.drewN 1).put (p := ⟨G k, q, none⟩) y4 _⟩
                by_cases e : a = k ∧ b = q
                · rw [if_pos e, if_pos (by omega), e.1, e.2]; exact HZZ.out
                · rw [if_neg e]
                  by_cases e2 : a < k ∨ (a = k ∧ b < q)
                  · rw [if_pos e2, if_pos (by omega)]
                  · rw [if_neg e2, if_neg (by omega)]
              case measure => simp [intOf]; omega
            · obtain rfl : q = p := by omega
              have HO2 := Lib.hid ho
              have HK2 := Lib.hid hkq
              clear ho hkq
              go_wp2_with fail
              go_roundw
              case rel =>
                refine ⟨k + 1, by omega, by go_num, HO2.out.ext (fun a b ha hb => ?_), HK2.out⟩
                by_cases e : a < k ∨ (a = k ∧ b < q)
                · rw [if_pos e, if_pos (by omega)]
                · rw [if_neg e, if_neg (by omega)]
              case measure => simp [intOf]; omega
        · obtain rfl : k = p := by omega
          have hl := HO1.out.ext (f' := fun a b => ((Mx.shm k t u v a b).val : Int)) (fun a b ha _ => by rw [if_pos ha])
          obtain ⟨A9, d9, ev, hl9, _⟩ := hl.lies
          rw [Mx.len_tab] at ev
          rw [ev]
          have HL9 := Lib.hid hl9
          clear hl hl9
          go_wp2_with fail
          go_ret2
          exact ⟨_, _, rfl, HL9.out, HDK.out.trans HK1.out⟩

end Go.Proofs.YtofdhdnffkhojaaDoor

/- Comparing rows and matrices, small matrices just laid down: for all packages. -/
namespace Go.Proofs.YtofdhdnffkhojaaDoor
open Go.ChangeShapes Go.WideShapes Go.ChangeAt Go.RowKit
set_option linter.unusedVariables false

set_option maxHeartbeats 1600000 in
theorem ints_drew (A B : Option Addr) (l m : List Int) (c d : Nat) (w : World) (ha : Lies w A l) (hb : Lies w B m) (hn : l.length ≤ 1000000) (hm : m.length ≤ 1000000) :
    Calls Tryd.prog 33 #[.slice A l.length c, .slice B m.length d] w fun e w' => Tells (l = m) e ∧ Drew w w' := by
  have HA := Lib.hid ha
  have HB := Lib.hid hb
  obtain ⟨n, hn'⟩ : ∃ n, n = l.length := ⟨_, rfl⟩
  obtain ⟨q, hq'⟩ : ∃ q, q = m.length := ⟨_, rfl⟩
  rw [← hn'] at hn ⊢
  rw [← hq'] at hm ⊢
  have HN := Lib.hid hn'
  have HQ := Lib.hid hq'
  clear ha hb hn' hq'
  by_cases he : n = q
  · subst he
    have hne : ((n : Int) != (n : Int)) = false := by simp
    go_enter Tryd.func33, Tryd.ntmps33
    go_wp2_with fail
    go_loopw [5] (fun i wr => ∃ k : Nat, k ≤ n ∧ i = .int .i64 (k : Int) ∧ (∀ j, j < k → l.getD j 0 = m.getD j 0) ∧ Drew w wr) (fun i _ => n - (intOf i).toNat)
    case atStart => exact ⟨0, Nat.zero_le _, rfl, fun j hj => absurd hj (by omega), Drew.refl _⟩
    case round =>
      obtain ⟨k, hk, rfl, hg, hkp⟩ := hrel
      have HG := Lib.hid hg
      have HK := Lib.hid hkp
      clear hg hkp
      by_cases hlt : k < n
      · obtain ⟨ad, rfl, _, hc⟩ := (HA.out.keep HK.out.kp) k (by have := HN.out; omega)
        obtain ⟨bd, rfl, _, hd⟩ := (HB.out.keep HK.out.kp) k (by have := HQ.out; omega)
        obtain ⟨x, hx⟩ : ∃ x, x = l.getD k 0 := ⟨_, rfl⟩
        obtain ⟨y, hy⟩ : ∃ y, y = m.getD k 0 := ⟨_, rfl⟩
        rw [← hx] at hc
        rw [← hy] at hd
        by_cases hxy : x = y
        · have GG := Lib.hid (show ∀ j, j < k + 1 → l.getD j 0 = m.getD j 0 from fun j hj => by
            by_cases e : j = k
            · subst e; rw [← hx, ← hy]; exact hxy
            · exact HG.out j (by omega))
          have hb : (x != y) = false := by rw [hxy]; simp
          clear hx hy hxy
          go_wp2_with fail
          go_quiet (fail)
          go_wp2_with fail
          go_roundw
          case rel => exact ⟨k + 1, by omega, by go_num, GG.out, HK.out.more _⟩
          case measure => simp [intOf]; omega
        · have NF := Lib.hid (show ¬ l = m from fun e => hxy (by rw [hx, hy, e]))
          have hb : (x != y) = true := by rw [bne_iff_ne]; exact hxy
          clear hx hy hxy
          go_wp2_with fail
          go_quiet (fail)
          go_wp2_with fail
          go_ret
          exact ⟨.inr ⟨NF.out, rfl⟩, HK.out.more _⟩
      · have YES := Lib.hid (show l = m from list_same l m (by rw [← HN.out, ← HQ.out]) fun j hj => HG.out j (by have := HN.out; omega))
        go_wp2_with fail
        go_ret
        exact ⟨.inl ⟨YES.out, rfl⟩, HK.out⟩
  · have hne : ((n : Int) != (q : Int)) = true := by rw [bne_iff_ne]; omega
    have NF := Lib.hid (show ¬ l = m from fun e => he (by rw [HN.out, HQ.out, e]))
    clear he
    go_enter Tryd.func33, Tryd.ntmps33
    go_wp2_with fail
    go_ret
    exact ⟨.inr ⟨NF.out, rfl⟩, Drew.refl _⟩
theorem rows_same (a b : List (List Int)) (h : a.length = b.length) (h2 : ∀ k, k < a.length → a.getD k [] = b.getD k []) : a = b := by
  refine List.ext_getElem h fun k h3 h4 => ?_
  have := h2 k h3
  rwa [List.getD_eq_getElem?_getD, List.getD_eq_getElem?_getD, List.getElem?_eq_getElem h3, List.getElem?_eq_getElem h4] at this

/-- No row is longer than a slice may be. -/
def Modest (m : List (List Int)) : Prop := m.length ≤ 1000000 ∧ ∀ k, k < m.length → (m.getD k []).length ≤ 1000000
theorem modest_tab {r c : Nat} (g : Nat → Nat → Int) (hr : r ≤ 1000000) (hc : c ≤ 1000000) : Modest (Mx.tab r c g) :=
  ⟨by rw [Mx.len_tab]; exact hr, fun k hk => by rw [Mx.len_tab] at hk; rw [Mx.tab_len _ _ _ _ hk]; exact hc⟩
theorem modest_nil : Modest [] := ⟨by decide, fun k hk => absurd hk (by simp)⟩

set_option maxRecDepth 100000 in
set_option maxHeartbeats 1600000 in
theorem rows_any (A B : Option Addr) (a b : List (List Int)) (n m c d : Nat) (w : World) (ha : LiesM w A a) (hb : LiesM w B b) (hn : a.length = n) (hm : b.length = m) (ma : Modest a) (mb : Modest b) :
    Calls Tryd.prog 13 #[.slice A n c, .slice B m d] w fun e w' => Tells (a = b) e ∧ Drew w w' := by
  have HA := Lib.hid ha
  have HB := Lib.hid hb
  have MA := Lib.hid ma
  have MB := Lib.hid mb
  have HN := Lib.hid hn
  have HM := Lib.hid hm
  have hb : n ≤ 1000000 := by rw [← hn]; exact ma.1
  clear ha ma mb hn hm
  by_cases he : n = m
  · subst he
    have hne : ((n : Int) != (n : Int)) = false := by simp
    go_enter Tryd.func13, Tryd.ntmps13
    go_wp2_with fail
    go_loopw [5] (fun i wr => ∃ k : Nat, k ≤ n ∧ i = .int .i64 (k : Int) ∧ (∀ j, j < k → a.getD j [] = b.getD j []) ∧ Drew w wr) (fun i _ => n - (intOf i).toNat)
    case atStart => exact ⟨0, Nat.zero_le _, rfl, fun j hj => absurd hj (by omega), Drew.refl _⟩
    case round =>
      obtain ⟨k, hk, rfl, hg, hkp⟩ := hrel
      have HG := Lib.hid hg
      have HK := Lib.hid hkp
      clear hg hkp
      by_cases hlt : k < n
      · obtain ⟨ad, A1, c1, rfl, _, hc, _, l1⟩ := (HA.out.keep HK.out.kp) k (by have := HN.out; omega)
        obtain ⟨bd, B1, d1, rfl, _, hd, _, l2⟩ := (HB.out.keep HK.out.kp) k (by have := HM.out; omega)
        have IN := Lib.hid (fun i => ints_drew A1 B1 _ _ c1 d1 (wr.drewN i) (l1.keep ((Kp.rfl' wr).drewN i)) (l2.keep ((Kp.rfl' wr).drewN i)) (MA.out.2 k (by have := HN.out; omega)) (MB.out.2 k (by have := HM.out; omega)))
        obtain ⟨x, hx⟩ : ∃ x, x = a.getD k [] := ⟨_, rfl⟩
        obtain ⟨y, hy⟩ : ∃ y, y = b.getD k [] := ⟨_, rfl⟩
        rw [← hx, ← hy] at IN
        rw [← hx] at hc
        rw [← hy] at hd
        by_cases hxy : x = y
        · have GG := Lib.hid (show ∀ j, j < k + 1 → a.getD j [] = b.getD j [] from fun j hj => by
            by_cases e : j = k
            · subst e; rw [← hx, ← hy]; exact hxy
            · exact HG.out j (by omega))
          have IY := Lib.hid (fun i => (IN.out i).mono fun e w' ⟨ht, hd⟩ => (⟨tells_yes ht hxy, hd⟩ : e = Ending.returned (.bool true) ∧ Drew (wr.drewN i) w'))
          generalize x.length = p at *
          generalize y.length = q at *
          clear hx hy hxy l1 l2
          go_wp2_with fail
          go_quiet ((first
            | (with_reducible exact quiet_drew (IY.out _))
            | (with_reducible exact quiet_drew_more (IY.out _))))
          go_wp2_with fail
          go_roundw
          case rel => exact ⟨k + 1, by omega, by go_num, GG.out, HK.out.more _⟩
          case measure => simp [intOf]; omega
        · have NF := Lib.hid (show ¬ a = b from fun e => hxy (by rw [hx, hy, e]))
          have IY := Lib.hid (fun i => (IN.out i).mono fun e w' ⟨ht, hd⟩ => (⟨tells_no ht hxy, hd⟩ : e = Ending.returned (.bool false) ∧ Drew (wr.drewN i) w'))
          generalize x.length = p at *
          generalize y.length = q at *
          clear hx hy hxy l1 l2
          go_wp2_with fail
          go_quiet ((first
            | (with_reducible exact quiet_drew (IY.out _))
            | (with_reducible exact quiet_drew_more (IY.out _))))
          go_wp2_with fail
          go_ret
          exact ⟨.inr ⟨NF.out, rfl⟩, HK.out.more _⟩
      · have YES := Lib.hid (show a = b from rows_same a b (by rw [HN.out, HM.out]) fun j hj => HG.out j (by have := HN.out; omega))
        go_wp2_with fail
        go_ret
        exact ⟨.inl ⟨YES.out, rfl⟩, HK.out⟩
  · have hne : ((n : Int) != (m : Int)) = true := by rw [bne_iff_ne]; omega
    have NF := Lib.hid (show ¬ a = b from fun e => he (by rw [← HN.out, ← HM.out, e]))
    clear he
    go_enter Tryd.func13, Tryd.ntmps13
    go_wp2_with fail
    go_ret
    exact ⟨.inr ⟨NF.out, rfl⟩, Drew.refl _⟩
theorem rows_eq (A B : Option Addr) (a b : List (List Int)) (n m c d : Nat) (w : World) (ha : LiesM w A a) (hb : LiesM w B b) (hn : a.length = n) (hm : b.length = m) (ma : Modest a) (mb : Modest b) (h : a = b) :
    Calls Tryd.prog 13 #[.slice A n c, .slice B m d] w fun e w' => e = .returned (.bool true) ∧ Kp w w' :=
  (rows_any A B a b n m c d w ha hb hn hm ma mb).mono fun e w' ⟨ht, hd⟩ => ⟨tells_yes ht h, hd.kp⟩

theorem cell_just (w : World) (cs : Array Value) (e : TypeId) (g k : Nat) (h : g = w.heap.size) : (w.alloc (.cells cs e)).cell? ⟨g, k, none⟩ = cs[k]? := by
  subst h
  exact cell_of_row _ _ k _ e (0, 0) (heap_alloc_new w _)
/-- What came in: the rows up to the capacity, each with its numbers up to its own; its rows are the first of them. -/
theorem liesM_open {w : World} {a : Addr} {len cap : Nat} {A : Nat → Option Addr} {L C : Nat → Nat} {Z : Nat → List Int} (hl : len ≤ cap)
    (h : ∀ r, r < cap → w.cell? (a.add r) = some (.slice (A r) (L r) (C r)) ∧ L r ≤ C r ∧ C r ≤ maxLen ∧ (Z r).length = C r ∧ (∀ n ∈ Z r, (Lit.int .i64 n).wf = true) ∧ (A r = none → C r = 0) ∧
      ∀ a', A r = some a' → 0 ≤ a'.block ∧ ∀ c, c < C r → w.cell? (a'.add c) = some (.int .i64 ((Z r).getD c 0))) :
    ((List.range len).map fun r => (Z r).take (L r)).length = len ∧ LiesM w (some a) ((List.range len).map fun r => (Z r).take (L r)) := by
  refine ⟨by simp, fun k hk => ?_⟩
  have hk' : k < len := by simpa using hk
  obtain ⟨h1, h2, _, h4, _, h6, h7⟩ := h k (by omega)
  have e : ((List.range len).map fun r => (Z r).take (L r)).getD k [] = (Z k).take (L k) := by simp [hk']
  have el : ((Z k).take (L k)).length = L k := by rw [List.length_take]; omega
  rw [e, el]
  refine ⟨a, A k, C k, rfl, ?_, h1, h2, ?_⟩
  · have := cell_lt h1; rwa [block_add] at this
  · cases hA : A k with
    | none =>
      intro j hj
      have := h6 hA
      rw [el] at hj
      omega
    | some a' => exact (lies_take (w := w) (x := a') h2 h4 (fun i hi => (h7 a' hA).2 i (by omega))).2
/-- Two rows of two, and the heads of both, just laid down. -/
def laid22 (w : World) (x : Nat → Nat → Int) : World :=
  ((w.alloc (.cells #[.int .i64 (x 0 0), .int .i64 (x 0 1)] 3)).alloc (.cells #[.int .i64 (x 1 0), .int .i64 (x 1 1)] 3)).alloc (.cells #[.slice (some ⟨w.heap.size, 0, none⟩) 2 2, .slice (some ⟨w.heap.size + 1, 0, none⟩) 2 2] 23)
theorem laid22_kp (w : World) (x : Nat → Nat → Int) : Kp w (laid22 w x) := (((Kp.rfl' w).new _).new _).new _
theorem laid22_size (w : World) (x : Nat → Nat → Int) : (laid22 w x).heap.size = w.heap.size + 3 := by simp [laid22]
theorem laid22_lies (w : World) (x : Nat → Nat → Int) : LiesM (laid22 w x) (some ⟨w.heap.size + 2, 0, none⟩) (Mx.tab 2 2 x) := by
  have h0 : Lies (w.alloc (.cells #[.int .i64 (x 0 0), .int .i64 (x 0 1)] 3)) (some ⟨w.heap.size, 0, none⟩) (Mx.row 2 (x 0)) := lies_new' w _ [x 0 0, x 0 1] _ rfl
  have h1 : Lies ((w.alloc (.cells #[.int .i64 (x 0 0), .int .i64 (x 0 1)] 3)).alloc (.cells #[.int .i64 (x 1 0), .int .i64 (x 1 1)] 3)) (some ⟨w.heap.size + 1, 0, none⟩) (Mx.row 2 (x 1)) :=
    lies_new' (w.alloc _) _ [x 1 0, x 1 1] _ (by simp)
  have k2 := ((Kp.rfl' (w.alloc (.cells #[.int .i64 (x 0 0), .int .i64 (x 0 1)] 3))).new (.cells #[.int .i64 (x 1 0), .int .i64 (x 1 1)] 3)).new (.cells #[.slice (some ⟨w.heap.size, 0, none⟩) 2 2, .slice (some ⟨w.heap.size + 1, 0, none⟩) 2 2] 23)
  have k3 := (Kp.rfl' ((w.alloc (.cells #[.int .i64 (x 0 0), .int .i64 (x 0 1)] 3)).alloc (.cells #[.int .i64 (x 1 0), .int .i64 (x 1 1)] 3))).new (.cells #[.slice (some ⟨w.heap.size, 0, none⟩) 2 2, .slice (some ⟨w.heap.size + 1, 0, none⟩) 2 2] 23)
  have hs : w.heap.size + 2 < (laid22 w x).heap.size := by rw [laid22_size]; omega
  intro k hk
  rw [Mx.len_tab] at hk
  match k, hk with
  | 0, _ => exact ⟨_, some ⟨w.heap.size, 0, none⟩, 2, rfl, hs, by rw [add_at]; unfold laid22; rw [cell_just _ _ _ _ _ (by simp)]; simp [Mx.tab, Mx.row], by simp [Mx.tab, Mx.row], h0.keep k2⟩
  | 1, _ => exact ⟨_, some ⟨w.heap.size + 1, 0, none⟩, 2, rfl, hs, by rw [add_at]; unfold laid22; rw [cell_just _ _ _ _ _ (by simp)]; simp [Mx.tab, Mx.row], by simp [Mx.tab, Mx.row], h1.keep k3⟩

def n22 (a b c d : Int) : Nat → Nat → Int := fun i j => if i = 0 then (if j = 0 then a else b) else (if j = 0 then c else d)
/-- The same with the numbers and the block as they stand in a walk. -/
abbrev lit22 (w : World) (g : Nat) (a b c d : Int) : World :=
  ((w.alloc (.cells #[.int .i64 a, .int .i64 b] 3)).alloc (.cells #[.int .i64 c, .int .i64 d] 3)).alloc (.cells #[.slice (some ⟨g, 0, none⟩) 2 2, .slice (some ⟨g + 1, 0, none⟩) 2 2] 23)
theorem lit22_lies (w : World) (g : Nat) (a b c d : Int) (h : g = w.heap.size) : LiesM (lit22 w g a b c d) (some ⟨g + 1 + 1, 0, none⟩) (Mx.tab 2 2 (n22 a b c d)) := by
  subst h
  exact laid22_lies w (n22 a b c d)
theorem lit22_kp (w : World) (g : Nat) (a b c d : Int) : Kp w (lit22 w g a b c d) := (((Kp.rfl' w).new _).new _).new _
theorem lit22_size (w : World) (g : Nat) (a b c d : Int) : (lit22 w g a b c d).heap.size = w.heap.size + 1 + 1 + 1 := by simp [lit22]

end Go.Proofs.YtofdhdnffkhojaaDoor

/- Good matrices, as package mat wants them. For all packages on matrices. -/
namespace Go.Proofs.YtofdhdnffkhojaaDoor
set_option linter.unusedVariables false

def f22 (a b c d : Fp.F) : Nat → Nat → Fp.F := fun i j => if i = 0 then (if j = 0 then a else b) else (if j = 0 then c else d)
/-- A matrix of r rows and c columns, as package mat wants it. -/
structure Sh (r c : Nat) (f : Nat → Nat → Fp.F) (m : List (List Int)) : Prop where
  eq : m = Mx.matl r c f
  r0 : 0 < r
  r5 : r ≤ 5
  c0 : 0 < c
  c5 : c ≤ 5
theorem Sh.len {r c : Nat} {f : Nat → Nat → Fp.F} {m : List (List Int)} (h : Sh r c f m) : m.length = r := by rw [h.eq, Mx.len_matl]
theorem Sh.mat {r c : Nat} {f : Nat → Nat → Fp.F} {m : List (List Int)} (h : Sh r c f m) : Sh r c f (Mx.matl r c f) := ⟨rfl, h.r0, h.r5, h.c0, h.c5⟩
theorem sh_or (m : List (List Int)) : (Mx.mcode 5 0 9972 m = 0 ∧ ∃ r c f, Sh r c f m) ∨ Mx.mcode 5 0 9972 m ≠ 0 := by
  by_cases h : Mx.mcode 5 0 9972 m = 0
  · obtain ⟨r, c, f, e, h1, h2, h3, h4⟩ := Mx.mcode_zero h
    exact .inl ⟨h, r, c, f, ⟨e, h1, h2, h3, h4⟩⟩
  · exact .inr h
theorem Sh.code {r c : Nat} {f : Nat → Nat → Fp.F} {m : List (List Int)} (h : Sh r c f m) : Mx.mcode 5 0 9972 m = 0 := by
  rw [h.eq]; exact Mx.mcode_matl f h.r0 h.r5 h.c0 h.c5

theorem Sh.mul {r q k : Nat} {f f' : Nat → Nat → Fp.F} {a b : List (List Int)} (sa : Sh r q f a) (sb : Sh q k f' b) : Sh r k (Mx.mul q f f') (Mx.matl r k (Mx.mul q f f')) := ⟨rfl, sa.r0, sa.r5, sb.c0, sb.c5⟩
theorem Sh.flip {r q : Nat} {f : Nat → Nat → Fp.F} {a : List (List Int)} (sa : Sh r q f a) : Sh q r (Mx.flip f) (Mx.matl q r (Mx.flip f)) := ⟨rfl, sa.c0, sa.c5, sa.r0, sa.r5⟩
theorem Sh.plus {r q : Nat} {f f' : Nat → Nat → Fp.F} {a : List (List Int)} (sa : Sh r q f a) : Sh r q (Mx.plus f f') (Mx.matl r q (Mx.plus f f')) := ⟨rfl, sa.r0, sa.r5, sa.c0, sa.c5⟩
theorem Sh.pow {r : Nat} {f : Nat → Nat → Fp.F} {a : List (List Int)} (sa : Sh r r f a) (k : Nat) : Sh r r (Mx.pwm r f k) (Mx.matl r r (Mx.pwm r f k)) := ⟨rfl, sa.r0, sa.r5, sa.c0, sa.c5⟩
theorem Sh.one {r q : Nat} {f : Nat → Nat → Fp.F} {a : List (List Int)} (sa : Sh r q f a) : Sh r r Mx.one (Mx.matl r r Mx.one) := ⟨rfl, sa.r0, sa.r5, sa.r0, sa.r5⟩
theorem Sh.modest {r q : Nat} {f : Nat → Nat → Fp.F} {a : List (List Int)} (sa : Sh r q f a) : Modest a := by
  rw [sa.eq]; exact modest_tab _ (Nat.le_trans sa.r5 (by decide)) (Nat.le_trans sa.c5 (by decide))

end Go.Proofs.YtofdhdnffkhojaaDoor

/- What det says of whatever comes in; its closed fact. -/
namespace Go.Proofs.YtofdhdnffkhojaaDoor
open Go.ChangeShapes Go.WideShapes Go.ChangeAt Go.RowKit
set_option linter.unusedVariables false

theorem sq_or (m : List (List Int)) {n : Nat} (hn : m.length = n) : (∃ f, Sh n n f m) ∨ qcode 5 0 9972 m ≠ 0 := by
  by_cases h : qcode 5 0 9972 m = 0
  · obtain ⟨h1, h2⟩ := qcode_zero h
    obtain ⟨r, c, f, e, r0, r5, c0, c5⟩ := Mx.mcode_zero h1
    have hr : r = n := by rw [← hn, e, Mx.len_matl]
    have hc : c = n := by
      rw [e, Mx.len_matl] at h2
      rw [← hr, h2]
      exact (Mx.tab_len r c _ 0 r0).symm
    subst hr hc
    exact .inl ⟨f, e, r0, r5, c0, c5⟩
  · exact .inr h
theorem Sh.code2 {n : Nat} {f : Nat → Nat → Fp.F} {m : List (List Int)} (h : Sh n n f m) : qcode 5 0 9972 m = 0 := by
  rw [h.eq]; exact qcode_matl f h.r0 h.r5

theorem Of_or (A : Option Addr) (m : List (List Int)) (n d : Nat) (hn : m.length = n) :
    (∃ f, Sh n n f m) ∨ ∀ (w : World), LiesM w A m → Calls Tryd.prog 22 #[.slice A n d] w fun e w' => ∃ z : Nat, e = .returned (.tuple #[.int .i64 0, .iface 53 (.int .i64 (z : Int))]) ∧ Kp w w' := by
  rcases sq_or m hn with h | h
  · exact .inl h
  · exact .inr fun w ha => ((Of_bad A m n d w ha hn h).mono fun e w' h' => ⟨qcode 5 0 9972 m, by rw [h'.1, errOf_ne _ h], h'.2⟩)
theorem Of_sh {A : Option Addr} {m : List (List Int)} {n : Nat} {f : Nat → Nat → Fp.F} (s : Sh n n f m) (d : Nat) (w : World) (ha : LiesM w A m) :
    Calls Tryd.prog 22 #[.slice A n d] w fun e w' => e = .returned (.tuple #[.int .i64 ((Mx.dt n f).val : Int), .nilIface]) ∧ Kp w w' := by
  rw [s.eq] at ha
  exact Of_ok A f n d w ha s.r0 s.r5

def fdet : Nat → Nat → Fp.F := f22 1 2 3 4
theorem fdet_mat : Mx.tab 2 2 (n22 1 2 3 4) = Mx.matl 2 2 fdet := by decide +kernel
theorem fdet_val : ((Mx.dt 2 fdet).val : Int) = 9971 := by decide +kernel
theorem sp_10 : Mx.sp 2 (fun i => [(1 : Int), 0].getD i 0) = -1 := by decide +kernel
theorem sp_11 : Mx.sp 2 (fun i => [(1 : Int), 1].getD i 0) = 0 := by decide +kernel


end Go.Proofs.YtofdhdnffkhojaaDoor

/- Contracts of the document's answer on matrices, third part: All, Matrix, Field. For all packages. -/
namespace Go.Proofs.YtofdhdnffkhojaaDoor
open Go.ChangeShapes Go.WideShapes Go.ChangeAt Go.RowKit
set_option linter.unusedVariables false

/-- The first k rows have no fault. -/
def rowsUp (lo hi : Int) (m : List (List Int)) (k : Nat) : Prop := Mx.rows lo hi (m.getD 0 []).length m = Mx.rows lo hi (m.getD 0 []).length (m.drop k)
theorem rowsUp_go {lo hi : Int} {m : List (List Int)} {k : Nat} (hk : k < m.length) (h : rowsUp lo hi m k) (h0 : Mx.rcode lo hi (m.getD 0 []).length (m.getD k []) = 0) : rowsUp lo hi m (k + 1) := by
  unfold rowsUp at *
  rw [h, Mx.rows_drop hk, if_pos h0]

set_option maxRecDepth 100000 in
set_option maxHeartbeats 3200000 in
theorem rMatrix_main (A : Option Addr) (m : List (List Int)) (n d q most : Nat) (lo hi : Int) (w : World) (ha : LiesM w A m) (hn : m.length = n) (hq : (m.getD 0 []).length = q) (h1 : 0 < n) (h2 : n ≤ most) (h3 : 0 < q) (h4 : q ≤ most) (hmo : most ≤ 1000) :
    Calls Tryd.prog 25 #[.slice A n d, .int .i64 (most : Int), .int .i64 lo, .int .i64 hi] w fun e w' => e = .returned (.int .i64 (Mx.mcode most lo hi m : Int)) ∧ Drew w w' := by
  have hm : Mx.mcode most lo hi m = Mx.rows lo hi (m.getD 0 []).length m := by
    unfold Mx.mcode
    rw [if_neg (by omega), if_neg (by omega)]
  rw [hm]
  obtain ⟨v, hv⟩ : ∃ v, v = Mx.rows lo hi (m.getD 0 []).length m := ⟨_, rfl⟩
  have hg0 : rowsUp lo hi m 0 := by unfold rowsUp; rw [List.drop_zero]
  have RNG := Lib.hid (fun (k : Nat) (hk : k < n) (hg : rowsUp lo hi m k) (h0 : Mx.rcode lo hi q (m.getD k []) ≠ 0) => show v = Mx.rcode lo hi q (m.getD k []) by
    unfold rowsUp at hg
    rw [hv, hg, Mx.rows_drop (by omega), hq, if_neg h0])
  have OKS := Lib.hid (fun (hg : rowsUp lo hi m n) => show v = 0 by
    unfold rowsUp at hg
    rw [hv, hg, Mx.rows_end (by omega)])
  have STP := Lib.hid (fun (k : Nat) (hk : k < n) (hg : rowsUp lo hi m k) (h0 : Mx.rcode lo hi q (m.getD k []) = 0) => rowsUp_go (by omega) hg (by rw [hq]; exact h0))
  rw [← hv]
  obtain ⟨ad, A0, d0, rfl, hlt0, hc0, _, hr0⟩ := ha 0 (by omega)
  rw [hq] at hc0
  rw [add_zero'] at hc0
  have HA := Lib.hid ha
  have HN := Lib.hid hn
  have G0 := Lib.hid hg0
  have C0 := Lib.hid hc0
  have e0 : ((n : Int) == 0) = false := by rw [beq_eq_false_iff_ne]; omega
  have e1 : ((q : Int) == 0) = false := by rw [beq_eq_false_iff_ne]; omega
  have e2 : ¬ (most : Int) < n := by omega
  have e3 : ¬ (most : Int) < q := by omega
  clear ha hn hg0 hm hv hq hr0
  go_enter Tryd.func25, Tryd.ntmps25
  go_wp2_with fail
  clear hc0
  go_loopw [9] (fun i wr => ∃ k : Nat, k ≤ n ∧ i = .int .i64 (k : Int) ∧ rowsUp lo hi m k ∧ Drew w wr) (fun i _ => n - (intOf i).toNat)
  case atStart => exact ⟨0, Nat.zero_le _, rfl, G0.out, Drew.refl _⟩
  case round =>
    obtain ⟨k, hk, rfl, hg, hdr⟩ := hrel
    have HG := Lib.hid hg
    have HD := Lib.hid hdr
    have hc0 := (hdr.kp.cell (p := ad) hlt0).trans C0.out
    by_cases hlt : k < n
    · obtain ⟨ad', A1, d1, ea, _, hc1, _, hr1⟩ := (HA.out.keep hdr.kp) k (by have := HN.out; omega)
      obtain rfl := Option.some.inj ea
      have AL := Lib.hid (fun (wx : World) (hx : Kp wr wx) (hl : (m.getD k []).length ≤ 1000000) => all_any A1 (m.getD k []) d1 lo hi wx (hr1.keep hx) hl)
      obtain ⟨p, hp⟩ : ∃ p, p = (m.getD k []).length := ⟨_, rfl⟩
      rw [← hp] at hc1 AL
      clear hg hdr hr1
      by_cases hpq : p = q
      · subst hpq
        have e4 : ((p : Int) != (p : Int)) = false := by simp
        have ALL := Lib.hid (fun (wx : World) (hx : Kp wr wx) => AL.out wx hx (by omega))
        by_cases hin : AllIn (m.getD k []) lo hi
        · have ST := Lib.hid (STP.out k hlt HG.out (Mx.rcode_ok hp.symm (fun j hj => hin j hj)))
          have IN := Lib.hid hin
          clear hin hp AL
          go_wp2_with fail
          go_quiet (fail)
          go_wp2_with fail
          refine (ALL.out _ ((Kp.rfl' wr).drewN _)).mono ?_; rintro e w' ⟨ht, rfl⟩
          obtain rfl := tells_yes ht IN.out
          go_wp2_with fail
          go_roundw
          case rel => exact ⟨k + 1, by omega, by go_num, ST.out, HD.out.more _⟩
          case measure => simp [intOf]; omega
        · have EV := Lib.hid ((RNG.out k hlt HG.out (by rw [Mx.rcode_bad' hp.symm hin]; decide)).trans (Mx.rcode_bad' hp.symm hin))
          have NIN := Lib.hid hin
          clear hin hp AL
          go_wp2_with fail
          go_quiet (fail)
          go_wp2_with fail
          refine (ALL.out _ ((Kp.rfl' wr).drewN _)).mono ?_; rintro e w' ⟨ht, rfl⟩
          obtain rfl := tells_no ht NIN.out
          go_wp2_with fail
          go_ret
          exact ⟨by rw [EV.out]; rfl, HD.out.more _⟩
      · have e4 : ((p : Int) != (q : Int)) = true := by rw [bne_iff_ne]; omega
        have hne : (m.getD k []).length ≠ q := by omega
        have EV := Lib.hid ((RNG.out k hlt HG.out (by rw [Mx.rcode_len hne]; decide)).trans (Mx.rcode_len hne))
        clear hp hpq hne AL
        go_wp2_with fail
        go_quiet (fail)
        go_wp2_with fail
        go_ret
        exact ⟨by rw [EV.out]; rfl, HD.out.more _⟩
    · have EV := Lib.hid (OKS.out (by have h : k = n := by omega
                                      rw [← h]; exact HG.out))
      clear hg hdr
      go_wp2_with fail
      go_ret
      exact ⟨by rw [EV.out]; rfl, HD.out⟩

set_option maxHeartbeats 1600000 in
theorem rMatrix_any (A : Option Addr) (m : List (List Int)) (n d most : Nat) (lo hi : Int) (w : World) (ha : LiesM w A m) (hn : m.length = n) (hmo : most ≤ 1000) :
    Calls Tryd.prog 25 #[.slice A n d, .int .i64 (most : Int), .int .i64 lo, .int .i64 hi] w fun e w' => e = .returned (.int .i64 (Mx.mcode most lo hi m : Int)) ∧ Drew w w' := by
  by_cases h1 : n = 0
  · have hm : Mx.mcode most lo hi m = 5 := by unfold Mx.mcode; rw [if_pos (by omega)]
    rw [hm]
    subst h1
    clear hm ha hn
    go_enter Tryd.func25, Tryd.ntmps25
    go_wp2
    go_ret
    exact ⟨rfl, Drew.refl _⟩
  obtain ⟨ad, A0, d0, rfl, _, hc0, _, hr0⟩ := ha 0 (by omega)
  rw [add_zero'] at hc0
  obtain ⟨q, hq⟩ : ∃ q, q = (m.getD 0 []).length := ⟨_, rfl⟩
  rw [← hq] at hc0
  have e0 : ((n : Int) == 0) = false := by rw [beq_eq_false_iff_ne]; omega
  have hn0 : (0 : Int) < n := by omega
  by_cases h2 : q = 0
  · have hm : Mx.mcode most lo hi m = 5 := by unfold Mx.mcode; rw [if_pos (by omega)]
    rw [hm]
    subst h2
    clear hm ha hn hr0 h1 hq
    go_enter Tryd.func25, Tryd.ntmps25
    go_wp2
    go_ret
    exact ⟨rfl, Drew.refl _⟩
  have e1 : ((q : Int) == 0) = false := by rw [beq_eq_false_iff_ne]; omega
  by_cases h3 : most < n
  · have hm : Mx.mcode most lo hi m = 4 := by unfold Mx.mcode; rw [if_neg (by omega), if_pos (by omega)]
    rw [hm]
    have e3 : (most : Int) < n := by omega
    clear hm ha hn hr0 h1 hq h2 h3
    go_enter Tryd.func25, Tryd.ntmps25
    go_wp2
    go_ret
    exact ⟨rfl, Drew.refl _⟩
  by_cases h4 : most < q
  · have hm : Mx.mcode most lo hi m = 4 := by unfold Mx.mcode; rw [if_neg (by omega), if_pos (by omega)]
    rw [hm]
    have e3 : ¬ (most : Int) < n := by omega
    have e4 : (most : Int) < q := by omega
    clear hm ha hn hr0 h1 hq h2 h3 h4
    go_enter Tryd.func25, Tryd.ntmps25
    go_wp2
    go_ret
    exact ⟨rfl, Drew.refl _⟩
  exact rMatrix_main (some ad) m n d q most lo hi w ha hn hq.symm (by omega) (by omega) (by omega) (by omega) hmo


end Go.Proofs.YtofdhdnffkhojaaDoor

/- Contracts of the document's answer on matrices, fourth part: Without, DetMod, Square. For all packages. -/
namespace Go.Proofs.YtofdhdnffkhojaaDoor
open Go.ChangeShapes Go.WideShapes Go.ChangeAt Go.RowKit
set_option linter.unusedVariables false

theorem wo_del (f : Nat → Nat → Fp.F) (j : Nat) : wo f 0 j = Mx.del j f := by
  funext a b
  unfold wo Mx.del
  congr 1

set_option maxRecDepth 100000 in
set_option maxHeartbeats 6400000 in
theorem rWithout_any (A : Option Addr) (f : Nat → Nat → Fp.F) (p a b d : Nat) (w : World) (ha : LiesM w A (Mx.matl (p + 1) (p + 1) f)) (hpa : a ≤ p) (hpb : b ≤ p) (hp : p ≤ 1000) :
    Calls Tryd.prog 26 #[.slice A ((p + 1 : Nat) : Int).toNat d, .int .i64 (a : Int), .int .i64 (b : Int)] w fun e w' => Made p p (wo f a b) w e w' := by
  rw [Int.toNat_natCast]
  have HA := Lib.hid ha
  clear ha
  obtain ⟨n, hn⟩ : ∃ n, n = p + 1 := ⟨_, rfl⟩
  rw [← hn] at HA ⊢
  have HN := Lib.hid hn
  have hn1 : n ≤ 1001 := by omega
  clear hn
  go_enter Tryd.func26, Tryd.ntmps26
  go_wp2_with fail
  go_loopw [7, 8] (fun v i wr => ∃ (k : Nat) (G C : Nat → Nat), k ≤ n ∧ i = .int .i64 (k : Int) ∧ OwnM wr w.heap.size v G C (Mx.matl (ct a k) p (wo f a b)) ∧ Kp w wr) (fun _ i _ => n - (intOf i).toNat)
  case atStart => exact ⟨0, fun _ => 0, fun _ => 0, Nat.zero_le _, rfl, by rw [ct_zero]; exact ownM_none _ _ _ _, Kp.rfl' _⟩
  case round =>
    obtain ⟨k, G, C, hk, rfl, ho, hkp⟩ := hrel
    obtain ⟨wo', hwo⟩ : ∃ x, x = wr := ⟨_, rfl⟩
    subst hwo
    have HO := Lib.hid ho
    have HK := Lib.hid hkp
    clear ho hkp
    by_cases hlt : k < n
    · by_cases hka : k = a
      · subst hka
        have e1 : ((k : Int) == (k : Int)) = true := by simp
        have HC := Lib.hid (ct_skip k)
        go_wp2_with fail
        go_roundw
        case rel => exact ⟨k + 1, G, C, by omega, by go_num, by rw [HC.out]; exact HO.out, HK.out⟩
        case measure => simp [intOf]; omega
      · have e1 : ((k : Int) == (a : Int)) = false := by rw [beq_eq_false_iff_ne]; omega
        have hp0 : 0 < p := by have := HN.out; omega
        have HC := Lib.hid (ct_next hka)
        have HSK := Lib.hid (sk_ct hka)
        have HS := Lib.hid (show Mx.matl (ct a k + 1) p (wo f a b) = Mx.matl (ct a k) p (wo f a b) ++ [Mx.row p fun j => ((f k (Mx.sk b j)).val : Int)] by
          rw [Mx.matl, Mx.tab_snoc]
          congr 2
          refine Mx.row_ext fun j _ => ?_
          show ((f (Mx.sk a (ct a k)) (Mx.sk b j)).val : Int) = _
          rw [HSK.out])
        have HCL := Lib.hid (show ct a k ≤ 2000 by have := ct_le (a := a) (p := p) (t := k) hpa (by have := HN.out; omega); omega)
        clear hka
        obtain ⟨ad, A1, d1, rfl, _, x1, _, l1⟩ := (HA.out.keep HK.out).row hlt
        have L1 := Lib.hid l1
        have X1 := Lib.hid x1
        clear l1 x1
        go_wp2_with fail
        go_loopw [9, 10] (fun u i wq => ∃ t : Nat, t ≤ n ∧ i = .int .i64 (t : Int) ∧ Own wq wo'.heap.size u (Mx.row (ct b t) fun j => ((f k (Mx.sk b j)).val : Int)) ∧ Kp wo' wq) (fun _ i _ => n - (intOf i).toNat)
        case atStart => exact ⟨0, Nat.zero_le _, rfl, by rw [ct_zero]; exact Own.none _ _, Kp.rfl' _⟩
        case round =>
          obtain ⟨t, ht, rfl, hu, hkq⟩ := hrel
          have HU := Lib.hid hu
          have HQ := Lib.hid hkq
          have x2 := (hkq.cell (p := ad.add k) (cell_lt X1.out)).trans X1.out
          by_cases hlt2 : t < n
          · by_cases htb : t = b
            · subst htb
              have e2 : ((t : Int) != (t : Int)) = false := by simp
              have HC2 := Lib.hid (ct_skip t)
              clear hu hkq
              go_wp2_with fail
              go_roundw
              case rel => exact ⟨t + 1, by omega, by go_num, by rw [HC2.out]; exact HU.out, HQ.out⟩
              case measure => simp [intOf]; omega
            · have e2 : ((t : Int) != (b : Int)) = true := by rw [bne_iff_ne]; omega
              have HC2 := Lib.hid (ct_next htb)
              have HSK2 := Lib.hid (sk_ct htb)
              obtain ⟨ad1, rfl, _, x3⟩ := (L1.out.keep hkq).el hlt2
              have hlen : (Mx.row (ct b t) fun j => ((f k (Mx.sk b j)).val : Int)).length + 1 ≤ 17000000000000 := by
                rw [Mx.len_row]; have := ct_le (a := b) (p := p) (t := t) hpb (by have := HN.out; omega); omega
              have HSN := Lib.hid (show Mx.row (ct b t + 1) (fun j => ((f k (Mx.sk b j)).val : Int)) = (Mx.row (ct b t) fun j => ((f k (Mx.sk b j)).val : Int)) ++ [((f k t).val : Int)] by
                rw [Mx.row_snoc, HSK2.out])
              have hsz := HQ.out.size
              generalize ((f k t).val : Int) = z at *
              obtain ⟨wd, hwd⟩ : ∃ x, x = wr := ⟨_, rfl⟩
              subst hwd
              clear hu hkq htb
              go_wp2_with (at_builtin; refine wpList_push rfl _ _ rfl wo'.heap.size _ (Mx.row (ct b t) fun j => ((f k (Mx.sk b j)).val : Int)) z wd.heap.size 1 rfl rfl (HU.out.new _) (by simp; done) hlen (Nat.le_trans hsz ((Kp.rfl' _).new _).size) ?_; intro v' w' h1 h2 _)
              have HU' := Lib.hid h1
              have HQ' := Lib.hid (own_below (HU.out.new _) (HQ.out.new _) (Nat.le_trans hsz ((Kp.rfl' _).new _).size) h2)
              clear h1 h2
              go_wp2_with fail
              go_roundw
              case rel => exact ⟨t + 1, by omega, by go_num, by rw [HC2.out, HSN.out]; exact HU'.out, HQ'.out⟩
              case measure => simp [intOf]; omega
          · obtain rfl : t = n := by omega
            rw [show ct b t = p by rw [HN.out]; exact ct_end hpb] at HU
            obtain ⟨g, gc, rfl, hg, hgc⟩ := own_some HU.out (by rw [Mx.len_row]; exact hp0)
            rw [Mx.len_row] at HU hgc ⊢
            clear hu hkq
            have OM := Lib.hid (HO.out.kp HQ.out)
            have HAP := Lib.hid (show ∀ i, i < (Mx.matl (ct a k) p (wo f a b)).length → G i ≠ g from fun i hi => by have := (HO.out.lt hi).2; omega)
            have HLE := Lib.hid (show (Mx.matl (ct a k) p (wo f a b)).length + 1 ≤ 1000000 by rw [Mx.len_matl]; have := HCL.out; omega)
            go_wp2_with (at_builtin; refine wpList_pushM rfl _ _ rfl w.heap.size _ G C (Mx.matl (ct a k) p (wo f a b)) _ g p gc _ 1 (Mx.len_row _ _) rfl rfl (OM.out.new _) (cell_made _ _ _ _ 0 rfl) ((HU.out.from HK.out.size).new _) HAP.out HLE.out (Nat.le_trans HK.out.size (Nat.le_trans HQ.out.size ((Kp.rfl' _).new _).size)) ?_; intro v' w' G' C' ho' hk')
            have HO' := Lib.hid ho'
            have HK' := Lib.hid (hk' w (Nat.le_refl _) ((HK.out.trans HQ.out).new _))
            clear ho' hk'
            go_wp2_with fail
            go_roundw
            case rel => exact ⟨k + 1, G', C', by omega, by go_num, by rw [HC.out, HS.out]; exact HO'.out, HK'.out⟩
            case measure => simp [intOf]; omega
    · obtain rfl : k = n := by omega
      obtain ⟨A, d2, rfl, hl, _⟩ := HO.out.lies
      rw [Mx.len_matl, show ct a k = p by rw [HN.out]; exact ct_end hpa] at *
      have HL := Lib.hid hl
      clear hl
      go_wp2_with fail
      go_ret
      exact ⟨A, d2, rfl, HL.out, HK.out⟩

/-- The sign of a place as a whole number. -/
def sgnI (j : Nat) : Int := if j % 2 = 0 then 1 else -1
theorem sgnI_some (j : Nat) : sgnI j = 1 ∨ sgnI j = -1 := by unfold sgnI; split <;> simp
theorem sgnI_succ (j : Nat) : sgnI (j + 1) = -(sgnI j) := by
  unfold sgnI
  by_cases h : j % 2 = 0
  · rw [if_pos h, if_neg (by omega)]
  · rw [if_neg h, if_pos (by omega)]; rfl
theorem sgnI_F (j : Nat) : Fp.ofInt (sgnI j) = Mx.sgn j := by
  unfold sgnI Mx.sgn
  split <;> decide
theorem det_step (s x d : Fp.F) (k : Nat) : ((s.val : Int) + sgnI k * (x.val : Int) * (d.val : Int)) % 9973 = ((s + Mx.sgn k * x * d).val : Int) := by
  rw [← Fp.ofInt_val, Fp.ofInt_add, Fp.ofInt_mul, Fp.ofInt_mul, Fp.ofInt_self, Fp.ofInt_self, Fp.ofInt_self, sgnI_F]
theorem det_bound (x d : Fp.F) (k : Nat) : (-9972 ≤ sgnI k * (x.val : Int) ∧ sgnI k * (x.val : Int) ≤ 9972) ∧ -99440784 ≤ sgnI k * (x.val : Int) * (d.val : Int) ∧ sgnI k * (x.val : Int) * (d.val : Int) ≤ 99440784 := by
  have h := rprod x d
  have hx := rval x
  rcases sgnI_some k with e | e
  · rw [e, Int.one_mul]; omega
  · rw [e, Int.neg_one_mul, Int.neg_mul]; omega

set_option maxRecDepth 100000 in
set_option maxHeartbeats 6400000 in
theorem rDetMod_step (A : Option Addr) (f : Nat → Nat → Fp.F) (p n d : Nat) (w : World) (ha : LiesM w A (Mx.matl n n f)) (hn : n = p + 1) (hp : p ≤ 1000)
    (ih : ∀ (A : Option Addr) (f : Nat → Nat → Fp.F) (d : Nat) (w : World), LiesM w A (Mx.matl p p f) → Calls Tryd.prog 9 #[.slice A p d] w fun e w' => e = .returned (.int .i64 ((Mx.dt p f).val : Int)) ∧ Kp w w') :
    Calls Tryd.prog 9 #[.slice A n d] w fun e w' => e = .returned (.int .i64 ((Mx.dt n f).val : Int)) ∧ Kp w w' := by
  have HA := Lib.hid ha
  have IH := Lib.hid ih
  have hdt : Mx.dt n f = Mx.sg n fun j => Mx.sgn j * f 0 j * Mx.dt p (Mx.del j f) := by rw [hn]; rfl
  rw [hdt]
  have h0 : 0 < n := by omega
  have hn1 : n ≤ 1001 := by omega
  have e0 : ((n : Int) == 0) = false := by rw [beq_eq_false_iff_ne]; omega
  have WO := Lib.hid (fun (k : Nat) (w : World) (hk : k < n) (h : LiesM w A (Mx.matl n n f)) => show Calls Tryd.prog 26 #[.slice A n d, .int .i64 0, .int .i64 (k : Int)] w fun e w' => Made p p (Mx.del k f) w e w' by
    subst hn
    have := rWithout_any A f p 0 k d w h (Nat.zero_le _) (by omega) hp
    rw [Int.toNat_natCast, wo_del] at this
    exact this)
  clear ha ih hdt hn
  go_enter Tryd.func9, Tryd.ntmps9
  go_wp2_with fail
  go_loopw [3, 4, 5] (fun s g i wr => ∃ k : Nat, k ≤ n ∧ i = .int .i64 (k : Int) ∧ g = .int .i64 (sgnI k) ∧ s = .int .i64 ((Mx.sg k fun j => Mx.sgn j * f 0 j * Mx.dt p (Mx.del j f)).val : Int) ∧ Kp w wr) (fun _ _ i _ => n - (intOf i).toNat)
  case atStart => exact ⟨0, Nat.zero_le _, rfl, rfl, rfl, Kp.rfl' _⟩
  case round =>
    obtain ⟨k, hk, rfl, rfl, rfl, hkp⟩ := hrel
    have HK := Lib.hid hkp
    by_cases hlt : k < n
    · obtain ⟨ad, A0, d0, ea, hl0, x1, _, l1⟩ := (HA.out.keep hkp).row h0
      subst ea
      rw [add_zero'] at x1
      obtain ⟨ad1, ea, hl1, x2⟩ := l1.el hlt
      subst ea
      obtain ⟨s, hs⟩ : ∃ s, s = Mx.sg k fun j => Mx.sgn j * f 0 j * Mx.dt p (Mx.del j f) := ⟨_, rfl⟩
      rw [← hs]
      have hs2 : (Mx.sg (k + 1) fun j => Mx.sgn j * f 0 j * Mx.dt p (Mx.del j f)) = s + Mx.sgn k * f 0 k * Mx.dt p (Mx.del k f) := by rw [Mx.sg_succ, hs]
      have HSG := Lib.hid (sgnI_succ k)
      have hsg := sgnI_some k
      have hb := det_bound (f 0 k) (Mx.dt p (Mx.del k f)) k
      have hst := det_step s (f 0 k) (Mx.dt p (Mx.del k f)) k
      have hsv := rval s
      have hneg : IntKind.i64.wrap (-(sgnI k)) = -(sgnI k) := IntWalk.i64_in _ (by omega)
      rw [← hs2] at hst
      clear l1 hs
      by_cases hz : f 0 k = 0
      · have HS := Lib.hid (show (s.val : Int) = ((Mx.sg (k + 1) fun j => Mx.sgn j * f 0 j * Mx.dt p (Mx.del j f)).val : Int) by rw [hs2, hz]; congr 2; grind)
        rw [hz, show (((0 : Fp.F).val : Nat) : Int) = 0 from rfl] at x2
        generalize (s.val : Int) = sv at *
        generalize sgnI k = gi at *
        clear hb hst hsv hkp hz hs2
        go_wp2_with fail
        go_roundw
        case rel => exact ⟨k + 1, by omega, by go_num, by rw [HSG.out], by rw [HS.out], HK.out⟩
        case measure => simp [intOf]; omega
      · have hv := Fp.ne_val hz
        have e1 : (((f 0 k).val : Int) != 0) = true := by rw [bne_iff_ne]; omega
        have HI := Lib.hid (fun A' d' w' h => IH.out A' (Mx.del k f) d' w' h)
        obtain ⟨u, hu⟩ : ∃ u, u = ((Mx.sg (k + 1) fun j => Mx.sgn j * f 0 j * Mx.dt p (Mx.del j f)).val : Int) := ⟨_, rfl⟩
        rw [← hu] at hst
        have HU := Lib.hid hu
        generalize (s.val : Int) = sv at *
        generalize ((f 0 k).val : Int) = xv at *
        generalize ((Mx.dt p (Mx.del k f)).val : Int) = dv at *
        generalize sgnI k = gi at *
        obtain ⟨y, hy⟩ : ∃ y, y = gi * xv := ⟨_, rfl⟩
        rw [← hy] at hb hst
        obtain ⟨z, hz'⟩ : ∃ z, z = y * dv := ⟨_, rfl⟩
        rw [← hz'] at hb hst
        have hw1 : IntKind.i64.wrap (gi * xv) = y := by rw [← hy]; exact IntWalk.i64_in _ (by omega)
        have hw2 : IntKind.i64.wrap (y * dv) = z := by rw [← hz']; exact IntWalk.i64_in _ (by omega)
        have hw3 : IntKind.i64.wrap (sv + z) = sv + z := IntWalk.i64_in _ (by omega)
        have MO := Lib.hid (fun w => rMod_any (sv + z) w (by omega) (by omega))
        rw [hst] at MO
        have kd : Kp wr wr.drew := (Kp.rfl' wr).drewN 1
        have W1 := Lib.hid (WO.out k wr.drew hlt (HA.out.keep (hkp.trans kd)))
        have SK := Lib.hid (fun (w' : World) (h : Kp wr w') => (show w'.cell? ad = some (.slice (some ad1) n d0) ∧ w'.cell? (ad1.add k) = some (.int .i64 xv) ∧ Kp wr w' from
          ⟨(h.cell (p := ad) hl0).trans x1, (h.cell (p := ad1.add k) (by rw [block_add]; exact hl1)).trans x2, h⟩))
        clear hb hst hsv hkp hz hs2 hu hv hy hz' hsg
        go_wp2_with fail
        go_region_held3 (fun w' => w'.cell? ad = some (.slice (some ad1) n d0) ∧ w'.cell? (ad1.add k) = some (.int .i64 xv) ∧ Kp wr w')
          (first
          | exact SK.out _ (Kp.rfl' _)
          | exact SK.out _ kd
          | exact SK.out _ (kd.trans k1)
          | exact SK.out _ ((kd.trans k1).trans k2))
          ((first
          | (go_at_call 26; (with_reducible refine (W1.out).mono ?_); rintro e w1 ⟨A1, c1, rfl, l1, k1⟩)
          | (go_at_call 9; (with_reducible refine (HI.out A1 c1 _ l1).mono ?_); rintro e w2 ⟨rfl, k2⟩)
          | (go_at_call 21; (with_reducible refine (MO.out _).mono ?_); rintro e w' ⟨rfl, rfl⟩)))
        have HK2 := Lib.hid (HK.out.trans ((kd.trans k1).trans k2))
        clear k1 k2 l1 x1 x2
        go_wp2_with fail
        go_roundw
        case rel => exact ⟨k + 1, by omega, by go_num, by rw [HSG.out], by rw [HU.out], HK2.out⟩
        case measure => simp [intOf]; omega
    · obtain rfl : k = n := by omega
      clear hkp
      go_wp2_with fail
      go_ret
      exact ⟨rfl, HK.out⟩

theorem rDetMod_any : ∀ (n : Nat) (hn : n ≤ 1000) (A : Option Addr) (f : Nat → Nat → Fp.F) (d : Nat) (w : World) (ha : LiesM w A (Mx.matl n n f)),
    Calls Tryd.prog 9 #[.slice A n d] w fun e w' => e = .returned (.int .i64 ((Mx.dt n f).val : Int)) ∧ Kp w w'
  | 0, _, A, f, d, w, ha => by
    have e1 : ((Mx.dt 0 f).val : Int) = 1 := rfl
    rw [e1]
    clear ha
    go_enter Tryd.func9, Tryd.ntmps9
    go_wp2
    go_ret
    exact ⟨rfl, Kp.rfl' _⟩
  | p + 1, hp, A, f, d, w, ha => rDetMod_step A f p (p + 1) d w ha rfl (by omega) (fun A f d w h => rDetMod_any p (by omega) A f d w h)

set_option maxHeartbeats 1600000 in
theorem rSquare_any (A : Option Addr) (m : List (List Int)) (n d most : Nat) (lo hi : Int) (w : World) (ha : LiesM w A m) (hn : m.length = n) (hmo : most ≤ 1000) :
    Calls Tryd.prog 8 #[.slice A n d, .int .i64 (most : Int), .int .i64 lo, .int .i64 hi] w fun e w' => e = .returned (.int .i64 (qcode most lo hi m : Int)) ∧ Drew w w' := by
  have MX := Lib.hid (rMatrix_any A m n d most lo hi w ha hn hmo)
  by_cases h0 : Mx.mcode most lo hi m = 0
  · have h0n : 0 < m.length := by
      rcases Nat.eq_zero_or_pos m.length with h | h
      · exfalso; unfold Mx.mcode at h0; rw [if_pos (.inl h)] at h0; cases h0
      · exact h
    obtain ⟨ad, A0, d0, rfl, hl0, hc0, _, _⟩ := ha 0 h0n
    rw [add_zero'] at hc0
    have HC := Lib.hid hc0
    have EV := Lib.hid (show qcode most lo hi m = if n ≠ (m.getD 0 []).length then 3 else 0 by
      unfold qcode
      rw [h0, hn]
      by_cases h : n ≠ (m.getD 0 []).length
      · rw [if_pos ⟨rfl, h⟩, if_pos h]
      · rw [if_neg (fun h' => h h'.2), if_neg h])
    rw [h0] at MX
    have hn0 : (0 : Int) < n := by omega
    generalize (m.getD 0 []).length = q at *
    generalize qcode most lo hi m = z at *
    have HN0 := Lib.hid hn0
    clear ha h0 hn h0n hc0
    by_cases hq : n = q
    · subst hq
      have E2 := Lib.hid (show z = 0 by rw [EV.out, if_neg (fun h => h rfl)])
      have e1 : ((n : Int) != (n : Int)) = false := by simp
      go_enter Tryd.func8, Tryd.ntmps8
      go_wp2_with fail
      refine (MX.out).mono ?_; rintro e w1 ⟨rfl, hd⟩
      have HD := Lib.hid hd
      have hc := (hd.kp.cell (p := ad) hl0).trans HC.out
      clear hd
      go_wp2_with fail
      go_ret
      exact ⟨by rw [E2.out]; rfl, HD.out⟩
    · have E2 := Lib.hid (show z = 3 by rw [EV.out, if_pos hq])
      have e1 : ((n : Int) != (q : Int)) = true := by rw [bne_iff_ne]; omega
      go_enter Tryd.func8, Tryd.ntmps8
      go_wp2_with fail
      refine (MX.out).mono ?_; rintro e w1 ⟨rfl, hd⟩
      have HD := Lib.hid hd
      have hc := (hd.kp.cell (p := ad) hl0).trans HC.out
      clear hd
      go_wp2_with fail
      go_ret
      exact ⟨by rw [E2.out]; rfl, HD.out⟩
  · have EV : qcode most lo hi m = Mx.mcode most lo hi m := by unfold qcode; rw [if_neg (fun h => h0 h.1)]
    rw [EV]
    have e1 : ((Mx.mcode most lo hi m : Int) == 0) = false := by rw [beq_eq_false_iff_ne]; omega
    generalize Mx.mcode most lo hi m = z at *
    clear ha hn EV h0
    go_enter Tryd.func8, Tryd.ntmps8
    go_wp2_with fail
    refine (MX.out).mono ?_; rintro e w1 ⟨rfl, hd⟩
    have HD := Lib.hid hd
    clear hd
    go_wp2_with fail
    go_ret
    exact ⟨rfl, HD.out⟩
end Go.Proofs.YtofdhdnffkhojaaDoor
