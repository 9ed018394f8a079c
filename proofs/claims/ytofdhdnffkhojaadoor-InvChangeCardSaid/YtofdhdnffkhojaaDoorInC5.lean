/- Contract of package inv's Change. -/
import Derived.Test.YtofdhdnffkhojaaDoorInC3
import Derived.Test.YtofdhdnffkhojaaDoorInC4
namespace Go.Proofs.YtofdhdnffkhojaaDoor
open Go.ChangeShapes Go.WideShapes Go.ChangeAt Go.RowKit Go.Shelf
set_option linter.unusedVariables false
attribute [local go_sem] Oper.semAt_some

set_option maxRecDepth 100000 in
set_option maxHeartbeats 1600000 in
theorem Chg_bad (A U V : Option Addr) (m : List (List Int)) (n d p q c c' : Nat) (w : World) (ha : LiesM w A m) (hn : m.length = n) (h : qcode 5 0 9972 m ≠ 0) :
    Calls Tryd.prog 16 #[.slice A n d, .slice U p c, .slice V q c'] w fun e w' => e = .returned (.tuple #[.slice none 0 0, errOf (qcode 5 0 9972 m)]) ∧ Kp w w' := by
  have CK := Lib.hid (fun w' (h : Kp w w') => DChk_any A m n d w' (ha.keep h) hn)
  rw [errOf_ne _ h] at CK ⊢
  generalize qcode 5 0 9972 m = z at *
  have k1 := Lib.hid ((Kp.rfl' w).new (.cells #[.slice A n d] 22))
  clear ha hn h
  go_enter Tryd.func16, Tryd.ntmps16
  go_wp2_with fail
  refine (CK.out _ k1.out).mono ?_; rintro e w' ⟨rfl, rfl⟩
  go_wp2_with fail
  go_ret2
  exact ⟨rfl, k1.out⟩

set_option maxRecDepth 100000 in
set_option maxHeartbeats 1600000 in
theorem Chg_shape (A U V : Option Addr) (m : List (List Int)) (l l' : List Int) (n d p q c c' : Nat) (w : World) (ha : LiesM w A m) (hu : Lies w U l) (hv : Lies w V l') (hn : m.length = n) (hp : l.length = p) (hq : l'.length = q) (h0 : 0 < n) (hn5 : n ≤ 5)
    (h : qcode 5 0 9972 m = 0) (h2 : fcode n l l' ≠ 0) :
    Calls Tryd.prog 16 #[.slice A n d, .slice U p c, .slice V q c'] w fun e w' => e = .returned (.tuple #[.slice none 0 0, errOf (fcode n l l')]) ∧ Kp w w' := by
  have CK := Lib.hid (fun w' (h : Kp w w') => DChk_any A m n d w' (ha.keep h) hn)
  rw [h, errOf_zero] at CK
  have CF := Lib.hid (fun w' (h : Kp w w') => checkFactors_any U V l l' n p q c c' w' (hu.keep h) (hv.keep h) hp hq h0 hn5)
  rw [errOf_ne _ h2] at CF ⊢
  generalize fcode n l l' = z at *
  have k1 := Lib.hid ((Kp.rfl' w).new (.cells #[.slice A n d] 22))
  clear ha hn h h0 h2 hp hq hu hv
  go_enter Tryd.func16, Tryd.ntmps16
  go_wp2_with fail
  refine (CK.out _ k1.out).mono ?_; rintro e w' ⟨rfl, rfl⟩
  go_wp2_with fail
  refine (CF.out _ k1.out).mono ?_; rintro e w' ⟨rfl, k2⟩
  have K2 := Lib.hid (k1.out.trans k2)
  clear k2
  go_wp2_with fail
  go_ret2
  exact ⟨rfl, K2.out⟩

theorem fcode_rows (n : Nat) (u v : Nat → Fp.F) : fcode n (Mx.row n fun i => ((u i).val : Int)) (Mx.row n fun i => ((v i).val : Int)) = 0 := by
  unfold fcode
  rw [if_neg (by rw [Mx.len_row, Mx.len_row]; omega), if_pos]
  intro x hx
  rcases List.mem_append.1 hx with hx | hx
  · obtain ⟨i, _, rfl⟩ := List.mem_map.1 hx
    exact gval _
  · obtain ⟨i, _, rfl⟩ := List.mem_map.1 hx
    exact gval _

set_option maxRecDepth 100000 in
set_option maxHeartbeats 1600000 in
theorem Chg_none (A U V : Option Addr) (t : Nat → Nat → Fp.F) (u v : Nat → Fp.F) (n d du dv : Nat) (w : World) (ha : LiesM w A (Mx.matl n n t)) (hu : Lies w U (Mx.row n fun i => ((u i).val : Int))) (hv : Lies w V (Mx.row n fun i => ((v i).val : Int))) (h0 : 0 < n) (hn : n ≤ 5)
    (hz : Mx.bent n t u v = 0) :
    Calls Tryd.prog 16 #[.slice A n d, .slice U n du, .slice V n dv] w fun e w' => e = .returned (.tuple #[.slice none 0 0, errOf 5]) ∧ Kp w w' := by
  have CK := Lib.hid (fun w' (h : Kp w w') => DChk_any A _ n d w' (ha.keep h) (Mx.len_matl n n t))
  rw [qcode_matl t h0 hn, errOf_zero] at CK
  have CF := Lib.hid (fun w' (h : Kp w w') => checkFactors_any U V _ _ n n n du dv w' (hu.keep h) (hv.keep h) (Mx.len_row _ _) (Mx.len_row _ _) h0 hn)
  rw [fcode_rows, errOf_zero] at CF
  have PR := Lib.hid (fun w' (h : Kp w w') => products_any A U V t u v n d du dv w' (ha.keep h) (hu.keep h) (hv.keep h) h0 hn)
  rw [hz, show (((0 : Fp.F).val : Nat) : Int) = 0 from rfl] at PR
  have DV := Lib.hid (fun w => div_zero 1 w)
  have k1 := Lib.hid ((Kp.rfl' w).new (.cells #[.slice A n d] 22))
  have c1 : (w.alloc (.cells #[.slice A n d] 22)).cell? ⟨w.heap.size, 0, none⟩ = some (.slice A n d) := by simp
  obtain ⟨w1, hw1⟩ : ∃ x, x = w.alloc (.cells #[.slice A n d] 22) := ⟨_, rfl⟩
  have s1 : w.heap.size < w1.heap.size := by rw [hw1]; simp
  rw [← hw1] at c1 k1
  have HW := Lib.hid hw1
  clear ha hu hv h0 hn hz hw1
  go_enter Tryd.func16, Tryd.ntmps16
  go_upto_region 1 with (fail)
  rw [← HW.out]
  go_wp2_with fail
  refine (CK.out _ k1.out).mono ?_; rintro e w' ⟨rfl, rfl⟩
  go_wp2_with fail
  refine (CF.out _ k1.out).mono ?_; rintro e w2 ⟨rfl, k2⟩
  have K2 := Lib.hid (k1.out.trans k2)
  have c2 := (k2.cell (p := ⟨w.heap.size, 0, none⟩) s1).trans c1
  clear k2 c1
  go_wp2_with fail
  refine (PR.out _ K2.out).mono ?_; rintro e w3 ⟨gc, gr, rfl, r1, r2, k3⟩
  have K3 := Lib.hid (K2.out.trans k3)
  clear k3 c2 r1 r2
  go_wp2_with fail
  refine (DV.out _).mono ?_; rintro e w4 ⟨rfl, rfl⟩
  have K4 := Lib.hid (((K3.out.new (.cells #[.slice (some ⟨gc, 0, none⟩) n n] 23)).new (.cells #[.slice (some ⟨gr, 0, none⟩) n n] 23)).new (.cells #[.int .i64 0] 3))
  go_wp2_with fail
  go_ret2
  exact ⟨rfl, K4.out⟩

/-- The variables of Change in its loop, and the matrix in the making. -/
structure ChAt (w0 : World) (b0 bc br bf bx gc gr g n d : Nat) (A : Option Addr) (G : Nat → Nat) (cf rf : Nat → Int) (x : Int) (f : Nat → Nat → Int) (W : World) : Prop where
  m : W.cell? ⟨b0, 0, none⟩ = some (.slice A n d)
  c : W.cell? ⟨bc, 0, none⟩ = some (.slice (some ⟨gc, 0, none⟩) n n)
  r : W.cell? ⟨br, 0, none⟩ = some (.slice (some ⟨gr, 0, none⟩) n n)
  x : W.cell? ⟨bf, 0, none⟩ = some (.int .i64 x)
  b : W.cell? ⟨bx, 0, none⟩ = some (.slice (some ⟨g, 0, none⟩) n n)
  cr : Row W gc (Mx.row n cf)
  rr : Row W gr (Mx.row n rf)
  gr : Grid W g G n n f
  kp : Kp w0 W
theorem chat_own (w0 : World) (b0 bc br bf bx gc gr g n d : Nat) (A : Option Addr) (G : Nat → Nat) (cf rf : Nat → Int) (x : Int) (f : List Nat → Nat → Nat → Int) (B : Nat) (hw : w0.heap.size ≤ B) :
    OwnFrom B (fun (pre : List Nat) W => ChAt w0 b0 bc br bf bx gc gr g n d A G cf rf x (f pre) W) := fun s W W' row h hg hr => by
  have hr' : ∀ r, row = some r → ∃ o : Obj, W.heap[r]? = some o ∧ o.isCells = false := fun r e => (hr r e).2
  exact ⟨cell_kept h.m hg hr', cell_kept h.c hg hr', cell_kept h.r hg hr', cell_kept h.x hg hr', cell_kept h.b hg hr', rowg_kept h.cr hg hr', rowg_kept h.rr hg hr', h.gr.kept hg hr', h.kp.grown hg h.kp.size (fun k e => Nat.le_trans hw (hr k e).1)⟩
theorem ChAt.put {w0 : World} {b0 bc br bf bx gc gr g n d : Nat} {A : Option Addr} {G : Nat → Nat} {cf rf : Nat → Int} {x : Int} {f : Nat → Nat → Int} {W : World} (h : ChAt w0 b0 bc br bf bx gc gr g n d A G cf rf x f W) {i : Nat} (hi : i < n) (j : Nat) (z : Int)
    (o : b0 ≠ G i ∧ bc ≠ G i ∧ br ≠ G i ∧ bf ≠ G i ∧ bx ≠ G i ∧ gc ≠ G i ∧ gr ≠ G i ∧ w0.heap.size ≤ G i) :
    ChAt w0 b0 bc br bf bx gc gr g n d A G cf rf x (fun a b => if a = i ∧ b = j then z else f a b) (W.setCell ⟨G i, j, none⟩ (.int .i64 z)) := by
  have far : ∀ (b : Nat) (v : Value), b ≠ G i → W.cell? ⟨b, 0, none⟩ = some v → (W.setCell ⟨G i, j, none⟩ (.int .i64 z)).cell? ⟨b, 0, none⟩ = some v := fun b v hb hv => (World.cell?_setCell_far W ⟨G i, j, none⟩ ⟨b, 0, none⟩ _ (fun e => hb e.symm)).trans hv
  exact ⟨far _ _ (by omega) h.m, far _ _ (by omega) h.c, far _ _ (by omega) h.r, far _ _ (by omega) h.x, far _ _ (by omega) h.b, h.cr.far (by show gc ≠ G i; omega) _, h.rr.far (by show gr ≠ G i; omega) _, h.gr.put hi j z, h.kp.put (p := ⟨G i, j, none⟩) (by show w0.heap.size ≤ G i; omega) _⟩

set_option maxRecDepth 100000 in
set_option maxHeartbeats 3200000 in
theorem Chg_ok (A U V : Option Addr) (t : Nat → Nat → Fp.F) (u v : Nat → Fp.F) (n d du dv : Nat) (w : World) (ha : LiesM w A (Mx.matl n n t)) (hu : Lies w U (Mx.row n fun i => ((u i).val : Int))) (hv : Lies w V (Mx.row n fun i => ((v i).val : Int))) (h0 : 0 < n) (hn : n ≤ 5)
    (hz : Mx.bent n t u v ≠ 0) :
    Calls Tryd.prog 16 #[.slice A n d, .slice U n du, .slice V n dv] w fun e w' => ∃ g, e = .returned (.tuple #[.slice (some ⟨g, 0, none⟩) n n, .nilIface]) ∧ LiesM w' (some ⟨g, 0, none⟩) (Mx.matl n n (Mx.shm n t u v)) ∧ Kp w w' := by
  obtain ⟨ad, A0, d0, rfl, -, -, -, -⟩ := ha.row h0
  have CK := Lib.hid (fun w' (h : Kp w w') => DChk_any (some ad) _ n d w' (ha.keep h) (Mx.len_matl n n t))
  rw [qcode_matl t h0 hn, errOf_zero] at CK
  have CF := Lib.hid (fun w' (h : Kp w w') => checkFactors_any U V _ _ n n n du dv w' (hu.keep h) (hv.keep h) (Mx.len_row _ _) (Mx.len_row _ _) h0 hn)
  rw [fcode_rows, errOf_zero] at CF
  have PR := Lib.hid (fun w' (h : Kp w w') => products_any (some ad) U V t u v n d du dv w' (ha.keep h) (hu.keep h) (hv.keep h) h0 hn)
  have DV := Lib.hid (fun w => div_el 1 (Mx.bent n t u v) w hz)
  have HA := Lib.hid ha
  obtain ⟨x, hx⟩ : ∃ x, x = (1 : Fp.F) * Fp.inv (Mx.bent n t u v) := ⟨_, rfl⟩
  rw [← hx] at DV
  have HX := Lib.hid (show ∀ a b, t a b - Mx.colv n t u a * Mx.rowv n v t b * x = Mx.shm n t u v a b from fun a b => by rw [hx]; unfold Mx.shm; grind)
  have k1 := Lib.hid ((Kp.rfl' w).new (.cells #[.slice (some ad) n d] 22))
  have c1 : (w.alloc (.cells #[.slice (some ad) n d] 22)).cell? ⟨w.heap.size, 0, none⟩ = some (.slice (some ad) n d) := by simp
  obtain ⟨w1, hw1⟩ : ∃ x, x = w.alloc (.cells #[.slice (some ad) n d] 22) := ⟨_, rfl⟩
  have s1 : w.heap.size < w1.heap.size := by rw [hw1]; simp
  rw [← hw1] at c1 k1
  have HW := Lib.hid hw1
  obtain ⟨cf, hcf⟩ : ∃ cf, cf = Mx.colv n t u := ⟨_, rfl⟩
  obtain ⟨rf, hrf⟩ : ∃ rf, rf = Mx.rowv n v t := ⟨_, rfl⟩
  rw [← hcf] at PR HX
  rw [← hrf] at PR HX
  generalize Mx.bent n t u v = kk at *
  clear ha hu hv hz hw1 hcf hrf hx
  refine callsIn_wide.1 (callsIn_of_wp_marks (F := Fence.wide) (n := 9) Tryd.func16 rfl trivial ?_ rfl)
  simp only [Tryd.ntmps16, List.size_toArray, List.length_cons, List.length_nil, Nat.reduceAdd, Nat.reduceSub, Array.replicate_succ, Array.replicate_zero, List.push_toArray, List.append_toArray, List.nil_append, List.cons_append]
  refine wpIn_wide.2 ?_
  go_upto_region 1 with (fail)
  rw [← HW.out]
  go_wp2_with fail
  refine (CK.out _ k1.out).mono ?_; rintro e w' ⟨rfl, rfl⟩
  go_wp2_with fail
  refine (CF.out _ k1.out).mono ?_; rintro e w2 ⟨rfl, k2⟩
  have K2 := Lib.hid (k1.out.trans k2)
  have c2 := (k2.cell (p := ⟨w.heap.size, 0, none⟩) s1).trans c1
  have s2 : w.heap.size < w2.heap.size := Nat.lt_of_lt_of_le s1 k2.size
  clear k2 c1
  go_wp2_with fail
  refine (PR.out _ K2.out).mono ?_; rintro e w3 ⟨gc, gr, rfl, r1, r2, k3⟩
  have c3 := (k3.cell (p := ⟨w.heap.size, 0, none⟩) s2).trans c2
  have s3 : w.heap.size < w3.heap.size := Nat.lt_of_lt_of_le s2 k3.size
  have K3 := Lib.hid (K2.out.trans k3)
  have R1 := Lib.hid r1
  have R2 := Lib.hid r2
  clear k3 c2 r1 r2
  go_wp2_with fail
  obtain ⟨bc, hbc⟩ : ∃ y, y = w3.heap.size := ⟨_, rfl⟩
  obtain ⟨br, hbr⟩ : ∃ y, y = bc + 1 := ⟨_, rfl⟩
  obtain ⟨w4, hw4⟩ : ∃ y, y = (w3.alloc (.cells #[.slice (some ⟨gc, 0, none⟩) n n] 23)).alloc (.cells #[.slice (some ⟨gr, 0, none⟩) n n] 23) := ⟨_, rfl⟩
  have k4 : Kp w3 w4 := by rw [hw4]; exact ((Kp.rfl' w3).new _).new _
  have s4 : w4.heap.size = br + 1 := by rw [hw4]; simp; omega
  have p4 : w4.cell? ⟨bc, 0, none⟩ = some (.slice (some ⟨gc, 0, none⟩) n n) := by rw [hw4, hbc]; simp
  have q4 : w4.cell? ⟨br, 0, none⟩ = some (.slice (some ⟨gr, 0, none⟩) n n) := by rw [hw4, hbr, hbc]; simp
  rw [← hw4, ← hbc, ← hbr]
  have c4 := (k4.cell (p := ⟨w.heap.size, 0, none⟩) s3).trans c3
  have K4 := Lib.hid (K3.out.trans k4)
  have R1' := Lib.hid (R1.out.keep k4)
  have R2' := Lib.hid (R2.out.keep k4)
  have lgc := R1.out.lt
  have lgr := R2.out.lt
  have O4 := Lib.hid (show w.heap.size < bc ∧ bc < br ∧ gc < bc ∧ gr < bc ∧ w4.heap.size = br + 1 by omega)
  clear hw4 k4 c3 K3 R1 R2 hbc hbr s4 lgc lgr s1 s2 s3 HW k1
  refine (DV.out _).mono ?_; rintro e w5 ⟨rfl, k5⟩
  have k5 := k5.kp
  have c5 := (k5.cell (p := ⟨w.heap.size, 0, none⟩) (by have := O4.out; show w.heap.size < _; omega)).trans c4
  have O5 := Lib.hid (show w4.heap.size ≤ w5.heap.size from k5.size)
  have l5 : w.heap.size < w5.heap.size := cell_lt c5
  go_wp2_with fail
  obtain ⟨bf, hbf⟩ : ∃ y, y = w5.heap.size := ⟨_, rfl⟩
  obtain ⟨w6, hw6⟩ : ∃ y, y = w5.alloc (.cells #[.int .i64 (x.val : Int)] 3) := ⟨_, rfl⟩
  have k6 : Kp w5 w6 := by rw [hw6]; exact (Kp.rfl' w5).new _
  have s6 : w6.heap.size = bf + 1 := by rw [hw6, hbf]; simp
  have x6 : w6.cell? ⟨bf, 0, none⟩ = some (.int .i64 (x.val : Int)) := by rw [hw6, hbf]; simp
  have k46 := k5.trans k6
  have O6 := Lib.hid (show w.heap.size < bc ∧ bc < br ∧ br < bf ∧ gc < bc ∧ gr < bc ∧ w6.heap.size = bf + 1 by have := O4.out; have := O5.out; omega)
  have c6 := (k6.cell (p := ⟨w.heap.size, 0, none⟩) (cell_lt c5)).trans c5
  have K6 := Lib.hid (K4.out.trans k46)
  have S6 := Lib.hid (show Row w6 gc _ ∧ Row w6 gr _ ∧ w6.cell? ⟨bc, 0, none⟩ = some (.slice (some ⟨gc, 0, none⟩) n n) ∧ w6.cell? ⟨br, 0, none⟩ = some (.slice (some ⟨gr, 0, none⟩) n n) ∧ w6.cell? ⟨bf, 0, none⟩ = some (.int .i64 (x.val : Int)) from
    ⟨R1'.out.keep k46, R2'.out.keep k46, (k46.cell (p := ⟨bc, 0, none⟩) (cell_lt p4)).trans p4, (k46.cell (p := ⟨br, 0, none⟩) (cell_lt q4)).trans q4, x6⟩)
  rw [← hw6, ← hbf]
  clear hw6 k5 k6 k46 c4 c5 p4 q4 K4 R1' R2' hbf s6 x6 O4 O5
  have ZE := izero_any n w6 (by omega)
  refine ZE.mono ?_; rintro e w7 ⟨G, rfl, gr7, k7⟩
  obtain ⟨g, hg⟩ : ∃ y, y = w6.heap.size := ⟨_, rfl⟩
  rw [← hg] at gr7 ⊢
  have c7 := (k7.cell (p := ⟨w.heap.size, 0, none⟩) (cell_lt c6)).trans c6
  have K7 := Lib.hid (K6.out.trans k7)
  have S7 := Lib.hid (show Row w7 gc _ ∧ Row w7 gr _ ∧ w7.cell? ⟨bc, 0, none⟩ = some (.slice (some ⟨gc, 0, none⟩) n n) ∧ w7.cell? ⟨br, 0, none⟩ = some (.slice (some ⟨gr, 0, none⟩) n n) ∧ w7.cell? ⟨bf, 0, none⟩ = some (.int .i64 (x.val : Int)) from
    ⟨S6.out.1.keep k7, S6.out.2.1.keep k7, (k7.cell (p := ⟨bc, 0, none⟩) (cell_lt S6.out.2.2.1)).trans S6.out.2.2.1, (k7.cell (p := ⟨br, 0, none⟩) (cell_lt S6.out.2.2.2.1)).trans S6.out.2.2.2.1, (k7.cell (p := ⟨bf, 0, none⟩) (cell_lt S6.out.2.2.2.2)).trans S6.out.2.2.2.2⟩)
  have GR7 := Lib.hid gr7
  have O7 := Lib.hid (show w.heap.size < bc ∧ bc < br ∧ br < bf ∧ gc < bc ∧ gr < bc ∧ g = bf + 1 ∧ (∀ i, i < n → g < G i ∧ G i < w7.heap.size) from by
    have := O6.out
    exact ⟨by omega, by omega, by omega, by omega, by omega, by omega, fun i hi => ⟨gr7.after i hi, (gr7.row i hi).lt⟩⟩)
  have l7 : w.heap.size < w7.heap.size := cell_lt c7
  clear k7 c6 K6 S6 O6 gr7 hg ZE l5
  go_wp2_with fail
  obtain ⟨bx, hbx⟩ : ∃ y, y = w7.heap.size := ⟨_, rfl⟩
  obtain ⟨w8, hw8⟩ : ∃ y, y = w7.alloc (.cells #[.slice (some ⟨g, 0, none⟩) n n] 22) := ⟨_, rfl⟩
  have k8 : Kp w7 w8 := by rw [hw8]; exact (Kp.rfl' w7).new _
  have s8 : w8.heap.size = bx + 1 := by rw [hw8, hbx]; simp
  have x8 : w8.cell? ⟨bx, 0, none⟩ = some (.slice (some ⟨g, 0, none⟩) n n) := by rw [hw8, hbx]; simp
  rw [← hw8, ← hbx]
  rw [← hbx] at O7
  refine (iplaces_any n w8).mono ?_; rintro e w9 ⟨rfl, hw9⟩
  have k9 : Kp w8 w9 := by rw [hw9]; exact (Kp.rfl' w8).new _
  have n9 : w9.cell? ⟨bx + 1, 0, none⟩ = some (.int .i64 (n : Int)) := by rw [hw9, ← s8]; simp
  have s9 : w9.heap.size = bx + 2 := by rw [hw9]; simp [s8]
  rw [s8]
  have k79 := k8.trans k9
  have P9 := Lib.hid (show ChAt w w.heap.size bc br bf bx gc gr g n d (some ad) G (fun i => ((cf i).val : Int)) (fun i => ((rf i).val : Int)) (x.val : Int) (fun a b => ((Mx.setl n n (Mx.shm n t u v) [] a b).val : Int)) w9 from
    ⟨(k79.cell (p := ⟨w.heap.size, 0, none⟩) (cell_lt c7)).trans c7, (k79.cell (p := ⟨bc, 0, none⟩) (cell_lt S7.out.2.2.1)).trans S7.out.2.2.1, (k79.cell (p := ⟨br, 0, none⟩) (cell_lt S7.out.2.2.2.1)).trans S7.out.2.2.2.1,
      (k79.cell (p := ⟨bf, 0, none⟩) (cell_lt S7.out.2.2.2.2)).trans S7.out.2.2.2.2, (k9.cell (p := ⟨bx, 0, none⟩) (cell_lt x8)).trans x8, S7.out.1.keep k79, S7.out.2.1.keep k79, (GR7.out.keep k79).ext (fun _ _ _ _ => rfl), K7.out.trans k79⟩)
  clear hw9 hw8 hbx k8 k9 k79 x8 c7 S7 GR7 K7
  go_wp2_with fail
  refine (wpIn_wide (n := 9)).1 (wpIn_rangeFunc_ownF (F := Fence.wide) rfl (Nat.le_add_left 1 8) (gf := 56) (lb := #[.pointer (some ⟨bx + 1, 0, none⟩)]) rfl trivial (enters_of Tryd.func56 (by kernel_rfl) rfl)
    (iplaces_stops 8 (Nat.le_add_left 1 7) (bx + 1) n (by omega) w9 (by omega) n9)
    keepN_t (fun W l o o' _ ho h1 _ => keepN_b W l o o' ho h1) (Below.refl _ _) (fun _ => rfl)
    (fun pre W => ChAt w w.heap.size bc br bf bx gc gr g n d (some ad) G (fun i => ((cf i).val : Int)) (fun i => ((rf i).val : Int)) (x.val : Int) (fun a b => ((Mx.setl n n (Mx.shm n t u v) pre a b).val : Int)) W)
    (fun _ _ _ => False)
    (chat_own w w.heap.size bc br bf bx gc gr g n d (some ad) G _ _ _ _ _ (by have := P9.out.kp.size; omega))
    (fun _ _ _ _ _ hs _ _ => hs)
    P9.out
    ?a1 ?assign ?body ?done ?stop)
  case assign =>
    intro l x W K hK
    unfold placeOf
    gi_wp2
    exact hK
  case body =>
    rintro l pre y W hch _
    have PP := Lib.hid hch
    have hst := fun a b => Mx.setl_snoc n n (Mx.shm n t u v) pre y a b
    change ∀ a b, _ = if a = rowOf n n y ∧ b = colOf n y then _ else _ at hst
    have hi := rowOf_lt (c := n) y h0
    have hj := colOf_lt y h0
    generalize rowOf n n y = i at *
    generalize colOf n y = j at *
    have HST := Lib.hid hst
    clear hst hch
    have x0 := PP.out.m
    have x1 := PP.out.c
    have x2 := PP.out.r
    have x3 := PP.out.x
    have x4 := PP.out.b
    have y1 := PP.out.cr.cell i (by rw [Mx.len_row]; exact hi)
    have y2 := PP.out.rr.cell j (by rw [Mx.len_row]; exact hj)
    rw [Mx.row_at _ _ _ hi] at y1
    rw [Mx.row_at _ _ _ hj] at y2
    have z1 := PP.out.gr.cell hi
    have z2 := PP.out.gr.el hi hj
    have z3 := PP.out.gr.free hi j
    obtain ⟨ad', A1, d1, ea, _, x5, _, l1⟩ := (HA.out.keep PP.out.kp).row hi
    obtain rfl := Option.some.inj ea
    obtain ⟨ad1, rfl, _, x6⟩ := l1.el hj
    obtain ⟨p, hp⟩ : ∃ p, p = cf i * rf j := ⟨_, rfl⟩
    have hm1 := times_mod (cf i) (rf j)
    have hb1 := times_bound (cf i) (rf j)
    have hwm1 : IntKind.i64.wrap (((cf i).val : Int) * ((rf j).val : Int)) = ((cf i).val : Int) * ((rf j).val : Int) := IntWalk.i64_in _ (by omega)
    rw [← hp] at hm1
    have HP := Lib.hid hp
    clear l1 hb1 hp
    refine wpIn_block ?_
    gi_wp2
    refine region_tail 10 (by kernel_rfl) (by kernel_rfl) (by kernel_rfl) ?_
    simp only [List.take_succ_cons, List.take_zero, List.drop_succ_cons, List.drop_zero]
    repeat still_step
    refine wpStill_nil ?_
    go_wp2_with fail
    refine ⟨rfl, ?_⟩
    clear hwm1 hm1
    have hl := less_mod (t i j) p x
    have vp := gval p
    have vt := gval (t i j)
    have hb := less_bound p x
    have hws : IntKind.i64.wrap (9973 - (p.val : Int)) = 9973 - (p.val : Int) := IntWalk.i64_in _ (by omega)
    have hwm : IntKind.i64.wrap ((9973 - (p.val : Int)) * (x.val : Int)) = (9973 - (p.val : Int)) * (x.val : Int) := IntWalk.i64_in _ (by omega)
    have hwa : IntKind.i64.wrap (((t i j).val : Int) + (9973 - (p.val : Int)) * (x.val : Int)) = ((t i j).val : Int) + (9973 - (p.val : Int)) * (x.val : Int) := IntWalk.i64_in _ (by omega)
    clear vp vt hb
    gi_wp2
    refine region_tail 19 (by kernel_rfl) (by kernel_rfl) (by kernel_rfl) ?_
    simp only [List.take_succ_cons, List.take_zero, List.drop_succ_cons, List.drop_zero]
    repeat still_step
    refine wpStill_nil ?_
    go_wp2_with fail
    refine ⟨rfl, ?_⟩
    obtain ⟨o1, o2, o3, o4, o5, o6, o7⟩ := O7.out
    have o7 := o7 i hi
    have hsw := PP.out.kp.size
    have ho : w.heap.size ≠ G i ∧ bc ≠ G i ∧ br ≠ G i ∧ bf ≠ G i ∧ bx ≠ G i ∧ gc ≠ G i ∧ gr ≠ G i ∧ w.heap.size ≤ G i := by omega
    refine ⟨((KeepsOthers.setCell W ⟨G i, j, none⟩ _).trans (KeepsOthers.drew _)).trans (KeepsOthers.drew _), keepN_t (keepN_t (keepN_set W ⟨G i, j, none⟩ _ (by show G i ≠ bx + 1; omega)) id) id, ?_⟩
    have PF := PP.out.put hi j ((t i j - p * x).val : Int) ho
    refine ⟨PF.m, PF.c, PF.r, PF.x, PF.b, PF.cr, PF.rr, (((PF.gr.keep ((Kp.rfl' _).drewN 1)).keep ((Kp.rfl' _).drewN 1))).ext fun a b _ _ => ?_, (PF.kp.drewN 1).drewN 1⟩
    rw [HST.out a b]
    by_cases e : a = i ∧ b = j
    · rw [if_pos e, if_pos e, e.1, e.2, ← HX.out i j, HP.out]
    · rw [if_neg e, if_neg e]
  case done =>
    rintro D ys W hD rfl hch hK
    have x4 := hch.b
    have PP := Lib.hid hch
    clear hch
    go_wp2_with fail
    have hD2 : w.heap.size ≤ D := by have := P9.out.kp.size; omega
    have PX := chat_own w w.heap.size bc br bf bx gc gr g n d (some ad) G (fun i => ((cf i).val : Int)) (fun i => ((rf i).val : Int)) (x.val : Int) (fun pre a b => ((Mx.setl n n (Mx.shm n t u v) pre a b).val : Int)) w.heap.size (Nat.le_refl _) (List.range (n * n)) W (W.putObj D (.deferred none)) (some D) PP.out (grownBy_putObj' _ _ _) (fun r e => by cases e; exact ⟨hD2, _, hK, rfl⟩)
    refine ⟨by simp, .inl ⟨_, _, rfl, run_takeDeferred hK, ?_⟩⟩
    refine ⟨.tuple #[.slice (some ⟨g, 0, none⟩) n n, .nilIface], by simp [results, Tryd.results16, go_sem], ?_⟩
    refine ⟨g, rfl, ?_, PX.kp⟩
    have hl := PX.gr.lies
    rw [← (Mx.setl_all n n (Mx.shm n t u v)).mat]; exact hl
  case stop =>
    rintro D c pre W _ _ h _
    exact h.elim

end Go.Proofs.YtofdhdnffkhojaaDoor
