/- Contract of package definite's At. -/
import Derived.Test.YtlnehhhlpdaebaaDfC2
namespace Go.Proofs.Ytlnehhhlpdaebaa
open Go.ChangeShapes Go.WideShapes Go.ChangeAt Go.RowKit Go.Shelf
set_option linter.unusedVariables false
attribute [local go_sem] Oper.semAt_some

set_option maxHeartbeats 1600000 in
theorem DAt_bad (A X : Option Addr) (m : List (List Int)) (l : List Int) (n d p c z : Nat) (w : World) (ha : LiesM w A m) (hn : m.length = n) (h : Fb n m z) :
    Calls Try.prog 17 #[.slice A n d, .slice X p c] w fun e w' => e = .returned (.tuple #[.int .i64 0, .iface 51 (.int .i64 (z : Int))]) ∧ Kp w w' := by
  obtain ⟨w2, hw2⟩ : ∃ x, x = (w.alloc (.cells #[.slice A n d] 40)).alloc (.cells #[.slice X p c] 39) := ⟨_, rfl⟩
  have k2 : Kp w w2 := by rw [hw2]; exact ((Kp.rfl' w).new _).new _
  have m2 : Boxed w2 w.heap.size 40 (.slice A n d) := by rw [hw2]; exact (Boxed.new w _ _).alloc _
  have q0 := m2.cell
  have HW := Lib.hid hw2
  have CK := Lib.hid (DChk_bad A m n d z w2 (ha.keep k2) hn h)
  have K2 := Lib.hid k2
  clear ha hn h hw2 k2
  go_enter Try.func17, Try.ntmps17
  go_upto_region 1 with (fail)
  rw [← HW.out]
  go_wp2_with fail
  refine (CK.out).mono ?_; rintro e w3 ⟨rfl, k3⟩
  have K3 := Lib.hid (K2.out.trans k3)
  clear k3
  go_wp2_with fail
  go_ret2
  exact ⟨rfl, K3.out⟩

set_option maxHeartbeats 1600000 in
theorem DAt_off (A X : Option Addr) (m : List (List Int)) (x : Nat → Nat → Int) (l : List Int) (n d p c : Nat) (w : World) (ha : LiesM w A m) (s : Sf n x m) (hx : Lies w X l) (hp : l.length = p) (h : xcode n l ≠ 0) :
    Calls Try.prog 17 #[.slice A n d, .slice X p c] w fun e w' => e = .returned (.tuple #[.int .i64 0, .iface 51 (.int .i64 ((xcode n l : Nat) : Int))]) ∧ Kp w w' := by
  obtain ⟨w2, hw2⟩ : ∃ x, x = (w.alloc (.cells #[.slice A n d] 40)).alloc (.cells #[.slice X p c] 39) := ⟨_, rfl⟩
  have k2 : Kp w w2 := by rw [hw2]; exact ((Kp.rfl' w).new _).new _
  have m2 : Boxed w2 w.heap.size 40 (.slice A n d) := by rw [hw2]; exact (Boxed.new w _ _).alloc _
  have x2 : Boxed w2 (w.heap.size + 1) 39 (.slice X p c) := by
    have := Boxed.new (w.alloc (.cells #[.slice A n d] 40)) 39 (.slice X p c)
    rw [World.size_alloc] at this
    rw [hw2]; exact this
  have q0 := m2.cell
  have HW := Lib.hid hw2
  have CK := Lib.hid (DChk_ok A m x n d w2 (ha.keep k2) s)
  have PT := Lib.hid (fun (w3 : World) (k : Kp w w3) => DPt_any X l p c n w3 (hx.keep k) hp (by have := s.n4; omega))
  rw [errOf_ne _ h] at PT
  have K2 := Lib.hid k2
  generalize xcode n l = z at *
  have M2 := Lib.hid m2
  have X2 := Lib.hid x2
  clear ha hx hp h hw2 k2 s m2 x2
  go_enter Try.func17, Try.ntmps17
  go_upto_region 1 with (fail)
  rw [← HW.out]
  go_wp2_with fail
  refine (CK.out).mono ?_; rintro e w3 ⟨rfl, k3⟩
  have K3 := Lib.hid (K2.out.trans k3)
  have q1 := (boxed_kp M2.out k3).cell
  have q2 := (boxed_kp X2.out k3).cell
  clear k3
  go_wp2_with fail
  refine (PT.out w3 K3.out).mono ?_; rintro e w4 ⟨rfl, rfl⟩
  go_wp2_with fail
  go_ret2
  exact ⟨rfl, K3.out⟩

/-- What has been added up as far as the places of pre. -/
def fsum (n : Nat) (x : Nat → Nat → Int) (v : Nat → Int) (pre : List Nat) : Int := Zx.zsum (fun y => Zx.tt x v (rowOf n n y) (colOf n y)) pre
theorem fsum_snoc (n : Nat) (x : Nat → Nat → Int) (v : Nat → Int) (pre : List Nat) (y : Nat) : fsum n x v (pre ++ [y]) = fsum n x v pre + Zx.tt x v (rowOf n n y) (colOf n y) := Zx.zsum_snoc _ _ _
theorem fsum_all {n : Nat} {x : Nat → Nat → Int} {v : Nat → Int} (h : Zx.Sym n x) : fsum n x v (Zx.tris n n) = Zx.qf n x v :=
  Zx.zsum_form v h fun i j hi hj => by
    obtain ⟨e1, e2⟩ := placeOf_row hi hj
    show Zx.tt x v (rowOf n n (i * n + j)) (colOf n (i * n + j)) = _
    rw [e1, e2]
theorem fsum_bound {n : Nat} {x : Nat → Nat → Int} {v : Nat → Int} (h0 : 0 < n) (h1 : ∀ i j, i < n → j < n → -9 ≤ x i j ∧ x i j ≤ 9) (h2 : ∀ i, i < n → -100 ≤ v i ∧ v i ≤ 100) (pre : List Nat) :
    (fsum n x v pre).natAbs ≤ pre.length * 180000 :=
  Zx.zsum_bound (fun y => (Zx.tt_bound (h1 _ _ (rowOf_lt y h0) (colOf_lt y h0)) (h2 _ (rowOf_lt y h0)) (h2 _ (colOf_lt y h0))).2.2) pre

/-- The variables of the call, and the sum. -/
structure SAt (w0 : World) (b0 b1 b2 : Nat) (A X : Option Addr) (n d c : Nat) (t : Int) (W : World) : Prop where
  m : Boxed W b0 40 (.slice A n d)
  x : Boxed W b1 39 (.slice X n c)
  t : Boxed W b2 3 (.int .i64 t)
  kp : Kp w0 W
section
variable {w0 : World} {b0 b1 b2 n d c : Nat} {A X : Option Addr} {t : Int} {W W' : World}
theorem SAt.keep (h : SAt w0 b0 b1 b2 A X n d c t W) (k : Kp W W') : SAt w0 b0 b1 b2 A X n d c t W' := ⟨boxed_kp h.m k, boxed_kp h.x k, boxed_kp h.t k, h.kp.trans k⟩
theorem SAt.put (h : SAt w0 b0 b1 b2 A X n d c t W) (h0 : w0.heap.size ≤ b2) (h1 : b0 ≠ b2) (h2 : b1 ≠ b2) (u : Int) : SAt w0 b0 b1 b2 A X n d c u (W.setCell ⟨b2, 0, none⟩ (.int .i64 u)) :=
  ⟨boxed_far h.m (p := ⟨b2, 0, none⟩) h1 _, boxed_far h.x (p := ⟨b2, 0, none⟩) h2 _, Boxed.set _ h.t, h.kp.put (p := ⟨b2, 0, none⟩) h0 _⟩
end
theorem sat_own (w0 : World) (b0 b1 b2 : Nat) (A X : Option Addr) (n d c : Nat) (t : List Nat → Int) (B : Nat) (hw : w0.heap.size ≤ B) :
    OwnFrom B (fun (pre : List Nat) W => SAt w0 b0 b1 b2 A X n d c (t pre) W) := fun s W W' row h hg hr => by
  have hr' : ∀ r, row = some r → ∃ o : Obj, W.heap[r]? = some o ∧ o.isCells = false := fun r e => (hr r e).2
  exact ⟨boxed_keptN h.m hg hr', boxed_keptN h.x hg hr', boxed_keptN h.t hg hr', h.kp.grown hg h.kp.size (fun k e => Nat.le_trans hw (hr k e).1)⟩

set_option maxRecDepth 100000 in
set_option maxHeartbeats 3200000 in
theorem DAt_ok (A X : Option Addr) (m : List (List Int)) (x : Nat → Nat → Int) (v : Nat → Int) (n d c : Nat) (w : World) (ha : LiesM w A m) (s : Sf n x m) (hx : Lies w X (Mx.row n v)) (hv : ∀ i, i < n → -100 ≤ v i ∧ v i ≤ 100) :
    Calls Try.prog 17 #[.slice A n d, .slice X n c] w fun e w' => e = .returned (.tuple #[.int .i64 (Zx.qf n x v), .nilIface]) ∧ Kp w w' := by
  obtain ⟨w2, hw2⟩ : ∃ x, x = (w.alloc (.cells #[.slice A n d] 40)).alloc (.cells #[.slice X n c] 39) := ⟨_, rfl⟩
  have k2 : Kp w w2 := by rw [hw2]; exact ((Kp.rfl' w).new _).new _
  have m2 : Boxed w2 w.heap.size 40 (.slice A n d) := by rw [hw2]; exact (Boxed.new w _ _).alloc _
  have x2 : Boxed w2 (w.heap.size + 1) 39 (.slice X n c) := by
    have := Boxed.new (w.alloc (.cells #[.slice A n d] 40)) 39 (.slice X n c)
    rw [World.size_alloc] at this
    rw [hw2]; exact this
  have s2 : w2.heap.size = w.heap.size + 2 := by rw [hw2]; simp
  have q0 := m2.cell
  have HW := Lib.hid hw2
  have n0 := s.shz.n0
  have n4 := s.n4
  have xz : xcode n (Mx.row n v) = 0 := Mx.rcode_ok (Mx.len_row _ _) fun k hk => by
    rw [Mx.len_row] at hk
    rw [Mx.row_at _ _ _ hk]
    exact hv k hk
  have CK := Lib.hid (DChk_ok A m x n d w2 (ha.keep k2) s)
  have PT := Lib.hid (fun (w3 : World) (k : Kp w w3) => DPt_any X (Mx.row n v) n c n w3 (hx.keep k) (Mx.len_row _ _) (by omega))
  rw [xz, errOf_zero] at PT
  have HX := Lib.hid (show LiesM w A (Mx.tab n n x) by rw [← s.shz.eq]; exact ha)
  have HV := Lib.hid hx
  have AB := Lib.hid s.shz.ab
  have VB := Lib.hid hv
  have ALL := Lib.hid (fsum_all (v := v) s.sym)
  have K2 := Lib.hid k2
  have M2 := Lib.hid m2
  have X2 := Lib.hid x2
  clear ha hx hw2 k2 s m2 x2 xz hv
  refine callsIn_wide.1 (callsIn_of_wp_marks (F := Fence.wide) (n := 9) Try.func17 rfl trivial ?_ rfl)
  simp only [Try.ntmps17, List.size_toArray, List.length_cons, List.length_nil, Nat.reduceAdd, Nat.reduceSub, Array.replicate_succ, Array.replicate_zero, List.push_toArray, List.append_toArray, List.nil_append, List.cons_append]
  refine wpIn_wide.2 ?_
  go_upto_region 1 with (fail)
  rw [← HW.out]
  go_wp2_with fail
  refine (CK.out).mono ?_; rintro e w3 ⟨rfl, k3⟩
  have K3 := Lib.hid (K2.out.trans k3)
  have M3 := Lib.hid (boxed_kp M2.out k3)
  have X3 := Lib.hid (boxed_kp X2.out k3)
  have s3 := k3.size
  have q1 := M3.out.cell
  have q2 := X3.out.cell
  clear k3
  go_wp2_with fail
  refine (PT.out w3 K3.out).mono ?_; rintro e w4 ⟨rfl, rfl⟩
  go_upto_region 8 with (fail)
  obtain ⟨w5, hw5⟩ : ∃ y, y = w3.alloc (.cells #[.int .i64 0] 3) := ⟨_, rfl⟩
  have S5 := Lib.hid (show SAt w w.heap.size (w.heap.size + 1) w3.heap.size A X n d c 0 w5 by
    rw [hw5]; exact ⟨M3.out.alloc _, X3.out.alloc _, Boxed.new w3 _ _, K3.out.new _⟩)
  have s5 : w5.heap.size = w3.heap.size + 1 := by rw [hw5]; simp
  rw [← hw5]
  have q3 := S5.out.m.cell
  clear hw5 q0 q1 q2
  go_wp2_with fail
  refine (dplaces_any n w5).mono ?_; rintro e w6 ⟨rfl, hw6⟩
  have k6 : Kp w5 w6 := by rw [hw6]; exact (Kp.rfl' w5).new _
  have n6 : w6.cell? ⟨w5.heap.size, 0, none⟩ = some (.int .i64 (n : Int)) := by rw [hw6]; simp
  have s6 : w6.heap.size = w3.heap.size + 2 := by rw [hw6]; simp [s5]
  rw [s5] at n6 ⊢
  have S6 := Lib.hid (S5.out.keep k6)
  clear hw6 k6 q3
  go_wp2_with fail
  refine (wpIn_wide (n := 9)).1 (wpIn_rangeFunc_ownF (F := Fence.wide) rfl (Nat.le_add_left 1 8) (gf := 45) (lb := #[.pointer (some ⟨w3.heap.size + 1, 0, none⟩)]) rfl trivial (enters_of Try.func45 (by kernel_rfl) rfl)
    (dplaces_stops 8 (Nat.le_add_left 1 7) (w3.heap.size + 1) n (by omega) w6 (by omega) n6)
    keepN_t (fun W l o o' _ ho h1 _ => keepN_b W l o o' ho h1) (Below.refl _ _) (fun _ => rfl)
    (fun pre W => SAt w w.heap.size (w.heap.size + 1) w3.heap.size A X n d c (fsum n x v pre) W)
    (fun _ _ _ => False)
    (sat_own w _ _ _ A X n d c _ _ (by omega))
    (fun _ _ _ _ _ hs _ _ => hs)
    S6.out
    ?a1 ?assign ?body ?done ?stop)
  case assign =>
    intro l x W K hK
    unfold placeOf
    gi_wp2
    exact hK
  case body =>
    rintro l pre y W hs hlen
    have hnn : n * n ≤ 4 * 4 := Nat.mul_le_mul n4 n4
    have hfb := fsum_bound n0 AB.out VB.out pre
    have ST := Lib.hid (fsum_snoc n x v pre y)
    have hi := rowOf_lt (c := n) y n0
    have hj := colOf_lt y n0
    generalize rowOf n n y = i at *
    generalize colOf n y = j at *
    obtain ⟨b1, b2, b3⟩ := Zx.tt_bound (AB.out i j hi hj) (VB.out i hi) (VB.out j hj)
    generalize fsum n x v pre = t at *
    have x0 := hs.m.cell
    have y0 := hs.x.cell
    have t1 := hs.t.cell
    have f1 := hs.t.frozen
    obtain ⟨ad, A1, d1, rfl, _, x1, _, l1⟩ := (HX.out.keep hs.kp).row hi
    obtain ⟨ad1, rfl, _, x2⟩ := l1.el hj
    obtain ⟨xd, rfl, _, y1⟩ := (HV.out.keep hs.kp).el hi
    obtain ⟨xd', ex, _, y2⟩ := (HV.out.keep hs.kp).el hj
    obtain rfl := Option.some.inj ex
    have hw1 : IntKind.i64.wrap (x i j * v i) = x i j * v i := IntWalk.i64_in _ (by omega)
    have hw2 : IntKind.i64.wrap (x i j * v i * v j) = x i j * v i * v j := IntWalk.i64_in _ (by omega)
    have hw3 : IntKind.i64.wrap (x i j * v i * v j * 2) = x i j * v i * v j * 2 := IntWalk.i64_in _ (by omega)
    have hw4 : IntKind.i64.wrap (t + Zx.tt x v i j) = t + Zx.tt x v i j := IntWalk.i64_in _ (by omega)
    have SS := Lib.hid hs
    have hk1 : (w3.heap.size) ≠ w3.heap.size + 1 := by omega
    have hs0 : w.heap.size ≤ w3.heap.size := by omega
    have hs1 : w.heap.size ≠ w3.heap.size := by omega
    have hs2 : w.heap.size + 1 ≠ w3.heap.size := by omega
    clear hs l1 b1 b2 b3 hfb hnn hlen
    by_cases hij : i = j
    · have h1 : ((i : Int) != (j : Int)) = false := by simp [hij]
      have E := Lib.hid (show Zx.tt x v i j = x i j * v i * v j from if_pos hij)
      rw [E.out] at hw4
      clear hij hw3
      generalize x i j = a at *
      generalize v i = b at *
      generalize v j = g at *
      refine wpIn_block ?_
      gi_wp2
      refine region_tail 17 (by kernel_rfl) (by kernel_rfl) (by kernel_rfl) ?_
      simp only [List.take_succ_cons, List.take_zero, List.drop_succ_cons, List.drop_zero]
      repeat still_step
      refine wpStill_nil ?_
      go_wp2_with fail
      refine ⟨rfl, ?_⟩
      gi_wp2
      refine ⟨(KeepsOthers.drew _).trans (KeepsOthers.setCell _ _ _), keepN_t id (keepN_set _ ⟨w3.heap.size, 0, none⟩ _ hk1), ?_⟩
      show SAt w _ _ _ _ _ n d c (fsum n x v (pre ++ [y])) _
      rw [ST.out, E.out]
      exact (SS.out.put hs0 hs1 hs2 _).keep ((Kp.rfl' _).drewN 1)
    · have h1 : ((i : Int) != (j : Int)) = true := by rw [bne_iff_ne]; omega
      have E := Lib.hid (show Zx.tt x v i j = x i j * v i * v j * 2 from if_neg hij)
      rw [E.out] at hw4
      clear hij
      generalize x i j = a at *
      generalize v i = b at *
      generalize v j = g at *
      refine wpIn_block ?_
      gi_wp2
      refine region_tail 17 (by kernel_rfl) (by kernel_rfl) (by kernel_rfl) ?_
      simp only [List.take_succ_cons, List.take_zero, List.drop_succ_cons, List.drop_zero]
      repeat still_step
      refine wpStill_nil ?_
      go_wp2_with fail
      refine ⟨rfl, ?_⟩
      gi_wp2
      refine ⟨(KeepsOthers.drew _).trans (KeepsOthers.setCell _ _ _), keepN_t id (keepN_set _ ⟨w3.heap.size, 0, none⟩ _ hk1), ?_⟩
      show SAt w _ _ _ _ _ n d c (fsum n x v (pre ++ [y])) _
      rw [ST.out, E.out]
      exact (SS.out.put hs0 hs1 hs2 _).keep ((Kp.rfl' _).drewN 1)
  case done =>
    rintro D ys W hD rfl hs hK
    rw [ALL.out] at hs
    have r2 := (sat_own w w.heap.size (w.heap.size + 1) w3.heap.size A X n d c (fun _ => Zx.qf n x v) w.heap.size (Nat.le_refl _)) [] W (W.putObj D (.deferred none)) (some D) hs (grownBy_putObj' _ _ _) (fun r e => by cases e; exact ⟨by omega, _, hK, rfl⟩)
    have t1 := hs.t.cell
    have R2 := Lib.hid r2.kp
    clear hs r2
    go_wp2_with fail
    refine ⟨by simp, .inl ⟨_, _, rfl, run_takeDeferred hK, ?_⟩⟩
    refine ⟨.tuple #[.int .i64 (Zx.qf n x v), .nilIface], by simp [results, Try.results17, go_sem], ?_⟩
    exact ⟨rfl, R2.out⟩
  case stop =>
    rintro D c pre W _ _ h _
    exact h.elim

end Go.Proofs.Ytlnehhhlpdaebaa
