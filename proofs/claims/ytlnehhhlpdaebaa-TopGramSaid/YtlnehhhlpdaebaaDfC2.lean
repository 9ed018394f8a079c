/- Contract of package definite's Check: a form, or what is wrong with it. -/
import Derived.Test.YtlnehhhlpdaebaaDfC1
import Derived.Deep.Cut
import Derived.Deep.CutRange
import Derived.Deep.DeepCutAuto
namespace Go.Proofs.Ytlnehhhlpdaebaa
open Go.ChangeShapes Go.WideShapes Go.ChangeAt Go.RowKit Go.Shelf
set_option linter.unusedVariables false
attribute [local go_sem] Oper.semAt_some

/-- A form: a symmetric matrix of at most four rows. -/
structure Sf (n : Nat) (x : Nat → Nat → Int) (m : List (List Int)) : Prop where
  shz : Shz n x m
  n4 : n ≤ 4
  sym : Zx.Sym n x
/-- What is wrong with one that is none. -/
def Fb (n : Nat) (m : List (List Int)) (z : Nat) : Prop :=
  (z ≠ 0 ∧ qcode 4 (-9) 9 m = z) ∨ (z = 6 ∧ ∃ x, Shz n x m ∧ n ≤ 4 ∧ ¬ Zx.Sym n x)
theorem q4_q5 {m : List (List Int)} (h1 : m.length ≤ 4) (h2 : (m.getD 0 []).length ≤ 4) : qcode 4 (-9) 9 m = qcode 5 (-9) 9 m := by
  have e : Mx.mcode 4 (-9) 9 m = Mx.mcode 5 (-9) 9 m := by
    unfold Mx.mcode
    by_cases c : m.length = 0 ∨ (m.getD 0 []).length = 0
    · rw [if_pos c, if_pos c]
    · rw [if_neg c, if_neg c, if_neg (by omega), if_neg (by omega)]
  unfold qcode
  rw [e]
theorem Shz.q4 {n : Nat} {x : Nat → Nat → Int} {m : List (List Int)} (h : Shz n x m) (h4 : n ≤ 4) : qcode 4 (-9) 9 m = 0 := by
  rw [q4_q5 (by rw [h.len]; exact h4) (by rw [h.eq, Mx.tab_len n n x 0 h.n0]; exact h4)]
  exact h.code
theorem q4_zero {m : List (List Int)} (h : qcode 4 (-9) 9 m = 0) : m.length ≤ 4 ∧ (m.getD 0 []).length ≤ 4 := by
  have hm : Mx.mcode 4 (-9) 9 m = 0 := by
    unfold qcode at h
    by_cases h0 : Mx.mcode 4 (-9) 9 m = 0 ∧ m.length ≠ (m.getD 0 []).length
    · rw [if_pos h0] at h; cases h
    · rw [if_neg h0] at h; exact h
  unfold Mx.mcode at hm
  by_cases c1 : m.length = 0 ∨ (m.getD 0 []).length = 0
  · rw [if_pos c1] at hm; cases hm
  rw [if_neg c1] at hm
  by_cases c2 : 4 < m.length ∨ 4 < (m.getD 0 []).length
  · rw [if_pos c2] at hm; cases hm
  omega
theorem sf_or (m : List (List Int)) {n : Nat} (hn : m.length = n) : (∃ x, Sf n x m) ∨ ∃ z, Fb n m z := by
  by_cases h : qcode 4 (-9) 9 m = 0
  · have h4 := q4_zero h
    rcases shz_or m hn with ⟨x, s⟩ | h5
    · by_cases hs : Zx.Sym n x
      · exact .inl ⟨x, s, by omega, hs⟩
      · exact .inr ⟨6, .inr ⟨rfl, x, s, by omega, hs⟩⟩
    · exact absurd ((q4_q5 h4.1 h4.2).symm.trans h) h5
  · exact .inr ⟨_, .inl ⟨h, rfl⟩⟩
theorem Fb.ne {n : Nat} {m : List (List Int)} {z : Nat} (h : Fb n m z) : z ≠ 0 := by rcases h with h | h; exact h.1; omega
theorem Fb.le {n : Nat} {m : List (List Int)} {z : Nat} (h : Fb n m z) : z ≤ 6 := by
  rcases h with h | h
  · have := qcode_le 4 (-9) 9 m; omega
  · omega
theorem Fb.q5 {n : Nat} {m : List (List Int)} {z : Nat} (h : Fb n m z) (h1 : z ≠ 6) : qcode 4 (-9) 9 m = z := by rcases h with h | h; exact h.2; omega

/-- What the call begins with, and what each round keeps. -/
structure CAt (w0 : World) (b0 b1 : Nat) (A : Option Addr) (n d : Nat) (v : Value) (W : World) : Prop where
  m : Boxed W b0 40 (.slice A n d)
  r : Boxed W b1 26 v
  kp : Kp w0 W
theorem CAt.first (w : World) (A : Option Addr) (n d : Nat) :
    CAt w w.heap.size (w.heap.size + 1) A n d .nilIface ((w.alloc (.cells #[.slice A n d] 40)).alloc (.cells #[.nilIface] 26)) := by
  refine ⟨(Boxed.new w _ _).alloc _, ?_, ((Kp.rfl' w).new _).new _⟩
  have := Boxed.new (w.alloc (.cells #[.slice A n d] 40)) 26 .nilIface
  rwa [World.size_alloc] at this
theorem CAt.keep {w0 : World} {b0 b1 : Nat} {A : Option Addr} {n d : Nat} {v : Value} {W W' : World} (h : CAt w0 b0 b1 A n d v W) (k : Kp W W') : CAt w0 b0 b1 A n d v W' := ⟨boxed_kp h.m k, boxed_kp h.r k, h.kp.trans k⟩
theorem CAt.put {w0 : World} {b0 b1 : Nat} {A : Option Addr} {n d : Nat} {v : Value} {W : World} (h : CAt w0 b0 b1 A n d v W) (h0 : w0.heap.size ≤ b1) (h1 : b0 ≠ b1) (u : Value) : CAt w0 b0 b1 A n d u (W.setCell ⟨b1, 0, none⟩ u) :=
  ⟨boxed_far h.m (p := ⟨b1, 0, none⟩) h1 u, Boxed.set _ h.r, h.kp.put (p := ⟨b1, 0, none⟩) h0 u⟩
theorem cat_own (w0 : World) (b0 b1 : Nat) (A : Option Addr) (n d : Nat) (v : Value) (B : Nat) (hw : w0.heap.size ≤ B) (p : List Nat → Prop) :
    OwnFrom B (fun (pre : List Nat) W => CAt w0 b0 b1 A n d v W ∧ p pre) := fun s W W' row h hg hr => by
  have hr' : ∀ r, row = some r → ∃ o : Obj, W.heap[r]? = some o ∧ o.isCells = false := fun r e => (hr r e).2
  exact ⟨⟨boxed_keptN h.1.m hg hr', boxed_keptN h.1.r hg hr', h.1.kp.grown hg h.1.kp.size (fun k e => Nat.le_trans hw (hr k e).1)⟩, h.2⟩

set_option maxRecDepth 100000 in
set_option maxHeartbeats 1600000 in
/-- No row, nothing in the first, or too many of either. -/
theorem DChk_early (A : Option Addr) (m : List (List Int)) (n d : Nat) (w : World) (ha : LiesM w A m) (hn : m.length = n) (h : n = 0 ∨ (m.getD 0 []).length = 0 ∨ 4 < n ∨ 4 < (m.getD 0 []).length) :
    Calls Try.prog 26 #[.slice A n d] w fun e w' => e = .returned (errOf (qcode 4 (-9) 9 m)) ∧ Kp w w' := by
  obtain ⟨q, hq⟩ : ∃ q, q = (m.getD 0 []).length := ⟨_, rfl⟩
  have C0 := Lib.hid (CAt.first w A n d)
  obtain ⟨w2, hw2⟩ : ∃ x, x = (w.alloc (.cells #[.slice A n d] 40)).alloc (.cells #[.nilIface] 26) := ⟨_, rfl⟩
  have HW := Lib.hid hw2
  rw [← hw2] at C0
  have q0 := C0.out.m.cell
  have q1 := C0.out.r.cell
  have q2 := C0.out.r.frozen
  have PUT := Lib.hid (fun u => C0.out.put (Nat.le_succ _) (by omega) u)
  by_cases hz : n = 0
  · have hm : qcode 4 (-9) 9 m = 5 := by rw [qcode_is (c := 5) (by unfold Mx.mcode; rw [if_pos (by omega)]) (by omega)]
    rw [hm]
    have e0 : ((n : Int) == 0) = true := by rw [beq_iff_eq]; omega
    clear hm ha hn hq h hz hw2
    go_enter Try.func26, Try.ntmps26
    go_upto_region 1 with (fail)
    rw [← HW.out]
    go_wp2_with fail
    have q3 := (PUT.out (.iface 51 (.int .i64 5))).r.cell
    exact bodyPost_ret (v := .iface 51 (.int .i64 5)) (by simp [results, Try.results26, go_sem, q3]) rfl ⟨rfl, (PUT.out _).kp⟩
  obtain ⟨ad, A0, d0, rfl, _, hc0, _, hr0⟩ := (ha.keep C0.out.kp) 0 (by omega)
  rw [add_zero', ← hq] at hc0
  have e0 : ((n : Int) == 0) = false := by rw [beq_eq_false_iff_ne]; omega
  have hn0 : (0 : Int) < n := by omega
  by_cases hz2 : q = 0
  · have hm : qcode 4 (-9) 9 m = 5 := by rw [qcode_is (c := 5) (by unfold Mx.mcode; rw [if_pos (by omega)]) (by omega)]
    rw [hm]
    have e1 : ((q : Int) == 0) = true := by rw [beq_iff_eq]; omega
    clear hm ha hn hq h hz hw2 hr0 hz2
    go_enter Try.func26, Try.ntmps26
    go_upto_region 1 with (fail)
    rw [← HW.out]
    go_wp2_with fail
    have q3 := (PUT.out (.iface 51 (.int .i64 5))).r.cell
    exact bodyPost_ret (v := .iface 51 (.int .i64 5)) (by simp [results, Try.results26, go_sem, q3]) rfl ⟨rfl, (PUT.out _).kp⟩
  have e1 : ((q : Int) == 0) = false := by rw [beq_eq_false_iff_ne]; omega
  have hm : qcode 4 (-9) 9 m = 4 := by rw [qcode_is (c := 4) (by unfold Mx.mcode; rw [if_neg (by omega), if_pos (by omega)]) (by omega)]
  rw [hm]
  by_cases hz3 : 4 < n
  · have e2 : (4 : Int) < n := by omega
    clear hm ha hn hq h hz hw2 hr0 hz2
    go_enter Try.func26, Try.ntmps26
    go_upto_region 1 with (fail)
    rw [← HW.out]
    go_wp2_with fail
    have q3 := (PUT.out (.iface 51 (.int .i64 4))).r.cell
    exact bodyPost_ret (v := .iface 51 (.int .i64 4)) (by simp [results, Try.results26, go_sem, q3]) rfl ⟨rfl, (PUT.out _).kp⟩
  · have e2 : ¬ (4 : Int) < n := by omega
    have e3 : (4 : Int) < q := by omega
    clear hm ha hn hq h hz hw2 hr0 hz2
    go_enter Try.func26, Try.ntmps26
    go_upto_region 1 with (fail)
    rw [← HW.out]
    go_wp2_with fail
    have q3 := (PUT.out (.iface 51 (.int .i64 4))).r.cell
    exact bodyPost_ret (v := .iface 51 (.int .i64 4)) (by simp [results, Try.results26, go_sem, q3]) rfl ⟨rfl, (PUT.out _).kp⟩
set_option maxRecDepth 100000 in
set_option maxHeartbeats 1600000 in
/-- A matrix of the right size that is none of a determinant. -/
theorem DChk_no (A : Option Addr) (m : List (List Int)) (n d : Nat) (w : World) (ha : LiesM w A m) (hn : m.length = n) (h1 : 0 < n) (h2 : n ≤ 4) (h3 : 0 < (m.getD 0 []).length) (h4 : (m.getD 0 []).length ≤ 4) (hq5 : qcode 5 (-9) 9 m ≠ 0) :
    Calls Try.prog 26 #[.slice A n d] w fun e w' => e = .returned (errOf (qcode 4 (-9) 9 m)) ∧ Kp w w' := by
  obtain ⟨q, hq⟩ : ∃ q, q = (m.getD 0 []).length := ⟨_, rfl⟩
  have C0 := Lib.hid (CAt.first w A n d)
  obtain ⟨w2, hw2⟩ : ∃ x, x = (w.alloc (.cells #[.slice A n d] 40)).alloc (.cells #[.nilIface] 26) := ⟨_, rfl⟩
  have HW := Lib.hid hw2
  rw [← hw2] at C0
  have q0 := C0.out.m.cell
  have q1 := C0.out.r.cell
  have q2 := C0.out.r.frozen
  have PUT := Lib.hid (fun u => C0.out.put (Nat.le_succ _) (by omega) u)
  have CK := Lib.hid (BChk_any A m n d w2 (ha.keep C0.out.kp) hn)
  obtain ⟨ad, A0, d0, rfl, _, hc0, _, hr0⟩ := (ha.keep C0.out.kp) 0 (by omega)
  rw [add_zero', ← hq] at hc0
  have e0 : ((n : Int) == 0) = false := by rw [beq_eq_false_iff_ne]; omega
  have hn0 : (0 : Int) < n := by omega
  have e1 : ((q : Int) == 0) = false := by rw [beq_eq_false_iff_ne]; omega
  have e2 : ¬ (4 : Int) < n := by omega
  have e3 : ¬ (4 : Int) < q := by omega
  rw [q4_q5 (by omega) h4]
  rw [errOf_ne _ hq5] at CK ⊢
  generalize qcode 5 (-9) 9 m = z at *
  clear ha hn hq h1 h2 h3 h4 hw2 hr0 hq5
  go_enter Try.func26, Try.ntmps26
  go_upto_region 1 with (fail)
  rw [← HW.out]
  go_wp2_with fail
  refine (CK.out).mono ?_; rintro e w3 ⟨rfl, rfl⟩
  go_wp2_with fail
  have q3 := (PUT.out (.iface 51 (.int .i64 (z : Int)))).r.cell
  exact bodyPost_ret (v := .iface 51 (.int .i64 (z : Int))) (by simp [results, Try.results26, go_sem, q3]) rfl ⟨rfl, (PUT.out _).kp⟩

/-- What has been found at the places so far. -/
def SymAt (n : Nat) (x : Nat → Nat → Int) (pre : List Nat) : Prop := ∀ y, y ∈ pre → x (rowOf n n y) (colOf n y) = x (colOf n y) (rowOf n n y)
theorem SymAt.snoc {n : Nat} {x : Nat → Nat → Int} {pre : List Nat} (h : SymAt n x pre) (y : Nat) (hy : x (rowOf n n y) (colOf n y) = x (colOf n y) (rowOf n n y)) : SymAt n x (pre ++ [y]) := fun z hz => by
  rcases List.mem_append.1 hz with h1 | h1
  · exact h z h1
  · rw [List.mem_singleton.1 h1]; exact hy
theorem placeOf_row {n i j : Nat} (hi : i < n) (hj : j < n) : rowOf n n (i * n + j) = i ∧ colOf n (i * n + j) = j := by
  have hc : 0 < n := by omega
  constructor
  · unfold rowOf; rw [Nat.mul_comm, Nat.mul_add_div hc, Nat.div_eq_of_lt hj, Nat.add_zero, Nat.mod_eq_of_lt hi]
  · unfold colOf; rw [Nat.mul_comm, Nat.mul_add_mod, Nat.mod_eq_of_lt hj]
theorem SymAt.all {n : Nat} {x : Nat → Nat → Int} (h : SymAt n x (Zx.tris n n)) : Zx.Sym n x := by
  have up : ∀ i j, i ≤ j → j < n → x i j = x j i := fun i j hij hj => by
    have := h _ (Zx.tris_mem hij hj n (by omega))
    obtain ⟨e1, e2⟩ := placeOf_row (n := n) (i := i) (j := j) (by omega) hj
    rwa [e1, e2] at this
  intro i j hi hj
  by_cases e : i ≤ j
  · exact up i j e hj
  · exact (up j i (by omega) hi).symm

/-- What Check answers for a square matrix. -/
def GotChk (n : Nat) (x : Nat → Nat → Int) (w : World) (e : Ending) (w' : World) : Prop :=
  ((e = .returned .nilIface ∧ Zx.Sym n x) ∨ (e = .returned (.iface 51 (.int .i64 6)) ∧ ¬ Zx.Sym n x)) ∧ Kp w w'

set_option maxRecDepth 100000 in
set_option maxHeartbeats 3200000 in
theorem DChk_main (A : Option Addr) (m : List (List Int)) (x : Nat → Nat → Int) (n d : Nat) (w : World) (ha : LiesM w A m) (s : Shz n x m) (h4 : n ≤ 4) :
    Calls Try.prog 26 #[.slice A n d] w (GotChk n x w) := by
  have C0 := Lib.hid (CAt.first w A n d)
  have s2 : ((w.alloc (.cells #[.slice A n d] 40)).alloc (.cells #[.nilIface] 26)).heap.size = w.heap.size + 2 := by simp
  obtain ⟨w2, hw2⟩ : ∃ x, x = (w.alloc (.cells #[.slice A n d] 40)).alloc (.cells #[.nilIface] 26) := ⟨_, rfl⟩
  have HW := Lib.hid hw2
  rw [← hw2] at C0 s2
  have q0 := C0.out.m.cell
  have CK := Lib.hid (BChk_any A m n d w2 (ha.keep C0.out.kp) s.len)
  rw [s.code, errOf_zero] at CK
  have n0 := s.n0
  have ha' : LiesM w A (Mx.tab n n x) := by rw [← s.eq]; exact ha
  have HX := Lib.hid ha'
  obtain ⟨ad, A0, d0, rfl, _, hc0, _, l0⟩ := (ha'.keep C0.out.kp).row n0
  rw [add_zero'] at hc0
  have e0 : ((n : Int) == 0) = false := by rw [beq_eq_false_iff_ne]; omega
  have hn0 : (0 : Int) < n := by omega
  have e2 : ¬ (4 : Int) < n := by omega
  clear ha ha' s hw2 l0
  refine callsIn_wide.1 (callsIn_of_wp_marks (F := Fence.wide) (n := 9) Try.func26 rfl trivial ?_ rfl)
  simp only [Try.ntmps26, List.size_toArray, List.length_cons, List.length_nil, Nat.reduceAdd, Nat.reduceSub, Array.replicate_succ, Array.replicate_zero, List.push_toArray, List.append_toArray, List.nil_append, List.cons_append]
  refine wpIn_wide.2 ?_
  go_upto_region 1 with (fail)
  rw [← HW.out]
  go_wp2_with fail
  refine (CK.out).mono ?_; rintro e w3 ⟨rfl, rfl⟩
  go_wp2_with fail
  refine (dplaces_any n w2).mono ?_; rintro e w4 ⟨rfl, hw4⟩
  have k4 : Kp w2 w4 := by rw [hw4]; exact (Kp.rfl' w2).new _
  have n4 : w4.cell? ⟨w2.heap.size, 0, none⟩ = some (.int .i64 (n : Int)) := by rw [hw4]; simp
  have s4 : w4.heap.size = w.heap.size + 3 := by rw [hw4]; simp [s2]
  rw [s2] at n4 ⊢
  have C4 := Lib.hid (C0.out.keep k4)
  clear hw4 k4 hc0 q0
  go_wp2_with fail
  refine (wpIn_wide (n := 9)).1 (wpIn_rangeFunc_ownF (F := Fence.wide) rfl (Nat.le_add_left 1 8) (gf := 45) (lb := #[.pointer (some ⟨w.heap.size + 2, 0, none⟩)]) rfl trivial (enters_of Try.func45 (by kernel_rfl) rfl)
    (dplaces_stops 8 (Nat.le_add_left 1 7) (w.heap.size + 2) n (by omega) w4 (by omega) n4)
    keepN_t (fun W l o o' _ ho h1 _ => keepN_b W l o o' ho h1) (Below.refl _ _) (fun _ => rfl)
    (fun pre W => CAt w w.heap.size (w.heap.size + 1) (some ad) n d .nilIface W ∧ SymAt n x pre)
    (fun c pre W => CAt w w.heap.size (w.heap.size + 1) (some ad) n d (.iface 51 (.int .i64 6)) W ∧ (c = .ret ∧ ¬ Zx.Sym n x))
    (cat_own w _ _ _ n d _ _ (by omega) _)
    (fun c => cat_own w _ _ _ n d _ _ (by omega) _)
    ⟨C4.out, fun y hy => absurd hy (by simp)⟩
    ?a1 ?assign ?body ?done ?stop)
  case assign =>
    intro l x W K hK
    unfold placeOf
    gi_wp2
    exact hK
  case body =>
    rintro l pre y W ⟨hc, hs⟩ _
    have hi := rowOf_lt (c := n) y n0
    have hj := colOf_lt y n0
    have ST := Lib.hid (fun h => hs.snoc y h)
    generalize rowOf n n y = i at *
    generalize colOf n y = j at *
    have x0 := hc.m.cell
    have r1 := hc.r.cell
    have f1 := hc.r.frozen
    obtain ⟨ad', A1, d1, ea, _, x1, _, l1⟩ := (HX.out.keep hc.kp).row hi
    obtain rfl := Option.some.inj ea
    obtain ⟨ad1, rfl, _, x2⟩ := l1.el hj
    obtain ⟨ad', A2, d2, ea, _, x3, _, l2⟩ := (HX.out.keep hc.kp).row hj
    obtain rfl := Option.some.inj ea
    obtain ⟨ad2, rfl, _, x4⟩ := l2.el hi
    have CC := Lib.hid hc
    have NS := Lib.hid (fun (h : x i j ≠ x j i) => show ¬ Zx.Sym n x from fun h' => h (h' i j hi hj))
    clear hc hs l1 l2
    generalize x i j = u at *
    generalize x j i = v at *
    by_cases huv : u = v
    · have h1 : (u != v) = false := by simp [huv]
      have S2 := Lib.hid (ST.out huv)
      clear huv NS ST
      refine wpIn_block ?_
      gi_wp2
      refine region_tail 14 (by kernel_rfl) (by kernel_rfl) (by kernel_rfl) ?_
      simp only [List.take_succ_cons, List.take_zero, List.drop_succ_cons, List.drop_zero]
      repeat still_step
      refine wpStill_nil ?_
      go_wp2_with fail
      refine ⟨rfl, ?_⟩
      gi_wp2
      exact ⟨KeepsOthers.drew _, id, CC.out.keep ((Kp.rfl' _).drewN 1), S2.out⟩
    · have h1 : (u != v) = true := by rw [bne_iff_ne]; exact huv
      have S2 := Lib.hid (NS.out huv)
      clear huv NS ST
      refine wpIn_block ?_
      gi_wp2
      refine region_tail 14 (by kernel_rfl) (by kernel_rfl) (by kernel_rfl) ?_
      simp only [List.take_succ_cons, List.take_zero, List.drop_succ_cons, List.drop_zero]
      repeat still_step
      refine wpStill_nil ?_
      go_wp2_with fail
      refine ⟨rfl, ?_⟩
      gi_wp2
      refine ⟨(KeepsOthers.drew _).trans (KeepsOthers.setCell _ _ _), ?_, rfl, S2.out⟩
      exact (CC.out.keep ((Kp.rfl' _).drewN 1)).put (Nat.le_succ _) (by omega) _
  case done =>
    rintro D ys W hD rfl ⟨hc, hs⟩ hK
    have HS := Lib.hid hs.all
    have r1 := hc.r.cell
    have f1 := hc.r.frozen
    have t1 := boxed_same hc.r
    have CC := Lib.hid hc
    clear hc hs
    go_wp2_with fail
    refine ⟨by simp, .inl ⟨_, _, rfl, run_takeDeferred hK, ?_⟩⟩
    have r2 := (cat_own w w.heap.size (w.heap.size + 1) (some ad) n d .nilIface _ (Nat.le_refl _) (fun _ => True) [] W (W.putObj D (.deferred none)) (some D) ⟨CC.out, trivial⟩ (grownBy_putObj' _ _ _) (fun r e => by cases e; exact ⟨by omega, _, hK, rfl⟩)).1
    have q2 := r2.r.cell
    refine ⟨.nilIface, by simp [results, Try.results26, go_sem, q2], ?_⟩
    exact ⟨.inl ⟨rfl, HS.out⟩, r2.kp⟩
  case stop =>
    rintro D c pre W hD _ ⟨hc, rfl, hs⟩ hK
    have HS := Lib.hid hs
    have r1 := hc.r.cell
    have CC := Lib.hid hc
    clear hc hs
    gi_wp2
    refine ⟨by simp, .inl ⟨_, _, rfl, run_takeDeferred hK, ?_⟩⟩
    have r2 := (cat_own w w.heap.size (w.heap.size + 1) (some ad) n d _ _ (Nat.le_refl _) (fun _ => True) [] W (W.putObj D (.deferred none)) (some D) ⟨CC.out, trivial⟩ (grownBy_putObj' _ _ _) (fun r e => by cases e; exact ⟨by omega, _, hK, rfl⟩)).1
    have q2 := r2.r.cell
    refine ⟨_, by simp [results, Try.results26, go_sem, q2]; rfl, ?_⟩
    exact ⟨.inr ⟨rfl, HS.out⟩, r2.kp⟩

theorem DChk_ok (A : Option Addr) (m : List (List Int)) (x : Nat → Nat → Int) (n d : Nat) (w : World) (ha : LiesM w A m) (s : Sf n x m) :
    Calls Try.prog 26 #[.slice A n d] w fun e w' => e = .returned .nilIface ∧ Kp w w' := by
  refine (DChk_main A m x n d w ha s.shz s.n4).mono ?_
  rintro e w' ⟨⟨rfl, _⟩ | ⟨_, h⟩, hk⟩
  · exact ⟨rfl, hk⟩
  · exact absurd s.sym h
theorem DChk_bad (A : Option Addr) (m : List (List Int)) (n d z : Nat) (w : World) (ha : LiesM w A m) (hn : m.length = n) (h : Fb n m z) :
    Calls Try.prog 26 #[.slice A n d] w fun e w' => e = .returned (.iface 51 (.int .i64 (z : Int))) ∧ Kp w w' := by
  rcases h with ⟨h0, h1⟩ | ⟨rfl, x, s, h4, hs⟩
  · rw [← errOf_ne z h0, ← h1]
    by_cases c : n = 0 ∨ (m.getD 0 []).length = 0 ∨ 4 < n ∨ 4 < (m.getD 0 []).length
    · exact DChk_early A m n d w ha hn c
    · refine DChk_no A m n d w ha hn (by omega) (by omega) (by omega) (by omega) ?_
      rw [← q4_q5 (by omega) (by omega), h1]
      exact h0
  · refine (DChk_main A m x n d w ha s h4).mono ?_
    rintro e w' ⟨⟨_, h⟩ | ⟨rfl, _⟩, hk⟩
    · exact absurd h hs
    · exact ⟨rfl, hk⟩

end Go.Proofs.Ytlnehhhlpdaebaa
