/- Contract of package inv's Of. -/
import Derived.Test.YtofdhdnffkhojaaDoorInC1
import Derived.Test.YtofdhdnffkhojaaDoorMiC2
import Derived.Test.YtofdhdnffkhojaaDoorMatI
import Derived.Test.YtofdhdnffkhojaaDoorFld
namespace Go.Proofs.YtofdhdnffkhojaaDoor
open Go.ChangeShapes Go.WideShapes Go.ChangeAt Go.RowKit Go.Shelf
set_option linter.unusedVariables false
attribute [local go_sem] Oper.semAt_some

/-- A matrix whose places are turned one behind the other, by op. -/
def turns (n : Nat) (op : Nat → Nat → Fp.F → Fp.F) (f : Nat → Nat → Fp.F) (l : List Nat) : Nat → Nat → Fp.F :=
  l.foldl (fun h k => fun a b => if a = rowOf n n k ∧ b = colOf n k then op a b (h a b) else h a b) f
theorem turns_snoc (n : Nat) (op : Nat → Nat → Fp.F → Fp.F) (f : Nat → Nat → Fp.F) (l : List Nat) (k a b : Nat) :
    turns n op f (l ++ [k]) a b = if a = rowOf n n k ∧ b = colOf n k then op a b (turns n op f l a b) else turns n op f l a b := by
  unfold turns
  rw [List.foldl_append]
  rfl
theorem turns_range (n : Nat) (op : Nat → Nat → Fp.F → Fp.F) (f : Nat → Nat → Fp.F) (a b : Nat) (hb : b < n) : ∀ m, m ≤ n * n → turns n op f (List.range m) a b = if a * n + b < m then op a b (f a b) else f a b
  | 0, _ => by rw [if_neg (Nat.not_lt_zero _)]; rfl
  | m + 1, hm => by
    have ih := turns_range n op f a b hb m (by omega)
    have hp := Mx.place (k := m) (a := a) hm hb
    rw [List.range_succ, turns_snoc, ih]
    unfold rowOf colOf
    by_cases h : a * n + b = m
    · rw [if_pos (hp.2 h.symm), if_neg (by omega), if_pos (by omega)]
    · rw [if_neg (fun h' => h (hp.1 h').symm)]
      by_cases h2 : a * n + b < m
      · rw [if_pos h2, if_pos (by omega)]
      · rw [if_neg h2, if_neg (by omega)]
theorem turns_all (n : Nat) (op : Nat → Nat → Fp.F → Fp.F) (f : Nat → Nat → Fp.F) : Mx.Eqm n n (turns n op f (List.range (n * n))) (fun a b => op a b (f a b)) := fun a b ha hb => by
  rw [turns_range n op f a b hb _ (Nat.le_refl _), if_pos (Mx.place_lt ha hb)]

set_option maxRecDepth 100000 in
set_option maxHeartbeats 1600000 in
theorem IOf_bad (A : Option Addr) (m : List (List Int)) (n d : Nat) (w : World) (ha : LiesM w A m) (hn : m.length = n) (h : qcode 5 0 9972 m ≠ 0) :
    Calls Tryd.prog 11 #[.slice A n d] w fun e w' => e = .returned (.tuple #[.slice none 0 0, errOf (qcode 5 0 9972 m)]) ∧ Kp w w' := by
  have CK := Lib.hid (Of_bad A m n d w ha hn h)
  rw [errOf_ne _ h] at CK ⊢
  generalize qcode 5 0 9972 m = z at *
  clear ha hn h
  go_enter Tryd.func11, Tryd.ntmps11
  go_wp2_with fail
  refine (CK.out).mono ?_; rintro e w' ⟨rfl, hk⟩
  have HK := Lib.hid hk
  clear hk
  go_wp2_with fail
  go_ret2
  exact ⟨rfl, HK.out⟩

set_option maxRecDepth 100000 in
set_option maxHeartbeats 1600000 in
theorem IOf_none (A : Option Addr) (f : Nat → Nat → Fp.F) (n d : Nat) (w : World) (ha : LiesM w A (Mx.matl n n f)) (h0 : 0 < n) (hn : n ≤ 5) (hd : Mx.dt n f = 0) :
    Calls Tryd.prog 11 #[.slice A n d] w fun e w' => e = .returned (.tuple #[.slice none 0 0, errOf 5]) ∧ Kp w w' := by
  have CK := Lib.hid (Of_ok A f n d w ha h0 hn)
  rw [hd, show (((0 : Fp.F).val : Nat) : Int) = 0 from rfl] at CK
  have DV := Lib.hid (fun w => div_zero 1 w)
  clear ha h0 hn hd
  go_enter Tryd.func11, Tryd.ntmps11
  go_wp2_with fail
  refine (CK.out).mono ?_; rintro e w1 ⟨rfl, hk⟩
  have HK := Lib.hid hk
  clear hk
  go_wp2_with fail
  refine (DV.out _).mono ?_; rintro e w2 ⟨rfl, rfl⟩
  have HK2 := Lib.hid (HK.out.new (.cells #[.int .i64 0] 3))
  go_wp2_with fail
  go_ret2
  exact ⟨rfl, HK2.out⟩

set_option maxRecDepth 100000 in
set_option maxHeartbeats 1600000 in
theorem IOf_ok (A : Option Addr) (f : Nat → Nat → Fp.F) (n p d : Nat) (w : World) (ha : LiesM w A (Mx.matl n n f)) (hn : n = p + 1) (hp : p ≤ 4) (hd : Mx.dt n f ≠ 0) :
    Calls Tryd.prog 11 #[.slice A n d] w fun e w' => ∃ g, e = .returned (.tuple #[.slice (some ⟨g, 0, none⟩) n n, .nilIface]) ∧ LiesM w' (some ⟨g, 0, none⟩) (Mx.matl n n (Mx.invm p f)) ∧ Kp w w' := by
  have CK := Lib.hid (Of_ok A f n d w ha (by omega) (by omega))
  have DV := Lib.hid (fun w => div_el 1 (Mx.dt n f) w hd)
  have HA := Lib.hid ha
  have AD := Lib.hid (fun w (h : LiesM w A (Mx.matl n n f)) => MAdj_grid A f n p d w h hn hp)
  obtain ⟨x, hx⟩ : ∃ x, x = (1 : Fp.F) * Fp.inv (Mx.dt n f) := ⟨_, rfl⟩
  rw [← hx] at DV
  have HX := Lib.hid (show ∀ a b, Mx.adj p f a b * x = Mx.invm p f a b from fun a b => by rw [hx, hn]; show _ = Fp.inv (Mx.dt (p + 1) f) * Mx.adj p f a b; grind)
  have hn0 : 0 < n := by omega
  have hn5 : n ≤ 5 := by omega
  generalize Mx.dt n f = dd at *
  clear ha hn hp hd hx
  refine callsIn_wide.1 (callsIn_of_wp_marks (F := Fence.wide) (n := 9) Tryd.func11 rfl trivial ?_ rfl)
  simp only [Tryd.ntmps11, List.size_toArray, List.length_cons, List.length_nil, Nat.reduceAdd, Nat.reduceSub, Array.replicate_succ, Array.replicate_zero, List.push_toArray, List.append_toArray, List.nil_append, List.cons_append]
  refine wpIn_wide.2 ?_
  go_wp2_with fail
  refine (CK.out).mono ?_; rintro e w1 ⟨rfl, hk⟩
  have K1 := Lib.hid hk
  clear hk
  go_wp2_with fail
  refine (DV.out _).mono ?_; rintro e w2 ⟨rfl, hk⟩
  have K2 := Lib.hid (K1.out.trans hk.kp)
  clear hk
  go_wp2_with fail
  obtain ⟨w3, hw3⟩ : ∃ y, y = w2.alloc (.cells #[.int .i64 (x.val : Int)] 3) := ⟨_, rfl⟩
  have k3 : Kp w2 w3 := by rw [hw3]; exact (Kp.rfl' w2).new _
  have c3 : w3.cell? ⟨w2.heap.size, 0, none⟩ = some (.int .i64 (x.val : Int)) := by rw [hw3]; simp
  rw [← hw3]
  have s3 : w2.heap.size < w3.heap.size := by rw [hw3]; simp
  clear hw3
  refine (AD.out _ (HA.out.keep (K2.out.trans k3))).mono ?_; rintro e w4 ⟨g, G, rfl, gr4, sg4, k4⟩
  have c4 := (k4.cell (p := ⟨w2.heap.size, 0, none⟩) s3).trans c3
  have GR4 := Lib.hid gr4
  have K4 := Lib.hid ((K2.out.trans k3).trans k4)
  have hsw := K2.out.size
  have HGL := Lib.hid (show ∀ i, i < n → g < G i ∧ G i < w4.heap.size from fun i hi => ⟨gr4.after i hi, (gr4.row i hi).lt⟩)
  have s4 : w2.heap.size < w4.heap.size := Nat.lt_of_lt_of_le s3 k4.size
  clear gr4 k3 k4 c3
  go_wp2_with fail
  obtain ⟨w5, hw5⟩ : ∃ y, y = w4.alloc (.cells #[.slice (some ⟨g, 0, none⟩) n n] 22) := ⟨_, rfl⟩
  have k5 : Kp w4 w5 := by rw [hw5]; exact (Kp.rfl' w4).new _
  have b5 : w5.cell? ⟨w4.heap.size, 0, none⟩ = some (.slice (some ⟨g, 0, none⟩) n n) := by rw [hw5]; simp
  have s5 : w5.heap.size = w4.heap.size + 1 := by rw [hw5]; simp
  rw [← hw5]
  clear hw5
  refine (iplaces_any n w5).mono ?_; rintro e w6 ⟨rfl, hw6⟩
  have k6 : Kp w5 w6 := by rw [hw6]; exact (Kp.rfl' w5).new _
  have n6 : w6.cell? ⟨w5.heap.size, 0, none⟩ = some (.int .i64 (n : Int)) := by rw [hw6]; simp
  have s6 : w6.heap.size = w4.heap.size + 2 := by rw [hw6]; simp [s5]
  rw [s5] at n6 ⊢
  have b6 := (k6.cell (p := ⟨w4.heap.size, 0, none⟩) (by show w4.heap.size < _; omega)).trans b5
  have c6 := ((k5.trans k6).cell (p := ⟨w2.heap.size, 0, none⟩) s4).trans c4
  have GR6 := Lib.hid (GR4.out.keep (k5.trans k6))
  have K6 := Lib.hid ((K4.out.trans k5).trans k6)
  clear hw6 k5 k6 b5 c4 s5
  go_wp2_with fail
  refine (wpIn_wide (n := 9)).1 (wpIn_rangeFunc_ownF (F := Fence.wide) rfl (Nat.le_add_left 1 8) (gf := 56) (lb := #[.pointer (some ⟨w4.heap.size + 1, 0, none⟩)]) rfl trivial (enters_of Tryd.func56 (by kernel_rfl) rfl)
    (iplaces_stops 8 (Nat.le_add_left 1 7) (w4.heap.size + 1) n (by omega) w6 (by omega) n6)
    keepN_t (fun W l o o' _ ho h1 _ => keepN_b W l o o' ho h1) (Below.refl _ _) (fun _ => rfl)
    (fun pre W => (W.cell? ⟨w4.heap.size, 0, none⟩ = some (.slice (some ⟨g, 0, none⟩) n n) ∧ W.cell? ⟨w2.heap.size, 0, none⟩ = some (.int .i64 (x.val : Int)) ∧ Grid W g G n n (fun a b => ((turns n (fun _ _ y => y * x) (Mx.adj p f) pre a b).val : Int))) ∧ Below w.heap.size w W)
    (fun _ _ _ => False)
    (OwnFrom.and (Go.Own.from (fun s W1 W2 row hs hg hr => ⟨cell_kept hs.1 hg hr, cell_kept hs.2.1 hg hr, hs.2.2.kept hg hr⟩) _) (ownFrom_below (Nat.le_refl _) (by have := K6.out.size; omega)))
    (fun _ _ _ _ _ hs _ _ => hs)
    ⟨⟨b6, c6, GR6.out.ext (fun a b _ _ => rfl)⟩, K6.out⟩
    ?a1 ?assign ?body ?done ?stop)
  case assign =>
    intro l x W K hK
    unfold placeOf
    gi_wp2
    exact hK
  case body =>
    rintro l pre y W ⟨⟨q1, q2, q3⟩, q4⟩ _
    have hst := fun a b => turns_snoc n (fun _ _ y => y * x) (Mx.adj p f) pre y a b
    have hi := rowOf_lt (c := n) y hn0
    have hj := colOf_lt y hn0
    generalize rowOf n n y = i at *
    generalize colOf n y = j at *
    have x1 := q3.cell hi
    have x2 := q3.el hi hj
    have x3 := q3.free hi j
    have hn1 : w4.heap.size ≠ G i := q3.ne hn0 hi q1
    have hgl := HGL.out i hi
    have hn2 : w2.heap.size ≠ G i := by omega
    have hn3 : (w4.heap.size + 1) ≠ G i := by omega
    have hp : w.heap.size ≤ G i := by omega
    obtain ⟨u, hu⟩ : ∃ u, u = turns n (fun _ _ y => y * x) (Mx.adj p f) pre i j := ⟨_, rfl⟩
    rw [← hu] at x2
    have hmod := times_mod u x
    have hbd := times_bound u x
    obtain ⟨z, hz⟩ : ∃ z, z = ((u * x).val : Int) := ⟨_, rfl⟩
    rw [← hz] at hmod
    have HZ := Lib.hid hz
    have HU := Lib.hid hu
    generalize (u.val : Int) = u0 at *
    generalize (x.val : Int) = u1 at *
    have hwm : IntKind.i64.wrap (u0 * u1) = u0 * u1 := IntWalk.i64_in _ (by omega)
    have Q1 := Lib.hid q1
    have Q3 := Lib.hid q3
    have Q4 := Lib.hid q4
    have HST := Lib.hid hst
    clear q3 q4 hst hz hu hbd
    refine wpIn_block ?_
    refine region_tail 16 (by kernel_rfl) (by kernel_rfl) (by kernel_rfl) ?_
    simp only [List.take_succ_cons, List.take_zero, List.drop_succ_cons, List.drop_zero]
    repeat still_step
    refine wpStill_nil ?_
    go_wp2_with fail
    refine ⟨rfl, ?_⟩
    refine ⟨(KeepsOthers.setCell _ _ _).trans (KeepsOthers.drew _), keepN_t (keepN_set W ⟨G i, j, none⟩ _ hn3.symm) id, ⟨?_, ?_, ?_⟩, ((Q4.out).setCell (p := ⟨G i, j, none⟩) hp _).drew⟩
    · exact (World.cell?_setCell_far W ⟨G i, j, none⟩ ⟨w4.heap.size, 0, none⟩ _ (fun e => hn1 e.symm)).trans Q1.out
    · exact (World.cell?_setCell_far W ⟨G i, j, none⟩ ⟨w2.heap.size, 0, none⟩ _ (fun e => hn2 e.symm)).trans q2
    · refine ((Q3.out.put hi j _).keep ((Kp.rfl' _).drewN 1)).ext fun a b _ _ => ?_
      rw [HST.out a b]
      by_cases e : a = i ∧ b = j
      · rw [if_pos e, if_pos e, HZ.out, e.1, e.2, HU.out]
      · rw [if_neg e, if_neg e]
  case done =>
    rintro D ys W hD rfl ⟨⟨q1, q2, q3⟩, q4⟩ hK
    have Q3 := Lib.hid q3
    have Q4 := Lib.hid q4
    clear q3 q4
    go_wp2_with fail
    refine ⟨by simp, .inl ⟨_, _, rfl, run_takeDeferred hK, ?_⟩⟩
    refine ⟨.tuple #[.slice (some ⟨g, 0, none⟩) n n, .nilIface], by simp [results, Tryd.results11, go_sem], ?_⟩
    have hg2 := Q3.out.kept (grownBy_putObj' W D (.deferred none)) (fun r e => by cases e; exact ⟨_, hK, rfl⟩)
    have hl2 := hg2.lies
    refine ⟨g, rfl, ?_, Q4.out.trans (belowK_b (w := w) (Nat.le_refl _) W D _ _ (by have := K6.out.size; omega) hK rfl rfl)⟩
    rw [← Mx.matl_ext (fun a b ha hb => (turns_all n (fun _ _ y => y * x) (Mx.adj p f) a b ha hb).trans (HX.out a b))]; exact hl2
  case stop =>
    rintro D c pre W _ _ h _
    exact h.elim

end Go.Proofs.YtofdhdnffkhojaaDoor
