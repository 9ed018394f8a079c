/- Contracts of lattice's small functions: allowed, cross, dot, square, nearest, shortened. -/
import Derived.Test.YtlnehhhlpdaebaaDoorLtM
import Derived.Test.YtlnehhhlpdaebaaDoorRowG
import Derived.LoopN
import Derived.Deep.RegionHeld3
import Derived.Deep.RegionLaw
import Derived.WalkSpells
import Derived.Deep.CutRange
import Derived.Deep.Cut
import Derived.Deep.DeepCutAuto
namespace Go.Proofs.YtlnehhhlpdaebaaDoor
open Go.ChangeShapes Go.WideShapes Go.ChangeAt Go.RowKit
open Lag (V nn ip ar cb)
set_option linter.unusedVariables false

/-- A place as a value. -/
def vv (u : V) : Value := .agg #[.int .i64 u.1, .int .i64 u.2]
/-- Both coordinates are small. -/
def Sid (u : V) : Prop := (-1500 ≤ u.1 ∧ u.1 ≤ 1500) ∧ (-1500 ≤ u.2 ∧ u.2 ≤ 1500)
def okc (n : Int) : Bool := decide (-1000 ≤ n) && decide (n ≤ 1000)
def okv (u : V) : Bool := okc u.1 && okc u.2
theorem okc_iff {n : Int} : okc n = true ↔ -1000 ≤ n ∧ n ≤ 1000 := by unfold okc; simp
theorem okv_iff {u : V} : okv u = true ↔ (-1000 ≤ u.1 ∧ u.1 ≤ 1000) ∧ (-1000 ≤ u.2 ∧ u.2 ≤ 1000) := by unfold okv; rw [Bool.and_eq_true, okc_iff, okc_iff]
theorem okv_sid {u : V} (h : okv u = true) : Sid u := by
  have := okv_iff.1 h
  unfold Sid; omega
theorem pr_small {x y : Int} (h1 : -1500 ≤ x ∧ x ≤ 1500) (h2 : -1500 ≤ y ∧ y ≤ 1500) : -2250000 ≤ x * y ∧ x * y ≤ 2250000 := Lag.prod_le 1500 1500 h1 h2
theorem okv_nn {u : V} (h : okv u = true) : nn u ≤ 2000000 := by
  obtain ⟨h1, h2⟩ := okv_iff.1 h
  have k1 := Lag.prod_le 1000 1000 h1 h1
  have k2 := Lag.prod_le 1000 1000 h2 h2
  unfold nn; omega
theorem nn_sid {u : V} (h : nn u ≤ 2000000) : Sid u := Lag.side (M := 0) h

/-- A box of a place. -/
structure VBox (B : Nat) (f : V) (w : World) : Prop where
  c1 : w.cell? ⟨B, 0, none⟩ = some (.int .i64 f.1)
  c2 : w.cell? ⟨B, 1, none⟩ = some (.int .i64 f.2)
  z1 : w.frozen? ⟨B, 0, none⟩ = false
  z2 : w.frozen? ⟨B, 1, none⟩ = false
theorem VBox.lt {w : World} {B : Nat} {f : V} (h : VBox B f w) : B < w.heap.size := cell_lt h.c1
theorem VBox.keep {w w' : World} {B : Nat} {f : V} (h : VBox B f w) (hk : Kp w w') : VBox B f w' :=
  ⟨(hk.cell (p := ⟨B, 0, none⟩) h.lt).trans h.c1, (hk.cell (p := ⟨B, 1, none⟩) h.lt).trans h.c2, (hk.frozen (p := ⟨B, 0, none⟩) h.lt).trans h.z1, (hk.frozen (p := ⟨B, 1, none⟩) h.lt).trans h.z2⟩
theorem VBox.made (w : World) (f : V) (T : TypeId) (B : Nat) (hB : B = w.heap.size) : VBox B f (w.alloc (.cells #[.int .i64 f.1, .int .i64 f.2] T)) := by
  subst hB
  exact ⟨by simp, by simp, by simp, by simp⟩
theorem VBox.put {w : World} {B : Nat} {f : V} (h : VBox B f w) (g : V) : VBox B g ((w.setCell ⟨B, 0, none⟩ (.int .i64 g.1)).setCell ⟨B, 1, none⟩ (.int .i64 g.2)) := by
  refine ⟨?_, World.cell?_setCell_same _ _ _ ((World.cell?_setCell_other _ _ _ _ (by simp)).trans h.c2), by simp [h.z1], by simp [h.z2]⟩
  rw [World.cell?_setCell_other _ _ _ _ (by simp), World.cell?_setCell_same _ _ _ h.c1]
theorem VBox.far {w : World} {B B' : Nat} {f : V} (h : VBox B f w) (hb : B ≠ B') (x y : Value) : VBox B f ((w.setCell ⟨B', 0, none⟩ x).setCell ⟨B', 1, none⟩ y) := by
  refine ⟨?_, ?_, by simp [h.z1], by simp [h.z2]⟩
  · rw [World.cell?_setCell_other _ _ _ _ (by simp <;> omega), World.cell?_setCell_other _ _ _ _ (by simp <;> omega)]; exact h.c1
  · rw [World.cell?_setCell_other _ _ _ _ (by simp <;> omega), World.cell?_setCell_other _ _ _ _ (by simp <;> omega)]; exact h.c2
/-- Two boxes, and what was there. -/
structure Two2 (w0 : World) (B C : Nat) (f g : V) (w : World) : Prop where
  b : VBox B f w
  c : VBox C g w
  kp : Kp w0 w
theorem Two2.keep {w0 w w' : World} {B C : Nat} {f g : V} (h : Two2 w0 B C f g w) (hk : Kp w w') : Two2 w0 B C f g w' := ⟨h.b.keep hk, h.c.keep hk, h.kp.trans hk⟩
/-- Their cells, and what a walk has kept. -/
abbrev Cells4 (W : World) (B C : Nat) (f g : V) (w : World) : Prop :=
  w.cell? ⟨B, 0, none⟩ = some (.int .i64 f.1) ∧ w.cell? ⟨B, 1, none⟩ = some (.int .i64 f.2) ∧ w.cell? ⟨C, 0, none⟩ = some (.int .i64 g.1) ∧ w.cell? ⟨C, 1, none⟩ = some (.int .i64 g.2) ∧ Kp W w
theorem cells4 {W w' : World} {B C : Nat} {f g : V} (h : VBox B f W) (k : VBox C g W) (hk : Kp W w') : Cells4 W B C f g w' := ⟨(h.keep hk).c1, (h.keep hk).c2, (k.keep hk).c1, (k.keep hk).c2, hk⟩

theorem small_any (n : Int) (w : World) : Calls Tryd.prog 24 #[.int .i64 n] w fun e w' => e = .returned (.bool (okc n)) ∧ w = w' := by
  have H := Lib.hid (show okc n = (decide (-1000 ≤ n) && decide (n ≤ 1000)) from rfl)
  generalize okc n = t at *
  by_cases h1 : -1000 ≤ n
  · by_cases h2 : n ≤ 1000
    · go_enter Tryd.func24, Tryd.ntmps24
      go_wp2
      go_ret
      exact ⟨ret_bool (by rw [H.out]; simp [h1, h2]), rfl⟩
    · go_enter Tryd.func24, Tryd.ntmps24
      go_wp2
      go_ret
      exact ⟨ret_bool (by rw [H.out]; simp [h1, h2]; try omega), rfl⟩
  · go_enter Tryd.func24, Tryd.ntmps24
    go_wp2
    go_ret
    exact ⟨ret_bool (by rw [H.out]; simp; omega), rfl⟩

theorem allowed_any (x y : Int) (w : World) : Calls Tryd.prog 16 #[.agg #[.int .i64 x, .int .i64 y]] w fun e w' => e = .returned (.bool (okv (x, y))) ∧ Kp w w' := by
  have S1 := Lib.hid (fun w => small_any x w)
  have S2 := Lib.hid (fun w => small_any y w)
  have E := Lib.hid (show okv (x, y) = (okc x && okc y) from rfl)
  generalize okv (x, y) = t at *
  generalize okc x = p at *
  generalize okc y = q at *
  have K := Lib.hid ((Kp.rfl' w).new (.cells #[.int .i64 x, .int .i64 y] 23))
  cases p
  · go_enter Tryd.func16, Tryd.ntmps16
    go_wp2_with fail
    refine (S1.out _).mono ?_; rintro e w1 ⟨rfl, rfl⟩
    go_wp2_with fail
    go_ret
    exact ⟨ret_bool (by rw [E.out]; simp), K.out⟩
  · go_enter Tryd.func16, Tryd.ntmps16
    go_wp2_with fail
    refine (S1.out _).mono ?_; rintro e w1 ⟨rfl, rfl⟩
    go_wp2_with fail
    refine (S2.out _).mono ?_; rintro e w2 ⟨rfl, rfl⟩
    go_wp2_with fail
    go_ret
    exact ⟨ret_bool (by rw [E.out]; simp), K.out⟩

theorem cross_any (x y z u : Int) (w : World) (h1 : Sid (x, y)) (h2 : Sid (z, u)) :
    Calls Tryd.prog 17 #[.agg #[.int .i64 x, .int .i64 y], .agg #[.int .i64 z, .int .i64 u]] w fun e w' => e = .returned (.int .i64 (ar (x, y) (z, u))) ∧ Kp w w' := by
  have K := Lib.hid (((Kp.rfl' w).new (.cells #[.int .i64 x, .int .i64 y] 23)).new (.cells #[.int .i64 z, .int .i64 u] 23))
  have p1 := pr_small h1.1 h2.2
  have p2 := pr_small h1.2 h2.1
  dsimp only at p1 p2
  have w1 : IntKind.i64.wrap (x * u) = x * u := IntWalk.i64_in _ (by omega)
  have w2 : IntKind.i64.wrap (y * z) = y * z := IntWalk.i64_in _ (by omega)
  have w3 : IntKind.i64.wrap (x * u - y * z) = x * u - y * z := IntWalk.i64_in _ (by omega)
  have E := Lib.hid (show x * u - y * z = ar (x, y) (z, u) from rfl)
  generalize ar (x, y) (z, u) = D at *
  clear h1 h2 p1 p2
  go_enter Tryd.func17, Tryd.ntmps17
  go_wp2_with fail
  go_ret
  exact ⟨ret_int E.out, K.out⟩

theorem dot_any (x y z u : Int) (w : World) (h1 : Sid (x, y)) (h2 : Sid (z, u)) :
    Calls Tryd.prog 26 #[.agg #[.int .i64 x, .int .i64 y], .agg #[.int .i64 z, .int .i64 u]] w fun e w' => e = .returned (.int .i64 (ip (x, y) (z, u))) ∧ Kp w w' := by
  have K := Lib.hid (((Kp.rfl' w).new (.cells #[.int .i64 x, .int .i64 y] 23)).new (.cells #[.int .i64 z, .int .i64 u] 23))
  have p1 := pr_small h1.1 h2.1
  have p2 := pr_small h1.2 h2.2
  dsimp only at p1 p2
  have w1 : IntKind.i64.wrap (x * z) = x * z := IntWalk.i64_in _ (by omega)
  have w2 : IntKind.i64.wrap (y * u) = y * u := IntWalk.i64_in _ (by omega)
  have w3 : IntKind.i64.wrap (x * z + y * u) = x * z + y * u := IntWalk.i64_in _ (by omega)
  have E := Lib.hid (show x * z + y * u = ip (x, y) (z, u) from rfl)
  generalize ip (x, y) (z, u) = D at *
  clear h1 h2 p1 p2
  go_enter Tryd.func26, Tryd.ntmps26
  go_wp2_with fail
  go_ret
  exact ⟨ret_int E.out, K.out⟩

theorem square_any (x y : Int) (w : World) (h : Sid (x, y)) :
    Calls Tryd.prog 20 #[.agg #[.int .i64 x, .int .i64 y]] w fun e w' => e = .returned (.int .i64 (nn (x, y))) ∧ Kp w w' := by
  have D1 := Lib.hid (fun w => dot_any x y x y w h h)
  have E : ip (x, y) (x, y) = nn (x, y) := rfl
  rw [E] at D1
  generalize nn (x, y) = D at *
  clear h E
  go_enter Tryd.func20, Tryd.ntmps20
  go_wp2_with fail
  refine (D1.out _).mono ?_; rintro e w1 ⟨rfl, k1⟩
  have K := Lib.hid (((Kp.rfl' w).new (.cells #[.int .i64 x, .int .i64 y] 23)).trans k1)
  clear k1
  go_wp2_with fail
  go_ret
  exact ⟨rfl, K.out⟩

theorem nearest_any (n d : Int) (w : World) (hd : 0 < d) (hn : -5000000 ≤ n ∧ n ≤ 5000000) (hd2 : d ≤ 5000000) :
    Calls Tryd.prog 25 #[.int .i64 n, .int .i64 d] w fun e w' => e = .returned (.int .i64 (Lag.nrst n d)) ∧ Kp w w' := by
  have h0 : (d == 0) = false := by rw [beq_eq_false_iff_ne]; omega
  have hr1 : n.tmod d < d := Int.tmod_lt_of_pos n hd
  have hr2 : -d < n.tmod d := by
    have := Int.tmod_lt_of_pos (-n) hd
    rw [Int.neg_tmod] at this; omega
  have hq : (n.tdiv d).natAbs ≤ n.natAbs := by rw [Int.natAbs_tdiv]; exact Nat.div_le_self _ _
  have E := Lib.hid (show Lag.nrst n d = if d < 2 * n.tmod d then n.tdiv d + 1 else if 2 * n.tmod d < -d then n.tdiv d - 1 else n.tdiv d from rfl)
  generalize Lag.nrst n d = T at *
  have hw : IntKind.i64.wrap (n.tdiv d) = n.tdiv d := IntWalk.i64_in _ (by omega)
  have hw1 : wrap64 (n.tdiv d) = n.tdiv d := wrap64_id (by omega)
  have hw2 : wrap64 (2 * n.tmod d) = 2 * n.tmod d := wrap64_id (by omega)
  have hw3 : wrap64 (n.tdiv d + 1) = n.tdiv d + 1 := wrap64_id (by omega)
  have hw4 : wrap64 (n.tdiv d - 1) = n.tdiv d - 1 := wrap64_id (by omega)
  have hw5 : wrap64 (-d) = -d := wrap64_id (by omega)
  clear hq
  by_cases c1 : d < 2 * n.tmod d
  · rw [if_pos c1] at E
    go_enter Tryd.func25, Tryd.ntmps25
    go_wp2_with fail
    go_ret
    exact ⟨ret_int (hw3.trans E.out.symm), Kp.rfl' w⟩
  · rw [if_neg c1] at E
    by_cases c2 : 2 * n.tmod d < -d
    · rw [if_pos c2] at E
      go_enter Tryd.func25, Tryd.ntmps25
      go_wp2_with fail
      go_ret
      exact ⟨ret_int E.out.symm, Kp.rfl' w⟩
    · rw [if_neg c2] at E
      go_enter Tryd.func25, Tryd.ntmps25
      go_wp2_with fail
      go_ret
      exact ⟨ret_int E.out.symm, Kp.rfl' w⟩

set_option maxHeartbeats 1600000 in
theorem shortened_any (x y z u : Int) (w : World) (h1 : nn (x, y) ≤ 2000000) (h2 : nn (z, u) ≤ 2000000) (h0 : 0 < nn (x, y)) :
    Calls Tryd.prog 19 #[.agg #[.int .i64 z, .int .i64 u], .agg #[.int .i64 x, .int .i64 y]] w fun e w' => e = .returned (vv (Lag.shrt (x, y) (z, u))) ∧ Kp w w' := by
  have s1 := nn_sid h1
  have s2 := nn_sid h2
  have D1 := Lib.hid (fun w' => dot_any z u x y w' s2 s1)
  have D2 := Lib.hid (fun w' => square_any x y w' s1)
  have p1 := pr_small s2.1 s1.1
  have p2 := pr_small s2.2 s1.2
  dsimp only at p1 p2
  have hip : -5000000 ≤ ip (z, u) (x, y) ∧ ip (z, u) (x, y) ≤ 5000000 := by unfold ip; dsimp only; omega
  have D3 := Lib.hid (fun w' => nearest_any (ip (z, u) (x, y)) (nn (x, y)) w' h0 hip (by omega))
  have tb := Lag.nrst_le (M := 5000000) h0 hip
  have E := Lib.hid (show vv (Lag.shrt (x, y) (z, u)) = .agg #[.int .i64 (z - Lag.nrst (ip (z, u) (x, y)) (nn (x, y)) * x), .int .i64 (u - Lag.nrst (ip (z, u) (x, y)) (nn (x, y)) * y)] from rfl)
  generalize vv (Lag.shrt (x, y) (z, u)) = R at *
  generalize Lag.nrst (ip (z, u) (x, y)) (nn (x, y)) = t at *
  generalize ip (z, u) (x, y) = D at *
  generalize nn (x, y) = Q at *
  have q1 := Lag.prod_le 10000000 1500 (x := t) (y := x) (by omega) (by have := s1.1; exact this)
  have q2 := Lag.prod_le 10000000 1500 (x := t) (y := y) (by omega) (by have := s1.2; exact this)
  unfold Sid at s1 s2
  dsimp only at s1 s2
  have v1 : IntKind.i64.wrap (t * x) = t * x := IntWalk.i64_in _ (by omega)
  have v2 : IntKind.i64.wrap (t * y) = t * y := IntWalk.i64_in _ (by omega)
  have v3 : IntKind.i64.wrap (z - t * x) = z - t * x := IntWalk.i64_in _ (by omega)
  have v4 : IntKind.i64.wrap (u - t * y) = u - t * y := IntWalk.i64_in _ (by omega)
  clear h1 h2 h0 s1 s2 p1 p2 hip tb q1 q2
  obtain ⟨W, hW⟩ : ∃ W, W = (((w.alloc (.cells #[.int .i64 z, .int .i64 u] 23)).alloc (.cells #[.int .i64 x, .int .i64 y] 23)).alloc (.cells #[.int .i64 0, .int .i64 0] 23)) := ⟨_, rfl⟩
  have B1 := Lib.hid (show VBox w.heap.size (z, u) W from by rw [hW]; exact ((VBox.made w (z, u) _ _ rfl).keep (((Kp.rfl' _).new _).new _)))
  have B2 := Lib.hid (show VBox (w.heap.size + 1) (x, y) W from by rw [hW]; exact ((VBox.made (w.alloc (.cells #[.int .i64 z, .int .i64 u] 23)) (x, y) 23 _ (by simp)).keep ((Kp.rfl' _).new _)))
  have B3 := Lib.hid (show VBox (w.heap.size + 2) (0, 0) W from by rw [hW]; exact (VBox.made ((w.alloc (.cells #[.int .i64 z, .int .i64 u] 23)).alloc (.cells #[.int .i64 x, .int .i64 y] 23)) (0, 0) 23 _ (by simp)))
  have KW := Lib.hid (show Kp w W from by rw [hW]; exact (((Kp.rfl' w).new _).new _).new _)
  have SK := Lib.hid (fun (w' : World) (h : Kp W w') => cells4 B1.out B2.out h)
  have kd : Kp W W.drew := (Kp.rfl' W).drewN 1
  have sz1 : w.heap.size ≤ w.heap.size + 2 := by omega
  subst hW
  go_enter Tryd.func19, Tryd.ntmps19
  go_upto_region 1 with (fail)
  go_cut [5] from 5 to 12 (fun p wc => p = .int .i64 t ∧ Kp (((w.alloc (.cells #[.int .i64 z, .int .i64 u] 23)).alloc (.cells #[.int .i64 x, .int .i64 y] 23)).alloc (.cells #[.int .i64 0, .int .i64 0] 23)) wc)
  case first =>
    go_region_held3 (fun w' => w'.cell? ⟨w.heap.size, 0, none⟩ = some (.int .i64 z) ∧ w'.cell? ⟨w.heap.size, 1, none⟩ = some (.int .i64 u) ∧ w'.cell? ⟨w.heap.size + 1, 0, none⟩ = some (.int .i64 x) ∧ w'.cell? ⟨w.heap.size + 1, 1, none⟩ = some (.int .i64 y) ∧ Kp (((w.alloc (.cells #[.int .i64 z, .int .i64 u] 23)).alloc (.cells #[.int .i64 x, .int .i64 y] 23)).alloc (.cells #[.int .i64 0, .int .i64 0] 23)) w')
      ((refine SK.out _ ?_; first | assumption | exact Kp.rfl' _))
      ((first
      | (go_at_call 26; (with_reducible refine (D1.out _).mono ?_); rintro e w1 ⟨rfl, k1⟩; have T1 : Kp (((w.alloc (.cells #[.int .i64 z, .int .i64 u] 23)).alloc (.cells #[.int .i64 x, .int .i64 y] 23)).alloc (.cells #[.int .i64 0, .int .i64 0] 23)) w1 := Kp.trans (by assumption) k1)
      | (go_at_call 20; (with_reducible refine (D2.out _).mono ?_); rintro e w2 ⟨rfl, k2⟩; have T2 : Kp (((w.alloc (.cells #[.int .i64 z, .int .i64 u] 23)).alloc (.cells #[.int .i64 x, .int .i64 y] 23)).alloc (.cells #[.int .i64 0, .int .i64 0] 23)) w2 := Kp.trans (by assumption) k2)
      | (go_at_call 25; (with_reducible refine (D3.out _).mono ?_); rintro e w3 ⟨rfl, k3⟩; have T3 : Kp (((w.alloc (.cells #[.int .i64 z, .int .i64 u] 23)).alloc (.cells #[.int .i64 x, .int .i64 y] 23)).alloc (.cells #[.int .i64 0, .int .i64 0] 23)) w3 := Kp.trans (by assumption) k3)))
    all_goals
      go_wp2_with fail
      go_meet
      case rel => exact ⟨rfl, T3⟩
  case rest =>
    obtain ⟨rfl, hk⟩ := hcut
    have x1 := (B1.out.keep hk).c1
    have x2 := (B1.out.keep hk).c2
    have x3 := (B2.out.keep hk).c1
    have x4 := (B2.out.keep hk).c2
    have x5 := (B3.out.keep hk).c1
    have x6 := (B3.out.keep hk).c2
    have x7 := (B3.out.keep hk).z1
    have x8 := (B3.out.keep hk).z2
    have HF := Lib.hid ((B3.out.keep hk).put (z - t * x, u - t * y))
    have HK := Lib.hid (((KW.out.trans hk).put (p := ⟨w.heap.size + 2, 0, none⟩) sz1 (.int .i64 (z - t * x))).put (p := ⟨w.heap.size + 2, 1, none⟩) sz1 (.int .i64 (u - t * y)))
    clear hk
    go_wp2_with fail
    have h1 := HF.out.c1
    have h2 := HF.out.c2
    refine bodyPost_ret (v := .agg #[.int .i64 (z - t * x), .int .i64 (u - t * y)]) (by simp [results, Tryd.results19, go_sem, h1, h2]) rfl ⟨by rw [E.out], HK.out⟩
end Go.Proofs.YtlnehhhlpdaebaaDoor
