/- Contracts of lattice's Check, Short, Area, Has. -/
import Derived.Test.YtlnehhhlpdaebaaLtC1
import Derived.Deep.LoopGhost
namespace Go.Proofs.Ytlnehhhlpdaebaa
open Go.ChangeShapes Go.WideShapes Go.ChangeAt Go.RowKit
open Lag (V nn ip ar cb)
set_option linter.unusedVariables false

/-- What is wrong with two places. -/
def lcd (u v : V) : Nat := if (okv u && okv v) = true then (if ar u v = 0 then 6 else 0) else 1
/-- Two good places. -/
structure Lt (u v : V) : Prop where
  one : okv u = true
  two : okv v = true
  ne : ar u v ≠ 0
theorem Lt.lcd {u v : V} (h : Lt u v) : lcd u v = 0 := by unfold Go.Proofs.Ytlnehhhlpdaebaa.lcd; rw [h.one, h.two]; exact (if_pos rfl).trans (if_neg h.ne)
theorem lt_or (u v : V) : Lt u v ∨ lcd u v ≠ 0 := by
  by_cases h : (okv u && okv v) = true
  · by_cases h2 : ar u v = 0
    · right; unfold lcd; rw [if_pos h, if_pos h2]; decide
    · left; rw [Bool.and_eq_true] at h; exact ⟨h.1, h.2, h2⟩
  · right; unfold lcd; rw [if_neg h]; decide
theorem lcd_le (u v : V) : lcd u v ≤ 100 := by unfold lcd; split <;> (try split) <;> omega
theorem Lt.way {u v : V} (h : Lt u v) : Lag.Way u v u v := Lag.Way.start (okv_nn h.one) (okv_nn h.two)

set_option maxHeartbeats 1600000 in
theorem LChk_any (x y z t : Int) (w : World) :
    Calls Try.prog 20 #[.agg #[.int .i64 x, .int .i64 y], .agg #[.int .i64 z, .int .i64 t]] w fun e w' => e = .returned (errOf (lcd (x, y) (z, t))) ∧ Kp w w' := by
  have A1 := Lib.hid (fun w => allowed_any x y w)
  have A2 := Lib.hid (fun w => allowed_any z t w)
  have K0 := Lib.hid (((Kp.rfl' w).new (.cells #[.int .i64 x, .int .i64 y] 23)).new (.cells #[.int .i64 z, .int .i64 t] 23))
  have B1 := Lib.hid ((VBox.made w (x, y) 23 _ rfl).keep ((Kp.rfl' _).new (.cells #[.int .i64 z, .int .i64 t] 23)))
  have B2 := Lib.hid (VBox.made (w.alloc (.cells #[.int .i64 x, .int .i64 y] 23)) (z, t) 23 (w.heap.size + 1) (by simp))
  cases h1 : okv (x, y)
  · rw [show lcd (x, y) (z, t) = 1 by unfold lcd; rw [h1]; rfl, errOf_ne 1 (by decide)]
    rw [h1] at A1
    clear h1
    go_enter Try.func20, Try.ntmps20
    go_wp2_with fail
    refine (A1.out _).mono ?_; rintro e w1 ⟨rfl, k1⟩
    have K1 := Lib.hid (K0.out.trans k1)
    clear k1
    go_wp2_with fail
    go_ret
    exact ⟨rfl, K1.out⟩
  · have s1 := okv_sid h1
    cases h2 : okv (z, t)
    · rw [show lcd (x, y) (z, t) = 1 by unfold lcd; rw [h1, h2]; rfl, errOf_ne 1 (by decide)]
      rw [h1] at A1
      rw [h2] at A2
      clear h1 h2 s1
      go_enter Try.func20, Try.ntmps20
      go_wp2_with fail
      refine (A1.out _).mono ?_; rintro e w1 ⟨rfl, k1⟩
      have K1 := Lib.hid (K0.out.trans k1)
      have x1 := (B2.out.keep k1).c1
      have x2 := (B2.out.keep k1).c2
      clear k1
      go_wp2_with fail
      refine (A2.out _).mono ?_; rintro e w2 ⟨rfl, k2⟩
      have K2 := Lib.hid (K1.out.trans k2)
      clear k2
      go_wp2_with fail
      go_ret
      exact ⟨rfl, K2.out⟩
    · have C1 := Lib.hid (fun w => cross_any x y z t w s1 (okv_sid h2))
      have E := show lcd (x, y) (z, t) = if ar (x, y) (z, t) = 0 then 6 else 0 by unfold lcd; rw [h1, h2]; exact if_pos rfl
      rw [h1] at A1
      rw [h2] at A2
      by_cases h3 : ar (x, y) (z, t) = 0
      · rw [E, if_pos h3, errOf_ne 6 (by decide)]
        rw [h3] at C1
        clear h1 h2 h3 s1 E
        go_enter Try.func20, Try.ntmps20
        go_wp2_with fail
        refine (A1.out _).mono ?_; rintro e w1 ⟨rfl, k1⟩
        have K1 := Lib.hid (K0.out.trans k1)
        have x1 := (B2.out.keep k1).c1
        have x2 := (B2.out.keep k1).c2
        have Q1 := Lib.hid k1
        clear k1
        go_wp2_with fail
        refine (A2.out _).mono ?_; rintro e w2 ⟨rfl, k2⟩
        have K2 := Lib.hid (K1.out.trans k2)
        have y1 := (B1.out.keep (Q1.out.trans k2)).c1
        have y2 := (B1.out.keep (Q1.out.trans k2)).c2
        have y3 := (B2.out.keep (Q1.out.trans k2)).c1
        have y4 := (B2.out.keep (Q1.out.trans k2)).c2
        clear k2
        go_wp2_with fail
        refine (C1.out _).mono ?_; rintro e w3 ⟨rfl, k3⟩
        have K3 := Lib.hid (K2.out.trans k3)
        clear k3
        go_wp2_with fail
        go_ret
        exact ⟨rfl, K3.out⟩
      · rw [E, if_neg h3, errOf_zero]
        have e0 : (ar (x, y) (z, t) == 0) = false := by rw [beq_eq_false_iff_ne]; exact h3
        generalize ar (x, y) (z, t) = D at *
        clear h1 h2 h3 s1 E
        go_enter Try.func20, Try.ntmps20
        go_wp2_with fail
        refine (A1.out _).mono ?_; rintro e w1 ⟨rfl, k1⟩
        have K1 := Lib.hid (K0.out.trans k1)
        have x1 := (B2.out.keep k1).c1
        have x2 := (B2.out.keep k1).c2
        have Q1 := Lib.hid k1
        clear k1
        go_wp2_with fail
        refine (A2.out _).mono ?_; rintro e w2 ⟨rfl, k2⟩
        have K2 := Lib.hid (K1.out.trans k2)
        have y1 := (B1.out.keep (Q1.out.trans k2)).c1
        have y2 := (B1.out.keep (Q1.out.trans k2)).c2
        have y3 := (B2.out.keep (Q1.out.trans k2)).c1
        have y4 := (B2.out.keep (Q1.out.trans k2)).c2
        clear k2
        go_wp2_with fail
        refine (C1.out _).mono ?_; rintro e w3 ⟨rfl, k3⟩
        have K3 := Lib.hid (K2.out.trans k3)
        clear k3
        go_wp2_with fail
        go_ret
        exact ⟨rfl, K3.out⟩

theorem Area_no (x y z t : Int) (w : World) (h : lcd (x, y) (z, t) ≠ 0) :
    Calls Try.prog 11 #[.agg #[.int .i64 x, .int .i64 y], .agg #[.int .i64 z, .int .i64 t]] w fun e w' => e = .returned (.tuple #[.int .i64 0, errOf (lcd (x, y) (z, t))]) ∧ Kp w w' := by
  have C := Lib.hid (fun w => LChk_any x y z t w)
  rw [errOf_ne _ h] at C ⊢
  have K0 := Lib.hid (((Kp.rfl' w).new (.cells #[.int .i64 x, .int .i64 y] 23)).new (.cells #[.int .i64 z, .int .i64 t] 23))
  generalize lcd (x, y) (z, t) = c at *
  clear h
  go_enter Try.func11, Try.ntmps11
  go_wp2_with fail
  refine (C.out _).mono ?_; rintro e w1 ⟨rfl, k1⟩
  have K1 := Lib.hid (K0.out.trans k1)
  clear k1
  go_wp2_with fail
  go_ret2
  exact ⟨rfl, K1.out⟩

theorem Area_ok (x y z t : Int) (w : World) (h : Lt (x, y) (z, t)) :
    Calls Try.prog 11 #[.agg #[.int .i64 x, .int .i64 y], .agg #[.int .i64 z, .int .i64 t]] w fun e w' => e = .returned (.tuple #[.int .i64 ((ar (x, y) (z, t)).natAbs : Int), .nilIface]) ∧ Kp w w' := by
  have C := Lib.hid (fun w => LChk_any x y z t w)
  rw [h.lcd, errOf_zero] at C
  have s1 := okv_sid h.one
  have s2 := okv_sid h.two
  have C1 := Lib.hid (fun w => cross_any x y z t w s1 s2)
  have bd : -4500000 ≤ ar (x, y) (z, t) ∧ ar (x, y) (z, t) ≤ 4500000 := by
    have p1 := pr_small s1.1 s2.2
    have p2 := pr_small s1.2 s2.1
    unfold ar; omega
  have K0 := Lib.hid (((Kp.rfl' w).new (.cells #[.int .i64 x, .int .i64 y] 23)).new (.cells #[.int .i64 z, .int .i64 t] 23))
  have B1 := Lib.hid ((VBox.made w (x, y) 23 _ rfl).keep ((Kp.rfl' _).new (.cells #[.int .i64 z, .int .i64 t] 23)))
  have B2 := Lib.hid (VBox.made (w.alloc (.cells #[.int .i64 x, .int .i64 y] 23)) (z, t) 23 (w.heap.size + 1) (by simp))
  generalize ar (x, y) (z, t) = D at *
  have HN := Lib.hid (show (0 ≤ D → (D.natAbs : Int) = D) ∧ (¬ 0 ≤ D → (D.natAbs : Int) = -D) by omega)
  generalize (D.natAbs : Int) = n at *
  have hw : IntKind.i64.wrap (-D) = -D := IntWalk.i64_in _ (by omega)
  clear h s1 s2
  go_enter Try.func11, Try.ntmps11
  go_wp2_with fail
  refine (C.out _).mono ?_; rintro e w1 ⟨rfl, k1⟩
  have K1 := Lib.hid (K0.out.trans k1)
  have y1 := (B1.out.keep k1).c1
  have y2 := (B1.out.keep k1).c2
  have y3 := (B2.out.keep k1).c1
  have y4 := (B2.out.keep k1).c2
  clear k1
  go_wp2_with fail
  refine (C1.out _).mono ?_; rintro e w2 ⟨rfl, k2⟩
  have K2 := Lib.hid (K1.out.trans k2)
  clear k2
  by_cases hs : 0 ≤ D
  · go_wp2_with fail
    all_goals first | (exfalso; omega) | (go_ret2; exact ⟨by (have e := HN.out.1 hs); subst e; rfl, K2.out⟩)
  · go_wp2_with fail
    all_goals first | (exfalso; omega) | (go_ret2; exact ⟨by (have e := HN.out.2 (by omega)); subst e; rfl, K2.out⟩)

/-- What Has says of a place. -/
def hasB (u v p : V) : Bool := ((ar p v).tmod ((ar u v).natAbs : Int) == 0) && ((ar u p).tmod ((ar u v).natAbs : Int) == 0)
theorem hasB_iff {u v : V} (h : ar u v ≠ 0) (p : V) : hasB u v p = true ↔ Lag.Sum u v p := by
  unfold hasB
  rw [Bool.and_eq_true, beq_iff_eq, beq_iff_eq]
  exact (Lag.sum_abs h (by omega) p).symm
theorem LHas_no (x y z t p q : Int) (w : World) (h : lcd (x, y) (z, t) ≠ 0) :
    Calls Try.prog 13 #[.agg #[.int .i64 x, .int .i64 y], .agg #[.int .i64 z, .int .i64 t], .agg #[.int .i64 p, .int .i64 q]] w fun e w' => e = .returned (.tuple #[.bool false, errOf (lcd (x, y) (z, t))]) ∧ Kp w w' := by
  have C := Lib.hid (fun w => Area_no x y z t w h)
  rw [errOf_ne _ h] at C ⊢
  have K0 := Lib.hid ((((Kp.rfl' w).new (.cells #[.int .i64 x, .int .i64 y] 23)).new (.cells #[.int .i64 z, .int .i64 t] 23)).new (.cells #[.int .i64 p, .int .i64 q] 23))
  generalize lcd (x, y) (z, t) = c at *
  clear h
  go_enter Try.func13, Try.ntmps13
  go_wp2_with fail
  refine (C.out _).mono ?_; rintro e w1 ⟨rfl, k1⟩
  have K1 := Lib.hid (K0.out.trans k1)
  clear k1
  go_wp2_with fail
  go_ret2
  exact ⟨rfl, K1.out⟩

theorem LHas_out (x y z t p q : Int) (w : World) (h : Lt (x, y) (z, t)) (hp : okv (p, q) = false) :
    Calls Try.prog 13 #[.agg #[.int .i64 x, .int .i64 y], .agg #[.int .i64 z, .int .i64 t], .agg #[.int .i64 p, .int .i64 q]] w fun e w' => e = .returned (.tuple #[.bool false, errOf 1]) ∧ Kp w w' := by
  have C := Lib.hid (fun w => Area_ok x y z t w h)
  have A1 := Lib.hid (fun w => allowed_any p q w)
  rw [hp] at A1
  rw [errOf_ne 1 (by decide)]
  have K0 := Lib.hid ((((Kp.rfl' w).new (.cells #[.int .i64 x, .int .i64 y] 23)).new (.cells #[.int .i64 z, .int .i64 t] 23)).new (.cells #[.int .i64 p, .int .i64 q] 23))
  have B3 := Lib.hid (VBox.made ((w.alloc (.cells #[.int .i64 x, .int .i64 y] 23)).alloc (.cells #[.int .i64 z, .int .i64 t] 23)) (p, q) 23 (w.heap.size + 2) (by simp))
  clear h hp
  go_enter Try.func13, Try.ntmps13
  go_wp2_with fail
  refine (C.out _).mono ?_; rintro e w1 ⟨rfl, k1⟩
  have K1 := Lib.hid (K0.out.trans k1)
  have x1 := (B3.out.keep k1).c1
  have x2 := (B3.out.keep k1).c2
  clear k1
  go_wp2_with fail
  refine (A1.out _).mono ?_; rintro e w2 ⟨rfl, k2⟩
  have K2 := Lib.hid (K1.out.trans k2)
  clear k2
  go_wp2_with fail
  go_ret2
  exact ⟨rfl, K2.out⟩

set_option maxHeartbeats 1600000 in
theorem LHas_ok (x y z t p q : Int) (w : World) (h : Lt (x, y) (z, t)) (hp : okv (p, q) = true) :
    Calls Try.prog 13 #[.agg #[.int .i64 x, .int .i64 y], .agg #[.int .i64 z, .int .i64 t], .agg #[.int .i64 p, .int .i64 q]] w fun e w' => e = .returned (.tuple #[.bool (hasB (x, y) (z, t) (p, q)), .nilIface]) ∧ Kp w w' := by
  have C := Lib.hid (fun w => Area_ok x y z t w h)
  have A1 := Lib.hid (fun w => allowed_any p q w)
  rw [hp] at A1
  have s1 := okv_sid h.one
  have s2 := okv_sid h.two
  have s3 := okv_sid hp
  have C1 := Lib.hid (fun w => cross_any p q z t w s3 s2)
  have C2 := Lib.hid (fun w => cross_any x y p q w s1 s3)
  have h0 : (((ar (x, y) (z, t)).natAbs : Int) == 0) = false := by rw [beq_eq_false_iff_ne]; have := h.ne; omega
  have E := Lib.hid (show hasB (x, y) (z, t) (p, q) = (((ar (p, q) (z, t)).tmod ((ar (x, y) (z, t)).natAbs : Int) == 0) && ((ar (x, y) (p, q)).tmod ((ar (x, y) (z, t)).natAbs : Int) == 0)) from rfl)
  have K0 := Lib.hid ((((Kp.rfl' w).new (.cells #[.int .i64 x, .int .i64 y] 23)).new (.cells #[.int .i64 z, .int .i64 t] 23)).new (.cells #[.int .i64 p, .int .i64 q] 23))
  have B1 := Lib.hid ((VBox.made w (x, y) 23 _ rfl).keep (((Kp.rfl' _).new (.cells #[.int .i64 z, .int .i64 t] 23)).new (.cells #[.int .i64 p, .int .i64 q] 23)))
  have B2 := Lib.hid ((VBox.made (w.alloc (.cells #[.int .i64 x, .int .i64 y] 23)) (z, t) 23 (w.heap.size + 1) (by simp)).keep ((Kp.rfl' _).new (.cells #[.int .i64 p, .int .i64 q] 23)))
  have B3 := Lib.hid (VBox.made ((w.alloc (.cells #[.int .i64 x, .int .i64 y] 23)).alloc (.cells #[.int .i64 z, .int .i64 t] 23)) (p, q) 23 (w.heap.size + 2) (by simp))
  generalize hasB (x, y) (z, t) (p, q) = R at *
  generalize ((ar (x, y) (z, t)).natAbs : Int) = n at *
  generalize ar (p, q) (z, t) = D1 at *
  generalize ar (x, y) (p, q) = D2 at *
  clear h hp s1 s2 s3
  have hn : n ≠ 0 := by rw [beq_eq_false_iff_ne] at h0; exact h0
  go_enter Try.func13, Try.ntmps13
  go_wp2_with fail
  refine (C.out _).mono ?_; rintro e w1 ⟨rfl, k1⟩
  have K1 := Lib.hid (K0.out.trans k1)
  have x1 := (B3.out.keep k1).c1
  have x2 := (B3.out.keep k1).c2
  have Q1 := Lib.hid k1
  clear k1
  go_wp2_with fail
  refine (A1.out _).mono ?_; rintro e w2 ⟨rfl, k2⟩
  have K2 := Lib.hid (K1.out.trans k2)
  have Q2 := Lib.hid (Q1.out.trans k2)
  have y1 := (B2.out.keep Q2.out).c1
  have y2 := (B2.out.keep Q2.out).c2
  have y3 := (B3.out.keep Q2.out).c1
  have y4 := (B3.out.keep Q2.out).c2
  clear k2
  go_wp2_with fail
  refine (C1.out _).mono ?_; rintro e w3 ⟨rfl, k3⟩
  have K3 := Lib.hid (K2.out.trans k3)
  have Q3 := Lib.hid (Q2.out.trans k3)
  clear k3 x1 x2 y1 y2 y3 y4
  have y1 := (B1.out.keep Q3.out).c1
  have y2 := (B1.out.keep Q3.out).c2
  have y3 := (B3.out.keep Q3.out).c1
  have y4 := (B3.out.keep Q3.out).c2
  cases hb : (D1.tmod n == 0)
  · rw [hb] at E
    go_wp2_with fail
    go_ret2
    exact ⟨by (have e := E.out); subst e; rfl, K3.out⟩
  · rw [hb] at E
    go_wp2_with fail
    refine (C2.out _).mono ?_; rintro e w4 ⟨rfl, k4⟩
    have K4 := Lib.hid (K3.out.trans k4)
    clear k4
    go_wp2_with fail
    go_ret2
    exact ⟨by (have e := E.out); subst e; rfl, K4.out⟩
end Go.Proofs.Ytlnehhhlpdaebaa
