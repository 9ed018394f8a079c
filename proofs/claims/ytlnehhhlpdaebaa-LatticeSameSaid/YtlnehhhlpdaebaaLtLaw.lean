/- The laws' closed fact on lattices; the laws LatticeShort and LatticeArea. -/
import Derived.Test.YtlnehhhlpdaebaaLtC3
import Derived.Test.YtlnehhhlpdaebaaLawIn
namespace Go.Proofs.Ytlnehhhlpdaebaa
open Go.ChangeShapes Go.WideShapes Go.ChangeAt Go.RowKit
open Lag (V nn ip ar cb)
set_option linter.unusedVariables false

theorem lf_lt : Lt (5, 0) (3, 1) := ⟨by decide, by decide, by decide⟩
theorem lf_got : Lag.GotS (5, 0) (3, 1) 5 5 := by
  have h := ((((Lag.Fo.start (5, 0) (3, 1)).swap.less 1).swap).less 1)
  have h2 : Lag.Fo (5, 0) (3, 1) 5 0 5 := h
  exact h2.got (by decide) (by decide) (by decide) (by decide) (by decide)
set_option maxHeartbeats 800000 in
theorem latticeFact_any (w : World) : Calls Try.prog 8 #[] w fun e w' => e = .returned (.bool true) ∧ Kp w w' := by
  have S := Lib.hid (fun w => Short_ok 5 0 3 1 w lf_lt)
  have A := Lib.hid (fun w => Area_ok 5 0 3 1 w lf_lt)
  rw [show ((ar (5, 0) (3, 1)).natAbs : Int) = 5 by decide] at A
  go_enter Try.func8, Try.ntmps8
  go_wp2_with fail
  refine (S.out _).mono ?_; rintro e w1 ⟨a, c, rfl, g, k1⟩
  obtain ⟨rfl, rfl⟩ := g.one lf_got
  have K1 := Lib.hid k1
  clear k1 g
  go_wp2_with fail
  refine (A.out _).mono ?_; rintro e w2 ⟨rfl, k2⟩
  have K2 := Lib.hid (K1.out.trans k2)
  clear k2
  go_wp2_with fail
  go_ret
  exact ⟨rfl, K2.out⟩

set_option maxHeartbeats 3200000 in
theorem walk_LatticeShort (x y z t i j : Int) (w : World) :
    Calls Try.prog 3 #[.agg #[.int .i64 x, .int .i64 y], .agg #[.int .i64 z, .int .i64 t], .int .i64 i, .int .i64 j] w fun e w' => e = .returned (.bool true) ∧ Kp w w' := by
  have FA := Lib.hid (fun w => latticeFact_any w)
  have K0 := Lib.hid (((Kp.rfl' w).new (.cells #[.int .i64 x, .int .i64 y] 23)).new (.cells #[.int .i64 z, .int .i64 t] 23))
  have B1 := Lib.hid ((VBox.made w (x, y) 23 _ rfl).keep ((Kp.rfl' _).new (.cells #[.int .i64 z, .int .i64 t] 23)))
  have B2 := Lib.hid (VBox.made (w.alloc (.cells #[.int .i64 x, .int .i64 y] 23)) (z, t) 23 (w.heap.size + 1) (by simp))
  rcases lt_or (x, y) (z, t) with h | h
  · have S := Lib.hid (fun w => Short_ok x y z t w h)
    have HL := Lib.hid h
    obtain ⟨p, hp⟩ : ∃ p, p = (decide (-1000 ≤ i) && decide (i ≤ 1000)) := ⟨_, rfl⟩
    obtain ⟨q, hq⟩ : ∃ q, q = (decide (-1000 ≤ j) && decide (j ≤ 1000)) := ⟨_, rfl⟩
    have I1 := Lib.hid (fun w => law4In_any i (-1000) 1000 w p hp.symm)
    have I2 := Lib.hid (fun w => law4In_any j (-1000) 1000 w q hq.symm)
    have HP := Lib.hid hp
    have HQ := Lib.hid hq
    clear h hp hq
    go_enter Try.func3, Try.ntmps3
    go_wp2_with fail
    refine (FA.out _).mono ?_; rintro e w1 ⟨rfl, k1⟩
    have K1 := Lib.hid (K0.out.trans k1)
    have C1 := Lib.hid (B1.out.keep k1)
    have C2 := Lib.hid (B2.out.keep k1)
    have y1 := C1.out.c1
    have y2 := C1.out.c2
    have y3 := C2.out.c1
    have y4 := C2.out.c2
    dsimp only at y1 y2 y3 y4
    clear k1
    go_wp2_with fail
    refine (S.out _).mono ?_; rintro e w2 ⟨a, c, rfl, g, k2⟩
    have K2 := Lib.hid (K1.out.trans k2)
    have y5 := (C1.out.keep k2).c1
    have y6 := (C1.out.keep k2).c2
    have y7 := (C2.out.keep k2).c1
    have y8 := (C2.out.keep k2).c2
    dsimp only at y5 y6 y7 y8
    have G := Lib.hid g
    have a1 := g.pos
    have a2 := g.le
    have z1 : decide (1 ≤ a) = true := decide_eq_true a1
    have z2 : decide (a ≤ c) = true := decide_eq_true a2
    clear k2 g y1 y2 y3 y4 C1 C2
    cases p
    · go_wp2_with fail
      refine (I1.out _).mono ?_; rintro e w3 ⟨rfl, rfl⟩
      go_wp2_with fail
      go_ret
      exact ⟨rfl, K2.out⟩
    cases q
    · go_wp2_with fail
      refine (I1.out _).mono ?_; rintro e w3 ⟨rfl, rfl⟩
      go_wp2_with fail
      refine (I2.out _).mono ?_; rintro e w3 ⟨rfl, rfl⟩
      go_wp2_with fail
      go_ret
      exact ⟨rfl, K2.out⟩
    by_cases h0 : i = 0 ∧ j = 0
    · obtain ⟨rfl, rfl⟩ := h0
      go_wp2_with fail
      refine (I1.out _).mono ?_; rintro e w3 ⟨rfl, rfl⟩
      go_wp2_with fail
      refine (I2.out _).mono ?_; rintro e w3 ⟨rfl, rfl⟩
      go_wp2_with fail
      go_ret
      exact ⟨rfl, K2.out⟩
    have hi : -1000 ≤ i ∧ i ≤ 1000 := by have := HP.out; simpa using this.symm
    have hj : -1000 ≤ j ∧ j ≤ 1000 := by have := HQ.out; simpa using this.symm
    have LE := Lib.hid (G.out.least HL.out.ne h0)
    obtain ⟨⟨u1, u2⟩, ⟨u3, u4⟩⟩ := And.intro (okv_iff.1 HL.out.one) (okv_iff.1 HL.out.two)
    dsimp only at u1 u2 u3 u4
    have p1 := Lag.prod_le 1000 1000 hi u1
    have p2 := Lag.prod_le 1000 1000 hj u3
    have p3 := Lag.prod_le 1000 1000 hi u2
    have p4 := Lag.prod_le 1000 1000 hj u4
    have m1 := Lag.prod_le 2000000 2000000 (x := i * x + j * z) (y := i * x + j * z) (by omega) (by omega)
    have m2 := Lag.prod_le 2000000 2000000 (x := i * y + j * t) (y := i * y + j * t) (by omega) (by omega)
    have w1 : IntKind.i64.wrap (i * x) = i * x := IntWalk.i64_in _ (by omega)
    have w2 : IntKind.i64.wrap (j * z) = j * z := IntWalk.i64_in _ (by omega)
    have w3 : IntKind.i64.wrap (i * y) = i * y := IntWalk.i64_in _ (by omega)
    have w4 : IntKind.i64.wrap (j * t) = j * t := IntWalk.i64_in _ (by omega)
    have w5 : IntKind.i64.wrap (i * x + j * z) = i * x + j * z := IntWalk.i64_in _ (by omega)
    have w6 : IntKind.i64.wrap (i * y + j * t) = i * y + j * t := IntWalk.i64_in _ (by omega)
    have w7 : IntKind.i64.wrap ((i * x + j * z) * (i * x + j * z)) = (i * x + j * z) * (i * x + j * z) := IntWalk.i64_in _ (by omega)
    have w8 : IntKind.i64.wrap ((i * y + j * t) * (i * y + j * t)) = (i * y + j * t) * (i * y + j * t) := IntWalk.i64_in _ (by omega)
    have w9 : IntKind.i64.wrap ((i * x + j * z) * (i * x + j * z) + (i * y + j * t) * (i * y + j * t)) = (i * x + j * z) * (i * x + j * z) + (i * y + j * t) * (i * y + j * t) := IntWalk.i64_in _ (by omega)
    have e9 : decide (a ≤ (i * x + j * z) * (i * x + j * z) + (i * y + j * t) * (i * y + j * t)) = true := decide_eq_true LE.out
    clear hi hj p1 p2 p3 p4 m1 m2 u1 u2 u3 u4 LE
    by_cases hi0 : i = 0
    · have hj0 : (j == 0) = false := by rw [beq_eq_false_iff_ne]; intro e; exact h0 ⟨hi0, e⟩
      have hi1 : (i == 0) = true := by rw [beq_iff_eq]; exact hi0
      clear h0 hi0
      go_wp2_with fail
      refine (I1.out _).mono ?_; rintro e w3 ⟨rfl, rfl⟩
      go_wp2_with fail
      refine (I2.out _).mono ?_; rintro e w3 ⟨rfl, rfl⟩
      go_wp2_with fail
      go_ret
      exact ⟨rfl, K2.out⟩
    · have hi1 : (i == 0) = false := by rw [beq_eq_false_iff_ne]; exact hi0
      clear h0 hi0
      go_wp2_with fail
      refine (I1.out _).mono ?_; rintro e w3 ⟨rfl, rfl⟩
      go_wp2_with fail
      refine (I2.out _).mono ?_; rintro e w3 ⟨rfl, rfl⟩
      go_wp2_with fail
      go_ret
      exact ⟨rfl, K2.out⟩
  · have S := Lib.hid (fun w => Short_no x y z t w h)
    rw [errOf_ne _ h] at S
    generalize lcd (x, y) (z, t) = cc at *
    clear h
    go_enter Try.func3, Try.ntmps3
    go_wp2_with fail
    refine (FA.out _).mono ?_; rintro e w1 ⟨rfl, k1⟩
    have K1 := Lib.hid (K0.out.trans k1)
    have y1 := (B1.out.keep k1).c1
    have y2 := (B1.out.keep k1).c2
    have y3 := (B2.out.keep k1).c1
    have y4 := (B2.out.keep k1).c2
    clear k1
    go_wp2_with fail
    refine (S.out _).mono ?_; rintro e w2 ⟨rfl, k2⟩
    have K2 := Lib.hid (K1.out.trans k2)
    clear k2
    go_wp2_with fail
    go_ret
    exact ⟨rfl, K2.out⟩
end Go.Proofs.Ytlnehhhlpdaebaa
