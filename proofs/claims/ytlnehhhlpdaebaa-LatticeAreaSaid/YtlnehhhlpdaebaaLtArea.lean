/- The law LatticeArea. -/
import Derived.Test.YtlnehhhlpdaebaaLtLaw
namespace Go.Proofs.Ytlnehhhlpdaebaa
open Go.ChangeShapes Go.WideShapes Go.ChangeAt Go.RowKit
open Lag (V nn ip ar cb)
set_option linter.unusedVariables false

set_option maxHeartbeats 3200000 in
theorem walk_LatticeArea (x y z t : Int) (w : World) :
    Calls Try.prog 4 #[.agg #[.int .i64 x, .int .i64 y], .agg #[.int .i64 z, .int .i64 t]] w fun e w' => e = .returned (.bool true) ∧ Kp w w' := by
  have FA := Lib.hid (fun w => latticeFact_any w)
  have K0 := Lib.hid (((Kp.rfl' w).new (.cells #[.int .i64 x, .int .i64 y] 23)).new (.cells #[.int .i64 z, .int .i64 t] 23))
  have B1 := Lib.hid ((VBox.made w (x, y) 23 _ rfl).keep ((Kp.rfl' _).new (.cells #[.int .i64 z, .int .i64 t] 23)))
  have B2 := Lib.hid (VBox.made (w.alloc (.cells #[.int .i64 x, .int .i64 y] 23)) (z, t) 23 (w.heap.size + 1) (by simp))
  rcases lt_or (x, y) (z, t) with h | h
  · have S := Lib.hid (fun w => Short_ok x y z t w h)
    have A := Lib.hid (fun w => Area_ok x y z t w h)
    obtain ⟨n, hn⟩ : ∃ n, n = ((ar (x, y) (z, t)).natAbs : Int) := ⟨_, rfl⟩
    have n1 : 1 ≤ n := by have := h.ne; omega
    have n2 : n ≤ 2000000 := by
      obtain ⟨⟨u1, u2⟩, ⟨u3, u4⟩⟩ := And.intro (okv_iff.1 h.one) (okv_iff.1 h.two)
      have p1 := Lag.prod_le 1000 1000 u1 u4
      have p2 := Lag.prod_le 1000 1000 u2 u3
      rw [hn]; unfold ar; omega
    have HN := Lib.hid (show ar (x, y) (z, t) * ar (x, y) (z, t) = n * n by
      have e := Int.natAbs_mul_self (a := ar (x, y) (z, t))
      rw [hn]; exact e.symm)
    rw [← hn] at A
    have I2 := Lib.hid (fun w => law4In_any n 1 2000000 w true (by simp; omega))
    clear h hn
    go_enter Try.func4, Try.ntmps4
    go_wp2_with fail
    refine (FA.out _).mono ?_; rintro e w1 ⟨rfl, k1⟩
    have K1 := Lib.hid (K0.out.trans k1)
    have C1 := Lib.hid (B1.out.keep k1)
    have C2 := Lib.hid (B2.out.keep k1)
    have y1 := C1.out.c1
    have y2 := C1.out.c2
    have y3 := C2.out.c1
    have y4 := C2.out.c2
    dsimp only at y1 y2 y3 y4
    clear k1
    go_wp2_with fail
    refine (S.out _).mono ?_; rintro e w2 ⟨a, c, rfl, g, k2⟩
    have K2 := Lib.hid (K1.out.trans k2)
    have y5 := (C1.out.keep k2).c1
    have y6 := (C1.out.keep k2).c2
    have y7 := (C2.out.keep k2).c1
    have y8 := (C2.out.keep k2).c2
    dsimp only at y5 y6 y7 y8
    have a1 := g.pos
    have a2 := g.le
    have a3 := g.high
    have a4 := g.low
    have a5 := g.top
    rw [HN.out] at a4 a5
    have I1 := Lib.hid (fun w => law4In_any a 1 2000000 w true (by simp; omega))
    have I3 := Lib.hid (fun w => law4In_any c 1 2000000 w true (by simp; omega))
    have m1 := Lag.prod_le 2000000 2000000 (x := a) (y := c) (by omega) (by omega)
    have m2 := Lag.prod_le 2000000 2000000 (x := n) (y := n) (by omega) (by omega)
    have s1 : 3 * a * c = 3 * (a * c) := by grind
    have s2 : 4 * n * n = 4 * (n * n) := by grind
    have w1 : IntKind.i64.wrap (a * c) = a * c := IntWalk.i64_in _ (by omega)
    have w2 : IntKind.i64.wrap (n * n) = n * n := IntWalk.i64_in _ (by omega)
    have w3 : IntKind.i64.wrap (3 * a) = 3 * a := IntWalk.i64_in _ (by omega)
    have w4 : IntKind.i64.wrap (3 * a * c) = 3 * a * c := IntWalk.i64_in _ (by omega)
    have w5 : IntKind.i64.wrap (4 * n) = 4 * n := IntWalk.i64_in _ (by omega)
    have w6 : IntKind.i64.wrap (4 * n * n) = 4 * n * n := IntWalk.i64_in _ (by omega)
    have d1 : decide (n * n ≤ a * c) = true := decide_eq_true a4
    have d2 : decide (3 * a * c ≤ 4 * n * n) = true := decide_eq_true (by omega)
    clear k2 g y1 y2 y3 y4 C1 C2 a1 a2 a3 a4 a5 n1 n2 m1 m2 s1 s2
    go_wp2_with fail
    refine (A.out _).mono ?_; rintro e w3 ⟨rfl, k3⟩
    have K3 := Lib.hid (K2.out.trans k3)
    clear k3
    go_wp2_with fail
    refine (I1.out _).mono ?_; rintro e w4 ⟨rfl, rfl⟩
    go_wp2_with fail
    refine (I3.out _).mono ?_; rintro e w4 ⟨rfl, rfl⟩
    go_wp2_with fail
    refine (I2.out _).mono ?_; rintro e w4 ⟨rfl, rfl⟩
    go_wp2_with fail
    go_ret
    exact ⟨rfl, K3.out⟩
  · have S := Lib.hid (fun w => Short_no x y z t w h)
    have A := Lib.hid (fun w => Area_no x y z t w h)
    rw [errOf_ne _ h] at S A
    generalize lcd (x, y) (z, t) = cc at *
    clear h
    go_enter Try.func4, Try.ntmps4
    go_wp2_with fail
    refine (FA.out _).mono ?_; rintro e w1 ⟨rfl, k1⟩
    have K1 := Lib.hid (K0.out.trans k1)
    have C1 := Lib.hid (B1.out.keep k1)
    have C2 := Lib.hid (B2.out.keep k1)
    have y1 := C1.out.c1
    have y2 := C1.out.c2
    have y3 := C2.out.c1
    have y4 := C2.out.c2
    dsimp only at y1 y2 y3 y4
    clear k1
    go_wp2_with fail
    refine (S.out _).mono ?_; rintro e w2 ⟨rfl, k2⟩
    have K2 := Lib.hid (K1.out.trans k2)
    have y5 := (C1.out.keep k2).c1
    have y6 := (C1.out.keep k2).c2
    have y7 := (C2.out.keep k2).c1
    have y8 := (C2.out.keep k2).c2
    dsimp only at y5 y6 y7 y8
    clear k2 y1 y2 y3 y4
    go_wp2_with fail
    refine (A.out _).mono ?_; rintro e w3 ⟨rfl, k3⟩
    have K3 := Lib.hid (K2.out.trans k3)
    clear k3
    go_wp2_with fail
    go_ret
    exact ⟨rfl, K3.out⟩
end Go.Proofs.Ytlnehhhlpdaebaa
