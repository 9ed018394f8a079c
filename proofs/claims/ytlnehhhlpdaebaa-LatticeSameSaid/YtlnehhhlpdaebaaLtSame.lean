/- The law LatticeSame. -/
import Derived.Test.YtlnehhhlpdaebaaLtLaw
import Derived.Test.YtlnehhhlpdaebaaLtVecs
namespace Go.Proofs.Ytlnehhhlpdaebaa
open Go.ChangeShapes Go.WideShapes Go.ChangeAt Go.RowKit
open Lag (V nn ip ar cb)
set_option linter.unusedVariables false

/-- The other place: k times the first one added. -/
theorem lw_cb (x y z t k : Int) : ((z + k * x, t + k * y) : V) = cb (x, y) (z, t) k 1 := Prod.ext (by show _ = k * x + 1 * z; omega) (by show _ = k * y + 1 * t; omega)
theorem lw_ar (x y z t k : Int) : ar (z + k * x, t + k * y) (x, y) = -ar (x, y) (z, t) := by unfold ar; grind
theorem lw_sum (x y z t k : Int) (p : V) : Lag.Sum (x, y) (z, t) p ↔ Lag.Sum (z + k * x, t + k * y) (x, y) p := by rw [lw_cb]; exact Lag.sum_turn _ _ _ _
theorem lw_got {x y z t : Int} (k : Int) {a c : Int} (h : Lag.GotS (x, y) (z, t) a c) : Lag.GotS (z + k * x, t + k * y) (x, y) a c :=
  h.congr (lw_sum x y z t k) (by rw [lw_ar]; grind)
theorem lw_has {x y z t : Int} (k : Int) (h : ar (x, y) (z, t) ≠ 0) (p : V) : hasB (z + k * x, t + k * y) (x, y) p = hasB (x, y) (z, t) p := by
  rw [Bool.eq_iff_iff, hasB_iff h, hasB_iff (by rw [lw_ar]; omega)]
  exact (lw_sum x y z t k p).symm
set_option maxHeartbeats 6400000 in
theorem walk_LatticeSame (x y z t k p q : Int) (w : World) :
    Calls Try.prog 5 #[.agg #[.int .i64 x, .int .i64 y], .agg #[.int .i64 z, .int .i64 t], .int .i64 k, .agg #[.int .i64 p, .int .i64 q]] w fun e w' => e = .returned (.bool true) ∧ Kp w w' := by
  have FA := Lib.hid (fun w => latticeFact_any w)
  have K0 := Lib.hid ((((Kp.rfl' w).new (.cells #[.int .i64 x, .int .i64 y] 23)).new (.cells #[.int .i64 z, .int .i64 t] 23)).new (.cells #[.int .i64 p, .int .i64 q] 23))
  have B1 := Lib.hid ((VBox.made w (x, y) 23 _ rfl).keep (((Kp.rfl' _).new (.cells #[.int .i64 z, .int .i64 t] 23)).new (.cells #[.int .i64 p, .int .i64 q] 23)))
  have B2 := Lib.hid ((VBox.made (w.alloc (.cells #[.int .i64 x, .int .i64 y] 23)) (z, t) 23 (w.heap.size + 1) (by simp)).keep ((Kp.rfl' _).new (.cells #[.int .i64 p, .int .i64 q] 23)))
  have B3 := Lib.hid (VBox.made ((w.alloc (.cells #[.int .i64 x, .int .i64 y] 23)).alloc (.cells #[.int .i64 z, .int .i64 t] 23)) (p, q) 23 (w.heap.size + 2) (by simp))
  rcases lt_or (x, y) (z, t) with h | h
  rotate_left
  · have S := Lib.hid (fun w => Short_no x y z t w h)
    rw [errOf_ne _ h] at S
    generalize lcd (x, y) (z, t) = cc at *
    clear h
    go_enter Try.func5, Try.ntmps5
    go_wp2_with fail
    refine (FA.out _).mono ?_; rintro e w1 ⟨rfl, k1⟩
    have KK := Lib.hid (K0.out.trans k1)
    have C1 := B1
    have C2 := B2
    have C3 := B3
    have C1 := Lib.hid (C1.out.keep k1)
    have C2 := Lib.hid (C2.out.keep k1)
    have C3 := Lib.hid (C3.out.keep k1)
    have r1a := C1.out.c1
    have r1b := C1.out.c2
    have r2a := C2.out.c1
    have r2b := C2.out.c2
    have r3a := C3.out.c1
    have r3b := C3.out.c2
    dsimp only at r1a r1b r2a r2b r3a r3b
    clear k1
    go_wp2_with fail
    refine (S.out _).mono ?_; rintro e w1 ⟨rfl, k1⟩
    have KK := Lib.hid (KK.out.trans k1)
    clear r1a r1b r2a r2b r3a r3b
    have C1 := Lib.hid (C1.out.keep k1)
    have C2 := Lib.hid (C2.out.keep k1)
    have C3 := Lib.hid (C3.out.keep k1)
    have r1a := C1.out.c1
    have r1b := C1.out.c2
    have r2a := C2.out.c1
    have r2b := C2.out.c2
    have r3a := C3.out.c1
    have r3b := C3.out.c2
    dsimp only at r1a r1b r2a r2b r3a r3b
    clear k1
    go_wp2_with fail
    go_ret
    exact ⟨rfl, KK.out⟩
  have S := Lib.hid (fun w => Short_ok x y z t w h)
  obtain ⟨b, hb⟩ : ∃ b, b = (decide (-1000 ≤ k) && decide (k ≤ 1000)) := ⟨_, rfl⟩
  have I := Lib.hid (fun w => law4In_any k (-1000) 1000 w b hb.symm)
  cases b
  · clear h hb
    go_enter Try.func5, Try.ntmps5
    go_wp2_with fail
    refine (FA.out _).mono ?_; rintro e w1 ⟨rfl, k1⟩
    have KK := Lib.hid (K0.out.trans k1)
    have C1 := B1
    have C2 := B2
    have C3 := B3
    have C1 := Lib.hid (C1.out.keep k1)
    have C2 := Lib.hid (C2.out.keep k1)
    have C3 := Lib.hid (C3.out.keep k1)
    have r1a := C1.out.c1
    have r1b := C1.out.c2
    have r2a := C2.out.c1
    have r2b := C2.out.c2
    have r3a := C3.out.c1
    have r3b := C3.out.c2
    dsimp only at r1a r1b r2a r2b r3a r3b
    clear k1
    go_wp2_with fail
    refine (S.out _).mono ?_; rintro e w1 ⟨a, c, rfl, g, k1⟩
    have KK := Lib.hid (KK.out.trans k1)
    clear r1a r1b r2a r2b r3a r3b
    have C1 := Lib.hid (C1.out.keep k1)
    have C2 := Lib.hid (C2.out.keep k1)
    have C3 := Lib.hid (C3.out.keep k1)
    have r1a := C1.out.c1
    have r1b := C1.out.c2
    have r2a := C2.out.c1
    have r2b := C2.out.c2
    have r3a := C3.out.c1
    have r3b := C3.out.c2
    dsimp only at r1a r1b r2a r2b r3a r3b
    clear k1
    go_wp2_with fail
    refine (I.out _).mono ?_; rintro e w1 ⟨rfl, rfl⟩
    go_wp2_with fail
    go_ret
    exact ⟨rfl, KK.out⟩
  have hk : -1000 ≤ k ∧ k ≤ 1000 := by simpa using hb.symm
  have HL := Lib.hid h
  have NE := Lib.hid (show ar (z + k * x, t + k * y) (x, y) ≠ 0 by rw [lw_ar]; have := h.ne; omega)
  obtain ⟨⟨u1, u2⟩, ⟨u3, u4⟩⟩ := And.intro (okv_iff.1 h.one) (okv_iff.1 h.two)
  dsimp only at u1 u2 u3 u4
  have p1 := Lag.prod_le 1000 1000 hk u1
  have p2 := Lag.prod_le 1000 1000 hk u2
  have v1 : IntKind.i64.wrap (k * x) = k * x := IntWalk.i64_in _ (by omega)
  have v2 : IntKind.i64.wrap (k * y) = k * y := IntWalk.i64_in _ (by omega)
  have v5 : wrap64 (z + k * x) = z + k * x := wrap64_id (by omega)
  have v6 : wrap64 (t + k * y) = t + k * y := wrap64_id (by omega)
  have A := Lib.hid (fun w => Area_ok x y z t w h)
  have AE := Lib.hid (show ((ar (z + k * x, t + k * y) (x, y)).natAbs : Int) = ((ar (x, y) (z, t)).natAbs : Int) by rw [lw_ar]; omega)
  have GE := Lib.hid (fun a c (g : Lag.GotS (x, y) (z, t) a c) => lw_got k g)
  have HE := Lib.hid (lw_has k h.ne (p, q))
  have HO := Lib.hid (fun w o => LHas_ok x y z t p q w h o)
  have HX := Lib.hid (fun w o => LHas_out x y z t p q w h o)
  have LO := Lib.hid (lt_or (z + k * x, t + k * y) (x, y))
  have S2 := Lib.hid (fun w l => Short_ok (z + k * x) (t + k * y) x y w l)
  have S3 := Lib.hid (fun w l => Short_no (z + k * x) (t + k * y) x y w l)
  have A2 := Lib.hid (fun w l => Area_ok (z + k * x) (t + k * y) x y w l)
  have O2 := Lib.hid (fun w l o => LHas_ok (z + k * x) (t + k * y) x y p q w l o)
  have X2 := Lib.hid (fun w l o => LHas_out (z + k * x) (t + k * y) x y p q w l o)
  have VC := Lib.hid (fun w => rVecs_any (z + k * x) (t + k * y) x y w)
  have LB := Lib.hid (show lcd (z + k * x, t + k * y) (x, y) ≠ 0 → lcd (z + k * x, t + k * y) (x, y) = 1 from fun l => by
    unfold lcd at l ⊢
    split
    · rename_i hh
      rw [if_pos hh, if_neg NE.out] at l
      exact absurd rfl l
    · rfl)
  clear hb hk h u1 u2 u3 u4 p1 p2
  obtain ⟨X, hX⟩ : ∃ X, X = z + k * x := ⟨_, rfl⟩
  obtain ⟨Y, hY⟩ : ∃ Y, Y = t + k * y := ⟨_, rfl⟩
  rw [← hX, ← hY] at NE AE HE LO LB VC
  simp only [← hX, ← hY] at GE S2 S3 A2 O2 X2
  have V5 := Lib.hid (v5.trans hX.symm)
  have V6 := Lib.hid (v6.trans hY.symm)
  clear hX hY v5 v6
  go_enter Try.func5, Try.ntmps5
  go_wp2_with fail
  refine (FA.out _).mono ?_; rintro e w1 ⟨rfl, k1⟩
  have KK := Lib.hid (K0.out.trans k1)
  have C1 := B1
  have C2 := B2
  have C3 := B3
  have C1 := Lib.hid (C1.out.keep k1)
  have C2 := Lib.hid (C2.out.keep k1)
  have C3 := Lib.hid (C3.out.keep k1)
  have r1a := C1.out.c1
  have r1b := C1.out.c2
  have r2a := C2.out.c1
  have r2b := C2.out.c2
  have r3a := C3.out.c1
  have r3b := C3.out.c2
  dsimp only at r1a r1b r2a r2b r3a r3b
  clear k1
  go_wp2_with fail
  refine (S.out _).mono ?_; rintro e w1 ⟨a, c, rfl, g, k1⟩
  have KK := Lib.hid (KK.out.trans k1)
  clear r1a r1b r2a r2b r3a r3b
  have C1 := Lib.hid (C1.out.keep k1)
  have C2 := Lib.hid (C2.out.keep k1)
  have C3 := Lib.hid (C3.out.keep k1)
  have r1a := C1.out.c1
  have r1b := C1.out.c2
  have r2a := C2.out.c1
  have r2b := C2.out.c2
  have r3a := C3.out.c1
  have r3b := C3.out.c2
  dsimp only at r1a r1b r2a r2b r3a r3b
  clear k1
  have G := Lib.hid g
  clear g
  go_wp2_with fail
  refine (I.out _).mono ?_; rintro e w2 ⟨rfl, rfl⟩
  have sz := KK.out.size
  have KN := Lib.hid ((Kp.rfl' w1).new (.cells #[.int .i64 (wrap64 (z + k * x)), .int .i64 (wrap64 (t + k * y))] 23))
  have C4 := Lib.hid (show VBox w1.heap.size (X, Y) (w1.alloc (.cells #[.int .i64 (wrap64 (z + k * x)), .int .i64 (wrap64 (t + k * y))] 23)) from by rw [V5.out, V6.out]; exact VBox.made w1 (X, Y) 23 w1.heap.size rfl)
  have C1 := Lib.hid (C1.out.keep KN.out)
  have C2 := Lib.hid (C2.out.keep KN.out)
  have C3 := Lib.hid (C3.out.keep KN.out)
  have KK := Lib.hid (KK.out.trans KN.out)
  have r4a := C4.out.c1
  have r4b := C4.out.c2
  have s1a := C1.out.c1
  have s1b := C1.out.c2
  dsimp only at r4a r4b s1a s1b
  clear KN sz
  rcases LO.out with l | l
  rotate_left
  · have SS := Lib.hid (fun w => S3.out w l)
    have EL := LB.out l
    rw [errOf_ne _ l, EL] at SS
    rw [EL] at VC
    clear S3 l LB EL LO
    go_wp2_with fail
    refine (SS.out _).mono ?_; rintro e w3 ⟨rfl, k3⟩
    have KK := Lib.hid (KK.out.trans k3)
    clear r1a r1b r2a r2b r3a r3b r4a r4b s1a s1b
    have C1 := Lib.hid (C1.out.keep k3)
    have C2 := Lib.hid (C2.out.keep k3)
    have C3 := Lib.hid (C3.out.keep k3)
    have C4 := Lib.hid (C4.out.keep k3)
    have r1a := C1.out.c1
    have r1b := C1.out.c2
    have r4a := C4.out.c1
    have r4b := C4.out.c2
    dsimp only at r1a r1b r4a r4b
    clear k3
    go_wp2_with fail
    refine (VC.out _).mono ?_; rintro e w3 ⟨rfl, k3⟩
    have KK := Lib.hid (KK.out.trans k3)
    clear r1a r1b r4a r4b
    have C1 := Lib.hid (C1.out.keep k3)
    have C2 := Lib.hid (C2.out.keep k3)
    have C3 := Lib.hid (C3.out.keep k3)
    have C4 := Lib.hid (C4.out.keep k3)
    clear k3
    go_wp2_with fail
    go_ret
    exact ⟨rfl, KK.out⟩
  have SS := Lib.hid (fun w => S2.out w l)
  have AA := Lib.hid (fun w => A2.out w l)
  rw [AE.out] at AA
  have G2 := Lib.hid (GE.out _ _ G.out)
  clear S2 A2 LB AE GE LO VC S3 NE
  go_wp2_with fail
  refine (SS.out _).mono ?_; rintro e w3 ⟨a2, c2, rfl, g2, k3⟩
  have KK := Lib.hid (KK.out.trans k3)
  clear r1a r1b r2a r2b r3a r3b r4a r4b s1a s1b
  have C1 := Lib.hid (C1.out.keep k3)
  have C2 := Lib.hid (C2.out.keep k3)
  have C3 := Lib.hid (C3.out.keep k3)
  have C4 := Lib.hid (C4.out.keep k3)
  have r1a := C1.out.c1
  have r1b := C1.out.c2
  have r2a := C2.out.c1
  have r2b := C2.out.c2
  dsimp only at r1a r1b r2a r2b
  clear k3
  obtain ⟨rfl, rfl⟩ := g2.one G2.out
  clear g2
  go_wp2_with fail
  refine (A.out _).mono ?_; rintro e w3 ⟨rfl, k3⟩
  have KK := Lib.hid (KK.out.trans k3)
  clear r1a r1b r2a r2b
  have C1 := Lib.hid (C1.out.keep k3)
  have C2 := Lib.hid (C2.out.keep k3)
  have C3 := Lib.hid (C3.out.keep k3)
  have C4 := Lib.hid (C4.out.keep k3)
  have r1a := C1.out.c1
  have r1b := C1.out.c2
  have r4a := C4.out.c1
  have r4b := C4.out.c2
  dsimp only at r1a r1b r4a r4b
  clear k3
  go_wp2_with fail
  refine (AA.out _).mono ?_; rintro e w3 ⟨rfl, k3⟩
  have KK := Lib.hid (KK.out.trans k3)
  clear r1a r1b r4a r4b
  have C1 := Lib.hid (C1.out.keep k3)
  have C2 := Lib.hid (C2.out.keep k3)
  have C3 := Lib.hid (C3.out.keep k3)
  have C4 := Lib.hid (C4.out.keep k3)
  have r1a := C1.out.c1
  have r1b := C1.out.c2
  have r2a := C2.out.c1
  have r2b := C2.out.c2
  have r3a := C3.out.c1
  have r3b := C3.out.c2
  dsimp only at r1a r1b r2a r2b r3a r3b
  clear k3
  generalize ((ar (x, y) (z, t)).natAbs : Int) = n at *
  cases ho : okv (p, q)
  · have H1 := Lib.hid (fun w => HX.out w ho)
    have H2 := Lib.hid (fun w => X2.out w l ho)
    rw [errOf_ne 1 (by decide)] at H1 H2
    clear HO HX O2 X2 HE l ho
    go_wp2_with fail
    refine (H1.out _).mono ?_; rintro e w3 ⟨rfl, k3⟩
    have KK := Lib.hid (KK.out.trans k3)
    clear r1a r1b r2a r2b r3a r3b
    have C1 := Lib.hid (C1.out.keep k3)
    have C2 := Lib.hid (C2.out.keep k3)
    have C3 := Lib.hid (C3.out.keep k3)
    have C4 := Lib.hid (C4.out.keep k3)
    have r1a := C1.out.c1
    have r1b := C1.out.c2
    have r3a := C3.out.c1
    have r3b := C3.out.c2
    have r4a := C4.out.c1
    have r4b := C4.out.c2
    dsimp only at r1a r1b r3a r3b r4a r4b
    clear k3
    go_wp2_with fail
    refine (H2.out _).mono ?_; rintro e w3 ⟨rfl, k3⟩
    have KK := Lib.hid (KK.out.trans k3)
    clear r1a r1b r3a r3b r4a r4b
    have C1 := Lib.hid (C1.out.keep k3)
    have C2 := Lib.hid (C2.out.keep k3)
    have C3 := Lib.hid (C3.out.keep k3)
    have C4 := Lib.hid (C4.out.keep k3)
    clear k3
    go_wp2_with fail
    go_quiet (fail)
    go_wp2_with fail
    go_ret
    exact ⟨rfl, KK.out.trans ((Kp.rfl' _).drewN _)⟩
  · have H1 := Lib.hid (fun w => HO.out w ho)
    have H2 := Lib.hid (fun w => O2.out w l ho)
    rw [HE.out] at H2
    clear HO HX O2 X2 HE l ho
    generalize hasB (x, y) (z, t) (p, q) = hb at *
    go_wp2_with fail
    refine (H1.out _).mono ?_; rintro e w3 ⟨rfl, k3⟩
    have KK := Lib.hid (KK.out.trans k3)
    clear r1a r1b r2a r2b r3a r3b
    have C1 := Lib.hid (C1.out.keep k3)
    have C2 := Lib.hid (C2.out.keep k3)
    have C3 := Lib.hid (C3.out.keep k3)
    have C4 := Lib.hid (C4.out.keep k3)
    have r1a := C1.out.c1
    have r1b := C1.out.c2
    have r3a := C3.out.c1
    have r3b := C3.out.c2
    have r4a := C4.out.c1
    have r4b := C4.out.c2
    dsimp only at r1a r1b r3a r3b r4a r4b
    clear k3
    go_wp2_with fail
    refine (H2.out _).mono ?_; rintro e w3 ⟨rfl, k3⟩
    have KK := Lib.hid (KK.out.trans k3)
    clear r1a r1b r3a r3b r4a r4b
    have C1 := Lib.hid (C1.out.keep k3)
    have C2 := Lib.hid (C2.out.keep k3)
    have C3 := Lib.hid (C3.out.keep k3)
    have C4 := Lib.hid (C4.out.keep k3)
    clear k3
    go_wp2_with fail
    go_quiet (fail)
    go_wp2_with fail
    go_ret
    exact ⟨rfl, KK.out.trans ((Kp.rfl' _).drewN _)⟩
end Go.Proofs.Ytlnehhhlpdaebaa
