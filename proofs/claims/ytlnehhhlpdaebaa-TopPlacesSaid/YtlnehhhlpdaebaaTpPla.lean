/- The law TopPlaces. -/
import Derived.Test.YtlnehhhlpdaebaaLtC2
import Derived.Test.YtlnehhhlpdaebaaL11
import Derived.Test.YtlnehhhlpdaebaaHmFact
import Derived.Test.YtlnehhhlpdaebaaHmTab
import Derived.Test.YtlnehhhlpdaebaaSmC5
namespace Go.Proofs.Ytlnehhhlpdaebaa
open Go.ChangeShapes Go.WideShapes Go.ChangeAt Go.RowKit
open Lag (V nn ip ar cb)
set_option linter.unusedVariables false

theorem l11_hm : Hm 1 (fun _ _ => 2) (Mx.tab 1 1 fun _ _ => 2) := ⟨⟨rfl, by decide, by decide, fun i j _ _ => ⟨by decide, by decide⟩⟩, by decide⟩
theorem l11_lat : Zx.Lat 1 (fun _ _ => 2) fun j => [(4 : Int)].getD j 0 := ⟨fun _ => 2, fun j hj => by
  obtain rfl : j = 0 := by omega
  decide⟩
theorem all1 {p a b : Int} (hp : a ≤ p ∧ p ≤ b) : AllIn [p] a b := fun k hk => by
  have hk' : k < 1 := hk
  obtain rfl : k = 0 := by omega
  exact hp
theorem lat_sum (x y z t p q : Int) : Zx.Lat 2 (n22 x y z t) (fun j => [p, q].getD j 0) ↔ Lag.Sum (x, y) (z, t) (p, q) := by
  constructor
  · rintro ⟨c, h⟩
    have h0 : p = (0 + c 0 * x) + c 1 * z := h 0 (by decide)
    have h1 : q = (0 + c 0 * y) + c 1 * t := h 1 (by decide)
    exact ⟨c 0, c 1, Prod.ext (by show p = c 0 * x + c 1 * z; omega) (by show q = c 0 * y + c 1 * t; omega)⟩
  · rintro ⟨i, j, h⟩
    have h0 : p = i * x + j * z := congrArg Prod.fst h
    have h1 : q = i * y + j * t := congrArg Prod.snd h
    exact lat22 i j h0 h1
theorem dt_ar (x y z t : Int) : Zx.dt 2 (n22 x y z t) = ar (x, y) (z, t) := Zx.dt_2 _
set_option maxHeartbeats 6400000 in
set_option maxRecDepth 100000 in
theorem walk_TopPlaces (x y z t p q : Int) (w : World) :
    Calls Try.prog 7 #[.agg #[.int .i64 x, .int .i64 y], .agg #[.int .i64 z, .int .i64 t], .agg #[.int .i64 p, .int .i64 q]] w fun e w' => e = .returned (.bool true) ∧ Kp w w' := by
  have K0 := Lib.hid ((((Kp.rfl' w).new (.cells #[.int .i64 x, .int .i64 y] 23)).new (.cells #[.int .i64 z, .int .i64 t] 23)).new (.cells #[.int .i64 p, .int .i64 q] 23))
  have B1 := Lib.hid ((VBox.made w (x, y) 23 _ rfl).keep (((Kp.rfl' _).new (.cells #[.int .i64 z, .int .i64 t] 23)).new (.cells #[.int .i64 p, .int .i64 q] 23)))
  have B2 := Lib.hid ((VBox.made (w.alloc (.cells #[.int .i64 x, .int .i64 y] 23)) (z, t) 23 (w.heap.size + 1) (by simp)).keep ((Kp.rfl' _).new (.cells #[.int .i64 p, .int .i64 q] 23)))
  have B3 := Lib.hid (VBox.made ((w.alloc (.cells #[.int .i64 x, .int .i64 y] 23)).alloc (.cells #[.int .i64 z, .int .i64 t] 23)) (p, q) 23 (w.heap.size + 2) (by simp))
  have H1 := Lib.hid (fun (w1 : World) => Has_ok l11_hm (some ⟨w1.heap.size + 1, 0, none⟩) (some ⟨w1.heap.size + 1 + 1, 0, none⟩) [4] 1 1 ((l11 w1 w1.heap.size 2).alloc (.cells #[.int .i64 4] 3))
    ((l11_lies w1 w1.heap.size 2 rfl).keep ((Kp.rfl' _).new _)) (lies_new' (l11 w1 w1.heap.size 2) 3 [4] _ (by simp)) rfl (all1 (by decide)))
  have HX := Lib.hid (fun (w2 : World) => lit22_lies w2 w2.heap.size x y z t rfl)
  rcases lt_or (x, y) (z, t) with h | h
  rotate_left
  · have A := Lib.hid (fun w => Area_no x y z t w h)
    rw [errOf_ne _ h] at A
    generalize lcd (x, y) (z, t) = cc at *
    clear h
    rcases hm_or (Mx.tab 2 2 (n22 x y z t)) (n := 2) (Mx.len_tab _ _ _) with ⟨f, s⟩ | s
    · have IX := Lib.hid (fun (w2 : World) => Index_ok s (some ⟨w2.heap.size + 1 + 1, 0, none⟩) 2 (lit22 w2 w2.heap.size x y z t) (HX.out w2))
      generalize ((Zx.dt 2 f).natAbs : Int) = kk at *
      clear s
      go_enter Try.func7, Try.ntmps7
      go_wp2_with fail
      refine (A.out _).mono ?_; rintro e w1 ⟨rfl, k1⟩
      have KL := Lib.hid (k1.trans ((l11_kp w1 w1.heap.size 2).new (.cells #[.int .i64 4] 3)))
      have K1 := Lib.hid (K0.out.trans KL.out)
      clear k1
      go_wp2_with fail
      refine (H1.out _).mono ?_; rintro e w2 ⟨bb, hbb, rfl, k2⟩
      obtain rfl := hbb.2 l11_lat
      have K2 := Lib.hid (K1.out.trans k2)
      have C1 := Lib.hid (B1.out.keep (KL.out.trans k2))
      have C2 := Lib.hid (B2.out.keep (KL.out.trans k2))
      have C3 := Lib.hid (B3.out.keep (KL.out.trans k2))
      have y1 := C1.out.c1
      have y2 := C1.out.c2
      have y3 := C2.out.c1
      have y4 := C2.out.c2
      dsimp only at y1 y2 y3 y4
      have KA := Lib.hid ((Kp.rfl' w2).new (.cells #[.int .i64 x, .int .i64 y] 3))
      have r3 := (C2.out.keep KA.out).c1
      have r4 := (C2.out.keep KA.out).c2
      dsimp only at r3 r4
      clear k2 hbb KA
      go_wp2_with fail
      refine (IX.out _).mono ?_; rintro e w3 ⟨rfl, k3⟩
      have KI := Lib.hid ((lit22_kp w2 w2.heap.size x y z t).trans k3)
      have K3 := Lib.hid (K2.out.trans KI.out)
      clear k3
      go_wp2_with fail
      go_ret
      exact ⟨rfl, K3.out⟩
    · have IX := Lib.hid (fun (w2 : World) => Index_no (some ⟨w2.heap.size + 1 + 1, 0, none⟩) _ 2 2 (lit22 w2 w2.heap.size x y z t) (HX.out w2) (Mx.len_tab _ _ _) s)
      rw [errOf_ne _ s] at IX
      generalize hcd (Mx.tab 2 2 (n22 x y z t)) = c2 at *
      clear s
      go_enter Try.func7, Try.ntmps7
      go_wp2_with fail
      refine (A.out _).mono ?_; rintro e w1 ⟨rfl, k1⟩
      have KL := Lib.hid (k1.trans ((l11_kp w1 w1.heap.size 2).new (.cells #[.int .i64 4] 3)))
      have K1 := Lib.hid (K0.out.trans KL.out)
      clear k1
      go_wp2_with fail
      refine (H1.out _).mono ?_; rintro e w2 ⟨bb, hbb, rfl, k2⟩
      obtain rfl := hbb.2 l11_lat
      have K2 := Lib.hid (K1.out.trans k2)
      have C1 := Lib.hid (B1.out.keep (KL.out.trans k2))
      have C2 := Lib.hid (B2.out.keep (KL.out.trans k2))
      have C3 := Lib.hid (B3.out.keep (KL.out.trans k2))
      have y1 := C1.out.c1
      have y2 := C1.out.c2
      have y3 := C2.out.c1
      have y4 := C2.out.c2
      dsimp only at y1 y2 y3 y4
      have KA := Lib.hid ((Kp.rfl' w2).new (.cells #[.int .i64 x, .int .i64 y] 3))
      have r3 := (C2.out.keep KA.out).c1
      have r4 := (C2.out.keep KA.out).c2
      dsimp only at r3 r4
      clear k2 hbb KA
      go_wp2_with fail
      refine (IX.out _).mono ?_; rintro e w3 ⟨rfl, k3⟩
      have KI := Lib.hid ((lit22_kp w2 w2.heap.size x y z t).trans k3)
      have K3 := Lib.hid (K2.out.trans KI.out)
      clear k3
      go_wp2_with fail
      go_ret
      exact ⟨rfl, K3.out⟩
  have A := Lib.hid (fun w => Area_ok x y z t w h)
  have n0 : (((ar (x, y) (z, t)).natAbs : Int) == 0) = false := by rw [beq_eq_false_iff_ne]; have := h.ne; omega
  rcases hm_tab (n22 x y z t) (n := 2) (by decide) (by decide) (by rw [dt_ar]; exact h.ne) with s | s1
  rotate_left
  · have s : hcd (Mx.tab 2 2 (n22 x y z t)) ≠ 0 := by rw [s1]; decide
    clear s1
    have IX := Lib.hid (fun (w2 : World) => Index_no (some ⟨w2.heap.size + 1 + 1, 0, none⟩) _ 2 2 (lit22 w2 w2.heap.size x y z t) (HX.out w2) (Mx.len_tab _ _ _) s)
    rw [errOf_ne _ s] at IX
    generalize hcd (Mx.tab 2 2 (n22 x y z t)) = c2 at *
    generalize ((ar (x, y) (z, t)).natAbs : Int) = n at *
    clear s h
    go_enter Try.func7, Try.ntmps7
    go_wp2_with fail
    refine (A.out _).mono ?_; rintro e w1 ⟨rfl, k1⟩
    have KL := Lib.hid (k1.trans ((l11_kp w1 w1.heap.size 2).new (.cells #[.int .i64 4] 3)))
    have K1 := Lib.hid (K0.out.trans KL.out)
    clear k1
    go_wp2_with fail
    refine (H1.out _).mono ?_; rintro e w2 ⟨bb, hbb, rfl, k2⟩
    obtain rfl := hbb.2 l11_lat
    have K2 := Lib.hid (K1.out.trans k2)
    have C1 := Lib.hid (B1.out.keep (KL.out.trans k2))
    have C2 := Lib.hid (B2.out.keep (KL.out.trans k2))
    have C3 := Lib.hid (B3.out.keep (KL.out.trans k2))
    have y1 := C1.out.c1
    have y2 := C1.out.c2
    have y3 := C2.out.c1
    have y4 := C2.out.c2
    dsimp only at y1 y2 y3 y4
    have KA := Lib.hid ((Kp.rfl' w2).new (.cells #[.int .i64 x, .int .i64 y] 3))
    have r3 := (C2.out.keep KA.out).c1
    have r4 := (C2.out.keep KA.out).c2
    dsimp only at r3 r4
    clear k2 hbb KA
    go_wp2_with fail
    refine (IX.out _).mono ?_; rintro e w3 ⟨rfl, k3⟩
    have KI := Lib.hid ((lit22_kp w2 w2.heap.size x y z t).trans k3)
    have K3 := Lib.hid (K2.out.trans KI.out)
    clear k3
    go_wp2_with fail
    go_ret
    exact ⟨rfl, K3.out⟩
  have IX := Lib.hid (fun (w2 : World) => Index_ok s (some ⟨w2.heap.size + 1 + 1, 0, none⟩) 2 (lit22 w2 w2.heap.size x y z t) (HX.out w2))
  rw [dt_ar] at IX
  have LO := Lib.hid (fun w o => LHas_ok x y z t p q w h o)
  have LX := Lib.hid (fun w o => LHas_out x y z t p q w h o)
  have HE := Lib.hid (hasB_iff h.ne (p, q))
  have HM := Lib.hid s
  generalize ((ar (x, y) (z, t)).natAbs : Int) = n at *
  clear h s
  go_enter Try.func7, Try.ntmps7
  go_wp2_with fail
  refine (A.out _).mono ?_; rintro e w1 ⟨rfl, k1⟩
  have KL := Lib.hid (k1.trans ((l11_kp w1 w1.heap.size 2).new (.cells #[.int .i64 4] 3)))
  have K1 := Lib.hid (K0.out.trans KL.out)
  clear k1
  go_wp2_with fail
  refine (H1.out _).mono ?_; rintro e w2 ⟨bb, hbb, rfl, k2⟩
  obtain rfl := hbb.2 l11_lat
  have K2 := Lib.hid (K1.out.trans k2)
  have C1 := Lib.hid (B1.out.keep (KL.out.trans k2))
  have C2 := Lib.hid (B2.out.keep (KL.out.trans k2))
  have C3 := Lib.hid (B3.out.keep (KL.out.trans k2))
  have y1 := C1.out.c1
  have y2 := C1.out.c2
  have y3 := C2.out.c1
  have y4 := C2.out.c2
  dsimp only at y1 y2 y3 y4
  have KA := Lib.hid ((Kp.rfl' w2).new (.cells #[.int .i64 x, .int .i64 y] 3))
  have r3 := (C2.out.keep KA.out).c1
  have r4 := (C2.out.keep KA.out).c2
  dsimp only at r3 r4
  clear k2 hbb KA
  go_wp2_with fail
  refine (IX.out _).mono ?_; rintro e w3 ⟨rfl, k3⟩
  have KI := Lib.hid ((lit22_kp w2 w2.heap.size x y z t).trans k3)
  have K3 := Lib.hid (K2.out.trans KI.out)
  have HR := Lib.hid ((HX.out w2).keep k3)
  have z1 := (C1.out.keep KI.out).c1
  have z2 := (C1.out.keep KI.out).c2
  have z3 := (C2.out.keep KI.out).c1
  have z4 := (C2.out.keep KI.out).c2
  have z5 := (C3.out.keep KI.out).c1
  have z6 := (C3.out.keep KI.out).c2
  dsimp only at z1 z2 z3 z4 z5 z6
  have nn1 : (n == n) = true := beq_self_eq_true n
  clear k3 y1 y2 y3 y4 r3 r4
  cases ho : okv (p, q)
  · have H2 := Lib.hid (fun w => LX.out w ho)
    rw [errOf_ne 1 (by decide)] at H2
    have na : ¬ AllIn [p, q] (-100) 100 := fun g => by
      have g1 := g 0 (by simp)
      have g2 := g 1 (by simp)
      have g3 : -100 ≤ p ∧ p ≤ 100 := g1
      have g4 : -100 ≤ q ∧ q ≤ 100 := g2
      have : okv (p, q) = true := okv_iff.2 ⟨⟨by show -1000 ≤ p; omega, by show p ≤ 1000; omega⟩, ⟨by show -1000 ≤ q; omega, by show q ≤ 1000; omega⟩⟩
      rw [ho] at this; cases this
    have H3 := Lib.hid (fun (w4 : World) (k : Kp w3 w4) => Has_range HM.out (some ⟨w2.heap.size + 1 + 1, 0, none⟩) (some ⟨w4.heap.size, 0, none⟩) [p, q] 2 2 (w4.alloc (.cells #[.int .i64 p, .int .i64 q] 3)) ((HR.out.keep k).keep ((Kp.rfl' _).new _)) (lies_new w4 3 [p, q]) rfl na)
    rw [errOf_ne 1 (by decide)] at H3
    clear LO LX ho na
    go_wp2_with fail
    refine (H2.out _).mono ?_; rintro e w4 ⟨rfl, k4⟩
    have K4 := Lib.hid (K3.out.trans k4)
    have r5 := ((C3.out.keep KI.out).keep k4).c1
    have r6 := ((C3.out.keep KI.out).keep k4).c2
    dsimp only at r5 r6
    have H3' := Lib.hid (H3.out _ k4)
    clear k4 z1 z2 z3 z4 z5 z6 H3
    go_wp2_with fail
    refine (H3'.out).mono ?_; rintro e w5 ⟨rfl, k5⟩
    have K5 := Lib.hid (K4.out.trans (((Kp.rfl' _).new _).trans k5))
    clear k5
    go_wp2_with fail
    go_ret
    exact ⟨rfl, K5.out⟩
  have H2 := Lib.hid (fun w => LO.out w ho)
  clear LO LX ho
  by_cases ha : AllIn [p, q] (-100) 100
  · have H3 := Lib.hid (fun (w4 : World) (k : Kp w3 w4) => Has_ok HM.out (some ⟨w2.heap.size + 1 + 1, 0, none⟩) (some ⟨w4.heap.size, 0, none⟩) [p, q] 2 2 (w4.alloc (.cells #[.int .i64 p, .int .i64 q] 3)) ((HR.out.keep k).keep ((Kp.rfl' _).new _)) (lies_new w4 3 [p, q]) rfl ha)
    clear ha
    generalize hasB (x, y) (z, t) (p, q) = hb at *
    go_wp2_with fail
    refine (H2.out _).mono ?_; rintro e w4 ⟨rfl, k4⟩
    have K4 := Lib.hid (K3.out.trans k4)
    have r5 := ((C3.out.keep KI.out).keep k4).c1
    have r6 := ((C3.out.keep KI.out).keep k4).c2
    dsimp only at r5 r6
    have H3' := Lib.hid (H3.out _ k4)
    clear k4 z1 z2 z3 z4 z5 z6 H3
    go_wp2_with fail
    refine (H3'.out).mono ?_; rintro e w5 ⟨b2, hb2, rfl, k5⟩
    have K5 := Lib.hid (K4.out.trans (((Kp.rfl' _).new _).trans k5))
    obtain rfl : hb = b2 := by rw [Bool.eq_iff_iff, HE.out, hb2]; exact (lat_sum x y z t p q).symm
    clear k5 hb2
    go_wp2_with fail
    go_ret
    exact ⟨rfl, K5.out⟩
  · have H3 := Lib.hid (fun (w4 : World) (k : Kp w3 w4) => Has_range HM.out (some ⟨w2.heap.size + 1 + 1, 0, none⟩) (some ⟨w4.heap.size, 0, none⟩) [p, q] 2 2 (w4.alloc (.cells #[.int .i64 p, .int .i64 q] 3)) ((HR.out.keep k).keep ((Kp.rfl' _).new _)) (lies_new w4 3 [p, q]) rfl ha)
    rw [errOf_ne 1 (by decide)] at H3
    clear ha HE
    generalize hasB (x, y) (z, t) (p, q) = hb at *
    go_wp2_with fail
    refine (H2.out _).mono ?_; rintro e w4 ⟨rfl, k4⟩
    have K4 := Lib.hid (K3.out.trans k4)
    have r5 := ((C3.out.keep KI.out).keep k4).c1
    have r6 := ((C3.out.keep KI.out).keep k4).c2
    dsimp only at r5 r6
    have H3' := Lib.hid (H3.out _ k4)
    clear k4 z1 z2 z3 z4 z5 z6 H3
    go_wp2_with fail
    refine (H3'.out).mono ?_; rintro e w5 ⟨rfl, k5⟩
    have K5 := Lib.hid (K4.out.trans (((Kp.rfl' _).new _).trans k5))
    clear k5
    go_wp2_with fail
    go_ret
    exact ⟨rfl, K5.out⟩
end Go.Proofs.Ytlnehhhlpdaebaa
