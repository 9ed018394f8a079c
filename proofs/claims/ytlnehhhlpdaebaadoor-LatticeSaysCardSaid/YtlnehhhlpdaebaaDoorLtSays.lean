/- The law LatticeSays. -/
import Derived.Test.YtlnehhhlpdaebaaDoorLtC3
import Derived.Test.YtlnehhhlpdaebaaDoorLtRef
import Derived.Test.YtlnehhhlpdaebaaDoorLtVecs
import Derived.Test.YtlnehhhlpdaebaaDoorSumB
import Derived.Test.YtlnehhhlpdaebaaDoorRowsG
import Derived.Test.YtlnehhhlpdaebaaDoorErrG
namespace Go.Proofs.YtlnehhhlpdaebaaDoor
open Go.ChangeShapes Go.WideShapes Go.ChangeAt Go.RowKit
open Lag (V nn ip ar cb)
set_option linter.unusedVariables false

def c2s (a b : Int) : Nat → Int := fun i => if i = 0 then a else b
theorem latS (x y z t p q : Int) : Zx.Lat 2 (n22 x y z t) (c2s p q) ↔ Lag.Sum (x, y) (z, t) (p, q) := by
  constructor
  · rintro ⟨c, h⟩
    have h0 : p = (0 + c 0 * x) + c 1 * z := h 0 (by decide)
    have h1 : q = (0 + c 0 * y) + c 1 * t := h 1 (by decide)
    exact ⟨c 0, c 1, Prod.ext (by show p = c 0 * x + c 1 * z; omega) (by show q = c 0 * y + c 1 * t; omega)⟩
  · rintro ⟨i, j, h⟩
    have h0 : p = i * x + j * z := congrArg Prod.fst h
    have h1 : q = i * y + j * t := congrArg Prod.snd h
    refine ⟨c2s i j, fun k hk => ?_⟩
    have h2 : k = 0 ∨ k = 1 := by omega
    rcases h2 with rfl | rfl
    · show p = (0 + i * x) + j * z; omega
    · show q = (0 + i * y) + j * t; omega
theorem ab_le {n : Int} (h : -1000 ≤ n ∧ n ≤ 1000) : Zx.ab n ≤ 1000 := by unfold Zx.ab; omega
theorem okv_okc {p q : Int} : okv (p, q) = (okc p && okc q) := rfl
set_option maxHeartbeats 6400000 in
set_option maxRecDepth 100000 in
theorem walk_LatticeSays (x y z t p q : Int) (w : World) (hl : Told.Laid w) :
    Calls Tryd.prog 3 #[.agg #[.int .i64 x, .int .i64 y], .agg #[.int .i64 z, .int .i64 t], .agg #[.int .i64 p, .int .i64 q]] w fun e w' => e = .returned (.bool true) ∧ Kp w w' := by
  have HL := Lib.hid hl
  clear hl
  have K0 := Lib.hid ((((Kp.rfl' w).new (.cells #[.int .i64 x, .int .i64 y] 23)).new (.cells #[.int .i64 z, .int .i64 t] 23)).new (.cells #[.int .i64 p, .int .i64 q] 23))
  have B1 := Lib.hid ((VBox.made w (x, y) 23 _ rfl).keep (((Kp.rfl' _).new (.cells #[.int .i64 z, .int .i64 t] 23)).new (.cells #[.int .i64 p, .int .i64 q] 23)))
  have B2 := Lib.hid ((VBox.made (w.alloc (.cells #[.int .i64 x, .int .i64 y] 23)) (z, t) 23 (w.heap.size + 1) (by simp)).keep ((Kp.rfl' _).new (.cells #[.int .i64 p, .int .i64 q] 23)))
  have B3 := Lib.hid (VBox.made ((w.alloc (.cells #[.int .i64 x, .int .i64 y] 23)).alloc (.cells #[.int .i64 z, .int .i64 t] 23)) (p, q) 23 (w.heap.size + 2) (by simp))
  have VC := Lib.hid (fun w => rVecs_any x y z t w)
  have CK := Lib.hid (fun w => LChk_any x y z t w)
  rcases lt_or (x, y) (z, t) with h | h
  rotate_left
  · have S := Lib.hid (fun w => Short_no x y z t w h)
    have A := Lib.hid (fun w => Area_no x y z t w h)
    have H := Lib.hid (fun w => LHas_no x y z t p q w h)
    have ER := Lib.hid (fun w' (k : Kp w w') => error_says (lcd (x, y) (z, t)) w' (laid_kp HL.out k) (lcd_le _ _))
    have e0 : ((lcd (x, y) (z, t) : Int) == 0) = false := by rw [beq_eq_false_iff_ne]; omega
    generalize lcd (x, y) (z, t) = cc at *
    obtain ⟨ev, hev⟩ : ∃ ev, ev = errOf cc := ⟨_, rfl⟩
    rw [← hev] at CK S A H ER
    clear h hev
    go_enter Tryd.func3, Tryd.ntmps3
    go_wp2_with fail
    refine (VC.out _).mono ?_; rintro e w1 ⟨rfl, k1⟩
    have KK := Lib.hid (K0.out.trans k1)
    have C1 := Lib.hid (B1.out.keep k1)
    have C2 := Lib.hid (B2.out.keep k1)
    have C3 := Lib.hid (B3.out.keep k1)
    have r1a := C1.out.c1
    have r1b := C1.out.c2
    have r2a := C2.out.c1
    have r2b := C2.out.c2
    have r3a := C3.out.c1
    have r3b := C3.out.c2
    dsimp only at r1a r1b r2a r2b r3a r3b
    clear k1
    go_wp2_with fail
    refine (CK.out _).mono ?_; rintro e w1 ⟨rfl, k1⟩
    have KK := Lib.hid (KK.out.trans k1)
    clear r1a r1b r2a r2b r3a r3b
    have C1 := Lib.hid (C1.out.keep k1)
    have C2 := Lib.hid (C2.out.keep k1)
    have C3 := Lib.hid (C3.out.keep k1)
    have r1a := C1.out.c1
    have r1b := C1.out.c2
    have r2a := C2.out.c1
    have r2b := C2.out.c2
    have r3a := C3.out.c1
    have r3b := C3.out.c2
    dsimp only at r1a r1b r2a r2b r3a r3b
    clear k1
    go_wp2_with fail
    refine (ER.out _ KK.out).mono ?_; rintro e w1 ⟨rfl, k1⟩
    have KK := Lib.hid (KK.out.trans k1)
    clear r1a r1b r2a r2b r3a r3b
    have C1 := Lib.hid (C1.out.keep k1)
    have C2 := Lib.hid (C2.out.keep k1)
    have C3 := Lib.hid (C3.out.keep k1)
    have r1a := C1.out.c1
    have r1b := C1.out.c2
    have r2a := C2.out.c1
    have r2b := C2.out.c2
    have r3a := C3.out.c1
    have r3b := C3.out.c2
    dsimp only at r1a r1b r2a r2b r3a r3b
    clear k1
    go_wp2_with fail
    refine (S.out _).mono ?_; rintro e w1 ⟨rfl, k1⟩
    have KK := Lib.hid (KK.out.trans k1)
    clear r1a r1b r2a r2b r3a r3b
    have C1 := Lib.hid (C1.out.keep k1)
    have C2 := Lib.hid (C2.out.keep k1)
    have C3 := Lib.hid (C3.out.keep k1)
    have r1a := C1.out.c1
    have r1b := C1.out.c2
    have r2a := C2.out.c1
    have r2b := C2.out.c2
    have r3a := C3.out.c1
    have r3b := C3.out.c2
    dsimp only at r1a r1b r2a r2b r3a r3b
    clear k1
    go_wp2_with fail
    refine (ER.out _ KK.out).mono ?_; rintro e w1 ⟨rfl, k1⟩
    have KK := Lib.hid (KK.out.trans k1)
    clear r1a r1b r2a r2b r3a r3b
    have C1 := Lib.hid (C1.out.keep k1)
    have C2 := Lib.hid (C2.out.keep k1)
    have C3 := Lib.hid (C3.out.keep k1)
    have r1a := C1.out.c1
    have r1b := C1.out.c2
    have r2a := C2.out.c1
    have r2b := C2.out.c2
    have r3a := C3.out.c1
    have r3b := C3.out.c2
    dsimp only at r1a r1b r2a r2b r3a r3b
    clear k1
    go_wp2_with fail
    refine (A.out _).mono ?_; rintro e w1 ⟨rfl, k1⟩
    have KK := Lib.hid (KK.out.trans k1)
    clear r1a r1b r2a r2b r3a r3b
    have C1 := Lib.hid (C1.out.keep k1)
    have C2 := Lib.hid (C2.out.keep k1)
    have C3 := Lib.hid (C3.out.keep k1)
    have r1a := C1.out.c1
    have r1b := C1.out.c2
    have r2a := C2.out.c1
    have r2b := C2.out.c2
    have r3a := C3.out.c1
    have r3b := C3.out.c2
    dsimp only at r1a r1b r2a r2b r3a r3b
    clear k1
    go_wp2_with fail
    refine (ER.out _ KK.out).mono ?_; rintro e w1 ⟨rfl, k1⟩
    have KK := Lib.hid (KK.out.trans k1)
    clear r1a r1b r2a r2b r3a r3b
    have C1 := Lib.hid (C1.out.keep k1)
    have C2 := Lib.hid (C2.out.keep k1)
    have C3 := Lib.hid (C3.out.keep k1)
    have r1a := C1.out.c1
    have r1b := C1.out.c2
    have r2a := C2.out.c1
    have r2b := C2.out.c2
    have r3a := C3.out.c1
    have r3b := C3.out.c2
    dsimp only at r1a r1b r2a r2b r3a r3b
    clear k1
    go_wp2_with fail
    refine (H.out _).mono ?_; rintro e w1 ⟨rfl, k1⟩
    have KK := Lib.hid (KK.out.trans k1)
    clear r1a r1b r2a r2b r3a r3b
    have C1 := Lib.hid (C1.out.keep k1)
    have C2 := Lib.hid (C2.out.keep k1)
    have C3 := Lib.hid (C3.out.keep k1)
    have r1a := C1.out.c1
    have r1b := C1.out.c2
    have r2a := C2.out.c1
    have r2b := C2.out.c2
    have r3a := C3.out.c1
    have r3b := C3.out.c2
    dsimp only at r1a r1b r2a r2b r3a r3b
    clear k1
    go_wp2_with fail
    refine (ER.out _ KK.out).mono ?_; rintro e w1 ⟨rfl, k1⟩
    have KK := Lib.hid (KK.out.trans k1)
    clear r1a r1b r2a r2b r3a r3b
    have C1 := Lib.hid (C1.out.keep k1)
    have C2 := Lib.hid (C2.out.keep k1)
    have C3 := Lib.hid (C3.out.keep k1)
    have r1a := C1.out.c1
    have r1b := C1.out.c2
    have r2a := C2.out.c1
    have r2b := C2.out.c2
    have r3a := C3.out.c1
    have r3b := C3.out.c2
    dsimp only at r1a r1b r2a r2b r3a r3b
    clear k1
    go_wp2_with fail
    go_ret
    exact ⟨rfl, KK.out⟩
  have S := Lib.hid (fun w => Short_ok x y z t w h)
  have A := Lib.hid (fun w => Area_ok x y z t w h)
  have ER := Lib.hid (fun w' (k : Kp w w') => error_says 0 w' (laid_kp HL.out k) (by decide))
  have E1 := Lib.hid (fun w' (k : Kp w w') => error_says 1 w' (laid_kp HL.out k) (by decide))
  rw [h.lcd] at VC CK
  rw [errOf_zero] at CK ER
  rw [errOf_ne 1 (by decide)] at E1
  have LO := Lib.hid (fun w o => LHas_ok x y z t p q w h o)
  have LX := Lib.hid (fun w o => LHas_out x y z t p q w h o)
  rw [errOf_ne 1 (by decide)] at LX
  have HE := Lib.hid ((hasB_iff h.ne (p, q)).trans (latS x y z t p q).symm)
  obtain ⟨⟨u1, u2⟩, ⟨u3, u4⟩⟩ := And.intro (okv_iff.1 h.one) (okv_iff.1 h.two)
  dsimp only at u1 u2 u3 u4
  have SM := Lib.hid (fun (A B : Option Addr) (w : World) (ha : LiesM w A (Mx.tab 2 2 (n22 x y z t))) (hb : Lies w B [p, q]) (hy : (-1000 ≤ p ∧ p ≤ 1000) ∧ (-1000 ≤ q ∧ q ≤ 1000)) =>
    rSumB_any (n := 2) (f := n22 x y z t) 1000 (by decide) (by decide) (by decide) (by decide) (fun i j hi hj => by
      have h1 : i = 0 ∨ i = 1 := by omega
      have h2 : j = 0 ∨ j = 1 := by omega
      rcases h1 with rfl | rfl <;> rcases h2 with rfl | rfl
      · exact ab_le u1
      · exact ab_le u2
      · exact ab_le u3
      · exact ab_le u4) (by rw [show Zx.dt 2 (n22 x y z t) = ar (x, y) (z, t) from Zx.dt_2 _]; exact h.ne) A B (c2s p q) 2 2 w ha hb (by decide) (fun j hj => by
      have h2 : j = 0 ∨ j = 1 := by omega
      rcases h2 with rfl | rfl
      · exact ab_le hy.1
      · exact ab_le hy.2))
  have m1 := Lag.prod_le 1000 1000 u1 u1
  have m2 := Lag.prod_le 1000 1000 u2 u2
  have m3 := Lag.prod_le 1000 1000 u3 u3
  have m4 := Lag.prod_le 1000 1000 u4 u4
  have m5 := Lag.prod_le 1000 1000 u1 u3
  have m6 := Lag.prod_le 1000 1000 u2 u4
  have o1 := Lag.prod_le 1000 1000 u1 u4
  have o2 := Lag.prod_le 1000 1000 u2 u3
  have RS := Lib.hid (fun w => rShort_any (u := (x, y)) (v := (z, t)) _ _ _ w (Lag.Fo.start (x, y) (z, t)) h.ne (okv_nn h.one) (okv_nn h.two))
  have AB := Lib.hid (fun w => absN_any (ar (x, y) (z, t)) w (by unfold ar; dsimp only; omega) (by unfold ar; dsimp only; omega))
  have HX := Lib.hid (fun (w2 : World) => lit22_lies w2 w2.heap.size x y z t rfl)
  obtain ⟨a, ha⟩ : ∃ a, a = nn (x, y) := ⟨_, rfl⟩
  obtain ⟨b, hb⟩ : ∃ b, b = ip (x, y) (z, t) := ⟨_, rfl⟩
  obtain ⟨c, hc⟩ : ∃ c, c = nn (z, t) := ⟨_, rfl⟩
  obtain ⟨d, hd⟩ : ∃ d, d = ar (x, y) (z, t) := ⟨_, rfl⟩
  rw [← ha, ← hb, ← hc] at RS
  rw [← hd] at AB A
  unfold nn at ha hc
  unfold ip at hb
  unfold ar at hd
  dsimp only at ha hb hc hd
  have v1 : IntKind.i64.wrap (x * x) = x * x := IntWalk.i64_in _ (by omega)
  have v2 : IntKind.i64.wrap (y * y) = y * y := IntWalk.i64_in _ (by omega)
  have v3 : IntKind.i64.wrap (z * z) = z * z := IntWalk.i64_in _ (by omega)
  have v4 : IntKind.i64.wrap (t * t) = t * t := IntWalk.i64_in _ (by omega)
  have v5 : IntKind.i64.wrap (x * z) = x * z := IntWalk.i64_in _ (by omega)
  have v6 : IntKind.i64.wrap (y * t) = y * t := IntWalk.i64_in _ (by omega)
  have v7 : IntKind.i64.wrap (x * x + y * y) = a := by rw [ha]; exact IntWalk.i64_in _ (by omega)
  have v8 : IntKind.i64.wrap (x * z + y * t) = b := by rw [hb]; exact IntWalk.i64_in _ (by omega)
  have v9 : IntKind.i64.wrap (z * z + t * t) = c := by rw [hc]; exact IntWalk.i64_in _ (by omega)
  have v10 : IntKind.i64.wrap (2 * b) = 2 * b := IntWalk.i64_in _ (by omega)
  have v11 : IntKind.i64.wrap (x * t) = x * t := IntWalk.i64_in _ (by omega)
  have v12 : IntKind.i64.wrap (y * z) = y * z := IntWalk.i64_in _ (by omega)
  have v13 : IntKind.i64.wrap (x * t - y * z) = d := by rw [hd]; exact IntWalk.i64_in _ (by omega)
  have IP := Lib.hid (fun w => law4In_any p (-1000) 1000 w (okc p) rfl)
  have IQ := Lib.hid (fun w => law4In_any q (-1000) 1000 w (okc q) rfl)
  generalize (d.natAbs : Int) = n at *
  clear u1 u2 u3 u4 m1 m2 m3 m4 m5 m6 o1 o2 ha hb hc hd h
  go_enter Tryd.func3, Tryd.ntmps3
  go_wp2_with fail
  refine (VC.out _).mono ?_; rintro e w1 ⟨rfl, k1⟩
  have KK := Lib.hid (K0.out.trans k1)
  have C1 := Lib.hid (B1.out.keep k1)
  have C2 := Lib.hid (B2.out.keep k1)
  have C3 := Lib.hid (B3.out.keep k1)
  have r1a := C1.out.c1
  have r1b := C1.out.c2
  have r2a := C2.out.c1
  have r2b := C2.out.c2
  have r3a := C3.out.c1
  have r3b := C3.out.c2
  dsimp only at r1a r1b r2a r2b r3a r3b
  clear k1
  go_wp2_with fail
  refine (CK.out _).mono ?_; rintro e w1 ⟨rfl, k1⟩
  have KK := Lib.hid (KK.out.trans k1)
  clear r1a r1b r2a r2b r3a r3b
  have C1 := Lib.hid (C1.out.keep k1)
  have C2 := Lib.hid (C2.out.keep k1)
  have C3 := Lib.hid (C3.out.keep k1)
  have r1a := C1.out.c1
  have r1b := C1.out.c2
  have r2a := C2.out.c1
  have r2b := C2.out.c2
  have r3a := C3.out.c1
  have r3b := C3.out.c2
  dsimp only at r1a r1b r2a r2b r3a r3b
  clear k1
  go_wp2_with fail
  refine (ER.out _ KK.out).mono ?_; rintro e w1 ⟨rfl, k1⟩
  have KK := Lib.hid (KK.out.trans k1)
  clear r1a r1b r2a r2b r3a r3b
  have C1 := Lib.hid (C1.out.keep k1)
  have C2 := Lib.hid (C2.out.keep k1)
  have C3 := Lib.hid (C3.out.keep k1)
  have r1a := C1.out.c1
  have r1b := C1.out.c2
  have r2a := C2.out.c1
  have r2b := C2.out.c2
  have r3a := C3.out.c1
  have r3b := C3.out.c2
  dsimp only at r1a r1b r2a r2b r3a r3b
  clear k1
  go_wp2_with fail
  refine (RS.out _).mono ?_; rintro e w1 ⟨p1, q1, rfl, g1, k1⟩
  have KK := Lib.hid (KK.out.trans k1)
  clear r1a r1b r2a r2b r3a r3b
  have C1 := Lib.hid (C1.out.keep k1)
  have C2 := Lib.hid (C2.out.keep k1)
  have C3 := Lib.hid (C3.out.keep k1)
  have r1a := C1.out.c1
  have r1b := C1.out.c2
  have r2a := C2.out.c1
  have r2b := C2.out.c2
  have r3a := C3.out.c1
  have r3b := C3.out.c2
  dsimp only at r1a r1b r2a r2b r3a r3b
  have G1 := Lib.hid g1
  clear g1
  clear k1
  go_wp2_with fail
  refine (AB.out _).mono ?_; rintro e wn ⟨rfl, rfl⟩
  go_wp2_with fail
  refine (S.out _).mono ?_; rintro e w1 ⟨p2, q2, rfl, g2, k1⟩
  have KK := Lib.hid (KK.out.trans k1)
  clear r1a r1b r2a r2b r3a r3b
  have C1 := Lib.hid (C1.out.keep k1)
  have C2 := Lib.hid (C2.out.keep k1)
  have C3 := Lib.hid (C3.out.keep k1)
  have r1a := C1.out.c1
  have r1b := C1.out.c2
  have r2a := C2.out.c1
  have r2b := C2.out.c2
  have r3a := C3.out.c1
  have r3b := C3.out.c2
  dsimp only at r1a r1b r2a r2b r3a r3b
  obtain ⟨rfl, rfl⟩ := g2.one G1.out
  clear g2 G1
  clear k1
  have ea : (p2 == p2) = true := beq_self_eq_true _
  have eb : (q2 == q2) = true := beq_self_eq_true _
  have en : (n == n) = true := beq_self_eq_true _
  go_wp2_with fail
  refine (ER.out _ KK.out).mono ?_; rintro e w1 ⟨rfl, k1⟩
  have KK := Lib.hid (KK.out.trans k1)
  clear r1a r1b r2a r2b r3a r3b
  have C1 := Lib.hid (C1.out.keep k1)
  have C2 := Lib.hid (C2.out.keep k1)
  have C3 := Lib.hid (C3.out.keep k1)
  have r1a := C1.out.c1
  have r1b := C1.out.c2
  have r2a := C2.out.c1
  have r2b := C2.out.c2
  have r3a := C3.out.c1
  have r3b := C3.out.c2
  dsimp only at r1a r1b r2a r2b r3a r3b
  clear k1
  go_wp2_with fail
  refine (A.out _).mono ?_; rintro e w1 ⟨rfl, k1⟩
  have KK := Lib.hid (KK.out.trans k1)
  clear r1a r1b r2a r2b r3a r3b
  have C1 := Lib.hid (C1.out.keep k1)
  have C2 := Lib.hid (C2.out.keep k1)
  have C3 := Lib.hid (C3.out.keep k1)
  have r1a := C1.out.c1
  have r1b := C1.out.c2
  have r2a := C2.out.c1
  have r2b := C2.out.c2
  have r3a := C3.out.c1
  have r3b := C3.out.c2
  dsimp only at r1a r1b r2a r2b r3a r3b
  clear k1
  go_wp2_with fail
  refine (ER.out _ KK.out).mono ?_; rintro e w1 ⟨rfl, k1⟩
  have KK := Lib.hid (KK.out.trans k1)
  clear r1a r1b r2a r2b r3a r3b
  have C1 := Lib.hid (C1.out.keep k1)
  have C2 := Lib.hid (C2.out.keep k1)
  have C3 := Lib.hid (C3.out.keep k1)
  have r1a := C1.out.c1
  have r1b := C1.out.c2
  have r2a := C2.out.c1
  have r2b := C2.out.c2
  have r3a := C3.out.c1
  have r3b := C3.out.c2
  dsimp only at r1a r1b r2a r2b r3a r3b
  clear k1
  clear v1 v2 v3 v4 v5 v6 v7 v8 v9 v10 v11 v12 v13
  cases h1 : okc p
  · have H := Lib.hid (fun w => LX.out w (by rw [okv_okc, h1]; rfl))
    rw [h1] at IP
    clear h1
    go_wp2_with fail
    refine (IP.out _).mono ?_; rintro e wn ⟨rfl, rfl⟩
    go_wp2_with fail
    refine (H.out _).mono ?_; rintro e w1 ⟨rfl, k1⟩
    have KK := Lib.hid (KK.out.trans k1)
    clear r1a r1b r2a r2b r3a r3b
    have C1 := Lib.hid (C1.out.keep k1)
    have C2 := Lib.hid (C2.out.keep k1)
    have C3 := Lib.hid (C3.out.keep k1)
    have r1a := C1.out.c1
    have r1b := C1.out.c2
    have r2a := C2.out.c1
    have r2b := C2.out.c2
    have r3a := C3.out.c1
    have r3b := C3.out.c2
    dsimp only at r1a r1b r2a r2b r3a r3b
    clear k1
    go_wp2_with fail
    refine (E1.out _ KK.out).mono ?_; rintro e w1 ⟨rfl, k1⟩
    have KK := Lib.hid (KK.out.trans k1)
    clear r1a r1b r2a r2b r3a r3b
    have C1 := Lib.hid (C1.out.keep k1)
    have C2 := Lib.hid (C2.out.keep k1)
    have C3 := Lib.hid (C3.out.keep k1)
    have r1a := C1.out.c1
    have r1b := C1.out.c2
    have r2a := C2.out.c1
    have r2b := C2.out.c2
    have r3a := C3.out.c1
    have r3b := C3.out.c2
    dsimp only at r1a r1b r2a r2b r3a r3b
    clear k1
    go_wp2_with fail
    go_ret
    exact ⟨rfl, KK.out⟩
  cases h2 : okc q
  · have H := Lib.hid (fun w => LX.out w (by rw [okv_okc, h1, h2]; rfl))
    rw [h1] at IP
    rw [h2] at IQ
    clear h1 h2
    go_wp2_with fail
    refine (IP.out _).mono ?_; rintro e wn ⟨rfl, rfl⟩
    go_wp2_with fail
    refine (IQ.out _).mono ?_; rintro e wn ⟨rfl, rfl⟩
    go_wp2_with fail
    refine (H.out _).mono ?_; rintro e w1 ⟨rfl, k1⟩
    have KK := Lib.hid (KK.out.trans k1)
    clear r1a r1b r2a r2b r3a r3b
    have C1 := Lib.hid (C1.out.keep k1)
    have C2 := Lib.hid (C2.out.keep k1)
    have C3 := Lib.hid (C3.out.keep k1)
    have r1a := C1.out.c1
    have r1b := C1.out.c2
    have r2a := C2.out.c1
    have r2b := C2.out.c2
    have r3a := C3.out.c1
    have r3b := C3.out.c2
    dsimp only at r1a r1b r2a r2b r3a r3b
    clear k1
    go_wp2_with fail
    refine (E1.out _ KK.out).mono ?_; rintro e w1 ⟨rfl, k1⟩
    have KK := Lib.hid (KK.out.trans k1)
    clear r1a r1b r2a r2b r3a r3b
    have C1 := Lib.hid (C1.out.keep k1)
    have C2 := Lib.hid (C2.out.keep k1)
    have C3 := Lib.hid (C3.out.keep k1)
    have r1a := C1.out.c1
    have r1b := C1.out.c2
    have r2a := C2.out.c1
    have r2b := C2.out.c2
    have r3a := C3.out.c1
    have r3b := C3.out.c2
    dsimp only at r1a r1b r2a r2b r3a r3b
    clear k1
    go_wp2_with fail
    go_ret
    exact ⟨rfl, KK.out⟩
  have H := Lib.hid (fun w => LO.out w (by rw [okv_okc, h1, h2]; rfl))
  have SS := Lib.hid (fun (w2 : World) => SM.out (some ⟨w2.heap.size + 1 + 1, 0, none⟩) (some ⟨w2.heap.size + 1 + 1 + 1, 0, none⟩) ((lit22 w2 w2.heap.size x y z t).alloc (.cells #[.int .i64 p, .int .i64 q] 3)) ((HX.out w2).keep ((Kp.rfl' _).new _)) (lies_new' (lit22 w2 w2.heap.size x y z t) 3 [p, q] _ (lit22_size _ _ _ _ _ _).symm) ⟨okc_iff.1 h1, okc_iff.1 h2⟩)
  have KR := Lib.hid (fun (w2 : World) => (lit22_kp w2 w2.heap.size x y z t).new (.cells #[.int .i64 p, .int .i64 q] 3))
  rw [h1] at IP
  rw [h2] at IQ
  generalize hasB (x, y) (z, t) (p, q) = hb at *
  clear h1 h2 SM HX LO LX
  go_wp2_with fail
  refine (IP.out _).mono ?_; rintro e wn ⟨rfl, rfl⟩
  go_wp2_with fail
  refine (IQ.out _).mono ?_; rintro e wn ⟨rfl, rfl⟩
  have s2a := (C2.out.keep ((Kp.rfl' w1).new (.cells #[.int .i64 x, .int .i64 y] 3))).c1
  have s2b := (C2.out.keep ((Kp.rfl' w1).new (.cells #[.int .i64 x, .int .i64 y] 3))).c2
  have s3a := (C3.out.keep (lit22_kp w1 w1.heap.size x y z t)).c1
  have s3b := (C3.out.keep (lit22_kp w1 w1.heap.size x y z t)).c2
  dsimp only at s2a s2b s3a s3b
  go_wp2_with fail
  refine (SS.out _).mono ?_; rintro e w2 ⟨ht, k2⟩
  obtain ⟨bb, rfl, hbb⟩ : ∃ bb : Bool, e = .returned (.bool bb) ∧ (bb = true ↔ Zx.Lat 2 (n22 x y z t) (c2s p q)) := by
    rcases ht with ⟨a1, a2⟩ | ⟨a1, a2⟩
    · exact ⟨true, a2, by simp [a1]⟩
    · exact ⟨false, a2, by simp [a1]⟩
  obtain rfl : hb = bb := by rw [Bool.eq_iff_iff, HE.out, hbb]
  have k1 := (KR.out w1).trans k2
  have KK := Lib.hid (KK.out.trans k1)
  clear r1a r1b r2a r2b r3a r3b s2a s2b s3a s3b ht hbb k2
  have C1 := Lib.hid (C1.out.keep k1)
  have C2 := Lib.hid (C2.out.keep k1)
  have C3 := Lib.hid (C3.out.keep k1)
  have r1a := C1.out.c1
  have r1b := C1.out.c2
  have r2a := C2.out.c1
  have r2b := C2.out.c2
  have r3a := C3.out.c1
  have r3b := C3.out.c2
  dsimp only at r1a r1b r2a r2b r3a r3b
  clear k1
  go_wp2_with fail
  refine (H.out _).mono ?_; rintro e w1 ⟨rfl, k1⟩
  have KK := Lib.hid (KK.out.trans k1)
  clear r1a r1b r2a r2b r3a r3b
  have C1 := Lib.hid (C1.out.keep k1)
  have C2 := Lib.hid (C2.out.keep k1)
  have C3 := Lib.hid (C3.out.keep k1)
  have r1a := C1.out.c1
  have r1b := C1.out.c2
  have r2a := C2.out.c1
  have r2b := C2.out.c2
  have r3a := C3.out.c1
  have r3b := C3.out.c2
  dsimp only at r1a r1b r2a r2b r3a r3b
  clear k1
  go_wp2_with fail
  refine (ER.out _ KK.out).mono ?_; rintro e w1 ⟨rfl, k1⟩
  have KK := Lib.hid (KK.out.trans k1)
  clear r1a r1b r2a r2b r3a r3b
  have C1 := Lib.hid (C1.out.keep k1)
  have C2 := Lib.hid (C2.out.keep k1)
  have C3 := Lib.hid (C3.out.keep k1)
  have r1a := C1.out.c1
  have r1b := C1.out.c2
  have r2a := C2.out.c1
  have r2b := C2.out.c2
  have r3a := C3.out.c1
  have r3b := C3.out.c2
  dsimp only at r1a r1b r2a r2b r3a r3b
  clear k1
  go_wp2_with fail
  go_ret
  exact ⟨rfl, KK.out⟩
end Go.Proofs.YtlnehhhlpdaebaaDoor
