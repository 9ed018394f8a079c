/- The contract of the document's Vecs. -/
import Derived.Test.YtlnehhhlpdaebaaDoorLtC2
import Derived.Test.YtlnehhhlpdaebaaDoorLawIn
namespace Go.Proofs.YtlnehhhlpdaebaaDoor
open Go.ChangeShapes Go.WideShapes Go.ChangeAt Go.RowKit
open Lag (V nn ip ar cb)
set_option linter.unusedVariables false

theorem lcd_bad {u v : V} (h : (okv u && okv v) = false) : lcd u v = 1 := by unfold lcd; rw [h]; rfl
set_option maxHeartbeats 3200000 in
theorem rVecs_any (x y z t : Int) (w : World) :
    Calls Tryd.prog 4 #[.agg #[.int .i64 x, .int .i64 y], .agg #[.int .i64 z, .int .i64 t]] w fun e w' => e = .returned (.int .i64 (lcd (x, y) (z, t) : Int)) ∧ Kp w w' := by
  have K0 := Lib.hid (((Kp.rfl' w).new (.cells #[.int .i64 x, .int .i64 y] 23)).new (.cells #[.int .i64 z, .int .i64 t] 23))
  have I0 := Lib.hid (fun w => ref3In_any x (-1000) 1000 w (okc x) rfl)
  have I1 := Lib.hid (fun w => ref3In_any y (-1000) 1000 w (okc y) rfl)
  have I2 := Lib.hid (fun w => ref3In_any z (-1000) 1000 w (okc z) rfl)
  have I3 := Lib.hid (fun w => ref3In_any t (-1000) 1000 w (okc t) rfl)
  have OK := Lib.hid (show (okv (x, y) && okv (z, t)) = ((okc x && okc y) && (okc z && okc t)) from rfl)
  cases h0 : okc x
  · have L := Lib.hid (lcd_bad (u := (x, y)) (v := (z, t)) (by rw [OK.out, h0]; simp))
    generalize lcd (x, y) (z, t) = cc at *
    rw [h0] at I0
    clear OK h0
    go_enter Tryd.func4, Tryd.ntmps4
    go_wp2_with fail
    refine (I0.out _).mono ?_; rintro e w1 ⟨rfl, rfl⟩
    go_wp2_with fail
    go_ret
    exact ⟨ret_int (by rw [L.out]; rfl), K0.out⟩
  cases h1 : okc y
  · have L := Lib.hid (lcd_bad (u := (x, y)) (v := (z, t)) (by rw [OK.out, h0, h1]; simp))
    generalize lcd (x, y) (z, t) = cc at *
    rw [h0] at I0
    rw [h1] at I1
    clear OK h0 h1
    go_enter Tryd.func4, Tryd.ntmps4
    go_wp2_with fail
    refine (I0.out _).mono ?_; rintro e w1 ⟨rfl, rfl⟩
    go_wp2_with fail
    refine (I1.out _).mono ?_; rintro e w1 ⟨rfl, rfl⟩
    go_wp2_with fail
    go_ret
    exact ⟨ret_int (by rw [L.out]; rfl), K0.out⟩
  cases h2 : okc z
  · have L := Lib.hid (lcd_bad (u := (x, y)) (v := (z, t)) (by rw [OK.out, h0, h1, h2]; simp))
    generalize lcd (x, y) (z, t) = cc at *
    rw [h0] at I0
    rw [h1] at I1
    rw [h2] at I2
    clear OK h0 h1 h2
    go_enter Tryd.func4, Tryd.ntmps4
    go_wp2_with fail
    refine (I0.out _).mono ?_; rintro e w1 ⟨rfl, rfl⟩
    go_wp2_with fail
    refine (I1.out _).mono ?_; rintro e w1 ⟨rfl, rfl⟩
    go_wp2_with fail
    refine (I2.out _).mono ?_; rintro e w1 ⟨rfl, rfl⟩
    go_wp2_with fail
    go_ret
    exact ⟨ret_int (by rw [L.out]; rfl), K0.out⟩
  cases h3 : okc t
  · have L := Lib.hid (lcd_bad (u := (x, y)) (v := (z, t)) (by rw [OK.out, h0, h1, h2, h3]; simp))
    generalize lcd (x, y) (z, t) = cc at *
    rw [h0] at I0
    rw [h1] at I1
    rw [h2] at I2
    rw [h3] at I3
    clear OK h0 h1 h2 h3
    go_enter Tryd.func4, Tryd.ntmps4
    go_wp2_with fail
    refine (I0.out _).mono ?_; rintro e w1 ⟨rfl, rfl⟩
    go_wp2_with fail
    refine (I1.out _).mono ?_; rintro e w1 ⟨rfl, rfl⟩
    go_wp2_with fail
    refine (I2.out _).mono ?_; rintro e w1 ⟨rfl, rfl⟩
    go_wp2_with fail
    refine (I3.out _).mono ?_; rintro e w1 ⟨rfl, rfl⟩
    go_wp2_with fail
    go_ret
    exact ⟨ret_int (by rw [L.out]; rfl), K0.out⟩
  rw [h0] at I0
  rw [h1] at I1
  rw [h2] at I2
  rw [h3] at I3
  have OT := show (okv (x, y) && okv (z, t)) = true by rw [OK.out, h0, h1, h2, h3]; rfl
  have L := Lib.hid (show lcd (x, y) (z, t) = if ar (x, y) (z, t) = 0 then 6 else 0 by unfold lcd; rw [OT]; exact if_pos rfl)
  have AR := Lib.hid (show ar (x, y) (z, t) = x * t - y * z from rfl)
  have p1 := Lag.prod_le 1000 1000 (okc_iff.1 h0) (okc_iff.1 h3)
  have p2 := Lag.prod_le 1000 1000 (okc_iff.1 h1) (okc_iff.1 h2)
  have w1 : IntKind.i64.wrap (x * t) = x * t := IntWalk.i64_in _ (by omega)
  have w2 : IntKind.i64.wrap (y * z) = y * z := IntWalk.i64_in _ (by omega)
  generalize lcd (x, y) (z, t) = cc at *
  generalize ar (x, y) (z, t) = D at *
  clear OK OT h0 h1 h2 h3 p1 p2
  by_cases hd : x * t = y * z
  · have e0 : (x * t == y * z) = true := by rw [beq_iff_eq]; exact hd
    have L2 := Lib.hid (show cc = 6 by rw [L.out, if_pos (by rw [AR.out]; omega)])
    clear hd L AR
    go_enter Tryd.func4, Tryd.ntmps4
    go_wp2_with fail
    refine (I0.out _).mono ?_; rintro e w1 ⟨rfl, rfl⟩
    go_wp2_with fail
    refine (I1.out _).mono ?_; rintro e w1 ⟨rfl, rfl⟩
    go_wp2_with fail
    refine (I2.out _).mono ?_; rintro e w1 ⟨rfl, rfl⟩
    go_wp2_with fail
    refine (I3.out _).mono ?_; rintro e w1 ⟨rfl, rfl⟩
    go_wp2_with fail
    go_ret
    exact ⟨ret_int (by rw [L2.out]; rfl), K0.out⟩
  · have e0 : (x * t == y * z) = false := by rw [beq_eq_false_iff_ne]; exact hd
    have L2 := Lib.hid (show cc = 0 by rw [L.out, if_neg (by rw [AR.out]; omega)])
    clear hd L AR
    go_enter Tryd.func4, Tryd.ntmps4
    go_wp2_with fail
    refine (I0.out _).mono ?_; rintro e w1 ⟨rfl, rfl⟩
    go_wp2_with fail
    refine (I1.out _).mono ?_; rintro e w1 ⟨rfl, rfl⟩
    go_wp2_with fail
    refine (I2.out _).mono ?_; rintro e w1 ⟨rfl, rfl⟩
    go_wp2_with fail
    refine (I3.out _).mono ?_; rintro e w1 ⟨rfl, rfl⟩
    go_wp2_with fail
    go_ret
    exact ⟨ret_int (by rw [L2.out]; rfl), K0.out⟩
end Go.Proofs.YtlnehhhlpdaebaaDoor
