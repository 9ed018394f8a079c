/- The contract of lattice.Short. -/
import Derived.Test.YtlnehhhlpdaebaaLtC2
namespace Go.Proofs.Ytlnehhhlpdaebaa
open Go.ChangeShapes Go.WideShapes Go.ChangeAt Go.RowKit
open Lag (V nn ip ar cb)
set_option linter.unusedVariables false

theorem Short_no (x y z t : Int) (w : World) (h : lcd (x, y) (z, t) ≠ 0) :
    Calls Try.prog 9 #[.agg #[.int .i64 x, .int .i64 y], .agg #[.int .i64 z, .int .i64 t]] w fun e w' => e = .returned (.tuple #[.int .i64 0, .int .i64 0, errOf (lcd (x, y) (z, t))]) ∧ Kp w w' := by
  have C := Lib.hid (fun w => LChk_any x y z t w)
  rw [errOf_ne _ h] at C ⊢
  have K0 := Lib.hid (((Kp.rfl' w).new (.cells #[.int .i64 x, .int .i64 y] 23)).new (.cells #[.int .i64 z, .int .i64 t] 23))
  generalize lcd (x, y) (z, t) = c at *
  clear h
  go_enter Try.func9, Try.ntmps9
  go_wp2_with fail
  refine (C.out _).mono ?_; rintro e w1 ⟨rfl, k1⟩
  have K1 := Lib.hid (K0.out.trans k1)
  clear k1
  go_wp2_with fail
  exact bodyPost_ret (v := .tuple #[.int .i64 0, .int .i64 0, .iface 51 (.int .i64 (c : Int))]) (by simp [results, Try.results9, go_sem]) rfl ⟨rfl, K1.out⟩

/-- What Short says of two good places. -/
def SaysS (u v : V) (w : World) (e : Ending) (w' : World) : Prop := ∃ a c : Int, e = .returned (.tuple #[.int .i64 a, .int .i64 c, .nilIface]) ∧ Lag.GotS u v a c ∧ Kp w w'

set_option maxHeartbeats 3200000 in
theorem Short_ok (x y z t : Int) (w : World) (h : Lt (x, y) (z, t)) :
    Calls Try.prog 9 #[.agg #[.int .i64 x, .int .i64 y], .agg #[.int .i64 z, .int .i64 t]] w fun e w' => SaysS (x, y) (z, t) w e w' := by
  have C := Lib.hid (fun w => LChk_any x y z t w)
  rw [h.lcd, errOf_zero] at C
  have NE := Lib.hid h.ne
  have WY := Lib.hid h.way
  have K0 := Lib.hid (((Kp.rfl' w).new (.cells #[.int .i64 x, .int .i64 y] 23)).new (.cells #[.int .i64 z, .int .i64 t] 23))
  have B1 := Lib.hid ((VBox.made w (x, y) 23 _ rfl).keep ((Kp.rfl' _).new (.cells #[.int .i64 z, .int .i64 t] 23)))
  have B2 := Lib.hid (VBox.made (w.alloc (.cells #[.int .i64 x, .int .i64 y] 23)) (z, t) 23 (w.heap.size + 1) (by simp))
  clear h
  go_enter Try.func9, Try.ntmps9
  go_wp2_with fail
  refine (C.out _).mono ?_; rintro e w1 ⟨rfl, k1⟩
  have K1 := Lib.hid (K0.out.trans k1)
  have D1 := Lib.hid (B1.out.keep k1)
  have D2 := Lib.hid (B2.out.keep k1)
  clear k1 B1 B2 C K0
  go_wp2_with fail
  go_loopg [4] (nn (x, y)).toNat (fun q s wr => ∃ f g : V, s = .int .i64 0 ∧ VBox w.heap.size f wr ∧ VBox (w.heap.size + 1) g wr ∧ Kp w wr ∧ Lag.Way (x, y) (z, t) f g ∧ (nn f).toNat = q)
  case atStart => exact ⟨(x, y), (z, t), rfl, D1.out, D2.out, K1.out, WY.out, rfl⟩
  case round =>
    clear D1 D2 K1 WY
    obtain ⟨⟨f0, f1⟩, ⟨g0, g1⟩, rfl, b1, b2, k, wy, hq⟩ := hrel
    have BB1 := Lib.hid b1
    have BB2 := Lib.hid b2
    have KK := Lib.hid k
    have HQ := Lib.hid hq
    have WS := Lib.hid (wy.short NE.out)
    have PO := Lib.hid (wy.pos NE.out)
    have SH := Lib.hid (fun w => shortened_any f0 f1 g0 g1 w wy.one wy.two (wy.pos NE.out))
    have y1 := b1.c1
    have y2 := b1.c2
    have y3 := b2.c1
    have y4 := b2.c2
    clear b1 b2 k wy hq
    have hrl : Lag.shrt (f0, f1) (g0, g1) = ((Lag.shrt (f0, f1) (g0, g1)).1, (Lag.shrt (f0, f1) (g0, g1)).2) := rfl
    have GO := Lib.hid (fun hl => WS.out.got (x := (f0, f1)) (y := (g0, g1)) NE.out hl)
    rw [hrl] at SH WS GO
    generalize (Lag.shrt (f0, f1) (g0, g1)).1 = e0 at *
    generalize (Lag.shrt (f0, f1) (g0, g1)).2 = e1 at *
    unfold vv at SH
    dsimp only at SH y1 y2 y3 y4
    clear hrl
    have Q1 := Lib.hid (fun w => square_any f0 f1 w (nn_sid WS.out.one))
    have Q2 := Lib.hid (fun w => square_any e0 e1 w (nn_sid WS.out.two))
    go_wp2_with fail
    refine (SH.out _).mono ?_; rintro e w2 ⟨rfl, k2⟩
    have x1 := (BB2.out.keep k2).c1
    have x2 := (BB2.out.keep k2).c2
    have x3 := (BB2.out.keep k2).z1
    have x4 := (BB2.out.keep k2).z2
    dsimp only at x1 x2
    have sz1 : w.heap.size ≤ w.heap.size + 1 := by omega
    have E1 := Lib.hid (show VBox w.heap.size (f0, f1) ((w2.setCell ⟨w.heap.size + 1, 0, none⟩ (.int .i64 e0)).setCell ⟨w.heap.size + 1, 1, none⟩ (.int .i64 e1)) from (BB1.out.keep k2).far (by omega) _ _)
    have E2 := Lib.hid (show VBox (w.heap.size + 1) (e0, e1) ((w2.setCell ⟨w.heap.size + 1, 0, none⟩ (.int .i64 e0)).setCell ⟨w.heap.size + 1, 1, none⟩ (.int .i64 e1)) from (BB2.out.keep k2).put (e0, e1))
    have KP := Lib.hid (show Kp w ((w2.setCell ⟨w.heap.size + 1, 0, none⟩ (.int .i64 e0)).setCell ⟨w.heap.size + 1, 1, none⟩ (.int .i64 e1)) from ((KK.out.trans k2).put (p := ⟨w.heap.size + 1, 0, none⟩) sz1 (.int .i64 e0)).put (p := ⟨w.heap.size + 1, 1, none⟩) sz1 (.int .i64 e1))
    have SK := Lib.hid (fun (w' : World) (h : Kp ((w2.setCell ⟨w.heap.size + 1, 0, none⟩ (.int .i64 e0)).setCell ⟨w.heap.size + 1, 1, none⟩ (.int .i64 e1)) w') => cells4 E1.out E2.out h)
    have kd : Kp ((w2.setCell ⟨w.heap.size + 1, 0, none⟩ (.int .i64 e0)).setCell ⟨w.heap.size + 1, 1, none⟩ (.int .i64 e1)) ((w2.setCell ⟨w.heap.size + 1, 0, none⟩ (.int .i64 e0)).setCell ⟨w.heap.size + 1, 1, none⟩ (.int .i64 e1)).drew := (Kp.rfl' ((w2.setCell ⟨w.heap.size + 1, 0, none⟩ (.int .i64 e0)).setCell ⟨w.heap.size + 1, 1, none⟩ (.int .i64 e1))).drewN 1
    clear k2 y1 y2 y3 y4
    obtain ⟨bb, hbb⟩ : ∃ bb : Bool, bb = decide (nn (f0, f1) ≤ nn (e0, e1)) := ⟨_, rfl⟩
    have HB := Lib.hid hbb
    clear hbb
    go_upto_region 5 with (fail)
    go_cut [21] from 17 to 22 (fun p wc => p = .bool bb ∧ Kp ((w2.setCell ⟨w.heap.size + 1, 0, none⟩ (.int .i64 e0)).setCell ⟨w.heap.size + 1, 1, none⟩ (.int .i64 e1)) wc)
    case first =>
      go_region_held3 (fun w' => w'.cell? ⟨w.heap.size, 0, none⟩ = some (.int .i64 f0) ∧ w'.cell? ⟨w.heap.size, 1, none⟩ = some (.int .i64 f1) ∧ w'.cell? ⟨w.heap.size + 1, 0, none⟩ = some (.int .i64 e0) ∧ w'.cell? ⟨w.heap.size + 1, 1, none⟩ = some (.int .i64 e1) ∧ Kp ((w2.setCell ⟨w.heap.size + 1, 0, none⟩ (.int .i64 e0)).setCell ⟨w.heap.size + 1, 1, none⟩ (.int .i64 e1)) w')
        ((refine SK.out _ ?_; first | assumption | exact Kp.rfl' _))
        ((first
        | (go_at_call 22; (with_reducible refine (Q1.out _).mono ?_); rintro e w3 ⟨rfl, k3⟩; have T1 : Kp ((w2.setCell ⟨w.heap.size + 1, 0, none⟩ (.int .i64 e0)).setCell ⟨w.heap.size + 1, 1, none⟩ (.int .i64 e1)) w3 := Kp.trans (by assumption) k3)
        | (go_at_call 22; (with_reducible refine (Q2.out _).mono ?_); rintro e w4 ⟨rfl, k4⟩; have T2 : Kp ((w2.setCell ⟨w.heap.size + 1, 0, none⟩ (.int .i64 e0)).setCell ⟨w.heap.size + 1, 1, none⟩ (.int .i64 e1)) w4 := Kp.trans (by assumption) k4)))
      all_goals
        go_wp2_with fail
        go_meet
        case rel => exact ⟨by rw [HB.out], by first | exact T2 | exact T1⟩
    case rest =>
      obtain ⟨rfl, hk⟩ := hcut
      have F1 := Lib.hid (E1.out.keep hk)
      have F2 := Lib.hid (E2.out.keep hk)
      have KC := Lib.hid (KP.out.trans hk)
      have SC := Lib.hid (fun (w' : World) (h : Kp wc w') => cells4 F1.out F2.out h)
      have kc : Kp wc wc.drew := (Kp.rfl' wc).drewN 1
      clear hk kd x1 x2 x3 x4 SK E1 E2 KP
      by_cases hl : nn (f0, f1) ≤ nn (e0, e1)
      · have GT := Lib.hid (GO.out hl)
        obtain rfl : bb = true := HB.out.trans (decide_eq_true hl)
        clear hl GO HB
        go_wp2_with fail
        go_region_held3 (fun w' => w'.cell? ⟨w.heap.size, 0, none⟩ = some (.int .i64 f0) ∧ w'.cell? ⟨w.heap.size, 1, none⟩ = some (.int .i64 f1) ∧ w'.cell? ⟨w.heap.size + 1, 0, none⟩ = some (.int .i64 e0) ∧ w'.cell? ⟨w.heap.size + 1, 1, none⟩ = some (.int .i64 e1) ∧ Kp wc w')
          ((refine SC.out _ ?_; first | assumption | exact Kp.rfl' _))
          ((first
          | (go_at_call 22; (with_reducible refine (Q1.out _).mono ?_); rintro e w3 ⟨rfl, k3⟩; have T1 : Kp wc w3 := Kp.trans (by assumption) k3)
          | (go_at_call 22; (with_reducible refine (Q2.out _).mono ?_); rintro e w4 ⟨rfl, k4⟩; have T2 : Kp wc w4 := Kp.trans (by assumption) k4)))
        all_goals
          go_wp2_with fail
          refine bodyPost_ret (v := .tuple #[.int .i64 (nn (f0, f1)), .int .i64 (nn (e0, e1)), .nilIface]) (by simp [results, Try.results9, go_sem]) rfl ⟨_, _, rfl, GT.out, ?_⟩
          first | exact KC.out.trans T2 | exact KC.out.trans T1
      · obtain rfl : bb = false := HB.out.trans (decide_eq_false hl)
        have LT := Lib.hid (show (nn (e0, e1)).toNat < (nn (f0, f1)).toNat by
          have := PO.out; omega)
        have x1 := F1.out.c1
        have x2 := F1.out.c2
        have x3 := F1.out.z1
        have x4 := F1.out.z2
        have y1 := F2.out.c1
        have y2 := F2.out.c2
        have y3 := F2.out.z1
        have y4 := F2.out.z2
        dsimp only at x1 x2 y1 y2
        clear hl GO kc HB
        have hne : w.heap.size ≠ w.heap.size + 1 := by omega
        have G1 := Lib.hid ((F1.out.put (e0, e1)).far hne (.int .i64 f0) (.int .i64 f1))
        have G2 := Lib.hid ((F2.out.far (fun e => hne e.symm) (.int .i64 e0) (.int .i64 e1)).put (f0, f1))
        have G3 := Lib.hid ((((KC.out.put (p := ⟨w.heap.size, 0, none⟩) (Nat.le_refl _) (.int .i64 e0)).put (p := ⟨w.heap.size, 1, none⟩) (Nat.le_refl _) (.int .i64 e1)).put (p := ⟨w.heap.size + 1, 0, none⟩) sz1 (.int .i64 f0)).put (p := ⟨w.heap.size + 1, 1, none⟩) sz1 (.int .i64 f1))
        have z1 := (F2.out.far (fun e => hne e.symm) (.int .i64 e0) (.int .i64 e1)).c1
        have z2 := (F2.out.far (fun e => hne e.symm) (.int .i64 e0) (.int .i64 e1)).c2
        have z3 := (F2.out.far (fun e => hne e.symm) (.int .i64 e0) (.int .i64 e1)).z1
        have z4 := (F2.out.far (fun e => hne e.symm) (.int .i64 e0) (.int .i64 e1)).z2
        dsimp only at z1 z2 z3 z4
        clear hne
        go_wp2_with fail
        go_roundg (nn (e0, e1)).toNat
        case measure => have := LT.out; have := HQ.out; omega
        case rel => exact ⟨(e0, e1), (f0, f1), rfl, G1.out, G2.out, G3.out, WS.out.swap, rfl⟩
end Go.Proofs.Ytlnehhhlpdaebaa
