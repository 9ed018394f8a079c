/- The law LuSays. -/
import Derived.Test.YtdkdpklohfdpmaaDoorLuC4
import Derived.Test.YtdkdpklohfdpmaaDoorLuRef
import Derived.Test.YtdkdpklohfdpmaaDoorMxRef4
import Derived.Test.YtdkdpklohfdpmaaDoorDeFact
import Derived.Test.YtdkdpklohfdpmaaDoorRowsG
import Derived.Test.YtdkdpklohfdpmaaDoorErrG
namespace Go.Proofs.YtdkdpklohfdpmaaDoor
open Go.ChangeShapes Go.WideShapes Go.ChangeAt Go.RowKit
set_option linter.unusedVariables false

set_option maxRecDepth 100000 in
set_option maxHeartbeats 6400000 in
theorem lusays_good (A : Option Addr) (m : List (List Int)) (f : Nat → Nat → Fp.F) (n d : Nat) (w : World) (hl : Told.Laid w) (ha : LiesM w A m) (s : Sh n n f m) :
    Calls Tryd.prog 3 #[.slice A n d] w fun e w' => e = .returned (.bool true) ∧ Kp w w' := by
  have SQ := Lib.hid (rSquare_any A m n d 5 0 9972 w ha s.len (by omega))
  rw [s.code2] at SQ
  have n0 := s.r0
  have n5 := s.r5
  rw [s.eq] at ha
  have HA := Lib.hid ha
  have HL := Lib.hid hl
  have RS := Lib.hid (fun w h => rSplit_any A f n d w h n0 n5)
  have SP := Lib.hid (fun w h => Split_ok A f n d w h n0 n5)
  have ERR := Lib.hid (fun (wx : World) (hx : Kp w wx) => show Calls Tryd.prog 7 #[.nilIface, .int .i64 0] wx fun e w' => e = .returned (.bool true) ∧ Kp wx w' from error_says 0 wx (laid_kp HL.out hx) (by decide))
  clear ha hl s
  go_enter Tryd.func3, Tryd.ntmps3
  go_wp2_with fail
  refine (SQ.out).mono ?_; rintro e w1 ⟨rfl, hd⟩
  have K1 := Lib.hid hd.kp
  clear hd
  go_wp2_with fail
  refine (RS.out w1 (HA.out.keep K1.out)).mono ?_; rintro e w2 ⟨t, A2, c2, A3, c3, A4, c4, t2, rfl, l2, l3, l4, k2⟩
  have T2 := Lib.hid t2; have K2 := Lib.hid (K1.out.trans k2); have L2 := Lib.hid l2; have L3 := Lib.hid l3; have L4 := Lib.hid l4; clear k2 t2 l2 l3 l4
  go_wp2_with fail
  refine (SP.out w2 (HA.out.keep K2.out)).mono ?_; rintro e w3 ⟨t', A5, c5, A6, c6, A7, c7, t3, rfl, l5, l6, l7, k3⟩
  obtain rfl := T2.out.one t3
  have K23 := Lib.hid k3; have K3 := Lib.hid (K2.out.trans k3); have L5 := Lib.hid l5; have L6 := Lib.hid l6; have L7 := Lib.hid l7
  clear k3 t3 l5 l6 l7
  go_wp2_with fail
  refine (ERR.out w3 K3.out).mono ?_; rintro e w4 ⟨rfl, k4⟩
  have K24 := Lib.hid (K23.out.trans k4); have K34 := Lib.hid k4; have K4 := Lib.hid (K3.out.trans k4); clear k4
  go_wp2_with fail
  refine (same_eq A5 A2 (Mx.row n fun i => (t.s i : Int)) (Mx.row n fun i => (t.s i : Int)) n n c5 c2 w4 (L5.out.keep K34.out) (L2.out.keep K24.out) (Mx.len_row _ _).symm (Mx.len_row _ _).symm (by omega) rfl).mono ?_; rintro e w5 ⟨rfl, k5⟩
  have K25 := Lib.hid (K24.out.trans k5); have K35 := Lib.hid (K34.out.trans k5); have K5 := Lib.hid (K4.out.trans k5); clear k5
  go_wp2_with fail
  refine (rows_eq A6 A3 (Mx.matl n n t.low) (Mx.matl n n t.low) n n c6 c3 w5 (L6.out.keep K35.out) (L3.out.keep K25.out) (Mx.len_matl _ _ _) (Mx.len_matl _ _ _) (modest_tab _ (by omega) (by omega)) (modest_tab _ (by omega) (by omega)) rfl).mono ?_; rintro e w6 ⟨rfl, k6⟩
  have K26 := Lib.hid (K25.out.trans k6); have K36 := Lib.hid (K35.out.trans k6); have K6 := Lib.hid (K5.out.trans k6); clear k6
  go_wp2_with fail
  refine (rows_eq A7 A4 (Mx.matl n n t.u) (Mx.matl n n t.u) n n c7 c4 w6 (L7.out.keep K36.out) (L4.out.keep K26.out) (Mx.len_matl _ _ _) (Mx.len_matl _ _ _) (modest_tab _ (by omega) (by omega)) (modest_tab _ (by omega) (by omega)) rfl).mono ?_; rintro e w7 ⟨rfl, k7⟩
  have K7 := Lib.hid (K6.out.trans k7); clear k7
  go_wp2_with fail
  go_ret
  exact ⟨rfl, K7.out⟩

set_option maxRecDepth 100000 in
set_option maxHeartbeats 3200000 in
theorem lusays_bad (A : Option Addr) (m : List (List Int)) (n d : Nat) (w : World) (hl : Told.Laid w) (ha : LiesM w A m) (hn : m.length = n) (h : qcode 5 0 9972 m ≠ 0) :
    Calls Tryd.prog 3 #[.slice A n d] w fun e w' => e = .returned (.bool true) ∧ Kp w w' := by
  have HA := Lib.hid ha
  have HL := Lib.hid hl
  have SQ := Lib.hid (rSquare_any A m n d 5 0 9972 w ha hn (by omega))
  have SP := Lib.hid (fun w ha => Split_bad A m n d w ha hn h)
  have hz := qcode_le 5 0 9972 m
  have ERR := Lib.hid (fun (wx : World) (hx : Kp w wx) => error_says (qcode 5 0 9972 m) wx (laid_kp HL.out hx) (by omega))
  rw [errOf_ne _ h] at SP ERR
  have e1 : ((qcode 5 0 9972 m : Int) == 0) = false := by rw [beq_eq_false_iff_ne]; omega
  generalize qcode 5 0 9972 m = z at *
  clear ha hl h hn
  go_enter Tryd.func3, Tryd.ntmps3
  go_wp2_with fail
  refine (SQ.out).mono ?_; rintro e w1 ⟨rfl, hd⟩
  have K1 := Lib.hid hd.kp
  clear hd
  go_wp2_with fail
  refine (SP.out w1 (HA.out.keep K1.out)).mono ?_; rintro e w2 ⟨rfl, k2⟩
  have K2 := Lib.hid (K1.out.trans k2); clear k2
  go_wp2_with fail
  refine (ERR.out w2 K2.out).mono ?_; rintro e w3 ⟨rfl, k3⟩
  have K3 := Lib.hid (K2.out.trans k3); clear k3
  go_wp2_with fail
  refine (same_nil w3).mono ?_; rintro e w4 ⟨rfl, k4⟩
  have K4 := Lib.hid (K3.out.trans k4); clear k4
  go_wp2_with fail
  refine (rows_eq none none [] [] 0 0 0 0 w4 (LiesM.empty _ _) (LiesM.empty _ _) rfl rfl modest_nil modest_nil rfl).mono ?_; rintro e w5 ⟨rfl, k5⟩
  have K5 := Lib.hid (K4.out.trans k5); clear k5
  go_wp2_with fail
  refine (rows_eq none none [] [] 0 0 0 0 w5 (LiesM.empty _ _) (LiesM.empty _ _) rfl rfl modest_nil modest_nil rfl).mono ?_; rintro e w6 ⟨rfl, k6⟩
  have K6 := Lib.hid (K5.out.trans k6); clear k6
  go_wp2_with fail
  go_ret
  exact ⟨rfl, K6.out⟩

theorem walk_LuSays (A : Option Addr) (m : List (List Int)) (d : Nat) (w : World) (hl : Told.Laid w) (ha : LiesM w A m) :
    Calls Tryd.prog 3 #[.slice A m.length d] w fun e w' => e = .returned (.bool true) ∧ Kp w w' := by
  rcases sq_or m rfl with ⟨f, s⟩ | h
  · exact lusays_good A m f m.length d w hl ha s
  · exact lusays_bad A m m.length d w hl ha rfl h
end Go.Proofs.YtdkdpklohfdpmaaDoor
