/- The law DetSays. -/
import Derived.Test.YtfjajcfcbjmbpaaDoorDeFact
import Derived.Test.YtfjajcfcbjmbpaaDoorSgnRef
import Derived.Test.YtfjajcfcbjmbpaaDoorMxRef4
import Derived.Test.YtfjajcfcbjmbpaaDoorErrG
namespace Go.Proofs.YtfjajcfcbjmbpaaDoor
open Go.ChangeShapes Go.WideShapes Go.ChangeAt Go.RowKit
set_option linter.unusedVariables false

set_option maxRecDepth 100000 in
set_option maxHeartbeats 6400000 in
theorem desays_good (A : Option Addr) (a : List (List Int)) (f : Nat → Nat → Fp.F) (n d : Nat) (B : Option Addr) (l : List Int) (m c : Nat) (w : World) (hl : Told.Laid w) (ha : LiesM w A a) (hb : Lies w B l) (sa : Sh n n f a) (hm : l.length = m) :
    Calls Tryd.prog 3 #[.slice A n d, .slice B m c] w fun e w' => e = .returned (.bool true) ∧ Kp w w' := by
  have HA := Lib.hid ha
  have HB := Lib.hid hb
  have HL := Lib.hid hl
  have HM := Lib.hid hm
  have SQ := Lib.hid (rSquare_any A a n d 5 0 9972 w ha sa.len (by omega))
  have CK := Lib.hid (fun w h => DChk_any A a n d w h sa.len)
  rw [sa.code2] at SQ CK
  rw [errOf_zero] at CK
  have OA := Lib.hid (fun w h => Of_sh (A := A) sa d w h)
  have hs := sa.eq
  have DM := Lib.hid (fun w (h : LiesM w A a) => rDetMod_any n (by have := sa.r5; omega) A f d w (by rw [← hs]; exact h))
  have ERR := Lib.hid (fun (wx : World) (hx : Kp w wx) => show Calls Tryd.prog 5 #[.nilIface, .int .i64 0] wx fun e w' => e = .returned (.bool true) ∧ Kp wx w' from error_says 0 wx (laid_kp HL.out hx) (by decide))
  have SG := Lib.hid (fun w h (h20 : ¬ 20 < m) => Sign_any B l m c w h HM.out (by omega))
  have SR := Lib.hid (fun w h (h20 : ¬ 20 < m) => rSign_any B l m c w h HM.out (by omega))
  generalize ((Mx.dt n f).val : Int) = x at *
  have e0 : (x == x) = true := by simp
  clear ha hb hl hm hs sa
  go_enter Tryd.func3, Tryd.ntmps3
  go_wp2_with fail
  refine (SQ.out).mono ?_; rintro e w1 ⟨rfl, hd⟩
  have K1 := Lib.hid hd.kp
  clear hd
  go_wp2_with fail
  refine (CK.out w1 (HA.out.keep K1.out)).mono ?_; rintro e w2 ⟨rfl, rfl⟩
  go_wp2_with fail
  refine (ERR.out w1 K1.out).mono ?_; rintro e w3 ⟨rfl, k3⟩
  have K3 := Lib.hid (K1.out.trans k3); clear k3
  go_wp2_with fail
  refine (DM.out w3 (HA.out.keep K3.out)).mono ?_; rintro e w4 ⟨rfl, k4⟩
  have K4 := Lib.hid (K3.out.trans k4); clear k4
  go_wp2_with fail
  refine (OA.out w4 (HA.out.keep K4.out)).mono ?_; rintro e w5 ⟨rfl, k5⟩
  have K5 := Lib.hid (K4.out.trans k5); clear k5
  go_wp2_with fail
  refine (ERR.out w5 K5.out).mono ?_; rintro e w6 ⟨rfl, k6⟩
  have K6 := Lib.hid (K5.out.trans k6); clear k6
  by_cases h20 : 20 < m
  · go_wp2_with fail
    go_ret
    exact ⟨ret_bool (by simp), K6.out⟩
  · go_wp2_with fail
    refine (SG.out w6 (HB.out.keep K6.out) h20).mono ?_; rintro e w7 ⟨y, rfl, hy, k7⟩
    have HY := Lib.hid hy
    have K7 := Lib.hid (K6.out.trans k7); clear k7 hy
    go_wp2_with fail
    refine (SR.out w7 (HB.out.keep K7.out) h20).mono ?_; rintro e w8 ⟨z, rfl, hz, k8⟩
    obtain rfl : z = y := hz.one HY.out
    have K8 := Lib.hid (K7.out.trans k8); clear k8 hz
    go_wp2_with fail
    go_ret
    exact ⟨ret_bool (by simp), K8.out⟩

set_option maxRecDepth 100000 in
set_option maxHeartbeats 6400000 in
theorem desays_bad (A : Option Addr) (a : List (List Int)) (n d : Nat) (B : Option Addr) (l : List Int) (m c : Nat) (w : World) (hl : Told.Laid w) (ha : LiesM w A a) (hb : Lies w B l) (hn : a.length = n) (hm : l.length = m) (h : qcode 5 0 9972 a ≠ 0) :
    Calls Tryd.prog 3 #[.slice A n d, .slice B m c] w fun e w' => e = .returned (.bool true) ∧ Kp w w' := by
  have HA := Lib.hid ha
  have HB := Lib.hid hb
  have HL := Lib.hid hl
  have HM := Lib.hid hm
  have SQ := Lib.hid (rSquare_any A a n d 5 0 9972 w ha hn (by omega))
  have CK := Lib.hid (fun w h => DChk_any A a n d w h hn)
  have OA := Lib.hid (fun w ha => Of_bad A a n d w ha hn h)
  have hz := qcode_le 5 0 9972 a
  have ERR := Lib.hid (fun (wx : World) (hx : Kp w wx) => error_says (qcode 5 0 9972 a) wx (laid_kp HL.out hx) (by omega))
  rw [errOf_ne _ h] at CK OA ERR
  have e1 : ((qcode 5 0 9972 a : Int) == 0) = false := by rw [beq_eq_false_iff_ne]; omega
  have SG := Lib.hid (fun w h (h20 : ¬ 20 < m) => Sign_any B l m c w h HM.out (by omega))
  have SR := Lib.hid (fun w h (h20 : ¬ 20 < m) => rSign_any B l m c w h HM.out (by omega))
  generalize qcode 5 0 9972 a = z at *
  clear ha hb hl hm hn h
  go_enter Tryd.func3, Tryd.ntmps3
  go_wp2_with fail
  refine (SQ.out).mono ?_; rintro e w1 ⟨rfl, hd⟩
  have K1 := Lib.hid hd.kp
  clear hd
  go_wp2_with fail
  refine (CK.out w1 (HA.out.keep K1.out)).mono ?_; rintro e w2 ⟨rfl, rfl⟩
  go_wp2_with fail
  refine (ERR.out w1 K1.out).mono ?_; rintro e w3 ⟨rfl, k3⟩
  have K3 := Lib.hid (K1.out.trans k3); clear k3
  go_wp2_with fail
  refine (OA.out w3 (HA.out.keep K3.out)).mono ?_; rintro e w5 ⟨rfl, k5⟩
  have K5 := Lib.hid (K3.out.trans k5); clear k5
  go_wp2_with fail
  refine (ERR.out w5 K5.out).mono ?_; rintro e w6 ⟨rfl, k6⟩
  have K6 := Lib.hid (K5.out.trans k6); clear k6
  by_cases h20 : 20 < m
  · go_wp2_with fail
    go_ret
    exact ⟨ret_bool (by simp), K6.out⟩
  · go_wp2_with fail
    refine (SG.out w6 (HB.out.keep K6.out) h20).mono ?_; rintro e w7 ⟨y, rfl, hy, k7⟩
    have HY := Lib.hid hy
    have K7 := Lib.hid (K6.out.trans k7); clear k7 hy
    go_wp2_with fail
    refine (SR.out w7 (HB.out.keep K7.out) h20).mono ?_; rintro e w8 ⟨x, rfl, hz, k8⟩
    obtain rfl : x = y := hz.one HY.out
    have K8 := Lib.hid (K7.out.trans k8); clear k8 hz
    go_wp2_with fail
    go_ret
    exact ⟨ret_bool (by simp), K8.out⟩

theorem walk_DetSays (A : Option Addr) (a : List (List Int)) (d : Nat) (B : Option Addr) (l : List Int) (c : Nat) (w : World) (hl : Told.Laid w) (ha : LiesM w A a) (hb : Lies w B l) :
    Calls Tryd.prog 3 #[.slice A a.length d, .slice B l.length c] w fun e w' => e = .returned (.bool true) ∧ Kp w w' := by
  rcases sq_or a rfl with ⟨f, sa⟩ | h
  · exact desays_good A a f a.length d B l l.length c w hl ha hb sa rfl
  · exact desays_bad A a a.length d B l l.length c w hl ha hb rfl rfl h
end Go.Proofs.YtfjajcfcbjmbpaaDoor
