/- The law MinorsSays. -/
import Derived.Test.YtmkjfoecofeioaaDoorMiFact
import Derived.Test.YtmkjfoecofeioaaDoorMiRef
import Derived.Test.YtmkjfoecofeioaaDoorLawIn
import Derived.Test.YtmkjfoecofeioaaDoorErrG
namespace Go.Proofs.YtmkjfoecofeioaaDoor
open Go.ChangeShapes Go.WideShapes Go.ChangeAt Go.RowKit
set_option linter.unusedVariables false

set_option maxRecDepth 100000 in
set_option maxHeartbeats 6400000 in
theorem misays_good (A : Option Addr) (a : List (List Int)) (f : Nat → Nat → Fp.F) (n r d p q : Nat) (w : World) (hl : Told.Laid w) (ha : LiesM w A a) (sa : Sh n n f a) (hr : n = r + 1) (hp : p ≤ r) (hq : q ≤ r) :
    Calls Tryd.prog 3 #[.slice A n d, .int .i64 (p : Int), .int .i64 (q : Int)] w fun e w' => e = .returned (.bool true) ∧ Kp w w' := by
  have HA := Lib.hid ha
  have HL := Lib.hid hl
  have SQ := Lib.hid (rSquare_any A a n d 5 0 9972 w ha sa.len (by omega))
  rw [sa.code2] at SQ
  have n5 := sa.r5
  have n0 := sa.r0
  have hs := sa.eq
  have RA := Lib.hid (fun w (h : LiesM w A a) => rAdj_any A f n r d w (by rw [← hs]; exact h) hr (by omega))
  have WO := Lib.hid (fun w (h : LiesM w A a) => show Calls Tryd.prog 12 #[.slice A n d, .int .i64 (p : Int), .int .i64 (q : Int)] w fun e w' => Made r r (wo f p q) w e w' by
    rw [hs] at h
    subst hr
    have := rWithout_any A f r p q d w h hp hq (by omega)
    rw [Int.toNat_natCast] at this
    exact this)
  have DM := Lib.hid (fun A d w h => rDetMod_any r (by omega) A (wo f p q) d w h)
  have AD := Lib.hid (fun w h => MAdj_sh (A := A) sa hr d w h)
  have MO := Lib.hid (fun w h => MOf_sh (A := A) sa hr hp hq d w h)
  have IP := Lib.hid (fun w => law2In_any (p : Int) 0 ((n : Int) - 1) w true (by simp; omega))
  have IQ := Lib.hid (fun w => law2In_any (q : Int) 0 ((n : Int) - 1) w true (by simp; omega))
  have SJ : Sh n n (Mx.adj r f) (Mx.matl n n (Mx.adj r f)) := ⟨rfl, n0, n5, n0, n5⟩
  have RO := Lib.hid (fun A B c d w ha hb => rows_eq A B (Mx.matl n n (Mx.adj r f)) (Mx.matl n n (Mx.adj r f)) n n c d w ha hb (Mx.len_matl _ _ _) (Mx.len_matl _ _ _) SJ.modest SJ.modest rfl)
  have ERR := Lib.hid (fun (wx : World) (hx : Kp w wx) => show Calls Tryd.prog 8 #[.nilIface, .int .i64 0] wx fun e w' => e = .returned (.bool true) ∧ Kp wx w' from error_says 0 wx (laid_kp HL.out hx) (by decide))
  generalize ((Mx.dt r (wo f p q)).val : Int) = x at *
  have e0 : (x == x) = true := by simp
  clear ha hl hs sa hr hp hq SJ
  go_enter Tryd.func3, Tryd.ntmps3
  go_wp2_with fail
  refine (SQ.out).mono ?_; rintro e w1 ⟨rfl, hd⟩
  have K1 := Lib.hid hd.kp
  clear hd
  go_wp2_with fail
  refine (RA.out w1 (HA.out.keep K1.out)).mono ?_; rintro e w2 ⟨A2, d2, rfl, l2, k2⟩
  have K2 := Lib.hid (K1.out.trans k2); have L2 := Lib.hid l2; clear k2 l2
  go_wp2_with fail
  refine (AD.out w2 (HA.out.keep K2.out)).mono ?_; rintro e w3 ⟨g3, rfl, l3, k3⟩
  have K3 := Lib.hid (K2.out.trans k3); have L3 := Lib.hid l3; have L23 := Lib.hid (L2.out.keep k3); clear k3 l3
  go_wp2_with fail
  refine (ERR.out w3 K3.out).mono ?_; rintro e w4 ⟨rfl, k4⟩
  have K4 := Lib.hid (K3.out.trans k4); have L34 := Lib.hid (L3.out.keep k4); have L24 := Lib.hid (L23.out.keep k4); clear k4
  go_wp2_with fail
  refine (RO.out (some ⟨g3, 0, none⟩) A2 n d2 w4 L34.out L24.out).mono ?_; rintro e w5 ⟨rfl, k5⟩
  have K5 := Lib.hid (K4.out.trans k5); clear k5
  go_wp2_with fail
  refine (IP.out w5).mono ?_; rintro e w6 ⟨rfl, rfl⟩
  go_wp2_with fail
  refine (IQ.out w5).mono ?_; rintro e w6 ⟨rfl, rfl⟩
  go_wp2_with fail
  refine (WO.out w5 (HA.out.keep K5.out)).mono ?_; rintro e w6 ⟨A6, d6, rfl, l6, k6⟩
  have K6 := Lib.hid (K5.out.trans k6); have L6 := Lib.hid l6; clear k6 l6
  go_wp2_with fail
  refine (DM.out A6 d6 w6 L6.out).mono ?_; rintro e w7 ⟨rfl, k7⟩
  have K7 := Lib.hid (K6.out.trans k7); clear k7
  go_wp2_with fail
  refine (MO.out w7 (HA.out.keep K7.out)).mono ?_; rintro e w8 ⟨rfl, k8⟩
  have K8 := Lib.hid (K7.out.trans k8); clear k8
  go_wp2_with fail
  refine (ERR.out w8 K8.out).mono ?_; rintro e w9 ⟨rfl, k9⟩
  have K9 := Lib.hid (K8.out.trans k9); clear k9
  go_wp2_with fail
  go_ret
  exact ⟨ret_bool (by simp), K9.out⟩

set_option maxRecDepth 100000 in
set_option maxHeartbeats 6400000 in
theorem misays_out (A : Option Addr) (a : List (List Int)) (f : Nat → Nat → Fp.F) (n r d : Nat) (i j : Int) (w : World) (hl : Told.Laid w) (ha : LiesM w A a) (sa : Sh n n f a) (hr : n = r + 1) (ho : ¬ ((0 ≤ i ∧ i ≤ (n : Int) - 1) ∧ 0 ≤ j ∧ j ≤ (n : Int) - 1)) :
    Calls Tryd.prog 3 #[.slice A n d, .int .i64 i, .int .i64 j] w fun e w' => e = .returned (.bool true) ∧ Kp w w' := by
  have HA := Lib.hid ha
  have HL := Lib.hid hl
  have SQ := Lib.hid (rSquare_any A a n d 5 0 9972 w ha sa.len (by omega))
  rw [sa.code2] at SQ
  have n5 := sa.r5
  have n0 := sa.r0
  have hs := sa.eq
  have RA := Lib.hid (fun w (h : LiesM w A a) => rAdj_any A f n r d w (by rw [← hs]; exact h) hr (by omega))
  have AD := Lib.hid (fun w h => MAdj_sh (A := A) sa hr d w h)
  have MO := Lib.hid (fun w h => MOf_not (A := A) (i := i) (j := j) sa (by omega) d w h)
  have SJ : Sh n n (Mx.adj r f) (Mx.matl n n (Mx.adj r f)) := ⟨rfl, n0, n5, n0, n5⟩
  have RO := Lib.hid (fun A B c d w ha hb => rows_eq A B (Mx.matl n n (Mx.adj r f)) (Mx.matl n n (Mx.adj r f)) n n c d w ha hb (Mx.len_matl _ _ _) (Mx.len_matl _ _ _) SJ.modest SJ.modest rfl)
  have ERR := Lib.hid (fun (wx : World) (hx : Kp w wx) => show Calls Tryd.prog 8 #[.nilIface, .int .i64 0] wx fun e w' => e = .returned (.bool true) ∧ Kp wx w' from error_says 0 wx (laid_kp HL.out hx) (by decide))
  have ER := Lib.hid (fun (wx : World) (hx : Kp w wx) => error_says 1 wx (laid_kp HL.out hx) (by decide))
  rw [errOf_ne 1 (by decide)] at MO ER
  clear ha hl hs sa hr SJ
  by_cases hi : 0 ≤ i ∧ i ≤ (n : Int) - 1
  · have IP := Lib.hid (fun w => law2In_any i 0 ((n : Int) - 1) w true (by simp; omega))
    have IQ := Lib.hid (fun w => law2In_any j 0 ((n : Int) - 1) w false (by simp; omega))
    clear hi ho
    go_enter Tryd.func3, Tryd.ntmps3
    go_wp2_with fail
    refine (SQ.out).mono ?_; rintro e w1 ⟨rfl, hd⟩
    have K1 := Lib.hid hd.kp
    clear hd
    go_wp2_with fail
    refine (RA.out w1 (HA.out.keep K1.out)).mono ?_; rintro e w2 ⟨A2, d2, rfl, l2, k2⟩
    have K2 := Lib.hid (K1.out.trans k2); have L2 := Lib.hid l2; clear k2 l2
    go_wp2_with fail
    refine (AD.out w2 (HA.out.keep K2.out)).mono ?_; rintro e w3 ⟨g3, rfl, l3, k3⟩
    have K3 := Lib.hid (K2.out.trans k3); have L3 := Lib.hid l3; have L23 := Lib.hid (L2.out.keep k3); clear k3 l3
    go_wp2_with fail
    refine (ERR.out w3 K3.out).mono ?_; rintro e w4 ⟨rfl, k4⟩
    have K4 := Lib.hid (K3.out.trans k4); have L34 := Lib.hid (L3.out.keep k4); have L24 := Lib.hid (L23.out.keep k4); clear k4
    go_wp2_with fail
    refine (RO.out (some ⟨g3, 0, none⟩) A2 n d2 w4 L34.out L24.out).mono ?_; rintro e w5 ⟨rfl, k5⟩
    have K5 := Lib.hid (K4.out.trans k5); clear k5
    go_wp2_with fail
    refine (IP.out w5).mono ?_; rintro e w6 ⟨rfl, rfl⟩
    go_wp2_with fail
    refine (IQ.out w5).mono ?_; rintro e w6 ⟨rfl, rfl⟩
    go_wp2_with fail
    refine (MO.out w5 (HA.out.keep K5.out)).mono ?_; rintro e w8 ⟨rfl, k8⟩
    have K8 := Lib.hid (K5.out.trans k8); clear k8
    go_wp2_with fail
    refine (ER.out w8 K8.out).mono ?_; rintro e w9 ⟨rfl, k9⟩
    have K9 := Lib.hid (K8.out.trans k9); clear k9
    go_wp2_with fail
    go_ret
    exact ⟨ret_bool (by simp), K9.out⟩
  · have IP := Lib.hid (fun w => law2In_any i 0 ((n : Int) - 1) w false (by simp; omega))
    clear hi ho
    go_enter Tryd.func3, Tryd.ntmps3
    go_wp2_with fail
    refine (SQ.out).mono ?_; rintro e w1 ⟨rfl, hd⟩
    have K1 := Lib.hid hd.kp
    clear hd
    go_wp2_with fail
    refine (RA.out w1 (HA.out.keep K1.out)).mono ?_; rintro e w2 ⟨A2, d2, rfl, l2, k2⟩
    have K2 := Lib.hid (K1.out.trans k2); have L2 := Lib.hid l2; clear k2 l2
    go_wp2_with fail
    refine (AD.out w2 (HA.out.keep K2.out)).mono ?_; rintro e w3 ⟨g3, rfl, l3, k3⟩
    have K3 := Lib.hid (K2.out.trans k3); have L3 := Lib.hid l3; have L23 := Lib.hid (L2.out.keep k3); clear k3 l3
    go_wp2_with fail
    refine (ERR.out w3 K3.out).mono ?_; rintro e w4 ⟨rfl, k4⟩
    have K4 := Lib.hid (K3.out.trans k4); have L34 := Lib.hid (L3.out.keep k4); have L24 := Lib.hid (L23.out.keep k4); clear k4
    go_wp2_with fail
    refine (RO.out (some ⟨g3, 0, none⟩) A2 n d2 w4 L34.out L24.out).mono ?_; rintro e w5 ⟨rfl, k5⟩
    have K5 := Lib.hid (K4.out.trans k5); clear k5
    go_wp2_with fail
    refine (IP.out w5).mono ?_; rintro e w6 ⟨rfl, rfl⟩
    go_wp2_with fail
    refine (MO.out w5 (HA.out.keep K5.out)).mono ?_; rintro e w8 ⟨rfl, k8⟩
    have K8 := Lib.hid (K5.out.trans k8); clear k8
    go_wp2_with fail
    refine (ER.out w8 K8.out).mono ?_; rintro e w9 ⟨rfl, k9⟩
    have K9 := Lib.hid (K8.out.trans k9); clear k9
    go_wp2_with fail
    go_ret
    exact ⟨ret_bool (by simp), K9.out⟩

set_option maxRecDepth 100000 in
set_option maxHeartbeats 6400000 in
theorem misays_bad (A : Option Addr) (a : List (List Int)) (n d : Nat) (i j : Int) (w : World) (hl : Told.Laid w) (ha : LiesM w A a) (hn : a.length = n) (h : qcode 5 0 9972 a ≠ 0) :
    Calls Tryd.prog 3 #[.slice A n d, .int .i64 i, .int .i64 j] w fun e w' => e = .returned (.bool true) ∧ Kp w w' := by
  have HA := Lib.hid ha
  have HL := Lib.hid hl
  have SQ := Lib.hid (rSquare_any A a n d 5 0 9972 w ha hn (by omega))
  have AD := Lib.hid (fun w ha => MAdj_bad A a n d w ha hn h)
  have MO := Lib.hid (fun w ha => MOf_bad A a n d i j w ha hn h)
  have hz := qcode_le 5 0 9972 a
  have ERR := Lib.hid (fun (wx : World) (hx : Kp w wx) => error_says (qcode 5 0 9972 a) wx (laid_kp HL.out hx) (by omega))
  rw [errOf_ne _ h] at AD MO ERR
  have RO := Lib.hid (fun w => rows_eq none none [] [] 0 0 0 0 w (LiesM.empty _ _) (LiesM.empty _ _) rfl rfl (modest_tab (r := 0) (c := 0) (fun _ _ => 0) (by decide) (by decide)) (modest_tab (r := 0) (c := 0) (fun _ _ => 0) (by decide) (by decide)) rfl)
  have e1 : ((qcode 5 0 9972 a : Int) == 0) = false := by rw [beq_eq_false_iff_ne]; omega
  generalize qcode 5 0 9972 a = z at *
  clear ha hl hn h
  go_enter Tryd.func3, Tryd.ntmps3
  go_wp2_with fail
  refine (SQ.out).mono ?_; rintro e w1 ⟨rfl, hd⟩
  have K1 := Lib.hid hd.kp
  clear hd
  go_wp2_with fail
  refine (AD.out w1 (HA.out.keep K1.out)).mono ?_; rintro e w3 ⟨rfl, k3⟩
  have K3 := Lib.hid (K1.out.trans k3); clear k3
  go_wp2_with fail
  refine (ERR.out w3 K3.out).mono ?_; rintro e w4 ⟨rfl, k4⟩
  have K4 := Lib.hid (K3.out.trans k4); clear k4
  go_wp2_with fail
  refine (RO.out w4).mono ?_; rintro e w5 ⟨rfl, k5⟩
  have K5 := Lib.hid (K4.out.trans k5); clear k5
  go_wp2_with fail
  refine (MO.out w5 (HA.out.keep K5.out)).mono ?_; rintro e w6 ⟨rfl, k6⟩
  have K6 := Lib.hid (K5.out.trans k6); clear k6
  go_wp2_with fail
  refine (ERR.out w6 K6.out).mono ?_; rintro e w7 ⟨rfl, k7⟩
  have K7 := Lib.hid (K6.out.trans k7); clear k7
  go_wp2_with fail
  go_ret
  exact ⟨ret_bool (by simp), K7.out⟩

theorem walk_MinorsSays (A : Option Addr) (a : List (List Int)) (d : Nat) (i j : Int) (w : World) (hl : Told.Laid w) (ha : LiesM w A a) :
    Calls Tryd.prog 3 #[.slice A a.length d, .int .i64 i, .int .i64 j] w fun e w' => e = .returned (.bool true) ∧ Kp w w' := by
  rcases sq_or a rfl with ⟨f, sa⟩ | h
  · have n0 := sa.r0
    by_cases h : (0 ≤ i ∧ i ≤ (a.length : Int) - 1) ∧ 0 ≤ j ∧ j ≤ (a.length : Int) - 1
    · obtain ⟨p, rfl⟩ : ∃ p : Nat, i = (p : Int) := ⟨i.toNat, by omega⟩
      obtain ⟨q, rfl⟩ : ∃ q : Nat, j = (q : Int) := ⟨j.toNat, by omega⟩
      exact misays_good A a f a.length (a.length - 1) d p q w hl ha sa (by omega) (by omega) (by omega)
    · exact misays_out A a f a.length (a.length - 1) d i j w hl ha sa (by omega) h
  · exact misays_bad A a a.length d i j w hl ha rfl h
end Go.Proofs.YtmkjfoecofeioaaDoor
