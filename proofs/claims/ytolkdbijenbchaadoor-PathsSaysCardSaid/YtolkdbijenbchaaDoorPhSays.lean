/- The walk of PathsSays. -/
import Derived.Test.YtolkdbijenbchaaDoorPhRef2
import Derived.Test.YtolkdbijenbchaaDoorPhFact
import Derived.Test.YtolkdbijenbchaaDoorErrG
import Derived.StillTailTactics
namespace Go.Proofs.YtolkdbijenbchaaDoor
open Go.ChangeShapes Go.WideShapes Go.ChangeAt Go.RowKit
set_option linter.unusedVariables false

set_option maxHeartbeats 1600000 in
theorem rHeights_any (wd : Int) (A B : Option Addr) (l m : List Int) (n q c d : Nat) (w : World) (ha : Lies w A l) (hb : Lies w B m) (hn : l.length = n) (hq : m.length = q) :
    Calls Tryd.prog 5 #[.int .i64 wd, .slice A n c, .slice B q d] w fun e w' => e = .returned (.int .i64 (phcd wd l m : Nat)) ∧ Kp w w' := by
  by_cases hw : 0 ≤ wd ∧ wd ≤ 4
  · have I0 := Lib.hid (fun w => ref3In_any wd 0 4 w true (by rw [decide_eq_true hw.1, decide_eq_true hw.2]; rfl))
    have E0 : phcd wd l m = if n = 0 then 5 else if 3 < n then 4 else if q ≠ n then 3 else if hlc (-1) l = 0 then hlc (-1) m else hlc (-1) l := by
      unfold phcd; rw [if_neg (by omega), hn, hq]
    rw [E0]
    by_cases h1 : n = 0
    · rw [if_pos h1]
      have e0 : ((n : Int) == 0) = true := by rw [beq_iff_eq]; omega
      clear ha hb hn hq h1 hw E0
      go_enter Tryd.func5, Tryd.ntmps5
      go_wp2_with fail
      refine (I0.out _).mono ?_; rintro e w' ⟨rfl, rfl⟩
      go_wp2_with fail
      go_ret
      exact ⟨rfl, Kp.rfl' _⟩
    rw [if_neg h1]
    have e0 : ((n : Int) == 0) = false := by rw [beq_eq_false_iff_ne]; omega
    by_cases h2 : 3 < n
    · rw [if_pos h2]
      have h2' : 3 < (n : Int) := by omega
      clear ha hb hn hq h1 hw E0 h2
      go_enter Tryd.func5, Tryd.ntmps5
      go_wp2_with fail
      refine (I0.out _).mono ?_; rintro e w' ⟨rfl, rfl⟩
      go_wp2_with fail
      go_ret
      exact ⟨rfl, Kp.rfl' _⟩
    rw [if_neg h2]
    by_cases h3 : q ≠ n
    · rw [if_pos h3]
      have e3 : ((n : Int) != (q : Int)) = true := by rw [bne_iff_ne]; omega
      have h2' : (n : Int) ≤ 3 := by omega
      clear ha hb hn hq h1 hw E0 h2 h3
      go_enter Tryd.func5, Tryd.ntmps5
      go_wp2_with fail
      refine (I0.out _).mono ?_; rintro e w' ⟨rfl, rfl⟩
      go_wp2_with fail
      go_ret
      exact ⟨rfl, Kp.rfl' _⟩
    rw [if_neg h3]
    obtain rfl : q = n := by omega
    exact rHeights_in wd A B l m q c d w ha hb hn hq hw h1 (by omega)
  · have I0 := Lib.hid (fun w => ref3In_any wd 0 4 w false (by
      by_cases h : 0 ≤ wd
      · rw [decide_eq_true h, decide_eq_false (by omega)]; rfl
      · rw [decide_eq_false h]; rfl))
    rw [show phcd wd l m = 1 by unfold phcd; rw [if_pos (by omega)]]
    clear hw ha hb hn hq
    go_enter Tryd.func5, Tryd.ntmps5
    go_wp2_with fail
    refine (I0.out _).mono ?_; rintro e w' ⟨rfl, rfl⟩
    go_wp2_with fail
    go_ret
    exact ⟨rfl, Kp.rfl' _⟩

set_option maxRecDepth 100000 in
set_option maxHeartbeats 12800000 in
theorem phsays_ok (wd : Int) (A B : Option Addr) (l m : List Int) (u : Int) (n q c d z : Nat) (w : World) (hl : Told.Laid w) (ha : Lies w A l) (hb : Lies w B m) (hn : l.length = n) (hq : m.length = q) (hz : phcd wd l m = z) (h0 : z = 0) :
    Calls Tryd.prog 3 #[.int .i64 wd, .slice A n c, .slice B q d, .int .i64 u] w fun e w' => e = .returned (.bool true) ∧ Kp w w' := by
  have hz100 : z ≤ 100 := by rw [← hz]; exact Nat.le_trans (phcd_le wd l m) (by decide)
  have HE := Lib.hid (fun w' (k : Kp w w') => rHeights_any wd A B l m n q c d w' (ha.keep k) (hb.keep k) hn hq)
  have CK := Lib.hid (fun w' (k : Kp w w') => PChk_any wd A B l m n q c d w' (ha.keep k) (hb.keep k) hn hq)
  have ERZ := Lib.hid (fun (wx : World) (hx : Kp w wx) => error_says z wx (laid_kp hl hx) hz100)
  have ER1 := Lib.hid (fun (wx : World) (hx : Kp w wx) => (show Calls Tryd.prog 6 #[.iface 37 (.int .i64 1), .int .i64 1] wx fun e w' => e = .returned (.bool true) ∧ Kp wx w' from error_says 1 wx (laid_kp hl hx) (by decide)))
  have ER0 := Lib.hid (fun (wx : World) (hx : Kp w wx) => (show Calls Tryd.prog 6 #[.nilIface, .int .i64 0] wx fun e w' => e = .returned (.bool true) ∧ Kp wx w' from error_says 0 wx (laid_kp hl hx) (by decide)))
  obtain ⟨K, x, y0, rfl, s⟩ := (ph_or wd l m).resolve_right fun h => h (by rw [hz]; exact h0)
  have K4 := s.w4
  have I1 := Lib.hid (fun w => law4In_any (K : Int) 0 4 w true (by rw [decide_eq_true (by omega), decide_eq_true (by omega)]; rfl))
  have lx : x.length = n := by rw [← hn, s.la, nz_len]
  have ly : y0.length = q := by rw [← hq, s.lb, nz_len]
  have AP := Lib.hid (fun w' (k : Kp w w') => Apart_ok K x y0 l m s A B n q c d w' (ha.keep k) (hb.keep k) hn hq)
  have RA := Lib.hid (fun w' (k : Kp w w') => (show Calls Tryd.prog 8 #[.int .i64 (K : Int), .slice A n c, .slice none 0 0, .slice B q d] w' fun e w'' => e = .returned (.int .i64 (Zx.ap K x y0)) ∧ Kp w' w'' from by
    have e : q = n := by rw [← lx, ← ly, s.len]
    have n3 : n ≤ 3 := by rw [← lx]; exact s.a3
    have := rApart_any n n3 y0 (by omega) (Zx.ris_le s.rb) B d K s.w4 n 0 (by omega) x [] A none c 0 w' lx rfl (Zx.ris_le s.ra) Zx.L7.nil (fun _ => rfl) (by rw [← s.la]; exact ha.keep k) (Lies.empty _ _) (by rw [← s.lb]; exact hb.keep k)
    rw [Zx.rap_none] at this
    rw [e]; exact this))
  subst h0
  rw [hz] at HE CK
  rw [errOf_zero] at CK ERZ
  generalize Zx.ap K x y0 = g at *
  have eg : (g == g) = true := by simp
  clear hl ha hb hn hq hz s lx ly hz100
  by_cases hu : 0 ≤ u ∧ u ≤ 6
  · have I2 := Lib.hid (fun w => law4In_any u 0 6 w true (by rw [decide_eq_true hu.1, decide_eq_true hu.2]; rfl))
    obtain ⟨U, rfl⟩ : ∃ U : Nat, u = (U : Int) := ⟨u.toNat, by omega⟩
    have RW := Lib.hid (fun w => rWays_any _ K U rfl K4 (by omega) w)
    have WY := Lib.hid (fun w => PWay_ok K U w K4 (by omega))
    generalize Zx.wy K U = y at *
    have ey : (y == y) = true := by simp
    clear hu K4
    go_enter Tryd.func3, Tryd.ntmps3
    go_wp2_with fail
    have K0 := Lib.hid (Kp.rfl' w)
    refine (HE.out _ K0.out).mono ?_; rintro e w1 ⟨rfl, k1⟩
    have K1 := Lib.hid (K0.out.trans k1)
    clear k1
    go_wp2_with fail
    refine (CK.out _ K1.out).mono ?_; rintro e w2 ⟨rfl, rfl⟩
    go_wp2_with fail
    refine (ERZ.out _ K1.out).mono ?_; rintro e w3 ⟨rfl, k3⟩
    have K3 := Lib.hid (K1.out.trans k3)
    clear k3
    go_wp2_with fail
    refine (RA.out _ K3.out).mono ?_; rintro e w4 ⟨rfl, k4⟩
    have K4 := Lib.hid (K3.out.trans k4)
    clear k4
    go_wp2_with fail
    refine (AP.out _ K4.out).mono ?_; rintro e w5 ⟨rfl, k5⟩
    have K5 := Lib.hid (K4.out.trans k5)
    clear k5
    go_wp2_with fail
    refine (ERZ.out _ K5.out).mono ?_; rintro e w6 ⟨rfl, k6⟩
    have K6 := Lib.hid (K5.out.trans k6)
    clear k6
    go_wp2_with fail
    refine (I1.out _).mono ?_; rintro e w7 ⟨rfl, rfl⟩
    go_wp2_with fail
    refine (I2.out _).mono ?_; rintro e w8 ⟨rfl, rfl⟩
    go_wp2_with fail
    refine (RW.out _).mono ?_; rintro e w9 ⟨rfl, rfl⟩
    go_wp2_with fail
    refine (WY.out _).mono ?_; rintro e w10 ⟨rfl, k10⟩
    have K10 := Lib.hid (K6.out.trans k10)
    clear k10
    go_wp2_with fail
    refine (ER0.out _ K10.out).mono ?_; rintro e w11 ⟨rfl, k11⟩
    have K11 := Lib.hid (K10.out.trans k11)
    clear k11
    go_wp2_with fail
    go_ret
    exact ⟨rfl, K11.out⟩
  · have I2 := Lib.hid (fun w => law4In_any u 0 6 w false (by
      by_cases h : 0 ≤ u
      · rw [decide_eq_true h, decide_eq_false (by omega)]; rfl
      · rw [decide_eq_false h]; rfl))
    have WY := Lib.hid (fun w => PWay_err (K : Int) u w (if_neg (by omega)))
    clear hu K4
    go_enter Tryd.func3, Tryd.ntmps3
    go_wp2_with fail
    have K0 := Lib.hid (Kp.rfl' w)
    refine (HE.out _ K0.out).mono ?_; rintro e w1 ⟨rfl, k1⟩
    have K1 := Lib.hid (K0.out.trans k1)
    clear k1
    go_wp2_with fail
    refine (CK.out _ K1.out).mono ?_; rintro e w2 ⟨rfl, rfl⟩
    go_wp2_with fail
    refine (ERZ.out _ K1.out).mono ?_; rintro e w3 ⟨rfl, k3⟩
    have K3 := Lib.hid (K1.out.trans k3)
    clear k3
    go_wp2_with fail
    refine (RA.out _ K3.out).mono ?_; rintro e w4 ⟨rfl, k4⟩
    have K4 := Lib.hid (K3.out.trans k4)
    clear k4
    go_wp2_with fail
    refine (AP.out _ K4.out).mono ?_; rintro e w5 ⟨rfl, k5⟩
    have K5 := Lib.hid (K4.out.trans k5)
    clear k5
    go_wp2_with fail
    refine (ERZ.out _ K5.out).mono ?_; rintro e w6 ⟨rfl, k6⟩
    have K6 := Lib.hid (K5.out.trans k6)
    clear k6
    go_wp2_with fail
    refine (I1.out _).mono ?_; rintro e w7 ⟨rfl, rfl⟩
    go_wp2_with fail
    refine (I2.out _).mono ?_; rintro e w8 ⟨rfl, rfl⟩
    go_wp2_with fail
    refine (WY.out _).mono ?_; rintro e w9 ⟨rfl, rfl⟩
    go_wp2_with fail
    refine (ER1.out _ K6.out).mono ?_; rintro e w10 ⟨rfl, k10⟩
    have K10 := Lib.hid (K6.out.trans k10)
    clear k10
    go_wp2_with fail
    go_ret
    exact ⟨rfl, K10.out⟩
set_option maxRecDepth 100000 in
set_option maxHeartbeats 12800000 in
theorem phsays_bad (wd : Int) (A B : Option Addr) (l m : List Int) (u : Int) (n q c d z : Nat) (w : World) (hl : Told.Laid w) (ha : Lies w A l) (hb : Lies w B m) (hn : l.length = n) (hq : m.length = q) (hz : phcd wd l m = z) (h0 : z ≠ 0) :
    Calls Tryd.prog 3 #[.int .i64 wd, .slice A n c, .slice B q d, .int .i64 u] w fun e w' => e = .returned (.bool true) ∧ Kp w w' := by
  have hz100 : z ≤ 100 := by rw [← hz]; exact Nat.le_trans (phcd_le wd l m) (by decide)
  have HE := Lib.hid (fun w' (k : Kp w w') => rHeights_any wd A B l m n q c d w' (ha.keep k) (hb.keep k) hn hq)
  have CK := Lib.hid (fun w' (k : Kp w w') => PChk_any wd A B l m n q c d w' (ha.keep k) (hb.keep k) hn hq)
  have ERZ := Lib.hid (fun (wx : World) (hx : Kp w wx) => error_says z wx (laid_kp hl hx) hz100)
  have ER1 := Lib.hid (fun (wx : World) (hx : Kp w wx) => (show Calls Tryd.prog 6 #[.iface 37 (.int .i64 1), .int .i64 1] wx fun e w' => e = .returned (.bool true) ∧ Kp wx w' from error_says 1 wx (laid_kp hl hx) (by decide)))
  have ER0 := Lib.hid (fun (wx : World) (hx : Kp w wx) => (show Calls Tryd.prog 6 #[.nilIface, .int .i64 0] wx fun e w' => e = .returned (.bool true) ∧ Kp wx w' from error_says 0 wx (laid_kp hl hx) (by decide)))
  have AP := Lib.hid (fun w' (k : Kp w w') => Apart_no wd A B l m n q c d w' (ha.keep k) (hb.keep k) hn hq (by rw [hz]; exact h0))
  rw [hz] at HE CK AP
  rw [errOf_ne _ h0] at CK ERZ AP
  have e1 : ((z : Int) == 0) = false := by rw [beq_eq_false_iff_ne]; omega
  clear hl ha hb hn hq hz hz100 h0
  by_cases hw : 0 ≤ wd ∧ wd ≤ 4
  · have I1 := Lib.hid (fun w => law4In_any wd 0 4 w true (by rw [decide_eq_true hw.1, decide_eq_true hw.2]; rfl))
    obtain ⟨K, rfl⟩ : ∃ K : Nat, wd = (K : Int) := ⟨wd.toNat, by omega⟩
    have K4 : K ≤ 4 := by omega
    by_cases hu : 0 ≤ u ∧ u ≤ 6
    · have I2 := Lib.hid (fun w => law4In_any u 0 6 w true (by rw [decide_eq_true hu.1, decide_eq_true hu.2]; rfl))
      obtain ⟨U, rfl⟩ : ∃ U : Nat, u = (U : Int) := ⟨u.toNat, by omega⟩
      have RW := Lib.hid (fun w => rWays_any _ K U rfl K4 (by omega) w)
      have WY := Lib.hid (fun w => PWay_ok K U w K4 (by omega))
      generalize Zx.wy K U = y at *
      have ey : (y == y) = true := by simp
      clear hu hw K4
      go_enter Tryd.func3, Tryd.ntmps3
      go_wp2_with fail
      have K0 := Lib.hid (Kp.rfl' w)
      refine (HE.out _ K0.out).mono ?_; rintro e w1 ⟨rfl, k1⟩
      have K1 := Lib.hid (K0.out.trans k1)
      clear k1
      go_wp2_with fail
      refine (CK.out _ K1.out).mono ?_; rintro e w2 ⟨rfl, rfl⟩
      go_wp2_with fail
      refine (ERZ.out _ K1.out).mono ?_; rintro e w3 ⟨rfl, k3⟩
      have K3 := Lib.hid (K1.out.trans k3)
      clear k3
      go_wp2_with fail
      refine (AP.out _ K3.out).mono ?_; rintro e w4 ⟨rfl, rfl⟩
      go_wp2_with fail
      refine (ERZ.out _ K3.out).mono ?_; rintro e w5 ⟨rfl, k5⟩
      have K5 := Lib.hid (K3.out.trans k5)
      clear k5
      go_wp2_with fail
      refine (I1.out _).mono ?_; rintro e w6 ⟨rfl, rfl⟩
      go_wp2_with fail
      refine (I2.out _).mono ?_; rintro e w7 ⟨rfl, rfl⟩
      go_wp2_with fail
      refine (RW.out _).mono ?_; rintro e w8 ⟨rfl, rfl⟩
      go_wp2_with fail
      refine (WY.out _).mono ?_; rintro e w9 ⟨rfl, k9⟩
      have K9 := Lib.hid (K5.out.trans k9)
      clear k9
      go_wp2_with fail
      refine (ER0.out _ K9.out).mono ?_; rintro e w10 ⟨rfl, k10⟩
      have K10 := Lib.hid (K9.out.trans k10)
      clear k10
      go_wp2_with fail
      go_ret
      exact ⟨rfl, K10.out⟩
    · have I2 := Lib.hid (fun w => law4In_any u 0 6 w false (by
        by_cases h : 0 ≤ u
        · rw [decide_eq_true h, decide_eq_false (by omega)]; rfl
        · rw [decide_eq_false h]; rfl))
      have WY := Lib.hid (fun w => PWay_err (K : Int) u w (if_neg (by omega)))
      clear hu hw K4
      go_enter Tryd.func3, Tryd.ntmps3
      go_wp2_with fail
      have K0 := Lib.hid (Kp.rfl' w)
      refine (HE.out _ K0.out).mono ?_; rintro e w1 ⟨rfl, k1⟩
      have K1 := Lib.hid (K0.out.trans k1)
      clear k1
      go_wp2_with fail
      refine (CK.out _ K1.out).mono ?_; rintro e w2 ⟨rfl, rfl⟩
      go_wp2_with fail
      refine (ERZ.out _ K1.out).mono ?_; rintro e w3 ⟨rfl, k3⟩
      have K3 := Lib.hid (K1.out.trans k3)
      clear k3
      go_wp2_with fail
      refine (AP.out _ K3.out).mono ?_; rintro e w4 ⟨rfl, rfl⟩
      go_wp2_with fail
      refine (ERZ.out _ K3.out).mono ?_; rintro e w5 ⟨rfl, k5⟩
      have K5 := Lib.hid (K3.out.trans k5)
      clear k5
      go_wp2_with fail
      refine (I1.out _).mono ?_; rintro e w6 ⟨rfl, rfl⟩
      go_wp2_with fail
      refine (I2.out _).mono ?_; rintro e w7 ⟨rfl, rfl⟩
      go_wp2_with fail
      refine (WY.out _).mono ?_; rintro e w8 ⟨rfl, rfl⟩
      go_wp2_with fail
      refine (ER1.out _ K5.out).mono ?_; rintro e w9 ⟨rfl, k9⟩
      have K9 := Lib.hid (K5.out.trans k9)
      clear k9
      go_wp2_with fail
      go_ret
      exact ⟨rfl, K9.out⟩
  · have I1 := Lib.hid (fun w => law4In_any wd 0 4 w false (by
      by_cases h : 0 ≤ wd
      · rw [decide_eq_true h, decide_eq_false (by omega)]; rfl
      · rw [decide_eq_false h]; rfl))
    have WY := Lib.hid (fun w => PWay_err wd u w (if_neg (by omega)))
    clear hw
    go_enter Tryd.func3, Tryd.ntmps3
    go_wp2_with fail
    have K0 := Lib.hid (Kp.rfl' w)
    refine (HE.out _ K0.out).mono ?_; rintro e w1 ⟨rfl, k1⟩
    have K1 := Lib.hid (K0.out.trans k1)
    clear k1
    go_wp2_with fail
    refine (CK.out _ K1.out).mono ?_; rintro e w2 ⟨rfl, rfl⟩
    go_wp2_with fail
    refine (ERZ.out _ K1.out).mono ?_; rintro e w3 ⟨rfl, k3⟩
    have K3 := Lib.hid (K1.out.trans k3)
    clear k3
    go_wp2_with fail
    refine (AP.out _ K3.out).mono ?_; rintro e w4 ⟨rfl, rfl⟩
    go_wp2_with fail
    refine (ERZ.out _ K3.out).mono ?_; rintro e w5 ⟨rfl, k5⟩
    have K5 := Lib.hid (K3.out.trans k5)
    clear k5
    go_wp2_with fail
    refine (I1.out _).mono ?_; rintro e w6 ⟨rfl, rfl⟩
    go_wp2_with fail
    refine (WY.out _).mono ?_; rintro e w7 ⟨rfl, rfl⟩
    go_wp2_with fail
    refine (ER1.out _ K5.out).mono ?_; rintro e w8 ⟨rfl, k8⟩
    have K8 := Lib.hid (K5.out.trans k8)
    clear k8
    go_wp2_with fail
    go_ret
    exact ⟨rfl, K8.out⟩
theorem walk_PathsSays (wd : Int) (A : Option Addr) (l : List Int) (c : Nat) (B : Option Addr) (m : List Int) (d : Nat) (u : Int) (w : World) (hl : Told.Laid w) (ha : Lies w A l) (hb : Lies w B m) :
    Calls Tryd.prog 3 #[.int .i64 wd, .slice A l.length c, .slice B m.length d, .int .i64 u] w fun e w' => e = .returned (.bool true) ∧ Kp w w' := by
  by_cases h : phcd wd l m = 0
  · exact phsays_ok wd A B l m u _ _ c d _ w hl ha hb rfl rfl rfl h
  · exact phsays_bad wd A B l m u _ _ c d _ w hl ha hb rfl rfl rfl h
end Go.Proofs.YtolkdbijenbchaaDoor
