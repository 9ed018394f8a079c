/- The law SturmSays. -/
import Derived.Test.YtbdpcpodmmhjaaaDoorSuRf4
import Derived.Test.YtbdpcpodmmhjaaaDoorLawIn
import Derived.Test.YtbdpcpodmmhjaaaDoorErrG
namespace Go.Proofs.YtbdpcpodmmhjaaaDoor
open Go.ChangeShapes Go.WideShapes Go.ChangeAt Go.RowKit
set_option linter.unusedVariables false

theorem ucd_some (L : List Int) : ucd L ≤ 5 := by
  unfold ucd; repeat' split
  all_goals omega

set_option maxRecDepth 100000 in
set_option maxHeartbeats 6400000 in
theorem ssays_bad (A : Option Addr) (L : List Int) (c : Nat) (x y : Int) (w : World) (hl : Told.Laid w) (ha : Lies w A L) (h : ucd L ≠ 0) :
    Calls Tryd.prog 3 #[.slice A L.length c, .int .i64 x, .int .i64 y] w fun e w' => e = .returned (.bool true) ∧ Kp w w' := by
  have HL := Lib.hid hl
  have WH := Lib.hid (rWhole_any A L _ c w ha rfl)
  have CK := Lib.hid (uChk_any A L c w ha)
  have AL := Lib.hid (fun w' (k : Kp w w') => UAll_bad A L c w' (ha.keep k) h)
  have TN := Lib.hid (fun w' (k : Kp w w') => UTurns_bad A L c w' (ha.keep k) h)
  have CT := Lib.hid (fun w' (k : Kp w w') => UContent_bad A L c w' (ha.keep k) h)
  have CO := Lib.hid (fun w' (k : Kp w w') => UCount_bad A L c x y w' (ha.keep k) h)
  have hz := ucd_some L
  have ERR := Lib.hid (fun (wx : World) (hx : Kp w wx) => error_says (ucd L) wx (laid_kp HL.out hx) (by omega))
  rw [errOf_ne _ h] at CK AL TN CT CO ERR
  have e1 : ((ucd L : Int) == 0) = false := by rw [beq_eq_false_iff_ne]; omega
  generalize ucd L = z at *
  generalize L.length = n1 at *
  clear ha hl h hz
  go_enter Tryd.func3, Tryd.ntmps3
  go_wp2_with fail
  refine (WH.out).mono ?_; rintro e w1 ⟨rfl, rfl⟩
  go_wp2_with fail
  refine (CK.out).mono ?_; rintro e w1 ⟨rfl, rfl⟩
  go_wp2_with fail
  refine (ERR.out _ (Kp.rfl' _)).mono ?_; rintro e w1 ⟨rfl, k1⟩
  have K := Lib.hid k1
  clear k1 CK WH
  go_wp2_with fail
  refine (AL.out _ K.out).mono ?_; rintro e w2 ⟨rfl, k2⟩
  replace K := Lib.hid (K.out.trans k2); clear k2
  go_wp2_with fail
  refine (ERR.out _ K.out).mono ?_; rintro e w3 ⟨rfl, k3⟩
  replace K := Lib.hid (K.out.trans k3); clear k3
  go_wp2_with fail
  refine (TN.out _ K.out).mono ?_; rintro e w4 ⟨rfl, k4⟩
  replace K := Lib.hid (K.out.trans k4); clear k4
  go_wp2_with fail
  refine (ERR.out _ K.out).mono ?_; rintro e w5 ⟨rfl, k5⟩
  replace K := Lib.hid (K.out.trans k5); clear k5
  go_wp2_with fail
  refine (CT.out _ K.out).mono ?_; rintro e w6 ⟨rfl, k6⟩
  replace K := Lib.hid (K.out.trans k6); clear k6
  go_wp2_with fail
  refine (ERR.out _ K.out).mono ?_; rintro e w7 ⟨rfl, k7⟩
  replace K := Lib.hid (K.out.trans k7); clear k7
  go_wp2_with fail
  refine (CO.out _ K.out).mono ?_; rintro e w8 ⟨rfl, k8⟩
  replace K := Lib.hid (K.out.trans k8); clear k8
  go_wp2_with fail
  refine (ERR.out _ K.out).mono ?_; rintro e w9 ⟨rfl, k9⟩
  replace K := Lib.hid (K.out.trans k9); clear k9
  go_wp2_with fail
  go_ret
  exact ⟨rfl, K.out⟩

set_option maxRecDepth 100000 in
set_option maxHeartbeats 12800000 in
theorem ssays_good (A : Option Addr) (L : List Int) (n c : Nat) (x y : Int) (w : World) (hl : Told.Laid w) (ha : Lies w A L) (s : Whl n L) (hc : n ≤ c) :
    Calls Tryd.prog 3 #[.slice A n c, .int .i64 x, .int .i64 y] w fun e w' => e = .returned (.bool true) ∧ Kp w w' := by
  have HL := Lib.hid hl
  have n4 := s.n4
  have WH := Lib.hid (rWhole_any A L n c w ha s.len)
  have CK := Lib.hid (uChk_any A L c w ha)
  rw [s.code] at WH CK
  rw [s.len] at CK
  have AL := Lib.hid (fun w' (k : Kp w w') => UAll_ok A L n c w' (ha.keep k) s hc)
  have TN := Lib.hid (fun w' (k : Kp w w') => UTurns_ok A L n c w' (ha.keep k) s)
  have CT := Lib.hid (fun w' (k : Kp w w') => UContent_ok A L n c w' (ha.keep k) s)
  have CH := Lib.hid (fun w' (k : Kp w w') => rChain_any A L n c w' (ha.keep k) s hc)
  have RT := Lib.hid (fun w' (k : Kp w w') => rTurns_any A L n c w' (ha.keep k) s.len (by omega))
  have RC := Lib.hid (fun w' (k : Kp w w') => rContent_any A L n c 20 w' (ha.keep k) s.len (by omega) (by omega) (by omega) s.bn)
  obtain ⟨c4, cg⟩ := Stu.chain_len4 s.ne s.len4 s.tp
  have csz := Stu.chain_sz s.ne s.len4 s.tp s.bn
  have RE := Lib.hid (fun (A' : Option Addr) (c' : Nat) w' (h : LiesM w' A' (Stu.chain L)) => rEnds_any A' (Stu.chain L) _ c' w' h rfl (by omega) fun g hg => ⟨csz g hg, (cg g hg).1⟩)
  have RSg := Lib.hid (fun (A' : Option Addr) (c' : Nat) (z : Int) w' (h : LiesM w' A' (Stu.chain L)) (hz : -100 ≤ z ∧ z ≤ 100) => rSigns_any A' (Stu.chain L) _ c' z w' h rfl (by omega) csz hz)
  have ERR0 := Lib.hid (fun (wx : World) (hx : Kp w wx) => show Calls Tryd.prog 5 #[.nilIface, .int .i64 0] wx fun e w' => e = .returned (.bool true) ∧ Kp wx w' from error_says 0 wx (laid_kp HL.out hx) (by decide))
  have ERR1 := Lib.hid (fun (wx : World) (hx : Kp w wx) => show Calls Tryd.prog 5 #[errOf 1, .int .i64 1] wx fun e w' => e = .returned (.bool true) ∧ Kp wx w' from error_says 1 wx (laid_kp HL.out hx) (by decide))
  have CY := Lib.hid (fun (h : -100 ≤ x ∧ x ≤ 100 ∧ x ≤ y ∧ y ≤ 100) w' (k : Kp w w') => UCount_told A L n c x y w' (ha.keep k) s hc h)
  have CN := Lib.hid (fun (h : ¬ (-100 ≤ x ∧ x ≤ 100 ∧ x ≤ y ∧ y ≤ 100)) w' (k : Kp w w') => UCount_off A L n c x y w' (ha.keep k) s h)
  have DV := Lib.hid (fun z : Int => show ((Stu.vs (Stu.chain L) (z : Rat) : Nat) : Int) = dv L z from rfl)
  have LE := Lib.hid (fun z : Int => show 0 ≤ dv L z ∧ dv L z ≤ 4 from ⟨Int.natCast_nonneg _, by
    have := s.sturm.le (z : Rat)
    have := s.len4
    unfold dv; omega⟩)
  rw [errOf_ne 1 (by decide)] at CN ERR1
  have I1 := Lib.hid (fun w => law3In_any x (-100) 100 w (decide (-100 ≤ x) && decide (x ≤ 100)) rfl)
  have I2 := Lib.hid (fun w => law3In_any y x 100 w (decide (x ≤ y) && decide (y ≤ 100)) rfl)
  generalize Stu.ends (Stu.chain L) = E at *
  generalize Stu.trn L = T at *
  generalize Stu.gcl L = G at *
  have ee : (E == E) = true := by simp
  have et : ((T : Int) == (T : Int)) = true := by simp
  have eg : (G == G) = true := by simp
  clear ha hl c4 cg csz
  go_enter Tryd.func3, Tryd.ntmps3
  go_wp2_with fail
  refine (WH.out).mono ?_; rintro e w1 ⟨rfl, rfl⟩
  go_wp2_with fail
  refine (CK.out).mono ?_; rintro e w1 ⟨rfl, rfl⟩
  rw [errOf_zero]
  go_wp2_with fail
  refine (ERR0.out _ (Kp.rfl' _)).mono ?_; rintro e w1 ⟨rfl, k1⟩
  have K := Lib.hid k1
  clear k1 CK WH
  go_wp2_with fail
  refine (CH.out _ K.out).mono ?_; rintro e w2 ⟨A2, c2, rfl, lm, k2⟩
  replace K := Lib.hid (K.out.trans k2)
  have R2 := Lib.hid (RE.out A2 c2 w2 lm)
  clear k2 lm RE
  go_wp2_with fail
  refine (R2.out).mono ?_; rintro e w3 ⟨rfl, k3⟩
  replace K := Lib.hid (K.out.trans k3); clear k3 R2
  go_wp2_with fail
  refine (RT.out _ K.out).mono ?_; rintro e w4 ⟨rfl, rfl⟩
  go_wp2_with fail
  refine (RC.out _ K.out).mono ?_; rintro e w4 ⟨rfl, rfl⟩
  go_wp2_with fail
  refine (AL.out _ K.out).mono ?_; rintro e w4 ⟨rfl, k4⟩
  replace K := Lib.hid (K.out.trans k4); clear k4
  go_wp2_with fail
  refine (ERR0.out _ K.out).mono ?_; rintro e w5 ⟨rfl, k5⟩
  replace K := Lib.hid (K.out.trans k5); clear k5
  go_wp2_with fail
  refine (TN.out _ K.out).mono ?_; rintro e w6 ⟨rfl, k6⟩
  replace K := Lib.hid (K.out.trans k6); clear k6
  go_wp2_with fail
  refine (ERR0.out _ K.out).mono ?_; rintro e w7 ⟨rfl, k7⟩
  replace K := Lib.hid (K.out.trans k7); clear k7
  go_wp2_with fail
  refine (CT.out _ K.out).mono ?_; rintro e w8 ⟨rfl, k8⟩
  replace K := Lib.hid (K.out.trans k8); clear k8
  go_wp2_with fail
  refine (ERR0.out _ K.out).mono ?_; rintro e w9 ⟨rfl, k9⟩
  replace K := Lib.hid (K.out.trans k9); clear k9
  by_cases hr : -100 ≤ x ∧ x ≤ 100 ∧ x ≤ y ∧ y ≤ 100
  · rw [decide_eq_true hr.1, decide_eq_true hr.2.1] at I1
    rw [decide_eq_true hr.2.2.1, decide_eq_true hr.2.2.2] at I2
    have C := Lib.hid (CY.out hr)
    have SX := Lib.hid (fun (A' : Option Addr) (c' : Nat) w' (h : LiesM w' A' (Stu.chain L)) => RSg.out A' c' x w' h (by omega))
    have SY := Lib.hid (fun (A' : Option Addr) (c' : Nat) w' (h : LiesM w' A' (Stu.chain L)) => RSg.out A' c' y w' h (by omega))
    rw [DV.out x] at SX
    rw [DV.out y] at SY
    have b1 := LE.out x
    have b2 := LE.out y
    generalize dv L x = p at *
    generalize dv L y = q at *
    have hw : IntKind.i64.wrap (p - q) = p - q := IntWalk.i64_in _ (by omega)
    have ep : (p - q == p - q) = true := by simp
    clear hr b1 b2 RSg CY CN DV LE
    go_wp2_with fail
    refine (I1.out _).mono ?_; rintro e w2 ⟨rfl, rfl⟩
    go_wp2_with fail
    refine (I2.out _).mono ?_; rintro e w2 ⟨rfl, rfl⟩
    go_wp2_with fail
    refine (CH.out _ K.out).mono ?_; rintro e w10 ⟨A3, c3, rfl, lm, k10⟩
    replace K := Lib.hid (K.out.trans k10)
    have LM := Lib.hid lm
    clear k10 lm
    go_wp2_with fail
    refine (SX.out A3 c3 _ LM.out).mono ?_; rintro e w11 ⟨rfl, k11⟩
    replace K := Lib.hid (K.out.trans k11)
    have LM2 := Lib.hid (LM.out.keep k11)
    clear k11
    go_wp2_with fail
    refine (SY.out A3 c3 _ LM2.out).mono ?_; rintro e w12 ⟨rfl, k12⟩
    replace K := Lib.hid (K.out.trans k12); clear k12
    go_wp2_with fail
    refine (C.out _ K.out).mono ?_; rintro e w13 ⟨rfl, k13⟩
    replace K := Lib.hid (K.out.trans k13); clear k13
    go_wp2_with fail
    refine (ERR0.out _ K.out).mono ?_; rintro e w14 ⟨rfl, k14⟩
    replace K := Lib.hid (K.out.trans k14); clear k14
    go_wp2_with fail
    go_ret
    exact ⟨rfl, K.out⟩
  · have C := Lib.hid (CN.out hr)
    by_cases g : -100 ≤ x ∧ x ≤ 100
    · rw [decide_eq_true g.1, decide_eq_true g.2] at I1
      rw [show (decide (x ≤ y) && decide (y ≤ 100)) = false by
        by_cases q1 : x ≤ y
        · rw [decide_eq_false (show ¬ y ≤ 100 from fun q2 => hr ⟨g.1, g.2, q1, q2⟩), Bool.and_false]
        · rw [decide_eq_false q1]; rfl] at I2
      clear hr g RSg CY CN DV LE
      go_wp2_with fail
      refine (I1.out _).mono ?_; rintro e w2 ⟨rfl, rfl⟩
      go_wp2_with fail
      refine (I2.out _).mono ?_; rintro e w2 ⟨rfl, rfl⟩
      go_wp2_with fail
      refine (C.out _ K.out).mono ?_; rintro e w13 ⟨rfl, k13⟩
      replace K := Lib.hid (K.out.trans k13); clear k13
      go_wp2_with fail
      refine (ERR1.out _ K.out).mono ?_; rintro e w14 ⟨rfl, k14⟩
      replace K := Lib.hid (K.out.trans k14); clear k14
      go_wp2_with fail
      go_ret
      exact ⟨rfl, K.out⟩
    · rw [show (decide (-100 ≤ x) && decide (x ≤ 100)) = false by
        by_cases q1 : -100 ≤ x
        · rw [decide_eq_false (show ¬ x ≤ 100 from fun q2 => g ⟨q1, q2⟩), Bool.and_false]
        · rw [decide_eq_false q1]; rfl] at I1
      clear hr g RSg CY CN DV LE
      go_wp2_with fail
      refine (I1.out _).mono ?_; rintro e w2 ⟨rfl, rfl⟩
      go_wp2_with fail
      refine (C.out _ K.out).mono ?_; rintro e w13 ⟨rfl, k13⟩
      replace K := Lib.hid (K.out.trans k13); clear k13
      go_wp2_with fail
      refine (ERR1.out _ K.out).mono ?_; rintro e w14 ⟨rfl, k14⟩
      replace K := Lib.hid (K.out.trans k14); clear k14
      go_wp2_with fail
      go_ret
      exact ⟨rfl, K.out⟩

theorem walk_SturmSays (A : Option Addr) (L : List Int) (c : Nat) (x y : Int) (w : World) (hl : Told.Laid w) (ha : Lies w A L) (lc : L.length ≤ c) :
    Calls Tryd.prog 3 #[.slice A L.length c, .int .i64 x, .int .i64 y] w fun e w' => e = .returned (.bool true) ∧ Kp w w' := by
  rcases whl_or L with s | h
  · exact ssays_good A L _ c x y w hl ha s lc
  · exact ssays_bad A L c x y w hl ha h

end Go.Proofs.YtbdpcpodmmhjaaaDoor
