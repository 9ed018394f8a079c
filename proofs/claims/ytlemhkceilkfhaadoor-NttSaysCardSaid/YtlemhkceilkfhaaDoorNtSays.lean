/- The law NttSays: the program and the document's answer agree. -/
import Derived.Test.YtlemhkceilkfhaaDoorNtRef
import Derived.Test.YtlemhkceilkfhaaDoorErrG
namespace Go.Proofs.YtlemhkceilkfhaaDoor
open Go.ChangeShapes Go.WideShapes Go.ChangeAt Go.RowKit
set_option linter.unusedVariables false

theorem errOf_ret (c : Nat) (w w' : World) (e : Ending) (h : NFails c w e w') : e = .returned (.tuple #[.slice none 0 0, errOf c]) ∧ Kp w w' := h
theorem ncode_le (l : List Int) : ncode l ≤ 100 := by rcases ncode_some l with h | h | h <;> omega

set_option maxRecDepth 100000 in
set_option maxHeartbeats 1600000 in
theorem ntsays_bad1 (A B : Option Addr) (l m : List Int) (ca cb : Nat) (w : World) (hl : Told.Laid w) (ha : Lies w A l) (hb : Lies w B m) (bad : ncode l ≠ 0) :
    Calls Tryd.prog 3 #[.slice A l.length ca, .slice B m.length cb] w fun e w' => e = .returned (.bool true) ∧ Kp w w' := by
  have HL := Lib.hid hl
  have EI := Lib.hid (refEight_any A l ca w ha)
  have CHK := Lib.hid (fun (wx : World) (hx : Kp w wx) => nCheck_any A l ca wx (ha.keep hx))
  have TH := Lib.hid (fun (wx : World) (hx : Kp w wx) => there_bad A l ca wx (ha.keep hx) bad)
  have BK := Lib.hid (fun (wx : World) (hx : Kp w wx) => nback_bad A l ca wx (ha.keep hx) bad)
  have FO := Lib.hid (fun (wx : World) (hx : Kp w wx) => fold_bad1 A B l m ca cb wx (ha.keep hx) bad)
  have HC := Lib.hid (ncode_le l)
  have c0 : ((ncode l : Int) == 0) = false := by rw [beq_eq_false_iff_ne]; omega
  unfold NFails at TH BK FO
  clear hl ha hb bad
  generalize ncode l = c at *
  generalize l.length = n1 at *
  generalize m.length = n2 at *
  have ERR := Lib.hid (fun (wx : World) (hx : Kp w wx) => error_says c wx (laid_kp HL.out hx) HC.out)
  generalize errOf c = ec at *
  go_enter Tryd.func3, Tryd.ntmps3
  go_wp2_with fail
  refine (EI.out).mono ?_; rintro e w' ⟨rfl, rfl⟩
  go_wp2_with fail
  refine (CHK.out _ (Kp.rfl' w)).mono ?_; rintro e w' ⟨rfl, rfl⟩
  go_wp2_with fail
  refine (ERR.out _ (Kp.rfl' w)).mono ?_; rintro e w2 ⟨rfl, hk⟩
  have K2 := Lib.hid hk
  clear hk
  go_wp2_with fail
  refine (TH.out _ K2.out).mono ?_; rintro e w3 ⟨rfl, hk⟩
  have K3 := Lib.hid (K2.out.trans hk)
  clear hk
  go_wp2_with fail
  refine (ERR.out _ K3.out).mono ?_; rintro e w4 ⟨rfl, hk⟩
  have K4 := Lib.hid (K3.out.trans hk)
  clear hk
  go_wp2_with fail
  refine (same_nil _).mono ?_; rintro e w5 ⟨rfl, hk⟩
  have K5 := Lib.hid (K4.out.trans hk)
  clear hk
  go_wp2_with fail
  refine (BK.out _ K5.out).mono ?_; rintro e w6 ⟨rfl, hk⟩
  have K6 := Lib.hid (K5.out.trans hk)
  clear hk
  go_wp2_with fail
  refine (ERR.out _ K6.out).mono ?_; rintro e w7 ⟨rfl, hk⟩
  have K7 := Lib.hid (K6.out.trans hk)
  clear hk
  go_wp2_with fail
  refine (same_nil _).mono ?_; rintro e w8 ⟨rfl, hk⟩
  have K8 := Lib.hid (K7.out.trans hk)
  clear hk
  go_wp2_with fail
  refine (FO.out _ K8.out).mono ?_; rintro e w9 ⟨rfl, hk⟩
  have K9 := Lib.hid (K8.out.trans hk)
  clear hk
  go_wp2_with fail
  refine (ERR.out _ K9.out).mono ?_; rintro e w10 ⟨rfl, hk⟩
  have K10 := Lib.hid (K9.out.trans hk)
  clear hk
  go_wp2_with fail
  refine (same_nil _).mono ?_; rintro e w11 ⟨rfl, hk⟩
  have K11 := Lib.hid (K10.out.trans hk)
  clear hk
  go_wp2_with fail
  go_ret
  exact ⟨rfl, K11.out⟩

/-- What is common to the two ways on: a is a good row. -/
theorem refThere (A : Option Addr) (f : Nat → Nt.G) (c : Nat) (w : World) (hl : Lies w A (Nt.nt f)) :
    Calls Tryd.prog 7 #[.slice A 8 c, .int .i64 64, .int .i64 1] w fun e w' => ∃ A' c', e = .returned (.slice A' 8 c') ∧ Lies w' A' (Nt.nt (Nt.tr 64 f)) ∧ Kp w w' := by
  have h := refTurned_any A f c 64 1 w hl
  rw [Nt.trd_there] at h
  exact h
theorem refBack (A : Option Addr) (f : Nat → Nt.G) (c : Nat) (w : World) (hl : Lies w A (Nt.nt f)) :
    Calls Tryd.prog 7 #[.slice A 8 c, .int .i64 253, .int .i64 225] w fun e w' => ∃ A' c', e = .returned (.slice A' 8 c') ∧ Lies w' A' (Nt.nt (Nt.bk f)) ∧ Kp w w' := by
  have h := refTurned_any A f c 253 225 w hl
  rw [Nt.trd_back] at h
  exact h

set_option maxRecDepth 100000 in
set_option maxHeartbeats 3200000 in
theorem ntsays_good (A B : Option Addr) (f : Nat → Nt.G) (m : List Int) (ca cb : Nat) (w : World) (hl : Told.Laid w) (ha : Lies w A (Nt.nt f)) (hb : Lies w B m) :
    Calls Tryd.prog 3 #[.slice A 8 ca, .slice B m.length cb] w fun e w' => e = .returned (.bool true) ∧ Kp w w' := by
  have HL := Lib.hid hl
  have EI := Lib.hid (by
    have h := refEight_any A (Nt.nt f) ca w ha
    rw [ncode_nt, Nt.len_nt] at h
    exact h)
  have CHK := Lib.hid (fun (wx : World) (hx : Kp w wx) => nCheck_ok A f ca wx (ha.keep hx))
  have RT := Lib.hid (fun (wx : World) (hx : Kp w wx) => refThere A f ca wx (ha.keep hx))
  have RB := Lib.hid (fun (wx : World) (hx : Kp w wx) => refBack A f ca wx (ha.keep hx))
  have TH := Lib.hid (fun (wx : World) (hx : Kp w wx) => there_ok A f ca wx (ha.keep hx))
  have BK := Lib.hid (fun (wx : World) (hx : Kp w wx) => nback_ok A f ca wx (ha.keep hx))
  have EJ := Lib.hid (fun (wx : World) (hx : Kp w wx) => refEight_any B m cb wx (hb.keep hx))
  have HAB := Lib.hid (And.intro ha hb)
  unfold NGives at TH BK
  have ER0 := Lib.hid (fun (wx : World) => errorK_nil 0 wx true rfl)
  have LT := Lib.hid (Nt.len_nt (Nt.tr 64 f))
  have LB := Lib.hid (Nt.len_nt (Nt.bk f))
  clear hl ha hb
  obtain ⟨q, hq⟩ : ∃ q, q = m.length := ⟨_, rfl⟩
  rw [← hq] at EJ ⊢
  have HQ := Lib.hid hq
  clear hq
  go_enter Tryd.func3, Tryd.ntmps3
  go_wp2_with fail
  refine (EI.out).mono ?_; rintro e w' ⟨rfl, rfl⟩
  go_wp2_with fail
  refine (CHK.out _ (Kp.rfl' w)).mono ?_; rintro e w' ⟨rfl, rfl⟩
  go_wp2_with fail
  refine (ER0.out _).mono ?_; rintro e w2 ⟨rfl, hk⟩
  have K2 := Lib.hid hk
  clear hk
  go_wp2_with fail
  refine (RT.out _ K2.out).mono ?_; rintro e w3 ⟨A3, c3, rfl, l3, hk⟩
  have L3 := Lib.hid l3
  have K3 := Lib.hid (K2.out.trans hk)
  clear hk l3
  go_wp2_with fail
  refine (RB.out _ K3.out).mono ?_; rintro e w4 ⟨A4, c4, rfl, l4, hk⟩
  have L4 := Lib.hid l4
  have L3 := Lib.hid (L3.out.keep hk)
  have K4 := Lib.hid (K3.out.trans hk)
  clear hk l4
  go_wp2_with fail
  refine (TH.out _ K4.out).mono ?_; rintro e w5 ⟨g5, rfl, l5, hk⟩
  have L5 := Lib.hid l5
  have L4 := Lib.hid (L4.out.keep hk)
  have L3 := Lib.hid (L3.out.keep hk)
  have K5 := Lib.hid (K4.out.trans hk)
  clear hk l5
  go_wp2_with fail
  refine (ER0.out _).mono ?_; rintro e w6 ⟨rfl, hk⟩
  have L5 := Lib.hid (L5.out.keep hk)
  have L4 := Lib.hid (L4.out.keep hk)
  have L3 := Lib.hid (L3.out.keep hk)
  have K6 := Lib.hid (K5.out.trans hk)
  clear hk
  go_wp2_with fail
  refine (same_eq (some ⟨g5, 0, none⟩) A3 _ _ 8 8 8 c3 _ L5.out L3.out LT.out.symm LT.out.symm (by decide) rfl).mono ?_; rintro e w7 ⟨rfl, hk⟩
  have L4 := Lib.hid (L4.out.keep hk)
  have K7 := Lib.hid (K6.out.trans hk)
  clear hk L5 L3
  go_wp2_with fail
  refine (BK.out _ K7.out).mono ?_; rintro e w8 ⟨g8, rfl, l8, hk⟩
  have L8 := Lib.hid l8
  have L4 := Lib.hid (L4.out.keep hk)
  have K8 := Lib.hid (K7.out.trans hk)
  clear hk l8
  go_wp2_with fail
  refine (ER0.out _).mono ?_; rintro e w9 ⟨rfl, hk⟩
  have L8 := Lib.hid (L8.out.keep hk)
  have L4 := Lib.hid (L4.out.keep hk)
  have K9 := Lib.hid (K8.out.trans hk)
  clear hk
  go_wp2_with fail
  refine (same_eq (some ⟨g8, 0, none⟩) A4 _ _ 8 8 8 c4 _ L8.out L4.out LB.out.symm LB.out.symm (by decide) rfl).mono ?_; rintro e w10 ⟨rfl, hk⟩
  have K10 := Lib.hid (K9.out.trans hk)
  clear hk L8 L4
  go_wp2_with fail
  refine (EJ.out _ K10.out).mono ?_; rintro e w' ⟨rfl, rfl⟩
  by_cases bad : ncode m = 0
  · obtain ⟨g, rfl⟩ := nt_of_code bad
    rw [bad]
    rw [Nt.len_nt] at HQ
    obtain rfl : q = 8 := HQ.out
    have RF := Lib.hid (fun (wx : World) (hx : Kp w wx) => refFolded_any A B f g ca cb wx (HAB.out.1.keep hx) (HAB.out.2.keep hx))
    have FO := Lib.hid (fun (wx : World) (hx : Kp w wx) => fold_ok A B f g ca cb wx (HAB.out.1.keep hx) (HAB.out.2.keep hx))
    unfold NGives at FO
    rw [Nt.nt_congr (fun i hi => Nt.fold_bk f g i hi)] at FO
    have LF := Lib.hid (Nt.len_nt (Nt.fo f g))
    clear bad EJ HQ
    generalize Nt.nt (Nt.fo f g) = PF at *
    go_wp2_with fail
    refine (RF.out _ K10.out).mono ?_; rintro e w11 ⟨A11, c11, rfl, l11, hk⟩
    have L11 := Lib.hid l11
    have K11 := Lib.hid (K10.out.trans hk)
    clear hk l11
    go_wp2_with fail
    refine (FO.out _ K11.out).mono ?_; rintro e w12 ⟨g12, rfl, l12, hk⟩
    have L12 := Lib.hid l12
    have L11 := Lib.hid (L11.out.keep hk)
    have K12 := Lib.hid (K11.out.trans hk)
    clear hk l12
    go_wp2_with fail
    refine (ER0.out _).mono ?_; rintro e w13 ⟨rfl, hk⟩
    have L12 := Lib.hid (L12.out.keep hk)
    have L11 := Lib.hid (L11.out.keep hk)
    have K13 := Lib.hid (K12.out.trans hk)
    clear hk
    go_wp2_with fail
    refine (same_eq (some ⟨g12, 0, none⟩) A11 _ _ 8 8 8 c11 _ L12.out L11.out LF.out.symm LF.out.symm (by decide) rfl).mono ?_; rintro e w14 ⟨rfl, hk⟩
    have K14 := Lib.hid (K13.out.trans hk)
    clear hk
    go_wp2_with fail
    go_ret
    exact ⟨rfl, K14.out⟩
  · have FO := Lib.hid (fun (wx : World) (hx : Kp w wx) => by
      have h := fold_bad2 A B (Nt.nt f) m ca cb wx (HAB.out.1.keep hx) (HAB.out.2.keep hx) (ncode_nt f) bad
      rw [Nt.len_nt, ← HQ.out] at h
      exact h)
    unfold NFails at FO
    have HC := Lib.hid (ncode_le m)
    have c0 : ((ncode m : Int) == 0) = false := by rw [beq_eq_false_iff_ne]; omega
    clear bad EJ HQ
    generalize ncode m = c at *
    have ERR := Lib.hid (fun (wx : World) (hx : Kp w wx) => error_says c wx (laid_kp HL.out hx) HC.out)
    generalize errOf c = ec at *
    go_wp2_with fail
    refine (FO.out _ K10.out).mono ?_; rintro e w11 ⟨rfl, hk⟩
    have K11 := Lib.hid (K10.out.trans hk)
    clear hk
    go_wp2_with fail
    refine (ERR.out _ K11.out).mono ?_; rintro e w12 ⟨rfl, hk⟩
    have K12 := Lib.hid (K11.out.trans hk)
    clear hk
    go_wp2_with fail
    refine (same_nil _).mono ?_; rintro e w13 ⟨rfl, hk⟩
    have K13 := Lib.hid (K12.out.trans hk)
    clear hk
    go_wp2_with fail
    go_ret
    exact ⟨rfl, K13.out⟩

theorem walk_NttSays (A : Option Addr) (l : List Int) (ca : Nat) (B : Option Addr) (m : List Int) (cb : Nat) (w : World) (hl : Told.Laid w) (ha : Lies w A l) (lc : l.length ≤ ca) (hb : Lies w B m) (ld : m.length ≤ cb) :
    Calls Tryd.prog 3 #[.slice A l.length ca, .slice B m.length cb] w fun e w' => e = .returned (.bool true) ∧ Kp w w' := by
  by_cases h : ncode l = 0
  · obtain ⟨f, rfl⟩ := nt_of_code h
    rw [Nt.len_nt]
    exact ntsays_good A B f m ca cb w hl ha hb
  · exact ntsays_bad1 A B l m ca cb w hl ha hb h

end Go.Proofs.YtlemhkceilkfhaaDoor
