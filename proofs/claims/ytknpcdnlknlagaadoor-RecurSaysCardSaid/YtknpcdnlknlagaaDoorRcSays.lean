/- The law RecurSays. -/
import Derived.Test.YtknpcdnlknlagaaDoorRcRef
import Derived.Test.YtknpcdnlknlagaaDoorLawIn
import Derived.Test.YtknpcdnlknlagaaDoorErrG
namespace Go.Proofs.YtknpcdnlknlagaaDoor
open Go.ChangeShapes Go.WideShapes Go.ChangeAt Go.RowKit
set_option linter.unusedVariables false

theorem rowF_first (M N : Nat) (u : Nat → Fp.F) (h : N ≤ M) : (rowF M u).take N = rowF N u := by
  refine List.ext_getElem (by rw [List.length_take, Mx.len_row, Mx.len_row]; omega) fun j h1 h2 => ?_
  simp [rowF, Mx.row]

set_option maxRecDepth 100000 in
set_option maxHeartbeats 6400000 in
theorem rsays_bad (A : Option Addr) (L : List Int) (c : Nat) (B : Option Addr) (S : List Int) (d : Nat) (m : Int) (w : World) (hl : Told.Laid w) (ha : Lies w A L) (hb : Lies w B S) (h : rcd L S ≠ 0) :
    Calls Tryd.prog 3 #[.slice A L.length c, .slice B S.length d, .int .i64 m] w fun e w' => e = .returned (.bool true) ∧ Kp w w' := by
  have HL := Lib.hid hl
  have RR := Lib.hid (rRecur_any A B L S c d w ha hb)
  have CK := Lib.hid (rChk_any A B L S c d w ha hb)
  have RO := Lib.hid (fun w' (k : Kp w w') => Row_bad A B L S c d m w' (ha.keep k) (hb.keep k) h)
  have TE := Lib.hid (fun w' (k : Kp w w') => Term_bad A B L S c d m w' (ha.keep k) (hb.keep k) h)
  have hz := rcd_some L S
  have ERR := Lib.hid (fun (wx : World) (hx : Kp w wx) => error_says (rcd L S) wx (laid_kp HL.out hx) (by omega))
  unfold FailsR at RO
  unfold FailsT at TE
  rw [errOf_ne _ h] at CK RO TE ERR
  have e1 : ((rcd L S : Int) == 0) = false := by rw [beq_eq_false_iff_ne]; omega
  generalize rcd L S = z at *
  generalize L.length = n1 at *
  generalize S.length = n2 at *
  clear ha hl hb h hz
  go_enter Tryd.func3, Tryd.ntmps3
  go_wp2_with fail
  refine (RR.out).mono ?_; rintro e w1 ⟨rfl, rfl⟩
  go_wp2_with fail
  refine (CK.out).mono ?_; rintro e w1 ⟨rfl, rfl⟩
  go_wp2_with fail
  refine (ERR.out _ (Kp.rfl' _)).mono ?_; rintro e w1 ⟨rfl, k1⟩
  have K := Lib.hid k1
  clear k1 CK RR
  go_wp2_with fail
  refine (RO.out _ K.out).mono ?_; rintro e w2 ⟨rfl, k2⟩
  replace K := Lib.hid (K.out.trans k2); clear k2
  go_wp2_with fail
  refine (ERR.out _ K.out).mono ?_; rintro e w3 ⟨rfl, k3⟩
  replace K := Lib.hid (K.out.trans k3); clear k3
  go_wp2_with fail
  refine (same_nil _).mono ?_; rintro e w4 ⟨rfl, k4⟩
  replace K := Lib.hid (K.out.trans k4); clear k4
  go_wp2_with fail
  refine (TE.out _ K.out).mono ?_; rintro e w5 ⟨rfl, k5⟩
  replace K := Lib.hid (K.out.trans k5); clear k5
  go_wp2_with fail
  refine (ERR.out _ K.out).mono ?_; rintro e w6 ⟨rfl, k6⟩
  replace K := Lib.hid (K.out.trans k6); clear k6
  go_wp2_with fail
  go_ret
  exact ⟨rfl, K.out⟩

set_option maxRecDepth 100000 in
set_option maxHeartbeats 6400000 in
theorem rsays_range (A : Option Addr) (L : List Int) (c : Nat) (B : Option Addr) (S : List Int) (d : Nat) (n : Nat) (f s : Nat → Fp.F) (m : Int) (w : World) (hl : Told.Laid w) (ha : Lies w A L) (hb : Lies w B S) (rc : Rc n f s L S) (hm : ¬ (0 ≤ m ∧ m ≤ 1000)) :
    Calls Tryd.prog 3 #[.slice A n c, .slice B n d, .int .i64 m] w fun e w' => e = .returned (.bool true) ∧ Kp w w' := by
  have HL := Lib.hid hl
  have RR := Lib.hid (rRecur_any A B L S c d w ha hb)
  have CK := Lib.hid (rChk_any A B L S c d w ha hb)
  rw [rc.code, rc.fl, rc.sl] at RR CK
  rw [errOf_zero] at CK
  rw [rc.fac] at ha
  rw [rc.beg] at hb
  have RO := Lib.hid (fun w' (k : Kp w w') => Row_range A B n c d f s m w' (ha.keep k) (hb.keep k) rc.pos rc.le hm)
  have TE := Lib.hid (fun w' (k : Kp w w') => Term_range A B n c d f s m w' (ha.keep k) (hb.keep k) rc.pos rc.le hm)
  have IN := Lib.hid (fun w => law3In_any m 0 1000 w false (by simp; omega))
  have ERR0 := Lib.hid (fun (wx : World) (hx : Kp w wx) => show Calls Tryd.prog 5 #[.nilIface, .int .i64 0] wx fun e w' => e = .returned (.bool true) ∧ Kp wx w' from error_says 0 wx (laid_kp HL.out hx) (by decide))
  have ERR := Lib.hid (fun (wx : World) (hx : Kp w wx) => show Calls Tryd.prog 5 #[.iface 37 (.int .i64 1), .int .i64 1] wx fun e w' => e = .returned (.bool true) ∧ Kp wx w' from error_says 1 wx (laid_kp HL.out hx) (by decide))
  unfold FailsR at RO
  unfold FailsT at TE
  rw [show errOf 1 = .iface 37 (.int .i64 1) from rfl] at RO TE
  clear ha hl hb hm rc
  go_enter Tryd.func3, Tryd.ntmps3
  go_wp2_with fail
  refine (RR.out).mono ?_; rintro e w1 ⟨rfl, rfl⟩
  go_wp2_with fail
  refine (CK.out).mono ?_; rintro e w1 ⟨rfl, rfl⟩
  go_wp2_with fail
  refine (ERR0.out _ (Kp.rfl' _)).mono ?_; rintro e w1 ⟨rfl, k1⟩
  have K := Lib.hid k1
  clear k1 CK RR
  go_wp2_with fail
  refine (IN.out _).mono ?_; rintro e w' ⟨rfl, rfl⟩
  go_wp2_with fail
  refine (RO.out _ K.out).mono ?_; rintro e w2 ⟨rfl, k2⟩
  replace K := Lib.hid (K.out.trans k2); clear k2
  go_wp2_with fail
  refine (ERR.out _ K.out).mono ?_; rintro e w3 ⟨rfl, k3⟩
  replace K := Lib.hid (K.out.trans k3); clear k3
  go_wp2_with fail
  refine (same_nil _).mono ?_; rintro e w4 ⟨rfl, k4⟩
  replace K := Lib.hid (K.out.trans k4); clear k4
  go_wp2_with fail
  refine (TE.out _ K.out).mono ?_; rintro e w5 ⟨rfl, k5⟩
  replace K := Lib.hid (K.out.trans k5); clear k5
  go_wp2_with fail
  refine (ERR.out _ K.out).mono ?_; rintro e w6 ⟨rfl, k6⟩
  replace K := Lib.hid (K.out.trans k6); clear k6
  go_wp2_with fail
  go_ret
  exact ⟨rfl, K.out⟩

set_option maxRecDepth 100000 in
set_option maxHeartbeats 6400000 in
theorem rsays_ok (A : Option Addr) (L : List Int) (c : Nat) (B : Option Addr) (S : List Int) (d : Nat) (n N : Nat) (f s : Nat → Fp.F) (w : World) (hl : Told.Laid w) (ha : Lies w A L) (hb : Lies w B S) (rc : Rc n f s L S) (hN : N ≤ 1000) :
    Calls Tryd.prog 3 #[.slice A n c, .slice B n d, .int .i64 (N : Int)] w fun e w' => e = .returned (.bool true) ∧ Kp w w' := by
  have HL := Lib.hid hl
  have RR := Lib.hid (rRecur_any A B L S c d w ha hb)
  have CK := Lib.hid (rChk_any A B L S c d w ha hb)
  rw [rc.code, rc.fl, rc.sl] at RR CK
  rw [errOf_zero] at CK
  have RO := Lib.hid (fun w' (k : Kp w w') => Row_rc rc A B c d N w' (ha.keep k) (hb.keep k) hN)
  have TE := Lib.hid (fun w' (k : Kp w w') => Term_rc rc A B c d N w' (ha.keep k) (hb.keep k) hN)
  rw [rc.fac] at ha
  rw [rc.beg] at hb
  obtain ⟨M, hM⟩ : ∃ M, M = N + 1 := ⟨_, rfl⟩
  have RW := Lib.hid (fun w' (k : Kp w w') => rRow_any A B n c d M f s w' (ha.keep k) (hb.keep k) rc.pos rc.le (by omega))
  have IN := Lib.hid (fun w => law3In_any (N : Int) 0 1000 w true (by simp; omega))
  have ERR := Lib.hid (fun (wx : World) (hx : Kp w wx) => show Calls Tryd.prog 5 #[.nilIface, .int .i64 0] wx fun e w' => e = .returned (.bool true) ∧ Kp wx w' from error_says 0 wx (laid_kp HL.out hx) (by decide))
  have hwM : IntKind.i64.wrap ((N : Int) + 1) = (M : Int) := by rw [show (N : Int) + 1 = (M : Int) by omega]; exact IntWalk.i64_in _ (by omega)
  have eM : (N : Int) + 1 = (M : Int) := by omega
  have hNM : N < M := by omega
  obtain ⟨x, hx⟩ : ∃ x, x = Mx.sq n f s := ⟨_, rfl⟩
  rw [← hx] at RO TE RW
  have HM := Lib.hid hM
  clear ha hl hb rc hx hM
  go_enter Tryd.func3, Tryd.ntmps3
  go_wp2_with fail
  refine (RR.out).mono ?_; rintro e w1 ⟨rfl, rfl⟩
  go_wp2_with fail
  refine (CK.out).mono ?_; rintro e w1 ⟨rfl, rfl⟩
  go_wp2_with fail
  refine (ERR.out _ (Kp.rfl' _)).mono ?_; rintro e w1 ⟨rfl, k1⟩
  have K := Lib.hid k1
  clear k1 CK RR
  go_wp2_with fail
  refine (IN.out _).mono ?_; rintro e w' ⟨rfl, rfl⟩
  go_wp2_with fail
  refine (RW.out _ K.out).mono ?_; rintro e w2 ⟨v, rfl, ho, k2⟩
  obtain ⟨g, cg, rfl, _, hgc⟩ := own_some ho (by rw [Mx.len_row]; omega)
  have x1 := own_cell ho N (by rw [Mx.len_row]; exact hNM)
  rw [Mx.row_at _ _ _ hNM] at x1
  rw [Mx.len_row] at ho hgc ⊢
  have hlw : Lies w2 (some ⟨g, 0, none⟩) (rowF N x) := by
    obtain ⟨Z, cz, e, lz, _⟩ := ho.cap
    rw [Mx.len_row] at e
    cases e
    have := lz.take N
    rwa [rowF_first M N x (by omega)] at this
  have LW := Lib.hid hlw
  have hcap : (N : Int) ≤ (cg : Int) := by omega
  replace K := Lib.hid (K.out.trans k2)
  obtain ⟨y, hy⟩ : ∃ y, y = ((x N).val : Int) := ⟨_, rfl⟩
  rw [← hy] at x1 TE
  clear k2 ho hlw RW hy
  go_wp2_with fail
  refine (RO.out _ K.out).mono ?_; rintro e w3 ⟨g3, rfl, hr, _, k3⟩
  have HR := Lib.hid hr
  replace LW := Lib.hid (LW.out.keep k3)
  replace K := Lib.hid (K.out.trans k3); clear k3 hr RO x1
  go_wp2_with fail
  refine (ERR.out _ K.out).mono ?_; rintro e w4 ⟨rfl, k4⟩
  have IC := Lib.hid (same_eq (some ⟨g3, 0, none⟩) (some ⟨g, 0, none⟩) (rowF N x) (rowF N x) N N N cg w4 (HR.out.lies.keep k4) (LW.out.keep k4) (by rw [Mx.len_row]) (by rw [Mx.len_row]) hN rfl)
  replace K := Lib.hid (K.out.trans k4); clear k4 HR LW
  go_wp2_with fail
  refine (IC.out).mono ?_; rintro e w5 ⟨rfl, k5⟩
  replace K := Lib.hid (K.out.trans k5); clear k5
  go_wp2_with fail
  refine (TE.out _ K.out).mono ?_; rintro e w6 ⟨rfl, k6⟩
  replace K := Lib.hid (K.out.trans k6); clear k6
  go_wp2_with fail
  refine (ERR.out _ K.out).mono ?_; rintro e w7 ⟨rfl, k7⟩
  replace K := Lib.hid (K.out.trans k7); clear k7
  go_wp2_with fail
  go_ret
  exact ⟨ret_bool (by simp), K.out⟩

theorem walk_RecurSays (A : Option Addr) (L : List Int) (c : Nat) (B : Option Addr) (S : List Int) (d : Nat) (m : Int) (w : World) (hl : Told.Laid w) (ha : Lies w A L) (hb : Lies w B S) :
    Calls Tryd.prog 3 #[.slice A L.length c, .slice B S.length d, .int .i64 m] w fun e w' => e = .returned (.bool true) ∧ Kp w w' := by
  rcases rc_or L S with ⟨n, f, s, rc⟩ | h
  · rw [rc.fl, rc.sl]
    by_cases hm : 0 ≤ m ∧ m ≤ 1000
    · obtain ⟨N, rfl⟩ := Int.eq_ofNat_of_zero_le hm.1
      exact rsays_ok A L c B S d n N f s w hl ha hb rc (by omega)
    · exact rsays_range A L c B S d n f s m w hl ha hb rc hm
  · exact rsays_bad A L c B S d m w hl ha hb h

end Go.Proofs.YtknpcdnlknlagaaDoor
