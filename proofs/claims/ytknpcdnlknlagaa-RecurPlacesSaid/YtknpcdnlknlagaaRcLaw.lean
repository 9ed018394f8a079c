/- The law RecurPlaces. -/
import Derived.Test.YtknpcdnlknlagaaRcFact
import Derived.Test.YtknpcdnlknlagaaLawIn
namespace Go.Proofs.Ytknpcdnlknlagaa
open Go.ChangeShapes Go.WideShapes Go.ChangeAt Go.RowKit
set_option linter.unusedVariables false

set_option maxRecDepth 100000 in
set_option maxHeartbeats 1600000 in
theorem walk_RecurPlaces (A : Option Addr) (L : List Int) (c : Nat) (B : Option Addr) (S : List Int) (d : Nat) (m at' : Int) (w : World) (ha : Lies w A L) (hb : Lies w B S) :
    Calls Try.prog 3 #[.slice A L.length c, .slice B S.length d, .int .i64 m, .int .i64 at'] w fun e w' => e = .returned (.bool true) ∧ Kp w w' := by
  have FA := Lib.hid (recurFact_any w)
  have HA := Lib.hid ha
  have HB := Lib.hid hb
  rcases Row_or L S m with ⟨n, f, s, N, rc, rfl, hN⟩ | bad
  · have RO := Lib.hid (fun w' (k : Kp w w') => Row_rc rc A B c d N w' (ha.keep k) (hb.keep k) hN)
    rw [rc.fl, rc.sl]
    by_cases h : 0 ≤ at' ∧ at' ≤ (N : Int) - 1
    · obtain ⟨j, rfl⟩ : ∃ j : Nat, at' = (j : Int) := ⟨at'.toNat, by omega⟩
      have hj : j < N := by omega
      have TE := Lib.hid (fun w' (k : Kp w w') => Term_rc rc A B c d j w' (ha.keep k) (hb.keep k) (by omega))
      have IN := Lib.hid (fun w => law3In_any (j : Int) 0 ((N : Int) - 1) w true (by simp; omega))
      have hw : IntKind.i64.wrap ((N : Int) - 1) = (N : Int) - 1 := IntWalk.i64_in _ (by omega)
      clear ha hb rc h HA HB
      go_enter Try.func3, Try.ntmps3
      go_wp2_with fail
      refine (FA.out).mono ?_; rintro e w1 ⟨rfl, k1⟩
      have K1 := Lib.hid k1
      clear k1 FA
      go_wp2_with fail
      refine (RO.out _ K1.out).mono ?_; rintro e w2 ⟨g, rfl, hr, _, k2⟩
      have HR := Lib.hid hr
      have K2 := Lib.hid (K1.out.trans k2)
      clear hr k2 RO
      go_wp2_with fail
      refine (IN.out _).mono ?_; rintro e w' ⟨rfl, rfl⟩
      go_wp2_with fail
      refine (TE.out _ K2.out).mono ?_; rintro e w3 ⟨rfl, k3⟩
      have x1 := (HR.out.keep k3).cell j (by rw [Mx.len_row]; exact hj)
      rw [Mx.row_at _ _ _ hj] at x1
      have K3 := Lib.hid (K2.out.trans k3)
      generalize ((Mx.sq n f s j).val : Int) = y at *
      clear k3 TE
      go_wp2_with fail
      go_ret
      exact ⟨by simp, K3.out⟩
    · have IN := Lib.hid (fun w => law3In_any at' 0 ((N : Int) - 1) w false (by simp; omega))
      have hw : IntKind.i64.wrap ((N : Int) - 1) = (N : Int) - 1 := IntWalk.i64_in _ (by omega)
      clear ha hb rc h HA HB
      go_enter Try.func3, Try.ntmps3
      go_wp2_with fail
      refine (FA.out).mono ?_; rintro e w1 ⟨rfl, k1⟩
      have K1 := Lib.hid k1
      clear k1 FA
      go_wp2_with fail
      refine (RO.out _ K1.out).mono ?_; rintro e w2 ⟨g, rfl, hr, _, k2⟩
      have K2 := Lib.hid (K1.out.trans k2)
      clear hr k2 RO
      go_wp2_with fail
      refine (IN.out _).mono ?_; rintro e w' ⟨rfl, rfl⟩
      go_wp2_with fail
      go_ret
      exact ⟨rfl, K2.out⟩
  · have RB := Lib.hid (fun w' (k : Kp w w') => bad A B c d w' (HA.out.keep k) (HB.out.keep k))
    generalize L.length = n1 at *
    generalize S.length = n2 at *
    clear ha hb bad HA HB
    go_enter Try.func3, Try.ntmps3
    go_wp2_with fail
    refine (FA.out).mono ?_; rintro e w1 ⟨rfl, k1⟩
    have K1 := Lib.hid k1
    clear k1 FA
    go_wp2_with fail
    refine (RB.out _ K1.out).mono ?_; rintro e w2 ⟨z, rfl, k2⟩
    have K2 := Lib.hid (K1.out.trans k2)
    clear k2 RB
    go_wp2_with fail
    go_ret
    exact ⟨rfl, K2.out⟩

end Go.Proofs.Ytknpcdnlknlagaa
