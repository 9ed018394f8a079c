/- Contracts of package det, third part: Check, Of. -/
import Derived.Test.YtdkdpklohfdpmaaDoorDeC2
namespace Go.Proofs.YtdkdpklohfdpmaaDoor
open Go.ChangeShapes Go.WideShapes Go.ChangeAt Go.RowKit
set_option linter.unusedVariables false

set_option maxRecDepth 100000 in
set_option maxHeartbeats 1600000 in
theorem DChk_any (A : Option Addr) (m : List (List Int)) (n d : Nat) (w : World) (ha : LiesM w A m) (hn : m.length = n) :
    Calls Tryd.prog 14 #[.slice A n d] w fun e w' => e = .returned (errOf (qcode 5 0 9972 m)) ∧ w = w' := by
  have CK := Lib.hid (Check_any A m n d w ha hn)
  by_cases h0 : Mx.mcode 5 0 9972 m = 0
  · have h0n : 0 < m.length := by
      rcases Nat.eq_zero_or_pos m.length with h | h
      · exfalso; unfold Mx.mcode at h0; rw [if_pos (.inl h)] at h0; cases h0
      · exact h
    obtain ⟨ad, A0, d0, rfl, hl0, hc0, _, _⟩ := ha 0 h0n
    rw [add_zero'] at hc0
    have EV := Lib.hid (show qcode 5 0 9972 m = if n ≠ (m.getD 0 []).length then 3 else 0 by
      unfold qcode
      rw [h0, hn]
      by_cases h : n ≠ (m.getD 0 []).length
      · rw [if_pos ⟨rfl, h⟩, if_pos h]
      · rw [if_neg (fun h' => h h'.2), if_neg h])
    rw [h0, errOf_zero] at CK
    have hn0 : 0 < n := by omega
    generalize (m.getD 0 []).length = q at *
    generalize qcode 5 0 9972 m = z at *
    clear ha h0 hn h0n
    by_cases hq : n = q
    · subst hq
      obtain rfl : z = 0 := by rw [EV.out, if_neg (fun h => h rfl)]
      rw [errOf_zero]
      have e1 : ((n : Int) != (n : Int)) = false := by simp
      clear EV
      go_enter Tryd.func14, Tryd.ntmps14
      go_wp2_with fail
      refine (CK.out).mono ?_; rintro e w' ⟨rfl, rfl⟩
      go_wp2_with fail
      go_ret
      exact ⟨rfl, rfl⟩
    · obtain rfl : z = 3 := by rw [EV.out, if_pos hq]
      rw [errOf_ne 3 (by omega)]
      have e1 : ((n : Int) != (q : Int)) = true := by rw [bne_iff_ne]; omega
      clear EV hq
      go_enter Tryd.func14, Tryd.ntmps14
      go_wp2_with fail
      refine (CK.out).mono ?_; rintro e w' ⟨rfl, rfl⟩
      go_wp2_with fail
      go_ret
      exact ⟨rfl, rfl⟩
  · rw [qcode_bad h0]
    rw [errOf_ne _ h0] at CK ⊢
    generalize Mx.mcode 5 0 9972 m = z at *
    clear ha hn h0
    go_enter Tryd.func14, Tryd.ntmps14
    go_wp2_with fail
    refine (CK.out).mono ?_; rintro e w' ⟨rfl, rfl⟩
    go_wp2_with fail
    go_ret
    exact ⟨rfl, rfl⟩


end Go.Proofs.YtdkdpklohfdpmaaDoor
