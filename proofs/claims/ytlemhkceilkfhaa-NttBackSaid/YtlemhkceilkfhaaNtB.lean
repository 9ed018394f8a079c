/- The law NttBack: there and back it is the same; four times there. -/
import Derived.Test.YtlemhkceilkfhaaNtF
import Derived.StillTailTactics
namespace Go.Proofs.Ytlemhkceilkfhaa
open Go.ChangeShapes Go.WideShapes Go.ChangeAt Go.RowKit
set_option linter.unusedVariables false

theorem nback_law_bad (A : Option Addr) (l : List Int) (c : Nat) (w : World) (hl : Lies w A l) (h : ncode l ≠ 0) :
    Calls Try.prog 3 #[.slice A l.length c] w fun e w' => e = .returned (.bool true) ∧ Kp w w' := by
  have T := Lib.hid (fun (wx : World) (k : Kp w wx) => there_bad A l c wx (hl.keep k) h)
  unfold NFails at T
  rw [errOf_ne _ h] at T
  clear hl h
  generalize ncode l = x at *
  generalize l.length = n at *
  go_enter Try.func3, Try.ntmps3
  go_wp2_with fail
  refine (nFact_any _).mono ?_; rintro e w1 ⟨rfl, hk⟩
  have K1 := Lib.hid hk
  clear hk
  go_wp2_with fail
  refine (T.out _ K1.out).mono ?_; rintro e w2 ⟨rfl, hk⟩
  have K2 := Lib.hid (K1.out.trans hk)
  clear hk
  go_wp2_with fail
  go_ret
  exact ⟨rfl, K2.out⟩

set_option maxRecDepth 100000 in
set_option maxHeartbeats 3200000 in
theorem nback_law_ok (A : Option Addr) (f : Nat → Nt.G) (c : Nat) (w : World) (hl : Lies w A (Nt.nt f)) :
    Calls Try.prog 3 #[.slice A 8 c] w fun e w' => e = .returned (.bool true) ∧ Kp w w' := by
  have TH := Lib.hid (fun (g : Nat → Nt.G) (B : Option Addr) (d : Nat) (wx : World) (h : Lies wx B (Nt.nt g)) => there_ok B g d wx h)
  have BK := Lib.hid (fun (g : Nat → Nt.G) (B : Option Addr) (d : Nat) (wx : World) (h : Lies wx B (Nt.nt g)) => nback_ok B g d wx h)
  unfold NGives at TH BK
  have HA := Lib.hid hl
  have E1 := Lib.hid (Nt.nt_congr (Nt.bk_tr f))
  have E2 := Lib.hid (Nt.nt_congr (Nt.tr_bk f))
  have E4 := Lib.hid (Nt.four f)
  clear hl
  go_enter Try.func3, Try.ntmps3
  go_wp2_with fail
  refine (nFact_any _).mono ?_; rintro e w1 ⟨rfl, hk⟩
  have K1 := Lib.hid hk
  clear hk
  go_wp2_with fail
  refine (TH.out f A c _ (HA.out.keep K1.out)).mono ?_; rintro e w2 ⟨g1, rfl, l1, hk⟩
  have L1 := Lib.hid l1
  have K2 := Lib.hid (K1.out.trans hk)
  clear hk l1
  go_wp2_with fail
  refine (BK.out (Nt.tr 64 f) _ 8 _ L1.out).mono ?_; rintro e w3 ⟨g2, rfl, l2, hk⟩
  rw [E1.out] at l2
  have L2 := Lib.hid l2
  have L1 := Lib.hid (L1.out.keep hk)
  have K3 := Lib.hid (K2.out.trans hk)
  clear hk l2
  go_wp2_with fail
  refine (BK.out f A c _ (HA.out.keep K3.out)).mono ?_; rintro e w4 ⟨g3, rfl, l3, hk⟩
  have L3 := Lib.hid l3
  have L2 := Lib.hid (L2.out.keep hk)
  have L1 := Lib.hid (L1.out.keep hk)
  have K4 := Lib.hid (K3.out.trans hk)
  clear hk l3
  go_wp2_with fail
  refine (same_eq (some ⟨g2, 0, none⟩) A (Nt.nt f) (Nt.nt f) 8 8 8 c _ L2.out (HA.out.keep K4.out) (Nt.len_nt f).symm (Nt.len_nt f).symm (by decide) rfl).mono ?_; rintro e w5 ⟨rfl, hk⟩
  have L3 := Lib.hid (L3.out.keep hk)
  have L1 := Lib.hid (L1.out.keep hk)
  have K5 := Lib.hid (K4.out.trans hk)
  clear hk L2
  go_wp2_with fail
  refine (TH.out (Nt.bk f) _ 8 _ L3.out).mono ?_; rintro e w6 ⟨g4, rfl, l4, hk⟩
  rw [E2.out] at l4
  have L4 := Lib.hid l4
  have L1 := Lib.hid (L1.out.keep hk)
  have K6 := Lib.hid (K5.out.trans hk)
  clear hk l4 L3
  go_wp2_with fail
  refine (same_eq (some ⟨g4, 0, none⟩) A (Nt.nt f) (Nt.nt f) 8 8 8 c _ L4.out (HA.out.keep K6.out) (Nt.len_nt f).symm (Nt.len_nt f).symm (by decide) rfl).mono ?_; rintro e w7 ⟨rfl, hk⟩
  have L1 := Lib.hid (L1.out.keep hk)
  have K7 := Lib.hid (K6.out.trans hk)
  clear hk L4
  go_wp2_with fail
  refine (TH.out (Nt.tr 64 f) _ 8 _ L1.out).mono ?_; rintro e w8 ⟨g5, rfl, l5, hk⟩
  have L5 := Lib.hid l5
  have K8 := Lib.hid (K7.out.trans hk)
  clear hk l5 L1
  go_wp2_with fail
  refine (TH.out (Nt.tr 64 (Nt.tr 64 f)) _ 8 _ L5.out).mono ?_; rintro e w9 ⟨g6, rfl, l6, hk⟩
  have L6 := Lib.hid l6
  have K9 := Lib.hid (K8.out.trans hk)
  clear hk l6 L5
  go_wp2_with fail
  refine (TH.out (Nt.tr 64 (Nt.tr 64 (Nt.tr 64 f))) _ 8 _ L6.out).mono ?_; rintro e w10 ⟨g7, rfl, l7, hk⟩
  have L7 := Lib.hid l7
  have K10 := Lib.hid (K9.out.trans hk)
  clear hk l7 L6
  go_wp2_with fail
  go_loopw [14] (fun i wr => ∃ k : Nat, k ≤ 8 ∧ i = .int .i64 (k : Int) ∧ Drew w10 wr) (fun i _ => 8 - (intOf i).toNat)
  case atStart => exact ⟨0, Nat.zero_le _, rfl, Drew.refl _⟩
  case round =>
    obtain ⟨k, hk, rfl, hd⟩ := hrel
    have HD := Lib.hid hd
    clear hd
    by_cases hlt : k < 8
    · have zc := lies_at (L7.out.keep HD.out.kp) k (by rw [Nt.len_nt]; exact hlt)
      rw [Nt.nt_at _ k hlt] at zc
      obtain ⟨ad, rfl, _, ac⟩ := (HA.out.keep (K10.out.trans HD.out.kp)) k (by rw [Nt.len_nt]; exact hlt)
      rw [Nt.nt_at _ k hlt] at ac
      have hv := Nt.val_mul (f k) 64
      rw [show (((64 : Nt.G).val : Nat) : Int) = 64 from rfl, ← E4.out k hlt] at hv
      have x1 := Nt.val_bound (f k)
      generalize ((f k).val : Int) = x at *
      generalize ((Nt.tr 64 (Nt.tr 64 (Nt.tr 64 (Nt.tr 64 f))) k).val : Int) = z at *
      have hw : IntKind.i64.wrap (x * 64) = x * 64 := IntWalk.i64_in _ (by omega)
      have hv2 : (x * 64).tmod 257 = z := by rw [Int.tmod_eq_emod_of_nonneg (by omega)]; exact hv
      have hne : ((z : Int) != z) = false := by simp
      go_wp2_with fail
      go_quiet (fail)
      go_wp2_with fail
      go_roundw
      case rel => exact ⟨k + 1, by omega, by go_num, HD.out.more _⟩
      case measure => simp [intOf]; omega
    · obtain rfl : k = 8 := by omega
      go_wp2_with fail
      go_ret
      exact ⟨rfl, K10.out.trans HD.out.kp⟩

theorem walk_NttBack (A : Option Addr) (l : List Int) (c : Nat) (w : World) (hl : Lies w A l) (hc : l.length ≤ c) :
    Calls Try.prog 3 #[.slice A l.length c] w fun e w' => e = .returned (.bool true) ∧ Kp w w' := by
  by_cases h : ncode l = 0
  · obtain ⟨f, rfl⟩ := nt_of_code h
    rw [Nt.len_nt]
    exact nback_law_ok A f c w hl
  · exact nback_law_bad A l c w hl h

end Go.Proofs.Ytlemhkceilkfhaa
