/- The walk of the law EuclidSays, out of the contracts of both sides. -/
import Derived.Test.YtknoncanmdhfoaaDoorRef
import Derived.Test.YtknoncanmdhfoaaDoorErr
namespace Go.Proofs.YtknoncanmdhfoaaDoor
open Go.ChangeShapes Go.WideShapes Go.ChangeAt Go.RowKit
set_option linter.unusedVariables false

theorem in_any (n l h : Int) (w : World) (b : Bool) (hb : (decide (l ≤ n) && decide (n ≤ h)) = b) :
    Calls Tryd.prog 4 #[.int .i64 n, .int .i64 l, .int .i64 h] w fun e w' => e = .returned (.bool b) ∧ w = w' := by
  have H := Lib.hid hb
  clear hb
  by_cases h1 : l ≤ n
  · go_enter Tryd.func4, Tryd.ntmps4
    go_wp2
    go_ret
    exact ⟨ret_bool (by have := H.out; rw [decide_eq_true h1] at this; simpa using this), rfl⟩
  · go_enter Tryd.func4, Tryd.ntmps4
    go_wp2
    go_ret
    exact ⟨ret_bool (by have := H.out; rw [decide_eq_false (show ¬ l ≤ n by omega)] at this; simpa using this), rfl⟩


set_option maxRecDepth 100000 in
set_option maxHeartbeats 3200000 in
theorem says_both (a b : Int) (w : World) (hl : Told.Laid w) (h1 : 0 ≤ a) (h2 : a ≤ 1000000) (h3 : 0 ≤ b) (h4 : b ≤ 1000000) :
    Calls Tryd.prog 3 #[.int .i64 a, .int .i64 b] w fun e w' => e = .returned (.bool true) ∧ Grown w w' := by
  have HA := Lib.hid (show (decide (-1000000 ≤ a) && decide (a ≤ 1000000)) = true by simp; omega)
  have HB := Lib.hid (show (decide (-1000000 ≤ b) && decide (b ≤ 1000000)) = true by simp; omega)
  have HC := Lib.hid (show (decide (0 ≤ a) && decide (a ≤ 1000000)) = true by simp [h1, h2])
  have HD := Lib.hid (show (decide (0 ≤ b) && decide (b ≤ 1000000)) = true by simp [h3, h4])
  have HL := Lib.hid hl
  clear hl
  go_enter Tryd.func3, Tryd.ntmps3
  go_wp2_with fail
  refine (in_any _ _ _ _ _ HA.out).mono ?_; rintro e w' ⟨rfl, rfl⟩
  go_wp2_with fail
  refine (in_any _ _ _ _ _ HB.out).mono ?_; rintro e w' ⟨rfl, rfl⟩
  go_wp2_with fail
  refine (refBezout_any a b _ (by omega) h2 (by omega) h4).mono ?_
  rintro e w1 ⟨x, y, hxy, rfl, d1⟩
  go_wp2_with fail
  refine (gcd_in a b _ (by omega) h2 (by omega) h4).mono ?_; rintro e w2 ⟨rfl, d2⟩
  go_wp2_with fail
  refine (error_nil 0 _ true rfl).mono ?_; rintro e w3 ⟨rfl, g3⟩
  go_wp2_with fail
  refine (bezout_any a b _ (by omega) h2 (by omega) h4).mono ?_
  rintro e w4 ⟨x', y', hxy', rfl, d4⟩
  obtain ⟨rfl, rfl⟩ := Num.bez_one a b x y x' y' hxy hxy'
  clear hxy hxy'
  go_wp2_with fail
  refine (error_nil 0 _ true rfl).mono ?_; rintro e w5 ⟨rfl, g5⟩
  go_wp2_with fail
  refine (in_any _ _ _ _ _ HC.out).mono ?_; rintro e w' ⟨rfl, rfl⟩
  go_wp2_with fail
  refine (in_any _ _ _ _ _ HD.out).mono ?_; rintro e w' ⟨rfl, rfl⟩
  go_wp2_with fail
  refine (refSteps_any a b _ h1 h2 h3 h4).mono ?_; rintro e w' ⟨rfl, rfl⟩
  go_wp2_with fail
  refine (steps_in a b _ h1 h2 h3 h4).mono ?_; rintro e w6 ⟨rfl, d6⟩
  go_wp2_with fail
  refine (error_nil 0 _ true rfl).mono ?_; rintro e w7 ⟨rfl, g7⟩
  go_wp2_with fail
  go_ret
  exact ⟨rfl, grown_trans (grown_trans (grown_trans (grown_trans (grown_trans (grown_trans d1.grown d2.grown) g3) d4.grown) g5) d6.grown) g7⟩


set_option maxRecDepth 100000 in
set_option maxHeartbeats 3200000 in
theorem says_neg (a b : Int) (w : World) (hl : Told.Laid w) (h1 : -1000000 ≤ a) (h2 : a ≤ 1000000) (h3 : -1000000 ≤ b) (h4 : b ≤ 1000000) (hn : ¬ (0 ≤ a ∧ 0 ≤ b)) :
    Calls Tryd.prog 3 #[.int .i64 a, .int .i64 b] w fun e w' => e = .returned (.bool true) ∧ Grown w w' := by
  have HA := Lib.hid (show (decide (-1000000 ≤ a) && decide (a ≤ 1000000)) = true by simp; omega)
  have HB := Lib.hid (show (decide (-1000000 ≤ b) && decide (b ≤ 1000000)) = true by simp; omega)
  have HS := Lib.hid (show ¬ (0 ≤ a ∧ a ≤ 1000000 ∧ 0 ≤ b ∧ b ≤ 1000000) by omega)
  have HL := Lib.hid hl
  clear hl
  by_cases ha : 0 ≤ a
  · have HC := Lib.hid (show (decide (0 ≤ a) && decide (a ≤ 1000000)) = true by simp; omega)
    have HD := Lib.hid (show (decide (0 ≤ b) && decide (b ≤ 1000000)) = false by simp; omega)
    clear hn ha
    go_enter Tryd.func3, Tryd.ntmps3
    go_wp2_with fail
    refine (in_any _ _ _ _ _ HA.out).mono ?_; rintro e w' ⟨rfl, rfl⟩
    go_wp2_with fail
    refine (in_any _ _ _ _ _ HB.out).mono ?_; rintro e w' ⟨rfl, rfl⟩
    go_wp2_with fail
    refine (refBezout_any a b _ h1 h2 h3 h4).mono ?_
    rintro e w1 ⟨x, y, hxy, rfl, d1⟩
    go_wp2_with fail
    refine (gcd_in a b _ h1 h2 h3 h4).mono ?_; rintro e w2 ⟨rfl, d2⟩
    go_wp2_with fail
    refine (error_nil 0 _ true rfl).mono ?_; rintro e w3 ⟨rfl, g3⟩
    go_wp2_with fail
    refine (bezout_any a b _ h1 h2 h3 h4).mono ?_
    rintro e w4 ⟨x', y', hxy', rfl, d4⟩
    obtain ⟨rfl, rfl⟩ := Num.bez_one a b x y x' y' hxy hxy'
    clear hxy hxy'
    go_wp2_with fail
    refine (error_nil 0 _ true rfl).mono ?_; rintro e w5 ⟨rfl, g5⟩
    go_wp2_with fail
    refine (in_any _ _ _ _ _ HC.out).mono ?_; rintro e w' ⟨rfl, rfl⟩
    go_wp2_with fail
    refine (in_any _ _ _ _ _ HD.out).mono ?_; rintro e w' ⟨rfl, rfl⟩
    go_wp2_with fail
    refine (steps_out a b _ HS.out).mono ?_; rintro e w6 ⟨rfl, d6⟩
    have GA := Lib.hid (grown_trans (grown_trans (grown_trans (grown_trans (grown_trans d1.grown d2.grown) g3) d4.grown) g5) d6.grown)
    go_wp2_with fail
    refine (error_hit 1 1 _ (laid_grown HL.out GA.out) (by omega) true rfl).mono ?_; rintro e w7 ⟨rfl, g7⟩
    go_wp2_with fail
    go_ret
    exact ⟨rfl, grown_trans GA.out g7⟩
  · have HC := Lib.hid (show (decide (0 ≤ a) && decide (a ≤ 1000000)) = false by simp; omega)
    clear hn ha
    go_enter Tryd.func3, Tryd.ntmps3
    go_wp2_with fail
    refine (in_any _ _ _ _ _ HA.out).mono ?_; rintro e w' ⟨rfl, rfl⟩
    go_wp2_with fail
    refine (in_any _ _ _ _ _ HB.out).mono ?_; rintro e w' ⟨rfl, rfl⟩
    go_wp2_with fail
    refine (refBezout_any a b _ h1 h2 h3 h4).mono ?_
    rintro e w1 ⟨x, y, hxy, rfl, d1⟩
    go_wp2_with fail
    refine (gcd_in a b _ h1 h2 h3 h4).mono ?_; rintro e w2 ⟨rfl, d2⟩
    go_wp2_with fail
    refine (error_nil 0 _ true rfl).mono ?_; rintro e w3 ⟨rfl, g3⟩
    go_wp2_with fail
    refine (bezout_any a b _ h1 h2 h3 h4).mono ?_
    rintro e w4 ⟨x', y', hxy', rfl, d4⟩
    obtain ⟨rfl, rfl⟩ := Num.bez_one a b x y x' y' hxy hxy'
    clear hxy hxy'
    go_wp2_with fail
    refine (error_nil 0 _ true rfl).mono ?_; rintro e w5 ⟨rfl, g5⟩
    go_wp2_with fail
    refine (in_any _ _ _ _ _ HC.out).mono ?_; rintro e w' ⟨rfl, rfl⟩
    go_wp2_with fail
    refine (steps_out a b _ HS.out).mono ?_; rintro e w6 ⟨rfl, d6⟩
    have GA := Lib.hid (grown_trans (grown_trans (grown_trans (grown_trans (grown_trans d1.grown d2.grown) g3) d4.grown) g5) d6.grown)
    go_wp2_with fail
    refine (error_hit 1 1 _ (laid_grown HL.out GA.out) (by omega) true rfl).mono ?_; rintro e w7 ⟨rfl, g7⟩
    go_wp2_with fail
    go_ret
    exact ⟨rfl, grown_trans GA.out g7⟩

set_option maxRecDepth 100000 in
set_option maxHeartbeats 3200000 in
theorem says_out (a b : Int) (w : World) (hl : Told.Laid w) (h : ¬ (-1000000 ≤ a ∧ a ≤ 1000000 ∧ -1000000 ≤ b ∧ b ≤ 1000000)) :
    Calls Tryd.prog 3 #[.int .i64 a, .int .i64 b] w fun e w' => e = .returned (.bool true) ∧ Grown w w' := by
  have HO := Lib.hid h
  have HS := Lib.hid (show ¬ (0 ≤ a ∧ a ≤ 1000000 ∧ 0 ≤ b ∧ b ≤ 1000000) by omega)
  have HL := Lib.hid hl
  clear hl
  by_cases ha : -1000000 ≤ a ∧ a ≤ 1000000
  · by_cases hp : 0 ≤ a
    · have HA := Lib.hid (show (decide (-1000000 ≤ a) && decide (a ≤ 1000000)) = true by simp; omega)
      have HB := Lib.hid (show (decide (-1000000 ≤ b) && decide (b ≤ 1000000)) = false by simp; omega)
      have HC := Lib.hid (show (decide (0 ≤ a) && decide (a ≤ 1000000)) = true by simp; omega)
      have HD := Lib.hid (show (decide (0 ≤ b) && decide (b ≤ 1000000)) = false by simp; omega)
      clear h
      go_enter Tryd.func3, Tryd.ntmps3
      go_wp2_with fail
      refine (in_any _ _ _ _ _ HA.out).mono ?_; rintro e w' ⟨rfl, rfl⟩
      go_wp2_with fail
      refine (in_any _ _ _ _ _ HB.out).mono ?_; rintro e w' ⟨rfl, rfl⟩
      go_wp2_with fail
      refine (gcd_out a b _ HO.out).mono ?_; rintro e w2 ⟨rfl, d2⟩
      go_wp2_with fail
      refine (error_hit 1 1 _ (laid_grown HL.out d2.grown) (by omega) true rfl).mono ?_; rintro e w3 ⟨rfl, g3⟩
      go_wp2_with fail
      refine (bezout_out a b _ HO.out).mono ?_; rintro e w4 ⟨rfl, d4⟩
      have GB := Lib.hid (grown_trans (grown_trans d2.grown g3) d4.grown)
      go_wp2_with fail
      refine (error_hit 1 1 _ (laid_grown HL.out GB.out) (by omega) true rfl).mono ?_; rintro e w5 ⟨rfl, g5⟩
      go_wp2_with fail
      refine (in_any _ _ _ _ _ HC.out).mono ?_; rintro e w' ⟨rfl, rfl⟩
      go_wp2_with fail
      refine (in_any _ _ _ _ _ HD.out).mono ?_; rintro e w' ⟨rfl, rfl⟩
      go_wp2_with fail
      refine (steps_out a b _ HS.out).mono ?_; rintro e w6 ⟨rfl, d6⟩
      have GA := Lib.hid (grown_trans (grown_trans GB.out g5) d6.grown)
      go_wp2_with fail
      refine (error_hit 1 1 _ (laid_grown HL.out GA.out) (by omega) true rfl).mono ?_; rintro e w7 ⟨rfl, g7⟩
      go_wp2_with fail
      go_ret
      exact ⟨rfl, grown_trans GA.out g7⟩
    · have HA := Lib.hid (show (decide (-1000000 ≤ a) && decide (a ≤ 1000000)) = true by simp; omega)
      have HB := Lib.hid (show (decide (-1000000 ≤ b) && decide (b ≤ 1000000)) = false by simp; omega)
      have HC := Lib.hid (show (decide (0 ≤ a) && decide (a ≤ 1000000)) = false by simp; omega)
      clear h
      go_enter Tryd.func3, Tryd.ntmps3
      go_wp2_with fail
      refine (in_any _ _ _ _ _ HA.out).mono ?_; rintro e w' ⟨rfl, rfl⟩
      go_wp2_with fail
      refine (in_any _ _ _ _ _ HB.out).mono ?_; rintro e w' ⟨rfl, rfl⟩
      go_wp2_with fail
      refine (gcd_out a b _ HO.out).mono ?_; rintro e w2 ⟨rfl, d2⟩
      go_wp2_with fail
      refine (error_hit 1 1 _ (laid_grown HL.out d2.grown) (by omega) true rfl).mono ?_; rintro e w3 ⟨rfl, g3⟩
      go_wp2_with fail
      refine (bezout_out a b _ HO.out).mono ?_; rintro e w4 ⟨rfl, d4⟩
      have GB := Lib.hid (grown_trans (grown_trans d2.grown g3) d4.grown)
      go_wp2_with fail
      refine (error_hit 1 1 _ (laid_grown HL.out GB.out) (by omega) true rfl).mono ?_; rintro e w5 ⟨rfl, g5⟩
      go_wp2_with fail
      refine (in_any _ _ _ _ _ HC.out).mono ?_; rintro e w' ⟨rfl, rfl⟩
      go_wp2_with fail
      refine (steps_out a b _ HS.out).mono ?_; rintro e w6 ⟨rfl, d6⟩
      have GA := Lib.hid (grown_trans (grown_trans GB.out g5) d6.grown)
      go_wp2_with fail
      refine (error_hit 1 1 _ (laid_grown HL.out GA.out) (by omega) true rfl).mono ?_; rintro e w7 ⟨rfl, g7⟩
      go_wp2_with fail
      go_ret
      exact ⟨rfl, grown_trans GA.out g7⟩
  · have HA := Lib.hid (show (decide (-1000000 ≤ a) && decide (a ≤ 1000000)) = false by simp; omega)
    have HC := Lib.hid (show (decide (0 ≤ a) && decide (a ≤ 1000000)) = false by simp; omega)
    clear h
    go_enter Tryd.func3, Tryd.ntmps3
    go_wp2_with fail
    refine (in_any _ _ _ _ _ HA.out).mono ?_; rintro e w' ⟨rfl, rfl⟩
    go_wp2_with fail
    refine (gcd_out a b _ HO.out).mono ?_; rintro e w2 ⟨rfl, d2⟩
    go_wp2_with fail
    refine (error_hit 1 1 _ (laid_grown HL.out d2.grown) (by omega) true rfl).mono ?_; rintro e w3 ⟨rfl, g3⟩
    go_wp2_with fail
    refine (bezout_out a b _ HO.out).mono ?_; rintro e w4 ⟨rfl, d4⟩
    have GB := Lib.hid (grown_trans (grown_trans d2.grown g3) d4.grown)
    go_wp2_with fail
    refine (error_hit 1 1 _ (laid_grown HL.out GB.out) (by omega) true rfl).mono ?_; rintro e w5 ⟨rfl, g5⟩
    go_wp2_with fail
    refine (in_any _ _ _ _ _ HC.out).mono ?_; rintro e w' ⟨rfl, rfl⟩
    go_wp2_with fail
    refine (steps_out a b _ HS.out).mono ?_; rintro e w6 ⟨rfl, d6⟩
    have GA := Lib.hid (grown_trans (grown_trans GB.out g5) d6.grown)
    go_wp2_with fail
    refine (error_hit 1 1 _ (laid_grown HL.out GA.out) (by omega) true rfl).mono ?_; rintro e w7 ⟨rfl, g7⟩
    go_wp2_with fail
    go_ret
    exact ⟨rfl, grown_trans GA.out g7⟩

end Go.Proofs.YtknoncanmdhfoaaDoor
