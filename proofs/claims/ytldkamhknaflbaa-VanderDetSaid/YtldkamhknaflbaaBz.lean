/- Contracts of package euclid: Gcd and Bezout within and outside of their bounds. -/
import Derived.Test.YtldkamhknaflbaaSmall
namespace Go.Proofs.Ytldkamhknaflbaa
open Go.ChangeShapes Go.WideShapes Go.ChangeAt Go.RowKit
set_option linter.unusedVariables false

/-- The error that the program gives for a number out of its range. -/
abbrev errRange : Value := .iface 56 (.int .i64 1)

set_option maxHeartbeats 800000 in
theorem gcd_in (a b : Int) (w : World) (h1 : -1000000 ≤ a) (h2 : a ≤ 1000000) (h3 : -1000000 ≤ b) (h4 : b ≤ 1000000) :
    Calls Try.prog 63 #[.int .i64 a, .int .i64 b] w fun e w' => e = .returned (.tuple #[.int .i64 (Int.gcd a b : Int), .nilIface]) ∧ Drew w w' := by
  go_enter Try.func63, Try.ntmps63
  go_wp2_with (first
    | (go_at_call 68; refine (allowed_yes _ _ (by omega) (by omega)).mono ?_; rintro e w' ⟨rfl, rfl⟩)
    | (go_at_call 67; refine (size_any _ _ (by omega) (by omega)).mono ?_; rintro e w' ⟨rfl, rfl⟩)
    | (go_at_call 69; refine (divisor_any _ _ _ (by omega) (by omega)).mono ?_; rintro e w' ⟨rfl, hd⟩))
  go_ret2
  exact ⟨rfl, hd⟩

set_option maxHeartbeats 800000 in
theorem gcd_out (a b : Int) (w : World) (h : ¬ (-1000000 ≤ a ∧ a ≤ 1000000 ∧ -1000000 ≤ b ∧ b ≤ 1000000)) :
    Calls Try.prog 63 #[.int .i64 a, .int .i64 b] w fun e w' => e = .returned (.tuple #[.int .i64 0, errRange]) ∧ Drew w w' := by
  by_cases ha : -1000000 ≤ a ∧ a ≤ 1000000
  · have hb : b < -1000000 ∨ 1000000 < b := by omega
    have H := Lib.hid hb
    clear h hb
    go_enter Try.func63, Try.ntmps63
    go_wp2_with fail
    refine (allowed_yes _ _ (by omega) (by omega)).mono ?_; rintro e w' ⟨rfl, rfl⟩
    go_wp2_with fail
    refine (allowed_no _ _ H.out).mono ?_; rintro e w' ⟨rfl, rfl⟩
    go_wp2_with fail
    go_ret2
    exact ⟨rfl, Drew.refl _⟩
  · have hb : a < -1000000 ∨ 1000000 < a := by omega
    have H := Lib.hid hb
    clear h hb ha
    go_enter Try.func63, Try.ntmps63
    go_wp2_with fail
    refine (allowed_no _ _ H.out).mono ?_; rintro e w' ⟨rfl, rfl⟩
    go_wp2_with fail
    go_ret2
    exact ⟨rfl, Drew.refl _⟩

/-- Bezout's answer: some x and y that are Bezout's numbers. -/
def SomeBez (a b : Int) (w : World) (e : Ending) (w' : World) : Prop :=
  ∃ x y : Int, Num.BezOk a b x y ∧ e = .returned (.tuple #[.int .i64 (Int.gcd a b : Int), .int .i64 x, .int .i64 y, .nilIface]) ∧ Drew w w'

set_option maxHeartbeats 800000 in
theorem bezout_out (a b : Int) (w : World) (h : ¬ (-1000000 ≤ a ∧ a ≤ 1000000 ∧ -1000000 ≤ b ∧ b ≤ 1000000)) :
    Calls Try.prog 59 #[.int .i64 a, .int .i64 b] w fun e w' => e = .returned (.tuple #[.int .i64 0, .int .i64 0, .int .i64 0, errRange]) ∧ Drew w w' := by
  have H := Lib.hid h
  clear h
  go_enter Try.func59, Try.ntmps59
  go_wp2_with fail
  refine (gcd_out _ _ _ H.out).mono ?_; rintro e w' ⟨rfl, hd⟩
  go_wp2_with fail
  refine bodyPost_ret (v := .tuple #[.int .i64 0, .int .i64 0, .int .i64 0, errRange]) (by simp [results, Try.results59, go_sem]) rfl ⟨rfl, hd⟩

set_option maxHeartbeats 800000 in
theorem bezout_zero (a : Int) (w : World) (h1 : -1000000 ≤ a) (h2 : a ≤ 1000000) :
    Calls Try.prog 59 #[.int .i64 a, .int .i64 0] w fun e w' => SomeBez a 0 w e w' := by
  go_enter Try.func59, Try.ntmps59
  go_wp2_with fail
  refine (gcd_in _ _ _ (by omega) (by omega) (by omega) (by omega)).mono ?_; rintro e w' ⟨rfl, hd⟩
  go_wp2_with fail
  refine (sign_any _ _).mono ?_; rintro e w'' ⟨rfl, rfl⟩
  go_wp2_with fail
  refine bodyPost_ret (v := .tuple #[.int .i64 (Int.gcd a 0 : Int), .int .i64 a.sign, .int .i64 0, .nilIface]) (by simp [results, Try.results59, go_sem]) rfl ⟨_, _, Num.bez_zero a, rfl, hd⟩

set_option maxHeartbeats 1600000 in
theorem bezout_in (a b : Int) (w : World) (h1 : -1000000 ≤ a) (h2 : a ≤ 1000000) (h3 : -1000000 ≤ b) (h4 : b ≤ 1000000) (h0 : b ≠ 0) :
    Calls Try.prog 59 #[.int .i64 a, .int .i64 b] w fun e w' => SomeBez a b w e w' := by
  have hne : (b == 0) = false := by rw [beq_eq_false_iff_ne]; exact h0
  have hgp := Num.gcd_pos a b h0
  have hgs := Num.gcd_small a b h0
  have hgd : Int.gcd a b ∣ b.natAbs := by rw [Int.gcd_eq_natAbs_gcd_natAbs]; exact Nat.gcd_dvd_right _ _
  have hms := Num.div_small b _ hgp hgd h0 h3 h4
  clear hgd
  go_enter Try.func59, Try.ntmps59
  go_wp2_with fail
  refine (gcd_in _ _ _ (by omega) (by omega) (by omega) (by omega)).mono ?_; rintro e w' ⟨rfl, hd⟩
  go_wp2_with fail
  refine (factor_any _ _ _ (by omega) (by omega) (by omega) (by omega) h0).mono ?_
  rintro e w1 ⟨x0, hx0, rfl, hd1⟩
  go_wp2_with fail
  refine (size_any _ _ (by omega) (by omega)).mono ?_; rintro e w'' ⟨rfl, rfl⟩
  go_wp2_with fail
  have hxb := hx0.2
  refine (residue_any _ _ _ (by omega) (by omega) (by omega) (by omega)).mono ?_; rintro e w'' ⟨rfl, rfl⟩
  have y0 := Int.emod_nonneg x0 (show (b.natAbs : Int) / (Int.gcd a b : Int) ≠ 0 by omega)
  have y1 := Int.emod_lt_of_pos x0 (show 0 < (b.natAbs : Int) / (Int.gcd a b : Int) by omega)
  generalize hx : x0 % ((b.natAbs : Int) / (Int.gcd a b : Int)) = x at *
  have HX := Lib.hid hx
  have HB := Lib.hid (Num.bez_of a b x0 h0 hx0)
  obtain ⟨s1, s2⟩ := Num.bez_small a b x (Int.gcd a b) h1 h2 (by omega) y0 (by omega)
  clear hx hxb hx0
  go_wp2_with fail
  go_quiet (fail)
  go_wp2_with fail
  refine bodyPost_ret (v := .tuple #[.int .i64 (Int.gcd a b : Int), .int .i64 x, .int .i64 (((Int.gcd a b : Int) - a * x).tdiv b), .nilIface]) (by simp [results, Try.results59, go_sem]) rfl ⟨x, _, HB.out x _ (by rw [← HX.out]; simp) rfl, rfl, (hd.trans hd1).more _⟩

theorem bezout_any (a b : Int) (w : World) (h1 : -1000000 ≤ a) (h2 : a ≤ 1000000) (h3 : -1000000 ≤ b) (h4 : b ≤ 1000000) :
    Calls Try.prog 59 #[.int .i64 a, .int .i64 b] w fun e w' => SomeBez a b w e w' := by
  by_cases h : b = 0
  · subst h; exact bezout_zero a w h1 h2
  · exact bezout_in a b w h1 h2 h3 h4 h

end Go.Proofs.Ytldkamhknaflbaa
