/- The walk of the law on Bezout's numbers, out of the contracts. -/
import Derived.Test.YtknoncanmdhfoaaLawWalks
namespace Go.Proofs.Ytknoncanmdhfoaa
open Go.ChangeShapes Go.WideShapes Go.ChangeAt Go.RowKit
set_option linter.unusedVariables false

theorem bezout_any (a b : Int) (w : World) (h1 : -1000000 ≤ a) (h2 : a ≤ 1000000) (h3 : -1000000 ≤ b) (h4 : b ≤ 1000000) :
    Calls Try.prog 9 #[.int .i64 a, .int .i64 b] w fun e w' => SomeBez a b w e w' := by
  by_cases h : b = 0
  · subst h; exact bezout_zero a w h1 h2
  · exact bezout_in a b w h1 h2 h3 h4 h

theorem sign_small (a : Int) : -1 ≤ a.sign ∧ a.sign ≤ 1 := by
  rcases Int.lt_trichotomy a 0 with h | h | h
  · rw [Int.sign_eq_neg_one_of_neg h]; omega
  · subst h; decide
  · rw [Int.sign_eq_one_of_pos h]; omega

theorem bez_bounds (a b x y : Int) (h1 : -1000000 ≤ a) (h2 : a ≤ 1000000) (h3 : -1000000 ≤ b) (h4 : b ≤ 1000000) (h : Num.BezOk a b x y) :
    (-1 ≤ x ∧ x ≤ 1000000) ∧ (-2000000 ≤ y ∧ y ≤ 2000000) := by
  obtain ⟨e, k, z⟩ := h
  by_cases hb : b = 0
  · obtain ⟨rfl, rfl⟩ := z hb
    have := sign_small a
    omega
  · have k := k hb
    have hg := Num.gcd_small a b hb
    have hx : x.natAbs ≤ b.natAbs := by
      have : b.natAbs / Int.gcd a b ≤ b.natAbs := Nat.div_le_self _ _
      omega
    have hy : b.natAbs * y.natAbs ≤ b.natAbs * (1 + a.natAbs) := by
      have e1 : (b * y).natAbs ≤ Int.gcd a b + (a * x).natAbs := by omega
      rw [Int.natAbs_mul, Int.natAbs_mul] at e1
      have e2 : a.natAbs * x.natAbs ≤ a.natAbs * b.natAbs := Nat.mul_le_mul_left _ hx
      rw [Nat.mul_add, Nat.mul_one, Nat.mul_comm b.natAbs a.natAbs]
      omega
    have hy2 := Nat.le_of_mul_le_mul_left hy (by omega)
    omega

theorem prod_small (a b : Int) (m n : Nat) (ha : a.natAbs ≤ m) (hb : b.natAbs ≤ n) : (a * b).natAbs ≤ m * n := by
  rw [Int.natAbs_mul]
  exact Nat.mul_le_mul ha hb

set_option maxHeartbeats 1600000 in
theorem bez_law_out (a b d : Int) (w : World) (h : ¬ (-1000000 ≤ a ∧ a ≤ 1000000 ∧ -1000000 ≤ b ∧ b ≤ 1000000)) :
    Calls Try.prog 4 #[.int .i64 a, .int .i64 b, .int .i64 d] w fun e w' => e = .returned (.bool true) ∧ Drew w w' := by
  have H := Lib.hid h
  clear h
  go_enter Try.func4, Try.ntmps4
  go_wp2_with fail
  refine (fact_any _).mono ?_; rintro e w1 ⟨rfl, hd⟩
  go_wp2_with fail
  refine (bezout_out _ _ _ H.out).mono ?_; rintro e w2 ⟨rfl, hd2⟩
  go_wp2_with fail
  go_ret
  exact ⟨rfl, hd.trans hd2⟩

set_option maxRecDepth 100000 in
set_option maxHeartbeats 3200000 in
theorem bez_law_in (a b d : Int) (w : World) (h1 : -1000000 ≤ a) (h2 : a ≤ 1000000) (h3 : -1000000 ≤ b) (h4 : b ≤ 1000000) (hd1 : -9223372036854775808 ≤ d) (hd2 : d ≤ 9223372036854775807) :
    Calls Try.prog 4 #[.int .i64 a, .int .i64 b, .int .i64 d] w fun e w' => e = .returned (.bool true) ∧ Drew w w' := by
  go_enter Try.func4, Try.ntmps4
  go_wp2_with fail
  refine (fact_any _).mono ?_; rintro e w1 ⟨rfl, hd⟩
  go_wp2_with fail
  refine (bezout_any _ _ _ h1 h2 h3 h4).mono ?_; rintro e w2 ⟨x, y, hxy, rfl, hw⟩
  obtain ⟨⟨bx1, bx2⟩, ⟨by1, by2⟩⟩ := bez_bounds a b x y h1 h2 h3 h4 hxy
  have p1 := prod_small a x 1000000 1000000 (by omega) (by omega)
  have p2 := prod_small b y 1000000 2000000 (by omega) (by omega)
  have q1 : -1000000000000 ≤ a * x ∧ a * x ≤ 1000000000000 := by omega
  have q2 : -2000000000000 ≤ b * y ∧ b * y ≤ 2000000000000 := by omega
  have hs : ((a * x + b * y) != (Int.gcd a b : Int)) = false := by rw [hxy.1]; simp
  have HX := Lib.hid (show (decide (-1 ≤ x) && decide (x ≤ 1000000)) = true by simp [bx1, bx2])
  have HY := Lib.hid (show (decide (-2000000 ≤ y) && decide (y ≤ 2000000)) = true by simp [by1, by2])
  have HW := Lib.hid (hd.trans hw)
  have HD := Lib.hid (@Int.dvd_coe_gcd a b d)
  have gs := gcd_le a b 1000000 (by omega) (by omega)
  have ga : a.tmod (Int.gcd a b : Int) = 0 := Int.tmod_eq_zero_of_dvd (Int.gcd_dvd_left a b)
  have gb : b.tmod (Int.gcd a b : Int) = 0 := Int.tmod_eq_zero_of_dvd (Int.gcd_dvd_right a b)
  have HZ := Lib.hid (@Int.gcd_eq_zero_iff a b)
  clear hxy p1 p2 hd hw
  generalize Int.gcd a b = g at *
  by_cases hg : g = 0
  · obtain ⟨rfl, rfl⟩ := HZ.out.1 hg
    subst hg
    clear ga gb
    go_wp2_with fail
    refine (in_any _ _ _ _ _ HX.out).mono ?_; rintro e w' ⟨rfl, rfl⟩
    go_wp2_with fail
    refine (in_any _ _ _ _ _ HY.out).mono ?_; rintro e w' ⟨rfl, rfl⟩
    go_wp2_with fail
    go_ret
    exact ⟨rfl, HW.out⟩
  · have gp : 0 < g := by omega
    have hg0 : ((g : Int) == 0) = false := by rw [beq_eq_false_iff_ne]; omega
    have ga' : (a.tmod (g : Int) != 0) = false := by rw [ga]; rfl
    have gb' : (b.tmod (g : Int) != 0) = false := by rw [gb]; rfl
    clear hg
    by_cases hdz : d = 0
    · subst hdz
      go_wp2_with fail
      refine (in_any _ _ _ _ _ HX.out).mono ?_; rintro e w' ⟨rfl, rfl⟩
      go_wp2_with fail
      refine (in_any _ _ _ _ _ HY.out).mono ?_; rintro e w' ⟨rfl, rfl⟩
      go_wp2_with fail
      go_ret
      exact ⟨rfl, HW.out⟩
    · have hdz' : (d == 0) = false := by rw [beq_eq_false_iff_ne]; exact hdz
      go_wp2_with fail
      refine (in_any _ _ _ _ _ HX.out).mono ?_; rintro e w' ⟨rfl, rfl⟩
      go_wp2_with fail
      refine (in_any _ _ _ _ _ HY.out).mono ?_; rintro e w' ⟨rfl, rfl⟩
      go_wp2_with fail
      · go_ret
        exact ⟨ret_bool (beq_iff_eq.2 (Int.emod_eq_zero_of_dvd (HD.out (Int.dvd_of_tmod_eq_zero ‹a.tmod d = 0›) (Int.dvd_of_tmod_eq_zero ‹b.tmod d = 0›)))), HW.out⟩
      all_goals (go_ret; exact ⟨rfl, HW.out⟩)

end Go.Proofs.Ytknoncanmdhfoaa
