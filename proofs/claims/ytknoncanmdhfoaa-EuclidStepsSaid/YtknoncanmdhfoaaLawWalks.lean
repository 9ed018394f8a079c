/- The walks of the laws of package euclid, out of the contracts. -/
import Derived.Test.YtknoncanmdhfoaaMid
namespace Go.Proofs.Ytknoncanmdhfoaa
open Go.ChangeShapes Go.WideShapes Go.ChangeAt Go.RowKit
set_option linter.unusedVariables false

theorem in_any (n l h : Int) (w : World) (b : Bool) (hb : (decide (l ≤ n) && decide (n ≤ h)) = b) :
    Calls Try.prog 10 #[.int .i64 n, .int .i64 l, .int .i64 h] w fun e w' => e = .returned (.bool b) ∧ w = w' := by
  have H := Lib.hid hb
  clear hb
  by_cases h1 : l ≤ n
  · go_enter Try.func10, Try.ntmps10
    go_wp2
    go_ret
    exact ⟨ret_bool (by have := H.out; rw [decide_eq_true h1] at this; simpa using this), rfl⟩
  · go_enter Try.func10, Try.ntmps10
    go_wp2
    go_ret
    exact ⟨ret_bool (by have := H.out; rw [decide_eq_false (show ¬ l ≤ n by omega)] at this; simpa using this), rfl⟩

theorem bez64 (x y : Int) (h : Num.BezOk 6 4 x y) : x = 1 ∧ y = -1 := Num.bez_one 6 4 x y 1 (-1) h (by refine ⟨by decide, fun _ => by decide, fun h => absurd h (by decide)⟩)

set_option maxHeartbeats 800000 in
theorem fact_any (w : World) :
    Calls Try.prog 8 #[] w fun e w' => e = .returned (.bool true) ∧ Drew w w' := by
  have hg : Int.gcd 6 4 = 2 := by decide
  have hs : Num.stp (8 : Int).toNat (5 : Int).toNat = 4 := by
    have e1 : (8 : Int).toNat = 8 := rfl
    have e2 : (5 : Int).toNat = 5 := rfl
    rw [e1, e2, Num.stp, if_neg (by decide), Num.st_pos _ _ (by decide), Num.st_pos _ _ (by decide), Num.st_pos _ _ (by decide), Num.st_pos _ _ (by decide), Num.st_zero]
  have HG := Lib.hid hg
  have HS := Lib.hid hs
  clear hg hs
  go_enter Try.func8, Try.ntmps8
  go_wp2_with fail
  refine (bezout_in 6 4 _ (by omega) (by omega) (by omega) (by omega) (by omega)).mono ?_
  rintro e w1 ⟨x, y, hxy, rfl, hd⟩
  obtain ⟨rfl, rfl⟩ := bez64 x y hxy
  rw [HG.out]
  clear hxy
  go_wp2_with fail
  refine (steps_in 8 5 _ (by omega) (by omega) (by omega) (by omega)).mono ?_
  rintro e w2 ⟨rfl, hd2⟩
  rw [HS.out]
  go_wp2_with fail
  go_ret
  exact ⟨rfl, hd.trans hd2⟩

theorem dig_next (m k : Nat) (hm : m ≤ 1000000) (h : 0 < m / 10 ^ k) : k ≤ 6 := by
  refine Nat.le_of_not_lt fun hk => ?_
  have h1 : 10 ^ 7 ≤ 10 ^ k := Nat.pow_le_pow_right (by decide) hk
  have h2 : m / 10 ^ k = 0 := Nat.div_eq_of_lt (by omega)
  omega

theorem dig_div (m k : Nat) : m / 10 ^ k / 10 = m / 10 ^ (k + 1) := by rw [Nat.div_div_eq_div_mul, Nat.pow_succ]

theorem dig_end (m k : Nat) (h : m / 10 ^ k = 0) : m < 10 ^ k := by
  rcases Nat.div_eq_zero_iff.1 h with h | h
  · exact absurd h (by have := Nat.pow_pos (n := k) (show 0 < 10 by decide); omega)
  · exact h

theorem int_val {a b : Int} (h : a = b) : Value.int .i64 a = .int .i64 b := by rw [h]

/-- How many digits a number has, at most: what the law's loop keeps. -/
def DigRel (m : Nat) (l d : Value) : Prop := ∃ k : Nat, k ≤ 7 ∧ l = .int .i64 ((m / 10 ^ k : Nat) : Int) ∧ d = .int .i64 (k : Int)

theorem stp_digits (a b m k : Nat) (hm : m = min a b) (hk : k ≤ 7) (h : m < 10 ^ k) : Num.stp a b ≤ 5 * k := by
  unfold Num.stp
  by_cases c : a < b
  · rw [if_pos c]; exact Num.lame5 b a k hk (by omega) (by omega)
  · rw [if_neg c]; exact Num.lame5 a b k hk (by omega) (by omega)

theorem stp_zero (a b : Nat) : Num.stp a b = 0 ↔ a = 0 ∨ b = 0 := by
  unfold Num.stp
  by_cases c : a < b
  · rw [if_pos c, Num.st_eq_zero]; omega
  · rw [if_neg c, Num.st_eq_zero]; omega

set_option maxHeartbeats 1600000 in
theorem steps_law_out (a b : Int) (w : World) (h : ¬ (0 ≤ a ∧ a ≤ 1000000 ∧ 0 ≤ b ∧ b ≤ 1000000)) :
    Calls Try.prog 6 #[.int .i64 a, .int .i64 b] w fun e w' => e = .returned (.bool true) ∧ Drew w w' := by
  have H := Lib.hid h
  clear h
  go_enter Try.func6, Try.ntmps6
  go_wp2_with fail
  refine (fact_any _).mono ?_; rintro e w1 ⟨rfl, hd⟩
  go_wp2_with fail
  refine (steps_out _ _ _ H.out).mono ?_; rintro e w2 ⟨rfl, hd2⟩
  go_wp2_with fail
  go_ret
  exact ⟨rfl, hd.trans hd2⟩

set_option maxHeartbeats 1600000 in
theorem steps_law_in (a b : Int) (w : World) (h1 : 0 ≤ a) (h2 : a ≤ 1000000) (h3 : 0 ≤ b) (h4 : b ≤ 1000000) :
    Calls Try.prog 6 #[.int .i64 a, .int .i64 b] w fun e w' => e = .returned (.bool true) ∧ Drew w w' := by
  have hz := stp_zero a.toNat b.toNat
  have hdg := fun k hk h => stp_digits a.toNat b.toNat (min a.toNat b.toNat) k rfl hk h
  have hsm : Num.stp a.toNat b.toNat ≤ 35 := hdg 7 (by omega) (by omega)
  have HZ := Lib.hid hz
  have HD := Lib.hid hdg
  clear hz hdg
  go_enter Try.func6, Try.ntmps6
  go_wp2_with fail
  refine (fact_any _).mono ?_; rintro e w1 ⟨rfl, hd⟩
  go_wp2_with fail
  refine (steps_in _ _ _ h1 h2 h3 h4).mono ?_; rintro e w2 ⟨rfl, hd2⟩
  generalize Num.stp a.toNat b.toNat = n at *
  go_wp2_with fail
  all_goals
    go_loop [8, 9] (fun l d => DigRel (min a.toNat b.toNat) l d) (fun l _ => (intOf l).toNat)
    case atStart => exact ⟨0, by omega, int_val (by rw [Nat.pow_zero, Nat.div_one]; omega), rfl⟩
    case round =>
      obtain ⟨k, hk, rfl, rfl⟩ := hrel
      by_cases hl : min a.toNat b.toNat / 10 ^ k = 0
      · have hn := HD.out k hk (dig_end _ _ hl)
        rw [hl]
        have hn1 : (n : Int) ≤ 5 * (k : Int) := by omega
        clear hl
        by_cases ha : a = 0
        · have hn0 : n = 0 := HZ.out.2 (Or.inl (by omega))
          subst hn0; subst ha
          go_wp2_with fail
          all_goals (go_ret; exact ⟨rfl, hd.trans hd2⟩)
        · by_cases hb : b = 0
          · have hn0 : n = 0 := HZ.out.2 (Or.inr (by omega))
            have ha' : (a == 0) = false := by rw [beq_eq_false_iff_ne]; exact ha
            subst hn0; subst hb
            go_wp2_with fail
            all_goals (go_ret; exact ⟨rfl, hd.trans hd2⟩)
          · have hn0 : n ≠ 0 := fun h => by have := HZ.out.1 h; omega
            have ha' : (a == 0) = false := by rw [beq_eq_false_iff_ne]; exact ha
            have hb' : (b == 0) = false := by rw [beq_eq_false_iff_ne]; exact hb
            have hn' : ((n : Int) == 0) = false := by rw [beq_eq_false_iff_ne]; omega
            go_wp2_with fail
            all_goals (go_ret; exact ⟨rfl, hd.trans hd2⟩)
      · have h7 := dig_next (min a.toNat b.toNat) k (by omega) (Nat.pos_of_ne_zero hl)
        have hdv := dig_div (min a.toNat b.toNat) k
        have hls : min a.toNat b.toNat / 10 ^ k ≤ 1000000 := Nat.le_trans (Nat.div_le_self _ _) (by omega)
        generalize min a.toNat b.toNat / 10 ^ k = l at *
        have hl0 : 0 < l := by omega
        have DV := Lib.hid hdv
        clear hl hdv
        go_wp2_with fail
        go_round
        case rel => exact ⟨k + 1, by omega, int_val (by rw [← DV.out]; simp), by go_num⟩
        case measure => simp [intOf]; omega

theorem abs_any (n : Int) (w : World) (h1 : -1000000 ≤ n) (h2 : n ≤ 1000000) :
    Calls Try.prog 12 #[.int .i64 n] w fun e w' => e = .returned (.int .i64 (n.natAbs : Int)) ∧ w = w' := by
  by_cases h : n < 0
  · have E := Lib.hid (show ((n.natAbs : Nat) : Int) = -n by omega)
    go_enter Try.func12, Try.ntmps12
    go_wp2
    go_ret
    exact ⟨ret_int E.out.symm, rfl⟩
  · have E := Lib.hid (show ((n.natAbs : Nat) : Int) = n by omega)
    go_enter Try.func12, Try.ntmps12
    go_wp2
    go_ret
    exact ⟨ret_int E.out.symm, rfl⟩

theorem gcd_addmul (a b k : Int) : Int.gcd (a + k * b) b = Int.gcd a b := by
  rw [Int.gcd_comm, Int.gcd_comm a b]
  exact Int.gcd_add_mul_right_right b a k

theorem mul_small (a b : Int) (h1 : -900 ≤ a) (h2 : a ≤ 900) (h3 : -900 ≤ b) (h4 : b ≤ 900) : -810000 ≤ a * b ∧ a * b ≤ 810000 := by
  have e : (a * b).natAbs ≤ 900 * 900 := by
    rw [Int.natAbs_mul]
    exact Nat.mul_le_mul (by omega) (by omega)
  omega

set_option maxHeartbeats 1600000 in
theorem times_law_out (a b k : Int) (w : World) (h : ¬ (-900 ≤ a ∧ a ≤ 900 ∧ -900 ≤ b ∧ b ≤ 900 ∧ -900 ≤ k ∧ k ≤ 900)) :
    Calls Try.prog 5 #[.int .i64 a, .int .i64 b, .int .i64 k] w fun e w' => e = .returned (.bool true) ∧ Drew w w' := by
  by_cases ha : -900 ≤ a ∧ a ≤ 900
  · have HA := Lib.hid (show (decide (-900 ≤ a) && decide (a ≤ 900)) = true by simp [ha])
    by_cases hb : -900 ≤ b ∧ b ≤ 900
    · have HB := Lib.hid (show (decide (-900 ≤ b) && decide (b ≤ 900)) = true by simp [hb])
      have HK := Lib.hid (show (decide (-900 ≤ k) && decide (k ≤ 900)) = false by simp; omega)
      clear ha hb h
      go_enter Try.func5, Try.ntmps5
      go_wp2_with fail
      refine (fact_any _).mono ?_; rintro e w1 ⟨rfl, hd⟩
      go_wp2_with fail
      refine (in_any _ _ _ _ _ HA.out).mono ?_; rintro e w' ⟨rfl, rfl⟩
      go_wp2_with fail
      refine (in_any _ _ _ _ _ HB.out).mono ?_; rintro e w' ⟨rfl, rfl⟩
      go_wp2_with fail
      refine (in_any _ _ _ _ _ HK.out).mono ?_; rintro e w' ⟨rfl, rfl⟩
      go_wp2_with fail
      go_ret
      exact ⟨rfl, hd⟩
    · have HB := Lib.hid (show (decide (-900 ≤ b) && decide (b ≤ 900)) = false by simp; omega)
      clear ha hb h
      go_enter Try.func5, Try.ntmps5
      go_wp2_with fail
      refine (fact_any _).mono ?_; rintro e w1 ⟨rfl, hd⟩
      go_wp2_with fail
      refine (in_any _ _ _ _ _ HA.out).mono ?_; rintro e w' ⟨rfl, rfl⟩
      go_wp2_with fail
      refine (in_any _ _ _ _ _ HB.out).mono ?_; rintro e w' ⟨rfl, rfl⟩
      go_wp2_with fail
      go_ret
      exact ⟨rfl, hd⟩
  · have HA := Lib.hid (show (decide (-900 ≤ a) && decide (a ≤ 900)) = false by simp; omega)
    clear ha h
    go_enter Try.func5, Try.ntmps5
    go_wp2_with fail
    refine (fact_any _).mono ?_; rintro e w1 ⟨rfl, hd⟩
    go_wp2_with fail
    refine (in_any _ _ _ _ _ HA.out).mono ?_; rintro e w' ⟨rfl, rfl⟩
    go_wp2_with fail
    go_ret
    exact ⟨rfl, hd⟩

theorem gcd_le (a b : Int) (m : Nat) (ha : a.natAbs ≤ m) (hb : b.natAbs ≤ m) : Int.gcd a b ≤ m := by
  by_cases h : b = 0
  · subst h; rw [Int.gcd_zero_right]; exact ha
  · exact Nat.le_trans (Num.gcd_small a b h) hb

set_option maxRecDepth 100000 in
set_option maxHeartbeats 3200000 in
theorem times_law_in (a b k : Int) (w : World) (h1 : -900 ≤ a) (h2 : a ≤ 900) (h3 : -900 ≤ b) (h4 : b ≤ 900) (h5 : -900 ≤ k) (h6 : k ≤ 900) :
    Calls Try.prog 5 #[.int .i64 a, .int .i64 b, .int .i64 k] w fun e w' => e = .returned (.bool true) ∧ Drew w w' := by
  have HA := Lib.hid (show (decide (-900 ≤ a) && decide (a ≤ 900)) = true by simp [h1, h2])
  have HB := Lib.hid (show (decide (-900 ≤ b) && decide (b ≤ 900)) = true by simp [h3, h4])
  have HK := Lib.hid (show (decide (-900 ≤ k) && decide (k ≤ 900)) = true by simp [h5, h6])
  have E1 := Lib.hid (show ((Int.gcd (k * a) (k * b) : Nat) : Int) = (k.natAbs : Int) * (Int.gcd a b : Int) by rw [Int.gcd_mul_left, Int.natCast_mul])
  have E2 := Lib.hid (Int.gcd_comm b a)
  have E3 := Lib.hid (gcd_addmul a b k)
  have m1 := mul_small k a h5 h6 h1 h2
  have m2 := mul_small k b h5 h6 h3 h4
  have m3 := mul_small (k.natAbs : Int) (Int.gcd a b : Int) (by omega) (by omega) (by omega) (by have := gcd_le a b 900 (by omega) (by omega); omega)
  go_enter Try.func5, Try.ntmps5
  go_wp2_with fail
  refine (fact_any _).mono ?_; rintro e w1 ⟨rfl, hd⟩
  go_wp2_with fail
  refine (in_any _ _ _ _ _ HA.out).mono ?_; rintro e w' ⟨rfl, rfl⟩
  go_wp2_with fail
  refine (in_any _ _ _ _ _ HB.out).mono ?_; rintro e w' ⟨rfl, rfl⟩
  go_wp2_with fail
  refine (in_any _ _ _ _ _ HK.out).mono ?_; rintro e w' ⟨rfl, rfl⟩
  go_wp2_with fail
  refine (gcd_in _ _ _ (by omega) (by omega) (by omega) (by omega)).mono ?_; rintro e w2 ⟨rfl, hd2⟩
  go_wp2_with fail
  refine (gcd_in _ _ _ (by omega) (by omega) (by omega) (by omega)).mono ?_; rintro e w3 ⟨rfl, hd3⟩
  rw [E1.out]
  go_wp2_with fail
  refine (gcd_in _ _ _ (by omega) (by omega) (by omega) (by omega)).mono ?_; rintro e w4 ⟨rfl, hd4⟩
  rw [E2.out]
  go_wp2_with fail
  refine (gcd_in _ _ _ (by omega) (by omega) (by omega) (by omega)).mono ?_; rintro e w5 ⟨rfl, hd5⟩
  rw [E3.out]
  go_wp2_with fail
  refine (abs_any _ _ (by omega) (by omega)).mono ?_; rintro e w' ⟨rfl, rfl⟩
  go_wp2_with fail
  go_ret
  exact ⟨rfl, (((hd.trans hd2).trans hd3).trans hd4).trans hd5⟩

end Go.Proofs.Ytknoncanmdhfoaa
