/- Contracts of package euclid: Gcd and Bezout within and outside of their bounds, Steps likewise. -/
import Derived.Test.YtknoncanmdhfoaaDoorSmall
namespace Go.Proofs.YtknoncanmdhfoaaDoor
open Go.ChangeShapes Go.WideShapes Go.ChangeAt Go.RowKit
set_option linter.unusedVariables false

/-- The error that the program gives for a number out of its range. -/
abbrev errRange : Value := .iface 38 (.int .i64 1)

set_option maxHeartbeats 800000 in
theorem gcd_in (a b : Int) (w : World) (h1 : -1000000 ≤ a) (h2 : a ≤ 1000000) (h3 : -1000000 ≤ b) (h4 : b ≤ 1000000) :
    Calls Tryd.prog 6 #[.int .i64 a, .int .i64 b] w fun e w' => e = .returned (.tuple #[.int .i64 (Int.gcd a b : Int), .nilIface]) ∧ Drew w w' := by
  go_enter Tryd.func6, Tryd.ntmps6
  go_wp2_with (first
    | (go_at_call 14; refine (allowed_yes _ _ (by omega) (by omega)).mono ?_; rintro e w' ⟨rfl, rfl⟩)
    | (go_at_call 16; refine (size_any _ _ (by omega) (by omega)).mono ?_; rintro e w' ⟨rfl, rfl⟩)
    | (go_at_call 15; refine (divisor_any _ _ _ (by omega) (by omega)).mono ?_; rintro e w' ⟨rfl, hd⟩))
  go_ret2
  exact ⟨rfl, hd⟩

set_option maxHeartbeats 800000 in
theorem gcd_out (a b : Int) (w : World) (h : ¬ (-1000000 ≤ a ∧ a ≤ 1000000 ∧ -1000000 ≤ b ∧ b ≤ 1000000)) :
    Calls Tryd.prog 6 #[.int .i64 a, .int .i64 b] w fun e w' => e = .returned (.tuple #[.int .i64 0, errRange]) ∧ Drew w w' := by
  by_cases ha : -1000000 ≤ a ∧ a ≤ 1000000
  · have hb : b < -1000000 ∨ 1000000 < b := by omega
    have H := Lib.hid hb
    clear h hb
    go_enter Tryd.func6, Tryd.ntmps6
    go_wp2_with fail
    refine (allowed_yes _ _ (by omega) (by omega)).mono ?_; rintro e w' ⟨rfl, rfl⟩
    go_wp2_with fail
    refine (allowed_no _ _ H.out).mono ?_; rintro e w' ⟨rfl, rfl⟩
    go_wp2_with fail
    go_ret2
    exact ⟨rfl, Drew.refl _⟩
  · have hb : a < -1000000 ∨ 1000000 < a := by omega
    have H := Lib.hid hb
    clear h hb ha
    go_enter Tryd.func6, Tryd.ntmps6
    go_wp2_with fail
    refine (allowed_no _ _ H.out).mono ?_; rintro e w' ⟨rfl, rfl⟩
    go_wp2_with fail
    go_ret2
    exact ⟨rfl, Drew.refl _⟩

/-- Bezout's answer: some x and y that are Bezout's numbers. -/
def SomeBez (a b : Int) (w : World) (e : Ending) (w' : World) : Prop :=
  ∃ x y : Int, Num.BezOk a b x y ∧ e = .returned (.tuple #[.int .i64 (Int.gcd a b : Int), .int .i64 x, .int .i64 y, .nilIface]) ∧ Drew w w'

set_option maxHeartbeats 800000 in
theorem bezout_out (a b : Int) (w : World) (h : ¬ (-1000000 ≤ a ∧ a ≤ 1000000 ∧ -1000000 ≤ b ∧ b ≤ 1000000)) :
    Calls Tryd.prog 8 #[.int .i64 a, .int .i64 b] w fun e w' => e = .returned (.tuple #[.int .i64 0, .int .i64 0, .int .i64 0, errRange]) ∧ Drew w w' := by
  have H := Lib.hid h
  clear h
  go_enter Tryd.func8, Tryd.ntmps8
  go_wp2_with fail
  refine (gcd_out _ _ _ H.out).mono ?_; rintro e w' ⟨rfl, hd⟩
  go_wp2_with fail
  refine bodyPost_ret (v := .tuple #[.int .i64 0, .int .i64 0, .int .i64 0, errRange]) (by simp [results, Tryd.results8, go_sem]) rfl ⟨rfl, hd⟩

set_option maxHeartbeats 800000 in
theorem bezout_zero (a : Int) (w : World) (h1 : -1000000 ≤ a) (h2 : a ≤ 1000000) :
    Calls Tryd.prog 8 #[.int .i64 a, .int .i64 0] w fun e w' => SomeBez a 0 w e w' := by
  go_enter Tryd.func8, Tryd.ntmps8
  go_wp2_with fail
  refine (gcd_in _ _ _ (by omega) (by omega) (by omega) (by omega)).mono ?_; rintro e w' ⟨rfl, hd⟩
  go_wp2_with fail
  refine (sign_any _ _).mono ?_; rintro e w'' ⟨rfl, rfl⟩
  go_wp2_with fail
  refine bodyPost_ret (v := .tuple #[.int .i64 (Int.gcd a 0 : Int), .int .i64 a.sign, .int .i64 0, .nilIface]) (by simp [results, Tryd.results8, go_sem]) rfl ⟨_, _, Num.bez_zero a, rfl, hd⟩

set_option maxHeartbeats 1600000 in
theorem bezout_in (a b : Int) (w : World) (h1 : -1000000 ≤ a) (h2 : a ≤ 1000000) (h3 : -1000000 ≤ b) (h4 : b ≤ 1000000) (h0 : b ≠ 0) :
    Calls Tryd.prog 8 #[.int .i64 a, .int .i64 b] w fun e w' => SomeBez a b w e w' := by
  have hne : (b == 0) = false := by rw [beq_eq_false_iff_ne]; exact h0
  have hgp := Num.gcd_pos a b h0
  have hgs := Num.gcd_small a b h0
  have hgd : Int.gcd a b ∣ b.natAbs := by rw [Int.gcd_eq_natAbs_gcd_natAbs]; exact Nat.gcd_dvd_right _ _
  have hms := Num.div_small b _ hgp hgd h0 h3 h4
  clear hgd
  go_enter Tryd.func8, Tryd.ntmps8
  go_wp2_with fail
  refine (gcd_in _ _ _ (by omega) (by omega) (by omega) (by omega)).mono ?_; rintro e w' ⟨rfl, hd⟩
  go_wp2_with fail
  refine (factor_any _ _ _ (by omega) (by omega) (by omega) (by omega) h0).mono ?_
  rintro e w1 ⟨x0, hx0, rfl, hd1⟩
  go_wp2_with fail
  refine (size_any _ _ (by omega) (by omega)).mono ?_; rintro e w'' ⟨rfl, rfl⟩
  go_wp2_with fail
  have hxb := hx0.2
  refine (residue_any _ _ _ (by omega) (by omega) (by omega) (by omega)).mono ?_; rintro e w'' ⟨rfl, rfl⟩
  have y0 := Int.emod_nonneg x0 (show (b.natAbs : Int) / (Int.gcd a b : Int) ≠ 0 by omega)
  have y1 := Int.emod_lt_of_pos x0 (show 0 < (b.natAbs : Int) / (Int.gcd a b : Int) by omega)
  generalize hx : x0 % ((b.natAbs : Int) / (Int.gcd a b : Int)) = x at *
  have HX := Lib.hid hx
  have HB := Lib.hid (Num.bez_of a b x0 h0 hx0)
  obtain ⟨s1, s2⟩ := Num.bez_small a b x (Int.gcd a b) h1 h2 (by omega) y0 (by omega)
  clear hx hxb hx0
  go_wp2_with fail
  go_quiet (fail)
  go_wp2_with fail
  refine bodyPost_ret (v := .tuple #[.int .i64 (Int.gcd a b : Int), .int .i64 x, .int .i64 (((Int.gcd a b : Int) - a * x).tdiv b), .nilIface]) (by simp [results, Tryd.results8, go_sem]) rfl ⟨x, _, HB.out x _ (by rw [← HX.out]; simp) rfl, rfl, (hd.trans hd1).more _⟩

/-- What a step of dividing keeps, and what it lowers. -/
def StepRel (A B : Nat) (u v s : Value) : Prop :=
  ∃ x y k : Nat, x ≤ 1000000 ∧ y ≤ 1000000 ∧ k + Num.st x y = Num.st A B ∧ u = .int .i64 (x : Int) ∧ v = .int .i64 (y : Int) ∧ s = .int .i64 (k : Int)

set_option maxHeartbeats 1600000 in
theorem steps_ge (a b : Nat) (w : World) (h1 : a ≤ 1000000) (h2 : b ≤ a) :
    Calls Tryd.prog 10 #[.int .i64 (a : Int), .int .i64 (b : Int)] w fun e w' => e = .returned (.tuple #[.int .i64 (Num.st a b : Int), .nilIface]) ∧ Drew w w' := by
  have hsl := Num.st_le b a b (Nat.le_refl _)
  have q1 : ¬ ((b : Int) < 0) := by omega
  have q2 : ¬ ((a : Int) < 0) := by omega
  have q3 : ¬ ((a : Int) < (b : Int)) := by omega
  have q4 : ¬ (a < b) := by omega
  go_enter Tryd.func10, Tryd.ntmps10
  go_wp2_with (first
    | (go_at_call 14; refine (allowed_yes _ _ (by omega) (by omega)).mono ?_; rintro e w' ⟨rfl, rfl⟩))
  go_loopw [0, 1, 6] (fun u v s wr => StepRel a b u v s ∧ Drew w wr) (fun _ v _ _ => (intOf v).toNat)
  case atStart => exact ⟨⟨a, b, 0, by omega, by omega, by omega, rfl, rfl, rfl⟩, Drew.refl _⟩
  case round =>
    obtain ⟨⟨x, y, k, hx, hy, hk, rfl, rfl, rfl⟩, hw⟩ := hrel
    have HW := Lib.hid hw
    have hk1 : k ≤ 1000000 := by omega
    have HK := Lib.hid hk
    clear hk hw
    by_cases h : y = 0
    · subst h
      have e : k = Num.st a b := by have := HK.out; rw [Num.st_zero] at this; omega
      have E := Lib.hid e
      clear e
      go_wp2_with fail
      go_ret2
      exact ⟨by rw [← E.out]; rfl, HW.out⟩
    · have h0 : 0 < y := by omega
      have hm := Nat.mod_lt x h0
      have hne : ((y : Int) != 0) = true := by rw [bne_iff_ne]; omega
      have hs := Num.st_pos x y h0
      have e : k + 1 + Num.st y (x % y) = Num.st a b := by have := HK.out; omega
      have E := Lib.hid e
      clear h e hs
      go_wp2_with fail
      go_quiet (fail)
      go_wp2_with fail
      go_roundw
      case rel => exact ⟨⟨y, x % y, k + 1, hy, by omega, E.out, rfl, by go_num, by go_num⟩, HW.out.more _⟩
      case measure => simp [intOf]; omega

set_option maxHeartbeats 1600000 in
theorem steps_lt (a b : Nat) (w : World) (h1 : b ≤ 1000000) (h2 : a < b) :
    Calls Tryd.prog 10 #[.int .i64 (a : Int), .int .i64 (b : Int)] w fun e w' => e = .returned (.tuple #[.int .i64 (Num.st b a : Int), .nilIface]) ∧ Drew w w' := by
  have hsl := Num.st_le a b a (Nat.le_refl _)
  have q1 : ¬ ((b : Int) < 0) := by omega
  have q2 : ¬ ((a : Int) < 0) := by omega
  have q3 : (a : Int) < (b : Int) := by omega
  go_enter Tryd.func10, Tryd.ntmps10
  go_wp2_with (first
    | (go_at_call 14; refine (allowed_yes _ _ (by omega) (by omega)).mono ?_; rintro e w' ⟨rfl, rfl⟩))
  go_loopw [0, 1, 6] (fun u v s wr => StepRel b a u v s ∧ Drew w wr) (fun _ v _ _ => (intOf v).toNat)
  case atStart => exact ⟨⟨b, a, 0, by omega, by omega, by omega, rfl, rfl, rfl⟩, Drew.refl _⟩
  case round =>
    obtain ⟨⟨x, y, k, hx, hy, hk, rfl, rfl, rfl⟩, hw⟩ := hrel
    have HW := Lib.hid hw
    have hk1 : k ≤ 1000000 := by omega
    have HK := Lib.hid hk
    clear hk hw
    by_cases h : y = 0
    · subst h
      have e : k = Num.st b a := by have := HK.out; rw [Num.st_zero] at this; omega
      have E := Lib.hid e
      clear e
      go_wp2_with fail
      go_ret2
      exact ⟨by rw [← E.out]; rfl, HW.out⟩
    · have h0 : 0 < y := by omega
      have hm := Nat.mod_lt x h0
      have hne : ((y : Int) != 0) = true := by rw [bne_iff_ne]; omega
      have hs := Num.st_pos x y h0
      have e : k + 1 + Num.st y (x % y) = Num.st b a := by have := HK.out; omega
      have E := Lib.hid e
      clear h e hs
      go_wp2_with fail
      go_quiet (fail)
      go_wp2_with fail
      go_roundw
      case rel => exact ⟨⟨y, x % y, k + 1, hy, by omega, E.out, rfl, by go_num, by go_num⟩, HW.out.more _⟩
      case measure => simp [intOf]; omega


theorem steps_in (a b : Int) (w : World) (h1 : 0 ≤ a) (h2 : a ≤ 1000000) (h3 : 0 ≤ b) (h4 : b ≤ 1000000) :
    Calls Tryd.prog 10 #[.int .i64 a, .int .i64 b] w fun e w' => e = .returned (.tuple #[.int .i64 (Num.stp a.toNat b.toNat : Int), .nilIface]) ∧ Drew w w' := by
  obtain ⟨m, rfl⟩ := Int.eq_ofNat_of_zero_le h1
  obtain ⟨n, rfl⟩ := Int.eq_ofNat_of_zero_le h3
  rw [Int.toNat_natCast, Int.toNat_natCast, Num.stp]
  by_cases h : m < n
  · rw [if_pos h]; exact steps_lt m n w (by omega) h
  · rw [if_neg h]; exact steps_ge m n w (by omega) (by omega)

set_option maxHeartbeats 800000 in
theorem steps_out (a b : Int) (w : World) (h : ¬ (0 ≤ a ∧ a ≤ 1000000 ∧ 0 ≤ b ∧ b ≤ 1000000)) :
    Calls Tryd.prog 10 #[.int .i64 a, .int .i64 b] w fun e w' => e = .returned (.tuple #[.int .i64 0, errRange]) ∧ Drew w w' := by
  by_cases ha : a < 0
  · clear h
    go_enter Tryd.func10, Tryd.ntmps10
    go_wp2_with fail
    go_ret2
    exact ⟨rfl, Drew.refl _⟩
  by_cases hb : b < 0
  · clear h
    go_enter Tryd.func10, Tryd.ntmps10
    go_wp2_with fail
    go_ret2
    exact ⟨rfl, Drew.refl _⟩
  by_cases ha2 : 1000000 < a
  · clear h
    go_enter Tryd.func10, Tryd.ntmps10
    go_wp2_with fail
    refine (allowed_no _ _ (Or.inr ha2)).mono ?_; rintro e w' ⟨rfl, rfl⟩
    go_wp2_with fail
    go_ret2
    exact ⟨rfl, Drew.refl _⟩
  · have hb2 : 1000000 < b := by omega
    clear h
    go_enter Tryd.func10, Tryd.ntmps10
    go_wp2_with fail
    refine (allowed_yes _ _ (by omega) (by omega)).mono ?_; rintro e w' ⟨rfl, rfl⟩
    go_wp2_with fail
    refine (allowed_no _ _ (Or.inr hb2)).mono ?_; rintro e w' ⟨rfl, rfl⟩
    go_wp2_with fail
    go_ret2
    exact ⟨rfl, Drew.refl _⟩

end Go.Proofs.YtknoncanmdhfoaaDoor
