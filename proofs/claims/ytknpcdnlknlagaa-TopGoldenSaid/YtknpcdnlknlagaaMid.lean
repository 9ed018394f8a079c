/- Contracts of package euclid: Steps within and outside of its bounds. -/
import Derived.Test.YtknpcdnlknlagaaBz
namespace Go.Proofs.Ytknpcdnlknlagaa
open Go.ChangeShapes Go.WideShapes Go.ChangeAt Go.RowKit
set_option linter.unusedVariables false

/-- What a step of dividing keeps, and what it lowers. -/
def StepRel (A B : Nat) (u v s : Value) : Prop :=
  ∃ x y k : Nat, x ≤ 1000000 ∧ y ≤ 1000000 ∧ k + Num.st x y = Num.st A B ∧ u = .int .i64 (x : Int) ∧ v = .int .i64 (y : Int) ∧ s = .int .i64 (k : Int)

set_option maxHeartbeats 1600000 in
theorem steps_ge (a b : Nat) (w : World) (h1 : a ≤ 1000000) (h2 : b ≤ a) :
    Calls Try.prog 17 #[.int .i64 (a : Int), .int .i64 (b : Int)] w fun e w' => e = .returned (.tuple #[.int .i64 (Num.st a b : Int), .nilIface]) ∧ Drew w w' := by
  have hsl := Num.st_le b a b (Nat.le_refl _)
  have q1 : ¬ ((b : Int) < 0) := by omega
  have q2 : ¬ ((a : Int) < 0) := by omega
  have q3 : ¬ ((a : Int) < (b : Int)) := by omega
  have q4 : ¬ (a < b) := by omega
  go_enter Try.func17, Try.ntmps17
  go_wp2_with (first
    | (go_at_call 27; refine (allowed_yes _ _ (by omega) (by omega)).mono ?_; rintro e w' ⟨rfl, rfl⟩))
  go_loopw [0, 1, 6] (fun u v s wr => StepRel a b u v s ∧ Drew w wr) (fun _ v _ _ => (intOf v).toNat)
  case atStart => exact ⟨⟨a, b, 0, by omega, by omega, by omega, rfl, rfl, rfl⟩, Drew.refl _⟩
  case round =>
    obtain ⟨⟨x, y, k, hx, hy, hk, rfl, rfl, rfl⟩, hw⟩ := hrel
    have HW := Lib.hid hw
    have hk1 : k ≤ 1000000 := by omega
    have HK := Lib.hid hk
    clear hk hw
    by_cases h : y = 0
    · subst h
      have e : k = Num.st a b := by have := HK.out; rw [Num.st_zero] at this; omega
      have E := Lib.hid e
      clear e
      go_wp2_with fail
      go_ret2
      exact ⟨by rw [← E.out]; rfl, HW.out⟩
    · have h0 : 0 < y := by omega
      have hm := Nat.mod_lt x h0
      have hne : ((y : Int) != 0) = true := by rw [bne_iff_ne]; omega
      have hs := Num.st_pos x y h0
      have e : k + 1 + Num.st y (x % y) = Num.st a b := by have := HK.out; omega
      have E := Lib.hid e
      clear h e hs
      go_wp2_with fail
      go_quiet (fail)
      go_wp2_with fail
      go_roundw
      case rel => exact ⟨⟨y, x % y, k + 1, hy, by omega, E.out, rfl, by go_num, by go_num⟩, HW.out.more _⟩
      case measure => simp [intOf]; omega

set_option maxHeartbeats 1600000 in
theorem steps_lt (a b : Nat) (w : World) (h1 : b ≤ 1000000) (h2 : a < b) :
    Calls Try.prog 17 #[.int .i64 (a : Int), .int .i64 (b : Int)] w fun e w' => e = .returned (.tuple #[.int .i64 (Num.st b a : Int), .nilIface]) ∧ Drew w w' := by
  have hsl := Num.st_le a b a (Nat.le_refl _)
  have q1 : ¬ ((b : Int) < 0) := by omega
  have q2 : ¬ ((a : Int) < 0) := by omega
  have q3 : (a : Int) < (b : Int) := by omega
  go_enter Try.func17, Try.ntmps17
  go_wp2_with (first
    | (go_at_call 27; refine (allowed_yes _ _ (by omega) (by omega)).mono ?_; rintro e w' ⟨rfl, rfl⟩))
  go_loopw [0, 1, 6] (fun u v s wr => StepRel b a u v s ∧ Drew w wr) (fun _ v _ _ => (intOf v).toNat)
  case atStart => exact ⟨⟨b, a, 0, by omega, by omega, by omega, rfl, rfl, rfl⟩, Drew.refl _⟩
  case round =>
    obtain ⟨⟨x, y, k, hx, hy, hk, rfl, rfl, rfl⟩, hw⟩ := hrel
    have HW := Lib.hid hw
    have hk1 : k ≤ 1000000 := by omega
    have HK := Lib.hid hk
    clear hk hw
    by_cases h : y = 0
    · subst h
      have e : k = Num.st b a := by have := HK.out; rw [Num.st_zero] at this; omega
      have E := Lib.hid e
      clear e
      go_wp2_with fail
      go_ret2
      exact ⟨by rw [← E.out]; rfl, HW.out⟩
    · have h0 : 0 < y := by omega
      have hm := Nat.mod_lt x h0
      have hne : ((y : Int) != 0) = true := by rw [bne_iff_ne]; omega
      have hs := Num.st_pos x y h0
      have e : k + 1 + Num.st y (x % y) = Num.st b a := by have := HK.out; omega
      have E := Lib.hid e
      clear h e hs
      go_wp2_with fail
      go_quiet (fail)
      go_wp2_with fail
      go_roundw
      case rel => exact ⟨⟨y, x % y, k + 1, hy, by omega, E.out, rfl, by go_num, by go_num⟩, HW.out.more _⟩
      case measure => simp [intOf]; omega


theorem steps_in (a b : Int) (w : World) (h1 : 0 ≤ a) (h2 : a ≤ 1000000) (h3 : 0 ≤ b) (h4 : b ≤ 1000000) :
    Calls Try.prog 17 #[.int .i64 a, .int .i64 b] w fun e w' => e = .returned (.tuple #[.int .i64 (Num.stp a.toNat b.toNat : Int), .nilIface]) ∧ Drew w w' := by
  obtain ⟨m, rfl⟩ := Int.eq_ofNat_of_zero_le h1
  obtain ⟨n, rfl⟩ := Int.eq_ofNat_of_zero_le h3
  rw [Int.toNat_natCast, Int.toNat_natCast, Num.stp]
  by_cases h : m < n
  · rw [if_pos h]; exact steps_lt m n w (by omega) h
  · rw [if_neg h]; exact steps_ge m n w (by omega) (by omega)

set_option maxHeartbeats 800000 in
theorem steps_out (a b : Int) (w : World) (h : ¬ (0 ≤ a ∧ a ≤ 1000000 ∧ 0 ≤ b ∧ b ≤ 1000000)) :
    Calls Try.prog 17 #[.int .i64 a, .int .i64 b] w fun e w' => e = .returned (.tuple #[.int .i64 0, errRange]) ∧ Drew w w' := by
  by_cases ha : a < 0
  · clear h
    go_enter Try.func17, Try.ntmps17
    go_wp2_with fail
    go_ret2
    exact ⟨rfl, Drew.refl _⟩
  by_cases hb : b < 0
  · clear h
    go_enter Try.func17, Try.ntmps17
    go_wp2_with fail
    go_ret2
    exact ⟨rfl, Drew.refl _⟩
  by_cases ha2 : 1000000 < a
  · clear h
    go_enter Try.func17, Try.ntmps17
    go_wp2_with fail
    refine (allowed_no _ _ (Or.inr ha2)).mono ?_; rintro e w' ⟨rfl, rfl⟩
    go_wp2_with fail
    go_ret2
    exact ⟨rfl, Drew.refl _⟩
  · have hb2 : 1000000 < b := by omega
    clear h
    go_enter Try.func17, Try.ntmps17
    go_wp2_with fail
    refine (allowed_yes _ _ (by omega) (by omega)).mono ?_; rintro e w' ⟨rfl, rfl⟩
    go_wp2_with fail
    refine (allowed_no _ _ (Or.inr hb2)).mono ?_; rintro e w' ⟨rfl, rfl⟩
    go_wp2_with fail
    go_ret2
    exact ⟨rfl, Drew.refl _⟩

end Go.Proofs.Ytknpcdnlknlagaa
