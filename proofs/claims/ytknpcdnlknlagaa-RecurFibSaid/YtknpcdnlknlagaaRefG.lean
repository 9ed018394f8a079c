/- Contracts of the document's answer's Abs and Gcd (package rankmereref1), within the document's bounds. -/
import Derived.Test.YtknpcdnlknlagaaBz
namespace Go.Proofs.Ytknpcdnlknlagaa
open Go.ChangeShapes Go.WideShapes Go.ChangeAt Go.RowKit
set_option linter.unusedVariables false

theorem abs_any (n : Int) (w : World) (h1 : -1000000000000 ≤ n) (h2 : n ≤ 1000000000000) :
    Calls Try.prog 26 #[.int .i64 n] w fun e w' => e = .returned (.int .i64 (n.natAbs : Int)) ∧ w = w' := by
  by_cases h : n < 0
  · have E := Lib.hid (show ((n.natAbs : Nat) : Int) = -n by omega)
    go_enter Try.func26, Try.ntmps26
    go_wp2
    go_ret
    exact ⟨ret_int E.out.symm, rfl⟩
  · have E := Lib.hid (show ((n.natAbs : Nat) : Int) = n by omega)
    go_enter Try.func26, Try.ntmps26
    go_wp2
    go_ret
    exact ⟨ret_int E.out.symm, rfl⟩

theorem refGcd_any (k : Nat) : ∀ (a b : Int) (w : World), b.natAbs ≤ k → -1000000000000 ≤ a → a ≤ 1000000000000 → -1000000000000 ≤ b → b ≤ 1000000000000 →
    Calls Try.prog 15 #[.int .i64 a, .int .i64 b] w fun e w' => e = .returned (.int .i64 (Int.gcd a b : Int)) ∧ w = w' := by
  induction k with
  | zero =>
    intro a b w hk h1 h2 h3 h4
    obtain rfl : b = 0 := by omega
    have E := Lib.hid (show ((a.natAbs : Nat) : Int) = (Int.gcd a 0 : Int) by rw [Int.gcd_zero_right])
    go_enter Try.func15, Try.ntmps15
    go_wp2_with fail
    refine (abs_any _ _ h1 h2).mono ?_; rintro e w' ⟨rfl, rfl⟩
    go_wp2_with fail
    go_ret
    exact ⟨ret_int E.out, rfl⟩
  | succ k ih =>
    intro a b w hk h1 h2 h3 h4
    by_cases h : b = 0
    · subst h
      have E := Lib.hid (show ((a.natAbs : Nat) : Int) = (Int.gcd a 0 : Int) by rw [Int.gcd_zero_right])
      clear ih
      go_enter Try.func15, Try.ntmps15
      go_wp2_with fail
      refine (abs_any _ _ h1 h2).mono ?_; rintro e w' ⟨rfl, rfl⟩
      go_wp2_with fail
      go_ret
      exact ⟨ret_int E.out, rfl⟩
    · have hb : (b == 0) = false := by rw [beq_eq_false_iff_ne]; exact h
      have hm : (a.tmod b).natAbs < b.natAbs := by rw [Int.natAbs_tmod]; exact Nat.mod_lt _ (by omega)
      have E := Lib.hid (Num.gcd_tmod a b)
      have IH := Lib.hid (ih b (a.tmod b))
      have HM := Lib.hid hm
      clear ih hm
      go_enter Try.func15, Try.ntmps15
      go_wp2_with fail
      have hm := HM.out
      refine (IH.out _ (by omega) h3 h4 (by omega) (by omega)).mono ?_; rintro e w' ⟨rfl, rfl⟩
      go_wp2_with fail
      go_ret
      exact ⟨ret_int (by rw [E.out]), rfl⟩

end Go.Proofs.Ytknpcdnlknlagaa
