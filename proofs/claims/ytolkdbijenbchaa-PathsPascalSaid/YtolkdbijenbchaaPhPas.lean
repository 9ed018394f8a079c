/- The law PathsPascal. -/
import Derived.Test.YtolkdbijenbchaaPhFact
namespace Go.Proofs.Ytolkdbijenbchaa
open Go.ChangeShapes Go.WideShapes Go.ChangeAt Go.RowKit
set_option linter.unusedVariables false

set_option maxRecDepth 100000 in
set_option maxHeartbeats 1600000 in
theorem walk_PathsPascal (r u : Int) (w : World) :
    Calls Try.prog 4 #[.int .i64 r, .int .i64 u] w fun e w' => e = .returned (.bool true) ∧ Kp w w' := by
  have FA := Lib.hid (fun w => pathsFact_any w)
  rcases st_or r u with ⟨a, b, rfl, rfl, ha, hb⟩ | h
  · have W1 := Lib.hid (fun w => PWay_ok a b w ha hb)
    by_cases h0 : a = 0 ∨ b = 0
    · have e : Zx.wy a b = 1 := by
        rcases h0 with h0 | h0
        · rw [h0]; exact Zx.wy_right b
        · rw [h0]; exact Zx.wy_up a
      rw [e] at W1
      by_cases h1 : a = 0
      · have e1 : ((a : Int) == 0) = true := by rw [beq_iff_eq]; omega
        clear h0 h1 ha hb
        go_enter Try.func4, Try.ntmps4
        go_wp2_with fail
        refine (FA.out _).mono ?_; rintro e w1 ⟨rfl, k1⟩
        have K1 := Lib.hid k1
        clear k1
        go_wp2_with fail
        refine (W1.out _).mono ?_; rintro e w2 ⟨rfl, k2⟩
        have K2 := Lib.hid (K1.out.trans k2)
        clear k2
        go_wp2_with fail
        go_ret
        exact ⟨rfl, K2.out⟩
      · have e1 : ((a : Int) == 0) = false := by rw [beq_eq_false_iff_ne]; omega
        have e2 : ((b : Int) == 0) = true := by rw [beq_iff_eq]; omega
        clear h0 h1 ha hb
        go_enter Try.func4, Try.ntmps4
        go_wp2_with fail
        refine (FA.out _).mono ?_; rintro e w1 ⟨rfl, k1⟩
        have K1 := Lib.hid k1
        clear k1
        go_wp2_with fail
        refine (W1.out _).mono ?_; rintro e w2 ⟨rfl, k2⟩
        have K2 := Lib.hid (K1.out.trans k2)
        clear k2
        go_wp2_with fail
        go_ret
        exact ⟨rfl, K2.out⟩
    · obtain ⟨a0, ea⟩ : ∃ a0, a0 + 1 = a := ⟨a - 1, by omega⟩
      obtain ⟨b0, eb⟩ : ∃ b0, b0 + 1 = b := ⟨b - 1, by omega⟩
      have W2 := Lib.hid (fun w => PWay_ok a0 b w (by omega) hb)
      have W3 := Lib.hid (fun w => PWay_ok a b0 w ha (by omega))
      have W4 := Lib.hid (fun w (h : b ≤ 4) => PWay_ok b a w h (by omega))
      have W5 := Lib.hid (fun w (h : ¬ b ≤ 4) => PWay_err b a w (if_neg (by omega)))
      have NX : Zx.wy a b = Zx.wy a0 b + Zx.wy a b0 := by rw [← ea, ← eb]; exact Zx.wy_next a0 b0
      have FL : Zx.wy b a = Zx.wy a b := Zx.wy_flip _ b a rfl
      have b1 := Zx.wy_most a0 (by omega) b (by omega)
      have b2 := Zx.wy_most a (by omega) b0 (by omega)
      rw [FL] at W4
      rw [NX] at W1 W4
      clear NX FL
      have e1 : ((a : Int) == 0) = false := by rw [beq_eq_false_iff_ne]; omega
      have e2 : ((b : Int) == 0) = false := by rw [beq_eq_false_iff_ne]; omega
      have e3 : (a : Int) - 1 = (a0 : Int) := by omega
      have e4 : (b : Int) - 1 = (b0 : Int) := by omega
      have e5 : IntKind.i64.wrap (a0 : Int) = (a0 : Int) := IntWalk.i64_in _ (by omega)
      have e6 : IntKind.i64.wrap (b0 : Int) = (b0 : Int) := IntWalk.i64_in _ (by omega)
      generalize Zx.wy a0 b = x at *
      generalize Zx.wy a b0 = y at *
      have e7 : IntKind.i64.wrap (x + y) = x + y := IntWalk.i64_in _ (by omega)
      have e8 : (x + y == x + y) = true := by simp
      have e9 : (x + y != x + y) = false := by simp
      clear h0 ea eb
      by_cases h4 : b ≤ 4
      · have W4' := Lib.hid (fun w => W4.out w h4)
        have c4 : (b : Int) ≤ 4 := by omega
        clear W4 W5 h4
        go_enter Try.func4, Try.ntmps4
        go_wp2_with fail
        refine (FA.out _).mono ?_; rintro e w1 ⟨rfl, k1⟩
        have K1 := Lib.hid k1
        clear k1
        go_wp2_with fail
        refine (W1.out _).mono ?_; rintro e w2 ⟨rfl, k2⟩
        have K2 := Lib.hid (K1.out.trans k2)
        clear k2
        go_wp2_with fail
        refine (W2.out _).mono ?_; rintro e w3 ⟨rfl, k3⟩
        have K3 := Lib.hid (K2.out.trans k3)
        clear k3
        go_wp2_with fail
        refine (W3.out _).mono ?_; rintro e w4 ⟨rfl, k4⟩
        have K4 := Lib.hid (K3.out.trans k4)
        clear k4
        go_wp2_with fail
        refine (W4'.out _).mono ?_; rintro e w5 ⟨rfl, k5⟩
        have K5 := Lib.hid (K4.out.trans k5)
        clear k5
        go_wp2_with fail
        go_ret
        exact ⟨rfl, K5.out⟩
      · have W4' := Lib.hid (fun w => W5.out w h4)
        have c4 : 4 < (b : Int) := by omega
        clear W4 W5 h4
        go_enter Try.func4, Try.ntmps4
        go_wp2_with fail
        refine (FA.out _).mono ?_; rintro e w1 ⟨rfl, k1⟩
        have K1 := Lib.hid k1
        clear k1
        go_wp2_with fail
        refine (W1.out _).mono ?_; rintro e w2 ⟨rfl, k2⟩
        have K2 := Lib.hid (K1.out.trans k2)
        clear k2
        go_wp2_with fail
        refine (W2.out _).mono ?_; rintro e w3 ⟨rfl, k3⟩
        have K3 := Lib.hid (K2.out.trans k3)
        clear k3
        go_wp2_with fail
        refine (W3.out _).mono ?_; rintro e w4 ⟨rfl, k4⟩
        have K4 := Lib.hid (K3.out.trans k4)
        clear k4
        go_wp2_with fail
        refine (W4'.out _).mono ?_; rintro e w5 ⟨rfl, rfl⟩
        go_wp2_with fail
        go_ret
        exact ⟨rfl, K4.out⟩
  · have W1 := Lib.hid (fun w => PWay_err r u w h)
    clear h
    go_enter Try.func4, Try.ntmps4
    go_wp2_with fail
    refine (FA.out _).mono ?_; rintro e w1 ⟨rfl, k1⟩
    have K1 := Lib.hid k1
    clear k1
    go_wp2_with fail
    refine (W1.out _).mono ?_; rintro e w2 ⟨rfl, rfl⟩
    go_wp2_with fail
    go_ret
    exact ⟨rfl, K1.out⟩

end Go.Proofs.Ytolkdbijenbchaa
