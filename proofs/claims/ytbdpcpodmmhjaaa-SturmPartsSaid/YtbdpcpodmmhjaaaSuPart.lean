/- The law SturmParts, walked. -/
import Derived.Test.YtbdpcpodmmhjaaaSuFact
namespace Go.Proofs.Ytbdpcpodmmhjaaa
open Go.ChangeShapes Go.WideShapes Go.ChangeAt Go.RowKit
set_option linter.unusedVariables false

set_option maxRecDepth 100000 in
set_option maxHeartbeats 3200000 in
theorem walk_SturmParts (A : Option Addr) (L : List Int) (d : Nat) (a b c : Int) (w : World) (ha : Lies w A L) (hd : L.length ≤ d) :
    Calls Try.prog 4 #[.slice A L.length d, .int .i64 a, .int .i64 b, .int .i64 c] w fun e w' => e = .returned (.bool true) ∧ Kp w w' := by
  have FA := Lib.hid (sturmFact_any w)
  rcases whl_or L with s | h
  · obtain ⟨n, hn⟩ : ∃ n, n = L.length := ⟨_, rfl⟩
    rw [← hn] at s hd ⊢
    have P := s.sturm.parts s.ne
    rw [← hn] at P
    obtain ⟨p1, p2, p3⟩ := P
    have AL := Lib.hid (fun (w' : World) (k : Kp w w') => UAll_ok A L n d w' (ha.keep k) s hd)
    have CO := Lib.hid (fun (x y : Int) (h : -100 ≤ x ∧ x ≤ 100 ∧ x ≤ y ∧ y ≤ 100) (w' : World) (k : Kp w w') => UCount_told A L n d x y w' (ha.keep k) s hd h)
    have CX := Lib.hid (fun (x y : Int) (h : ¬ (-100 ≤ x ∧ x ≤ 100 ∧ x ≤ y ∧ y ≤ 100)) (w' : World) (k : Kp w w') => UCount_off A L n d x y w' (ha.keep k) s h)
    rw [errOf_ne 1 (by decide)] at CX
    have MONO : ∀ x y : Int, x ≤ y → dv L y ≤ dv L x := fun x y h => Int.ofNat_le.2 (s.sturm.mono x y (Rat.intCast_le_intCast.2 h))
    have TOP : ∀ x y : Int, x ≤ y → dv L x - dv L y ≤ Stu.ends (Stu.chain L) := fun x y h => p3 x y (Rat.intCast_le_intCast.2 h)
    have LO : ∀ x : Int, 0 ≤ dv L x ∧ dv L x ≤ 4 := fun x => ⟨Int.natCast_nonneg _, by
      have := s.sturm.le (x : Rat)
      have := s.len4
      unfold dv; omega⟩
    generalize Stu.ends (Stu.chain L) = E at *
    have q1 : ¬ E < 0 := by omega
    have q2 : ¬ (n : Int) ≤ E := by omega
    clear ha s hn p3 p1 p2 hd
    go_enter Try.func4, Try.ntmps4
    go_wp2_with fail
    refine (FA.out).mono ?_; rintro e w1 ⟨rfl, k1⟩
    have K1 := Lib.hid k1
    clear k1 FA
    go_wp2_with fail
    refine (AL.out _ K1.out).mono ?_; rintro e w2 ⟨rfl, k2⟩
    have K2 := Lib.hid (K1.out.trans k2)
    clear k2 AL
    by_cases h1 : -100 ≤ a ∧ a ≤ 100 ∧ a ≤ b ∧ b ≤ 100
    · have C1 := Lib.hid (CO.out a b h1 w2 K2.out)
      by_cases h2 : -100 ≤ b ∧ b ≤ 100 ∧ b ≤ c ∧ c ≤ 100
      · have C2 := Lib.hid (CO.out b c h2)
        have C3 := Lib.hid (CO.out a c (by omega))
        have m1 := MONO a b (by omega)
        have m2 := MONO b c (by omega)
        have m3 := TOP a c (by omega)
        have l1 := LO a
        have l2 := LO b
        have l3 := LO c
        clear MONO TOP LO h1 h2
        obtain ⟨x, hx⟩ : ∃ x, x = dv L a - dv L b := ⟨_, rfl⟩
        obtain ⟨y, hy⟩ : ∃ y, y = dv L b - dv L c := ⟨_, rfl⟩
        obtain ⟨z, hz⟩ : ∃ z, z = dv L a - dv L c := ⟨_, rfl⟩
        rw [← hx] at C1
        rw [← hy] at C2
        rw [← hz] at C3
        have r1 : 0 ≤ x := by omega
        have r2 : 0 ≤ y := by omega
        have r3 : z = x + y := by omega
        have r4 : z ≤ E := by omega
        have hw : IntKind.i64.wrap (x + y) = z := by rw [← r3]; exact IntWalk.i64_in _ (by omega)
        clear hx hy hz m1 m2 m3 l1 l2 l3 r3
        go_wp2_with fail
        refine (C1.out).mono ?_; rintro e w3 ⟨rfl, k3⟩
        have K3 := Lib.hid (K2.out.trans k3)
        clear k3
        go_wp2_with fail
        refine (C2.out _ K3.out).mono ?_; rintro e w4 ⟨rfl, k4⟩
        have K4 := Lib.hid (K3.out.trans k4)
        clear k4
        go_wp2_with fail
        refine (C3.out _ K4.out).mono ?_; rintro e w5 ⟨rfl, k5⟩
        have K5 := Lib.hid (K4.out.trans k5)
        clear k5
        go_wp2_with fail
        go_ret
        exact ⟨rfl, K5.out⟩
      · have C2 := Lib.hid (CX.out b c h2)
        generalize dv L a - dv L b = x at *
        clear MONO TOP LO h1 h2
        go_wp2_with fail
        refine (C1.out).mono ?_; rintro e w3 ⟨rfl, k3⟩
        have K3 := Lib.hid (K2.out.trans k3)
        clear k3
        go_wp2_with fail
        refine (C2.out _ K3.out).mono ?_; rintro e w4 ⟨rfl, k4⟩
        have K4 := Lib.hid (K3.out.trans k4)
        clear k4
        go_wp2_with fail
        go_ret
        exact ⟨rfl, K4.out⟩
    · have C1 := Lib.hid (CX.out a b h1 w2 K2.out)
      by_cases h2 : -100 ≤ b ∧ b ≤ 100 ∧ b ≤ c ∧ c ≤ 100
      · have C2 := Lib.hid (CO.out b c h2)
        generalize dv L b - dv L c = x at *
        clear MONO TOP LO h1 h2
        go_wp2_with fail
        refine (C1.out).mono ?_; rintro e w3 ⟨rfl, k3⟩
        have K3 := Lib.hid (K2.out.trans k3)
        clear k3
        go_wp2_with fail
        refine (C2.out _ K3.out).mono ?_; rintro e w4 ⟨rfl, k4⟩
        have K4 := Lib.hid (K3.out.trans k4)
        clear k4
        go_wp2_with fail
        go_ret
        exact ⟨rfl, K4.out⟩
      · have C2 := Lib.hid (CX.out b c h2)
        clear MONO TOP LO h1 h2
        go_wp2_with fail
        refine (C1.out).mono ?_; rintro e w3 ⟨rfl, k3⟩
        have K3 := Lib.hid (K2.out.trans k3)
        clear k3
        go_wp2_with fail
        refine (C2.out _ K3.out).mono ?_; rintro e w4 ⟨rfl, k4⟩
        have K4 := Lib.hid (K3.out.trans k4)
        clear k4
        go_wp2_with fail
        go_ret
        exact ⟨rfl, K4.out⟩
  · have AL := Lib.hid (fun (w' : World) (k : Kp w w') => UAll_bad A L d w' (ha.keep k) h)
    rw [errOf_ne _ h] at AL
    generalize ucd L = q at *
    generalize L.length = n at *
    clear ha h
    go_enter Try.func4, Try.ntmps4
    go_wp2_with fail
    refine (FA.out).mono ?_; rintro e w1 ⟨rfl, k1⟩
    have K1 := Lib.hid k1
    clear k1 FA
    go_wp2_with fail
    refine (AL.out _ K1.out).mono ?_; rintro e w2 ⟨rfl, k2⟩
    have K2 := Lib.hid (K1.out.trans k2)
    clear k2 AL
    go_wp2_with fail
    go_ret
    exact ⟨rfl, K2.out⟩

end Go.Proofs.Ytbdpcpodmmhjaaa
