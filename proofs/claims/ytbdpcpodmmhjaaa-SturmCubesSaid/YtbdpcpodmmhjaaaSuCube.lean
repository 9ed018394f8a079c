/- The law SturmCubes, walked. -/
import Derived.Test.YtbdpcpodmmhjaaaSuRfV
namespace Go.Proofs.Ytbdpcpodmmhjaaa
open Go.ChangeShapes Go.WideShapes Go.ChangeAt Go.RowKit
set_option linter.unusedVariables false

theorem Whl.sz {n : Nat} {L : List Int} (s : Whl n L) : Stu.Sz L := Stu.pch_sz s.ne s.len4 s.tp s.bn L (by unfold Stu.pch; split <;> simp)
theorem sgz_mul (a b : Int) : Stu.sgz a * Stu.sgz b = 1 ∨ Stu.sgz a * Stu.sgz b = 0 ∨ Stu.sgz a * Stu.sgz b = -1 := by
  rcases Stu.sgz_some a with ⟨h, _⟩ | ⟨h, _⟩ | ⟨h, _⟩ <;> rcases Stu.sgz_some b with ⟨k, _⟩ | ⟨k, _⟩ | ⟨k, _⟩ <;> rw [h, k] <;> decide
theorem Whl.cube {n : Nat} {L : List Int} (s : Whl n L) {a b : Int} (h : a ≤ b) (hs : Stu.sgz (Stu.hv L a) * Stu.sgz (Stu.hv L b) < 0) : 1 ≤ dv L a - dv L b := by
  by_cases h1 : L.length = 1
  · exfalso
    obtain ⟨z, rfl⟩ : ∃ z, L = [z] := by
      match L, h1 with
      | [z], _ => exact ⟨z, rfl⟩
    have e : ∀ x, Stu.hv [z] x = z := fun x => by show 0 * x + z = z; omega
    rw [e, e] at hs
    rcases Stu.sgz_some z with ⟨h, _⟩ | ⟨h, _⟩ | ⟨h, _⟩ <;> rw [h] at hs <;> exact absurd hs (by decide)
  · have := Stu.change_drop (f := L) (by have := s.len; have := s.n0; omega) s.len4 s.tp (x := (a : Rat)) (y := (b : Rat)) (Rat.intCast_le_intCast.2 h) (by
      rw [Stu.hv_iv, Stu.hv_iv, ← Stu.sgz_sq, ← Stu.sgz_sq]; exact hs)
    unfold dv
    omega
theorem Whl.odd {n : Nat} {L : List Int} (s : Whl n L) (h : n % 2 = 0) : 1 ≤ Stu.ends (Stu.chain L) :=
  Stu.odd_ends (by have := s.len; have := s.n0; omega) s.len4 s.tp (by rw [s.len]; exact h)

set_option maxRecDepth 100000 in
set_option maxHeartbeats 3200000 in
theorem walk_SturmCubes (A : Option Addr) (L : List Int) (d : Nat) (a b : Int) (w : World) (ha : Lies w A L) (hd : L.length ≤ d) :
    Calls Try.prog 6 #[.slice A L.length d, .int .i64 a, .int .i64 b] w fun e w' => e = .returned (.bool true) ∧ Kp w w' := by
  have FA := Lib.hid (sturmFact_any w)
  rcases whl_or L with s | h
  · obtain ⟨n, hn⟩ : ∃ n, n = L.length := ⟨_, rfl⟩
    rw [← hn] at s hd ⊢
    have AL := Lib.hid (fun (w' : World) (k : Kp w w') => UAll_ok A L n d w' (ha.keep k) s hd)
    have ODD := s.odd
    generalize Stu.ends (Stu.chain L) = E at *
    have n4 := s.n4
    -- what the counts of odd powers say, as the law asks it
    have Q : (((n : Int) % 2 == 0) = true ∧ ¬ E < 1) ∨ ((n : Int) % 2 == 0) = false := by
      rcases Nat.mod_two_eq_zero_or_one n with e | e
      · exact .inl ⟨by rw [beq_iff_eq]; omega, by have := ODD e; omega⟩
      · exact .inr (by rw [beq_eq_false_iff_ne]; omega)
    have HQ := Lib.hid Q
    by_cases hr : -100 ≤ a ∧ a ≤ 100 ∧ a ≤ b ∧ b ≤ 100
    · have C1 := Lib.hid (fun (w' : World) (k : Kp w w') => UCount_told A L n d a b w' (ha.keep k) s hd hr)
      have VA := Lib.hid (fun (w' : World) (k : Kp w w') => rVal_any A L n d a w' (ha.keep k) s.len s.sz (by omega))
      have VB := Lib.hid (fun (w' : World) (k : Kp w w') => rVal_any A L n d b w' (ha.keep k) s.len s.sz (by omega))
      have CU := Lib.hid (s.cube hr.2.2.1)
      have SM := Lib.hid (sgz_mul (Stu.hv L a) (Stu.hv L b))
      generalize dv L a - dv L b = m at *
      generalize Stu.hv L a = x at *
      generalize Stu.hv L b = y at *
      have SA := Lib.hid (fun w' => rSign_any x w')
      have SB := Lib.hid (fun w' => rSign_any y w')
      generalize Stu.sgz x = sx at *
      generalize Stu.sgz y = sy at *
      clear ha s hn ODD Q hr hd
      go_enter Try.func6, Try.ntmps6
      go_wp2_with fail
      refine (FA.out).mono ?_; rintro e w1 ⟨rfl, k1⟩
      have K1 := Lib.hid k1
      clear k1 FA
      go_wp2_with fail
      refine (AL.out _ K1.out).mono ?_; rintro e w2 ⟨rfl, k2⟩
      have K2 := Lib.hid (K1.out.trans k2)
      clear k2 AL
      have hwm : IntKind.i64.wrap (sx * sy) = sx * sy := IntWalk.i64_in _ (by rcases SM.out with h | h | h <;> rw [h] <;> decide)
      rcases HQ.out with ⟨e1, e2⟩ | e1
      all_goals
        by_cases hs : sx * sy < 0
        · have hm := CU.out hs
          go_wp2_with fail
          refine (C1.out _ K2.out).mono ?_; rintro e w3 ⟨rfl, k3⟩
          have K3 := Lib.hid (K2.out.trans k3)
          clear k3
          go_wp2_with fail
          refine (VA.out _ K3.out).mono ?_; rintro e w4 ⟨rfl, rfl⟩
          go_wp2_with fail
          refine (SA.out _).mono ?_; rintro e w4 ⟨rfl, rfl⟩
          go_wp2_with fail
          refine (VB.out _ K3.out).mono ?_; rintro e w4 ⟨rfl, rfl⟩
          go_wp2_with fail
          refine (SB.out _).mono ?_; rintro e w4 ⟨rfl, rfl⟩
          go_wp2_with fail
          go_ret
          exact ⟨rfl, K3.out⟩
        · have hs' : 0 ≤ sx * sy := by omega
          go_wp2_with fail
          refine (C1.out _ K2.out).mono ?_; rintro e w3 ⟨rfl, k3⟩
          have K3 := Lib.hid (K2.out.trans k3)
          clear k3
          go_wp2_with fail
          refine (VA.out _ K3.out).mono ?_; rintro e w4 ⟨rfl, rfl⟩
          go_wp2_with fail
          refine (SA.out _).mono ?_; rintro e w4 ⟨rfl, rfl⟩
          go_wp2_with fail
          refine (VB.out _ K3.out).mono ?_; rintro e w4 ⟨rfl, rfl⟩
          go_wp2_with fail
          refine (SB.out _).mono ?_; rintro e w4 ⟨rfl, rfl⟩
          go_wp2_with fail
          go_ret
          exact ⟨rfl, K3.out⟩
    · have C1 := Lib.hid (fun (w' : World) (k : Kp w w') => UCount_off A L n d a b w' (ha.keep k) s hr)
      rw [errOf_ne 1 (by decide)] at C1
      clear ha s hn ODD Q hr hd
      go_enter Try.func6, Try.ntmps6
      go_wp2_with fail
      refine (FA.out).mono ?_; rintro e w1 ⟨rfl, k1⟩
      have K1 := Lib.hid k1
      clear k1 FA
      go_wp2_with fail
      refine (AL.out _ K1.out).mono ?_; rintro e w2 ⟨rfl, k2⟩
      have K2 := Lib.hid (K1.out.trans k2)
      clear k2 AL
      rcases HQ.out with ⟨e1, e2⟩ | e1
      all_goals
        go_wp2_with fail
        refine (C1.out _ K2.out).mono ?_; rintro e w3 ⟨rfl, k3⟩
        have K3 := Lib.hid (K2.out.trans k3)
        clear k3
        go_wp2_with fail
        go_ret
        exact ⟨rfl, K3.out⟩
  · have AL := Lib.hid (fun (w' : World) (k : Kp w w') => UAll_bad A L d w' (ha.keep k) h)
    rw [errOf_ne _ h] at AL
    generalize ucd L = q at *
    generalize L.length = n at *
    clear ha h
    go_enter Try.func6, Try.ntmps6
    go_wp2_with fail
    refine (FA.out).mono ?_; rintro e w1 ⟨rfl, k1⟩
    have K1 := Lib.hid k1
    clear k1 FA
    go_wp2_with fail
    refine (AL.out _ K1.out).mono ?_; rintro e w2 ⟨rfl, k2⟩
    have K2 := Lib.hid (K1.out.trans k2)
    clear k2 AL
    go_wp2_with fail
    go_ret
    exact ⟨rfl, K2.out⟩

end Go.Proofs.Ytbdpcpodmmhjaaa
