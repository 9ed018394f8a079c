/- The law PfaffSquare. -/
import Derived.Test.YtkebjmapdcbnaaaPfLaw
import Derived.Test.YtkebjmapdcbnaaaBaC4
import Derived.Test.YtkebjmapdcbnaaaZDetH
namespace Go.Proofs.Ytkebjmapdcbnaaa
open Go.ChangeShapes Go.WideShapes Go.ChangeAt Go.RowKit
set_option linter.unusedVariables false

set_option maxRecDepth 100000 in
set_option maxHeartbeats 6400000 in
theorem walk_PfaffSquare (A : Option Addr) (m : List (List Int)) (d : Nat) (w : World) (ha : LiesM w A m) :
    Calls Try.prog 3 #[.slice A m.length d] w fun e w' => e = .returned (.bool true) ∧ Kp w w' := by
  obtain ⟨n, hn⟩ : ∃ n, n = m.length := ⟨_, rfl⟩
  rw [← hn]
  have HA := Lib.hid ha
  have FA := Lib.hid (pfaffFact_any w)
  rcases POf_or A m n d hn.symm with ⟨f, s⟩ | ⟨z, _, hz, bad⟩
  · have OA := Lib.hid (fun w h => POf_ok A m f n d w s h)
    have n0 := s.n0
    have n6 := s.n6
    have bd := s.bound
    have SQ := Lib.hid (Zx.pf_sq s.n6 s.skw)
    have OD := Lib.hid (Zx.pf_odd n f)
    have hm := ha
    rw [s.eq] at hm
    have DT := Lib.hid (fun w' (k : Kp w w') => rDetH_any n s.n6 A f d w' (fun i j hi hj => by have := s.ab i j hi hj; omega) (hm.keep k))
    have BO := Lib.hid (fun w' (k : Kp w w') (h5 : n ≤ 5) => BOf_ok A f m n d w' (ha.keep k) ⟨s.eq, s.n0, h5, s.ab⟩)
    rw [← SQ.out] at DT BO
    obtain ⟨v, hv⟩ : ∃ v, v = Zx.pf n f := ⟨_, rfl⟩
    rw [← hv] at OA bd OD DT BO
    have hin : (decide (-100000 ≤ v) && decide (v ≤ 100000)) = true := by simp; omega
    have IN := Lib.hid (fun w => law4In_any v (-100000) 100000 w true hin)
    have q1 : v * v ≤ 10935 * 10935 := by
      have h1 : v.natAbs * v.natAbs ≤ 10935 * 10935 := Nat.mul_le_mul bd bd
      have h2 : (v.natAbs : Int) * v.natAbs = v * v := Int.natAbs_mul_self' v
      have h3 : ((v.natAbs * v.natAbs : Nat) : Int) ≤ ((10935 * 10935 : Nat) : Int) := by exact_mod_cast h1
      rw [← h2]; simpa using h3
    have q0 : 0 ≤ v * v := by
      have h2 : (v.natAbs : Int) * v.natAbs = v * v := Int.natAbs_mul_self' v
      rw [← h2]; exact Int.mul_nonneg (by omega) (by omega)
    have hw : IntKind.i64.wrap (v * v) = v * v := IntWalk.i64_in _ (by omega)
    have eq0 : ((v * v) != (v * v)) = false := by simp
    have eq1 : ((v * v) == (v * v)) = true := by simp
    have hrem : (n : Int).tmod 2 = ((n % 2 : Nat) : Int) := by rw [Int.tmod_eq_emod_of_nonneg (by omega)]; omega
    have hodd : n % 2 = 1 → (v != 0) = false := fun h => by rw [bne_eq_false_iff_eq]; exact OD.out h
    obtain ⟨r, hr⟩ : ∃ r, r = n % 2 := ⟨_, rfl⟩
    rw [← hr] at hrem hodd
    have r2 : r = 0 ∨ r = 1 := by omega
    clear hm s ha hn hv hin OD SQ q1 q0 hr
    by_cases h5 : n ≤ 5
    · have e5 : ¬ (5 : Int) < (n : Int) := by omega
      rcases r2 with rfl | rfl
      all_goals
        try have e6 := hodd rfl
        clear hodd
        go_enter Try.func3, Try.ntmps3
        go_wp2_with fail
        refine (FA.out).mono ?_; rintro e w1 ⟨rfl, k1⟩
        have K1 := Lib.hid k1; clear k1
        go_wp2_with fail
        refine (OA.out w1 (HA.out.keep K1.out)).mono ?_; rintro e w2 ⟨rfl, k2⟩
        have K2 := Lib.hid (K1.out.trans k2); clear k2
        go_wp2_with fail
        refine (IN.out w2).mono ?_; rintro e w3 ⟨rfl, rfl⟩
        go_wp2_with fail
        refine (DT.out w2 K2.out).mono ?_; rintro e w3 ⟨rfl, k3⟩
        have K3 := Lib.hid (K2.out.trans k3); clear k3
        go_wp2_with fail
        refine (BO.out w3 K3.out h5).mono ?_; rintro e w4 ⟨rfl, k4⟩
        have K4 := Lib.hid (K3.out.trans k4); clear k4
        go_wp2_with fail
        go_ret
        exact ⟨rfl, K4.out⟩
    · have e5 : (5 : Int) < (n : Int) := by omega
      rcases r2 with rfl | rfl
      all_goals
        try have e6 := hodd rfl
        clear hodd
        go_enter Try.func3, Try.ntmps3
        go_wp2_with fail
        refine (FA.out).mono ?_; rintro e w1 ⟨rfl, k1⟩
        have K1 := Lib.hid k1; clear k1
        go_wp2_with fail
        refine (OA.out w1 (HA.out.keep K1.out)).mono ?_; rintro e w2 ⟨rfl, k2⟩
        have K2 := Lib.hid (K1.out.trans k2); clear k2
        go_wp2_with fail
        refine (IN.out w2).mono ?_; rintro e w3 ⟨rfl, rfl⟩
        go_wp2_with fail
        refine (DT.out w2 K2.out).mono ?_; rintro e w3 ⟨rfl, k3⟩
        have K3 := Lib.hid (K2.out.trans k3); clear k3
        go_wp2_with fail
        go_ret
        exact ⟨rfl, K3.out⟩
  · have OA := Lib.hid bad
    clear bad hn ha hz
    go_enter Try.func3, Try.ntmps3
    go_wp2_with fail
    refine (FA.out).mono ?_; rintro e w1 ⟨rfl, k1⟩
    have K1 := Lib.hid k1; clear k1
    go_wp2_with fail
    refine (OA.out w1 (HA.out.keep K1.out)).mono ?_; rintro e w2 ⟨rfl, k2⟩
    have K2 := Lib.hid (K1.out.trans k2); clear k2
    go_wp2_with fail
    go_ret
    exact ⟨rfl, K2.out⟩
end Go.Proofs.Ytkebjmapdcbnaaa
