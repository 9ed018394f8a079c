/- The plain law ContBest: Lagrange. -/
import Derived.Test.YtnjbpikcglakoaaContLaw
namespace Go.Proofs.Ytnjbpikcglakoaa
open Go.ChangeShapes Go.WideShapes Go.ChangeAt Go.RowKit
open Cont
set_option linter.unusedVariables false

/-- What is known of the best one. -/
theorem best_facts (N D : Nat) (most : Int) (a1 : N ≤ 1000000) (a2 : 1 ≤ D) (a3 : D ≤ 1000000) (m1 : 1 ≤ most) (f : Fr) (hf : f = bestUp (terms N D) most (terms N D).length) :
    0 ≤ f.1 ∧ f.1 ≤ 1000000 ∧ 1 ≤ f.2 ∧ f.2 ≤ most ∧ f.2 ≤ 1000000 ∧ (f.2 ≠ 1 → ∀ p q : Int, 1 ≤ q → q ≤ f.2 → ((N : Int) * f.2 - f.1 * D).natAbs ≤ ((N : Int) * q - p * D).natAbs) := by
  obtain ⟨i, hi, he, hd⟩ := best_is (terms N D) most m1 (terms_some N D a2) (terms N D).length (terms_some N D a2)
  rw [he] at hf
  have hg := cv_ge (terms N D) (terms_ok N D a2 a1 a3) i hi
  have hs := terms_small N D a2 a1 a3 i hi
  unfold Sm at hs
  rw [← hf] at hg hs hd
  refine ⟨hg.1, hs.1, hg.2, hd, hs.2, fun hne p q h1 h2 => ?_⟩
  cases i with
  | zero =>
    rw [cv_zero _ hi] at hf
    rw [hf] at hne
    exact absurd rfl hne
  | succ i =>
    rw [hf] at h2 ⊢
    exact lagrange N D a2 a1 a3 i hi p q h1 h2

theorem sub_bound (a b c d : Int) (h1 : 0 ≤ a) (h2 : a ≤ 1000000) (h3 : 0 ≤ b) (h4 : b ≤ 1000000) (h5 : 0 ≤ c) (h6 : c ≤ 1000000) (h7 : 0 ≤ d) (h8 : d ≤ 1000000) :
    (0 ≤ a * b ∧ a * b ≤ 1000000000000) ∧ (0 ≤ c * d ∧ c * d ≤ 1000000000000) ∧ -1000000000000 ≤ a * b - c * d ∧ a * b - c * d ≤ 1000000000000 := by
  have m1 := Int.mul_nonneg h1 h3
  have m2 := Int.mul_le_mul h2 h4 h3 (by omega)
  have m3 := Int.mul_nonneg h5 h7
  have m4 := Int.mul_le_mul h6 h8 h7 (by omega)
  omega

set_option maxRecDepth 100000 in
set_option maxHeartbeats 1600000 in
theorem cbest_in (N D : Nat) (most p q : Int) (w : World) (a1 : N ≤ 1000000) (a2 : 1 ≤ D) (a3 : D ≤ 1000000) (m1 : 1 ≤ most) (m2 : most ≤ 1000000) :
    Calls Try.prog 5 #[.agg #[.int .i64 (N : Int), .int .i64 (D : Int)], .int .i64 most, .int .i64 p, .int .i64 q] w fun e w' => e = .returned (.bool true) ∧ Kp w w' := by
  have HF := Lib.hid fact_any
  have HT := Lib.hid (fun w => best_in N D most w a1 a2 a3 m1 m2)
  have HA : BestAns N D most 0 (bestUp (terms N D) most (terms N D).length) := .inr ⟨⟨by omega, by omega, by omega, by omega⟩, m1, m2, rfl, by simp⟩
  obtain ⟨f, hf⟩ : ∃ f, f = bestUp (terms N D) most (terms N D).length := ⟨_, rfl⟩
  obtain ⟨f1, f2, f3, f4, f5, f6⟩ := best_facts N D most a1 a2 a3 m1 f hf
  rw [← hf] at HA
  have HAA := Lib.hid HA
  obtain ⟨x, y⟩ := f
  simp only [] at f1 f2 f3 f4 f5 f6
  have HL := Lib.hid f6
  have HND := Lib.hid (show (0 : Int) ≤ N ∧ (N : Int) ≤ 1000000 ∧ (0 : Int) ≤ D ∧ (D : Int) ≤ 1000000 from by omega)
  clear hf f6 HA a1 a2 a3
  go_enter Try.func5, Try.ntmps5
  go_wp2_with fail
  refine (HF.out _).mono ?_; rintro e w1 ⟨rfl, hk⟩
  have hb := (Box.made w ((N : Int), (D : Int)) 23 w.heap.size rfl).keep hk
  have h1 := hb.c1
  have h2 := hb.c2
  have HBX := Lib.hid hb
  have HK := Lib.hid (((Kp.rfl' w).new _).trans hk)
  simp only [] at h1 h2
  clear hb hk
  go_wp2_with fail
  refine (HT.out _).mono ?_; rintro e w2 ⟨cc, f, hans, rfl, hk⟩
  obtain ⟨rfl, rfl⟩ := best_one HAA.out hans
  rw [show errOf 0 = .nilIface from rfl]
  have hb := HBX.out.keep hk
  have h1 := hb.c1
  have h2 := hb.c2
  have hlt2 := hb.lt
  have HK2 := Lib.hid ((HK.out.trans hk).new (.cells #[.int .i64 x, .int .i64 y] 23))
  simp only [] at h1 h2
  clear hb hk hans HBX HK HT HF HAA
  go_wp2_with fail
  refine (lawIn_any x 0 1000000 _ true (by simp; omega)).mono ?_; rintro e w' ⟨rfl, rfl⟩
  go_wp2_with fail
  refine (lawIn_any y 1 most _ true (by simp; omega)).mono ?_; rintro e w' ⟨rfl, rfl⟩
  go_wp2_with fail
  by_cases hq : 1 ≤ q ∧ q ≤ y
  · refine (lawIn_any q 1 y _ true (by simp; omega)).mono ?_; rintro e w' ⟨rfl, rfl⟩
    go_wp2_with fail
    by_cases hp : 0 ≤ p ∧ p ≤ 1000000
    · refine (lawIn_any p 0 1000000 _ true (by simp; omega)).mono ?_; rintro e w' ⟨rfl, rfl⟩
      by_cases hy : y = 1
      · have hy1 : (y == 1) = true := by rw [hy]; rfl
        clear hy
        go_wp2_with fail
        go_ret
        exact ⟨rfl, HK2.out⟩
      · have hy1 : (y == 1) = false := by rw [beq_eq_false_iff_ne]; exact hy
        have LG := Lib.hid (HL.out hy p q hq.1 hq.2)
        obtain ⟨hq1, hq2⟩ := hq
        obtain ⟨hp1, hp2⟩ := hp
        have nd := HND.out
        have B1 := Lib.hid (sub_bound N y x D nd.1 nd.2.1 (by omega) (by omega) f1 f2 nd.2.2.1 nd.2.2.2)
        have B2 := Lib.hid (sub_bound N q p D nd.1 nd.2.1 (by omega) (by omega) hp1 hp2 nd.2.2.1 nd.2.2.2)
        clear hy nd f1 f2 f3 f4 f5 m1 m2 hq1 hq2 hp1 hp2
        obtain ⟨⟨b1, b2⟩, ⟨b3, b4⟩, b5, b6⟩ := B1.out
        go_wp2_with fail
        refine (abs_any _ _ b5 b6).mono ?_; rintro e w' ⟨rfl, rfl⟩
        clear b1 b2 b3 b4 b5 b6
        obtain ⟨⟨b1, b2⟩, ⟨b3, b4⟩, b5, b6⟩ := B2.out
        go_wp2_with fail
        refine (abs_any _ _ b5 b6).mono ?_; rintro e w' ⟨rfl, rfl⟩
        clear b1 b2 b3 b4 b5 b6
        go_wp2_with fail
        go_ret
        exact ⟨ret_bool (by simp; exact LG.out), HK2.out⟩
    · refine (lawIn_any p 0 1000000 _ false (by simp; omega)).mono ?_; rintro e w' ⟨rfl, rfl⟩
      go_wp2_with fail
      go_ret
      exact ⟨rfl, HK2.out⟩
  · refine (lawIn_any q 1 y _ false (by simp; omega)).mono ?_; rintro e w' ⟨rfl, rfl⟩
    go_wp2_with fail
    go_ret
    exact ⟨rfl, HK2.out⟩

set_option maxHeartbeats 800000 in
theorem cbest_out (n d most p q : Int) (w : World) (h : ¬ (OkF n d ∧ 1 ≤ most ∧ most ≤ 1000000)) :
    Calls Try.prog 5 #[.agg #[.int .i64 n, .int .i64 d], .int .i64 most, .int .i64 p, .int .i64 q] w fun e w' => e = .returned (.bool true) ∧ Kp w w' := by
  have HF := Lib.hid fact_any
  have HT := Lib.hid (fun w => best_any n d most w)
  have HAA := Lib.hid (show BestAns n d most 1 (0, 0) from .inl ⟨h, rfl, rfl⟩)
  clear h
  go_enter Try.func5, Try.ntmps5
  go_wp2_with fail
  refine (HF.out _).mono ?_; rintro e w1 ⟨rfl, hk⟩
  have hb := (Box.made w (n, d) 23 w.heap.size rfl).keep hk
  have h1 := hb.c1
  have h2 := hb.c2
  have HK := Lib.hid (((Kp.rfl' w).new _).trans hk)
  simp only [] at h1 h2
  clear hb hk
  go_wp2_with fail
  refine (HT.out _).mono ?_; rintro e w2 ⟨cc, f, hans, rfl, hk⟩
  obtain ⟨rfl, rfl⟩ := best_one HAA.out hans
  rw [show errOf 1 = .iface 43 (.int .i64 1) from rfl]
  have HK2 := Lib.hid ((HK.out.trans hk).new (.cells #[.int .i64 0, .int .i64 0] 23))
  clear hk hans HK HT HF HAA
  go_wp2_with fail
  go_ret
  exact ⟨rfl, HK2.out⟩

theorem walk_ContBest (n d most p q : Int) (w : World) :
    Calls Try.prog 5 #[.agg #[.int .i64 n, .int .i64 d], .int .i64 most, .int .i64 p, .int .i64 q] w fun e w' => e = .returned (.bool true) ∧ Kp w w' := by
  by_cases h : OkF n d ∧ 1 ≤ most ∧ most ≤ 1000000
  · obtain ⟨⟨a1, a2, a3, a4⟩, m1, m2⟩ := h
    obtain ⟨N, rfl⟩ : ∃ N : Nat, n = N := ⟨n.toNat, by omega⟩
    obtain ⟨D, rfl⟩ : ∃ D : Nat, d = D := ⟨d.toNat, by omega⟩
    exact cbest_in N D most p q w (by omega) (by omega) (by omega) m1 m2
  · exact cbest_out n d most p q w h

end Go.Proofs.Ytnjbpikcglakoaa
