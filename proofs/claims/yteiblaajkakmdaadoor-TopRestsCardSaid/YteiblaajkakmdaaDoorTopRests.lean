/- The law TopRests: two coprime moduli, by Bezout's numbers. -/
import Derived.Test.YteiblaajkakmdaaDoorCrtSays
import Derived.Test.YteiblaajkakmdaaDoorTopM
import Derived.Deep.RegionHeld3
import Derived.WalkSpells
namespace Go.Proofs.YteiblaajkakmdaaDoor
open Go.ChangeShapes Go.WideShapes Go.ChangeAt Go.RowKit
set_option linter.unusedVariables false

theorem topIn_yes (n a b : Int) (w : World) (h1 : a ≤ n) (h2 : n ≤ b) :
    Calls Tryd.prog 9 #[.int .i64 n, .int .i64 a, .int .i64 b] w fun e w' => e = .returned (.bool true) ∧ w = w' := by
  go_enter Tryd.func9, Tryd.ntmps9
  go_wp2
  go_ret
  exact ⟨rfl, rfl⟩

theorem topIn_no (n a b : Int) (w : World) (h : ¬ (a ≤ n ∧ n ≤ b)) :
    Calls Tryd.prog 9 #[.int .i64 n, .int .i64 a, .int .i64 b] w fun e w' => e = .returned (.bool false) ∧ w = w' := by
  by_cases h1 : a ≤ n
  · have h2 : ¬ n ≤ b := by omega
    clear h
    go_enter Tryd.func9, Tryd.ntmps9
    go_wp2
    go_ret
    exact ⟨rfl, rfl⟩
  · clear h
    go_enter Tryd.func9, Tryd.ntmps9
    go_wp2
    go_ret
    exact ⟨rfl, rfl⟩

set_option maxRecDepth 100000 in
set_option maxHeartbeats 6400000 in
theorem walk_TopRests (a b m n : Int) (w : World) (hl : Told.Laid w) :
    Calls Tryd.prog 4 #[.int .i64 a, .int .i64 b, .int .i64 m, .int .i64 n] w fun e w' => e = .returned (.bool true) ∧ Kp w w' := by
  have HL := Lib.hid hl
  clear hl
  go_enter Tryd.func4, Tryd.ntmps4
  go_wp2_with fail
  refine (solve_any (some ⟨w.heap.size, 0, none⟩) (some ⟨w.heap.size + 1, 0, none⟩) [1] [4] 1 1 _ ?_ ?_).mono ?_
  · exact (lies_new w _ [1]).keep ((Kp.rfl' _).new _)
  · exact lies_new' (w.alloc _) _ [4] _ (by simp)
  rintro e w1 ⟨⟨c, x, s, h, rfl⟩, hk⟩
  obtain ⟨rfl, rfl, rfl⟩ := one_ans c x s h
  rw [errOf_zero]
  have K1 := Lib.hid ((((Kp.rfl' w).new _).new _).trans hk)
  clear h hk
  go_wp2_with fail
  by_cases hr : -1000000 ≤ m ∧ m ≤ 1000000 ∧ -1000000 ≤ n ∧ n ≤ 1000000
  case neg =>
    refine (bezout_out m n _ hr).mono ?_; rintro e w2 ⟨rfl, hd⟩
    have K2 := Lib.hid (K1.out.trans hd.kp)
    clear hr hd
    go_wp2_with fail
    go_ret
    exact ⟨rfl, K2.out⟩
  obtain ⟨q1, q2, q3, q4⟩ := hr
  refine (bezout_any m n _ q1 q2 q3 q4).mono ?_; rintro e w2 ⟨x, y, hb, rfl, hd⟩
  have K2 := Lib.hid (K1.out.trans hd.kp)
  have HB := Lib.hid hb
  obtain ⟨g, hg⟩ : ∃ g : Int, g = (Int.gcd m n : Int) := ⟨_, rfl⟩
  rw [← hg]
  have HG := Lib.hid hg
  clear hb hd hg
  by_cases hm : 1 ≤ m ∧ m ≤ 100
  case neg =>
    have HN := Lib.hid hm
    clear hm
    go_wp2_with fail
    refine (topIn_no m 1 100 _ HN.out).mono ?_; rintro e w3 ⟨rfl, rfl⟩
    go_wp2_with fail
    go_ret
    exact ⟨rfl, K2.out⟩
  obtain ⟨m1, m2⟩ := hm
  by_cases hn : 1 ≤ n ∧ n ≤ 100
  case neg =>
    have HN := Lib.hid hn
    clear hn
    go_wp2_with fail
    refine (topIn_yes m 1 100 _ m1 m2).mono ?_; rintro e w3 ⟨rfl, rfl⟩
    go_wp2_with fail
    refine (topIn_no n 1 100 _ HN.out).mono ?_; rintro e w3 ⟨rfl, rfl⟩
    go_wp2_with fail
    go_ret
    exact ⟨rfl, K2.out⟩
  obtain ⟨n1, n2⟩ := hn
  by_cases ha : 0 ≤ a ∧ a ≤ m - 1
  case neg =>
    have HN := Lib.hid ha
    clear ha
    go_wp2_with fail
    refine (topIn_yes m 1 100 _ m1 m2).mono ?_; rintro e w3 ⟨rfl, rfl⟩
    go_wp2_with fail
    refine (topIn_yes n 1 100 _ n1 n2).mono ?_; rintro e w3 ⟨rfl, rfl⟩
    go_wp2_with fail
    refine (topIn_no a 0 (m - 1) _ HN.out).mono ?_; rintro e w3 ⟨rfl, rfl⟩
    go_wp2_with fail
    go_ret
    exact ⟨rfl, K2.out⟩
  obtain ⟨a1, a2⟩ := ha
  by_cases hb : 0 ≤ b ∧ b ≤ n - 1
  case neg =>
    have HN := Lib.hid hb
    clear hb
    go_wp2_with fail
    refine (topIn_yes m 1 100 _ m1 m2).mono ?_; rintro e w3 ⟨rfl, rfl⟩
    go_wp2_with fail
    refine (topIn_yes n 1 100 _ n1 n2).mono ?_; rintro e w3 ⟨rfl, rfl⟩
    go_wp2_with fail
    refine (topIn_yes a 0 (m - 1) _ a1 a2).mono ?_; rintro e w3 ⟨rfl, rfl⟩
    go_wp2_with fail
    refine (topIn_no b 0 (n - 1) _ HN.out).mono ?_; rintro e w3 ⟨rfl, rfl⟩
    go_wp2_with fail
    go_ret
    exact ⟨rfl, K2.out⟩
  obtain ⟨b1, b2⟩ := hb
  have hz := HB.out.1
  obtain ⟨z2, z3⟩ := HB.out.2.1 (by omega)
  obtain ⟨g1, g2, g3⟩ := CrtM.gcd_bounds m n m1 n1
  rw [← HG.out] at hz g1 g2 g3
  have z4 : x < n := by
    have e : ((n.natAbs / Int.gcd m n : Nat) : Int) = n / (Int.gcd m n : Int) := by rw [Int.natCast_ediv]; congr 1; omega
    rw [e] at z3
    have := Int.ediv_le_self (Int.gcd m n : Int) (show 0 ≤ n by omega)
    omega
  obtain ⟨x1, y1, y2⟩ := bez_hundred m n x y g m1 m2 n1 n2 g1 g3 z2 z4 hz
  have HZ := Lib.hid hz
  clear z3 hz
  go_wp2_with fail
  refine (topIn_yes m 1 100 _ m1 m2).mono ?_; rintro e w3 ⟨rfl, rfl⟩
  go_wp2_with fail
  refine (topIn_yes n 1 100 _ n1 n2).mono ?_; rintro e w3 ⟨rfl, rfl⟩
  go_wp2_with fail
  refine (topIn_yes a 0 (m - 1) _ a1 a2).mono ?_; rintro e w3 ⟨rfl, rfl⟩
  go_wp2_with fail
  refine (topIn_yes b 0 (n - 1) _ b1 b2).mono ?_; rintro e w3 ⟨rfl, rfl⟩
  go_wp2_with fail
  refine (topIn_yes x 0 100 _ z2 x1).mono ?_; rintro e w3 ⟨rfl, rfl⟩
  go_wp2_with fail
  refine (topIn_yes y (-100) 100 _ y1 y2).mono ?_; rintro e w3 ⟨rfl, rfl⟩
  go_wp2_with fail
  refine (solve_any (some ⟨w2.heap.size, 0, none⟩) (some ⟨w2.heap.size + 1, 0, none⟩) [a, b] [m, n] 2 2 _ ?_ ?_).mono ?_
  · exact (lies_new w2 _ [a, b]).keep ((Kp.rfl' _).new _)
  · exact lies_new' (w2.alloc _) _ [m, n] _ (by simp)
  rintro e w3 ⟨⟨c, z, s, h, rfl⟩, hk⟩
  have K3 := Lib.hid (K2.out.trans ((((Kp.rfl' w2).new _).new _).trans hk))
  have h1 : Good a m := ⟨m1, m2, a1, by omega⟩
  have h2 : Good b n := ⟨n1, n2, b1, by omega⟩
  have hta := two_ans a b m n x y c z s h1 h2 (by rw [← HG.out]; exact HZ.out) h
  rw [← HG.out] at hta
  clear h hk
  by_cases hg1 : g = 1
  case neg =>
    have t1 : (g != 1) = true := by rw [bne_iff_ne]; exact hg1
    have hbound : -100 ≤ a - b ∧ a - b ≤ 100 := by omega
    clear hg1
    rcases hta with ⟨rfl, hnd⟩ | ⟨rfl, hdv, _⟩
    · have hne : ((a - b).tmod g == 0) = false := by
        rw [beq_eq_false_iff_ne]
        exact fun h => hnd (Int.dvd_of_tmod_eq_zero h)
      rw [errOf_ne 6 (by decide)]
      clear hnd
      go_wp2_with fail
      have g0 : (g == 0) = false := by rw [beq_eq_false_iff_ne]; omega
      have g0' : ¬ g = 0 := by omega
      have w1 : IntKind.i64.wrap (a - b) = a - b := IntWalk.i64_in _ (by omega)
      go_region_held3 (fun _ => True) (trivial)
        ((go_at_call 7; refine (errorK_hit 6 6 _ ?_ (by omega) true rfl).mono ?_; (· (first | exact laid_kp HL.out K3.out | exact laid_kp HL.out (Below.drew K3.out))); rintro e w4 ⟨rfl, hk4⟩))
      go_wp2_with fail
      go_ret
      exact ⟨rfl, by first | exact K3.out.trans hk4 | exact Kp.trans (Below.drew K3.out) hk4⟩
    · have hne : ((a - b).tmod g == 0) = true := by
        rw [beq_iff_eq]
        exact Int.tmod_eq_zero_of_dvd hdv
      rw [errOf_zero]
      clear hdv
      go_wp2_with fail
      go_quiet (fail)
      go_wp2_with fail
      go_ret
      exact ⟨rfl, K3.out.drewN _⟩
  subst hg1
  rcases hta with ⟨rfl, hnd⟩ | ⟨rfl, hdv, hs⟩
  · exact absurd (Int.one_dvd _) hnd
  obtain ⟨rfl, hz⟩ := two_coprime a b m n x y z s h1 h2 HZ.out HG.out.symm hs
  rw [errOf_zero]
  have p0 : 0 ≤ a * n := Int.mul_nonneg a1 (by omega)
  have p1 : a * n ≤ 100 * 100 := Int.mul_le_mul (by omega) n2 (by omega) (by omega)
  have p2 : 0 ≤ b * m := Int.mul_nonneg b1 (by omega)
  have p3 : b * m ≤ 100 * 100 := Int.mul_le_mul (by omega) m2 (by omega) (by omega)
  have p4 : 0 ≤ b * m * x := Int.mul_nonneg p2 z2
  have p5 : b * m * x ≤ 100 * 100 * 100 := Int.mul_le_mul p3 x1 z2 (by omega)
  have p6 : 1 * 1 ≤ m * n := Int.mul_le_mul m1 n1 (by omega) (by omega)
  have p7 : m * n ≤ 100 * 100 := Int.mul_le_mul m2 n2 (by omega) (by omega)
  have p8 : -1000000 ≤ a * n * y ∧ a * n * y ≤ 1000000 := by
    have e : (a * n * y).natAbs ≤ 10000 * 100 := by
      rw [Int.natAbs_mul]
      exact Nat.mul_le_mul (by omega) (by omega)
    omega
  obtain ⟨f1, f2⟩ := Num.tmod_fix (a * n * y + b * m * x) (m * n) (by omega)
  obtain ⟨f3, f4⟩ := Num.tmod_bound (a * n * y + b * m * x) (m * n) (by omega)
  rw [← hz] at f1 f2
  have F1 := Lib.hid f1
  have F2 := Lib.hid f2
  obtain ⟨p81, p82⟩ := p8
  clear f1 f2 hz hs hdv
  by_cases hneg : (a * n * y + b * m * x).tmod (m * n) < 0
  · have E := Lib.hid (F1.out hneg)
    go_wp2_with fail
    go_ret
    exact ⟨by rw [E.out]; simp, K3.out⟩
  · have E := Lib.hid (F2.out (by omega))
    go_wp2_with fail
    go_ret
    exact ⟨by rw [E.out]; simp, K3.out⟩

end Go.Proofs.YteiblaajkakmdaaDoor
