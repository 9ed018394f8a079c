/- The law RecurFib. -/
import Derived.Test.YtknpcdnlknlagaaRcFact
import Derived.Test.YtknpcdnlknlagaaLawIn
import Derived.Test.YtknpcdnlknlagaaRefG
import Derived.BigQuiet
namespace Go.Proofs.Ytknpcdnlknlagaa
open Go.ChangeShapes Go.WideShapes Go.ChangeAt Go.RowKit
set_option linter.unusedVariables false

/-- The numbers of the row from 0 and 1. -/
def fb (i : Nat) : Int := (pairAt 0 1 i).1
theorem fib21 : rowF 21 (Mx.sq 2 ones2 nought1) = Mx.row 21 fb := fib_row nought1 (a := 0) (b := 1) rfl rfl 21
theorem fb_in : AllIn (Mx.row 21 fb) 0 6765 := fun k hk => by
  rw [Mx.len_row] at hk
  rw [Mx.row_at _ _ _ hk]
  have h : ∀ k : Fin 21, 0 ≤ fb k.val ∧ fb k.val ≤ 6765 := by decide +kernel
  exact h ⟨k, hk⟩
theorem fb_bound {k : Nat} (hk : k < 21) : 0 ≤ fb k ∧ fb k ≤ 6765 := by
  have h : ∀ k : Fin 21, 0 ≤ fb k.val ∧ fb k.val ≤ 6765 := by decide +kernel
  exact h ⟨k, hk⟩
/-- Cassini. -/
theorem fb_cassini {n : Nat} (h : n < 19) : fb n * fb (n + 2) - fb (n + 1) * fb (n + 1) = if (n + 1) % 2 = 1 then -1 else 1 := by
  have h' : ∀ n : Fin 19, fb n.val * fb (n.val + 2) - fb (n.val + 1) * fb (n.val + 1) = if (n.val + 1) % 2 = 1 then -1 else 1 := by decide +kernel
  exact h' ⟨n, h⟩
/-- The greatest common divisor of two of them stands at the greatest common divisor of their places. -/
theorem fb_gcd {n m : Nat} (h : n < 20) (h2 : m < 20) : (Int.gcd (fb n) (fb m) : Int) = fb (Nat.gcd n m) := by
  have h' : ∀ n m : Fin 20, (Int.gcd (fb n.val) (fb m.val) : Int) = fb (Nat.gcd n.val m.val) := by decide +kernel
  exact h' ⟨n, h⟩ ⟨m, h2⟩

set_option maxRecDepth 100000 in
set_option maxHeartbeats 3200000 in
theorem fib_main (n m : Nat) (w : World) (hn : 1 ≤ n ∧ n ≤ 19) (hm : 1 ≤ m ∧ m ≤ 19) :
    Calls Try.prog 5 #[.int .i64 (n : Int), .int .i64 (m : Int)] w fun e w' => e = .returned (.bool true) ∧ Kp w w' := by
  have FA := Lib.hid (recurFact_any w)
  have R1 := Lib.hid (fun (w1 : World) (g1 g2 : Nat) (h1 : Lies w1 (some ⟨g1, 0, none⟩) [1, 1]) (h2 : Lies w1 (some ⟨g2, 0, none⟩) [0, 1]) => Row_rc rc_fib (some ⟨g1, 0, none⟩) (some ⟨g2, 0, none⟩) 2 2 21 w1 h1 h2 (by decide))
  rw [fib21] at R1
  have I1 := Lib.hid (fun w => law3In_any (n : Int) 1 19 w true (by simp; omega))
  have I2 := Lib.hid (fun w => law3In_any (m : Int) 1 19 w true (by simp; omega))
  obtain ⟨n1, hn1⟩ : ∃ n1, n = n1 + 1 := ⟨n - 1, by omega⟩
  obtain ⟨n2, hn2⟩ : ∃ n2, n2 = n + 1 := ⟨_, rfl⟩
  have e1 : (n : Int) - 1 = (n1 : Int) := by omega
  have e2 : (n : Int) + 1 = (n2 : Int) := by omega
  have b0 : n < 21 := by omega
  have b1 : n1 < 21 := by omega
  have b2 : n2 < 21 := by omega
  have b3 : m < 21 := by omega
  have c0 := fb_bound b0
  have c1 := fb_bound b1
  have c2 := fb_bound b2
  have c3 := fb_bound b3
  have p1 : 0 ≤ fb n1 * fb n2 ∧ fb n1 * fb n2 ≤ 45765225 := ⟨Int.mul_nonneg c1.1 c2.1, by have := Int.mul_le_mul c1.2 c2.2 c2.1 (by omega); omega⟩
  have p2 : 0 ≤ fb n * fb n ∧ fb n * fb n ≤ 45765225 := ⟨Int.mul_nonneg c0.1 c0.1, by have := Int.mul_le_mul c0.2 c0.2 c0.1 (by omega); omega⟩
  have hca : fb n1 * fb n2 - fb n * fb n = if n % 2 = 1 then -1 else 1 := by
    have := fb_cassini (n := n1) (by omega)
    rw [← hn1, show n1 + 2 = n2 by omega] at this
    exact this
  obtain ⟨k, hk⟩ : ∃ k, k = Nat.gcd n m := ⟨_, rfl⟩
  have b4 : k < 21 := by have := Nat.gcd_le_left m (show 0 < n by omega); omega
  have G1 := Lib.hid (fun w => refGcd_any 7000 (fb n) (fb m) w (by omega) (by omega) (by omega) (by omega) (by omega))
  have G2 := Lib.hid (fun w => refGcd_any 7000 (n : Int) (m : Int) w (by omega) (by omega) (by omega) (by omega) (by omega))
  rw [fb_gcd (by omega) (by omega), ← hk] at G1
  rw [show (Int.gcd (n : Int) (m : Int) : Nat) = k from hk.symm] at G2
  have CE := Lib.hid (fun (w : World) (g : Nat) (h : Row w g (Mx.row 21 fb)) (j : Nat) (hj : j < 21) => show w.cell? ⟨g, j, none⟩ = some (.int .i64 (fb j)) from by
    have := h.cell j (by rw [Mx.len_row]; exact hj)
    rwa [Mx.row_at _ _ _ hj] at this)
  have HB := Lib.hid (And.intro b0 (And.intro b1 (And.intro b2 (And.intro b3 b4))))
  clear hn hm hk hn1 hn2 c0 c1 c2 c3
  have FBI := Lib.hid fb_in
  have hwp1 : IntKind.i64.wrap (fb n1 * fb n2) = fb n1 * fb n2 := IntWalk.i64_in _ (by omega)
  have hwp2 : IntKind.i64.wrap (fb n * fb n) = fb n * fb n := IntWalk.i64_in _ (by omega)
  have hwn1 : IntKind.i64.wrap ((n : Int) - 1) = (n1 : Int) := by rw [e1]; exact IntWalk.i64_in _ (by omega)
  have hwn2 : IntKind.i64.wrap ((n : Int) + 1) = (n2 : Int) := by rw [e2]; exact IntWalk.i64_in _ (by omega)
  clear p1 p2
  by_cases ho : n % 2 = 1
  · have ht1 : (n : Int).tmod 2 = 1 := by rw [Int.tmod_eq_emod_of_nonneg (by omega)]; omega
    have ht2 : (n : Int) % 2 = 1 := by omega
    rw [if_pos ho] at hca
    clear ho
    have hws : IntKind.i64.wrap (fb n1 * fb n2 - fb n * fb n) = -1 := by rw [hca]; decide
    clear hca
    go_enter Try.func5, Try.ntmps5
    go_wp2_with fail
    refine (FA.out).mono ?_; rintro e w1 ⟨rfl, k1⟩
    have K1 := Lib.hid k1
    clear k1 FA
    go_wp2_with fail
    refine (I1.out _).mono ?_; rintro e w' ⟨rfl, rfl⟩
    go_wp2_with fail
    refine (I2.out _).mono ?_; rintro e w' ⟨rfl, rfl⟩
    go_wp2_with fail
    refine (R1.out _ w1.heap.size (w1.heap.size + 1) ((lies_new w1 _ [1, 1]).keep ((Kp.rfl' _).new _)) (lies_new' (w1.alloc _) _ [0, 1] _ (by simp))).mono ?_; rintro e w2 ⟨g, rfl, hr, _, k2⟩
    have HR := Lib.hid hr
    have K2 := Lib.hid (((K1.out.new _).new _).trans k2)
    have AL := Lib.hid (all_any (some ⟨g, 0, none⟩) (Mx.row 21 fb) 21 0 6765 w2 hr.lies (by rw [Mx.len_row]; decide))
    rw [Mx.len_row] at AL
    clear hr k2
    go_wp2_with fail
    refine (AL.out).mono ?_; rintro e w3 ⟨ht, rfl⟩
    obtain rfl := tells_yes ht FBI.out
    clear ht AL
    have y1 := CE.out _ _ HR.out n1 HB.out.2.1
    have y2 := CE.out _ _ HR.out n2 HB.out.2.2.1
    have y0 := CE.out _ _ HR.out n HB.out.1
    have y3 := CE.out _ _ HR.out m HB.out.2.2.2.1
    have y4 := CE.out _ _ HR.out k HB.out.2.2.2.2
    clear CE HR FBI R1
    generalize fb n1 = x1 at *
    generalize fb n2 = x2 at *
    generalize fb n = x0 at *
    generalize fb m = x3 at *
    generalize fb k = x4 at *
    go_wp2_with fail
    go_quiet ((first
      | (with_reducible exact quiet_here (G1.out _))
      | (with_reducible exact quiet_more (G1.out _))
      | (with_reducible exact quiet_here (G2.out _))
      | (with_reducible exact quiet_more (G2.out _))))
    go_wp2_with fail
    go_ret
    exact ⟨rfl, K2.out.drewN _⟩
  · have ht1 : (n : Int).tmod 2 = 0 := by rw [Int.tmod_eq_emod_of_nonneg (by omega)]; omega
    have ht2 : (n : Int) % 2 = 0 := by omega
    rw [if_neg ho] at hca
    clear ho
    have hws : IntKind.i64.wrap (fb n1 * fb n2 - fb n * fb n) = 1 := by rw [hca]; decide
    clear hca
    go_enter Try.func5, Try.ntmps5
    go_wp2_with fail
    refine (FA.out).mono ?_; rintro e w1 ⟨rfl, k1⟩
    have K1 := Lib.hid k1
    clear k1 FA
    go_wp2_with fail
    refine (I1.out _).mono ?_; rintro e w' ⟨rfl, rfl⟩
    go_wp2_with fail
    refine (I2.out _).mono ?_; rintro e w' ⟨rfl, rfl⟩
    go_wp2_with fail
    refine (R1.out _ w1.heap.size (w1.heap.size + 1) ((lies_new w1 _ [1, 1]).keep ((Kp.rfl' _).new _)) (lies_new' (w1.alloc _) _ [0, 1] _ (by simp))).mono ?_; rintro e w2 ⟨g, rfl, hr, _, k2⟩
    have HR := Lib.hid hr
    have K2 := Lib.hid (((K1.out.new _).new _).trans k2)
    have AL := Lib.hid (all_any (some ⟨g, 0, none⟩) (Mx.row 21 fb) 21 0 6765 w2 hr.lies (by rw [Mx.len_row]; decide))
    rw [Mx.len_row] at AL
    clear hr k2
    go_wp2_with fail
    refine (AL.out).mono ?_; rintro e w3 ⟨ht, rfl⟩
    obtain rfl := tells_yes ht FBI.out
    clear ht AL
    have y1 := CE.out _ _ HR.out n1 HB.out.2.1
    have y2 := CE.out _ _ HR.out n2 HB.out.2.2.1
    have y0 := CE.out _ _ HR.out n HB.out.1
    have y3 := CE.out _ _ HR.out m HB.out.2.2.2.1
    have y4 := CE.out _ _ HR.out k HB.out.2.2.2.2
    clear CE HR FBI R1
    generalize fb n1 = x1 at *
    generalize fb n2 = x2 at *
    generalize fb n = x0 at *
    generalize fb m = x3 at *
    generalize fb k = x4 at *
    go_wp2_with fail
    go_quiet ((first
      | (with_reducible exact quiet_here (G1.out _))
      | (with_reducible exact quiet_more (G1.out _))
      | (with_reducible exact quiet_here (G2.out _))
      | (with_reducible exact quiet_more (G2.out _))))
    go_wp2_with fail
    go_ret
    exact ⟨rfl, K2.out.drewN _⟩

set_option maxRecDepth 100000 in
theorem walk_RecurFib (n m : Int) (w : World) :
    Calls Try.prog 5 #[.int .i64 n, .int .i64 m] w fun e w' => e = .returned (.bool true) ∧ Kp w w' := by
  by_cases h1 : 1 ≤ n ∧ n ≤ 19
  · by_cases h2 : 1 ≤ m ∧ m ≤ 19
    · obtain ⟨a, rfl⟩ := Int.eq_ofNat_of_zero_le (show 0 ≤ n by omega)
      obtain ⟨b, rfl⟩ := Int.eq_ofNat_of_zero_le (show 0 ≤ m by omega)
      exact fib_main a b w (by omega) (by omega)
    · have FA := Lib.hid (recurFact_any w)
      have I1 := Lib.hid (fun w => law3In_any n 1 19 w true (by simp; omega))
      have I2 := Lib.hid (fun w => law3In_any m 1 19 w false (by simp; omega))
      clear h1 h2
      go_enter Try.func5, Try.ntmps5
      go_wp2_with fail
      refine (FA.out).mono ?_; rintro e w1 ⟨rfl, k1⟩
      have K1 := Lib.hid k1
      clear k1 FA
      go_wp2_with fail
      refine (I1.out _).mono ?_; rintro e w' ⟨rfl, rfl⟩
      go_wp2_with fail
      refine (I2.out _).mono ?_; rintro e w' ⟨rfl, rfl⟩
      go_wp2_with fail
      go_ret
      exact ⟨rfl, K1.out⟩
  · have FA := Lib.hid (recurFact_any w)
    have I1 := Lib.hid (fun w => law3In_any n 1 19 w false (by simp; omega))
    clear h1
    go_enter Try.func5, Try.ntmps5
    go_wp2_with fail
    refine (FA.out).mono ?_; rintro e w1 ⟨rfl, k1⟩
    have K1 := Lib.hid k1
    clear k1 FA
    go_wp2_with fail
    refine (I1.out _).mono ?_; rintro e w' ⟨rfl, rfl⟩
    go_wp2_with fail
    go_ret
    exact ⟨rfl, K1.out⟩

end Go.Proofs.Ytknpcdnlknlagaa
