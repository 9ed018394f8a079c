/- The document's Value and Sign of whole factors. -/
import Derived.Test.YtbdpcpodmmhjaaaDoorSuFact
namespace Go.Proofs.YtbdpcpodmmhjaaaDoor
open Go.ChangeShapes Go.WideShapes Go.ChangeAt Go.RowKit
set_option linter.unusedVariables false

theorem rSign_any (z : Int) (w : World) : Calls Tryd.prog 21 #[.int .i64 z] w fun e w' => e = .returned (.int .i64 (Stu.sgz z)) ∧ w = w' := by
  rcases Stu.sgz_some z with ⟨h1, h2⟩ | ⟨h1, h2⟩ | ⟨h1, h2⟩
  · rw [h1]
    clear h1
    go_enter Tryd.func21, Tryd.ntmps21
    go_wp2
    go_ret
    exact ⟨rfl, rfl⟩
  · rw [h1]
    have h3 : ¬ 0 < z := by omega
    clear h1
    go_enter Tryd.func21, Tryd.ntmps21
    go_wp2
    go_ret
    exact ⟨rfl, rfl⟩
  · subst h2
    clear h1
    go_enter Tryd.func21, Tryd.ntmps21
    go_wp2
    go_ret
    exact ⟨rfl, rfl⟩

/-- Where the sum of the powers stands. -/
theorem pow_at {x p : Int} {n : Nat} (hp : -(100 ^ n) ≤ p ∧ p ≤ 100 ^ n) (hx : -100 ≤ x ∧ x ≤ 100) : -(100 ^ (n + 1)) ≤ p * x ∧ p * x ≤ (100 : Int) ^ (n + 1) := by
  rw [Int.pow_succ]; exact Stu.prod_bd hp hx
theorem pow100 {n : Nat} (h : n ≤ 4) : (100 : Int) ^ n ≤ 100000000 := by
  rcases show n = 0 ∨ n = 1 ∨ n = 2 ∨ n = 3 ∨ n = 4 by omega with rfl | rfl | rfl | rfl | rfl <;> decide
theorem pow_lt {n : Nat} : (100 : Int) ^ n ≤ 200 ^ n := by
  induction n with
  | zero => decide
  | succ n ih => rw [Int.pow_succ, Int.pow_succ]; have := pow200 n; omega
theorem sum_at {a p sm B : Int} {k : Nat} (hB : 0 ≤ B) (ha : -B ≤ a ∧ a ≤ B) (hp : -(100 ^ k) ≤ p ∧ p ≤ 100 ^ k) (hs : -(B * 200 ^ k) ≤ sm ∧ sm ≤ B * 200 ^ k) :
    (-(B * 200 ^ k) ≤ a * p ∧ a * p ≤ B * 200 ^ k) ∧ (-(B * 200 ^ (k + 1)) ≤ sm + a * p ∧ sm + a * p ≤ B * 200 ^ (k + 1)) := by
  have m := Stu.prod_bd ha hp
  have l := Int.mul_le_mul_of_nonneg_left (pow_lt (n := k)) hB
  rw [Int.pow_succ, ← Int.mul_assoc]
  have z := Int.mul_nonneg hB (show (0 : Int) ≤ 200 ^ k by have := pow200 k; omega)
  generalize B * 200 ^ k = M at *
  generalize B * 100 ^ k = M' at *
  generalize a * p = q at *
  omega
theorem fit_at {B : Int} {n k : Nat} (hB : 0 ≤ B) (h : B * 200 ^ n ≤ 4000000000000000000) (hk : k ≤ n) : B * 200 ^ k ≤ 4000000000000000000 := by
  have := Int.mul_le_mul_of_nonneg_left (pow200_le hk) hB
  omega

set_option maxHeartbeats 1600000 in
theorem rVal_any (A : Option Addr) (l : List Int) (n c : Nat) (x : Int) (w : World) (hl : Lies w A l) (hn : l.length = n) (sz : Stu.Sz l) (hx : -100 ≤ x ∧ x ≤ 100) :
    Calls Tryd.prog 25 #[.slice A n c, .int .i64 x] w fun e w' => e = .returned (.int .i64 (Stu.hv l x)) ∧ w = w' := by
  obtain ⟨h4, B, hB, hb, hS⟩ := sz
  have HL := Lib.hid hl
  have HN := Lib.hid hn
  rw [hn] at hS h4
  have AT := Lib.hid (fun k hk => bn_at hb (k := k) hk)
  have HD := Lib.hid (hv_drop x l)
  have FT := Lib.hid (fun k (hk : k ≤ n) => fit_at hB hS hk)
  have HX := Lib.hid hx
  have HE := Lib.hid (hv_end x (l := l) (k := n) (by omega))
  obtain ⟨V, hV⟩ : ∃ V, V = Stu.hv l x := ⟨_, rfl⟩
  rw [← hV]
  have HV := Lib.hid hV
  clear hl hn hb hS hx hV
  go_enter Tryd.func25, Tryd.ntmps25
  go_wp2_with fail
  go_loop [5, 6, 7] (fun s p i => ∃ (k : Nat) (sm q : Int), k ≤ n ∧ i = .int .i64 (k : Int) ∧ s = .int .i64 sm ∧ p = .int .i64 q ∧ V = sm + q * Stu.hv (l.drop k) x ∧ (-(100 ^ k) ≤ q ∧ q ≤ 100 ^ k) ∧ (-(B * 200 ^ k) ≤ sm ∧ sm ≤ B * 200 ^ k)) (fun _ _ i => n - (intOf i).toNat)
  case atStart => exact ⟨0, 0, 1, Nat.zero_le _, rfl, rfl, rfl, by rw [HV.out, List.drop_zero]; omega, by simp, by simp; omega⟩
  case round =>
    obtain ⟨k, sm, q, hk, rfl, rfl, rfl, hv, hq, hs⟩ := hrel
    by_cases hlt : k < n
    · obtain ⟨ad, rfl, _, x1⟩ := HL.out k (by have := HN.out; omega)
      obtain ⟨b1, b2⟩ := sum_at hB (AT.out k (by have := HN.out; omega)) hq hs
      have f1 := FT.out k hk
      have f2 := FT.out (k + 1) hlt
      have b3 := pow_at hq HX.out
      have f3 := pow100 (n := k + 1) (by omega)
      have E := Lib.hid (show V = (sm + l.getD k 0 * q) + q * x * Stu.hv (l.drop (k + 1)) x by rw [hv, HD.out k (by have := HN.out; omega)]; grind)
      obtain ⟨a, haa⟩ : ∃ a, a = l.getD k 0 := ⟨_, rfl⟩
      rw [← haa] at x1 b1 b2 E
      have hw1 : IntKind.i64.wrap (a * q) = a * q := IntWalk.i64_in _ (by omega)
      have hw2 : IntKind.i64.wrap (sm + a * q) = sm + a * q := IntWalk.i64_in _ (by omega)
      have hw3 : IntKind.i64.wrap (q * x) = q * x := IntWalk.i64_in _ (by omega)
      have B2 := Lib.hid b2
      have B3 := Lib.hid b3
      clear hv hq hs b1 b2 b3 f1 f2 f3 haa
      go_wp2_with fail
      go_round
      case rel => exact ⟨k + 1, _, _, by omega, by go_num, rfl, rfl, E.out, B3.out, B2.out⟩
      case measure => simp [intOf]; omega
    · obtain rfl : k = n := by omega
      have E := Lib.hid (show V = sm by rw [hv, HE.out, Int.mul_zero, Int.add_zero])
      clear hv hq hs
      go_wp2_with fail
      go_ret
      exact ⟨by rw [E.out]; rfl, rfl⟩

end Go.Proofs.YtbdpcpodmmhjaaaDoor
