/- Contracts of the document's answer: floor, Short. -/
import Derived.Test.YtlnehhhlpdaebaaDoorLtC1
import Derived.Test.YtlnehhhlpdaebaaDoorGcdZ
import Derived.LoopN
namespace Go.Proofs.YtlnehhhlpdaebaaDoor
open Go.ChangeShapes Go.WideShapes Go.ChangeAt Go.RowKit
open Lag (V nn ip ar cb)
set_option linter.unusedVariables false

theorem fl_neg {a b : Int} (hb : 0 < b) : -((b - 1 - a) / b) = a / b := by
  have h1 := Int.mul_ediv_add_emod a b
  have h2 := Int.emod_nonneg a (show b ≠ 0 by omega)
  have h3 := Int.emod_lt_of_pos a hb
  obtain ⟨q, hq⟩ : ∃ q, q = a / b := ⟨_, rfl⟩
  obtain ⟨r, hr⟩ : ∃ r, r = a % b := ⟨_, rfl⟩
  rw [← hq, ← hr] at h1
  rw [← hr] at h2 h3
  rw [← hq, show b - 1 - a = (b - 1 - r) + b * (-q) by grind, Int.add_mul_ediv_left _ _ (show b ≠ 0 by omega), Int.ediv_eq_zero_of_lt (by omega) (by omega)]
  omega
theorem fl_le {a b M : Int} (hb : 0 < b) (h1 : -M ≤ a) (h2 : a ≤ M) (hM : 0 ≤ M) : -M ≤ a / b ∧ a / b ≤ M := by
  constructor
  · exact Int.le_ediv_of_mul_le hb (by
      have := Int.mul_le_mul_of_nonneg_left (show 1 ≤ b by omega) hM
      have e : -M * b = -(M * b) := by grind
      omega)
  · exact Int.ediv_le_of_le_mul hb (by
      have := Int.mul_le_mul_of_nonneg_left (show 1 ≤ b by omega) hM
      omega)
theorem floor_any (a b : Int) (w : World) (hb : 0 < b) (h1 : -100000000 ≤ a) (h2 : a ≤ 100000000) (h3 : b ≤ 100000000) :
    Calls Tryd.prog 18 #[.int .i64 a, .int .i64 b] w fun e w' => e = .returned (.int .i64 (a / b)) ∧ w = w' := by
  have e0 : (b == 0) = false := by rw [beq_eq_false_iff_ne]; omega
  by_cases hs : 0 ≤ a
  · have hq := fl_le (M := 100000000) hb h1 h2 (by decide)
    have t1 : a.tdiv b = a / b := Int.tdiv_eq_ediv_of_nonneg hs
    have w1 : IntKind.i64.wrap (a / b) = a / b := IntWalk.i64_in _ (by omega)
    have w2 : wrap64 (a / b) = a / b := wrap64_id (by omega)
    have E := Lib.hid (show a / b = a / b from rfl)
    have W2 := Lib.hid w2
    clear hq
    go_enter Tryd.func18, Tryd.ntmps18
    go_wp2_with fail
    go_ret
    exact ⟨ret_int (by first | rfl | exact W2.out), rfl⟩
  · have hq := fl_le (a := b - 1 - a) (M := 200000000) hb (by omega) (by omega) (by decide)
    have t1 : (b - 1 - a).tdiv b = (b - 1 - a) / b := Int.tdiv_eq_ediv_of_nonneg (by omega)
    have E := Lib.hid (fl_neg (a := a) hb)
    obtain ⟨m, hm⟩ : ∃ m, m = b - 1 - a := ⟨_, rfl⟩
    rw [← hm] at hq t1 E
    have v1 : IntKind.i64.wrap (b - 1) = b - 1 := IntWalk.i64_in _ (by omega)
    have v2 : IntKind.i64.wrap (b - 1 - a) = m := by rw [hm]; exact IntWalk.i64_in _ (by omega)
    have w1 : IntKind.i64.wrap (m / b) = m / b := IntWalk.i64_in _ (by omega)
    have w2 : wrap64 (m / b) = m / b := wrap64_id (by omega)
    have w3 : IntKind.i64.wrap (-(m / b)) = -(m / b) := IntWalk.i64_in _ (by omega)
    have w4 : wrap64 (-(m / b)) = -(m / b) := wrap64_id (by omega)
    have W2 := Lib.hid w2
    have W4 := Lib.hid w4
    have m0 : 0 ≤ m := by omega
    clear hq hm
    go_enter Tryd.func18, Tryd.ntmps18
    go_wp2_with fail
    go_ret
    exact ⟨ret_int (by first | exact E.out | (rw [W2.out]; exact E.out) | (rw [W4.out]; exact E.out) | (rw [W2.out, W4.out]; exact E.out)), rfl⟩

def sme (a b : Int) : Nat := 2 * a.toNat + if -a ≤ b ∧ b ≤ a then 0 else 1
set_option maxHeartbeats 3200000 in
theorem rShort_any {u v : V} (a b c : Int) (w : World) (hf : Lag.Fo u v a b c) (h0 : ar u v ≠ 0) (ha : a ≤ 2000000) (hc : c ≤ 2000000) :
    Calls Tryd.prog 7 #[.int .i64 a, .int .i64 b, .int .i64 c] w fun e w' => ∃ p q : Int, e = .returned (.tuple #[.int .i64 p, .int .i64 q]) ∧ Lag.GotS u v p q ∧ Kp w w' := by
  have HF := Lib.hid hf
  have H0 := Lib.hid h0
  clear hf h0
  go_enter Tryd.func7, Tryd.ntmps7
  go_wp2_with fail
  go_loopw [0, 1, 2] (fun s0 s1 s2 wr => ∃ a b c : Int, s0 = .int .i64 a ∧ s1 = .int .i64 b ∧ s2 = .int .i64 c ∧ Lag.Fo u v a b c ∧ a ≤ 2000000 ∧ c ≤ 2000000 ∧ Kp w wr) (fun s0 s1 _ _ => sme (intOf s0) (intOf s1))
  case atStart => exact ⟨a, b, c, rfl, rfl, rfl, HF.out, ha, hc, Kp.rfl' w⟩
  case round =>
    clear HF ha hc a b c
    obtain ⟨a, b, c, rfl, rfl, rfl, hf, ha, hc, kk⟩ := hrel
    have KK := Lib.hid kk
    clear kk
    obtain ⟨a0, c0, hd⟩ := hf.facts H0.out
    have HF := Lib.hid hf
    by_cases h1 : c < a
    · have ME := Lib.hid (show sme c b < sme a b by unfold sme; split <;> split <;> omega)
      have FS := Lib.hid hf.swap
      clear hf hd
      go_wp2_with fail
      go_roundw
      case rel => exact ⟨c, b, a, rfl, rfl, rfl, FS.out, hc, ha, by first | exact KK.out | exact KK.out.drewN 1⟩
      case measure => exact ME.out
    · by_cases h2 : -a ≤ b ∧ b ≤ a
      · have G := Lib.hid (hf.got H0.out (by omega) h2.2 h2.1 hc)
        have AB := Lib.hid (fun w => absN_any b w (by omega) (by omega))
        have e1 : decide (a < (b.natAbs : Int)) = false := decide_eq_false (by omega)
        have e2 : decide (c < a) = false := decide_eq_false h1
        clear hf hd h2
        generalize (b.natAbs : Int) = m at *
        go_wp2_with fail
        refine (AB.out _).mono ?_; rintro e w1 ⟨rfl, rfl⟩
        go_wp2_with fail
        go_ret2
        exact ⟨a, c, rfl, G.out, by first | exact KK.out | exact KK.out.drewN 1⟩
      · have s := Lag.less_small (M := 2000000) a0 hd (by
          have := Lag.sq_ge H0.out; omega) ha hc (by decide) h2
        have nz := Lag.near_zero (b := b) a0
        have FL := Lib.hid (hf.less ((b + a) / (2 * a)))
        obtain ⟨s1, s2, s3, s4, s5, s6, s7, s8⟩ := s
        have F := Lib.hid (fun w => floor_any (b + a) (2 * a) w (by omega) (by omega) (by omega) (by omega))
        have AB := Lib.hid (fun w => absN_any b w (by omega) (by omega))
        have e1 : decide (a < (b.natAbs : Int)) = true := decide_eq_true (by omega)
        have e2 : decide (c < a) = false := decide_eq_false h1
        obtain ⟨k, hk⟩ : ∃ k, k = (b + a) / (2 * a) := ⟨_, rfl⟩
        rw [← hk] at s2 s3 s4 s5 s6 s7 s8 nz FL F
        have ME := Lib.hid (show sme a (b - 2 * k * a) < sme a b by
          unfold sme
          rw [if_pos nz, if_neg h2]; omega)
        have w1 : IntKind.i64.wrap (b + a) = b + a := IntWalk.i64_in _ (by omega)
        have w2 : IntKind.i64.wrap (2 * a) = 2 * a := IntWalk.i64_in _ (by omega)
        have w3 : IntKind.i64.wrap (k * b) = k * b := IntWalk.i64_in _ (by omega)
        have w4 : IntKind.i64.wrap (c - k * b) = c - k * b := IntWalk.i64_in _ (by omega)
        have w5 : IntKind.i64.wrap (k * k) = k * k := IntWalk.i64_in _ (by omega)
        have w6 : IntKind.i64.wrap (k * k * a) = k * k * a := IntWalk.i64_in _ (by omega)
        have w7 : IntKind.i64.wrap (c - k * b + k * k * a) = c - k * b + k * k * a := IntWalk.i64_in _ (by omega)
        have w8 : IntKind.i64.wrap (2 * k) = 2 * k := IntWalk.i64_in _ (by omega)
        have w9 : IntKind.i64.wrap (2 * k * a) = 2 * k * a := IntWalk.i64_in _ (by omega)
        have w10 : IntKind.i64.wrap (b - 2 * k * a) = b - 2 * k * a := IntWalk.i64_in _ (by omega)
        have HC := Lib.hid (show c - k * b + k * k * a ≤ 2000000 by omega)
        clear hf hd h2 s1 s2 s3 s4 s5 s6 s7 s8 nz hk
        generalize (b.natAbs : Int) = m at *
        go_wp2_with fail
        refine (AB.out _).mono ?_; rintro e v1 ⟨rfl, rfl⟩
        go_wp2_with fail
        refine (F.out _).mono ?_; rintro e v1 ⟨rfl, rfl⟩
        go_wp2_with fail
        go_roundw
        case rel => exact ⟨a, b - 2 * k * a, c - k * b + k * k * a, rfl, rfl, rfl, FL.out, ha, HC.out, by first | exact KK.out | exact KK.out.drewN 1⟩
        case measure => exact ME.out
end Go.Proofs.YtlnehhhlpdaebaaDoor
