/- Contracts of the small functions of package euclid: size, sign, residue, allowed, divisor; nothing is assumed but the bounds that each one names. -/
import Derived.Test.YtldkamhknaflbaaRows
import Derived.WalkKit
import Derived.ProofKit
import Derived.OpenShut
import Derived.Handy
import Derived.Deep.QuietTactic
import Derived.BigQuiet
import Derived.Lib.Hide
import Derived.Test.YtldkamhknaflbaaBez
namespace Go.Proofs.Ytldkamhknaflbaa
open Go.ChangeShapes Go.WideShapes Go.ChangeAt Go.RowKit
set_option linter.unusedVariables false

theorem ret_int {k : IntKind} {a b : Int} (h : a = b) : Ending.returned (.int k a) = .returned (.int k b) := by rw [h]
theorem wrap64_id {n : Int} (h : -1000000000000000000 ≤ n ∧ n ≤ 1000000000000000000) : wrap64 n = n := by unfold wrap64; omega
theorem ret_bool {a b : Bool} (h : a = b) : Ending.returned (.bool a) = .returned (.bool b) := by rw [h]

/-- The world as it was, but for answers that have been drawn. -/
def Drew (w w' : World) : Prop := ∃ n, w' = w.drewN n
theorem Drew.refl (w : World) : Drew w w := ⟨0, rfl⟩
theorem Drew.same {w w' : World} (h : w = w') : Drew w w' := ⟨0, h.symm⟩
theorem Drew.more {w w' : World} (h : Drew w w') (n : Nat) : Drew w (w'.drewN n) := by
  obtain ⟨m, rfl⟩ := h
  exact ⟨m + n, World.drewN_drewN _ _ _⟩
theorem Drew.trans {w w1 w2 : World} (h : Drew w w1) (h' : Drew w1 w2) : Drew w w2 := by
  obtain ⟨m, rfl⟩ := h'
  exact h.more m
theorem Drew.grown {w w' : World} (h : Drew w w') : Grown w w' := by
  obtain ⟨n, rfl⟩ := h
  induction n with
  | zero => exact Grown.refl _
  | succ n ih => exact Grown.drew ih

/-- A call that answers some number of which P holds, and turns nothing. -/
def SomeInt (P : Int → Prop) (w : World) (e : Ending) (w' : World) : Prop := ∃ n : Int, P n ∧ e = .returned (.int .i64 n) ∧ Drew w w'

theorem size_any (n : Int) (w : World) (h1 : -1000000 ≤ n) (h2 : n ≤ 1000000) :
    Calls Try.prog 67 #[.int .i64 n] w fun e w' => e = .returned (.int .i64 (n.natAbs : Int)) ∧ w = w' := by
  by_cases h : n < 0
  · have e : ((n.natAbs : Nat) : Int) = -n := by omega
    have E := Lib.hid e
    clear e
    go_enter Try.func67, Try.ntmps67
    go_wp2
    go_ret
    exact ⟨ret_int E.out.symm, rfl⟩
  · have e : ((n.natAbs : Nat) : Int) = n := by omega
    have E := Lib.hid e
    clear e
    go_enter Try.func67, Try.ntmps67
    go_wp2
    go_ret
    exact ⟨ret_int E.out.symm, rfl⟩

theorem sign_any (n : Int) (w : World) :
    Calls Try.prog 64 #[.int .i64 n] w fun e w' => e = .returned (.int .i64 n.sign) ∧ w = w' := by
  by_cases h : 0 < n
  · have E := Lib.hid (Int.sign_eq_one_of_pos h)
    go_enter Try.func64, Try.ntmps64
    go_wp2
    go_ret
    exact ⟨ret_int E.out.symm, rfl⟩
  · by_cases h' : n < 0
    · have E := Lib.hid (Int.sign_eq_neg_one_of_neg h')
      go_enter Try.func64, Try.ntmps64
      go_wp2
      go_ret
      exact ⟨ret_int E.out.symm, rfl⟩
    · obtain rfl : n = 0 := by omega
      go_enter Try.func64, Try.ntmps64
      go_wp2
      go_ret
      exact ⟨rfl, rfl⟩

theorem allowed_yes (n : Int) (w : World) (h1 : -1000000 ≤ n) (h2 : n ≤ 1000000) :
    Calls Try.prog 68 #[.int .i64 n] w fun e w' => e = .returned (.bool true) ∧ w = w' := by
  go_enter Try.func68, Try.ntmps68
  go_wp2
  go_ret
  exact ⟨rfl, rfl⟩

theorem allowed_no (n : Int) (w : World) (h : n < -1000000 ∨ 1000000 < n) :
    Calls Try.prog 68 #[.int .i64 n] w fun e w' => e = .returned (.bool false) ∧ w = w' := by
  by_cases h' : n < -1000000
  · go_enter Try.func68, Try.ntmps68
    go_wp2
    go_ret
    exact ⟨rfl, rfl⟩
  · have h1 : -1000000 ≤ n := by omega
    have h2 : 1000000 < n := by omega
    clear h h'
    go_enter Try.func68, Try.ntmps68
    go_wp2
    go_ret
    exact ⟨ret_bool (decide_eq_false (by omega)), rfl⟩

theorem residue_any (n m : Int) (w : World) (h1 : -1000000 ≤ n) (h2 : n ≤ 1000000) (h3 : 1 ≤ m) (h4 : m ≤ 1000000) :
    Calls Try.prog 65 #[.int .i64 n, .int .i64 m] w fun e w' => e = .returned (.int .i64 (n % m)) ∧ w = w' := by
  obtain ⟨f1, f2⟩ := Num.tmod_fix n m (by omega)
  have b1 : n.tmod m < m := by
    have := Int.natAbs_tmod n m
    have := Nat.mod_lt n.natAbs (show 0 < m.natAbs by omega)
    omega
  have b2 : -m < n.tmod m := by
    have := Int.natAbs_tmod n m
    have := Nat.mod_lt n.natAbs (show 0 < m.natAbs by omega)
    omega
  have F1 := Lib.hid f1
  have F2 := Lib.hid f2
  clear f1 f2
  by_cases h : n.tmod m < 0
  · go_enter Try.func65, Try.ntmps65
    go_wp2
    go_ret
    exact ⟨ret_int (F1.out h), rfl⟩
  · have h' : 0 ≤ n.tmod m := by omega
    clear h
    go_enter Try.func65, Try.ntmps65
    go_wp2
    go_ret
    exact ⟨ret_int (F2.out h'), rfl⟩

set_option maxHeartbeats 400000 in
theorem divisor_any (a b : Nat) (w : World) (h1 : a ≤ 1000000) (h2 : b ≤ 1000000) :
    Calls Try.prog 69 #[.int .i64 (a : Int), .int .i64 (b : Int)] w fun e w' => e = .returned (.int .i64 (Nat.gcd a b : Nat)) ∧ Drew w w' := by
  go_enter Try.func69, Try.ntmps69
  go_wp2
  go_loopw [0, 1] (fun u v wr => ∃ x y : Nat, x ≤ 1000000 ∧ y ≤ 1000000 ∧ Nat.gcd x y = Nat.gcd a b ∧ u = .int .i64 (x : Int) ∧ v = .int .i64 (y : Int) ∧ Drew w wr) (fun _ v _ => (intOf v).toNat)
  case atStart => exact ⟨a, b, h1, h2, rfl, rfl, rfl, Drew.refl _⟩
  case round =>
    obtain ⟨x, y, hx, hy, hg, rfl, rfl, hw⟩ := hrel
    have G := Lib.hid hg
    have W := Lib.hid hw
    clear hg hw
    by_cases h : y = 0
    · subst h
      go_wp2
      go_ret
      exact ⟨ret_int (by rw [← G.out, Nat.gcd_zero_right]), W.out⟩
    · have h0 : 0 < y := by omega
      have hm := Nat.mod_lt x h0
      have hne : ((y : Int) != 0) = true := by rw [bne_iff_ne]; omega
      clear h
      go_wp2
      go_quiet (fail)
      go_wp2
      go_roundw
      case rel => exact ⟨y, x % y, hy, by omega, by rw [Num.gcd_step]; exact G.out, rfl, by go_num, W.out.more _⟩
      case measure => simp [intOf]; omega

set_option maxHeartbeats 800000 in
theorem factor_any (a b : Int) (w : World) (h1 : -1000000 ≤ a) (h2 : a ≤ 1000000) (h3 : -1000000 ≤ b) (h4 : b ≤ 1000000) (h0 : b ≠ 0) :
    Calls Try.prog 66 #[.int .i64 a, .int .i64 b] w fun e w' => SomeInt (Num.FacOk a b) w e w' := by
  have hb : b.natAbs ≤ 1000000 := by omega
  have hs := Num.fac_start a b (by omega) hb h0
  have S := Lib.hid hs
  clear hs h0
  go_enter Try.func66, Try.ntmps66
  go_wp2
  go_loop [5, 6, 7, 8] (fun u p v q => ∃ a0 x0 a1 x1 : Int, Num.FacInv a b a0 x0 a1 x1 ∧ u = .int .i64 a0 ∧ p = .int .i64 x0 ∧ v = .int .i64 a1 ∧ q = .int .i64 x1) (fun _ _ v _ => (intOf v).natAbs)
  case atStart => exact ⟨a, 1, b, 0, S.out, rfl, rfl, rfl, rfl⟩
  case round =>
    obtain ⟨a0, x0, a1, x1, hi, rfl, rfl, rfl, rfl⟩ := hrel
    have m0 : a0.natAbs ≤ 1000000 := hi.2.2.2.2.2.2.1
    have m1 : a1.natAbs ≤ 1000000 := hi.2.2.2.2.2.2.2
    have m2 : x0.natAbs ≤ 1000000 := Nat.le_trans hi.2.2.2.2.1 hb
    have m3 : x1.natAbs ≤ 1000000 := Nat.le_trans hi.2.2.2.2.2.1 hb
    have p0 : -1000000 ≤ a0 ∧ a0 ≤ 1000000 := by omega
    have p1 : -1000000 ≤ a1 ∧ a1 ≤ 1000000 := by omega
    have p2 : -1000000 ≤ x0 ∧ x0 ≤ 1000000 := by omega
    have p3 : -1000000 ≤ x1 ∧ x1 ≤ 1000000 := by omega
    by_cases h : a1 = 0
    · subst h
      by_cases hn : a0 < 0
      · have E := Lib.hid (Num.fac_end_neg a b a0 x0 x1 hi hn)
        clear hi
        go_wp2
        go_ret
        exact ⟨_, E.out, ret_int rfl, Drew.refl _⟩
      · have E := Lib.hid (Num.fac_end_pos a b a0 x0 x1 hi (by omega))
        clear hi
        go_wp2
        go_ret
        exact ⟨_, E.out, ret_int rfl, Drew.refl _⟩
    · obtain ⟨hi', q0, q1, q2⟩ := Num.fac_step a b a0 x0 a1 x1 hi h hb
      have hne : (a1 != 0) = true := by rw [bne_iff_ne]; exact h
      have hlt : (a0 - a0.tdiv a1 * a1).natAbs < a1.natAbs := by rw [Num.int_split, Int.natAbs_tmod]; exact Nat.mod_lt _ (by omega)
      have HI := Lib.hid hi'
      have HL := Lib.hid hlt
      have r0 : -1000000 ≤ a0.tdiv a1 ∧ a0.tdiv a1 ≤ 1000000 := by omega
      have r1 : -1000000 ≤ a0.tdiv a1 * a1 ∧ a0.tdiv a1 * a1 ≤ 1000000 := by omega
      have r2 : -1000000 ≤ a0.tdiv a1 * x1 ∧ a0.tdiv a1 * x1 ≤ 1000000 := by omega
      clear hi hi' hlt m0 m1 m2 m3 q0 q1 q2
      go_wp2
      go_round
      case rel => exact ⟨_, _, _, _, HI.out, rfl, rfl, rfl, rfl⟩
      case measure => simp [intOf]; exact HL.out

end Go.Proofs.Ytldkamhknaflbaa
