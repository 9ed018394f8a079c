/- The laws DefiniteAbove and DefiniteMiddle. -/
import Derived.Test.YtapcnlbcookldaaDfFact
namespace Go.Proofs.Ytapcnlbcookldaa
open Go.ChangeShapes Go.WideShapes Go.ChangeAt Go.RowKit Go.Shelf
set_option linter.unusedVariables false

set_option maxRecDepth 100000 in
set_option maxHeartbeats 3200000 in
theorem above_ok (A X : Option Addr) (m : List (List Int)) (x : Nat → Nat → Int) (v : Nat → Int) (n c d : Nat) (w : World) (ha : LiesM w A m) (s : Sf n x m) (hx : Lies w X (Mx.row n v)) (hv : ∀ i, i < n → -100 ≤ v i ∧ v i ≤ 100) :
    Calls Try.prog 3 #[.slice A n c, .slice X n d] w fun e w' => e = .returned (.bool true) ∧ Kp w w' := by
  have HA := Lib.hid ha
  have HX := Lib.hid hx
  have FA := Lib.hid (definiteFact_any w)
  have IS := Lib.hid (fun w h => DIs_ok A m x n c w h s)
  have AT := Lib.hid (fun w1 h h' => DAt_ok A X m x v n c d w1 h s h' hv)
  have n4 := s.n4
  by_cases hb : posB n x = true
  · have PS := Lib.hid ((posB_pos s.sym).1 hb)
    have NN := Lib.hid (fun h => Zx.qf_none (n := n) (f := x) (z := v) h)
    rw [hb] at IS
    clear ha hx s hb hv
    go_enter Try.func3, Try.ntmps3
    go_wp2_with fail
    refine (FA.out).mono ?_; rintro e w1 ⟨rfl, k1⟩
    have K1 := Lib.hid k1; clear k1
    go_wp2_with fail
    refine (IS.out w1 (HA.out.keep K1.out)).mono ?_; rintro e w2 ⟨rfl, k2⟩
    have K2 := Lib.hid (K1.out.trans k2); clear k2
    go_wp2_with fail
    refine (AT.out w2 (HA.out.keep K2.out) (HX.out.keep K2.out)).mono ?_; rintro e w3 ⟨rfl, k3⟩
    have K3 := Lib.hid (K2.out.trans k3); clear k3
    go_wp2_with fail
    go_loopw [9, 10] (fun z i wr => ∃ (k : Nat) (b : Bool), k ≤ n ∧ i = .int .i64 (k : Int) ∧ z = .bool b ∧ (b = true ↔ ∀ i, i < k → v i = 0) ∧ wr = w3) (fun _ i _ => n - (intOf i).toNat)
    case atStart => exact ⟨0, true, Nat.zero_le _, rfl, rfl, ⟨fun _ i hi => absurd hi (by omega), fun _ => rfl⟩, rfl⟩
    case round =>
      obtain ⟨k, b, hk, rfl, rfl, hz, rfl⟩ := hrel
      have HZ := Lib.hid hz
      clear hz
      by_cases hlt : k < n
      · obtain ⟨ad, rfl, _, x1⟩ := (HX.out.keep K3.out).el hlt
        cases b
        · have HN := Lib.hid (show (false = true ↔ ∀ i, i < k + 1 → v i = 0) from ⟨fun h => (by cases h), fun h => HZ.out.2 fun i hi => h i (by omega)⟩)
          go_wp2_with fail
          go_roundw
          case rel => exact ⟨k + 1, false, by omega, by go_num, rfl, HN.out, trivial⟩
          case measure => simp [intOf]; omega
        · have HN := Lib.hid (show ((v k == 0) = true ↔ ∀ i, i < k + 1 → v i = 0) from ⟨fun h i hi => by
              by_cases e : i = k
              · rw [e]; exact beq_iff_eq.1 h
              · exact HZ.out.1 rfl i (by omega), fun h => beq_iff_eq.2 (h k (by omega))⟩)
          generalize v k = t at *
          go_wp2_with fail
          go_roundw
          case rel => exact ⟨k + 1, (t == 0), by omega, by go_num, rfl, HN.out, trivial⟩
          case measure => simp [intOf]; omega
      · obtain rfl : k = n := by omega
        cases b
        · have hq : 0 < Zx.qf k x v := PS.out v (Classical.byContradiction fun h => by
            have := HZ.out.2 fun i hi => Classical.byContradiction fun h2 => h ⟨i, hi, h2⟩
            cases this)
          generalize Zx.qf k x v = q at *
          go_wp2_with fail
          go_ret
          exact ⟨ret_bool (by simp), K3.out⟩
        · have hq : Zx.qf k x v = 0 := NN.out (HZ.out.1 rfl)
          rw [hq]
          go_wp2_with fail
          go_ret
          exact ⟨rfl, K3.out⟩
  · have hb' : posB n x = false := by cases h : posB n x; rfl; exact absurd h hb
    rw [hb'] at IS
    generalize Zx.qf n x v = q at *
    clear ha hx s hb hb' hv
    go_enter Try.func3, Try.ntmps3
    go_wp2_with fail
    refine (FA.out).mono ?_; rintro e w1 ⟨rfl, k1⟩
    have K1 := Lib.hid k1; clear k1
    go_wp2_with fail
    refine (IS.out w1 (HA.out.keep K1.out)).mono ?_; rintro e w2 ⟨rfl, k2⟩
    have K2 := Lib.hid (K1.out.trans k2); clear k2
    go_wp2_with fail
    refine (AT.out w2 (HA.out.keep K2.out) (HX.out.keep K2.out)).mono ?_; rintro e w3 ⟨rfl, k3⟩
    have K3 := Lib.hid (K2.out.trans k3); clear k3
    go_wp2_with fail
    go_ret
    exact ⟨rfl, K3.out⟩

set_option maxRecDepth 100000 in
set_option maxHeartbeats 1600000 in
theorem walk_DefiniteAbove (A : Option Addr) (m : List (List Int)) (c : Nat) (X : Option Addr) (l : List Int) (d : Nat) (w : World) (ha : LiesM w A m) (hx : Lies w X l) :
    Calls Try.prog 3 #[.slice A m.length c, .slice X l.length d] w fun e w' => e = .returned (.bool true) ∧ Kp w w' := by
  obtain ⟨n, hn⟩ : ∃ n, n = m.length := ⟨_, rfl⟩
  rw [← hn]
  have FA := Lib.hid (definiteFact_any w)
  rcases DIs_or A m n c hn.symm with ⟨x, s⟩ | bad
  · rcases xcode_or l n with ⟨v, rfl, hv⟩ | h
    · rw [Mx.len_row]
      exact above_ok A X m x v n c d w ha s hx hv
    · have HA := Lib.hid ha
      have HX := Lib.hid hx
      obtain ⟨p, hp⟩ : ∃ p, p = l.length := ⟨_, rfl⟩
      rw [← hp]
      have IS := Lib.hid (fun w h => DIs_ok A m x n c w h s)
      have AT := Lib.hid (fun w1 h1 h2 => DAt_off A X m x l n c p d w1 h1 s h2 hp.symm h)
      generalize posB n x = b at *
      generalize xcode n l = z at *
      clear ha hx hn s h hp
      go_enter Try.func3, Try.ntmps3
      go_wp2_with fail
      refine (FA.out).mono ?_; rintro e w1 ⟨rfl, k1⟩
      have K1 := Lib.hid k1; clear k1
      go_wp2_with fail
      refine (IS.out w1 (HA.out.keep K1.out)).mono ?_; rintro e w2 ⟨rfl, k2⟩
      have K2 := Lib.hid (K1.out.trans k2); clear k2
      go_wp2_with fail
      refine (AT.out w2 (HA.out.keep K2.out) (HX.out.keep K2.out)).mono ?_; rintro e w3 ⟨rfl, k3⟩
      have K3 := Lib.hid (K2.out.trans k3); clear k3
      go_wp2_with fail
      go_ret
      exact ⟨rfl, K3.out⟩
  · have BAD := Lib.hid bad
    have HA := Lib.hid ha
    clear hn bad ha hx
    go_enter Try.func3, Try.ntmps3
    go_wp2_with fail
    refine (FA.out).mono ?_; rintro e w1 ⟨rfl, k1⟩
    have K1 := Lib.hid k1; clear k1
    go_wp2_with fail
    refine (BAD.out w1 (HA.out.keep K1.out)).mono ?_; rintro e w2 ⟨z, rfl, k2⟩
    have K2 := Lib.hid (K1.out.trans k2); clear k2
    go_wp2_with fail
    go_ret
    exact ⟨rfl, K2.out⟩

set_option maxRecDepth 100000 in
set_option maxHeartbeats 3200000 in
theorem walk_DefiniteMiddle (A : Option Addr) (m : List (List Int)) (c : Nat) (w : World) (ha : LiesM w A m) :
    Calls Try.prog 4 #[.slice A m.length c] w fun e w' => e = .returned (.bool true) ∧ Kp w w' := by
  obtain ⟨n, hn⟩ : ∃ n, n = m.length := ⟨_, rfl⟩
  rw [← hn]
  have FA := Lib.hid (definiteFact_any w)
  have HA := Lib.hid ha
  rcases DIs_or A m n c hn.symm with ⟨x, s⟩ | bad
  · have IS := Lib.hid (fun w h => DIs_ok A m x n c w h s)
    have n4 := s.n4
    have n0 := s.shz.n0
    have hn0 : (0 : Int) < n := by omega
    by_cases hb : posB n x = true
    · have PS := (posB_pos s.sym).1 hb
      have MD := Lib.hid (fun i (hi : i < n) => PS.mid hi)
      have SD := Lib.hid (fun i j (hi : i < n) (hj : j < n) (h : i ≠ j) => PS.side s.sym hi hj h)
      have HX := Lib.hid (show LiesM w A (Mx.tab n n x) by rw [← s.shz.eq]; exact ha)
      have AB := Lib.hid s.shz.ab
      rw [hb] at IS
      clear ha hn s hb PS
      go_enter Try.func4, Try.ntmps4
      go_wp2_with fail
      refine (FA.out).mono ?_; rintro e w1 ⟨rfl, k1⟩
      have K1 := Lib.hid k1; clear k1
      go_wp2_with fail
      refine (IS.out w1 (HA.out.keep K1.out)).mono ?_; rintro e w2 ⟨rfl, k2⟩
      have K2 := Lib.hid (K1.out.trans k2); clear k2
      go_wp2_with fail
      go_loopw [6] (fun i wr => ∃ k : Nat, k ≤ n ∧ i = .int .i64 (k : Int) ∧ Kp w wr) (fun i _ => n - (intOf i).toNat)
      case atStart => exact ⟨0, Nat.zero_le _, rfl, K2.out⟩
      case round =>
        obtain ⟨k, hk, rfl, hkp⟩ := hrel
        obtain ⟨wo, hwo⟩ : ∃ y, y = wr := ⟨_, rfl⟩
        subst hwo
        have HK := Lib.hid hkp
        by_cases hlt : k < n
        · obtain ⟨ad, A1, d1, rfl, _, x1, _, l1⟩ := (HX.out.keep hkp).row hlt
          obtain ⟨ad1, rfl, _, x2⟩ := l1.el hlt
          have hm := MD.out k hlt
          have hlt' : decide ((k : Int) < (n : Int)) = true := by simp; omega
          clear l1 hkp
          generalize hxk : x k k = a at *
          have HXK := Lib.hid hxk
          clear hxk
          have hm' : ¬ a ≤ 0 := by omega
          go_wp2_with fail
          go_loopw [7] (fun j wq => ∃ t : Nat, t ≤ k ∧ j = .int .i64 (t : Int) ∧ Kp w wq) (fun j _ => k - (intOf j).toNat)
          case atStart => exact ⟨0, Nat.zero_le _, rfl, HK.out⟩
          case round =>
            obtain ⟨t, ht, rfl, hkq⟩ := hrel
            have HQ := Lib.hid hkq
            by_cases hlt2 : t < k
            · obtain ⟨ad', A1', d1', ea, _, x3, _, l3⟩ := (HX.out.keep hkq).row hlt
              obtain rfl := Option.some.inj ea
              obtain ⟨ad3, rfl, _, x4⟩ := l3.el hlt
              obtain ⟨ad3', ea, _, x5⟩ := l3.el (show t < n by omega)
              obtain rfl := Option.some.inj ea
              obtain ⟨ad', A2, d2, ea, _, x6, _, l4⟩ := (HX.out.keep hkq).row (show t < n by omega)
              obtain rfl := Option.some.inj ea
              obtain ⟨ad4, rfl, _, x7⟩ := l4.el (show t < n by omega)
              have hs := SD.out k t hlt (by omega) (by omega)
              have b1 := AB.out k t hlt (by omega)
              have b2 := AB.out t t (by omega) (by omega)
              have b3 := AB.out k k hlt hlt
              have hw1 : IntKind.i64.wrap (x k t * x k t) = x k t * x k t := IntWalk.i64_in _ (by
                have : (x k t * x k t).natAbs ≤ 9 * 9 := by rw [Int.natAbs_mul]; exact Nat.mul_le_mul (by omega) (by omega)
                omega)
              have hw2 : IntKind.i64.wrap (x k k * x t t) = x k k * x t t := IntWalk.i64_in _ (by
                have : (x k k * x t t).natAbs ≤ 9 * 9 := by rw [Int.natAbs_mul]; exact Nat.mul_le_mul (by omega) (by omega)
                omega)
              clear l3 l4 hkq b1 b2 b3
              generalize x k t = u at *
              generalize x t t = y at *
              generalize x k k = z at *
              have hge : ¬ (z * y ≤ u * u) := by omega
              clear hs x1 x2
              go_wp2_with fail
              go_quiet (fail)
              go_wp2_with fail
              go_roundw
              case rel => exact ⟨t + 1, by omega, by go_num, HQ.out.drewN _⟩
              case measure => simp [intOf]; omega
            · clear hkq
              go_wp2_with fail
              go_roundw
              case rel => exact ⟨k + 1, by omega, by go_num, HQ.out⟩
              case measure => simp [intOf]; omega
        · have hlt' : decide ((k : Int) < (n : Int)) = false := by simp; omega
          clear hkp
          go_wp2_with fail
          go_ret
          exact ⟨rfl, HK.out⟩
    · have hb' : posB n x = false := by cases h : posB n x; rfl; exact absurd h hb
      rw [hb'] at IS
      clear ha hn s hb hb'
      go_enter Try.func4, Try.ntmps4
      go_wp2_with fail
      refine (FA.out).mono ?_; rintro e w1 ⟨rfl, k1⟩
      have K1 := Lib.hid k1; clear k1
      go_wp2_with fail
      refine (IS.out w1 (HA.out.keep K1.out)).mono ?_; rintro e w2 ⟨rfl, k2⟩
      have K2 := Lib.hid (K1.out.trans k2); clear k2
      go_wp2_with fail
      go_loopw [6] (fun i wr => i = .int .i64 0 ∧ wr = w2) (fun _ _ => 0)
      case atStart => exact ⟨rfl, rfl⟩
      case round =>
        obtain ⟨rfl, rfl⟩ := hrel
        go_wp2_with fail
        go_ret
        exact ⟨rfl, K2.out⟩
  · have BAD := Lib.hid bad
    clear hn bad ha
    go_enter Try.func4, Try.ntmps4
    go_wp2_with fail
    refine (FA.out).mono ?_; rintro e w1 ⟨rfl, k1⟩
    have K1 := Lib.hid k1; clear k1
    go_wp2_with fail
    refine (BAD.out w1 (HA.out.keep K1.out)).mono ?_; rintro e w2 ⟨z, rfl, k2⟩
    have K2 := Lib.hid (K1.out.trans k2); clear k2
    go_wp2_with fail
    go_ret
    exact ⟨rfl, K2.out⟩
end Go.Proofs.Ytapcnlbcookldaa
