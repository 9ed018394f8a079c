/- The laws BareissHadamard and BareissHeavy. -/
import Derived.Test.YtlpeffddjppeeaaBaFact
namespace Go.Proofs.Ytlpeffddjppeeaa
open Go.ChangeShapes Go.WideShapes Go.ChangeAt Go.RowKit
set_option linter.unusedVariables false

theorem sq_within {a : Int} (h : -9 ≤ a ∧ a ≤ 9) : 0 ≤ a * a ∧ a * a ≤ 81 := by
  have e : (a * a).natAbs ≤ 9 * 9 := by
    rw [Int.natAbs_mul]
    exact Nat.mul_le_mul (by omega) (by omega)
  have := Zx.sq_pos a
  omega
theorem sq_sum {c : Nat} {g : Nat → Int} (h : ∀ j, j < c → -9 ≤ g j ∧ g j ≤ 9) : 0 ≤ (Zx.sg c fun j => g j * g j) ∧ (Zx.sg c fun j => g j * g j) ≤ 81 * c := by
  induction c with
  | zero => rw [Zx.sg_zero]; omega
  | succ c ih =>
    have h1 := ih fun j hj => h j (by omega)
    have h2 := sq_within (h c (by omega))
    rw [Zx.sg_succ]
    omega
theorem pr_within {k : Nat} (hk : k ≤ 5) {g : Nat → Int} (h : ∀ i, i < k → 0 ≤ g i ∧ g i ≤ 405) : 0 ≤ Zx.pr k g ∧ Zx.pr k g ≤ 10896201253125 := by
  have h1 : Zx.pr k g ≤ Zx.pr k fun _ => 405 := Zx.pr_le (fun i hi => (h i hi).1) (fun i hi => (h i hi).2)
  have h2 := Zx.pr_pos (n := k) (g := g) fun i hi => (h i hi).1
  have h3 : (Zx.pr k fun _ => 405) ≤ 10896201253125 := by
    have : k = 0 ∨ k = 1 ∨ k = 2 ∨ k = 3 ∨ k = 4 ∨ k = 5 := by omega
    rcases this with e | e | e | e | e | e <;> rw [e] <;> decide +kernel
  exact ⟨h2, Int.le_trans h1 h3⟩

set_option maxRecDepth 100000 in
set_option maxHeartbeats 3200000 in
theorem walk_BareissHadamard (A : Option Addr) (m : List (List Int)) (c : Nat) (w : World) (ha : LiesM w A m) :
    Calls Try.prog 4 #[.slice A m.length c] w fun e w' => e = .returned (.bool true) ∧ Kp w w' := by
  obtain ⟨n, hn⟩ : ∃ n, n = m.length := ⟨_, rfl⟩
  rw [← hn]
  have HA := Lib.hid ha
  have FA := Lib.hid (bareissFact_any w)
  clear ha
  rcases BOf_or A m n c hn.symm with ⟨x, s⟩ | bad
  · have OA := Lib.hid (fun w h => BOf_ok A x m n c w h s)
    have n5 := s.n5
    have IN := Lib.hid (fun w => law2In_any (Zx.dt n x) (-10000000) 10000000 w true (in_million s))
    have HD := Lib.hid (Zx.hadamard n x)
    have hdb := Zx.dt_bound s.n5 s.nine (Nat.le_refl n)
    have AB := Lib.hid s.ab
    have HX := Lib.hid (show LiesM w A (Mx.tab n n x) by rw [← s.eq]; exact HA.out)
    obtain ⟨D, hD⟩ : ∃ D, D = Zx.dt n x := ⟨_, rfl⟩
    rw [← hD] at OA IN HD hdb
    have e0 : ((n : Nat) : Int) = n := rfl
    clear hn s hD e0
    go_enter Try.func4, Try.ntmps4
    go_wp2_with fail
    refine (FA.out).mono ?_; rintro e w1 ⟨rfl, k1⟩
    have K1 := Lib.hid k1; clear k1
    go_wp2_with fail
    refine (OA.out w1 (HA.out.keep K1.out)).mono ?_; rintro e w2 ⟨rfl, k2⟩
    have K2 := Lib.hid (K1.out.trans k2); clear k2
    go_wp2_with fail
    go_loopw [6, 7] (fun p i wr => ∃ k : Nat, k ≤ n ∧ i = .int .i64 (k : Int) ∧ p = .int .i64 (Zx.pr k fun i => Zx.sg n fun j => x i j * x i j) ∧ Kp w wr) (fun _ i _ => n - (intOf i).toNat)
    case atStart => exact ⟨0, Nat.zero_le _, rfl, rfl, K2.out⟩
    case round =>
      obtain ⟨k, hk, rfl, rfl, hkp⟩ := hrel
      obtain ⟨wo, hwo⟩ : ∃ y, y = wr := ⟨_, rfl⟩
      subst hwo
      have HK := Lib.hid hkp
      by_cases hlt : k < n
      · obtain ⟨ad, A1, d1, rfl, _, x1, _, l1⟩ := (HX.out.keep hkp).row hlt
        have L1 := Lib.hid l1
        have X1 := Lib.hid x1
        clear hkp l1 x1
        have hpb := pr_within (k := k) (by omega) (g := fun i => Zx.sg n fun j => x i j * x i j) fun i hi => by
          have := sq_sum (c := n) (g := x i) fun j hj => AB.out i j (by omega) hj
          omega
        have HPR := Lib.hid (show (Zx.pr (k + 1) fun i => Zx.sg n fun j => x i j * x i j) = (Zx.pr k fun i => Zx.sg n fun j => x i j * x i j) * Zx.sg n fun j => x k j * x k j from rfl)
        generalize (Zx.pr k fun i => Zx.sg n fun j => x i j * x i j) = pv at *
        go_wp2_with fail
        go_loopw [8, 9] (fun s j wq => ∃ t : Nat, t ≤ n ∧ j = .int .i64 (t : Int) ∧ s = .int .i64 (Zx.sg t fun j => x k j * x k j) ∧ Kp wo wq) (fun _ j _ => n - (intOf j).toNat)
        case atStart => exact ⟨0, Nat.zero_le _, rfl, rfl, Kp.rfl' _⟩
        case round =>
          obtain ⟨t, ht, rfl, rfl, hkq⟩ := hrel
          have HQ := Lib.hid hkq
          have hsb := sq_sum (c := t) (g := x k) fun j hj => AB.out k j hlt (by omega)
          by_cases hlt2 : t < n
          · obtain ⟨ad1, rfl, _, x2⟩ := (L1.out.keep hkq).el hlt2
            have x1 := (hkq.cell (p := ad.add k) (cell_lt X1.out)).trans X1.out
            have hxb := sq_within (AB.out k t hlt hlt2)
            have HS := Lib.hid (Zx.sg_succ t fun j => x k j * x k j)
            generalize (Zx.sg t fun j => x k j * x k j) = sv at *
            obtain ⟨v, hv⟩ : ∃ v, v = x k t := ⟨_, rfl⟩
            rw [← hv] at x2 hxb HS
            have hw1 : IntKind.i64.wrap (v * v) = v * v := IntWalk.i64_in _ (by omega)
            have hw2 : IntKind.i64.wrap (sv + v * v) = sv + v * v := IntWalk.i64_in _ (by omega)
            clear hkq hv hxb
            go_wp2_with fail
            go_quiet (fail)
            go_wp2_with fail
            go_roundw
            case rel => exact ⟨t + 1, by omega, by go_num, by rw [HS.out], HQ.out.drewN _⟩
            case measure => simp [intOf]; omega
          · obtain rfl : t = n := by omega
            generalize (Zx.sg t fun j => x k j * x k j) = sv at *
            have hw : IntKind.i64.wrap (pv * sv) = pv * sv := IntWalk.i64_in _ (by
              have h1 : (pv * sv).natAbs ≤ 10896201253125 * 405 := by
                rw [Int.natAbs_mul]
                exact Nat.mul_le_mul (by omega) (by omega)
              omega)
            clear hkq
            go_wp2_with fail
            go_roundw
            case rel => exact ⟨k + 1, by omega, by go_num, by rw [HPR.out], HK.out.trans HQ.out⟩
            case measure => simp [intOf]; omega
      · obtain rfl : k = n := by omega
        have hq := mul_within D D hdb hdb
        have hw : IntKind.i64.wrap (D * D) = D * D := IntWalk.i64_in _ (by omega)
        have hle := HD.out
        generalize (Zx.pr k fun i => Zx.sg k fun j => x i j * x i j) = pv at *
        clear hkp hq
        go_wp2_with fail
        refine (IN.out wo).mono ?_; rintro e w4 ⟨rfl, rfl⟩
        go_wp2_with fail
        go_ret
        exact ⟨ret_bool (by simp), HK.out⟩
  · have BAD := Lib.hid bad
    clear hn bad
    go_enter Try.func4, Try.ntmps4
    go_wp2_with fail
    refine (FA.out).mono ?_; rintro e w1 ⟨rfl, k1⟩
    have K1 := Lib.hid k1; clear k1
    go_wp2_with fail
    refine (BAD.out w1 (HA.out.keep K1.out)).mono ?_; rintro e w2 ⟨z, rfl, k2⟩
    have K2 := Lib.hid (K1.out.trans k2); clear k2
    go_wp2_with fail
    go_ret
    exact ⟨ret_bool (by simp), K2.out⟩

theorem rAbs_any (v : Int) (w : World) (h : -9 ≤ v ∧ v ≤ 9) :
    Calls Try.prog 12 #[.int .i64 v] w fun e w' => e = .returned (.int .i64 (Zx.ab v)) ∧ w = w' := by
  by_cases h0 : v < 0
  · have hw : IntKind.i64.wrap (-v) = -v := IntWalk.i64_in _ (by omega)
    have HV := Lib.hid (show Zx.ab v = -v by unfold Zx.ab; omega)
    go_enter Try.func12, Try.ntmps12
    go_wp2_with fail
    go_ret
    exact ⟨by rw [HV.out]; rfl, rfl⟩
  · have HV := Lib.hid (show Zx.ab v = v by unfold Zx.ab; omega)
    go_enter Try.func12, Try.ntmps12
    go_wp2_with fail
    go_ret
    exact ⟨by rw [HV.out]; rfl, rfl⟩

theorem ab_within {a : Int} (h : -9 ≤ a ∧ a ≤ 9) : 0 ≤ Zx.ab a ∧ Zx.ab a ≤ 9 := by unfold Zx.ab; omega
theorem ab_sum {c : Nat} {g : Nat → Int} (h : ∀ j, j < c → -9 ≤ g j ∧ g j ≤ 9) : 0 ≤ (Zx.sg c fun j => Zx.ab (g j)) ∧ (Zx.sg c fun j => Zx.ab (g j)) ≤ 9 * c := by
  induction c with
  | zero => rw [Zx.sg_zero]; omega
  | succ c ih =>
    have h1 := ih fun j hj => h j (by omega)
    have h2 := ab_within (h c (by omega))
    rw [Zx.sg_succ]
    omega

set_option maxRecDepth 100000 in
set_option maxHeartbeats 3200000 in
theorem walk_BareissHeavy (A : Option Addr) (m : List (List Int)) (c : Nat) (w : World) (ha : LiesM w A m) :
    Calls Try.prog 5 #[.slice A m.length c] w fun e w' => e = .returned (.bool true) ∧ Kp w w' := by
  obtain ⟨n, hn⟩ : ∃ n, n = m.length := ⟨_, rfl⟩
  rw [← hn]
  have HA := Lib.hid ha
  have FA := Lib.hid (bareissFact_any w)
  clear ha
  rcases BOf_or A m n c hn.symm with ⟨x, s⟩ | bad
  · have OA := Lib.hid (fun w h => BOf_ok A x m n c w h s)
    have n5 := s.n5
    have AB := Lib.hid s.ab
    have HX := Lib.hid (show LiesM w A (Mx.tab n n x) by rw [← s.eq]; exact HA.out)
    have HV := Lib.hid (fun (h : Zx.Heavy n x) => Zx.heavy n x h)
    obtain ⟨D, hD⟩ : ∃ D, D = Zx.dt n x := ⟨_, rfl⟩
    rw [← hD] at OA HV
    clear hn s hD
    go_enter Try.func5, Try.ntmps5
    go_wp2_with fail
    refine (FA.out).mono ?_; rintro e w1 ⟨rfl, k1⟩
    have K1 := Lib.hid k1; clear k1
    go_wp2_with fail
    refine (OA.out w1 (HA.out.keep K1.out)).mono ?_; rintro e w2 ⟨rfl, k2⟩
    have K2 := Lib.hid (K1.out.trans k2); clear k2
    go_wp2_with fail
    go_loopw [6] (fun i wr => ∃ k : Nat, k ≤ n ∧ i = .int .i64 (k : Int) ∧ (∀ i, i < k → (Zx.sg n fun j => Zx.ab (x i j)) < 2 * Zx.ab (x i i)) ∧ Kp w wr) (fun i _ => n - (intOf i).toNat)
    case atStart => exact ⟨0, Nat.zero_le _, rfl, fun i hi => absurd hi (by omega), K2.out⟩
    case round =>
      obtain ⟨k, hk, rfl, hhv, hkp⟩ := hrel
      obtain ⟨wo, hwo⟩ : ∃ y, y = wr := ⟨_, rfl⟩
      subst hwo
      have HK := Lib.hid hkp
      have HH := Lib.hid hhv
      clear hhv
      by_cases hlt : k < n
      · obtain ⟨ad, A1, d1, rfl, _, x1, _, l1⟩ := (HX.out.keep hkp).row hlt
        have L1 := Lib.hid l1
        have X1 := Lib.hid x1
        clear hkp l1 x1
        go_wp2_with fail
        go_loopw [7, 8] (fun s j wq => ∃ t : Nat, t ≤ n ∧ j = .int .i64 (t : Int) ∧ s = .int .i64 (Zx.sg t fun j => Zx.ab (x k j)) ∧ Kp wo wq) (fun _ j _ => n - (intOf j).toNat)
        case atStart => exact ⟨0, Nat.zero_le _, rfl, rfl, Kp.rfl' _⟩
        case round =>
          obtain ⟨t, ht, rfl, rfl, hkq⟩ := hrel
          have HQ := Lib.hid hkq
          have hsb := ab_sum (c := t) (g := x k) fun j hj => AB.out k j hlt (by omega)
          have x1 := (hkq.cell (p := ad.add k) (cell_lt X1.out)).trans X1.out
          by_cases hlt2 : t < n
          · obtain ⟨ad1, rfl, _, x2⟩ := (L1.out.keep hkq).el hlt2
            have hxb := ab_within (AB.out k t hlt hlt2)
            have HS := Lib.hid (Zx.sg_succ t fun j => Zx.ab (x k j))
            have RA := Lib.hid (fun w => rAbs_any (x k t) w (AB.out k t hlt hlt2))
            generalize (Zx.sg t fun j => Zx.ab (x k j)) = sv at *
            generalize Zx.ab (x k t) = av at *
            generalize x k t = v at *
            have hw2 : IntKind.i64.wrap (sv + av) = sv + av := IntWalk.i64_in _ (by omega)
            clear hkq hxb
            go_wp2_with fail
            refine (RA.out _).mono ?_; rintro e w4 ⟨rfl, rfl⟩
            go_wp2_with fail
            go_roundw
            case rel => exact ⟨t + 1, by omega, by go_num, by rw [HS.out], HQ.out⟩
            case measure => simp [intOf]; omega
          · obtain rfl : t = n := by omega
            obtain ⟨ad1, rfl, _, x2⟩ := (L1.out.keep hkq).el hlt
            have hxb := ab_within (AB.out k k hlt hlt)
            have RA := Lib.hid (fun w => rAbs_any (x k k) w (AB.out k k hlt hlt))
            have HSV : ∃ sv, sv = Zx.sg t fun j => Zx.ab (x k j) := ⟨_, rfl⟩
            obtain ⟨sv, hsv⟩ := HSV
            rw [← hsv] at hsb ⊢
            have HN := Lib.hid (fun (h : sv < 2 * Zx.ab (x k k)) => show ∀ i, i < k + 1 → (Zx.sg t fun j => Zx.ab (x i j)) < 2 * Zx.ab (x i i) from fun i hi => by
              by_cases e : i = k
              · rw [e, ← hsv]; exact h
              · exact HH.out i (by omega))
            clear hsv
            generalize Zx.ab (x k k) = av at *
            generalize x k k = v at *
            have hw2 : IntKind.i64.wrap (2 * av) = 2 * av := IntWalk.i64_in _ (by omega)
            have HKQ := Lib.hid (HK.out.trans HQ.out)
            clear hkq hxb
            by_cases hle : 2 * av ≤ sv
            · go_wp2_with fail
              refine (RA.out _).mono ?_; rintro e w4 ⟨rfl, rfl⟩
              go_wp2_with fail
              go_ret
              exact ⟨rfl, HKQ.out⟩
            · have HN2 := Lib.hid (HN.out (by omega))
              go_wp2_with fail
              refine (RA.out _).mono ?_; rintro e w4 ⟨rfl, rfl⟩
              go_wp2_with fail
              go_roundw
              case rel => exact ⟨k + 1, by omega, by go_num, HN2.out, HKQ.out⟩
              case measure => simp [intOf]; omega
      · obtain rfl : k = n := by omega
        have hne := HV.out HH.out
        have e1 : (D != 0) = true := by rw [bne_iff_ne]; exact hne
        clear hkp hne
        go_wp2_with fail
        go_ret
        exact ⟨ret_bool (by simp), HK.out⟩
  · have BAD := Lib.hid bad
    clear hn bad
    go_enter Try.func5, Try.ntmps5
    go_wp2_with fail
    refine (FA.out).mono ?_; rintro e w1 ⟨rfl, k1⟩
    have K1 := Lib.hid k1; clear k1
    go_wp2_with fail
    refine (BAD.out w1 (HA.out.keep K1.out)).mono ?_; rintro e w2 ⟨z, rfl, k2⟩
    have K2 := Lib.hid (K1.out.trans k2); clear k2
    go_wp2_with fail
    go_ret
    exact ⟨ret_bool (by simp), K2.out⟩

end Go.Proofs.Ytlpeffddjppeeaa
