/- The law HermiteShape. -/
import Derived.Test.YteobamakmmoljaaHmFact
import Derived.Test.YteobamakmmoljaaHmRf1
namespace Go.Proofs.Yteobamakmmoljaa
open Go.ChangeShapes Go.WideShapes Go.ChangeAt Go.RowKit
set_option linter.unusedVariables false

set_option maxRecDepth 100000 in
set_option maxHeartbeats 3200000 in
theorem walk_HermiteShape (A : Option Addr) (m : List (List Int)) (c : Nat) (w : World) (ha : LiesM w A m) :
    Calls Try.prog 4 #[.slice A m.length c] w fun e w' => e = .returned (.bool true) ∧ Kp w w' := by
  obtain ⟨n, hn⟩ : ∃ n, n = m.length := ⟨_, rfl⟩
  rw [← hn]
  have HA := Lib.hid ha
  have FA := Lib.hid (hermiteFact_any w)
  clear ha
  rcases Form_or A m n c hn.symm with ⟨x, s⟩ | bad
  · have OA := Lib.hid (fun w h => Form_ok s A c w h)
    have DT := Lib.hid (fun w h => s.sh.det A c w h)
    have n3 := s.sh.n3
    have hdb := Zx.dt_twenty s.sh.n3 s.sh.small
    have dp := Zx.ab_pos (Zx.dt n x)
    have AB := Lib.hid (fun w => absZ_any (Zx.dt n x) w (by unfold Zx.ab at hdb; omega) (by unfold Zx.ab at hdb; omega))
    have HD := Lib.hid (fun a (h1 : Zx.Hnf n a) (h2 : Zx.Eql n a x) => (show (Zx.pr n fun i => a i i) = Zx.ab (Zx.dt n x) from h1.det h2))
    have e1 : ((n : Int) != (n : Int)) = false := by simp
    obtain ⟨D, hD⟩ : ∃ D, D = Zx.dt n x := ⟨_, rfl⟩
    rw [← hD] at DT AB HD hdb
    clear hn s hD dp hdb
    go_enter Try.func4, Try.ntmps4
    go_wp2_with fail
    refine (FA.out).mono ?_; rintro e w1 ⟨rfl, k1⟩
    have K1 := Lib.hid k1; clear k1
    go_wp2_with fail
    refine (OA.out w1 (HA.out.keep K1.out)).mono ?_; rintro e w2 ⟨g, cap, G, C, a, n1, l1, b1, rfl, o1, _, k2⟩
    have K2 := Lib.hid (K1.out.trans k2)
    have HM := Lib.hid o1.weak
    have HP := Lib.hid n1
    have HB := Lib.hid b1
    have HQ := Lib.hid (HD.out a n1 l1)
    have PB := Lib.hid (show ∀ k, k ≤ n → 0 ≤ (Zx.pr k fun i => a i i) ∧ (Zx.pr k fun i => a i i) ≤ 110592000000000 from fun k hk => by
      have q : ∀ i, i < k → 0 ≤ a i i ∧ a i i ≤ 48000 := fun i hi => b1 i i (by omega) (by omega)
      have h1 : (Zx.pr k fun i => a i i) ≤ Zx.pr k fun _ => 48000 := Zx.pr_le (fun i hi => (q i hi).1) (fun i hi => (q i hi).2)
      have h2 := Zx.pr_pos (n := k) (g := fun i => a i i) fun i hi => (q i hi).1
      have h3 : (Zx.pr k fun _ => 48000) ≤ 110592000000000 := by
        have : k = 0 ∨ k = 1 ∨ k = 2 ∨ k = 3 := by omega
        rcases this with e | e | e | e <;> rw [e] <;> decide +kernel
      exact ⟨h2, Int.le_trans h1 h3⟩)
    clear k2 o1 n1 l1 b1 HD
    go_wp2_with fail
    go_loopw [2, 6, 7, 8] (fun _ p i _ wr => ∃ k : Nat, k ≤ n ∧ i = .int .i64 (k : Int) ∧ p = .int .i64 (Zx.pr k fun i => a i i) ∧ Kp w2 wr) (fun _ _ i _ _ => n - (intOf i).toNat)
    case atStart => exact ⟨0, Nat.zero_le _, rfl, rfl, Kp.rfl' _⟩
    case round =>
      obtain ⟨k, hk, rfl, rfl, hkp⟩ := hrel
      have HK := Lib.hid hkp
      have HM2 := Lib.hid (HM.out.kp hkp)
      clear hkp
      by_cases hlt : k < n
      · have y0 := HM2.out.head hlt
        have y1 := HM2.out.el hlt hlt
        have hp := HP.out.pos k hlt
        have hb := HB.out k k hlt hlt
        have pb := PB.out k hk
        have pb2 := PB.out (k + 1) (by omega)
        rw [show (Zx.pr (k + 1) fun i => a i i) = (Zx.pr k fun i => a i i) * a k k from rfl] at pb2
        have HS := Lib.hid (show (Zx.pr (k + 1) fun i => a i i) = (Zx.pr k fun i => a i i) * a k k from rfl)
        have hz := Lib.hid (show ∀ t, t < k → a k t = 0 from fun t ht => HP.out.low k t hlt ht)
        have hr := Lib.hid (show ∀ t, t < k → 0 ≤ a t k ∧ a t k < a k k from fun t ht => HP.out.red t k ht hlt)
        obtain ⟨xk, hxk⟩ : ∃ xk, xk = a k k := ⟨_, rfl⟩
        obtain ⟨P, hP⟩ : ∃ P, P = Zx.pr k fun i => a i i := ⟨_, rfl⟩
        rw [← hxk] at y1 hp hb pb2 HS hr
        rw [← hP] at pb pb2 HS ⊢
        have hw1 : IntKind.i64.wrap (P * xk) = P * xk := IntWalk.i64_in _ (by omega)
        have hw2 : IntKind.i64.wrap (xk - 1) = xk - 1 := IntWalk.i64_in _ (by omega)
        have IN := Lib.hid (fun w => law4In_any xk 1 100000 w true (by simp; omega))
        have HX := Lib.hid hxk
        have HPB := Lib.hid pb
        have HXB := Lib.hid (show 0 < xk ∧ xk ≤ 48000 by omega)
        clear pb pb2 hp hb hxk hP
        go_wp2_with fail
        refine (IN.out _).mono ?_; rintro e w3 ⟨rfl, rfl⟩
        go_wp2_with fail
        go_loopw [2, 8] (fun _ j wq => ∃ t : Nat, t ≤ k ∧ j = .int .i64 (t : Int) ∧ Kp w2 wq) (fun _ j _ => k - (intOf j).toNat)
        case atStart => exact ⟨0, Nat.zero_le _, rfl, HK.out⟩
        case round =>
          clear y0 y1 HM2
          obtain ⟨t, ht, rfl, hkp⟩ := hrel
          have HKQ := Lib.hid hkp
          have HM3 := Lib.hid (HM.out.kp hkp)
          clear hkp
          by_cases hlt2 : t < k
          · have htn : t < n := by omega
            have y0 := HM3.out.head hlt
            have y1 := HM3.out.head htn
            have y2 := HM3.out.el hlt htn
            have y3 := HM3.out.el htn hlt
            have y4 := HM3.out.el hlt hlt
            rw [hz.out t hlt2] at y2
            rw [← HX.out] at y4
            have hv := hr.out t hlt2
            have e0 : ((0 : Int) != 0) = false := by decide
            have IN2 := Lib.hid (fun w => law4In_any (a t k) 0 (xk - 1) w true (by simp; omega))
            generalize a t k = v at *
            clear hv
            go_wp2_with fail
            go_quiet ((first
              | (with_reducible exact quiet_here (IN2.out _))
              | (with_reducible exact quiet_more (IN2.out _))))
            go_wp2_with fail
            go_roundw
            case rel => exact ⟨t + 1, by omega, by go_num, HKQ.out.drewN _⟩
            case measure => simp [intOf]; omega
          · obtain rfl : t = k := by omega
            go_wp2_with fail
            go_roundw
            case rel => exact ⟨t + 1, by omega, by go_num, by rw [HS.out], HKQ.out⟩
            case measure => simp [intOf]; omega
      · obtain rfl : n = k := by omega
        have HK3 := Lib.hid (K2.out.trans HK.out)
        go_wp2_with fail
        refine (DT.out wr (HA.out.keep HK3.out)).mono ?_; rintro e w3 ⟨rfl, k3⟩
        have HK4 := Lib.hid (HK3.out.trans k3)
        clear k3
        go_wp2_with fail
        refine (AB.out _).mono ?_; rintro e w4 ⟨rfl, rfl⟩
        go_wp2_with fail
        go_ret
        exact ⟨ret_bool (by rw [HQ.out]; simp), HK4.out⟩
  · have OA := Lib.hid bad
    clear bad hn
    go_enter Try.func4, Try.ntmps4
    go_wp2_with fail
    refine (FA.out).mono ?_; rintro e w1 ⟨rfl, k1⟩
    have K1 := Lib.hid k1; clear k1
    go_wp2_with fail
    refine (OA.out w1 (HA.out.keep K1.out)).mono ?_; rintro e w2 ⟨z, rfl, k2⟩
    have K2 := Lib.hid (K1.out.trans k2)
    clear k2
    go_wp2_with fail
    go_ret
    exact ⟨rfl, K2.out⟩
end Go.Proofs.Yteobamakmmoljaa
