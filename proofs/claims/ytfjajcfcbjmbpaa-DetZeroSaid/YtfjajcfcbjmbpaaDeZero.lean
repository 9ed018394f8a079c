/- The law DetZero. -/
import Derived.Test.YtfjajcfcbjmbpaaDeFact
import Derived.Test.YtfjajcfcbjmbpaaSoFact
namespace Go.Proofs.Ytfjajcfcbjmbpaa
open Go.ChangeShapes Go.WideShapes Go.ChangeAt Go.RowKit
set_option linter.unusedVariables false

theorem Stair.dt {n : Nat} {f g : Nat → Nat → Fp.F} {b : List Nat} (h : Stair n n n f b g) : Mx.dt n f = 0 ↔ b.length < n := by
  constructor
  · intro h0
    refine Classical.byContradiction fun hn => ?_
    have hl : b.length = n := by have := h.steps.le; omega
    obtain ⟨_, ⟨t, ht⟩⟩ := h.req
    have h1 := Mx.dt_congr n (ht.symm.trans (h.steps.full hl))
    rw [Mx.dt_mul, Mx.dt_one, h0] at h1
    have : (0 : Fp.F) = 1 := by rw [← h1]; grind
    exact Fp.one_ne this.symm
  · intro hl
    obtain ⟨y, k, hk, hy, hz⟩ := h.steps.null h.req hl
    exact Mx.dt_null hk hy hz

set_option maxRecDepth 100000 in
set_option maxHeartbeats 3200000 in
theorem walk_DetZero (A : Option Addr) (a : List (List Int)) (c : Nat) (w : World) (ha : LiesM w A a) :
    Calls Try.prog 6 #[.slice A a.length c] w fun e w' => e = .returned (.bool true) ∧ Kp w w' := by
  obtain ⟨n, hn⟩ : ∃ n, n = a.length := ⟨_, rfl⟩
  rw [← hn]
  have HA := Lib.hid ha
  have FA := Lib.hid (detFact_any w)
  clear ha
  rcases Of_or A a n c hn.symm with ⟨f, sa⟩ | bad
  · have SA := Lib.hid sa
    have n0 := sa.r0
    have n5 := sa.r5
    clear hn sa
    go_enter Try.func6, Try.ntmps6
    go_wp2_with fail
    refine (FA.out).mono ?_; rintro e w1 ⟨rfl, k1⟩
    have K1 := Lib.hid k1; clear k1
    go_wp2_with fail
    refine (Of_sh SA.out c w1 (HA.out.keep K1.out)).mono ?_; rintro e w2 ⟨rfl, k2⟩
    have K2 := Lib.hid (K1.out.trans k2); clear k2
    obtain ⟨x, hx⟩ : ∃ x, x = ((Mx.dt n f).val : Int) := ⟨_, rfl⟩
    rw [← hx]
    have HX := Lib.hid hx
    clear hx
    go_wp2_with fail
    refine (Rank_sh SA.out c w2 (HA.out.keep K2.out)).mono ?_; rintro e w3 ⟨b, g, st, rfl, k3⟩
    have K3 := Lib.hid (K2.out.trans k3); have ST := Lib.hid st
    clear k3 st
    obtain ⟨p, hp⟩ : ∃ p, p = b.length := ⟨_, rfl⟩
    rw [← hp]
    have HP := Lib.hid hp
    clear hp
    go_wp2_with fail
    refine (Null_sh SA.out c w3 (HA.out.keep K3.out)).mono ?_; rintro e w4 ⟨b2, g2, A1, d1, st2, rfl, l1, k4⟩
    have K4 := Lib.hid (K3.out.trans k4)
    have e1 := (ST.out.one st2).1
    have hcnt := st2.steps.count
    rw [← e1] at hcnt ⊢
    obtain ⟨q, hq⟩ : ∃ q, q = (Mx.fr b n).length := ⟨_, rfl⟩
    rw [← hq, ← HP.out] at hcnt
    rw [← hq]
    have hd := ST.out.dt
    rw [← HP.out] at hd
    have e2 : (x == 0) = decide (p < n) := by
      by_cases h0 : p < n
      · have : x = 0 := by rw [HX.out, hd.2 h0]; rfl
        rw [this]; simp [h0]
      · have : x ≠ 0 := fun e => h0 (hd.1 (Fp.val_inj (by rw [← HX.out, e]; rfl)))
        rw [beq_false_of_ne this]; simp [h0]
    have e3 : decide (0 < q) = decide (p < n) := by
      by_cases h0 : p < n
      · have : 0 < q := by omega
        simp [h0, this]
      · have : ¬ 0 < q := by omega
        simp [h0, this]
    clear st2 l1 k4 e1 hcnt hq hd
    by_cases h0 : p < n
    · have e4 : (x == 0) = true := by rw [e2]; simp [h0]
      have e5 : 0 < q := by simpa [h0] using e3
      clear e2 e3
      go_wp2_with fail
      go_ret
      exact ⟨ret_bool (by simp), K4.out⟩
    · have e4 : (x == 0) = false := by rw [e2]; simp [h0]
      have e5 : ¬ 0 < q := by simpa [h0] using e3
      clear e2 e3
      go_wp2_with fail
      go_ret
      exact ⟨ret_bool (by simp), K4.out⟩
  · have BAD := Lib.hid bad
    clear hn bad
    go_enter Try.func6, Try.ntmps6
    go_wp2_with fail
    refine (FA.out).mono ?_; rintro e w1 ⟨rfl, k1⟩
    have K1 := Lib.hid k1; clear k1
    go_wp2_with fail
    refine (BAD.out w1 (HA.out.keep K1.out)).mono ?_; rintro e w2 ⟨z, rfl, k2⟩
    have K2 := Lib.hid (K1.out.trans k2); clear k2
    go_wp2_with fail
    go_ret
    exact ⟨rfl, K2.out⟩

end Go.Proofs.Ytfjajcfcbjmbpaa
