/- The law MinorsLaplace. -/
import Derived.Test.YtmkjfoecofeioaaDoorMiFact
import Derived.Test.YtmkjfoecofeioaaDoorLawIn
import Derived.Test.YtmkjfoecofeioaaDoorMxRef4
import Derived.Test.YtmkjfoecofeioaaDoorErrG
namespace Go.Proofs.YtmkjfoecofeioaaDoor
open Go.ChangeShapes Go.WideShapes Go.ChangeAt Go.RowKit
set_option linter.unusedVariables false

theorem in_el' (x : Fp.F) : (decide ((0 : Int) ≤ (x.val : Int)) && decide ((x.val : Int) ≤ 9972)) = true := by
  have := rval x
  simp; omega
/-- What a place adds. -/
theorem lap_step (s x d : Fp.F) (k : Nat) : ((s.val : Int) + (x.val : Int) * (sgnI k * (d.val : Int))) % 9973 = ((s + Mx.sgn k * x * d).val : Int) := by
  rw [← Fp.ofInt_val, Fp.ofInt_add, Fp.ofInt_mul, Fp.ofInt_mul, Fp.ofInt_self, Fp.ofInt_self, Fp.ofInt_self, sgnI_F]
  congr 2; grind
theorem lap_bound (x d : Fp.F) (k : Nat) : (-9972 ≤ sgnI k * (d.val : Int) ∧ sgnI k * (d.val : Int) ≤ 9972) ∧ -99440784 ≤ (x.val : Int) * (sgnI k * (d.val : Int)) ∧ (x.val : Int) * (sgnI k * (d.val : Int)) ≤ 99440784 := by
  have h := rprod x d
  have hx := rval d
  rcases sgnI_some k with e | e
  · rw [e, Int.one_mul]; omega
  · rw [e, Int.neg_one_mul, Int.mul_neg]; omega

set_option maxRecDepth 100000 in
set_option maxHeartbeats 6400000 in
theorem lap_good (A : Option Addr) (a : List (List Int)) (c : Nat) (f : Nat → Nat → Fp.F) (n r p q : Nat) (w : World) (ha : LiesM w A a) (sa : Sh n n f a) (hr : n = r + 1) (hp : p ≤ r) (hq : q ≤ r) :
    Calls Tryd.prog 4 #[.slice A n c, .int .i64 (p : Int), .int .i64 (q : Int)] w fun e w' => e = .returned (.bool true) ∧ Kp w w' := by
  have HA := Lib.hid ha
  have FA := Lib.hid (minorsFact_any w)
  have n0 := sa.r0
  have n5 := sa.r5
  have HL := Lib.hid (show (Mx.sg n fun j => Mx.sgn (p + j) * f q j * Mx.dt r (wo f p j)) = if p = q then Mx.dt n f else 0 by rw [hr]; exact Mx.laplace_other r p q f hp hq)
  have OA := Lib.hid (fun w h => Of_sh (A := A) sa c w h)
  have MO := Lib.hid (fun (j : Nat) (w : World) (h : LiesM w A a) (hj : j < n) => MOf_sh (A := A) sa hr hp (show j ≤ r by omega) c w h)
  have IP := Lib.hid (fun w => law2In_any (p : Int) 0 ((n : Int) - 1) w true (by simp; omega))
  have IQ := Lib.hid (fun w => law2In_any (q : Int) 0 ((n : Int) - 1) w true (by simp; omega))
  have hm := ha
  rw [sa.eq] at hm
  have HM := Lib.hid hm
  have hqn : q < n := by omega
  have hp5 : p ≤ 5 := by omega
  obtain ⟨x, hx⟩ : ∃ x, x = Mx.dt n f := ⟨_, rfl⟩
  rw [← hx] at OA HL
  clear ha hm sa hr hp hq hx
  go_enter Tryd.func4, Tryd.ntmps4
  go_wp2_with fail
  refine (FA.out).mono ?_; rintro e w1 ⟨rfl, k1⟩
  have K1 := Lib.hid k1; clear k1
  go_wp2_with fail
  refine (OA.out w1 (HA.out.keep K1.out)).mono ?_; rintro e w2 ⟨rfl, k2⟩
  have K2 := Lib.hid (K1.out.trans k2); clear k2
  go_wp2_with fail
  refine (IP.out w2).mono ?_; rintro e w3 ⟨rfl, rfl⟩
  go_wp2_with fail
  refine (IQ.out w2).mono ?_; rintro e w3 ⟨rfl, rfl⟩
  go_wp2_with fail
  go_loopw [12, 13, 14, 15] (fun s i _ _ wr => ∃ k : Nat, k ≤ n ∧ i = .int .i64 (k : Int) ∧ s = .int .i64 ((Mx.sg k fun j => Mx.sgn (p + j) * f q j * Mx.dt r (wo f p j)).val : Int) ∧ Kp w2 wr) (fun _ i _ _ _ => n - (intOf i).toNat)
  case atStart => exact ⟨0, Nat.zero_le _, rfl, rfl, Kp.rfl' _⟩
  case round =>
    obtain ⟨k, hk, rfl, rfl, hkp⟩ := hrel
    have HK := Lib.hid hkp
    clear hkp
    by_cases hlt : k < n
    · have M1 := Lib.hid (MO.out k wr (HA.out.keep (K2.out.trans HK.out)) hlt)
      obtain ⟨s, hs⟩ : ∃ s, s = Mx.sg k fun j => Mx.sgn (p + j) * f q j * Mx.dt r (wo f p j) := ⟨_, rfl⟩
      rw [← hs]
      have hs2 : (Mx.sg (k + 1) fun j => Mx.sgn (p + j) * f q j * Mx.dt r (wo f p j)) = s + Mx.sgn (p + k) * f q k * Mx.dt r (wo f p k) := by rw [Mx.sg_succ, hs]
      have hst := lap_step s (f q k) (Mx.dt r (wo f p k)) (p + k)
      rw [← hs2] at hst
      have hbd := lap_bound (f q k) (Mx.dt r (wo f p k)) (p + k)
      have hsv := rval s
      have ID := Lib.hid (fun w => law2In_any ((Mx.dt r (wo f p k)).val : Int) 0 9972 w true (in_el' _))
      obtain ⟨ad, A0, d0, rfl, hl0, x1, _, l1⟩ := (HM.out.keep (K2.out.trans HK.out)).row hqn
      obtain ⟨ad1, rfl, hl1, x2⟩ := l1.el hlt
      have X1 := Lib.hid x1
      have X2 := Lib.hid x2
      have hwp : IntKind.i64.wrap ((p : Int) + (k : Int)) = (p : Int) + (k : Int) := IntWalk.i64_in _ (by omega)
      obtain ⟨u, hu⟩ : ∃ u, u = ((Mx.sg (k + 1) fun j => Mx.sgn (p + j) * f q j * Mx.dt r (wo f p j)).val : Int) := ⟨_, rfl⟩
      rw [← hu] at hst
      have HU := Lib.hid hu
      have hdv := rval (Mx.dt r (wo f p k))
      generalize (s.val : Int) = sv at *
      generalize ((Mx.dt r (wo f p k)).val : Int) = dv at *
      by_cases hpar : (p + k) % 2 = 1
      · have e1 := par_odd hpar
        have hsg : sgnI (p + k) = -1 := by unfold sgnI; rw [if_neg (by omega)]
        rw [hsg, Int.neg_one_mul] at hst hbd
        obtain ⟨y, hy⟩ : ∃ y, y = -dv := ⟨_, rfl⟩
        rw [← hy] at hst hbd
        have hw1 : IntKind.i64.wrap (-dv) = y := by rw [hy]; exact IntWalk.i64_in _ (by omega)
        generalize ((f q k).val : Int) = xv at *
        obtain ⟨z, hz⟩ : ∃ z, z = xv * y := ⟨_, rfl⟩
        rw [← hz] at hst hbd
        have hw2 : IntKind.i64.wrap (xv * y) = z := by rw [← hz]; exact IntWalk.i64_in _ (by omega)
        have hw3 : IntKind.i64.wrap (sv + z) = sv + z := IntWalk.i64_in _ (by omega)
        have RM := Lib.hid (fun w => rMod_any (sv + z) w (by omega) (by omega))
        rw [hst] at RM
        clear hs hs2 hst hbd hsv hu hdv hpar hsg hy hz x1 x2 l1
        go_wp2_with fail
        refine (M1.out).mono ?_; rintro e w3 ⟨rfl, k3⟩
        have x1 := (k3.cell (p := ad.add q) (by rw [block_add]; exact hl0)).trans X1.out
        have x2 := (k3.cell (p := ad1.add k) (by rw [block_add]; exact hl1)).trans X2.out
        have K3 := Lib.hid (HK.out.trans k3); clear k3
        go_wp2_with fail
        refine (ID.out w3).mono ?_; rintro e w4 ⟨rfl, rfl⟩
        go_wp2_with fail
        refine (RM.out w3).mono ?_; rintro e w4 ⟨rfl, rfl⟩
        go_wp2_with fail
        go_roundw
        case rel => exact ⟨k + 1, by omega, by go_num, by rw [HU.out], K3.out⟩
        case measure => simp [intOf]; omega
      · have hpar' : (p + k) % 2 = 0 := by omega
        have e1 := par_even hpar'
        have hsg : sgnI (p + k) = 1 := by unfold sgnI; rw [if_pos hpar']
        rw [hsg, Int.one_mul] at hst hbd
        generalize ((f q k).val : Int) = xv at *
        obtain ⟨z, hz⟩ : ∃ z, z = xv * dv := ⟨_, rfl⟩
        rw [← hz] at hst hbd
        have hw2 : IntKind.i64.wrap (xv * dv) = z := by rw [← hz]; exact IntWalk.i64_in _ (by omega)
        have hw3 : IntKind.i64.wrap (sv + z) = sv + z := IntWalk.i64_in _ (by omega)
        have RM := Lib.hid (fun w => rMod_any (sv + z) w (by omega) (by omega))
        rw [hst] at RM
        clear hs hs2 hst hbd hsv hu hdv hpar hpar' hsg hz x1 x2 l1
        go_wp2_with fail
        refine (M1.out).mono ?_; rintro e w3 ⟨rfl, k3⟩
        have x1 := (k3.cell (p := ad.add q) (by rw [block_add]; exact hl0)).trans X1.out
        have x2 := (k3.cell (p := ad1.add k) (by rw [block_add]; exact hl1)).trans X2.out
        have K3 := Lib.hid (HK.out.trans k3); clear k3
        go_wp2_with fail
        refine (ID.out w3).mono ?_; rintro e w4 ⟨rfl, rfl⟩
        go_wp2_with fail
        refine (RM.out w3).mono ?_; rintro e w4 ⟨rfl, rfl⟩
        go_wp2_with fail
        go_roundw
        case rel => exact ⟨k + 1, by omega, by go_num, by rw [HU.out], K3.out⟩
        case measure => simp [intOf]; omega
    · obtain rfl : k = n := by omega
      rw [HL.out]
      by_cases hpq : p = q
      · subst hpq
        rw [if_pos rfl]
        have e0 : ((p : Int) == (p : Int)) = true := by simp
        have e2 : ((x.val : Int) == (x.val : Int)) = true := by simp
        go_wp2_with fail
        go_ret
        exact ⟨ret_bool (by simp), K2.out.trans HK.out⟩
      · rw [if_neg hpq]
        have e0 : ((p : Int) == (q : Int)) = false := by rw [beq_eq_false_iff_ne]; omega
        have e2 : ((p : Int) != (q : Int)) = true := by rw [bne_iff_ne]; omega
        have e3 : (((0 : Fp.F).val : Nat) : Int) = 0 := rfl
        rw [e3]
        clear hpq
        go_wp2_with fail
        go_ret
        exact ⟨ret_bool (by simp), K2.out.trans HK.out⟩

set_option maxRecDepth 100000 in
set_option maxHeartbeats 6400000 in
theorem lap_out (A : Option Addr) (a : List (List Int)) (c : Nat) (f : Nat → Nat → Fp.F) (n : Nat) (i k : Int) (w : World) (hl : Told.Laid w) (ha : LiesM w A a) (sa : Sh n n f a) (ho : ¬ ((0 ≤ i ∧ i ≤ (n : Int) - 1) ∧ 0 ≤ k ∧ k ≤ (n : Int) - 1)) :
    Calls Tryd.prog 4 #[.slice A n c, .int .i64 i, .int .i64 k] w fun e w' => e = .returned (.bool true) ∧ Kp w w' := by
  have HA := Lib.hid ha
  have FA := Lib.hid (minorsFact_any w)
  have OA := Lib.hid (fun w h => Of_sh (A := A) sa c w h)
  have MO := Lib.hid (fun w h => MOf_not (A := A) (i := i) (j := k) sa (by omega) c w h)
  have ER := Lib.hid (fun (wx : World) (hx : Kp w wx) => error_says 1 wx (laid_kp hl hx) (by decide))
  rw [errOf_ne 1 (by decide)] at MO ER
  have n5 := sa.r5
  generalize Mx.dt n f = x at *
  clear ha sa hl
  by_cases hi : 0 ≤ i ∧ i ≤ (n : Int) - 1
  · have IP := Lib.hid (fun w => law2In_any i 0 ((n : Int) - 1) w true (by simp; omega))
    have IQ := Lib.hid (fun w => law2In_any k 0 ((n : Int) - 1) w false (by simp; omega))
    clear hi ho
    go_enter Tryd.func4, Tryd.ntmps4
    go_wp2_with fail
    refine (FA.out).mono ?_; rintro e w1 ⟨rfl, k1⟩
    have K1 := Lib.hid k1; clear k1
    go_wp2_with fail
    refine (OA.out w1 (HA.out.keep K1.out)).mono ?_; rintro e w2 ⟨rfl, k2⟩
    have K2 := Lib.hid (K1.out.trans k2); clear k2
    go_wp2_with fail
    refine (IP.out w2).mono ?_; rintro e w3 ⟨rfl, rfl⟩
    go_wp2_with fail
    refine (IQ.out w2).mono ?_; rintro e w3 ⟨rfl, rfl⟩
    go_wp2_with fail
    refine (MO.out w2 (HA.out.keep K2.out)).mono ?_; rintro e w3 ⟨rfl, k3⟩
    have K3 := Lib.hid (K2.out.trans k3); clear k3
    go_wp2_with fail
    refine (ER.out w3 K3.out).mono ?_; rintro e w4 ⟨rfl, k4⟩
    have K4 := Lib.hid (K3.out.trans k4); clear k4
    go_wp2_with fail
    go_ret
    exact ⟨rfl, K4.out⟩
  · have IP := Lib.hid (fun w => law2In_any i 0 ((n : Int) - 1) w false (by simp; omega))
    clear hi ho
    go_enter Tryd.func4, Tryd.ntmps4
    go_wp2_with fail
    refine (FA.out).mono ?_; rintro e w1 ⟨rfl, k1⟩
    have K1 := Lib.hid k1; clear k1
    go_wp2_with fail
    refine (OA.out w1 (HA.out.keep K1.out)).mono ?_; rintro e w2 ⟨rfl, k2⟩
    have K2 := Lib.hid (K1.out.trans k2); clear k2
    go_wp2_with fail
    refine (IP.out w2).mono ?_; rintro e w3 ⟨rfl, rfl⟩
    go_wp2_with fail
    refine (MO.out w2 (HA.out.keep K2.out)).mono ?_; rintro e w3 ⟨rfl, k3⟩
    have K3 := Lib.hid (K2.out.trans k3); clear k3
    go_wp2_with fail
    refine (ER.out w3 K3.out).mono ?_; rintro e w4 ⟨rfl, k4⟩
    have K4 := Lib.hid (K3.out.trans k4); clear k4
    go_wp2_with fail
    go_ret
    exact ⟨rfl, K4.out⟩

set_option maxRecDepth 100000 in
set_option maxHeartbeats 3200000 in
theorem walk_MinorsLaplace (A : Option Addr) (a : List (List Int)) (c : Nat) (i k : Int) (w : World) (hl : Told.Laid w) (ha : LiesM w A a) :
    Calls Tryd.prog 4 #[.slice A a.length c, .int .i64 i, .int .i64 k] w fun e w' => e = .returned (.bool true) ∧ Kp w w' := by
  rcases Of_or A a a.length c rfl with ⟨f, sa⟩ | bad
  · have n0 := sa.r0
    by_cases h : (0 ≤ i ∧ i ≤ (a.length : Int) - 1) ∧ 0 ≤ k ∧ k ≤ (a.length : Int) - 1
    · obtain ⟨p, rfl⟩ : ∃ p : Nat, i = (p : Int) := ⟨i.toNat, by omega⟩
      obtain ⟨q, rfl⟩ : ∃ q : Nat, k = (q : Int) := ⟨k.toNat, by omega⟩
      exact lap_good A a c f a.length (a.length - 1) p q w ha sa (by omega) (by omega) (by omega)
    · exact lap_out A a c f a.length i k w hl ha sa h
  · have HA := Lib.hid ha
    have FA := Lib.hid (minorsFact_any w)
    have BAD := Lib.hid bad
    clear bad hl ha
    generalize a.length = n at *
    go_enter Tryd.func4, Tryd.ntmps4
    go_wp2_with fail
    refine (FA.out).mono ?_; rintro e w1 ⟨rfl, k1⟩
    have K1 := Lib.hid k1; clear k1
    go_wp2_with fail
    refine (BAD.out w1 (HA.out.keep K1.out)).mono ?_; rintro e w2 ⟨z, rfl, k2⟩
    have K2 := Lib.hid (K1.out.trans k2); clear k2
    go_wp2_with fail
    go_ret
    exact ⟨rfl, K2.out⟩

end Go.Proofs.YtmkjfoecofeioaaDoor
