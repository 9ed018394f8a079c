/- Several texts, one behind the other: SmDiv. -/
import Derived.Test.YtmimbioffnolaaaSmithDividesProofG3

/- The law SmithDivides (made by tools/gen_SmDiv.py). -/
namespace Go.Proofs.Ytmimbioffnolaaa
open Go.ChangeShapes Go.WideShapes Go.ChangeAt Go.RowKit
set_option linter.unusedVariables false

/-- The parts: from 1 to the determinant, each a multiple of the one before; their products too. -/
theorem part_small {n : Nat} {x : Nat → Nat → Int} {m : List (List Int)} (s : Hm n x m) {t : Nat} (ht : t < n) : (1 ≤ (Zx.spp n x).getD t 0 ∧ (Zx.spp n x).getD t 0 ≤ 48000) ∧ 1 ≤ Zx.pr (t + 1) (fun i => (Zx.spp n x).getD i 0) ∧ Zx.pr (t + 1) (fun i => (Zx.spp n x).getD i 0) ≤ 48000 := by
  have PT := Zx.spp_pts s.sh.n0 s.sh.n3 s.ne
  have TW := Zx.dt_twenty s.sh.n3 s.sh.small
  unfold Zx.ab at TW
  have h1 := PT.pos t ht
  have h2 := prz_pos (g := fun i => (Zx.spp n x).getD i 0) (k := t) fun i hi => PT.pos i (by omega)
  have h3 := PT.prod
  have h6 := prz_le (g := fun i => (Zx.spp n x).getD i 0) (k := t + 1) (n - (t + 1)) fun i hi => PT.pos i (by omega)
  rw [show t + 1 + (n - (t + 1)) = n by omega, h3] at h6
  have h4 : Zx.pr (t + 1) (fun i => (Zx.spp n x).getD i 0) = Zx.pr t (fun i => (Zx.spp n x).getD i 0) * (Zx.spp n x).getD t 0 := rfl
  have h5 := Int.mul_le_mul h2 (Int.le_refl ((Zx.spp n x).getD t 0)) (by omega) (by omega)
  have h7 := prz_pos (g := fun i => (Zx.spp n x).getD i 0) (k := t + 1) fun i hi => PT.pos i (by omega)
  exact ⟨⟨h1, by omega⟩, h7, by omega⟩
set_option maxRecDepth 100000 in
set_option maxHeartbeats 6400000 in
theorem walk_SmithDivides_row {n : Nat} {x : Nat → Nat → Int} {m : List (List Int)} (s : Hm n x m) (A : Option Addr) (c i j : Nat) (k : Int) (w : World) (ha : LiesM w A m) (hi : i < n) (hj : j < n) (hij : i ≠ j) (hk : -20 ≤ k ∧ k ≤ 20) :
    Calls Try.prog 3 #[.slice A n c, .int .i64 (i : Int), .int .i64 (j : Int), .int .i64 k, .bool false] w fun e w' => e = .returned (.bool true) ∧ Kp w w' := by
  have HA := Lib.hid ha
  have FA := Lib.hid (smithFact_any w)
  have OA := Lib.hid (fun w h => Parts_ok s A c w h)
  have n3 := s.sh.n3
  have n0 := s.sh.n0
  have DT := Lib.hid (fun w' (k : Kp w w') => s.sh.det A c w' (ha.keep k))
  have PT := Zx.spp_pts s.sh.n0 s.sh.n3 s.ne
  have TW := Zx.dt_twenty s.sh.n3 s.sh.small
  unfold Zx.ab at TW
  have AB := Lib.hid (fun w => show Calls Try.prog 9 #[.int .i64 (Zx.dt n x)] w fun e w' => e = .returned (.int .i64 ((Zx.dt n x).natAbs : Int)) ∧ w = w' from absZ_any (Zx.dt n x) w (by omega) (by omega))
  obtain ⟨sp, hsp⟩ : ∃ sp, sp = Zx.spp n x := ⟨_, rfl⟩
  obtain ⟨P, hP⟩ : ∃ P : Nat → Int, P = fun k => Zx.pr k (fun i => (Zx.spp n x).getD i 0) := ⟨_, rfl⟩
  have P0 := Lib.hid (show P 0 = 1 by rw [hP]; rfl)
  have PS := Lib.hid (show ∀ k, P k * sp.getD k 0 = P (k + 1) by rw [hP, hsp]; exact fun k => rfl)
  have PN := Lib.hid (show P n = ((Zx.dt n x).natAbs : Int) by rw [hP]; exact PT.prod)
  have SB := Lib.hid (show ∀ t, t < n → (1 ≤ sp.getD t 0 ∧ sp.getD t 0 ≤ 48000) ∧ 1 ≤ P (t + 1) ∧ P (t + 1) ≤ 48000 by rw [hP, hsp]; exact fun t ht => part_small s ht)
  have SD := Lib.hid (show ∀ t, t + 1 < n → (sp.getD (t + 1) 0).tmod (sp.getD t 0) = 0 by rw [hsp]; exact fun t ht => Int.tmod_eq_zero_of_dvd (PT.dvd t ht))
  have SL := Lib.hid (show sp.length = n by rw [hsp]; exact PT.len)
  have OP := Lib.hid (fun w (h : LiesM w A m) => show Calls Try.prog 7 #[.slice A n c] w fun e w' => ∃ g, e = .returned (.tuple #[.slice (some ⟨g, 0, none⟩) n n, .nilIface]) ∧ Row w' g sp ∧ w.heap.size ≤ g ∧ Kp w w' from by rw [hsp]; exact Parts_ok s A c w h)
  have IN0 := Lib.hid (fun (y : Int) (h : 1 ≤ y ∧ y ≤ 48000) w => law4In_any y 1 100000 w true (by simp; omega))
  have hw1 : IntKind.i64.wrap ((n : Int) - 1) = (n : Int) - 1 := IntWalk.i64_in _ (by omega)
  have e8 : ((n : Int) != (n : Int)) = false := by simp
  have SM := Lib.hid s.sh.ab
  have HT := Lib.hid (fun w' (k : Kp w w') => show LiesM w' A (Mx.tab n n x) from by rw [← s.sh.eq]; exact ha.keep k)
  have JN1 := Lib.hid (fun w => law4In_any (i : Int) 0 ((n : Int) - 1) w true (by simp; omega))
  have JN2 := Lib.hid (fun w => law4In_any (j : Int) 0 ((n : Int) - 1) w true (by simp; omega))
  have JN3 := Lib.hid (fun w => law4In_any k (-20) 20 w true (by simp; omega))
  have eij : ((i : Int) == (j : Int)) = false := by rw [beq_eq_false_iff_ne]; omega
  obtain ⟨y, hy⟩ : ∃ y, y = Zx.setr i (nxr i j k x) x := ⟨_, rfl⟩
  have SPE := Lib.hid (show Zx.spp n y = sp by
    rw [hsp, hy]
    exact ((nxr_eql x hi hj k).symm.spp n0 n3 s.ne).symm)
  have DY := Lib.hid (show Zx.dt n y ≠ 0 by
    have h1 := (nxr_eql x hi hj k).det
    have h2 := s.ne
    rw [hy]
    omega)
  have YV := Lib.hid (show ∀ r q, y r q = if r = i then x i q + k * x j q else x r q by
    intro r q
    rw [hy]
    by_cases e : r = i
    · rw [if_pos e, e, Zx.setr_at]; exact if_neg hij
    · rw [if_neg e, Zx.setr_ne e])
  have HK := Lib.hid hk
  clear ha s hy hk hsp hP TW PT hij
  go_enter Try.func3, Try.ntmps3
  go_wp2_with fail
  refine (FA.out).mono ?_; rintro e w1 ⟨rfl, k1⟩
  have K1 := Lib.hid k1; clear k1
  go_wp2_with fail
  refine (OP.out w1 (HA.out.keep K1.out)).mono ?_; rintro e w2 ⟨g, rfl, hr, hg, k2⟩
  have HR := Lib.hid hr
  have K2 := Lib.hid (K1.out.trans k2)
  clear k2 hr hg FA OP OA
  go_wp2_with fail
  go_loopw [15, 16] (fun v t wr => ∃ k' : Nat, k' ≤ n ∧ t = .int .i64 (k' : Int) ∧ v = .int .i64 (P k') ∧ Kp w2 wr) (fun _ t _ => n - (intOf t).toNat)
  case atStart => exact ⟨0, Nat.zero_le _, rfl, by rw [P0.out], Kp.rfl' _⟩
  case round =>
    obtain ⟨t, ht, rfl, rfl, hkp⟩ := hrel
    have HQ := Lib.hid hkp
    by_cases hlt : t < n
    · have x1 := (HR.out.keep hkp).cell t (by rw [SL.out]; exact hlt)
      have sb := SB.out t hlt
      have STP := Lib.hid (PS.out t)
      have hwp : IntKind.i64.wrap (P t * sp.getD t 0) = P (t + 1) := by rw [STP.out]; exact IntWalk.i64_in _ (by omega)
      by_cases h0 : t = 0
      · subst h0
        have dz : decide (0 < 0) = false := by decide
        generalize sp.getD 0 0 = y at *
        have IN1 := Lib.hid (IN0.out y sb.1)
        clear sb hkp
        go_wp2_with fail
        go_quiet ((first
          | (with_reducible exact quiet_here (IN1.out _))
          | (with_reducible exact quiet_more (IN1.out _))))
        go_wp2_with fail
        go_roundw
        case rel => exact ⟨0 + 1, by omega, by go_num, rfl, HQ.out.drewN _⟩
        case measure => simp [intOf]; omega
      · obtain ⟨t0, ht0⟩ : ∃ t0, t0 + 1 = t := ⟨t - 1, by omega⟩
        have x2 := (HR.out.keep hkp).cell t0 (by rw [SL.out]; omega)
        have sb0 := SB.out t0 (by omega)
        have sd := SD.out t0 (by omega)
        rw [ht0] at sd
        have dz : decide (0 < t) = true := decide_eq_true (by omega)
        have hwt : IntKind.i64.wrap ((t : Int) - 1) = (t0 : Int) := by rw [show (t : Int) - 1 = (t0 : Int) by omega]; exact IntWalk.i64_in _ (by omega)
        have tt : t0 < n := by omega
        generalize sp.getD t 0 = y at *
        generalize sp.getD t0 0 = z at *
        have IN1 := Lib.hid (IN0.out y sb.1)
        have nz : z ≠ 0 := by omega
        have nb : (z == 0) = false := by rw [beq_eq_false_iff_ne]; exact nz
        clear sb sb0 hkp ht0 h0
        go_wp2_with fail
        go_quiet ((first
          | (with_reducible exact quiet_here (IN1.out _))
          | (with_reducible exact quiet_more (IN1.out _))))
        go_wp2_with fail
        go_roundw
        case rel => exact ⟨t + 1, by omega, by go_num, rfl, HQ.out.drewN _⟩
        case measure => simp [intOf]; omega
    · obtain rfl : n = t := by omega
      have K3 := Lib.hid (K2.out.trans hkp)
      have HR3 := Lib.hid (HR.out.keep hkp)
      rw [PN.out]
      obtain ⟨w3, hw3⟩ : ∃ x, x = wr := ⟨_, rfl⟩
      subst hw3
      clear hkp HR HQ
      go_wp2_with fail
      refine (DT.out w3 K3.out).mono ?_; rintro e w4 ⟨rfl, k4⟩
      have K4 := Lib.hid (K3.out.trans k4)
      have HR4 := Lib.hid (HR3.out.keep k4)
      clear k4 HR3
      go_wp2_with fail
      refine (AB.out w4).mono ?_; rintro e w4' ⟨rfl, rfl⟩
      go_wp2_with fail
      refine (JN1.out _).mono ?_; rintro e w5 ⟨rfl, rfl⟩
      go_wp2_with fail
      refine (JN2.out _).mono ?_; rintro e w5 ⟨rfl, rfl⟩
      go_wp2_with fail
      refine (JN3.out _).mono ?_; rintro e w5 ⟨rfl, rfl⟩
      have CP := Lib.hid (rCopyZ_any A x n n c w4 (HT.out w4 K4.out) n0 (by omega) (by omega))
      go_wp2_with fail
      refine (CP.out).mono ?_; rintro e w5 ⟨v, G2, C2, rfl, o5, k5⟩
      obtain ⟨g2, cap2, rfl, hnc2⟩ := ownM_slice o5 (Mx.len_tab _ _ _) n0
      have HO5 := Lib.hid o5
      have K45 := Lib.hid k5
      clear o5 k5 CP JN1 JN2 JN3 AB DT P0 PS PN SB SD
      go_wp2_with fail
      go_loopw [18] (fun t wr => ∃ k' : Nat, k' ≤ n ∧ t = .int .i64 (k' : Int) ∧ OwnM wr w4.heap.size (.slice (some ⟨g2, 0, none⟩) n cap2) G2 C2 (Mx.tab n n fun r q => if (r = i ∧ q < k') then x i q + k * x j q else x r q) ∧ Kp w4 wr) (fun t _ => n - (intOf t).toNat)
      case atStart => exact ⟨0, Nat.zero_le _, rfl, HO5.out.ext (fun r q _ _ => by rw [if_neg (by omega)]), K45.out⟩
      case round =>
        clear HO5 K45
        obtain ⟨t, ht, rfl, ho, hkp⟩ := hrel
        have HO := Lib.hid ho
        have HQ := Lib.hid hkp
        by_cases hlt : t < n
        · obtain ⟨ad, A1, d1, rfl, _, x1, _, l1⟩ := (HT.out wr (K4.out.trans hkp)).row hi
          obtain ⟨ad1, rfl, _, x2⟩ := l1.el hlt
          obtain ⟨ad', A2, d2, ea, _, x3, _, l2⟩ := (HT.out wr (K4.out.trans hkp)).row hj
          obtain rfl := Option.some.inj ea
          obtain ⟨ad2, rfl, _, x4⟩ := l2.el hlt
          have si := SM.out i t hi hlt
          have sj := SM.out j t hj hlt
          have y1 := ho.weak.head hi
          have y2 := ho.weak.el hi hlt
          rw [if_neg (by omega)] at y2
          have y3 := ho.weak.free hi t
          have hkk := HK.out
          obtain ⟨z, hz⟩ : ∃ z, z = x i t + k * x j t := ⟨_, rfl⟩
          have HP := Lib.hid (ho.put hi t z)
          have HE := Lib.hid (show ∀ r q, (if r = i ∧ q = t then z else if (r = i ∧ q < t) then x i q + k * x j q else x r q) = if (r = i ∧ q < t + 1) then x i q + k * x j q else x r q from fun r q => by
            by_cases e : r = i ∧ q = t
            · rw [if_pos e, if_pos (by omega), hz]; (try rw [e.1]); (try rw [e.2])
            · rw [if_neg e]
              by_cases e2 : (r = i ∧ q < t)
              · rw [if_pos e2, if_pos (by omega)]
              · rw [if_neg e2, if_neg (by omega)])
          have hsz : w4.heap.size ≤ G2 i := (ho.weak.lt hi).1
          have HQ2 := Lib.hid ((hkp.drewN 1).put (p := ⟨G2 i, t, none⟩) hsz (.int .i64 z))
          have tb := times_small hkk sj
          have hwm : IntKind.i64.wrap (k * x j t) = k * x j t := IntWalk.i64_in _ (by omega)
          have hwn : IntKind.i64.wrap (x i t + k * x j t) = z := by rw [hz]; exact IntWalk.i64_in _ (by omega)
          generalize x i t = xi at *
          generalize x j t = xj at *
          clear ho hkp l1 l2 hz si sj hkk hsz tb
          go_wp2_with fail
          go_still_tail 23, (by kernel_rfl)
          change wpList _ _ _ _ _ wr.drew
          go_wp2_with fail
          go_roundw
          case rel => exact ⟨t + 1, by omega, by go_num, (HP.out.kp ((Kp.rfl' _).drewN 1)).ext (fun r q _ _ => HE.out r q), HQ2.out⟩
          case measure => simp [intOf]; omega
        · obtain rfl : n = t := by omega
          have LN := Lib.hid (show LiesM wr (some ⟨g2, 0, none⟩) (Mx.tab n n y) from (ho.ext (f' := y) fun r q hr hq => by
            rw [YV.out]
            by_cases e : r = i
            · rw [if_pos ⟨e, hq⟩, if_pos e]
            · rw [if_neg (fun h => e h.1), if_neg e]).liesM)
          have K6 := Lib.hid (K4.out.trans hkp)
          have HR6 := Lib.hid (HR4.out.keep hkp)
          clear ho hkp HO HQ HR4
          rcases hm_tab y n0 n3 DY.out with SY | bad
          · have FO := Lib.hid (Parts_ok SY (some ⟨g2, 0, none⟩) cap2 wr LN.out)
            clear SY
            go_wp2_with fail
            refine (FO.out).mono ?_; rintro e w7 ⟨g3, rfl, hr3, _, k7⟩
            rw [SPE.out] at hr3
            have EQ := Lib.hid (same_eq (some ⟨g3, 0, none⟩) (some ⟨g, 0, none⟩) sp sp n n n n w7 hr3.lies (HR6.out.keep k7).lies SL.out.symm SL.out.symm (by omega) rfl)
            have K7 := Lib.hid (K6.out.trans k7)
            clear k7 FO hr3
            go_wp2_with fail
            refine (EQ.out).mono ?_; rintro e w9 ⟨rfl, k9⟩
            have K9 := Lib.hid (K7.out.trans k9)
            clear k9
            go_wp2_with fail
            go_ret
            exact ⟨rfl, K9.out⟩
          · have FN := Parts_no (some ⟨g2, 0, none⟩) (Mx.tab n n y) n cap2 wr LN.out (Mx.len_tab _ _ _) (by omega)
            rw [bad, errOf_ne 1 (by decide)] at FN
            have FO := Lib.hid FN
            have HRR := Lib.hid (fun w' (k : Kp wr w') => show Calls Try.prog 12 #[.slice (some ⟨g2, 0, none⟩) n cap2] w' fun e w'' => e = .returned (.int .i64 1) ∧ Kp w' w'' from by
              have := rHRows_any (some ⟨g2, 0, none⟩) (Mx.tab n n y) n cap2 w' (LN.out.keep k) (Mx.len_tab _ _ _)
              rwa [bad] at this)
            clear FN bad
            go_wp2_with fail
            refine (FO.out).mono ?_; rintro e w7 ⟨rfl, k7⟩
            have K7 := Lib.hid k7
            clear k7
            go_wp2_with fail
            refine (HRR.out w7 K7.out).mono ?_; rintro e w8 ⟨rfl, k8⟩
            have K8 := Lib.hid ((K6.out.trans K7.out).trans k8)
            clear k8
            go_wp2_with fail
            go_ret
            exact ⟨rfl, K8.out⟩
set_option maxRecDepth 100000 in
set_option maxHeartbeats 6400000 in
theorem walk_SmithDivides_col {n : Nat} {x : Nat → Nat → Int} {m : List (List Int)} (s : Hm n x m) (A : Option Addr) (c i j : Nat) (k : Int) (w : World) (ha : LiesM w A m) (hi : i < n) (hj : j < n) (hij : i ≠ j) (hk : -20 ≤ k ∧ k ≤ 20) :
    Calls Try.prog 3 #[.slice A n c, .int .i64 (i : Int), .int .i64 (j : Int), .int .i64 k, .bool true] w fun e w' => e = .returned (.bool true) ∧ Kp w w' := by
  have HA := Lib.hid ha
  have FA := Lib.hid (smithFact_any w)
  have OA := Lib.hid (fun w h => Parts_ok s A c w h)
  have n3 := s.sh.n3
  have n0 := s.sh.n0
  have DT := Lib.hid (fun w' (k : Kp w w') => s.sh.det A c w' (ha.keep k))
  have PT := Zx.spp_pts s.sh.n0 s.sh.n3 s.ne
  have TW := Zx.dt_twenty s.sh.n3 s.sh.small
  unfold Zx.ab at TW
  have AB := Lib.hid (fun w => show Calls Try.prog 9 #[.int .i64 (Zx.dt n x)] w fun e w' => e = .returned (.int .i64 ((Zx.dt n x).natAbs : Int)) ∧ w = w' from absZ_any (Zx.dt n x) w (by omega) (by omega))
  obtain ⟨sp, hsp⟩ : ∃ sp, sp = Zx.spp n x := ⟨_, rfl⟩
  obtain ⟨P, hP⟩ : ∃ P : Nat → Int, P = fun k => Zx.pr k (fun i => (Zx.spp n x).getD i 0) := ⟨_, rfl⟩
  have P0 := Lib.hid (show P 0 = 1 by rw [hP]; rfl)
  have PS := Lib.hid (show ∀ k, P k * sp.getD k 0 = P (k + 1) by rw [hP, hsp]; exact fun k => rfl)
  have PN := Lib.hid (show P n = ((Zx.dt n x).natAbs : Int) by rw [hP]; exact PT.prod)
  have SB := Lib.hid (show ∀ t, t < n → (1 ≤ sp.getD t 0 ∧ sp.getD t 0 ≤ 48000) ∧ 1 ≤ P (t + 1) ∧ P (t + 1) ≤ 48000 by rw [hP, hsp]; exact fun t ht => part_small s ht)
  have SD := Lib.hid (show ∀ t, t + 1 < n → (sp.getD (t + 1) 0).tmod (sp.getD t 0) = 0 by rw [hsp]; exact fun t ht => Int.tmod_eq_zero_of_dvd (PT.dvd t ht))
  have SL := Lib.hid (show sp.length = n by rw [hsp]; exact PT.len)
  have OP := Lib.hid (fun w (h : LiesM w A m) => show Calls Try.prog 7 #[.slice A n c] w fun e w' => ∃ g, e = .returned (.tuple #[.slice (some ⟨g, 0, none⟩) n n, .nilIface]) ∧ Row w' g sp ∧ w.heap.size ≤ g ∧ Kp w w' from by rw [hsp]; exact Parts_ok s A c w h)
  have IN0 := Lib.hid (fun (y : Int) (h : 1 ≤ y ∧ y ≤ 48000) w => law4In_any y 1 100000 w true (by simp; omega))
  have hw1 : IntKind.i64.wrap ((n : Int) - 1) = (n : Int) - 1 := IntWalk.i64_in _ (by omega)
  have e8 : ((n : Int) != (n : Int)) = false := by simp
  have SM := Lib.hid s.sh.ab
  have HT := Lib.hid (fun w' (k : Kp w w') => show LiesM w' A (Mx.tab n n x) from by rw [← s.sh.eq]; exact ha.keep k)
  have JN1 := Lib.hid (fun w => law4In_any (i : Int) 0 ((n : Int) - 1) w true (by simp; omega))
  have JN2 := Lib.hid (fun w => law4In_any (j : Int) 0 ((n : Int) - 1) w true (by simp; omega))
  have JN3 := Lib.hid (fun w => law4In_any k (-20) 20 w true (by simp; omega))
  have eij : ((i : Int) == (j : Int)) = false := by rw [beq_eq_false_iff_ne]; omega
  obtain ⟨y, hy⟩ : ∃ y, y = Zx.flip (Zx.setr i (nxr i j k (Zx.flip x)) (Zx.flip x)) := ⟨_, rfl⟩
  have SPE := Lib.hid (show Zx.spp n y = sp by
    rw [hsp, hy]
    exact (Zx.Eql.spp_cols (n := n) (m := x) (k := Zx.flip (Zx.setr i (nxr i j k (Zx.flip x)) (Zx.flip x))) (nxr_eql (Zx.flip x) hi hj k).symm n0 n3 s.ne).symm)
  have DY := Lib.hid (show Zx.dt n y ≠ 0 by
    have h1 := (nxr_eql (Zx.flip x) hi hj k).det
    rw [Zx.dt_flip] at h1
    have h2 := s.ne
    rw [hy, Zx.dt_flip]
    omega)
  have YV := Lib.hid (show ∀ r q, y r q = if q = i then x r i + k * x r j else x r q by
    intro r q
    rw [hy]
    show Zx.setr i (nxr i j k (Zx.flip x)) (Zx.flip x) q r = _
    by_cases e : q = i
    · rw [if_pos e, e, Zx.setr_at]; exact if_neg hij
    · rw [if_neg e, Zx.setr_ne e]; rfl)
  have HK := Lib.hid hk
  clear ha s hy hk hsp hP TW PT hij
  go_enter Try.func3, Try.ntmps3
  go_wp2_with fail
  refine (FA.out).mono ?_; rintro e w1 ⟨rfl, k1⟩
  have K1 := Lib.hid k1; clear k1
  go_wp2_with fail
  refine (OP.out w1 (HA.out.keep K1.out)).mono ?_; rintro e w2 ⟨g, rfl, hr, hg, k2⟩
  have HR := Lib.hid hr
  have K2 := Lib.hid (K1.out.trans k2)
  clear k2 hr hg FA OP OA
  go_wp2_with fail
  go_loopw [15, 16] (fun v t wr => ∃ k' : Nat, k' ≤ n ∧ t = .int .i64 (k' : Int) ∧ v = .int .i64 (P k') ∧ Kp w2 wr) (fun _ t _ => n - (intOf t).toNat)
  case atStart => exact ⟨0, Nat.zero_le _, rfl, by rw [P0.out], Kp.rfl' _⟩
  case round =>
    obtain ⟨t, ht, rfl, rfl, hkp⟩ := hrel
    have HQ := Lib.hid hkp
    by_cases hlt : t < n
    · have x1 := (HR.out.keep hkp).cell t (by rw [SL.out]; exact hlt)
      have sb := SB.out t hlt
      have STP := Lib.hid (PS.out t)
      have hwp : IntKind.i64.wrap (P t * sp.getD t 0) = P (t + 1) := by rw [STP.out]; exact IntWalk.i64_in _ (by omega)
      by_cases h0 : t = 0
      · subst h0
        have dz : decide (0 < 0) = false := by decide
        generalize sp.getD 0 0 = y at *
        have IN1 := Lib.hid (IN0.out y sb.1)
        clear sb hkp
        go_wp2_with fail
        go_quiet ((first
          | (with_reducible exact quiet_here (IN1.out _))
          | (with_reducible exact quiet_more (IN1.out _))))
        go_wp2_with fail
        go_roundw
        case rel => exact ⟨0 + 1, by omega, by go_num, rfl, HQ.out.drewN _⟩
        case measure => simp [intOf]; omega
      · obtain ⟨t0, ht0⟩ : ∃ t0, t0 + 1 = t := ⟨t - 1, by omega⟩
        have x2 := (HR.out.keep hkp).cell t0 (by rw [SL.out]; omega)
        have sb0 := SB.out t0 (by omega)
        have sd := SD.out t0 (by omega)
        rw [ht0] at sd
        have dz : decide (0 < t) = true := decide_eq_true (by omega)
        have hwt : IntKind.i64.wrap ((t : Int) - 1) = (t0 : Int) := by rw [show (t : Int) - 1 = (t0 : Int) by omega]; exact IntWalk.i64_in _ (by omega)
        have tt : t0 < n := by omega
        generalize sp.getD t 0 = y at *
        generalize sp.getD t0 0 = z at *
        have IN1 := Lib.hid (IN0.out y sb.1)
        have nz : z ≠ 0 := by omega
        have nb : (z == 0) = false := by rw [beq_eq_false_iff_ne]; exact nz
        clear sb sb0 hkp ht0 h0
        go_wp2_with fail
        go_quiet ((first
          | (with_reducible exact quiet_here (IN1.out _))
          | (with_reducible exact quiet_more (IN1.out _))))
        go_wp2_with fail
        go_roundw
        case rel => exact ⟨t + 1, by omega, by go_num, rfl, HQ.out.drewN _⟩
        case measure => simp [intOf]; omega
    · obtain rfl : n = t := by omega
      have K3 := Lib.hid (K2.out.trans hkp)
      have HR3 := Lib.hid (HR.out.keep hkp)
      rw [PN.out]
      obtain ⟨w3, hw3⟩ : ∃ x, x = wr := ⟨_, rfl⟩
      subst hw3
      clear hkp HR HQ
      go_wp2_with fail
      refine (DT.out w3 K3.out).mono ?_; rintro e w4 ⟨rfl, k4⟩
      have K4 := Lib.hid (K3.out.trans k4)
      have HR4 := Lib.hid (HR3.out.keep k4)
      clear k4 HR3
      go_wp2_with fail
      refine (AB.out w4).mono ?_; rintro e w4' ⟨rfl, rfl⟩
      go_wp2_with fail
      refine (JN1.out _).mono ?_; rintro e w5 ⟨rfl, rfl⟩
      go_wp2_with fail
      refine (JN2.out _).mono ?_; rintro e w5 ⟨rfl, rfl⟩
      go_wp2_with fail
      refine (JN3.out _).mono ?_; rintro e w5 ⟨rfl, rfl⟩
      have CP := Lib.hid (rCopyZ_any A x n n c w4 (HT.out w4 K4.out) n0 (by omega) (by omega))
      go_wp2_with fail
      refine (CP.out).mono ?_; rintro e w5 ⟨v, G2, C2, rfl, o5, k5⟩
      obtain ⟨g2, cap2, rfl, hnc2⟩ := ownM_slice o5 (Mx.len_tab _ _ _) n0
      have HO5 := Lib.hid o5
      have K45 := Lib.hid k5
      clear o5 k5 CP JN1 JN2 JN3 AB DT P0 PS PN SB SD
      go_wp2_with fail
      go_loopw [18] (fun t wr => ∃ k' : Nat, k' ≤ n ∧ t = .int .i64 (k' : Int) ∧ OwnM wr w4.heap.size (.slice (some ⟨g2, 0, none⟩) n cap2) G2 C2 (Mx.tab n n fun r q => if (q = i ∧ r < k') then x r i + k * x r j else x r q) ∧ Kp w4 wr) (fun t _ => n - (intOf t).toNat)
      case atStart => exact ⟨0, Nat.zero_le _, rfl, HO5.out.ext (fun r q _ _ => by rw [if_neg (by omega)]), K45.out⟩
      case round =>
        clear HO5 K45
        obtain ⟨t, ht, rfl, ho, hkp⟩ := hrel
        have HO := Lib.hid ho
        have HQ := Lib.hid hkp
        by_cases hlt : t < n
        · obtain ⟨ad, A1, d1, rfl, _, x1, _, l1⟩ := (HT.out wr (K4.out.trans hkp)).row hlt
          obtain ⟨ad1, rfl, _, x2⟩ := l1.el hi
          obtain ⟨ad2, ea, _, x4⟩ := l1.el hj
          obtain rfl := Option.some.inj ea
          have si := SM.out t i hlt hi
          have sj := SM.out t j hlt hj
          have y1 := ho.weak.head hlt
          have y2 := ho.weak.el hlt hi
          rw [if_neg (by omega)] at y2
          have y3 := ho.weak.free hlt i
          have hkk := HK.out
          obtain ⟨z, hz⟩ : ∃ z, z = x t i + k * x t j := ⟨_, rfl⟩
          have HP := Lib.hid (ho.put hlt i z)
          have HE := Lib.hid (show ∀ r q, (if r = t ∧ q = i then z else if (q = i ∧ r < t) then x r i + k * x r j else x r q) = if (q = i ∧ r < t + 1) then x r i + k * x r j else x r q from fun r q => by
            by_cases e : r = t ∧ q = i
            · rw [if_pos e, if_pos (by omega), hz]; (try rw [e.1]); (try rw [e.2])
            · rw [if_neg e]
              by_cases e2 : (q = i ∧ r < t)
              · rw [if_pos e2, if_pos (by omega)]
              · rw [if_neg e2, if_neg (by omega)])
          have hsz : w4.heap.size ≤ G2 t := (ho.weak.lt hlt).1
          have HQ2 := Lib.hid ((hkp.drewN 1).put (p := ⟨G2 t, i, none⟩) hsz (.int .i64 z))
          have tb := times_small hkk sj
          have hwm : IntKind.i64.wrap (k * x t j) = k * x t j := IntWalk.i64_in _ (by omega)
          have hwn : IntKind.i64.wrap (x t i + k * x t j) = z := by rw [hz]; exact IntWalk.i64_in _ (by omega)
          generalize x t i = xi at *
          generalize x t j = xj at *
          clear ho hkp l1 hz si sj hkk hsz tb
          go_wp2_with fail
          go_still_tail 23, (by kernel_rfl)
          change wpList _ _ _ _ _ wr.drew
          go_wp2_with fail
          go_roundw
          case rel => exact ⟨t + 1, by omega, by go_num, (HP.out.kp ((Kp.rfl' _).drewN 1)).ext (fun r q _ _ => HE.out r q), HQ2.out⟩
          case measure => simp [intOf]; omega
        · obtain rfl : n = t := by omega
          have LN := Lib.hid (show LiesM wr (some ⟨g2, 0, none⟩) (Mx.tab n n y) from (ho.ext (f' := y) fun r q hr hq => by
            rw [YV.out]
            by_cases e : q = i
            · rw [if_pos ⟨e, hr⟩, if_pos e]
            · rw [if_neg (fun h => e h.1), if_neg e]).liesM)
          have K6 := Lib.hid (K4.out.trans hkp)
          have HR6 := Lib.hid (HR4.out.keep hkp)
          clear ho hkp HO HQ HR4
          rcases hm_tab y n0 n3 DY.out with SY | bad
          · have FO := Lib.hid (Parts_ok SY (some ⟨g2, 0, none⟩) cap2 wr LN.out)
            clear SY
            go_wp2_with fail
            refine (FO.out).mono ?_; rintro e w7 ⟨g3, rfl, hr3, _, k7⟩
            rw [SPE.out] at hr3
            have EQ := Lib.hid (same_eq (some ⟨g3, 0, none⟩) (some ⟨g, 0, none⟩) sp sp n n n n w7 hr3.lies (HR6.out.keep k7).lies SL.out.symm SL.out.symm (by omega) rfl)
            have K7 := Lib.hid (K6.out.trans k7)
            clear k7 FO hr3
            go_wp2_with fail
            refine (EQ.out).mono ?_; rintro e w9 ⟨rfl, k9⟩
            have K9 := Lib.hid (K7.out.trans k9)
            clear k9
            go_wp2_with fail
            go_ret
            exact ⟨rfl, K9.out⟩
          · have FN := Parts_no (some ⟨g2, 0, none⟩) (Mx.tab n n y) n cap2 wr LN.out (Mx.len_tab _ _ _) (by omega)
            rw [bad, errOf_ne 1 (by decide)] at FN
            have FO := Lib.hid FN
            have HRR := Lib.hid (fun w' (k : Kp wr w') => show Calls Try.prog 12 #[.slice (some ⟨g2, 0, none⟩) n cap2] w' fun e w'' => e = .returned (.int .i64 1) ∧ Kp w' w'' from by
              have := rHRows_any (some ⟨g2, 0, none⟩) (Mx.tab n n y) n cap2 w' (LN.out.keep k) (Mx.len_tab _ _ _)
              rwa [bad] at this)
            clear FN bad
            go_wp2_with fail
            refine (FO.out).mono ?_; rintro e w7 ⟨rfl, k7⟩
            have K7 := Lib.hid k7
            clear k7
            go_wp2_with fail
            refine (HRR.out w7 K7.out).mono ?_; rintro e w8 ⟨rfl, k8⟩
            have K8 := Lib.hid ((K6.out.trans K7.out).trans k8)
            clear k8
            go_wp2_with fail
            go_ret
            exact ⟨rfl, K8.out⟩
set_option maxRecDepth 100000 in
set_option maxHeartbeats 6400000 in
theorem walk_SmithDivides_out {n : Nat} {x : Nat → Nat → Int} {m : List (List Int)} (s : Hm n x m) (A : Option Addr) (c : Nat) (i j k : Int) (b : Bool) (w : World) (ha : LiesM w A m) (hout : ¬ ((0 ≤ i ∧ i ≤ (n : Int) - 1) ∧ (0 ≤ j ∧ j ≤ (n : Int) - 1) ∧ i ≠ j ∧ -20 ≤ k ∧ k ≤ 20)) :
    Calls Try.prog 3 #[.slice A n c, .int .i64 i, .int .i64 j, .int .i64 k, .bool b] w fun e w' => e = .returned (.bool true) ∧ Kp w w' := by
  have HA := Lib.hid ha
  have FA := Lib.hid (smithFact_any w)
  have OA := Lib.hid (fun w h => Parts_ok s A c w h)
  have n3 := s.sh.n3
  have n0 := s.sh.n0
  have DT := Lib.hid (fun w' (k : Kp w w') => s.sh.det A c w' (ha.keep k))
  have PT := Zx.spp_pts s.sh.n0 s.sh.n3 s.ne
  have TW := Zx.dt_twenty s.sh.n3 s.sh.small
  unfold Zx.ab at TW
  have AB := Lib.hid (fun w => show Calls Try.prog 9 #[.int .i64 (Zx.dt n x)] w fun e w' => e = .returned (.int .i64 ((Zx.dt n x).natAbs : Int)) ∧ w = w' from absZ_any (Zx.dt n x) w (by omega) (by omega))
  obtain ⟨sp, hsp⟩ : ∃ sp, sp = Zx.spp n x := ⟨_, rfl⟩
  obtain ⟨P, hP⟩ : ∃ P : Nat → Int, P = fun k => Zx.pr k (fun i => (Zx.spp n x).getD i 0) := ⟨_, rfl⟩
  have P0 := Lib.hid (show P 0 = 1 by rw [hP]; rfl)
  have PS := Lib.hid (show ∀ k, P k * sp.getD k 0 = P (k + 1) by rw [hP, hsp]; exact fun k => rfl)
  have PN := Lib.hid (show P n = ((Zx.dt n x).natAbs : Int) by rw [hP]; exact PT.prod)
  have SB := Lib.hid (show ∀ t, t < n → (1 ≤ sp.getD t 0 ∧ sp.getD t 0 ≤ 48000) ∧ 1 ≤ P (t + 1) ∧ P (t + 1) ≤ 48000 by rw [hP, hsp]; exact fun t ht => part_small s ht)
  have SD := Lib.hid (show ∀ t, t + 1 < n → (sp.getD (t + 1) 0).tmod (sp.getD t 0) = 0 by rw [hsp]; exact fun t ht => Int.tmod_eq_zero_of_dvd (PT.dvd t ht))
  have SL := Lib.hid (show sp.length = n by rw [hsp]; exact PT.len)
  have OP := Lib.hid (fun w (h : LiesM w A m) => show Calls Try.prog 7 #[.slice A n c] w fun e w' => ∃ g, e = .returned (.tuple #[.slice (some ⟨g, 0, none⟩) n n, .nilIface]) ∧ Row w' g sp ∧ w.heap.size ≤ g ∧ Kp w w' from by rw [hsp]; exact Parts_ok s A c w h)
  have IN0 := Lib.hid (fun (y : Int) (h : 1 ≤ y ∧ y ≤ 48000) w => law4In_any y 1 100000 w true (by simp; omega))
  have hw1 : IntKind.i64.wrap ((n : Int) - 1) = (n : Int) - 1 := IntWalk.i64_in _ (by omega)
  have e8 : ((n : Int) != (n : Int)) = false := by simp
  clear ha s hsp hP TW PT
  go_enter Try.func3, Try.ntmps3
  go_wp2_with fail
  refine (FA.out).mono ?_; rintro e w1 ⟨rfl, k1⟩
  have K1 := Lib.hid k1; clear k1
  go_wp2_with fail
  refine (OP.out w1 (HA.out.keep K1.out)).mono ?_; rintro e w2 ⟨g, rfl, hr, hg, k2⟩
  have HR := Lib.hid hr
  have K2 := Lib.hid (K1.out.trans k2)
  clear k2 hr hg FA OP OA
  go_wp2_with fail
  go_loopw [15, 16] (fun v t wr => ∃ k' : Nat, k' ≤ n ∧ t = .int .i64 (k' : Int) ∧ v = .int .i64 (P k') ∧ Kp w2 wr) (fun _ t _ => n - (intOf t).toNat)
  case atStart => exact ⟨0, Nat.zero_le _, rfl, by rw [P0.out], Kp.rfl' _⟩
  case round =>
    obtain ⟨t, ht, rfl, rfl, hkp⟩ := hrel
    have HQ := Lib.hid hkp
    by_cases hlt : t < n
    · have x1 := (HR.out.keep hkp).cell t (by rw [SL.out]; exact hlt)
      have sb := SB.out t hlt
      have STP := Lib.hid (PS.out t)
      have hwp : IntKind.i64.wrap (P t * sp.getD t 0) = P (t + 1) := by rw [STP.out]; exact IntWalk.i64_in _ (by omega)
      by_cases h0 : t = 0
      · subst h0
        have dz : decide (0 < 0) = false := by decide
        generalize sp.getD 0 0 = y at *
        have IN1 := Lib.hid (IN0.out y sb.1)
        clear sb hkp
        go_wp2_with fail
        go_quiet ((first
          | (with_reducible exact quiet_here (IN1.out _))
          | (with_reducible exact quiet_more (IN1.out _))))
        go_wp2_with fail
        go_roundw
        case rel => exact ⟨0 + 1, by omega, by go_num, rfl, HQ.out.drewN _⟩
        case measure => simp [intOf]; omega
      · obtain ⟨t0, ht0⟩ : ∃ t0, t0 + 1 = t := ⟨t - 1, by omega⟩
        have x2 := (HR.out.keep hkp).cell t0 (by rw [SL.out]; omega)
        have sb0 := SB.out t0 (by omega)
        have sd := SD.out t0 (by omega)
        rw [ht0] at sd
        have dz : decide (0 < t) = true := decide_eq_true (by omega)
        have hwt : IntKind.i64.wrap ((t : Int) - 1) = (t0 : Int) := by rw [show (t : Int) - 1 = (t0 : Int) by omega]; exact IntWalk.i64_in _ (by omega)
        have tt : t0 < n := by omega
        generalize sp.getD t 0 = y at *
        generalize sp.getD t0 0 = z at *
        have IN1 := Lib.hid (IN0.out y sb.1)
        have nz : z ≠ 0 := by omega
        have nb : (z == 0) = false := by rw [beq_eq_false_iff_ne]; exact nz
        clear sb sb0 hkp ht0 h0
        go_wp2_with fail
        go_quiet ((first
          | (with_reducible exact quiet_here (IN1.out _))
          | (with_reducible exact quiet_more (IN1.out _))))
        go_wp2_with fail
        go_roundw
        case rel => exact ⟨t + 1, by omega, by go_num, rfl, HQ.out.drewN _⟩
        case measure => simp [intOf]; omega
    · obtain rfl : n = t := by omega
      have K3 := Lib.hid (K2.out.trans hkp)
      have HR3 := Lib.hid (HR.out.keep hkp)
      rw [PN.out]
      obtain ⟨w3, hw3⟩ : ∃ x, x = wr := ⟨_, rfl⟩
      subst hw3
      clear hkp HR HQ
      go_wp2_with fail
      refine (DT.out w3 K3.out).mono ?_; rintro e w4 ⟨rfl, k4⟩
      have K4 := Lib.hid (K3.out.trans k4)
      have HR4 := Lib.hid (HR3.out.keep k4)
      clear k4 HR3
      go_wp2_with fail
      refine (AB.out w4).mono ?_; rintro e w4' ⟨rfl, rfl⟩
      go_wp2_with fail
      by_cases hi : 0 ≤ i ∧ i ≤ (n : Int) - 1
      · have JN1 := Lib.hid (fun w => law4In_any i 0 ((n : Int) - 1) w true (by simp; omega))
        refine (JN1.out _).mono ?_; rintro e w5 ⟨rfl, rfl⟩
        by_cases hj : 0 ≤ j ∧ j ≤ (n : Int) - 1
        · have JN2 := Lib.hid (fun w => law4In_any j 0 ((n : Int) - 1) w true (by simp; omega))
          by_cases hij : i = j
          · have eij : (i == j) = true := by rw [beq_iff_eq]; exact hij
            clear hout hi hj
            have HIJ := Lib.hid hij
            clear hij
            go_wp2_with fail
            refine (JN2.out _).mono ?_; rintro e w5 ⟨rfl, rfl⟩
            go_wp2_with fail
            go_ret
            exact ⟨rfl, K4.out⟩
          · have eij : (i == j) = false := by rw [beq_eq_false_iff_ne]; exact hij
            have JN3 := Lib.hid (fun w => law4In_any k (-20) 20 w false (by simp; omega))
            clear hout hi hj hij
            go_wp2_with fail
            refine (JN2.out _).mono ?_; rintro e w5 ⟨rfl, rfl⟩
            go_wp2_with fail
            refine (JN3.out _).mono ?_; rintro e w5 ⟨rfl, rfl⟩
            go_wp2_with fail
            go_ret
            exact ⟨rfl, K4.out⟩
        · have JN2 := Lib.hid (fun w => law4In_any j 0 ((n : Int) - 1) w false (by simp; omega))
          clear hout hi hj
          go_wp2_with fail
          refine (JN2.out _).mono ?_; rintro e w5 ⟨rfl, rfl⟩
          go_wp2_with fail
          go_ret
          exact ⟨rfl, K4.out⟩
      · have JN1 := Lib.hid (fun w => law4In_any i 0 ((n : Int) - 1) w false (by simp; omega))
        clear hout hi
        refine (JN1.out _).mono ?_; rintro e w5 ⟨rfl, rfl⟩
        go_wp2_with fail
        go_ret
        exact ⟨rfl, K4.out⟩
set_option maxRecDepth 100000 in
set_option maxHeartbeats 1600000 in
theorem walk_SmithDivides (A : Option Addr) (m : List (List Int)) (c : Nat) (i j k : Int) (b : Bool) (w : World) (ha : LiesM w A m) :
    Calls Try.prog 3 #[.slice A m.length c, .int .i64 i, .int .i64 j, .int .i64 k, .bool b] w fun e w' => e = .returned (.bool true) ∧ Kp w w' := by
  obtain ⟨n, hn⟩ : ∃ n, n = m.length := ⟨_, rfl⟩
  rw [← hn]
  rcases Parts_or A m n c hn.symm with ⟨x, s⟩ | bad
  · by_cases hout : (0 ≤ i ∧ i ≤ (n : Int) - 1) ∧ (0 ≤ j ∧ j ≤ (n : Int) - 1) ∧ i ≠ j ∧ -20 ≤ k ∧ k ≤ 20
    · obtain ⟨hi, hj, hij, hk⟩ := hout
      obtain ⟨i0, rfl⟩ : ∃ i0 : Nat, i = (i0 : Int) := ⟨i.toNat, by omega⟩
      obtain ⟨j0, rfl⟩ : ∃ j0 : Nat, j = (j0 : Int) := ⟨j.toNat, by omega⟩
      cases b with
      | false => exact walk_SmithDivides_row s A c i0 j0 k w ha (by omega) (by omega) (by omega) hk
      | true => exact walk_SmithDivides_col s A c i0 j0 k w ha (by omega) (by omega) (by omega) hk
    · exact walk_SmithDivides_out s A c i j k b w ha hout
  · have HA := Lib.hid ha
    have FA := Lib.hid (smithFact_any w)
    have OA := Lib.hid bad
    clear bad hn ha
    go_enter Try.func3, Try.ntmps3
    go_wp2_with fail
    refine (FA.out).mono ?_; rintro e w1 ⟨rfl, k1⟩
    have K1 := Lib.hid k1; clear k1
    go_wp2_with fail
    refine (OA.out w1 (HA.out.keep K1.out)).mono ?_; rintro e w2 ⟨z, rfl, k2⟩
    have K2 := Lib.hid (K1.out.trans k2)
    clear k2
    go_wp2_with fail
    go_ret
    exact ⟨rfl, K2.out⟩
end Go.Proofs.Ytmimbioffnolaaa
