/- The law HermiteOne. -/
import Derived.Test.YteobamakmmoljaaHmFact
import Derived.Test.YteobamakmmoljaaHmRf1
import Derived.Deep.Cut
import Derived.Deep.CutRange
import Derived.Deep.DeepCutAuto
namespace Go.Proofs.Yteobamakmmoljaa
open Go.ChangeShapes Go.WideShapes Go.ChangeAt Go.RowKit
set_option linter.unusedVariables false

theorem Zx.eqm_eql {n : Nat} {x y : Nat → Nat → Int} (h : Zx.Eqm n n x y) : Zx.Eql n x y :=
  ⟨fun i hi => (Zx.Lat.row y hi).congr fun j hj => (h i j hi hj).symm, fun i hi => (Zx.Lat.row x hi).congr fun j hj => h i j hi hj⟩
/-- A matrix with a determinant, given as a rule: good, or with too large numbers. -/
theorem hm_tab {n : Nat} (y : Nat → Nat → Int) (h0 : 0 < n) (h3 : n ≤ 3) (hd : Zx.dt n y ≠ 0) : Hm n y (Mx.tab n n y) ∨ hcd (Mx.tab n n y) = 1 := by
  rcases shh_or (Mx.tab n n y) (Mx.len_tab n n y) with ⟨x', s⟩ | h
  · left
    refine ⟨⟨rfl, h0, h3, fun i j hi hj => ?_⟩, hd⟩
    have e := tab_eq.1 s.eq i j hi hj
    rw [e]; exact s.ab i j hi hj
  · right
    have e0 : ((Mx.tab n n y).getD 0 []).length = n := Mx.tab_len n n y 0 h0
    have hm : Mx.mcode 3 (-20) 20 (Mx.tab n n y) = Mx.rows (-20) 20 n (Mx.tab n n y) := by
      unfold Mx.mcode
      rw [Mx.len_tab, e0, if_neg (by omega), if_neg (by omega)]
    have hq : qcode 3 (-20) 20 (Mx.tab n n y) = Mx.rows (-20) 20 n (Mx.tab n n y) := by
      unfold qcode
      rw [Mx.len_tab, e0, if_neg (fun h => h.2 rfl), hm]
    have hc : hcd (Mx.tab n n y) = Mx.rows (-20) 20 n (Mx.tab n n y) := by
      unfold hcd; rw [if_pos h, hq]
    rw [hq] at h
    have key : ∀ m : List (List Int), (∀ k, k < m.length → (m.getD k []).length = n) → Mx.rows (-20) 20 n m ≠ 3 := by
      intro m
      induction m with
      | nil => intro _ h; cases h
      | cons l t ih =>
        intro hl h
        have h1 := hl 0 (by simp)
        have h1' : l.length = n := h1
        unfold Mx.rows at h
        split at h
        · exact ih (fun k hk => hl (k + 1) (by simpa using hk)) h
        · unfold Mx.rcode at h
          rw [if_neg (fun e => e h1')] at h
          split at h <;> cases h
    rw [hc]
    rcases Mx.rows_some (-20) 20 n (Mx.tab n n y) with e | e | e
    · exact absurd e h
    · exact e
    · exact absurd e (key _ fun k hk => by rw [Mx.len_tab] at hk; exact Mx.tab_len n n y k hk)

/-- Row i turned about, or with so many times row j. -/
def nxr (i j : Nat) (k : Int) (x : Nat → Nat → Int) : Nat → Int := fun c => if i = j then -(x i c) else x i c + k * x j c
theorem nxr_eql {n : Nat} (x : Nat → Nat → Int) {i j : Nat} (hi : i < n) (hj : j < n) (k : Int) : Zx.Eql n (Zx.setr i (nxr i j k x) x) x := by
  by_cases e : i = j
  · have : nxr i j k x = fun c => -(x i c) := funext fun c => if_pos e
    rw [this]; exact Zx.eql_neg x hi
  · have : nxr i j k x = fun c => x i c + k * x j c := funext fun c => if_neg e
    rw [this]; exact Zx.eql_add x hi hj e k
theorem times_small {a b : Int} (ha : -20 ≤ a ∧ a ≤ 20) (hb : -20 ≤ b ∧ b ≤ 20) : -400 ≤ a * b ∧ a * b ≤ 400 := by
  have h : (a * b).natAbs ≤ 20 * 20 := by
    rw [Int.natAbs_mul]
    exact Nat.mul_le_mul (by omega) (by omega)
  omega
set_option maxRecDepth 100000 in
set_option maxHeartbeats 3200000 in
theorem walk_HermiteOne_in {n : Nat} {x : Nat → Nat → Int} {m : List (List Int)} (s : Hm n x m) (A : Option Addr) (c i j : Nat) (k : Int) (w : World) (ha : LiesM w A m) (hi : i < n) (hj : j < n) (hk : -20 ≤ k ∧ k ≤ 20) :
    Calls Try.prog 3 #[.slice A n c, .int .i64 (i : Int), .int .i64 (j : Int), .int .i64 k] w fun e w' => e = .returned (.bool true) ∧ Kp w w' := by
  have HA := Lib.hid ha
  have FA := Lib.hid (hermiteFact_any w)
  have OA := Lib.hid (fun w h => Form_ok s A c w h)
  have n3 := s.sh.n3
  have n0 := s.sh.n0
  have SM := Lib.hid s.sh.ab
  have HT := Lib.hid (fun w' (k : Kp w w') => show LiesM w' A (Mx.tab n n x) from by rw [← s.sh.eq]; exact ha.keep k)
  have IN1 := Lib.hid (fun w => law4In_any (i : Int) 0 ((n : Int) - 1) w true (by simp; omega))
  have IN2 := Lib.hid (fun w => law4In_any (j : Int) 0 ((n : Int) - 1) w true (by simp; omega))
  have IN3 := Lib.hid (fun w => law4In_any k (-20) 20 w true (by simp; omega))
  have hw1 : IntKind.i64.wrap ((n : Int) - 1) = (n : Int) - 1 := IntWalk.i64_in _ (by omega)
  obtain ⟨y, hy⟩ : ∃ y, y = Zx.setr i (nxr i j k x) x := ⟨_, rfl⟩
  have EY := Lib.hid (show Zx.Eql n y x by rw [hy]; exact nxr_eql x hi hj k)
  have DY := Lib.hid (show Zx.dt n y ≠ 0 by
    have h1 := EY.out.det
    have h2 := s.ne
    omega)
  have YI := Lib.hid (show ∀ t, y i t = nxr i j k x t by rw [hy]; exact fun t => by rw [Zx.setr_at])
  have YO := Lib.hid (show ∀ r t, r ≠ i → y r t = x r t by rw [hy]; exact fun r t h => by rw [Zx.setr_ne h])
  have SS := Lib.hid s
  have HK := Lib.hid hk
  clear ha s hy hk
  go_enter Try.func3, Try.ntmps3
  go_wp2_with fail
  refine (FA.out).mono ?_; rintro e w1 ⟨rfl, k1⟩
  have K1 := Lib.hid k1; clear k1
  go_wp2_with fail
  refine (OA.out w1 (HA.out.keep K1.out)).mono ?_; rintro e w2 ⟨g, cap, G, C, a, n1, l1, _, rfl, o1, hnc, k2⟩
  have K2 := Lib.hid (K1.out.trans k2)
  have LA := Lib.hid o1.liesM
  have N1 := Lib.hid n1
  have L1 := Lib.hid l1
  clear k2 o1 n1 l1 hnc
  go_wp2_with fail
  refine (rHRows_any (some ⟨g, 0, none⟩) (Mx.tab n n a) n cap w2 LA.out (Mx.len_tab _ _ _)).mono ?_; rintro e w3 ⟨rfl, k3⟩
  have K3 := Lib.hid (K2.out.trans k3)
  have LA3 := Lib.hid (LA.out.keep k3)
  clear k3 LA
  go_upto_if 36 with (fail)
  go_cut [13, 14] (fun _ _ wc => LiesM wc (some ⟨g, 0, none⟩) (Mx.tab n n a) ∧ Kp w wc)
  case first =>
    as_aux_lemma =>
    by_cases h : hcd (Mx.tab n n a) = 0
    · have hc : (((hcd (Mx.tab n n a) : Nat) : Int) == 0) = true := by rw [beq_iff_eq]; omega
      have ST : Hm n a (Mx.tab n n a) := by
        rcases hm_tab a n0 n3 (by have h1 := L1.out.det; have h2 := SS.out.ne; omega) with h' | h'
        · exact h'
        · omega
      have FO := Lib.hid (Form_ok ST (some ⟨g, 0, none⟩) cap w3 LA3.out)
      generalize hcd (Mx.tab n n a) = z at hc
      clear h ST
      go_wp2_with fail
      refine (FO.out).mono ?_; rintro e w4 ⟨g', cap', G', C', b, n2, l2, _, rfl, o2, _, k4⟩
      have K4 := Lib.hid (K3.out.trans k4)
      have LA4 := Lib.hid (LA3.out.keep k4)
      have EQ := Lib.hid (rows_eq (some ⟨g, 0, none⟩) (some ⟨g', 0, none⟩) (Mx.tab n n a) (Mx.tab n n b) n n cap cap' w4 (LA3.out.keep k4) o2.liesM (Mx.len_tab _ _ _) (Mx.len_tab _ _ _) (modest_tab _ (by omega) (by omega)) (modest_tab _ (by omega) (by omega)) (tab_eq.2 (N1.out.one n2 l2.symm)))
      clear n2 l2 o2 k4
      go_wp2_with fail
      refine (EQ.out).mono ?_; rintro e w5 ⟨rfl, k5⟩
      have K5 := Lib.hid (K4.out.trans k5)
      have LA5 := Lib.hid (LA4.out.keep k5)
      clear k5
      go_wp2_with fail
      go_meet
      case rel => exact ⟨LA5.out, K5.out⟩
    · have hc : (((hcd (Mx.tab n n a) : Nat) : Int) == 0) = false := by rw [beq_eq_false_iff_ne]; omega
      generalize hcd (Mx.tab n n a) = z at *
      clear h
      go_wp2_with fail
      go_meet
      case rel => exact ⟨LA3.out, K3.out⟩
  case rest =>
  as_aux_lemma =>
  obtain ⟨la, kT⟩ := hcut
  obtain ⟨w4, hw4⟩ : ∃ x, x = wc := ⟨_, rfl⟩
  subst hw4
  have LA4 := Lib.hid la
  have K4 := Lib.hid kT
  clear la kT K3 LA3 K2 K1 FA
  have CP := Lib.hid (rCopyZ_any A x n n c w4 (HT.out w4 K4.out) n0 (by omega) (by omega))
  go_wp2_with fail
  refine (IN1.out _).mono ?_; rintro e w5 ⟨rfl, rfl⟩
  go_wp2_with fail
  refine (IN2.out _).mono ?_; rintro e w5 ⟨rfl, rfl⟩
  go_wp2_with fail
  refine (IN3.out _).mono ?_; rintro e w5 ⟨rfl, rfl⟩
  go_wp2_with fail
  refine (CP.out).mono ?_; rintro e w5 ⟨v, G2, C2, rfl, o5, k5⟩
  obtain ⟨g2, cap2, rfl, hnc2⟩ := ownM_slice o5 (Mx.len_tab _ _ _) n0
  have HO5 := Lib.hid o5
  have K5 := Lib.hid (K4.out.trans k5)
  have K45 := Lib.hid k5
  clear o5 k5 CP IN1 IN2 IN3
  go_wp2_with fail
  go_loopw [16] (fun t wr => ∃ k' : Nat, k' ≤ n ∧ t = .int .i64 (k' : Int) ∧ OwnM wr w4.heap.size (.slice (some ⟨g2, 0, none⟩) n cap2) G2 C2 (Mx.tab n n fun r q => if r = i ∧ q < k' then nxr i j k x q else x r q) ∧ Kp w4 wr) (fun t _ => n - (intOf t).toNat)
  case atStart => exact ⟨0, Nat.zero_le _, rfl, HO5.out.ext (fun r q _ _ => by rw [if_neg (by omega)]), K45.out⟩
  case round =>
    clear HO5 K45
    obtain ⟨t, ht, rfl, ho, hkp⟩ := hrel
    have HO := Lib.hid ho
    have HQ := Lib.hid hkp
    by_cases hlt : t < n
    · obtain ⟨ad, A1, d1, rfl, _, x1, _, l1⟩ := (HT.out wr (K4.out.trans hkp)).row hi
      obtain ⟨ad1, rfl, _, x2⟩ := l1.el hlt
      obtain ⟨ad', A2, d2, ea, _, x3, _, l2⟩ := (HT.out wr (K4.out.trans hkp)).row hj
      obtain rfl := Option.some.inj ea
      obtain ⟨ad2, rfl, _, x4⟩ := l2.el hlt
      have y1 := ho.weak.head hi
      have y2 := ho.weak.el hi hlt
      rw [if_neg (by omega)] at y2
      have y3 := ho.weak.free hi t
      have si := SM.out i t hi hlt
      have sj := SM.out j t hj hlt
      have hkk := HK.out
      obtain ⟨z, hz⟩ : ∃ z, z = nxr i j k x t := ⟨_, rfl⟩
      have HP := Lib.hid (ho.put hi t z)
      have HE := Lib.hid (show ∀ r q, (if r = i ∧ q = t then z else if r = i ∧ q < t then nxr i j k x q else x r q) = if r = i ∧ q < t + 1 then nxr i j k x q else x r q from fun r q => by
        by_cases e : r = i ∧ q = t
        · rw [if_pos e, if_pos (by omega), hz, e.2]
        · rw [if_neg e]
          by_cases e2 : r = i ∧ q < t
          · rw [if_pos e2, if_pos (by omega)]
          · rw [if_neg e2, if_neg (by omega)])
      have hsz : w4.heap.size ≤ G2 i := (ho.weak.lt hi).1
      have HQ2 := Lib.hid ((hkp.drewN 1).put (p := ⟨G2 i, t, none⟩) hsz (.int .i64 z))
      by_cases hij : i = j
      · have e1 : ((i : Int) == (j : Int)) = true := by rw [beq_iff_eq]; omega
        have hzv : z = -(x i t) := by rw [hz]; exact if_pos hij
        have hwn : IntKind.i64.wrap (-(x i t)) = z := by rw [hzv]; exact IntWalk.i64_in _ (by omega)
        generalize x i t = xi at *
        clear ho hkp l1 l2 hz hzv si sj hkk hij hsz
        go_wp2_with fail
        go_still_tail 14, (by kernel_rfl)
        change wpList _ _ _ _ _ wr.drew
        go_wp2_with fail
        go_roundw
        case rel => exact ⟨t + 1, by omega, by go_num, (HP.out.kp ((Kp.rfl' _).drewN 1)).ext (fun r q _ _ => HE.out r q), HQ2.out⟩
        case measure => simp [intOf]; omega
      · have e1 : ((i : Int) == (j : Int)) = false := by rw [beq_eq_false_iff_ne]; omega
        have tb := times_small hkk sj
        have hzv : z = x i t + k * x j t := by rw [hz]; exact if_neg hij
        have hwm : IntKind.i64.wrap (k * x j t) = k * x j t := IntWalk.i64_in _ (by omega)
        have hwn : IntKind.i64.wrap (x i t + k * x j t) = z := by rw [hzv]; exact IntWalk.i64_in _ (by omega)
        generalize x i t = xi at *
        generalize x j t = xj at *
        clear ho hkp l1 l2 hz hzv si sj hkk hij hsz tb
        go_wp2_with fail
        go_still_tail 23, (by kernel_rfl)
        change wpList _ _ _ _ _ wr.drew
        go_wp2_with fail
        go_roundw
        case rel => exact ⟨t + 1, by omega, by go_num, (HP.out.kp ((Kp.rfl' _).drewN 1)).ext (fun r q _ _ => HE.out r q), HQ2.out⟩
        case measure => simp [intOf]; omega
    · obtain rfl : n = t := by omega
      have LN := Lib.hid (show LiesM wr (some ⟨g2, 0, none⟩) (Mx.tab n n y) from (ho.ext (f' := y) fun r q hr hq => by
        by_cases e : r = i
        · rw [if_pos ⟨e, hq⟩, e, YI.out]
        · rw [if_neg (fun h => e h.1), YO.out r q e]).liesM)
      have K6 := Lib.hid (K4.out.trans hkp)
      have LA6 := Lib.hid (LA4.out.keep hkp)
      clear ho hkp HO HQ LA4
      rcases hm_tab y n0 n3 DY.out with SY | bad
      · have FO := Lib.hid (Form_ok SY (some ⟨g2, 0, none⟩) cap2 wr LN.out)
        have SAME := Lib.hid (fun w' (k : Kp wr w') => Same_ok SS.out SY A (some ⟨g2, 0, none⟩) c cap2 w' (HA.out.keep (K6.out.trans k)) (LN.out.keep k))
        clear SY
        go_wp2_with fail
        refine (FO.out).mono ?_; rintro e w7 ⟨g3, cap3, G3, C3, b, n2, l2, _, rfl, o2, _, k7⟩
        have EQ := Lib.hid (fun w' (k : Kp w7 w') => rows_eq (some ⟨g, 0, none⟩) (some ⟨g3, 0, none⟩) (Mx.tab n n a) (Mx.tab n n b) n n cap cap3 w' (LA6.out.keep (k7.trans k)) (o2.liesM.keep k) (Mx.len_tab _ _ _) (Mx.len_tab _ _ _) (modest_tab _ (by omega) (by omega)) (modest_tab _ (by omega) (by omega)) (tab_eq.2 (N1.out.one n2 (L1.out.trans (EY.out.symm.trans l2.symm)))))
        have K7 := Lib.hid k7
        clear n2 l2 o2 k7 FO
        go_wp2_with fail
        refine (SAME.out w7 K7.out).mono ?_; rintro e w8 ⟨b8, hb8, rfl, k8⟩
        obtain rfl : b8 = true := hb8.2 EY.out.symm
        have K8 := Lib.hid k8
        clear hb8 k8 SAME
        go_wp2_with fail
        refine (EQ.out w8 K8.out).mono ?_; rintro e w9 ⟨rfl, k9⟩
        have K9 := Lib.hid (((K6.out.trans K7.out).trans K8.out).trans k9)
        clear k9
        go_wp2_with fail
        go_ret
        exact ⟨rfl, K9.out⟩
      · have FN := Form_no (some ⟨g2, 0, none⟩) (Mx.tab n n y) n cap2 wr LN.out (Mx.len_tab _ _ _) (by omega)
        rw [bad, errOf_ne 1 (by decide)] at FN
        have FO := Lib.hid FN
        have HR := Lib.hid (fun w' (k : Kp wr w') => show Calls Try.prog 8 #[.slice (some ⟨g2, 0, none⟩) n cap2] w' fun e w'' => e = .returned (.int .i64 1) ∧ Kp w' w'' from by
          have := rHRows_any (some ⟨g2, 0, none⟩) (Mx.tab n n y) n cap2 w' (LN.out.keep k) (Mx.len_tab _ _ _)
          rwa [bad] at this)
        clear FN bad
        go_wp2_with fail
        refine (FO.out).mono ?_; rintro e w7 ⟨rfl, k7⟩
        have K7 := Lib.hid k7
        clear k7
        go_wp2_with fail
        refine (HR.out w7 K7.out).mono ?_; rintro e w8 ⟨rfl, k8⟩
        have K8 := Lib.hid ((K6.out.trans K7.out).trans k8)
        clear k8
        go_wp2_with fail
        go_ret
        exact ⟨rfl, K8.out⟩
set_option maxRecDepth 100000 in
set_option maxHeartbeats 1600000 in
theorem walk_HermiteOne_out {n : Nat} {x : Nat → Nat → Int} {m : List (List Int)} (s : Hm n x m) (A : Option Addr) (c : Nat) (i j k : Int) (w : World) (ha : LiesM w A m) (hout : ¬ ((0 ≤ i ∧ i ≤ (n : Int) - 1) ∧ (0 ≤ j ∧ j ≤ (n : Int) - 1) ∧ -20 ≤ k ∧ k ≤ 20)) :
    Calls Try.prog 3 #[.slice A n c, .int .i64 i, .int .i64 j, .int .i64 k] w fun e w' => e = .returned (.bool true) ∧ Kp w w' := by
  have HA := Lib.hid ha
  have FA := Lib.hid (hermiteFact_any w)
  have OA := Lib.hid (fun w h => Form_ok s A c w h)
  have n3 := s.sh.n3
  have n0 := s.sh.n0
  have IN1 := Lib.hid (fun w t h => law4In_any i 0 ((n : Int) - 1) w t h)
  have IN2 := Lib.hid (fun w t h => law4In_any j 0 ((n : Int) - 1) w t h)
  have IN3 := Lib.hid (fun w t h => law4In_any k (-20) 20 w t h)
  have hw1 : IntKind.i64.wrap ((n : Int) - 1) = (n : Int) - 1 := IntWalk.i64_in _ (by omega)
  have SS := Lib.hid s
  have HOUT := Lib.hid hout
  clear ha s hout
  go_enter Try.func3, Try.ntmps3
  go_wp2_with fail
  refine (FA.out).mono ?_; rintro e w1 ⟨rfl, k1⟩
  have K1 := Lib.hid k1; clear k1
  go_wp2_with fail
  refine (OA.out w1 (HA.out.keep K1.out)).mono ?_; rintro e w2 ⟨g, cap, G, C, a, n1, l1, _, rfl, o1, hnc, k2⟩
  have K2 := Lib.hid (K1.out.trans k2)
  have LA := Lib.hid o1.liesM
  have N1 := Lib.hid n1
  have L1 := Lib.hid l1
  clear k2 o1 n1 l1 hnc
  go_wp2_with fail
  refine (rHRows_any (some ⟨g, 0, none⟩) (Mx.tab n n a) n cap w2 LA.out (Mx.len_tab _ _ _)).mono ?_; rintro e w3 ⟨rfl, k3⟩
  have K3 := Lib.hid (K2.out.trans k3)
  have LA3 := Lib.hid (LA.out.keep k3)
  clear k3 LA
  go_upto_if 36 with (fail)
  go_cut [13, 14] (fun _ _ wc => LiesM wc (some ⟨g, 0, none⟩) (Mx.tab n n a) ∧ Kp w wc)
  case first =>
    as_aux_lemma =>
    by_cases h : hcd (Mx.tab n n a) = 0
    · have hc : (((hcd (Mx.tab n n a) : Nat) : Int) == 0) = true := by rw [beq_iff_eq]; omega
      have ST : Hm n a (Mx.tab n n a) := by
        rcases hm_tab a n0 n3 (by have h1 := L1.out.det; have h2 := SS.out.ne; omega) with h' | h'
        · exact h'
        · omega
      have FO := Lib.hid (Form_ok ST (some ⟨g, 0, none⟩) cap w3 LA3.out)
      generalize hcd (Mx.tab n n a) = z at hc
      clear h ST
      go_wp2_with fail
      refine (FO.out).mono ?_; rintro e w4 ⟨g', cap', G', C', b, n2, l2, _, rfl, o2, _, k4⟩
      have K4 := Lib.hid (K3.out.trans k4)
      have LA4 := Lib.hid (LA3.out.keep k4)
      have EQ := Lib.hid (rows_eq (some ⟨g, 0, none⟩) (some ⟨g', 0, none⟩) (Mx.tab n n a) (Mx.tab n n b) n n cap cap' w4 (LA3.out.keep k4) o2.liesM (Mx.len_tab _ _ _) (Mx.len_tab _ _ _) (modest_tab _ (by omega) (by omega)) (modest_tab _ (by omega) (by omega)) (tab_eq.2 (N1.out.one n2 l2.symm)))
      clear n2 l2 o2 k4
      go_wp2_with fail
      refine (EQ.out).mono ?_; rintro e w5 ⟨rfl, k5⟩
      have K5 := Lib.hid (K4.out.trans k5)
      have LA5 := Lib.hid (LA4.out.keep k5)
      clear k5
      go_wp2_with fail
      go_meet
      case rel => exact ⟨LA5.out, K5.out⟩
    · have hc : (((hcd (Mx.tab n n a) : Nat) : Int) == 0) = false := by rw [beq_eq_false_iff_ne]; omega
      generalize hcd (Mx.tab n n a) = z at *
      clear h
      go_wp2_with fail
      go_meet
      case rel => exact ⟨LA3.out, K3.out⟩
  case rest =>
  as_aux_lemma =>
  obtain ⟨la, kT⟩ := hcut
  obtain ⟨w4, hw4⟩ : ∃ x, x = wc := ⟨_, rfl⟩
  subst hw4
  have K4 := Lib.hid kT
  have LA4 := Lib.hid la
  clear la kT K3 LA3 K2 K1 FA
  by_cases hi : 0 ≤ i ∧ i ≤ (n : Int) - 1
  · have I1 := Lib.hid (fun w => IN1.out w true (by simp; omega))
    by_cases hj : 0 ≤ j ∧ j ≤ (n : Int) - 1
    · have I2 := Lib.hid (fun w => IN2.out w true (by simp; omega))
      have I3 := Lib.hid (fun w => IN3.out w false (by have := HOUT.out; simp; omega))
      clear hi hj
      go_wp2_with fail
      refine (I1.out _).mono ?_; rintro e w5 ⟨rfl, rfl⟩
      go_wp2_with fail
      refine (I2.out _).mono ?_; rintro e w5 ⟨rfl, rfl⟩
      go_wp2_with fail
      refine (I3.out _).mono ?_; rintro e w5 ⟨rfl, rfl⟩
      go_wp2_with fail
      go_ret
      exact ⟨rfl, K4.out⟩
    · have I2 := Lib.hid (fun w => IN2.out w false (by simp; omega))
      clear hi hj
      go_wp2_with fail
      refine (I1.out _).mono ?_; rintro e w5 ⟨rfl, rfl⟩
      go_wp2_with fail
      refine (I2.out _).mono ?_; rintro e w5 ⟨rfl, rfl⟩
      go_wp2_with fail
      go_ret
      exact ⟨rfl, K4.out⟩
  · have I1 := Lib.hid (fun w => IN1.out w false (by simp; omega))
    clear hi
    go_wp2_with fail
    refine (I1.out _).mono ?_; rintro e w5 ⟨rfl, rfl⟩
    go_wp2_with fail
    go_ret
    exact ⟨rfl, K4.out⟩
theorem walk_HermiteOne (A : Option Addr) (m : List (List Int)) (c : Nat) (i j k : Int) (w : World) (ha : LiesM w A m) :
    Calls Try.prog 3 #[.slice A m.length c, .int .i64 i, .int .i64 j, .int .i64 k] w fun e w' => e = .returned (.bool true) ∧ Kp w w' := by
  obtain ⟨n, hn⟩ : ∃ n, n = m.length := ⟨_, rfl⟩
  rw [← hn]
  rcases Form_or A m n c hn.symm with ⟨x, s⟩ | bad
  · by_cases h : (0 ≤ i ∧ i ≤ (n : Int) - 1) ∧ (0 ≤ j ∧ j ≤ (n : Int) - 1) ∧ -20 ≤ k ∧ k ≤ 20
    · obtain ⟨i0, rfl⟩ : ∃ i0 : Nat, i = (i0 : Int) := ⟨i.toNat, by omega⟩
      obtain ⟨j0, rfl⟩ : ∃ j0 : Nat, j = (j0 : Int) := ⟨j.toNat, by omega⟩
      exact walk_HermiteOne_in s A c i0 j0 k w ha (by omega) (by omega) h.2.2
    · exact walk_HermiteOne_out s A c i j k w ha h
  · have HA := Lib.hid ha
    have FA := Lib.hid (hermiteFact_any w)
    have OA := Lib.hid bad
    clear bad hn ha
    go_enter Try.func3, Try.ntmps3
    go_wp2_with fail
    refine (FA.out).mono ?_; rintro e w1 ⟨rfl, k1⟩
    have K1 := Lib.hid k1; clear k1
    go_wp2_with fail
    refine (OA.out w1 (HA.out.keep K1.out)).mono ?_; rintro e w2 ⟨z, rfl, k2⟩
    have K2 := Lib.hid (K1.out.trans k2)
    clear k2
    go_wp2_with fail
    go_ret
    exact ⟨rfl, K2.out⟩
end Go.Proofs.Yteobamakmmoljaa
