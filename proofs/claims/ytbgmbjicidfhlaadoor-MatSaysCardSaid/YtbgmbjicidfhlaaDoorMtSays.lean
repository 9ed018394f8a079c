/- The law MatSays: the program and the document's answer agree. -/
import Derived.Test.YtbgmbjicidfhlaaDoorMtExp
import Derived.Test.YtbgmbjicidfhlaaDoorMtLaw
import Derived.Deep.Cut
import Derived.Deep.CutRange
import Derived.Deep.DeepCutAuto
namespace Go.Proofs.YtbgmbjicidfhlaaDoor
open Go.ChangeShapes Go.WideShapes Go.ChangeAt Go.RowKit
set_option linter.unusedVariables false

theorem refFlip_says (A : Option Addr) (a : List (List Int)) (d : Nat) (w : World) (ha : LiesM w A a) (h : code a = 0) :
    Calls Tryd.prog 7 #[.slice A a.length d] w fun e w' => ∃ A' d', e = .returned (.slice A' (fT a).length d') ∧ LiesM w' A' (fT a) ∧ Kp w w' := by
  have s := sh_self h
  unfold fT
  rw [if_pos h, Mx.len_matl]
  exact rFlip_any A (toF a) a.length (ncol a) d w (s.mat_of ha) s.r0 (Nat.le_trans s.r5 (by decide)) (Nat.le_trans s.c5 (by decide))

theorem refAdd_says (A B : Option Addr) (a b : List (List Int)) (c d : Nat) (w : World) (ha : LiesM w A a) (hb : LiesM w B b) (h : cA a b = 0) :
    Calls Tryd.prog 10 #[.slice A a.length c, .slice B b.length d] w fun e w' => ∃ A' d', e = .returned (.slice A' (fA a b).length d') ∧ LiesM w' A' (fA a b) ∧ Kp w w' := by
  obtain ⟨h1, h2, h3⟩ := cA_zero h
  have s := sh_self (mcode2_zero h1).1
  have t := sh_self (mcode2_zero h1).2
  unfold fA
  rw [if_pos h, Mx.len_matl, ← h2]
  rw [← h2, ← h3] at t
  exact rMatAdd_any A B (toF a) (toF b) a.length (ncol a) c d w (s.mat_of ha) (t.mat_of hb) s.r0 s.c0 (Nat.le_trans s.r5 (by decide)) (Nat.le_trans s.c5 (by decide))
theorem refMul_says (A B : Option Addr) (a b : List (List Int)) (c d : Nat) (w : World) (ha : LiesM w A a) (hb : LiesM w B b) (h : cM a b = 0) :
    Calls Tryd.prog 12 #[.slice A a.length c, .slice B b.length d] w fun e w' => ∃ A' d', e = .returned (.slice A' (fM a b).length d') ∧ LiesM w' A' (fM a b) ∧ Kp w w' := by
  obtain ⟨h1, h2⟩ := cM_zero h
  have s := sh_self (mcode2_zero h1).1
  have t := sh_self (mcode2_zero h1).2
  unfold fM
  rw [if_pos h, Mx.len_matl]
  rw [← h2] at t ⊢
  exact rMatMul_any A B (toF a) (toF b) a.length (ncol a) (ncol b) c d w (s.mat_of ha) (t.mat_of hb) s.c0 t.c0 (Nat.le_trans s.r5 (by decide)) (Nat.le_trans s.c5 (by decide)) (Nat.le_trans t.c5 (by decide))
/-- The first row of a good matrix, as a cell. -/
theorem first_row {A : Option Addr} {a : List (List Int)} {w : World} (ha : LiesM w A a) (h : code a = 0) : ∃ ad A0 d0, A = some ad ∧ ad.block < w.heap.size ∧ w.cell? ad = some (.slice A0 (ncol a) d0) ∧ 0 < a.length := by
  have s := sh_self h
  obtain ⟨ad, A0, d0, e, hl, hc, _⟩ := ha 0 s.r0
  rw [add_zero'] at hc
  exact ⟨ad, A0, d0, e, hl, hc, s.r0⟩

set_option maxRecDepth 100000 in
set_option maxHeartbeats 12800000 in
theorem walk_MatSays (A : Option Addr) (a : List (List Int)) (ca : Nat) (B : Option Addr) (b : List (List Int)) (cb : Nat) (n : Int) (w : World) (hl : Told.Laid w) (ha : LiesM w A a) (hb : LiesM w B b) :
    Calls Tryd.prog 3 #[.slice A a.length ca, .slice B b.length cb, .int .i64 n] w fun e w' => e = .returned (.bool true) ∧ Kp w w' := by
  have HA := Lib.hid ha
  have HB := Lib.hid hb
  have ER := Lib.hid (fun (c : Nat) (hc : c ≤ 100) (wx : World) (hx : Kp w wx) => error_says c wx (laid_kp hl hx) hc)
  have FA := Lib.hid (fun (wx : World) (hx : Kp w wx) => rField_any A a a.length ca wx (ha.keep hx) rfl)
  have FB := Lib.hid (fun (wx : World) (hx : Kp w wx) => rField_any B b b.length cb wx (hb.keep hx) rfl)
  have CK := Lib.hid (fun (wx : World) (hx : Kp w wx) => Check_any A a a.length ca wx (ha.keep hx) rfl)
  have FL := Lib.hid (fun (wx : World) (hx : Kp w wx) => refFlip_says A a ca wx (ha.keep hx))
  have TU := Lib.hid (fun (wx : World) (hx : Kp w wx) => Turn_says A a ca wx (ha.keep hx))
  have AD := Lib.hid (fun (wx : World) (hx : Kp w wx) => Add_says A B a b ca cb wx (ha.keep hx) (hb.keep hx))
  have MU := Lib.hid (fun (wx : World) (hx : Kp w wx) => Mul_says A B a b ca cb wx (ha.keep hx) (hb.keep hx))
  have PW := Lib.hid (fun (wx : World) (hx : Kp w wx) => Pow_says A a ca n wx (ha.keep hx))
  have RAD := Lib.hid (fun (wx : World) (hx : Kp w wx) => refAdd_says A B a b ca cb wx (ha.keep hx) (hb.keep hx))
  have RMU := Lib.hid (fun (wx : World) (hx : Kp w wx) => refMul_says A B a b ca cb wx (ha.keep hx) (hb.keep hx))
  have RPW := Lib.hid (fun (h : code a = 0) (hs : a.length = ncol a) (wx : World) (hx : Kp w wx) (P : Option Addr) (k d : Nat) (hp : LiesM wx P (Mx.matl a.length a.length (Mx.pwm a.length (toF a) k))) =>
    (show Calls Tryd.prog 12 #[.slice A a.length ca, .slice P a.length d] wx fun e w' => Made a.length a.length (Mx.pwm a.length (toF a) (k + 1)) wx e w' by
      have s := sh_self h
      rw [← hs] at s
      exact rMatMul_any A P (toF a) _ a.length a.length a.length ca d wx (s.mat_of (ha.keep hx)) hp s.r0 s.r0 (Nat.le_trans s.r5 (by decide)) (Nat.le_trans s.r5 (by decide)) (Nat.le_trans s.r5 (by decide))))
  have N5 := Lib.hid (show code a = 0 → a.length ≤ 5 from fun h => (sh_self h).r5)
  have ROWA := Lib.hid (fun (h : code a = 0) => first_row ha h)
  have ROWB := Lib.hid (fun (h : code b = 0) => first_row hb h)
  have LT := Lib.hid (code_le a)
  have L2 := Lib.hid (mcode2_le a b)
  obtain ⟨za, hza⟩ : ∃ z, z = code a := ⟨_, rfl⟩
  obtain ⟨zb, hzb⟩ : ∃ z, z = code b := ⟨_, rfl⟩
  obtain ⟨z2, hz2⟩ : ∃ z, z = mcode2 a b := ⟨_, rfl⟩
  have Z2a := Lib.hid (show za = 0 → z2 = zb from fun h => by rw [hz2, hzb]; unfold mcode2; rw [if_pos (by rw [← h, hza])])
  have Z2b := Lib.hid (show za ≠ 0 → z2 = za from fun h => by rw [hz2, hza]; unfold mcode2; rw [if_neg (by intro e; exact h (hza.trans e))])
  have ZZ := Lib.hid (show z2 = 0 → za = 0 ∧ zb = 0 from fun h => by rw [hza, hzb]; exact mcode2_zero (hz2.symm.trans h))
  obtain ⟨qa, hqa⟩ : ∃ k, k = ncol a := ⟨_, rfl⟩
  obtain ⟨qb, hqb⟩ : ∃ k, k = ncol b := ⟨_, rfl⟩
  obtain ⟨zA, hzA⟩ : ∃ z, z = cA a b := ⟨_, rfl⟩
  obtain ⟨zM, hzM⟩ : ∃ z, z = cM a b := ⟨_, rfl⟩
  obtain ⟨zS, hzS⟩ : ∃ z, z = cS a := ⟨_, rfl⟩
  obtain ⟨zP, hzP⟩ : ∃ z, z = cP a n := ⟨_, rfl⟩
  obtain ⟨zO, hzO⟩ : ∃ z, z = cO n := ⟨_, rfl⟩
  obtain ⟨na, hna⟩ : ∃ k, k = a.length := ⟨_, rfl⟩
  obtain ⟨nb, hnb⟩ : ∃ k, k = b.length := ⟨_, rfl⟩
  have CA1 := Lib.hid (show z2 = 0 → ¬ (na = nb ∧ qa = qb) → zA = 3 from fun h h' => by rw [hzA]; unfold cA; rw [if_pos (hz2.symm.trans h), if_neg (by rw [← hna, ← hnb, ← hqa, ← hqb]; exact h')])
  have CA0 := Lib.hid (show ¬ (z2 = 0 ∧ ¬ (na = nb ∧ qa = qb)) → zA = z2 from fun h => by
    rw [hzA]; unfold cA
    by_cases e : mcode2 a b = 0
    · rw [if_pos e, if_pos (by rw [← hna, ← hnb, ← hqa, ← hqb]; exact Classical.byContradiction fun hx => h ⟨hz2.trans e, hx⟩), hz2, e]
    · rw [if_neg e, hz2])
  have CM1 := Lib.hid (show z2 = 0 → ¬ qa = nb → zM = 3 from fun h h' => by rw [hzM]; unfold cM; rw [if_pos (hz2.symm.trans h), if_neg (by rw [← hnb, ← hqa]; exact h')])
  have CM0 := Lib.hid (show ¬ (z2 = 0 ∧ ¬ qa = nb) → zM = z2 from fun h => by
    rw [hzM]; unfold cM
    by_cases e : mcode2 a b = 0
    · rw [if_pos e, if_pos (by rw [← hnb, ← hqa]; exact Classical.byContradiction fun hx => h ⟨hz2.trans e, hx⟩), hz2, e]
    · rw [if_neg e, hz2])
  have CS1 := Lib.hid (show za = 0 → ¬ na = qa → zS = 3 from fun h h' => by rw [hzS]; unfold cS; rw [if_pos (hza.symm.trans h), if_neg (by rw [← hna, ← hqa]; exact h')])
  have CS0 := Lib.hid (show ¬ (za = 0 ∧ ¬ na = qa) → zS = za from fun h => by
    rw [hzS]; unfold cS
    by_cases e : code a = 0
    · rw [if_pos e, if_pos (by rw [← hna, ← hqa]; exact Classical.byContradiction fun hx => h ⟨hza.trans e, hx⟩), hza, e]
    · rw [if_neg e, hza])
  have CP1 := Lib.hid (show zS = 0 → ¬ (0 ≤ n ∧ n ≤ 1000) → zP = 1 from fun h h' => by rw [hzP]; unfold cP; rw [if_pos (hzS.symm.trans h), if_neg h'])
  have CP0 := Lib.hid (show ¬ (zS = 0 ∧ ¬ (0 ≤ n ∧ n ≤ 1000)) → zP = zS from fun h => by
    rw [hzP]; unfold cP
    by_cases e : cS a = 0
    · rw [if_pos e, if_pos (Classical.byContradiction fun hx => h ⟨hzS.trans e, hx⟩), hzS, e]
    · rw [if_neg e, hzS])
  have PZ := Lib.hid (show zP = 0 → za = 0 ∧ na = qa ∧ 0 ≤ n ∧ n ≤ 1000 from fun h => by
    have h1 := cP_zero (hzP.symm.trans h)
    have h2 := cS_zero h1.1
    rw [hza, hna, hqa]
    exact ⟨h2.1, h2.2, h1.2⟩)
  have CO1 := Lib.hid (show 1 ≤ n ∧ n ≤ 5 → zO = 0 ∧ fO n = Mx.matl n.toNat n.toNat Mx.one from fun h => by rw [hzO]; unfold cO fO; rw [if_pos h, if_pos h]; exact ⟨rfl, rfl⟩)
  have CO0 := Lib.hid (show ¬ (1 ≤ n ∧ n ≤ 5) → zO = 1 ∧ fO n = [] from fun h => by rw [hzO]; unfold cO fO; rw [if_neg h, if_neg h]; exact ⟨rfl, rfl⟩)
  have ET := Lib.hid (show za ≠ 0 → fT a = [] from fun h => by unfold fT; rw [if_neg (fun e => h (hza.trans e))])
  have EAD := Lib.hid (show zA ≠ 0 → fA a b = [] from fun h => by unfold fA; rw [if_neg (fun e => h (hzA.trans e))])
  have EMU := Lib.hid (show zM ≠ 0 → fM a b = [] from fun h => by unfold fM; rw [if_neg (fun e => h (hzM.trans e))])
  have EPW := Lib.hid (show zP ≠ 0 → fP a n = [] from fun h => by unfold fP; rw [if_neg (fun e => h (hzP.trans e))])
  have EP0 := Lib.hid (show zP = 0 → fP a n = Mx.matl na na (Mx.pwm na (toF a) n.toNat) from fun h => by unfold fP; rw [if_pos (hzP.symm.trans h), hna])
  have LA := Lib.hid (cA_le a b)
  have LM := Lib.hid (cM_le a b)
  have LP := Lib.hid (cP_le a n)
  have LO := Lib.hid (cO_le n)
  have ON := Lib.hid (One_says n)
  rw [show Mx.mcode 5 0 9972 a = za from hza.symm] at FA CK
  rw [← hza] at LT FL TU RPW N5 ROWA
  rw [show Mx.mcode 5 0 9972 b = zb from hzb.symm] at FB
  rw [← hzb] at ROWB
  rw [← hz2] at L2
  rw [← hzA] at LA AD RAD
  rw [← hzM] at LM MU RMU
  rw [← hzP] at LP PW
  rw [← hzO] at LO ON
  rw [← hna] at FA CK FL TU AD MU PW RAD RMU RPW N5 ROWA ⊢
  rw [← hnb] at FB AD MU RAD RMU ROWB ⊢
  rw [← hqa] at ROWA RPW
  rw [← hqb] at ROWB
  clear ha hb hl hza hzb hz2 hna hnb hqa hqb hzA hzM hzS hzP hzO
  go_enter Tryd.func3, Tryd.ntmps3
  go_wp2_with fail
  refine (FA.out w (Kp.rfl' w)).mono ?_; rintro e w1 ⟨rfl, hd⟩
  have K1 := Lib.hid hd.kp; clear hd
  go_wp2_with fail
  refine (CK.out w1 K1.out).mono ?_; rintro e w' ⟨rfl, rfl⟩
  go_wp2_with fail
  refine (ER.out za LT.out w1 K1.out).mono ?_; rintro e w2 ⟨rfl, hk⟩
  have K2 := Lib.hid (K1.out.trans hk); clear hk
  -- turned, and what is wrong with both
  go_upto_if 31 with (fail)
  go_cut [7, 10] (fun e t wc => e = .int .i64 (z2 : Int) ∧ ∃ T d, t = .slice T (fT a).length d ∧ LiesM wc T (fT a) ∧ Kp w wc)
  case first =>
    as_aux_lemma =>
    by_cases h : za = 0
    · have hc : ((za : Int) == 0) = true := by rw [beq_iff_eq]; omega
      have FL' := Lib.hid (FL.out w2 K2.out h)
      have EB := Lib.hid (Z2a.out h)
      clear h
      go_wp2_with fail
      refine (FL'.out).mono ?_; rintro e w3 ⟨T, d, rfl, lT, kT⟩
      have LT1 := Lib.hid lT; have K3 := Lib.hid (K2.out.trans kT); clear lT kT
      go_wp2_with fail
      refine (FB.out w3 K3.out).mono ?_; rintro e w4 ⟨rfl, hd⟩
      have KD := Lib.hid hd.kp; clear hd
      go_wp2_with fail
      go_meet
      case rel => exact ⟨by rw [EB.out], T, d, rfl, LT1.out.keep KD.out, K3.out.trans KD.out⟩
    · have hc : ((za : Int) == 0) = false := by rw [beq_eq_false_iff_ne]; omega
      have EB := Lib.hid (Z2b.out h)
      have EE := Lib.hid (ET.out h)
      clear h
      go_wp2_with fail
      go_meet
      case rel => exact ⟨by rw [EB.out], none, 0, by rw [EE.out]; rfl, by rw [EE.out]; exact LiesM.empty _ _, K2.out⟩
  case rest =>
  as_aux_lemma =>
  obtain ⟨rfl, T, dT, rfl, lT, kT⟩ := hcut
  obtain ⟨w3, hw3⟩ : ∃ x, x = wc := ⟨_, rfl⟩
  subst hw3
  have LT1 := Lib.hid lT; have K3 := Lib.hid kT; clear lT kT
  go_wp2_with fail
  refine (TU.out w3 K3.out).mono ?_; rintro e w4 ⟨T2, d2, rfl, l2, k2⟩
  have LT2 := Lib.hid l2; have K4 := Lib.hid (K3.out.trans k2); have K34 := Lib.hid k2; clear l2 k2
  go_wp2_with fail
  refine (ER.out za LT.out w4 K4.out).mono ?_; rintro e w5 ⟨rfl, hk⟩
  have K5 := Lib.hid (K4.out.trans hk); have K45 := Lib.hid hk; clear hk
  go_wp2_with fail
  refine (rows_twice T2 T (fT a) d2 dT w5 (LT2.out.keep K45.out) (LT1.out.keep (K34.out.trans K45.out)) (fT_modest a)).mono ?_; rintro e w6 ⟨rfl, hk⟩
  have K6 := Lib.hid (K5.out.trans hk); clear hk
  clear LT1 LT2 K34 K45 K5 K4 K3 K2 K1 FL TU
  -- the sum
  go_upto_region 11 with (fail)
  go_cut [69] (fun t wc => ∃ bb : Bool, t = .bool bb ∧ (bb = true → zA = 3) ∧ (bb = false → zA = z2) ∧ Kp w wc)
  case first =>
    as_aux_lemma =>
    by_cases h : z2 = 0
    · have hc : ((z2 : Int) == 0) = true := by rw [beq_iff_eq]; omega
      obtain ⟨ad, A0, d0, rfl, x1, x2, x3⟩ := ROWA.out (ZZ.out h).1
      obtain ⟨bd, B0, e0, rfl, x4, x5, x6⟩ := ROWB.out (ZZ.out h).2
      have y1 := (K6.out.cell (p := ad) x1).trans x2
      have y2 := (K6.out.cell (p := bd) x4).trans x5
      by_cases hn : na = nb
      · subst hn
        have e1 : ((na : Int) != (na : Int)) = false := by simp
        by_cases hq : qa = qb
        · have EQ := Lib.hid (CA0.out (by rintro ⟨_, h'⟩; exact h' ⟨rfl, hq⟩))
          subst hq
          have e2 : ((qa : Int) != (qa : Int)) = false := by simp
          clear h x1 x2 x4 x5
          go_quiet (fail)
          go_wp2_with fail
          go_meet
          case rel => exact ⟨false, rfl, fun h => (by cases h), fun _ => EQ.out, K6.out.drewN _⟩
        · have EQ := Lib.hid (CA1.out h (by rintro ⟨_, h'⟩; exact hq h'))
          have e2 : ((qa : Int) != (qb : Int)) = true := by rw [bne_iff_ne]; omega
          clear h x1 x2 x4 x5 hq
          go_quiet (fail)
          go_wp2_with fail
          go_meet
          case rel => exact ⟨true, rfl, fun _ => EQ.out, fun h => (by cases h), K6.out.drewN _⟩
      · have EQ := Lib.hid (CA1.out h (by rintro ⟨h', _⟩; exact hn h'))
        have e1 : ((na : Int) != (nb : Int)) = true := by rw [bne_iff_ne]; omega
        clear h x1 x2 x4 x5 hn
        go_quiet (fail)
        go_wp2_with fail
        go_meet
        case rel => exact ⟨true, rfl, fun _ => EQ.out, fun h => (by cases h), K6.out.drewN _⟩
    · have EQ := Lib.hid (CA0.out (by rintro ⟨h', _⟩; exact h h'))
      have hc : ((z2 : Int) == 0) = false := by rw [beq_eq_false_iff_ne]; omega
      clear h
      go_quiet (fail)
      go_wp2_with fail
      go_meet
      case rel => exact ⟨false, rfl, fun h => (by cases h), fun _ => EQ.out, K6.out.drewN _⟩
  case rest =>
  as_aux_lemma =>
  obtain ⟨bb, rfl, b1, b0, k7⟩ := hcut
  have B1 := Lib.hid b1; have B0 := Lib.hid b0; have K7 := Lib.hid k7
  clear b1 b0 k7 K6 CA0 CA1
  go_upto_if 69 with (fail)
  go_cut [17] (fun p wx => p = .int .i64 (zA : Int) ∧ Kp w wx)
  case first =>
    as_aux_lemma =>
    cases bb with
    | true =>
      have EQ := Lib.hid (B1.out rfl)
      go_wp2_with fail
      go_meet
      case rel => exact ⟨by rw [EQ.out]; rfl, K7.out⟩
    | false =>
      have EQ := Lib.hid (B0.out rfl)
      go_wp2_with fail
      go_meet
      case rel => exact ⟨by rw [EQ.out], K7.out⟩
  case rest =>
  as_aux_lemma =>
  obtain ⟨rfl, k8⟩ := hcut
  obtain ⟨w7, hw7⟩ : ∃ x, x = wc := ⟨_, rfl⟩
  subst hw7
  have K8 := Lib.hid k8
  clear k8 K7 B1 B0
  go_upto_if 71 with (fail)
  go_cut [11] (fun s wx => ∃ S d, s = .slice S (fA a b).length d ∧ LiesM wx S (fA a b) ∧ Kp w wx)
  case first =>
    as_aux_lemma =>
    by_cases h : zA = 0
    · have hc : ((zA : Int) == 0) = true := by rw [beq_iff_eq]; omega
      have RR := Lib.hid (RAD.out w7 K8.out h)
      clear h
      go_wp2_with fail
      refine (RR.out).mono ?_; rintro e w8 ⟨S, d, rfl, l8, k8⟩
      have L8 := Lib.hid l8; have K9 := Lib.hid (K8.out.trans k8); clear l8 k8
      go_wp2_with fail
      go_meet
      case rel => exact ⟨S, d, rfl, L8.out, K9.out⟩
    · have hc : ((zA : Int) == 0) = false := by rw [beq_eq_false_iff_ne]; omega
      have EE := Lib.hid (EAD.out h)
      clear h
      go_wp2_with fail
      go_meet
      case rel => exact ⟨none, 0, by rw [EE.out]; rfl, by rw [EE.out]; exact LiesM.empty _ _, K8.out⟩
  case rest =>
  as_aux_lemma =>
  obtain ⟨S, dS, rfl, l9, k9⟩ := hcut
  obtain ⟨w8, hw8⟩ : ∃ x, x = wc := ⟨_, rfl⟩
  subst hw8
  have L9 := Lib.hid l9; have K9 := Lib.hid k9
  clear l9 k9 K8 RAD EAD
  go_wp2_with fail
  refine (AD.out w8 K9.out).mono ?_; rintro e w9 ⟨S2, d3, rfl, l2, k2⟩
  have L10 := Lib.hid l2; have K10 := Lib.hid (K9.out.trans k2); have KS := Lib.hid k2; clear l2 k2
  go_wp2_with fail
  refine (ER.out zA LA.out w9 K10.out).mono ?_; rintro e w10 ⟨rfl, hk⟩
  have K11 := Lib.hid (K10.out.trans hk); have KT := Lib.hid hk; clear hk
  go_wp2_with fail
  refine (rows_twice S2 S (fA a b) d3 dS w10 (L10.out.keep KT.out) (L9.out.keep (KS.out.trans KT.out)) (fA_modest a b)).mono ?_; rintro e w11 ⟨rfl, hk⟩
  have K12 := Lib.hid (K11.out.trans hk); clear hk
  clear L9 L10 KS KT K9 K10 K11 AD LA
  -- the product
  go_upto_region 17 with (fail)
  go_cut [99] (fun t wc => ∃ bb : Bool, t = .bool bb ∧ (bb = true → zM = 3) ∧ (bb = false → zM = z2) ∧ Kp w wc)
  case first =>
    as_aux_lemma =>
    by_cases h : z2 = 0
    · have hc : ((z2 : Int) == 0) = true := by rw [beq_iff_eq]; omega
      obtain ⟨ad, A0, d0, rfl, x1, x2, x3⟩ := ROWA.out (ZZ.out h).1
      have y1 := (K12.out.cell (p := ad) x1).trans x2
      by_cases hq : qa = nb
      · have EQ := Lib.hid (CM0.out (by rintro ⟨_, h'⟩; exact h' hq))
        subst hq
        have e2 : ((qa : Int) != (qa : Int)) = false := by simp
        clear h x1 x2
        go_wp2_with fail
        go_meet
        case rel => exact ⟨false, rfl, fun h => (by cases h), fun _ => EQ.out, K12.out⟩
      · have EQ := Lib.hid (CM1.out h hq)
        have e2 : ((qa : Int) != (nb : Int)) = true := by rw [bne_iff_ne]; omega
        clear h x1 x2 hq
        go_wp2_with fail
        go_meet
        case rel => exact ⟨true, rfl, fun _ => EQ.out, fun h => (by cases h), K12.out⟩
    · have EQ := Lib.hid (CM0.out (by rintro ⟨h', _⟩; exact h h'))
      have hc : ((z2 : Int) == 0) = false := by rw [beq_eq_false_iff_ne]; omega
      clear h
      go_wp2_with fail
      go_meet
      case rel => exact ⟨false, rfl, fun h => (by cases h), fun _ => EQ.out, K12.out⟩
  case rest =>
  as_aux_lemma =>
  obtain ⟨b2, rfl, b1, b0, k7⟩ := hcut
  have B1 := Lib.hid b1; have B0 := Lib.hid b0; have K13 := Lib.hid k7
  clear b1 b0 k7 K12 CM0 CM1
  go_upto_if 99 with (fail)
  go_cut [7] (fun p wc => p = .int .i64 (zM : Int) ∧ Kp w wc)
  case first =>
    as_aux_lemma =>
    cases b2 with
    | true =>
      have EQ := Lib.hid (B1.out rfl)
      go_wp2_with fail
      go_meet
      case rel => exact ⟨by rw [EQ.out]; rfl, K13.out⟩
    | false =>
      have EQ := Lib.hid (B0.out rfl)
      go_wp2_with fail
      go_meet
      case rel => exact ⟨by rw [EQ.out], K13.out⟩
  case rest =>
  as_aux_lemma =>
  obtain ⟨rfl, k8⟩ := hcut
  obtain ⟨w12, hw12⟩ : ∃ x, x = wc := ⟨_, rfl⟩
  subst hw12
  have K14 := Lib.hid k8
  clear k8 K13 B1 B0
  go_upto_if 101 with (fail)
  go_cut [12] (fun s wc => ∃ S d, s = .slice S (fM a b).length d ∧ LiesM wc S (fM a b) ∧ Kp w wc)
  case first =>
    as_aux_lemma =>
    by_cases h : zM = 0
    · have hc : ((zM : Int) == 0) = true := by rw [beq_iff_eq]; omega
      have RR := Lib.hid (RMU.out w12 K14.out h)
      clear h
      go_wp2_with fail
      refine (RR.out).mono ?_; rintro e w13 ⟨S, d, rfl, l8, k8⟩
      have L8 := Lib.hid l8; have K15 := Lib.hid (K14.out.trans k8); clear l8 k8
      go_wp2_with fail
      go_meet
      case rel => exact ⟨S, d, rfl, L8.out, K15.out⟩
    · have hc : ((zM : Int) == 0) = false := by rw [beq_eq_false_iff_ne]; omega
      have EE := Lib.hid (EMU.out h)
      clear h
      go_wp2_with fail
      go_meet
      case rel => exact ⟨none, 0, by rw [EE.out]; rfl, by rw [EE.out]; exact LiesM.empty _ _, K14.out⟩
  case rest =>
  as_aux_lemma =>
  obtain ⟨P, dP, rfl, l9, k9⟩ := hcut
  obtain ⟨w13, hw13⟩ : ∃ x, x = wc := ⟨_, rfl⟩
  subst hw13
  have L9 := Lib.hid l9; have K15 := Lib.hid k9
  clear l9 k9 K14 RMU EMU
  go_wp2_with fail
  refine (MU.out w13 K15.out).mono ?_; rintro e w14 ⟨P2, d4, rfl, l2, k2⟩
  have L10 := Lib.hid l2; have K16 := Lib.hid (K15.out.trans k2); have KS := Lib.hid k2; clear l2 k2
  go_wp2_with fail
  refine (ER.out zM LM.out w14 K16.out).mono ?_; rintro e w15 ⟨rfl, hk⟩
  have K17 := Lib.hid (K16.out.trans hk); have KT := Lib.hid hk; clear hk
  go_wp2_with fail
  refine (rows_twice P2 P (fM a b) d4 dP w15 (L10.out.keep KT.out) (L9.out.keep (KS.out.trans KT.out)) (fM_modest a b)).mono ?_; rintro e w16 ⟨rfl, hk⟩
  have K18 := Lib.hid (K17.out.trans hk); clear hk
  clear L9 L10 KS KT K15 K16 K17 MU LM
  -- the power
  go_upto_region 23 with (fail)
  go_cut [129] (fun t wc => ∃ bb : Bool, t = .bool bb ∧ (bb = true → zS = 3) ∧ (bb = false → zS = za) ∧ Kp w wc)
  case first =>
    as_aux_lemma =>
    by_cases h : za = 0
    · have hc : ((za : Int) == 0) = true := by rw [beq_iff_eq]; omega
      obtain ⟨ad, A0, d0, rfl, x1, x2, x3⟩ := ROWA.out h
      have y1 := (K18.out.cell (p := ad) x1).trans x2
      by_cases hq : na = qa
      · have EQ := Lib.hid (CS0.out (by rintro ⟨_, h'⟩; exact h' hq))
        subst hq
        have e2 : ((na : Int) != (na : Int)) = false := by simp
        clear h x1 x2
        go_wp2_with fail
        go_meet
        case rel => exact ⟨false, rfl, fun h => (by cases h), fun _ => EQ.out, K18.out⟩
      · have EQ := Lib.hid (CS1.out h hq)
        have e2 : ((na : Int) != (qa : Int)) = true := by rw [bne_iff_ne]; omega
        clear h x1 x2 hq
        go_wp2_with fail
        go_meet
        case rel => exact ⟨true, rfl, fun _ => EQ.out, fun h => (by cases h), K18.out⟩
    · have EQ := Lib.hid (CS0.out (by rintro ⟨h', _⟩; exact h h'))
      have hc : ((za : Int) == 0) = false := by rw [beq_eq_false_iff_ne]; omega
      clear h
      go_wp2_with fail
      go_meet
      case rel => exact ⟨false, rfl, fun h => (by cases h), fun _ => EQ.out, K18.out⟩
  case rest =>
  as_aux_lemma =>
  obtain ⟨b3, rfl, b1, b0, k7⟩ := hcut
  have B1 := Lib.hid b1; have B0 := Lib.hid b0; have K19 := Lib.hid k7
  clear b1 b0 k7 K18 CS0 CS1
  go_upto_if 129 with (fail)
  go_cut [9] (fun p wc => p = .int .i64 (zS : Int) ∧ Kp w wc)
  case first =>
    as_aux_lemma =>
    cases b3 with
    | true =>
      have EQ := Lib.hid (B1.out rfl)
      go_wp2_with fail
      go_meet
      case rel => exact ⟨by rw [EQ.out]; rfl, K19.out⟩
    | false =>
      have EQ := Lib.hid (B0.out rfl)
      go_wp2_with fail
      go_meet
      case rel => exact ⟨by rw [EQ.out], K19.out⟩
  case rest =>
  as_aux_lemma =>
  obtain ⟨rfl, k8⟩ := hcut
  obtain ⟨w17, hw17⟩ : ∃ x, x = wc := ⟨_, rfl⟩
  subst hw17
  have K20 := Lib.hid k8
  clear k8 K19 B1 B0
  go_upto_region 25 with (fail)
  go_cut [136] (fun t wc => ∃ bb : Bool, t = .bool bb ∧ (bb = true → zP = 1) ∧ (bb = false → zP = zS) ∧ Kp w wc)
  case first =>
    as_aux_lemma =>
    by_cases h : zS = 0
    · have hc : ((zS : Int) == 0) = true := by rw [beq_iff_eq]; omega
      by_cases hn : 0 ≤ n ∧ n ≤ 1000
      · have EQ := Lib.hid (CP0.out (by rintro ⟨_, h'⟩; exact h' hn))
        have IN := Lib.hid (law2In_any n 0 1000 w17 true (by simp [hn]))
        clear h hn
        go_wp2_with fail
        refine (IN.out).mono ?_; rintro e w' ⟨rfl, rfl⟩
        go_wp2_with fail
        go_meet
        case rel => exact ⟨false, rfl, fun h => (by cases h), fun _ => EQ.out, K20.out⟩
      · have EQ := Lib.hid (CP1.out h hn)
        have IN := Lib.hid (law2In_any n 0 1000 w17 false (by simp; omega))
        clear h hn
        go_wp2_with fail
        refine (IN.out).mono ?_; rintro e w' ⟨rfl, rfl⟩
        go_wp2_with fail
        go_meet
        case rel => exact ⟨true, rfl, fun _ => EQ.out, fun h => (by cases h), K20.out⟩
    · have EQ := Lib.hid (CP0.out (by rintro ⟨h', _⟩; exact h h'))
      have hc : ((zS : Int) == 0) = false := by rw [beq_eq_false_iff_ne]; omega
      clear h
      go_wp2_with fail
      go_meet
      case rel => exact ⟨false, rfl, fun h => (by cases h), fun _ => EQ.out, K20.out⟩
  case rest =>
  as_aux_lemma =>
  obtain ⟨b4, rfl, b1, b0, k7⟩ := hcut
  have B1 := Lib.hid b1; have B0 := Lib.hid b0; have K21 := Lib.hid k7
  clear b1 b0 k7 K20 CP0 CP1
  go_upto_if 136 with (fail)
  go_cut [9] (fun p wc => p = .int .i64 (zP : Int) ∧ Kp w wc)
  case first =>
    as_aux_lemma =>
    cases b4 with
    | true =>
      have EQ := Lib.hid (B1.out rfl)
      go_wp2_with fail
      go_meet
      case rel => exact ⟨by rw [EQ.out]; rfl, K21.out⟩
    | false =>
      have EQ := Lib.hid (B0.out rfl)
      go_wp2_with fail
      go_meet
      case rel => exact ⟨by rw [EQ.out], K21.out⟩
  case rest =>
  as_aux_lemma =>
  obtain ⟨rfl, k8⟩ := hcut
  obtain ⟨w18, hw18⟩ : ∃ x, x = wc := ⟨_, rfl⟩
  subst hw18
  have K22 := Lib.hid k8
  clear k8 K21 B1 B0
  go_upto_if 138 with (fail)
  go_cut [13] (fun s wc => ∃ S d, s = .slice S (fP a n).length d ∧ LiesM wc S (fP a n) ∧ Kp w wc)
  case first =>
    as_aux_lemma =>
    by_cases h : zP = 0
    · have hc : ((zP : Int) == 0) = true := by rw [beq_iff_eq]; omega
      obtain ⟨z0, hsq, n0, n1⟩ := PZ.out h
      obtain ⟨N, rfl⟩ := Int.eq_ofNat_of_zero_le n0
      have n5 := N5.out z0
      have EE := Lib.hid (EP0.out h)
      have UN := Lib.hid (rUnit_any na w18 (by omega))
      have MM := Lib.hid (fun (wx : World) (hx : Kp w wx) P k d hp => RPW.out z0 hsq wx hx P k d hp)
      have hN : N ≤ 1000 := by omega
      clear h z0 hsq n0 n1
      go_wp2_with fail
      refine (UN.out).mono ?_; rintro e w19 ⟨U, dU, rfl, lU, kU⟩
      have LU := Lib.hid lU; have K23 := Lib.hid (K22.out.trans kU); clear lU kU
      go_wp2_with fail
      go_loopw [13, 20] (fun v i wr => ∃ (k : Nat) (P : Option Addr) (d : Nat), k ≤ N ∧ i = .int .i64 (k : Int) ∧ v = .slice P na d ∧ LiesM wr P (Mx.matl na na (Mx.pwm na (toF a) k)) ∧ Kp w wr) (fun _ i _ => N - (intOf i).toNat)
      case atStart => exact ⟨0, U, dU, Nat.zero_le _, rfl, rfl, LU.out, K23.out⟩
      case round =>
        obtain ⟨k, P, d, hk, rfl, rfl, lP, kP⟩ := hrel
        have LP1 := Lib.hid lP; have KP := Lib.hid kP
        clear lP kP
        by_cases hlt : k < N
        · have M1 := Lib.hid (MM.out wr KP.out P k d LP1.out)
          go_wp2_with fail
          refine (M1.out).mono ?_; rintro e w20 ⟨P', d', rfl, lQ, kQ⟩
          have LQ := Lib.hid lQ; have KQ := Lib.hid (KP.out.trans kQ); clear lQ kQ
          go_wp2_with fail
          go_roundw
          case rel => exact ⟨k + 1, P', d', by omega, by go_num, rfl, LQ.out, KQ.out⟩
          case measure => simp [intOf]; omega
        · obtain rfl : k = N := by omega
          go_wp2_with fail
          go_meet
          case rel => exact ⟨P, d, by rw [EE.out, Mx.len_matl], by rw [EE.out]; exact LP1.out, KP.out⟩
    · have hc : ((zP : Int) == 0) = false := by rw [beq_eq_false_iff_ne]; omega
      have EE := Lib.hid (EPW.out h)
      clear h
      go_wp2_with fail
      go_meet
      case rel => exact ⟨none, 0, by rw [EE.out]; rfl, by rw [EE.out]; exact LiesM.empty _ _, K22.out⟩
  case rest =>
  as_aux_lemma =>
  obtain ⟨Q, dQ, rfl, l9, k9⟩ := hcut
  obtain ⟨w21, hw21⟩ : ∃ x, x = wc := ⟨_, rfl⟩
  subst hw21
  have L9 := Lib.hid l9; have K24 := Lib.hid k9
  clear l9 k9 K22 RPW EPW
  go_wp2_with fail
  refine (PW.out w21 K24.out).mono ?_; rintro e w22 ⟨Q2, d5, rfl, l2, k2⟩
  have L10 := Lib.hid l2; have K25 := Lib.hid (K24.out.trans k2); have KS := Lib.hid k2; clear l2 k2
  go_wp2_with fail
  refine (ER.out zP LP.out w22 K25.out).mono ?_; rintro e w23 ⟨rfl, hk⟩
  have K26 := Lib.hid (K25.out.trans hk); have KT := Lib.hid hk; clear hk
  go_wp2_with fail
  refine (rows_twice Q2 Q (fP a n) d5 dQ w23 (L10.out.keep KT.out) (L9.out.keep (KS.out.trans KT.out)) (fP_modest a n)).mono ?_; rintro e w24 ⟨rfl, hk⟩
  have K27 := Lib.hid (K26.out.trans hk); clear hk
  clear L9 L10 KS KT K24 K25 K26 PW LP
  -- the one
  obtain ⟨bo, hbo⟩ : ∃ bo, bo = (decide (1 ≤ n) && decide (n ≤ 5)) := ⟨_, rfl⟩
  have IN := Lib.hid (fun w => law2In_any n 1 5 w bo hbo.symm)
  have HBO := Lib.hid hbo
  clear hbo
  go_upto_region 37 with (fail)
  go_wp2_with fail
  refine (IN.out _).mono ?_; rintro e w' ⟨rfl, rfl⟩
  go_upto_if 165 with (fail)
  go_cut [7, 22] (fun p s wc => p = .int .i64 (zO : Int) ∧ ∃ S d, s = .slice S (fO n).length d ∧ LiesM wc S (fO n) ∧ Kp w wc)
  case first =>
    as_aux_lemma =>
    cases bo with
    | true =>
      have hn : 1 ≤ n ∧ n ≤ 5 := by have := HBO.out; simp at this; omega
      obtain ⟨N, rfl⟩ := Int.eq_ofNat_of_zero_le (show 0 ≤ n by omega)
      have EE := Lib.hid (CO1.out hn)
      have UN := Lib.hid (rUnit_any N w24 (by omega))
      clear hn
      go_wp2_with fail
      refine (UN.out).mono ?_; rintro e w25 ⟨U, dU, rfl, lU, kU⟩
      have LU := Lib.hid lU; have K28 := Lib.hid (K27.out.trans kU); clear lU kU
      go_wp2_with fail
      go_meet
      case rel => exact ⟨by rw [EE.out.1]; rfl, U, dU, by rw [EE.out.2, Mx.len_matl]; rfl, by rw [EE.out.2]; exact LU.out, K28.out⟩
    | false =>
      have hn : ¬ (1 ≤ n ∧ n ≤ 5) := by have := HBO.out; simp at this; omega
      have EE := Lib.hid (CO0.out hn)
      clear hn
      go_wp2_with fail
      go_meet
      case rel => exact ⟨by rw [EE.out.1]; rfl, none, 0, by rw [EE.out.2]; rfl, by rw [EE.out.2]; exact LiesM.empty _ _, K27.out⟩
  case rest =>
  as_aux_lemma =>
  obtain ⟨rfl, O, dO, rfl, l9, k9⟩ := hcut
  obtain ⟨w26, hw26⟩ : ∃ x, x = wc := ⟨_, rfl⟩
  subst hw26
  have L9 := Lib.hid l9; have K29 := Lib.hid k9
  clear l9 k9 K27 IN HBO CO1 CO0
  go_wp2_with fail
  refine (ON.out w26).mono ?_; rintro e w27 ⟨O2, d6, rfl, l2, k2⟩
  have L10 := Lib.hid l2; have K30 := Lib.hid (K29.out.trans k2); have KS := Lib.hid k2; clear l2 k2
  go_wp2_with fail
  refine (ER.out zO LO.out w27 K30.out).mono ?_; rintro e w28 ⟨rfl, hk⟩
  have K31 := Lib.hid (K30.out.trans hk); have KT := Lib.hid hk; clear hk
  go_wp2_with fail
  refine (rows_twice O2 O (fO n) d6 dO w28 (L10.out.keep KT.out) (L9.out.keep (KS.out.trans KT.out)) (fO_modest n)).mono ?_; rintro e w29 ⟨rfl, hk⟩
  have K32 := Lib.hid (K31.out.trans hk); clear hk
  go_wp2_with fail
  go_ret
  exact ⟨rfl, K32.out⟩

end Go.Proofs.YtbgmbjicidfhlaaDoor
