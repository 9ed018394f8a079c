/- The law SolveSays. -/
import Derived.Test.YtcgpommgldecfaaDoorSoC4
import Derived.Test.YtcgpommgldecfaaDoorSoC5
import Derived.Test.YtcgpommgldecfaaDoorSoFact
import Derived.Test.YtcgpommgldecfaaDoorSoR2
import Derived.Test.YtcgpommgldecfaaDoorMxRef3
import Derived.Test.YtcgpommgldecfaaDoorRowsG
import Derived.Test.YtcgpommgldecfaaDoorErrG
namespace Go.Proofs.YtcgpommgldecfaaDoor
open Go.ChangeShapes Go.WideShapes Go.ChangeAt Go.RowKit
set_option linter.unusedVariables false

theorem nm_congr {r c : Nat} {b : List Nat} {g h : Nat → Nat → Fp.F} (hb : b.length ≤ r) (e : Mx.Eqm r c g h) : Mx.matl (Mx.fr b c).length c (Mx.nm b h c) = Mx.matl (Mx.fr b c).length c (Mx.nm b g c) :=
  Mx.matl_ext fun i j hi hj => by
    unfold Mx.nm
    rw [Mx.nv_congr b.length fun s hs => (e s _ (by omega) (Mx.fr_at hi).1).symm]

set_option maxRecDepth 100000 in
set_option maxHeartbeats 6400000 in
theorem sosays_good (A : Option Addr) (f : Nat → Nat → Fp.F) (r c d : Nat) (T : Option Addr) (l : List Int) (q dt : Nat) (w : World) (hl : Told.Laid w) (ha : LiesM w A (Mx.matl r c f)) (ht : Lies w T l) (hq : l.length = q) (hr0 : 0 < r) (hr : r ≤ 5) (hc0 : 0 < c) (hc : c ≤ 5) :
    Calls Tryd.prog 3 #[.slice A r d, .slice T q dt] w fun e w' => e = .returned (.bool true) ∧ Kp w w' := by
  have HA := Lib.hid ha
  have HT := Lib.hid ht
  have HL := Lib.hid hl
  have HQ := Lib.hid hq
  have FI := Lib.hid (rField_any A (Mx.matl r c f) r d w ha (Mx.len_matl _ _ _))
  rw [Mx.mcode_matl f hr0 hr hc0 hc] at FI
  have RN := Lib.hid (fun w h => rNull_any A f r c d w h hr0 (by omega) hc0 (by omega))
  have NL := Lib.hid (fun w h => Null_ok A f r c d w h hr0 hr hc0 hc)
  have SIDE := Lib.hid (fun (z : Nat) (hz : Mx.rcode 0 9972 r l = z) (h0 : z ≠ 0) (w' : World) (ha' : LiesM w' A (Mx.matl r c f)) (ht' : Lies w' T l) => show Calls Tryd.prog 12 #[.slice A r d, .slice T q dt] w' fun e w'' => e = .returned (.tuple #[.slice none 0 0, errOf z]) ∧ Kp w' w'' from by
    have h := One_side A f r c d T l q dt w' ha' ht' hq hr0 hr hc0 hc (by omega)
    unfold FailsRow at h
    rw [hz] at h
    exact h)
  have ALLC := Lib.hid (fun (w' : World) (h : Lies w' T l) (hq2 : q ≤ 1000) => show Calls Tryd.prog 10 #[.slice T q dt, .int .i64 0, .int .i64 9972] w' fun e w'' => Tells (AllIn l 0 9972) e ∧ w' = w'' from by
    have h1 := all_any T l dt 0 9972 w' h (by omega)
    rw [hq] at h1
    exact h1)
  have ERR := Lib.hid (fun (z : Nat) (hz : z ≤ 100) (wx : World) (hx : Kp w wx) => show Calls Tryd.prog 8 #[errOf z, .int .i64 (z : Int)] wx fun e w' => e = .returned (.bool true) ∧ Kp wx w' from error_says z wx (laid_kp HL.out hx) hz)
  have ERR0 := Lib.hid (fun (wx : World) (hx : Kp w wx) => show Calls Tryd.prog 8 #[.nilIface, .int .i64 0] wx fun e w' => e = .returned (.bool true) ∧ Kp wx w' from error_says 0 wx (laid_kp HL.out hx) (by decide))
  clear ha ht hl hq
  go_enter Tryd.func3, Tryd.ntmps3
  go_wp2_with fail
  refine (FI.out).mono ?_; rintro e w1 ⟨rfl, hd⟩
  have K1 := Lib.hid hd.kp
  clear hd
  go_wp2_with fail
  refine (RN.out w1 (HA.out.keep K1.out)).mono ?_; rintro e w2 ⟨b1, g1, A2, c2, s1, rfl, l2, k2⟩
  have S1 := Lib.hid s1; have K2 := Lib.hid (K1.out.trans k2); have L2 := Lib.hid l2; clear k2 s1 l2
  go_wp2_with fail
  refine (NL.out w2 (HA.out.keep K2.out)).mono ?_; rintro e w3 ⟨b2, g2, A4, c4, s2, rfl, l4, k3⟩
  obtain ⟨rfl, hg⟩ := S1.out.one s2
  have HG := Lib.hid (nm_congr S1.out.le hg)
  obtain ⟨n1, hn1⟩ : ∃ n1, n1 = (Mx.fr b1 c).length := ⟨_, rfl⟩
  rw [← hn1] at HG L2 l4 ⊢
  have hn1c : n1 ≤ c := by rw [hn1]; exact Mx.fr_le b1 c
  have K23 := Lib.hid k3; have K3 := Lib.hid (K2.out.trans k3); have L4 := Lib.hid l4
  clear k3 s2 l4 hg hn1
  go_wp2_with fail
  refine (ERR0.out w3 K3.out).mono ?_; rintro e w4 ⟨rfl, k4⟩
  have K24 := Lib.hid (K23.out.trans k4); have K34 := Lib.hid k4; have K4 := Lib.hid (K3.out.trans k4); clear k4
  go_wp2_with fail
  refine (rows_eq A4 A2 (Mx.matl n1 c (Mx.nm b1 g2 c)) (Mx.matl n1 c (Mx.nm b1 g1 c)) n1 n1 c4 c2 w4 (L4.out.keep K34.out) (L2.out.keep K24.out) (Mx.len_matl _ _ _) (Mx.len_matl _ _ _) (modest_tab _ (by omega) (by omega)) (modest_tab _ (by omega) (by omega)) HG.out).mono ?_; rintro e w5 ⟨rfl, k5⟩
  have K5 := Lib.hid (K4.out.trans k5); clear k5 L4 L2 K24 K34 K23 HG
  by_cases hqr : q = r
  · have e1 : ((q : Int) != (r : Int)) = false := by simp [hqr]
    by_cases hall : AllIn l 0 9972
    · obtain ⟨ys, hys⟩ := row_of hall
      rw [HQ.out, hqr] at hys
      have ALT := Lib.hid (fun (w' : World) (h : Lies w' T l) => (ALLC.out w' h (by omega)).mono fun e w'' h => (⟨tells_yes h.1 hall, h.2⟩ : e = .returned (.bool true) ∧ w' = w''))
      have RS := Lib.hid (fun (w' : World) (h : LiesM w' A (Mx.matl r c f)) (h2 : Lies w' T l) => show Calls Tryd.prog 11 #[.slice A r d, .slice T q dt] w' fun e w'' => MadeSol r c f ys w' e w'' from by
        rw [hqr]; rw [hys] at h2
        exact rSolve_any A f r c d T ys dt w' h h2 hr0 (by omega) hc0 (by omega))
      have ON := Lib.hid (fun (w' : World) (h : LiesM w' A (Mx.matl r c f)) (h2 : Lies w' T l) => show Calls Tryd.prog 12 #[.slice A r d, .slice T q dt] w' fun e w'' => GotOne r c f ys w' e w'' from by
        rw [hqr]; rw [hys] at h2
        exact One_ok A f r c d T ys dt w' h h2 hr0 hr hc0 hc)
      clear hys hall hqr
      go_wp2_with fail
      refine (ALT.out w5 (HT.out.keep K5.out)).mono ?_; rintro e w6 ⟨rfl, rfl⟩
      go_wp2_with fail
      refine (RS.out w5 (HA.out.keep K5.out) (HT.out.keep K5.out)).mono ?_; rintro e w7 ⟨b3, g3, s3, (⟨x, X, dx, hans, rfl, lx, k7⟩ | ⟨hno, rfl, k7⟩)⟩
      · obtain ⟨rfl, _⟩ := S1.out.one s3
        have K7 := Lib.hid (K5.out.trans k7); have AN := Lib.hid hans; have LX := Lib.hid lx
        clear s3 k7 lx hans
        go_wp2_with fail
        refine (ON.out w7 (HA.out.keep K7.out) (HT.out.keep K7.out)).mono ?_; rintro e w8 ⟨b4, g4, s4, (⟨x2, X2, dx2, hans2, rfl, lx2, k8⟩ | ⟨hno, _, _⟩)⟩
        · obtain ⟨rfl, _⟩ := S1.out.one s4
          have HE := Lib.hid (show rowF c x2 = rowF c x from Mx.row_ext fun j hj => by rw [hans2.one S1.out.steps S1.out.req AN.out j hj])
          have K78 := Lib.hid k8; have K8 := Lib.hid (K7.out.trans k8); have LX2 := Lib.hid lx2
          clear s4 k8 lx2 hans2
          go_wp2_with fail
          refine (ERR0.out w8 K8.out).mono ?_; rintro e w9 ⟨rfl, k9⟩
          have K79 := Lib.hid (K78.out.trans k9); have K9 := Lib.hid (K8.out.trans k9); have K89 := Lib.hid k9
          clear k9
          go_wp2_with fail
          refine (same_eq X2 X (rowF c x2) (rowF c x) c c dx2 dx w9 (LX2.out.keep K89.out) (LX.out.keep K79.out) (Mx.len_row _ _).symm (Mx.len_row _ _).symm (by omega) HE.out).mono ?_; rintro e w10 ⟨rfl, k10⟩
          have K10 := Lib.hid (K9.out.trans k10); clear k10
          go_wp2_with fail
          go_ret
          exact ⟨rfl, K10.out⟩
        · exact (hno ⟨x, AN.out.sol⟩).elim
      · have K7 := Lib.hid (K5.out.trans k7); have NO := Lib.hid hno
        clear s3 k7 hno
        go_wp2_with fail
        refine (ON.out w7 (HA.out.keep K7.out) (HT.out.keep K7.out)).mono ?_; rintro e w8 ⟨b4, g4, s4, (⟨x2, X2, dx2, hans2, _, _, _⟩ | ⟨hno, rfl, k8⟩)⟩
        · exact (NO.out ⟨x2, hans2.sol⟩).elim
        · have K8 := Lib.hid (K7.out.trans k8)
          clear s4 k8 hno
          have E5 := Lib.hid (ERR.out 5 (by decide) w8 K8.out)
          rw [errOf_ne 5 (by decide)] at E5
          go_wp2_with fail
          refine (E5.out).mono ?_; rintro e w9 ⟨rfl, k9⟩
          have K9 := Lib.hid (K8.out.trans k9)
          clear k9
          go_wp2_with fail
          refine (same_nil w9).mono ?_; rintro e w10 ⟨rfl, k10⟩
          have K10 := Lib.hid (K9.out.trans k10); clear k10
          go_wp2_with fail
          go_ret
          exact ⟨rfl, K10.out⟩
    · have ALF := Lib.hid (fun (w' : World) (h : Lies w' T l) => (ALLC.out w' h (by omega)).mono fun e w'' h => (⟨tells_no h.1 hall, h.2⟩ : e = .returned (.bool false) ∧ w' = w''))
      have hz : Mx.rcode 0 9972 r l = 1 := by
        have : ∃ k, k < l.length ∧ ¬ (0 ≤ l.getD k 0 ∧ l.getD k 0 ≤ 9972) := Classical.byContradiction fun hn => hall fun k hk => Classical.byContradiction fun h => hn ⟨k, hk, h⟩
        obtain ⟨k, hk, hk2⟩ := this
        exact Mx.rcode_bad (by rw [HQ.out, hqr]) hk (by omega)
      have SD := Lib.hid (SIDE.out 1 hz (by decide))
      rw [errOf_ne 1 (by decide)] at SD
      clear hz hall hqr
      go_wp2_with fail
      refine (ALF.out w5 (HT.out.keep K5.out)).mono ?_; rintro e w6 ⟨rfl, rfl⟩
      go_wp2_with fail
      refine (SD.out w5 (HA.out.keep K5.out) (HT.out.keep K5.out)).mono ?_; rintro e w7 ⟨rfl, k7⟩
      have K7 := Lib.hid (K5.out.trans k7); clear k7
      have E5 := Lib.hid (ERR.out 1 (by decide) w7 K7.out)
      rw [errOf_ne 1 (by decide)] at E5
      go_wp2_with fail
      refine (E5.out).mono ?_; rintro e w9 ⟨rfl, k9⟩
      have K9 := Lib.hid (K7.out.trans k9)
      clear k9
      go_wp2_with fail
      refine (same_nil w9).mono ?_; rintro e w10 ⟨rfl, k10⟩
      have K10 := Lib.hid (K9.out.trans k10); clear k10
      go_wp2_with fail
      go_ret
      exact ⟨rfl, K10.out⟩
  · have e1 : ((q : Int) != (r : Int)) = true := by rw [bne_iff_ne]; omega
    have SD := Lib.hid (SIDE.out 3 (Mx.rcode_len (by rw [HQ.out]; exact hqr)) (by decide))
    rw [errOf_ne 3 (by decide)] at SD
    clear hqr
    go_wp2_with fail
    refine (SD.out w5 (HA.out.keep K5.out) (HT.out.keep K5.out)).mono ?_; rintro e w7 ⟨rfl, k7⟩
    have K7 := Lib.hid (K5.out.trans k7); clear k7
    have E5 := Lib.hid (ERR.out 3 (by decide) w7 K7.out)
    rw [errOf_ne 3 (by decide)] at E5
    go_wp2_with fail
    refine (E5.out).mono ?_; rintro e w9 ⟨rfl, k9⟩
    have K9 := Lib.hid (K7.out.trans k9)
    clear k9
    go_wp2_with fail
    refine (same_nil w9).mono ?_; rintro e w10 ⟨rfl, k10⟩
    have K10 := Lib.hid (K9.out.trans k10); clear k10
    go_wp2_with fail
    go_ret
    exact ⟨rfl, K10.out⟩

set_option maxRecDepth 100000 in
set_option maxHeartbeats 3200000 in
theorem sosays_bad (A : Option Addr) (m : List (List Int)) (n d : Nat) (T : Option Addr) (q dt : Nat) (w : World) (hl : Told.Laid w) (ha : LiesM w A m) (hn : m.length = n) (h : Mx.mcode 5 0 9972 m ≠ 0) :
    Calls Tryd.prog 3 #[.slice A n d, .slice T q dt] w fun e w' => e = .returned (.bool true) ∧ Kp w w' := by
  have HA := Lib.hid ha
  have HL := Lib.hid hl
  have FI := Lib.hid (rField_any A m n d w ha hn)
  have NB := Lib.hid (fun w ha => Null_bad A m n d w ha hn h)
  have OB := Lib.hid (fun w ha => One_bad A m n d T q dt w ha hn h)
  have hz := Mx.mcode_le 5 0 9972 m
  have ERR := Lib.hid (fun (wx : World) (hx : Kp w wx) => error_says (Mx.mcode 5 0 9972 m) wx (laid_kp HL.out hx) (by omega))
  unfold FailsRow at OB
  rw [errOf_ne _ h] at NB OB ERR
  have e1 : ((Mx.mcode 5 0 9972 m : Int) == 0) = false := by rw [beq_eq_false_iff_ne]; omega
  generalize Mx.mcode 5 0 9972 m = z at *
  clear ha hl h hn
  go_enter Tryd.func3, Tryd.ntmps3
  go_wp2_with fail
  refine (FI.out).mono ?_; rintro e w1 ⟨rfl, hd⟩
  have K1 := Lib.hid hd.kp
  clear hd
  go_wp2_with fail
  refine (NB.out w1 (HA.out.keep K1.out)).mono ?_; rintro e w2 ⟨rfl, k2⟩
  have K2 := Lib.hid (K1.out.trans k2); clear k2
  go_wp2_with fail
  refine (ERR.out w2 K2.out).mono ?_; rintro e w3 ⟨rfl, k3⟩
  have K3 := Lib.hid (K2.out.trans k3); clear k3
  go_wp2_with fail
  refine (rows_eq none none [] [] 0 0 0 0 w3 (LiesM.empty _ _) (LiesM.empty _ _) rfl rfl modest_nil modest_nil rfl).mono ?_; rintro e w4 ⟨rfl, k4⟩
  have K4 := Lib.hid (K3.out.trans k4); clear k4
  go_wp2_with fail
  refine (OB.out w4 (HA.out.keep K4.out)).mono ?_; rintro e w6 ⟨rfl, k6⟩
  have K6 := Lib.hid (K4.out.trans k6); clear k6
  go_wp2_with fail
  refine (ERR.out w6 K6.out).mono ?_; rintro e w7 ⟨rfl, k7⟩
  have K7 := Lib.hid (K6.out.trans k7); clear k7
  go_wp2_with fail
  refine (same_nil w7).mono ?_; rintro e w5 ⟨rfl, k5⟩
  have K5 := Lib.hid (K7.out.trans k5); clear k5
  go_wp2_with fail
  go_ret
  exact ⟨rfl, K5.out⟩

theorem walk_SolveSays (A : Option Addr) (m : List (List Int)) (d : Nat) (T : Option Addr) (l : List Int) (dt : Nat) (w : World) (hl : Told.Laid w) (ha : LiesM w A m) (ht : Lies w T l) :
    Calls Tryd.prog 3 #[.slice A m.length d, .slice T l.length dt] w fun e w' => e = .returned (.bool true) ∧ Kp w w' := by
  by_cases h : Mx.mcode 5 0 9972 m = 0
  · obtain ⟨r, c, f, e, h1, h2, h3, h4⟩ := Mx.mcode_zero h
    subst e
    rw [Mx.len_matl]
    exact sosays_good A f r c d T l _ dt w hl ha ht rfl h1 h2 h3 h4
  · exact sosays_bad A m m.length d T _ dt w hl ha rfl h
end Go.Proofs.YtcgpommgldecfaaDoor
