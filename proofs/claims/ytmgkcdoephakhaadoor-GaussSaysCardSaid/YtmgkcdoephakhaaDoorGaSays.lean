/- The law GaussSays. -/
import Derived.Test.YtmgkcdoephakhaaDoorGaC3
import Derived.Test.YtmgkcdoephakhaaDoorMxRef3
import Derived.Test.YtmgkcdoephakhaaDoorMxRef5
import Derived.Test.YtmgkcdoephakhaaDoorRowsG
import Derived.Test.YtmgkcdoephakhaaDoorErrG
namespace Go.Proofs.YtmgkcdoephakhaaDoor
open Go.ChangeShapes Go.WideShapes Go.ChangeAt Go.RowKit
set_option linter.unusedVariables false

set_option maxRecDepth 100000 in
set_option maxHeartbeats 6400000 in
theorem gasays_good (A : Option Addr) (f : Nat → Nat → Fp.F) (r c d : Nat) (w : World) (hl : Told.Laid w) (ha : LiesM w A (Mx.matl r c f)) (hr0 : 0 < r) (hr : r ≤ 5) (hc0 : 0 < c) (hc : c ≤ 5) :
    Calls Tryd.prog 3 #[.slice A r d] w fun e w' => e = .returned (.bool true) ∧ Kp w w' := by
  obtain ⟨ad, A0, d0, rfl, hlt0, hc00, _, _⟩ := ha.row hr0
  rw [add_zero'] at hc00
  have HA := Lib.hid ha
  have HL := Lib.hid hl
  have HC := Lib.hid hc00
  have FI := Lib.hid (rField_any (some ad) (Mx.matl r c f) r d w ha (Mx.len_matl _ _ _))
  rw [Mx.mcode_matl f hr0 hr hc0 hc] at FI
  have ST := Lib.hid (fun w h => rStairs_any (some ad) f r c c d w h hr0 hc0 (by omega) (by omega) (Nat.le_refl _))
  have SP := Lib.hid (fun w h => Steps_ok (some ad) f r c d w h hr0 hr hc0 hc)
  have RK := Lib.hid (fun w h => Rank_ok (some ad) f r c d w h hr0 hr hc0 hc)
  have ERR := Lib.hid (fun (wx : World) (hx : Kp w wx) => show Calls Tryd.prog 7 #[.nilIface, .int .i64 0] wx fun e w' => e = .returned (.bool true) ∧ Kp wx w' from error_says 0 wx (laid_kp HL.out hx) (by decide))
  clear ha hl hc00
  go_enter Tryd.func3, Tryd.ntmps3
  go_wp2_with fail
  refine (FI.out).mono ?_; rintro e w1 ⟨rfl, hd⟩
  have K1 := Lib.hid hd.kp
  have hc1 := (hd.kp.cell (p := ad) hlt0).trans HC.out
  clear hd
  go_wp2_with fail
  refine (ST.out w1 (HA.out.keep K1.out)).mono ?_; rintro e w2 ⟨b1, g1, A2, c2, A3, c3, s1, rfl, l2, l3, k2⟩
  have S1 := Lib.hid s1; have K2 := Lib.hid (K1.out.trans k2); have L2 := Lib.hid l2; have L3 := Lib.hid l3; clear k2 s1 l2 l3 hc1
  go_wp2_with fail
  refine (SP.out w2 (HA.out.keep K2.out)).mono ?_; rintro e w3 ⟨b2, g2, A4, c4, A5, c5, s2, rfl, l4, l5, k3⟩
  obtain ⟨rfl, hg⟩ := S1.out.one s2
  have hlb := s2.steps.le
  have K23 := Lib.hid k3; have K3 := Lib.hid (K2.out.trans k3); have L4 := Lib.hid l4; have L5 := Lib.hid l5
  have HG := Lib.hid (show Mx.matl r c g2 = Mx.matl r c g1 from hg.mat.symm)
  clear k3 s2 l4 l5 hg
  go_wp2_with fail
  refine (ERR.out w3 K3.out).mono ?_; rintro e w4 ⟨rfl, k4⟩
  have K24 := Lib.hid (K23.out.trans k4); have K34 := Lib.hid k4; have K4 := Lib.hid (K3.out.trans k4); clear k4
  go_wp2_with fail
  refine (rows_eq A4 A2 (Mx.matl r c g2) (Mx.matl r c g1) r r c4 c2 w4 (L4.out.keep K34.out) (L2.out.keep K24.out) (Mx.len_matl _ _ _) (Mx.len_matl _ _ _) (modest_tab _ (by omega) (by omega)) (modest_tab _ (by omega) (by omega)) HG.out).mono ?_; rintro e w5 ⟨rfl, k5⟩
  have K25 := Lib.hid (K24.out.trans k5); have K35 := Lib.hid (K34.out.trans k5); have K5 := Lib.hid (K4.out.trans k5); clear k5
  go_wp2_with fail
  refine (same_eq A5 A3 (cols b1) (cols b1) b1.length b1.length c5 c3 w5 (L5.out.keep K35.out) (L3.out.keep K25.out) (len_cols _).symm (len_cols _).symm (by omega) rfl).mono ?_; rintro e w6 ⟨rfl, k6⟩
  have K6 := Lib.hid (K5.out.trans k6); clear k6
  go_wp2_with fail
  refine (RK.out w6 (HA.out.keep K6.out)).mono ?_; rintro e w7 ⟨b3, g3, s3, rfl, k7⟩
  obtain ⟨rfl, _⟩ := S1.out.one s3
  have K7 := Lib.hid (K6.out.trans k7); clear k7 s3
  go_wp2_with fail
  refine (ERR.out w7 K7.out).mono ?_; rintro e w8 ⟨rfl, k8⟩
  have K8 := Lib.hid (K7.out.trans k8); clear k8
  go_wp2_with fail
  go_ret
  exact ⟨ret_bool (by simp), K8.out⟩

set_option maxRecDepth 100000 in
set_option maxHeartbeats 3200000 in
theorem gasays_bad (A : Option Addr) (m : List (List Int)) (n d : Nat) (w : World) (hl : Told.Laid w) (ha : LiesM w A m) (hn : m.length = n) (h : Mx.mcode 5 0 9972 m ≠ 0) :
    Calls Tryd.prog 3 #[.slice A n d] w fun e w' => e = .returned (.bool true) ∧ Kp w w' := by
  have HA := Lib.hid ha
  have HL := Lib.hid hl
  have FI := Lib.hid (rField_any A m n d w ha hn)
  have SP := Lib.hid (fun w ha => Steps_bad A m n d w ha hn h)
  have RK := Lib.hid (fun w ha => Rank_bad A m n d w ha hn h)
  have hz := Mx.mcode_le 5 0 9972 m
  have ERR := Lib.hid (fun (wx : World) (hx : Kp w wx) => error_says (Mx.mcode 5 0 9972 m) wx (laid_kp HL.out hx) (by omega))
  unfold FailsSteps at SP
  rw [errOf_ne _ h] at SP RK ERR
  have e1 : ((Mx.mcode 5 0 9972 m : Int) == 0) = false := by rw [beq_eq_false_iff_ne]; omega
  generalize Mx.mcode 5 0 9972 m = z at *
  clear ha hl h hn
  go_enter Tryd.func3, Tryd.ntmps3
  go_wp2_with fail
  refine (FI.out).mono ?_; rintro e w1 ⟨rfl, hd⟩
  have K1 := Lib.hid hd.kp
  clear hd
  go_wp2_with fail
  refine (SP.out w1 (HA.out.keep K1.out)).mono ?_; rintro e w2 ⟨rfl, k2⟩
  have K2 := Lib.hid (K1.out.trans k2); clear k2
  go_wp2_with fail
  refine (ERR.out w2 K2.out).mono ?_; rintro e w3 ⟨rfl, k3⟩
  have K3 := Lib.hid (K2.out.trans k3); clear k3
  go_wp2_with fail
  refine (rows_eq none none [] [] 0 0 0 0 w3 (LiesM.empty _ _) (LiesM.empty _ _) rfl rfl modest_nil modest_nil rfl).mono ?_; rintro e w4 ⟨rfl, k4⟩
  have K4 := Lib.hid (K3.out.trans k4); clear k4
  go_wp2_with fail
  refine (same_nil w4).mono ?_; rintro e w5 ⟨rfl, k5⟩
  have K5 := Lib.hid (K4.out.trans k5); clear k5
  go_wp2_with fail
  refine (RK.out w5 (HA.out.keep K5.out)).mono ?_; rintro e w6 ⟨rfl, k6⟩
  have K6 := Lib.hid (K5.out.trans k6); clear k6
  go_wp2_with fail
  refine (ERR.out w6 K6.out).mono ?_; rintro e w7 ⟨rfl, k7⟩
  have K7 := Lib.hid (K6.out.trans k7); clear k7
  go_wp2_with fail
  go_ret
  exact ⟨rfl, K7.out⟩

theorem walk_GaussSays (A : Option Addr) (m : List (List Int)) (d : Nat) (w : World) (hl : Told.Laid w) (ha : LiesM w A m) :
    Calls Tryd.prog 3 #[.slice A m.length d] w fun e w' => e = .returned (.bool true) ∧ Kp w w' := by
  by_cases h : Mx.mcode 5 0 9972 m = 0
  · obtain ⟨r, c, f, e, h1, h2, h3, h4⟩ := Mx.mcode_zero h
    subst e
    rw [Mx.len_matl]
    exact gasays_good A f r c d w hl ha h1 h2 h3 h4
  · exact gasays_bad A m m.length d w hl ha rfl h
end Go.Proofs.YtmgkcdoephakhaaDoor
