/- The law DefiniteSays. -/
import Derived.Test.YtapcnlbcookldaaDoorDfFact
import Derived.Test.YtapcnlbcookldaaDoorDfRef
import Derived.Test.YtapcnlbcookldaaDoorZDet
import Derived.Test.YtapcnlbcookldaaDoorSame
import Derived.Test.YtapcnlbcookldaaDoorErrG
import Derived.Deep.Cut
import Derived.Deep.CutRange
import Derived.Deep.DeepCutAuto
namespace Go.Proofs.YtapcnlbcookldaaDoor
open Go.ChangeShapes Go.WideShapes Go.ChangeAt Go.RowKit
set_option linter.unusedVariables false

theorem xcode_len {l : List Int} {n : Nat} (h : l.length ≠ n) : xcode n l = 3 := Mx.rcode_len h
theorem xcode_yes {l : List Int} {n : Nat} (h : l.length = n) (h1 : AllIn l (-100) 100) : ∃ v, l = Mx.row n v ∧ ∀ i, i < n → -100 ≤ v i ∧ v i ≤ 100 := by
  subst h
  exact ⟨_, Mx.is_row l, fun i hi => h1 i hi⟩
theorem xcode_not {l : List Int} {n : Nat} (h : l.length = n) (h1 : ¬ AllIn l (-100) 100) : xcode n l = 1 := Mx.rcode_bad' h fun h2 => h1 fun k hk => h2 k hk
theorem posB_zero (x : Nat → Nat → Int) : posB 0 x = true := rfl
theorem posB_succ (k : Nat) (x : Nat → Nat → Int) : posB (k + 1) x = (posB k x && decide (0 < Zx.dt (k + 1) x)) := by
  unfold posB
  rw [List.range_succ, List.all_append]
  simp
theorem posB_no {k n : Nat} {x : Nat → Nat → Int} (h : k ≤ n) (hf : posB k x = false) : posB n x = false := by
  cases h2 : posB n x
  · rfl
  · have h3 := posB_iff.1 h2
    rw [posB_iff.2 fun q h4 h5 => h3 q h4 (by omega)] at hf
    cases hf

set_option maxRecDepth 100000 in
set_option maxHeartbeats 6400000 in
/-- The first half: what the document says of the form, up to where the row is looked at. -/
theorem dfsays_good (A X : Option Addr) (m : List (List Int)) (x : Nat → Nat → Int) (l : List Int) (n p c d : Nat) (w : World) (hl : Told.Laid w) (ha : LiesM w A m) (s : Sf n x m) (hx : Lies w X l) (hp : l.length = p) :
    Calls Tryd.prog 3 #[.slice A n c, .slice X p d] w fun e w' => e = .returned (.bool true) ∧ Kp w w' := by
  have HA := Lib.hid ha
  have HL := Lib.hid hl
  have HXL := Lib.hid hx
  have FO := Lib.hid (rForm_ok A m x n c w ha s)
  have CK := Lib.hid (fun w1 (k : Kp w w1) => DChk_ok A m x n c w1 (ha.keep k) s)
  have IS := Lib.hid (fun w1 (k : Kp w w1) => DIs_ok A m x n c w1 (ha.keep k) s)
  have AB := Lib.hid s.shz.ab
  have HX := Lib.hid (show LiesM w A (Mx.tab n n x) by rw [← s.shz.eq]; exact ha)
  have n0 := s.shz.n0
  have n4 := s.n4
  have CO := Lib.hid (fun w1 (k : Kp w w1) (q : Nat) (hq : q ≤ n) => rCorner_any A x n q c w1 (HX.out.keep k) hq n0 (by omega))
  have DC := Lib.hid (fun (q : Nat) (hq : q ≤ n) A' d' w1 h => rDet_any q (by omega) A' x d' w1 (fun i j hi hj => AB.out i j (by omega) (by omega)) h)
  have ERR := Lib.hid (fun (wx : World) (hx : Kp w wx) => show Calls Tryd.prog 5 #[.nilIface, .int .i64 0] wx fun e w' => e = .returned (.bool true) ∧ Kp wx w' from error_says 0 wx (laid_kp HL.out hx) (by decide))
  have ERZ := Lib.hid (fun (z : Nat) (hz : z ≤ 6) (wx : World) (hx : Kp w wx) => error_says z wx (laid_kp HL.out hx) (by omega))
  have ALL := Lib.hid (fun (wx : World) (h : p ≤ 4) (k : Kp w wx) => all_any X l d (-100) 100 wx (hx.keep k) (by omega))
  rw [hp] at ALL
  have ATO := Lib.hid (fun w1 (k : Kp w w1) (h : xcode n l ≠ 0) => DAt_off A X m x l n c p d w1 (ha.keep k) s (hx.keep k) hp h)
  have ATY := Lib.hid (fun w1 (k : Kp w w1) (v : Nat → Int) (h : l = Mx.row n v) (hv : ∀ i, i < n → -100 ≤ v i ∧ v i ≤ 100) => DAt_ok A X m x v n c d w1 (ha.keep k) s (by rw [← h]; exact hx.keep k) hv)
  have WO := Lib.hid (fun w1 (k : Kp w w1) (v : Nat → Int) (h : l = Mx.row n v) (hv : ∀ i, i < n → -100 ≤ v i ∧ v i ≤ 100) => rWorth_any A X x v n c d w1 (HX.out.keep k) (by rw [← h]; exact hx.keep k) n4 AB.out hv)
  have HP := Lib.hid hp
  clear ha hl s hx hp
  go_enter Tryd.func3, Tryd.ntmps3
  go_wp2_with fail
  refine (FO.out).mono ?_; rintro e w1 ⟨rfl, k1⟩
  have K1 := Lib.hid k1; clear k1
  go_wp2_with fail
  refine (CK.out w1 K1.out).mono ?_; rintro e w2 ⟨rfl, k2⟩
  have K2 := Lib.hid (K1.out.trans k2); clear k2
  go_wp2_with fail
  refine (ERR.out w2 K2.out).mono ?_; rintro e w3 ⟨rfl, k3⟩
  have K3 := Lib.hid (K2.out.trans k3); clear k3
  go_wp2_with fail
  go_loopw [7, 8] (fun b i wr => ∃ k : Nat, k ≤ n ∧ i = .int .i64 ((k + 1 : Nat) : Int) ∧ b = .bool (posB k x) ∧ Kp w wr) (fun _ i _ => n + 1 - (intOf i).toNat)
  case atStart => exact ⟨0, Nat.zero_le _, rfl, rfl, K3.out⟩
  case round =>
    obtain ⟨k, hk, rfl, rfl, hkp⟩ := hrel
    obtain ⟨wo, hwo⟩ : ∃ x, x = wr := ⟨_, rfl⟩
    subst hwo
    have HK := Lib.hid hkp
    obtain ⟨q, hq⟩ : ∃ q, q = k + 1 := ⟨_, rfl⟩
    rw [← hq]
    have HQ := Lib.hid hq
    have PS := Lib.hid (posB_succ k x)
    by_cases hgo : k < n ∧ posB k x = true
    · have hqn : q ≤ n := by omega
      have hki : decide ((q : Int) ≤ (n : Int)) = true := by simp; omega
      have C1 := Lib.hid (CO.out wo hkp q hqn)
      have D1 := Lib.hid (DC.out q hqn)
      rw [hgo.2] at PS ⊢
      clear hkp hq
      go_wp2_with fail
      refine (C1.out).mono ?_; rintro e w5 ⟨A5, d5, rfl, l5, k5⟩
      have K5 := Lib.hid (HK.out.trans k5)
      have L5 := Lib.hid l5
      clear k5 l5
      go_wp2_with fail
      refine (D1.out A5 d5 w5 L5.out).mono ?_; rintro e w6 ⟨rfl, k6⟩
      have K6 := Lib.hid (K5.out.trans k6)
      clear k6
      have hpz : decide (0 < Zx.dt q x) = posB (k + 1) x := by rw [PS.out, ← HQ.out]; simp
      generalize Zx.dt q x = z at *
      go_wp2_with fail
      go_roundw
      case rel => exact ⟨k + 1, by omega, by rw [← HQ.out]; go_num, by rw [← hpz], K6.out⟩
      case measure => simp [intOf]; omega
    · have EB := Lib.hid (show posB k x = posB n x by
        by_cases e : k = n
        · rw [e]
        · have hf : posB k x = false := by
            cases h : posB k x
            · rfl
            · exact absurd ⟨by omega, h⟩ hgo
          rw [hf, posB_no (show k ≤ n by omega) hf])
      have I1 := Lib.hid (IS.out wo hkp)
      rw [← EB.out] at I1
      have hfk : k < n → posB k x = false := fun e => by
        cases h : posB k x
        · rfl
        · exact absurd ⟨e, h⟩ hgo
      generalize posB k x = bv at *
      have HFK := Lib.hid hfk
      clear hkp hgo EB PS hfk
      go_upto_region 5 with (fail)
      go_cut [28] from 22 to 28 (fun v wc => v = .bool false ∧ wc = wo)
      case first =>
        clear I1
        by_cases e : k < n
        · have hki : (q : Int) ≤ (n : Int) := by omega
          have hf := Lib.hid (HFK.out e)
          clear hq
          go_wp2_with fail
          go_meet
          case rel => exact ⟨by rw [hf.out], rfl⟩
        · have hki : ¬ (q : Int) ≤ (n : Int) := by omega
          clear hq
          go_wp2_with fail
          go_meet
          case rel => exact ⟨rfl, rfl⟩
      case rest =>
        obtain ⟨rfl, rfl⟩ := hcut
        clear hq HFK
        go_wp2_with fail
        refine (I1.out).mono ?_; rintro e w4 ⟨rfl, k4⟩
        have K4 := Lib.hid (HK.out.trans k4); clear k4 I1
        go_wp2_with fail
        refine (ERR.out w4 K4.out).mono ?_; rintro e w5 ⟨rfl, k5⟩
        have K5 := Lib.hid (K4.out.trans k5); clear k5
        have ebb : (bv == bv) = true := by simp
        by_cases hpn : p = n
        · subst hpn
          have epn : ((p : Int) != (p : Int)) = false := by simp
          have A5 := Lib.hid (ALL.out w5 n4 K5.out)
          by_cases hin : AllIn l (-100) 100
          · obtain ⟨v, hlv, hv⟩ := xcode_yes HP.out hin
            have W1 := Lib.hid (fun w1 (k : Kp w w1) => WO.out w1 k v hlv hv)
            have T1 := Lib.hid (fun w1 (k : Kp w w1) => ATY.out w1 k v hlv hv)
            have A6 := Lib.hid (show Calls Tryd.prog 10 #[.slice X p d, .int .i64 (-100), .int .i64 100] w5 fun e w' => e = .returned (.bool true) ∧ w5 = w' from (A5.out).mono fun e w' h2 => ⟨tells_yes h2.1 hin, h2.2⟩)
            clear A5 hin hlv hv ALL ATO ATY WO
            generalize Zx.qf p x v = qv at *
            have eqq : (qv == qv) = true := by simp
            go_wp2_with fail
            refine (A6.out).mono ?_; rintro e w6 ⟨rfl, rfl⟩
            go_wp2_with fail
            refine (W1.out _ K5.out).mono ?_; rintro e w7 ⟨rfl, k7⟩
            have K7 := Lib.hid (K5.out.trans k7); clear k7
            go_wp2_with fail
            refine (T1.out _ K7.out).mono ?_; rintro e w8 ⟨rfl, k8⟩
            have K8 := Lib.hid (K7.out.trans k8); clear k8
            go_wp2_with fail
            refine (ERR.out w8 K8.out).mono ?_; rintro e w9 ⟨rfl, k9⟩
            have K9 := Lib.hid (K8.out.trans k9); clear k9
            go_wp2_with fail
            go_ret
            exact ⟨ret_bool (by simp), K9.out⟩
          · have hz := xcode_not HP.out hin
            have T1 := Lib.hid (fun w1 (k : Kp w w1) => ATO.out w1 k (by rw [hz]; decide))
            rw [hz] at T1
            have A6 := Lib.hid (show Calls Tryd.prog 10 #[.slice X p d, .int .i64 (-100), .int .i64 100] w5 fun e w' => e = .returned (.bool false) ∧ w5 = w' from (A5.out).mono fun e w' h2 => ⟨tells_no h2.1 hin, h2.2⟩)
            have E1 := Lib.hid (fun wx (k : Kp w wx) => ERZ.out 1 (by decide) wx k)
            rw [errOf_ne _ (by decide)] at E1
            clear A5 hin hz ALL ATO ATY WO
            go_wp2_with fail
            refine (A6.out).mono ?_; rintro e w6 ⟨rfl, rfl⟩
            go_wp2_with fail
            refine (T1.out _ K5.out).mono ?_; rintro e w8 ⟨rfl, k8⟩
            have K8 := Lib.hid (K5.out.trans k8); clear k8
            go_wp2_with fail
            refine (E1.out w8 K8.out).mono ?_; rintro e w9 ⟨rfl, k9⟩
            have K9 := Lib.hid (K8.out.trans k9); clear k9
            go_wp2_with fail
            go_ret
            exact ⟨ret_bool (by simp), K9.out⟩
        · have epn : ((p : Int) != (n : Int)) = true := by rw [bne_iff_ne]; omega
          have hz : xcode n l = 3 := xcode_len (by rw [HP.out]; exact hpn)
          have T1 := Lib.hid (fun w1 (k : Kp w w1) => ATO.out w1 k (by rw [hz]; decide))
          rw [hz] at T1
          have E1 := Lib.hid (fun wx (k : Kp w wx) => ERZ.out 3 (by decide) wx k)
          rw [errOf_ne _ (by decide)] at E1
          clear hz hpn ALL ATO ATY WO
          go_wp2_with fail
          refine (T1.out _ K5.out).mono ?_; rintro e w8 ⟨rfl, k8⟩
          have K8 := Lib.hid (K5.out.trans k8); clear k8
          go_wp2_with fail
          refine (E1.out w8 K8.out).mono ?_; rintro e w9 ⟨rfl, k9⟩
          have K9 := Lib.hid (K8.out.trans k9); clear k9
          go_wp2_with fail
          go_ret
          exact ⟨ret_bool (by simp), K9.out⟩

set_option maxRecDepth 100000 in
set_option maxHeartbeats 6400000 in
theorem dfsays_bad (A X : Option Addr) (m : List (List Int)) (l : List Int) (n p c d z : Nat) (w : World) (hl : Told.Laid w) (ha : LiesM w A m) (hn : m.length = n) (h : Fb n m z) :
    Calls Tryd.prog 3 #[.slice A n c, .slice X p d] w fun e w' => e = .returned (.bool true) ∧ Kp w w' := by
  have HL := Lib.hid hl
  have z0 := h.ne
  have z6 := h.le
  have FO := Lib.hid (rForm_bad A m n c z w ha hn h)
  have CK := Lib.hid (fun w1 (k : Kp w w1) => DChk_bad A m n c z w1 (ha.keep k) hn h)
  have IS := Lib.hid (fun w1 (k : Kp w w1) => DIs_bad A m n c z w1 (ha.keep k) hn h)
  have AT := Lib.hid (fun w1 (k : Kp w w1) => DAt_bad A X m l n c p d z w1 (ha.keep k) hn h)
  have ERR := Lib.hid (fun (wx : World) (hx : Kp w wx) => error_says z wx (laid_kp HL.out hx) (by omega))
  rw [errOf_ne _ z0] at ERR
  have e1 : ((z : Int) == 0) = false := by rw [beq_eq_false_iff_ne]; omega
  clear ha hl hn h z0 z6
  go_enter Tryd.func3, Tryd.ntmps3
  go_wp2_with fail
  refine (FO.out).mono ?_; rintro e w1 ⟨rfl, k1⟩
  have K1 := Lib.hid k1; clear k1
  go_wp2_with fail
  refine (CK.out w1 K1.out).mono ?_; rintro e w2 ⟨rfl, k2⟩
  have K2 := Lib.hid (K1.out.trans k2); clear k2
  go_wp2_with fail
  refine (ERR.out w2 K2.out).mono ?_; rintro e w3 ⟨rfl, k3⟩
  have K3 := Lib.hid (K2.out.trans k3); clear k3
  go_wp2_with fail
  go_loopw [7, 8] (fun b i wr => b = .bool false ∧ i = .int .i64 1 ∧ wr = w3) (fun _ _ _ => 0)
  case atStart => exact ⟨rfl, rfl, rfl⟩
  case round =>
    obtain ⟨rfl, rfl, rfl⟩ := hrel
    obtain ⟨wo, hwo⟩ : ∃ x, x = wr := ⟨_, rfl⟩
    subst hwo
    go_upto_region 5 with (fail)
    go_cut [28] from 22 to 28 (fun v wc => v = .bool false ∧ wc = wo)
    case first =>
      by_cases e : 1 ≤ n
      · have hki : (1 : Int) ≤ (n : Int) := by omega
        go_wp2_with fail
        go_meet
        case rel => exact ⟨rfl, rfl⟩
      · have hki : ¬ (1 : Int) ≤ (n : Int) := by omega
        go_wp2_with fail
        go_meet
        case rel => exact ⟨rfl, rfl⟩
    case rest =>
      obtain ⟨rfl, rfl⟩ := hcut
      go_wp2_with fail
      refine (IS.out wc K3.out).mono ?_; rintro e w4 ⟨rfl, k4⟩
      have K4 := Lib.hid (K3.out.trans k4); clear k4
      go_wp2_with fail
      refine (ERR.out w4 K4.out).mono ?_; rintro e w5 ⟨rfl, k5⟩
      have K5 := Lib.hid (K4.out.trans k5); clear k5
      go_wp2_with fail
      refine (AT.out w5 K5.out).mono ?_; rintro e w6 ⟨rfl, k6⟩
      have K6 := Lib.hid (K5.out.trans k6); clear k6
      go_wp2_with fail
      refine (ERR.out w6 K6.out).mono ?_; rintro e w7 ⟨rfl, k7⟩
      have K7 := Lib.hid (K6.out.trans k7); clear k7
      go_wp2_with fail
      go_ret
      exact ⟨ret_bool (by simp), K7.out⟩

theorem walk_DefiniteSays (A : Option Addr) (a : List (List Int)) (c : Nat) (X : Option Addr) (l : List Int) (d : Nat) (w : World) (hl : Told.Laid w) (ha : LiesM w A a) (hx : Lies w X l) :
    Calls Tryd.prog 3 #[.slice A a.length c, .slice X l.length d] w fun e w' => e = .returned (.bool true) ∧ Kp w w' := by
  rcases sf_or a rfl with ⟨x, s⟩ | ⟨z, h⟩
  · exact dfsays_good A X a x l a.length _ c d w hl ha s hx rfl
  · exact dfsays_bad A X a l a.length _ c d z w hl ha rfl h
end Go.Proofs.YtapcnlbcookldaaDoor
