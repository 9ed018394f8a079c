/- The law BareissSays. -/
import Derived.Test.YtlpeffddjppeeaaDoorBaC4
import Derived.Test.YtlpeffddjppeeaaDoorZDet
import Derived.Test.YtlpeffddjppeeaaDoorRowsG
import Derived.Test.YtlpeffddjppeeaaDoorErrG
namespace Go.Proofs.YtlpeffddjppeeaaDoor
open Go.ChangeShapes Go.WideShapes Go.ChangeAt Go.RowKit
set_option linter.unusedVariables false

set_option maxRecDepth 100000 in
set_option maxHeartbeats 6400000 in
theorem basays_good (A : Option Addr) (a : List (List Int)) (x : Nat → Nat → Int) (n d : Nat) (w : World) (hl : Told.Laid w) (ha : LiesM w A a) (s : Shz n x a) :
    Calls Tryd.prog 3 #[.slice A n d] w fun e w' => e = .returned (.bool true) ∧ Kp w w' := by
  have HA := Lib.hid ha
  have HL := Lib.hid hl
  have n0 := s.n0
  have n5 := s.n5
  have SQ := Lib.hid (rSquare_any A a n d 5 (-9) 9 w ha s.len (by omega))
  have CK := Lib.hid (fun w h => BChk_any A a n d w h s.len)
  rw [s.code] at SQ CK
  rw [errOf_zero] at CK
  have OA := Lib.hid (fun w h => BOf_ok A x a n d w h s)
  have LO := Lib.hid (fun w h => Lead_ok A x a n d w h s)
  have AB := Lib.hid s.ab
  have HX := Lib.hid (show LiesM w A (Mx.tab n n x) by rw [← s.eq]; exact ha)
  have DA := Lib.hid (fun w1 (k : Kp w w1) => rDet_any n n5 A x d w1 AB.out (HX.out.keep k))
  have CO := Lib.hid (fun w1 (k : Kp w w1) (q : Nat) (hq : q ≤ n) => rCorner_any A x n q d w1 (HX.out.keep k) hq n0 (by omega))
  have DC := Lib.hid (fun (q : Nat) (hq : q ≤ n) A' d' w1 h => rDet_any q (by omega) A' x d' w1 (fun i j hi hj => AB.out i j (by omega) (by omega)) h)
  have ERR := Lib.hid (fun (wx : World) (hx : Kp w wx) => show Calls Tryd.prog 5 #[.nilIface, .int .i64 0] wx fun e w' => e = .returned (.bool true) ∧ Kp wx w' from error_says 0 wx (laid_kp HL.out hx) (by decide))
  obtain ⟨D, hD⟩ : ∃ D, D = Zx.dt n x := ⟨_, rfl⟩
  rw [← hD] at OA DA
  have e0 : (D == D) = true := by simp
  clear ha hl s hD
  go_enter Tryd.func3, Tryd.ntmps3
  go_wp2_with fail
  refine (SQ.out).mono ?_; rintro e w1 ⟨rfl, hd⟩
  have K1 := Lib.hid hd.kp
  clear hd
  go_wp2_with fail
  refine (CK.out w1 (HA.out.keep K1.out)).mono ?_; rintro e w2 ⟨rfl, rfl⟩
  go_wp2_with fail
  refine (ERR.out w1 K1.out).mono ?_; rintro e w3 ⟨rfl, k3⟩
  have K3 := Lib.hid (K1.out.trans k3); clear k3
  go_wp2_with fail
  refine (DA.out w3 K3.out).mono ?_; rintro e w4 ⟨rfl, k4⟩
  have K4 := Lib.hid (K3.out.trans k4); clear k4
  go_wp2_with fail
  go_loopw [6, 7] (fun v i wr => ∃ k : Nat, k ≤ n ∧ i = .int .i64 ((k + 1 : Nat) : Int) ∧ Own wr w4.heap.size v (Mx.row k fun i => Zx.dt (i + 1) x) ∧ Kp w4 wr) (fun _ i _ => n + 1 - (intOf i).toNat)
  case atStart => exact ⟨0, Nat.zero_le _, rfl, Own.none _ _, Kp.rfl' _⟩
  case round =>
    obtain ⟨k, hk, rfl, ho, hkp⟩ := hrel
    obtain ⟨wo, hwo⟩ : ∃ x, x = wr := ⟨_, rfl⟩
    subst hwo
    have HO := Lib.hid ho
    have HK := Lib.hid hkp
    obtain ⟨q, hq⟩ : ∃ q, q = k + 1 := ⟨_, rfl⟩
    rw [← hq]
    have HQ := Lib.hid hq
    by_cases hlt : k < n
    · have hqn : q ≤ n := by omega
      have hki : (q : Int) ≤ (n : Int) := by omega
      have hk1 : k + 1 ≤ 17000000000000 := by omega
      have HRS := Lib.hid (show (Mx.row (k + 1) fun i => Zx.dt (i + 1) x) = (Mx.row k fun i => Zx.dt (i + 1) x) ++ [Zx.dt q x] by rw [Mx.row_snoc, ← hq])
      have C1 := Lib.hid (CO.out wo (K4.out.trans hkp) q hqn)
      have D1 := Lib.hid (DC.out q hqn)
      clear ho hkp hq hlt
      go_wp2_with fail
      refine (C1.out).mono ?_; rintro e w5 ⟨A5, d5, rfl, l5, k5⟩
      have K5 := Lib.hid (HK.out.trans k5)
      have O5 := Lib.hid (HO.out.kp k5)
      have L5 := Lib.hid l5
      clear k5 l5
      go_wp2_with fail
      refine (D1.out A5 d5 w5 L5.out).mono ?_; rintro e w6 ⟨rfl, k6⟩
      have K6 := Lib.hid (K5.out.trans k6)
      have O6 := Lib.hid (O5.out.kp k6)
      clear k6
      obtain ⟨z, hz⟩ : ∃ z, z = Zx.dt q x := ⟨_, rfl⟩
      rw [← hz] at HRS ⊢
      clear hz
      go_wp2_with (at_builtin; refine wpList_push rfl _ _ rfl w4.heap.size _ (Mx.row k fun i => Zx.dt (i + 1) x) z w6.heap.size 1 rfl rfl (O6.out.new _) (cell_made _ _ _ _ 0 rfl) (by rw [Mx.len_row]; exact hk1) (Nat.le_trans K6.out.size ((Kp.rfl' _).new _).size) ?_; intro v' w7 h1 h2 _)
      have O7 := Lib.hid h1
      have K7 := Lib.hid (own_below (O6.out.new _) (K6.out.new _) (Nat.le_trans K6.out.size ((Kp.rfl' _).new _).size) h2)
      clear h1 h2
      go_wp2_with fail
      go_roundw
      case rel => exact ⟨k + 1, by have := HQ.out; omega, by rw [← HQ.out]; go_num, by rw [HRS.out]; exact O7.out, K7.out⟩
      case measure => simp [intOf]; omega
    · obtain rfl : k = n := by omega
      obtain ⟨Av, cv, rfl, lv, _⟩ := HO.out.cap
      rw [Mx.len_row]
      have LV := Lib.hid lv
      have hki : ¬ (q : Int) ≤ (k : Int) := by omega
      have K5 := Lib.hid (K4.out.trans hkp)
      clear ho hkp hq lv
      go_wp2_with fail
      refine (OA.out wo (HA.out.keep K5.out)).mono ?_; rintro e w6 ⟨rfl, k6⟩
      have K6 := Lib.hid (K5.out.trans k6)
      have LV6 := Lib.hid (LV.out.keep k6)
      clear k6
      go_wp2_with fail
      refine (ERR.out w6 K6.out).mono ?_; rintro e w7 ⟨rfl, k7⟩
      have K7 := Lib.hid (K6.out.trans k7)
      have LV7 := Lib.hid (LV6.out.keep k7)
      clear k7
      go_wp2_with fail
      refine (LO.out w7 (HA.out.keep K7.out)).mono ?_; rintro e w8 ⟨g, rfl, hr, k8⟩
      have K8 := Lib.hid (K7.out.trans k8)
      have LV8 := Lib.hid (LV7.out.keep k8)
      have HR := Lib.hid hr
      clear k8 hr
      go_wp2_with fail
      refine (ERR.out w8 K8.out).mono ?_; rintro e w9 ⟨rfl, k9⟩
      have K9 := Lib.hid (K8.out.trans k9)
      have LV9 := Lib.hid (LV8.out.keep k9)
      have HR9 := Lib.hid (HR.out.keep k9)
      clear k9
      go_wp2_with fail
      refine (same_eq (some ⟨g, 0, none⟩) Av (leads k x) (leads k x) k k k cv w9 HR9.out.lies LV9.out (Mx.len_row _ _).symm (Mx.len_row _ _).symm (by omega) rfl).mono ?_
      rintro e w10 ⟨rfl, k10⟩
      have K10 := Lib.hid (K9.out.trans k10)
      clear k10
      go_wp2_with fail
      go_ret
      exact ⟨ret_bool (by simp), K10.out⟩

set_option maxRecDepth 100000 in
set_option maxHeartbeats 6400000 in
theorem basays_bad (A : Option Addr) (a : List (List Int)) (n d : Nat) (w : World) (hl : Told.Laid w) (ha : LiesM w A a) (hn : a.length = n) (h : qcode 5 (-9) 9 a ≠ 0) :
    Calls Tryd.prog 3 #[.slice A n d] w fun e w' => e = .returned (.bool true) ∧ Kp w w' := by
  have HA := Lib.hid ha
  have HL := Lib.hid hl
  have SQ := Lib.hid (rSquare_any A a n d 5 (-9) 9 w ha hn (by omega))
  have CK := Lib.hid (fun w h => BChk_any A a n d w h hn)
  have OA := Lib.hid (fun w ha => BOf_bad A a n d w ha hn h)
  have LO := Lib.hid (fun w ha => Lead_bad A a n d w ha hn h)
  have hz := qcode_le 5 (-9) 9 a
  have ERR := Lib.hid (fun (wx : World) (hx : Kp w wx) => error_says (qcode 5 (-9) 9 a) wx (laid_kp HL.out hx) (by omega))
  rw [errOf_ne _ h] at CK OA LO ERR
  have e1 : ((qcode 5 (-9) 9 a : Int) == 0) = false := by rw [beq_eq_false_iff_ne]; omega
  generalize qcode 5 (-9) 9 a = z at *
  clear ha hl hn h
  go_enter Tryd.func3, Tryd.ntmps3
  go_wp2_with fail
  refine (SQ.out).mono ?_; rintro e w1 ⟨rfl, hd⟩
  have K1 := Lib.hid hd.kp
  clear hd
  go_wp2_with fail
  refine (CK.out w1 (HA.out.keep K1.out)).mono ?_; rintro e w2 ⟨rfl, rfl⟩
  go_wp2_with fail
  refine (ERR.out w1 K1.out).mono ?_; rintro e w3 ⟨rfl, k3⟩
  have K3 := Lib.hid (K1.out.trans k3); clear k3
  go_wp2_with fail
  refine (OA.out w3 (HA.out.keep K3.out)).mono ?_; rintro e w5 ⟨rfl, k5⟩
  have K5 := Lib.hid (K3.out.trans k5); clear k5
  go_wp2_with fail
  refine (ERR.out w5 K5.out).mono ?_; rintro e w6 ⟨rfl, k6⟩
  have K6 := Lib.hid (K5.out.trans k6); clear k6
  go_wp2_with fail
  refine (LO.out w6 (HA.out.keep K6.out)).mono ?_; rintro e w7 ⟨rfl, k7⟩
  have K7 := Lib.hid (K6.out.trans k7); clear k7
  go_wp2_with fail
  refine (ERR.out w7 K7.out).mono ?_; rintro e w8 ⟨rfl, k8⟩
  have K8 := Lib.hid (K7.out.trans k8); clear k8
  go_wp2_with fail
  refine (same_eq none none [] [] 0 0 0 0 w8 (Lies.empty _ _) (Lies.empty _ _) rfl rfl (by decide) rfl).mono ?_
  rintro e w10 ⟨rfl, k10⟩
  have K10 := Lib.hid (K8.out.trans k10)
  clear k10
  go_wp2_with fail
  go_ret
  exact ⟨ret_bool (by simp), K10.out⟩

theorem walk_BareissSays (A : Option Addr) (a : List (List Int)) (d : Nat) (w : World) (hl : Told.Laid w) (ha : LiesM w A a) :
    Calls Tryd.prog 3 #[.slice A a.length d] w fun e w' => e = .returned (.bool true) ∧ Kp w w' := by
  rcases shz_or a rfl with ⟨x, s⟩ | h
  · exact basays_good A a x a.length d w hl ha s
  · exact basays_bad A a a.length d w hl ha rfl h
end Go.Proofs.YtlpeffddjppeeaaDoor
