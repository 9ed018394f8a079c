/- The law LuDet. -/
import Derived.Test.YtdkdpklohfdpmaaLuFact
import Derived.Test.YtdkdpklohfdpmaaLawIn
import Derived.Test.YtdkdpklohfdpmaaFldRef
namespace Go.Proofs.Ytdkdpklohfdpmaa
open Go.ChangeShapes Go.WideShapes Go.ChangeAt Go.RowKit
set_option linter.unusedVariables false

set_option maxRecDepth 100000 in
set_option maxHeartbeats 3200000 in
theorem walk_LuDet (A : Option Addr) (a : List (List Int)) (c : Nat) (w : World) (ha : LiesM w A a) :
    Calls Try.prog 4 #[.slice A a.length c] w fun e w' => e = .returned (.bool true) ∧ Kp w w' := by
  obtain ⟨n, hn⟩ : ∃ n, n = a.length := ⟨_, rfl⟩
  rw [← hn]
  have HA := Lib.hid ha
  have FA := Lib.hid (luFact_any w)
  clear ha
  rcases Split_or A a n c hn.symm with ⟨f, sa⟩ | bad
  · have SA := Lib.hid sa
    have n0 := sa.r0
    have n5 := sa.r5
    clear hn sa
    go_enter Try.func4, Try.ntmps4
    go_wp2_with fail
    refine (FA.out).mono ?_; rintro e w1 ⟨rfl, k1⟩
    have K1 := Lib.hid k1; clear k1
    go_wp2_with fail
    refine (Split_sh SA.out c w1 (HA.out.keep K1.out)).mono ?_; rintro e w2 ⟨t, Ao, d1, Al, d2, Au, d3, ht, rfl, l1, l2, l3, k2⟩
    have K2 := Lib.hid (K1.out.trans k2)
    have L3 := Lib.hid l3
    have HT := Lib.hid (ht.is (Nat.le_refl n))
    have L1 := Lib.hid l1
    clear k2 ht l1 l2 l3
    go_wp2_with fail
    refine (Of_sh SA.out c w2 (HA.out.keep K2.out)).mono ?_; rintro e w3 ⟨rfl, k3⟩
    have K3 := Lib.hid (K2.out.trans k3)
    have L1' := Lib.hid (L1.out.keep k3)
    have L3' := Lib.hid (L3.out.keep k3)
    clear k3
    obtain ⟨dv, hdv⟩ : ∃ x, x = ((Mx.dt n f).val : Int) := ⟨_, rfl⟩
    rw [← hdv]
    have HDV := Lib.hid hdv
    clear hdv
    go_wp2_with fail
    refine (Sign_any Ao (Mx.row n fun i => (t.s i : Int)) n d1 w3 L1'.out (Mx.len_row _ _) (by omega)).mono ?_; rintro e w4 ⟨x, rfl, hx, k4⟩
    rw [Mx.sp_congr fun i hi => Mx.row_at _ _ _ hi] at hx
    have hxb := hx.bound
    have K4 := Lib.hid (K3.out.trans k4)
    have L4 := Lib.hid (L3'.out.keep k4)
    have MO := Lib.hid (refMod_el x w4 (by omega) (by omega))
    rw [hx.2] at MO
    unfold el at MO
    obtain ⟨S, hS⟩ : ∃ S, S = Mx.sp n fun i => (t.s i : Int) := ⟨_, rfl⟩
    rw [← hS] at MO
    have HS := Lib.hid (show S * Mx.pr n (fun i => t.u i i) = Mx.dt n f by rw [hS]; exact HT.out.middle)
    clear k4 hx hxb hS
    go_wp2_with fail
    refine (MO.out).mono ?_; rintro e w5 ⟨rfl, rfl⟩
    go_wp2_with fail
    go_loopw [9, 10] (fun v i wr => ∃ k : Nat, k ≤ n ∧ v = .int .i64 ((S * Mx.pr k (fun i => t.u i i)).val : Int) ∧ i = .int .i64 (k : Int) ∧ Kp w4 wr) (fun _ i _ => n - (intOf i).toNat)
    case atStart =>
      refine ⟨0, Nat.zero_le _, ?_, rfl, Kp.rfl' _⟩
      rw [show S * Mx.pr 0 (fun i => t.u i i) = S from by show S * 1 = S; grind]
    case round =>
      obtain ⟨k, hk, rfl, rfl, hkp⟩ := hrel
      have HK := Lib.hid hkp
      by_cases hlt : k < n
      · obtain ⟨ad, A1, c1, rfl, _, x1, _, l1⟩ := (L4.out.keep hkp).row hlt
        obtain ⟨ad1, rfl, _, x2⟩ := l1.el hlt
        clear l1 hkp
        have hv := gval (t.u k k)
        have hp := gval (S * Mx.pr k (fun i => t.u i i))
        have hb := times_bound (S * Mx.pr k (fun i => t.u i i)) (t.u k k)
        have MO2 := Lib.hid (refMod_el (((S * Mx.pr k (fun i => t.u i i)).val : Int) * ((t.u k k).val : Int)) wr (by omega) (by omega))
        rw [Fp.ofInt_mul, Fp.ofInt_self, Fp.ofInt_self] at MO2
        unfold el at MO2
        have IN := Lib.hid (law2In_any ((t.u k k).val : Int) 0 9972 wr true (by simp [hv]))
        have HN := Lib.hid (show S * Mx.pr k (fun i => t.u i i) * t.u k k = S * Mx.pr (k + 1) (fun i => t.u i i) by show _ = S * (Mx.pr k (fun i => t.u i i) * t.u k k); grind)
        rw [HN.out] at MO2
        have hwm : IntKind.i64.wrap (((S * Mx.pr k (fun i => t.u i i)).val : Int) * ((t.u k k).val : Int)) = ((S * Mx.pr k (fun i => t.u i i)).val : Int) * ((t.u k k).val : Int) := IntWalk.i64_in _ (by omega)
        obtain ⟨z, hz⟩ : ∃ z, z = ((S * Mx.pr (k + 1) (fun i => t.u i i)).val : Int) := ⟨_, rfl⟩
        rw [← hz] at MO2
        have HZ := Lib.hid hz
        clear hz
        generalize ((S * Mx.pr k (fun i => t.u i i)).val : Int) = p0 at *
        generalize ((t.u k k).val : Int) = v0 at *
        clear hb hv hp
        go_wp2_with fail
        refine (IN.out).mono ?_; rintro e w6 ⟨rfl, rfl⟩
        go_wp2_with fail
        refine (MO2.out).mono ?_; rintro e w6 ⟨rfl, rfl⟩
        go_wp2_with fail
        go_roundw
        case rel => exact ⟨k + 1, by omega, by rw [HZ.out], by go_num, HK.out⟩
        case measure => simp [intOf]; omega
      · obtain rfl : k = n := by omega
        rw [HS.out, ← HDV.out]
        clear hkp
        go_wp2_with fail
        go_ret
        exact ⟨ret_bool (by simp), K4.out.trans HK.out⟩
  · have BAD := Lib.hid bad
    clear hn bad
    go_enter Try.func4, Try.ntmps4
    go_wp2_with fail
    refine (FA.out).mono ?_; rintro e w1 ⟨rfl, k1⟩
    have K1 := Lib.hid k1; clear k1
    go_wp2_with fail
    refine (BAD.out w1 (HA.out.keep K1.out)).mono ?_; rintro e w2 ⟨z, rfl, k2⟩
    have K2 := Lib.hid (K1.out.trans k2); clear k2
    go_wp2_with fail
    go_ret
    exact ⟨rfl, K2.out⟩

end Go.Proofs.Ytdkdpklohfdpmaa
