/- The law LuBack. -/
import Derived.Test.YtdkdpklohfdpmaaLuFact
import Derived.Test.YtdkdpklohfdpmaaMtFact
import Derived.Test.YtdkdpklohfdpmaaSgnRef
import Derived.BigQuiet
namespace Go.Proofs.Ytdkdpklohfdpmaa
open Go.ChangeShapes Go.WideShapes Go.ChangeAt Go.RowKit
set_option linter.unusedVariables false

theorem sgn_some {S : Fp.F} {x : Int} (h : Mx.SgnIs S x) (hs : S = 1 ∨ S = -1) : (x == 0) = false := by
  rw [beq_eq_false_iff_ne]
  intro e
  subst e
  have := h.2
  rw [show Fp.ofInt 0 = 0 from rfl] at this
  rcases hs with e | e
  · rw [e] at this; exact absurd this (by decide)
  · rw [e] at this; exact absurd this (by decide)

set_option maxRecDepth 100000 in
set_option maxHeartbeats 6400000 in
theorem walk_LuBack (A : Option Addr) (a : List (List Int)) (c : Nat) (w : World) (ha : LiesM w A a) :
    Calls Try.prog 3 #[.slice A a.length c] w fun e w' => e = .returned (.bool true) ∧ Kp w w' := by
  obtain ⟨n, hn⟩ : ∃ n, n = a.length := ⟨_, rfl⟩
  rw [← hn]
  have HA := Lib.hid ha
  have FA := Lib.hid (luFact_any w)
  clear ha
  rcases Split_or A a n c hn.symm with ⟨f, sa⟩ | bad
  · have SA := Lib.hid sa
    have n0 := sa.r0
    have n5 := sa.r5
    clear hn sa
    go_enter Try.func3, Try.ntmps3
    go_wp2_with fail
    refine (FA.out).mono ?_; rintro e w1 ⟨rfl, k1⟩
    have K1 := Lib.hid k1; clear k1
    go_wp2_with fail
    refine (Split_sh SA.out c w1 (HA.out.keep K1.out)).mono ?_; rintro e w2 ⟨t, Ao, d1, Al, d2, Au, d3, ht, rfl, l1, l2, l3, k2⟩
    have K2 := Lib.hid (K1.out.trans k2)
    have HT := Lib.hid (ht.is (Nat.le_refl n))
    have L1 := Lib.hid l1
    have L2 := Lib.hid l2
    have L3 := Lib.hid l3
    have SL : Sh n n t.low (Mx.matl n n t.low) := ⟨rfl, n0, n5, n0, n5⟩
    have SU : Sh n n t.u (Mx.matl n n t.u) := ⟨rfl, n0, n5, n0, n5⟩
    have MU := Lib.hid (Mul_sh SL SU d2 d3 w2 l2 l3)
    clear k2 ht l1 l2 l3 SL SU
    go_wp2_with fail
    refine (MU.out).mono ?_; rintro e w3 ⟨Ap, d4, rfl, l4, k3⟩
    have K3 := Lib.hid (K2.out.trans k3)
    have O3 := Lib.hid (L1.out.keep k3)
    have LO3 := Lib.hid (L2.out.keep k3)
    have UP3 := Lib.hid (L3.out.keep k3)
    have P3 := Lib.hid l4
    clear k3 l4 MU L1 L2 L3
    obtain ⟨ad2, A2, c2, e2, _, x2, _, _⟩ := LO3.out.row n0
    obtain ⟨ad3, A3, c3, e3, _, x3, _, _⟩ := UP3.out.row n0
    subst e2 e3
    rw [add_zero'] at x2 x3
    have SG := Lib.hid (rSign_any Ao (Mx.row n fun i => (t.s i : Int)) n d1 w3 O3.out (Mx.len_row _ _) (by omega))
    have e1 : ((n : Int) != (n : Int)) = false := by simp
    go_wp2_with fail
    refine (SG.out).mono ?_; rintro e w4 ⟨x, rfl, hx, k4⟩
    rw [Mx.sp_congr fun i hi => Mx.row_at _ _ _ hi] at hx
    have hx0 := sgn_some hx HT.out.sn
    have K4 := Lib.hid (K3.out.trans k4)
    have O4 := Lib.hid (O3.out.keep k4)
    have LO4 := Lib.hid (LO3.out.keep k4)
    have UP4 := Lib.hid (UP3.out.keep k4)
    have P4 := Lib.hid (P3.out.keep k4)
    have AA := HA.out
    rw [SA.out.eq] at AA
    have A4 := Lib.hid (AA.keep K4.out)
    clear k4 hx x2 x3 O3 LO3 UP3 P3 SG AA
    go_wp2_with fail
    go_loopw [9] (fun i wr => ∃ k : Nat, k ≤ n ∧ i = .int .i64 (k : Int) ∧ Kp w4 wr) (fun i _ => n - (intOf i).toNat)
    case atStart => exact ⟨0, Nat.zero_le _, rfl, Kp.rfl' _⟩
    case round =>
      obtain ⟨k, hk, rfl, hkp⟩ := hrel
      obtain ⟨wo, hwo⟩ : ∃ x, x = wr := ⟨_, rfl⟩
      subst hwo
      have HK := Lib.hid hkp
      by_cases hlt : k < n
      · obtain ⟨ap, A5, c5, rfl, _, x5, _, l5⟩ := (P4.out.keep hkp).row hlt
        obtain ⟨ao, rfl, _, x6⟩ := (O4.out.keep hkp).el hlt
        obtain ⟨si, hsi⟩ : ∃ x, x = t.s k := ⟨_, rfl⟩
        rw [← hsi] at x6
        have hsn : si < n := by rw [hsi]; exact HT.out.lt k hlt
        obtain ⟨aa, A7, c7, ea, _, x7, _, l7⟩ := (A4.out.keep hkp).row hsn
        obtain ⟨al, A8, c8, el', _, x8, _, l8⟩ := (LO4.out.keep hkp).row hlt
        obtain ⟨al1, el1, _, x9⟩ := l8.el hlt
        rw [t.low_one k, show (((1 : Fp.F).val : Nat) : Int) = 1 from rfl] at x9
        have L8 := Lib.hid l8
        have IC := Lib.hid (fun (q : Nat) => show Calls Try.prog 9 #[.slice A5 n c5, .slice A7 n c7] (wo.drewN q) fun e w' => e = .returned (.bool true) ∧ Drew (wo.drewN q) w' by
          have h := ints_drew A5 A7 _ _ c5 c7 (wo.drewN q) (l5.keep ((Kp.rfl' wo).drewN q)) (l7.keep ((Kp.rfl' wo).drewN q)) (by rw [Mx.len_row]; omega) (by rw [Mx.len_row]; omega)
          rw [Mx.len_row, Mx.len_row] at h
          refine h.mono fun e w' hh => ⟨tells_yes hh.1 ?_, hh.2⟩
          refine Mx.row_ext fun j hj => ?_
          show ((Mx.mul n t.low t.u k j).val : Int) = ((f si j).val : Int)
          rw [HT.out.product k j hlt hj, hsi])
        have HSI := Lib.hid hsi
        subst ea el1
        obtain rfl := Option.some.inj el'
        clear l5 l7 l8 hkp hsi
        go_wp2_with fail
        go_quiet ((first
          | (with_reducible exact quiet_drew (IC.out _))
          | (with_reducible exact quiet_drew_more (IC.out _))))
        obtain ⟨wi, hwi⟩ : ∃ x, x = wo.drewN nq := ⟨_, rfl⟩
        rw [← hwi]
        have KI := Lib.hid (show Kp w4 wi by rw [hwi]; exact HK.out.drewN nq)
        clear hwi x5 x6 x7 x8 x9
        go_wp2_with fail
        go_loopw [10] (fun i wr => ∃ j : Nat, j ≤ n ∧ i = .int .i64 (j : Int) ∧ Kp w4 wr) (fun i _ => n - (intOf i).toNat)
        case atStart => exact ⟨0, Nat.zero_le _, rfl, KI.out⟩
        case round =>
          obtain ⟨j, hj, rfl, hkp⟩ := hrel
          have HK2 := Lib.hid hkp
          by_cases hlt2 : j < n
          · obtain ⟨a1, A9, c9, e9, _, x5, _, l5⟩ := (LO4.out.keep hkp).row hlt
            obtain ⟨a2, e2, _, x6⟩ := l5.el hlt2
            obtain ⟨a3, A10, c10, e10, _, x7, _, l7⟩ := (UP4.out.keep hkp).row hlt
            obtain ⟨a4, e4, _, x8⟩ := l7.el hlt2
            obtain rfl := Option.some.inj e9
            obtain rfl := Option.some.inj e10
            subst e2 e4
            clear l5 l7 hkp
            rcases Nat.lt_trichotomy j k with h | h | h
            · rw [HT.out.uz k j hlt hlt2 h, show (((0 : Fp.F).val : Nat) : Int) = 0 from rfl] at x8
              have h1 : ¬ ((k : Int) < (j : Int)) := by omega
              have h2 : (j : Int) < (k : Int) := by omega
              go_wp2_with fail
              go_roundw
              case rel => exact ⟨j + 1, by omega, by go_num, HK2.out⟩
              case measure => simp [intOf]; omega
            · have h1 : ¬ ((k : Int) < (j : Int)) := by omega
              have h2 : ¬ ((j : Int) < (k : Int)) := by omega
              clear h
              go_wp2_with fail
              go_roundw
              case rel => exact ⟨j + 1, by omega, by go_num, HK2.out⟩
              case measure => simp [intOf]; omega
            · rw [HT.out.low hlt hlt2 h, show (((0 : Fp.F).val : Nat) : Int) = 0 from rfl] at x6
              have h1 : (k : Int) < (j : Int) := by omega
              have h2 : ¬ ((j : Int) < (k : Int)) := by omega
              go_wp2_with fail
              go_roundw
              case rel => exact ⟨j + 1, by omega, by go_num, HK2.out⟩
              case measure => simp [intOf]; omega
          · obtain rfl : j = n := by omega
            clear hkp
            go_wp2_with fail
            go_roundw
            case rel => exact ⟨k + 1, by omega, by go_num, HK2.out⟩
            case measure => simp [intOf]; omega
      · obtain rfl : k = n := by omega
        clear hkp
        go_wp2_with fail
        go_ret
        exact ⟨rfl, K4.out.trans HK.out⟩
  · have BAD := Lib.hid bad
    clear hn bad
    go_enter Try.func3, Try.ntmps3
    go_wp2_with fail
    refine (FA.out).mono ?_; rintro e w1 ⟨rfl, k1⟩
    have K1 := Lib.hid k1; clear k1
    go_wp2_with fail
    refine (BAD.out w1 (HA.out.keep K1.out)).mono ?_; rintro e w2 ⟨z, rfl, k2⟩
    have K2 := Lib.hid (K1.out.trans k2); clear k2
    go_wp2_with fail
    go_ret
    exact ⟨rfl, K2.out⟩

end Go.Proofs.Ytdkdpklohfdpmaa
