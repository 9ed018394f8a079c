/- The laws SolveNull and SolveMore. -/
import Derived.Test.YtcgpommgldecfaaSoFact
import Derived.Test.YtcgpommgldecfaaSoR1
import Derived.Test.YtcgpommgldecfaaSumG
import Derived.Test.YtcgpommgldecfaaIdx
import Derived.Deep.RegionHeld3
namespace Go.Proofs.Ytcgpommgldecfaa
open Go.ChangeShapes Go.WideShapes Go.ChangeAt Go.RowKit
set_option linter.unusedVariables false

theorem zeros_at (n k : Nat) : Ka.at' (rowF n fun _ => 0) k = 0 := by
  unfold Ka.at'
  rcases Nat.lt_or_ge k n with h | h
  · rw [Mx.row_at _ _ _ h]; rfl
  · rw [Mx.row_out _ _ _ h]

set_option maxRecDepth 100000 in
set_option maxHeartbeats 6400000 in
theorem walk_SolveNull (A : Option Addr) (a : List (List Int)) (c : Nat) (w : World) (ha : LiesM w A a) :
    Calls Try.prog 3 #[.slice A a.length c] w fun e w' => e = .returned (.bool true) ∧ Kp w w' := by
  obtain ⟨n, hn⟩ : ∃ n, n = a.length := ⟨_, rfl⟩
  rw [← hn]
  have HA := Lib.hid ha
  have FA := Lib.hid (solveFact_any w)
  clear ha
  rcases Null_or A a n c hn.symm with ⟨r, q, f, sa⟩ | bad
  · have hr := sa.len
    rw [← hn] at hr
    subst hr
    have SA := Lib.hid sa
    have n0 := sa.r0
    have n5 := sa.r5
    have q0 := sa.c0
    have q5 := sa.c5
    clear hn sa
    go_enter Try.func3, Try.ntmps3
    go_wp2_with fail
    refine (FA.out).mono ?_; rintro e w1 ⟨rfl, k1⟩
    have K1 := Lib.hid k1; clear k1
    go_wp2_with fail
    refine (Null_sh SA.out c w1 (HA.out.keep K1.out)).mono ?_; rintro e w2 ⟨b, g, A1, d1, st, rfl, l1, k2⟩
    have hcnt := st.steps.count
    obtain ⟨n1, hn1⟩ : ∃ n1, n1 = (Mx.fr b q).length := ⟨_, rfl⟩
    obtain ⟨p, hp⟩ : ∃ p, p = b.length := ⟨_, rfl⟩
    rw [← hn1] at hcnt l1 ⊢
    rw [← hp] at hcnt
    have ST := Lib.hid st; have K2 := Lib.hid (K1.out.trans k2); have L1 := Lib.hid l1
    have HN1 := Lib.hid hn1
    have HP := Lib.hid hp
    clear st k2 l1 hn1 hp
    go_wp2_with fail
    refine (Rank_sh SA.out c w2 (HA.out.keep K2.out)).mono ?_; rintro e w3 ⟨b2, g2, st2, rfl, k3⟩
    rw [← (ST.out.one st2).1, ← HP.out]
    have K3 := Lib.hid (K2.out.trans k3); have L3 := Lib.hid (L1.out.keep k3)
    clear st2 k3
    have hrow := HA.out.keep K3.out
    rw [SA.out.eq] at hrow
    obtain ⟨ad, A0, d0, rfl, _, x1, _, _⟩ := hrow.row n0
    rw [add_zero'] at x1
    have e0 : ((n : Int) == 0) = false := by rw [beq_eq_false_iff_ne]; omega
    have e1 : ((p : Int) + (n1 : Int) != (q : Int)) = false := by
      rw [← hcnt]; simp
    have hwp : IntKind.i64.wrap ((p : Int) + (n1 : Int)) = (p : Int) + (n1 : Int) := IntWalk.i64_in _ (by omega)
    clear hrow
    have hn1q : n1 ≤ q := by omega
    have hpq : p ≤ q := by omega
    have HC := Lib.hid hcnt
    clear hcnt
    go_wp2_with fail
    have X1 := Lib.hid x1
    clear x1 e1 hwp
    go_loopw [7] (fun i wr => ∃ k : Nat, k ≤ n1 ∧ i = .int .i64 (k : Int) ∧ Kp w3 wr) (fun i _ => n1 - (intOf i).toNat)
    case atStart => exact ⟨0, Nat.zero_le _, rfl, Kp.rfl' _⟩
    case round =>
      obtain ⟨k, hk, rfl, hkp⟩ := hrel
      have HK := Lib.hid hkp
      by_cases hlt : k < n1
      · have y1 := (hkp.cell (p := ad) (cell_lt X1.out)).trans X1.out
        obtain ⟨bd, A2, d2, rfl, _, y2, _, l2⟩ := (L3.out.keep hkp).row hlt
        have TO := rTo_any (some ad) A2 f (Mx.nm b g q k) n q c d2 wr.drew (by have := HA.out.keep ((K3.out.trans hkp).drewN 1); rw [SA.out.eq] at this; exact this) (l2.keep ((Kp.rfl' wr).drewN 1)) (by omega) (by omega)
        unfold MadeRow at TO
        rw [show rowF n (Mx.tov q f (Mx.nm b g q k)) = rowF n fun _ => 0 from Mx.row_ext fun i hi => by
          have hf := Mx.fr_at (b := b) (c := q) (i := k) (by rw [← HN1.out]; exact hlt)
          rw [show Mx.tov q f (Mx.nm b g q k) i = 0 from ST.out.steps.nv_zero ST.out.req hf.1 hf.2 hi]] at TO
        have TO := Lib.hid TO
        have SU := Lib.hid (fun (A5 : Option Addr) (d5 : Nat) (w5 : World) (l5 : Lies w5 A5 (rowF n fun _ => 0)) => (rsum_any A5 _ n d5 w5 l5 (Mx.len_row _ _) (by omega) (fun k => by rw [zeros_at]; decide)).mono fun e w' h => (⟨by rw [h.1, Ka.sm_none fun i _ => zeros_at n i], h.2⟩ : e = .returned (.int .i64 0) ∧ w5 = w'))
        have SK := Lib.hid (fun (w' : World) (h : Kp wr w') => (show w'.cell? (bd.add k) = some (.slice A2 q d2) ∧ w'.cell? ad = some (.slice A0 q d0) ∧ Kp wr w' from
          ⟨(h.cell (p := bd.add k) (cell_lt y2)).trans y2, (h.cell (p := ad) (cell_lt y1)).trans y1, h⟩))
        have kd : Kp wr wr.drew := (Kp.rfl' wr).drewN 1
        clear hkp l2
        go_wp2_with fail
        go_region_held3 (fun w' => w'.cell? (bd.add k) = some (.slice A2 q d2) ∧ w'.cell? ad = some (.slice A0 q d0) ∧ Kp wr w')
          (first
          | exact SK.out _ (Kp.rfl' _)
          | exact SK.out _ kd
          | exact SK.out _ (kd.trans k5))
          ((first
          | (go_at_call 9; (with_reducible refine (TO.out).mono ?_); rintro e w5 ⟨A5, d5, rfl, l5, k5⟩)
          | (go_at_call 8; (with_reducible refine (SU.out A5 d5 _ l5).mono ?_); rintro e w6 ⟨rfl, rfl⟩)))
        all_goals
          have HK5 := Lib.hid ((HK.out.drewN 1).trans k5)
          clear l5 k5
          go_wp2_with fail
          go_roundw
          case rel => exact ⟨k + 1, by omega, by go_num, HK5.out⟩
          case measure => simp [intOf]; omega
      · obtain rfl : k = n1 := by omega
        have K4 := Lib.hid (K3.out.trans hkp)
        clear hkp
        by_cases h0 : k = 0
        · have e2 : ((k : Int) == 0) = true := by rw [h0]; rfl
          clear h0
          go_wp2_with fail
          go_ret
          exact ⟨rfl, K4.out⟩
        · have e2 : ((k : Int) == 0) = false := by rw [beq_eq_false_iff_ne]; omega
          have SN : Sh k q (Mx.nm b g q) (Mx.matl k q (Mx.nm b g q)) := ⟨rfl, by omega, by omega, q0, q5⟩
          have RN := Lib.hid ((Rank_sh SN d1 wr (L3.out.keep HK.out)).mono fun e w' h => (by
            obtain ⟨b3, g3, st3, he, hk3⟩ := h
            have hh := st3
            rw [HN1.out] at hh
            rw [Mx.nm_rank (r := 0) hh, ← HN1.out] at he
            exact ⟨he, hk3⟩ : e = .returned (.tuple #[.int .i64 (k : Int), .nilIface]) ∧ Kp wr w'))
          clear h0 SN
          go_wp2_with fail
          refine (RN.out).mono ?_; rintro e w7 ⟨rfl, k7⟩
          have K7 := Lib.hid (K4.out.trans k7)
          clear k7
          have e3 : ((k : Int) == (k : Int)) = true := by simp
          go_wp2_with fail
          go_ret
          exact ⟨by simp, K7.out⟩
  · have BD := Lib.hid bad
    clear bad hn
    go_enter Try.func3, Try.ntmps3
    go_wp2_with fail
    refine (FA.out).mono ?_; rintro e w1 ⟨rfl, k1⟩
    have K1 := Lib.hid k1; clear k1
    go_wp2_with fail
    refine (BD.out w1 (HA.out.keep K1.out)).mono ?_; rintro e w2 ⟨z, rfl, k2⟩
    have K2 := Lib.hid (K1.out.trans k2); clear k2
    go_wp2_with fail
    go_ret
    exact ⟨rfl, K2.out⟩
theorem rowF_in (q : Nat) (t : Nat → Fp.F) : AllIn (rowF q t) 0 9972 := fun k hk => by
  rw [Mx.len_row] at hk
  rw [Mx.row_at _ _ _ hk]
  exact gval (t k)
end Go.Proofs.Ytcgpommgldecfaa
