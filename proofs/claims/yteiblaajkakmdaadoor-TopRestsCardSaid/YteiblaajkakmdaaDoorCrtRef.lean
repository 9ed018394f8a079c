/- The contract of the document's answer for package crt (rankmereref1.Crt). -/
import Derived.Test.YteiblaajkakmdaaDoorCrtC
import Derived.Test.YteiblaajkakmdaaDoorSame
import Derived.Test.YteiblaajkakmdaaDoorRefG
namespace Go.Proofs.YteiblaajkakmdaaDoor
open Go.ChangeShapes Go.WideShapes Go.ChangeAt Go.RowKit
set_option linter.unusedVariables false

theorem quiet_here {P : Program} {f : FuncId} {args : Array Value} {w : World} {n : Nat} {v : Value} (h : Calls P f args (w.drewN n) fun e w' => e = .returned v ∧ w.drewN n = w') :
    Calls P f args (w.drewN n) fun e w'' => e = .returned v ∧ ∃ m, w'' = w.drewN m := h.mono fun _ _ ⟨he, hm⟩ => ⟨he, n, hm.symm⟩

theorem quiet_more {P : Program} {f : FuncId} {args : Array Value} {w : World} {a n : Nat} {v : Value} (h : Calls P f args (w.drewN (a + n)) fun e w' => e = .returned v ∧ w.drewN (a + n) = w') :
    Calls P f args (w.drewN (a + n)) fun e w'' => e = .returned v ∧ ∃ m, w'' = w.drewN (a + m) := h.mono fun _ _ ⟨he, hm⟩ => ⟨he, n, hm.symm⟩

/-- The congruences from place j on. -/
def From (rs ms : List Int) (n j : Nat) : Int × Int → Prop := fun p => ∃ i, j ≤ i ∧ i < n ∧ p = (rs.getD i 0, ms.getD i 0)
theorem from_all (rs ms : List Int) (n : Nat) (p : Int × Int) : From rs ms n 0 p ↔ Pairs rs ms n p :=
  ⟨fun ⟨i, _, h, e⟩ => ⟨i, h, e⟩, fun ⟨i, h, e⟩ => ⟨i, Nat.zero_le _, h, e⟩⟩
theorem from_none (rs ms : List Int) (n : Nat) (p : Int × Int) : ¬ From rs ms n n p := fun ⟨i, h1, h2, _⟩ => by omega
theorem from_succ (rs ms : List Int) (n j : Nat) (h : j < n) (p : Int × Int) : CrtM.More (From rs ms n (j + 1)) (rs.getD j 0, ms.getD j 0) p ↔ From rs ms n j p := by
  constructor
  · rintro (⟨i, h1, h2, rfl⟩ | rfl)
    · exact ⟨i, by omega, h2, rfl⟩
    · exact ⟨j, Nat.le_refl _, h, rfl⟩
  · rintro ⟨i, h1, h2, rfl⟩
    by_cases e : i = j
    · subst e; exact .inr rfl
    · exact .inl ⟨i, by omega, h2, rfl⟩
theorem from_mono (rs ms : List Int) (n j : Nat) (p : Int × Int) : From rs ms n j p → Pairs rs ms n p := fun ⟨i, _, h, e⟩ => ⟨i, h, e⟩

def RefSays (rs ms : List Int) (w : World) (e : Ending) (w' : World) : Prop :=
  (∃ c x s : Int, Ans rs ms c x s ∧ e = .returned (.tuple #[.int .i64 x, .int .i64 s, .int .i64 c])) ∧ Kp w w'

theorem refCrt_full (A B : Option Addr) (rs ms : List Int) (c d : Nat) (w : World) (h : 5 < ms.length) :
    Calls Tryd.prog 5 #[.slice A rs.length c, .slice B ms.length d] w fun e w' => RefSays rs ms w e w' := by
  have H := Lib.hid h
  generalize hn : ms.length = n at *
  have h' : (5 : Int) < n := by omega
  have HN := Lib.hid hn
  clear h hn
  go_enter Tryd.func5, Tryd.ntmps5
  go_wp2_with fail
  go_ret3
  exact ⟨⟨4, 0, 0, .inl ⟨by rw [HN.out]; exact H.out, rfl, rfl, rfl⟩, rfl⟩, Kp.rfl' _⟩

theorem refCrt_shape (A B : Option Addr) (rs ms : List Int) (c d : Nat) (w : World) (h : ms.length ≤ 5) (h2 : rs.length ≠ ms.length) :
    Calls Tryd.prog 5 #[.slice A rs.length c, .slice B ms.length d] w fun e w' => RefSays rs ms w e w' := by
  have H := Lib.hid (show ∀ w, RefSays rs ms w (.returned (.tuple #[.int .i64 0, .int .i64 0, .int .i64 3])) w from fun w => ⟨⟨3, 0, 0, .inr (.inl ⟨h, h2, rfl, rfl, rfl⟩), rfl⟩, Kp.rfl' _⟩)
  generalize ms.length = n at *
  generalize rs.length = m at *
  have h' : ¬ (5 : Int) < n := by omega
  have h3 : ((m : Int) != (n : Int)) = true := by rw [bne_iff_ne]; omega
  clear h2
  go_enter Tryd.func5, Tryd.ntmps5
  go_wp2_with fail
  go_ret3
  exact H.out _

set_option maxRecDepth 100000 in
set_option maxHeartbeats 6400000 in
theorem refCrt_len (A B : Option Addr) (rs ms : List Int) (c d : Nat) (w : World) (h : ms.length ≤ 5) (h2 : rs.length = ms.length) (ha : Lies w A rs) (hb : Lies w B ms) :
    Calls Tryd.prog 5 #[.slice A ms.length c, .slice B ms.length d] w fun e w' => RefSays rs ms w e w' := by
  have HA := Lib.hid ha
  have HB := Lib.hid hb
  have H2 := Lib.hid h2
  clear ha hb h2
  obtain ⟨n, hn⟩ : ∃ n, n = ms.length := ⟨_, rfl⟩
  rw [← hn] at h ⊢
  have HN := Lib.hid hn
  clear hn
  have h' : ¬ (5 : Int) < n := by omega
  go_enter Tryd.func5, Tryd.ntmps5
  go_wp2_with fail
  go_loopw [7] (fun i wr => ∃ k : Nat, k ≤ n ∧ i = .int .i64 (k : Int) ∧ (∀ j, j < k → Good (rs.getD j 0) (ms.getD j 0)) ∧ Kp w wr) (fun i _ => n - (intOf i).toNat)
  case atStart => exact ⟨0, Nat.zero_le _, rfl, fun j hj => absurd hj (by omega), Kp.rfl' _⟩
  case round =>
    obtain ⟨k, hk, rfl, hg, hkp⟩ := hrel
    have HG := Lib.hid hg
    have HK := Lib.hid hkp
    clear hg hkp
    by_cases hlt : k < n
    · obtain ⟨ad, rfl, _, hc⟩ := (HA.out.keep HK.out) k (by have := HN.out; have := H2.out; omega)
      obtain ⟨bd, rfl, _, hd⟩ := (HB.out.keep HK.out) k (by have := HN.out; omega)
      obtain ⟨r, hr⟩ : ∃ r, r = rs.getD k 0 := ⟨_, rfl⟩
      obtain ⟨m, hm⟩ : ∃ m, m = ms.getD k 0 := ⟨_, rfl⟩
      rw [← hr] at hc
      rw [← hm] at hd
      have HF := Lib.hid (show Fine rs ms → Good r m from fun f => by rw [hr, hm]; exact f k (by have := HN.out; omega))
      have HS := Lib.hid (show Good r m → ∀ j, j < k + 1 → Good (rs.getD j 0) (ms.getD j 0) from fun g j hj => by
        by_cases e : j = k
        · subst e; rw [← hr, ← hm]; exact g
        · exact HG.out j (by omega))
      have HE := Lib.hid (show ¬ Good r m → ∀ w', Kp w w' → RefSays rs ms w (.returned (.tuple #[.int .i64 0, .int .i64 0, .int .i64 1])) w' from fun ng w' hw =>
        ⟨⟨1, 0, 0, .inr (.inr (.inl ⟨by have := HN.out; omega, H2.out, fun f => ng (HF.out f), rfl, rfl, rfl⟩)), rfl⟩, hw⟩)
      clear hr hm HF
      by_cases h1 : 1 ≤ m ∧ m ≤ 100
      · obtain ⟨m1, m2⟩ := h1
        have w1 : IntKind.i64.wrap (m - 1) = m - 1 := IntWalk.i64_in _ (by omega)
        have W1 := Lib.hid w1
        clear w1
        by_cases h3 : 0 ≤ r ∧ r ≤ m - 1
        · obtain ⟨r0, r1⟩ := h3
          have GG := Lib.hid (HS.out ⟨m1, m2, r0, by omega⟩)
          clear HS HE
          go_wp2_with fail
          have w1 := W1.out
          go_quiet ((first
            | (with_reducible exact quiet_here (refIn_yes m 1 100 _ (by omega) (by omega)))
            | (with_reducible exact quiet_here (refIn_yes r 0 (m - 1) _ (by omega) (by omega)))))
          clear w1
          go_wp2_with fail
          go_roundw
          case rel => exact ⟨k + 1, by omega, by go_num, GG.out, HK.out.drewN _⟩
          case measure => simp [intOf]; omega
        · have EE := Lib.hid (HE.out (fun g => h3 ⟨g.2.2.1, by have := g.2.2.2; omega⟩))
          have H3 := Lib.hid h3
          clear HS HE h3
          go_wp2_with fail
          have w1 := W1.out
          go_quiet ((first
            | (with_reducible exact quiet_here (refIn_yes m 1 100 _ (by omega) (by omega)))
            | (with_reducible exact quiet_here (refIn_no r 0 (m - 1) _ H3.out))))
          clear w1
          go_wp2_with fail
          go_ret3
          exact EE.out _ (HK.out.drewN _)
      · have EE := Lib.hid (HE.out (fun g => h1 ⟨g.1, g.2.1⟩))
        have H1 := Lib.hid h1
        clear HS HE h1
        go_wp2_with fail
        go_quiet ((with_reducible exact quiet_here (refIn_no m 1 100 _ H1.out)))
        go_wp2_with fail
        go_ret3
        exact EE.out _ (HK.out.drewN _)
    · obtain rfl : k = n := by omega
      have F := Lib.hid (show Fine rs ms from fun j hj => HG.out j (by have := HN.out; omega))
      clear HG hk
      go_wp2_with fail
      go_loopw [8, 9, 10] (fun x s i wr => ∃ (j : Nat) (X S : Int), j ≤ k ∧ i = .int .i64 ((j : Int) - 1) ∧ x = .int .i64 X ∧ s = .int .i64 S ∧
        CrtM.IsLcm (From rs ms k j) S ∧ CrtM.Meets (From rs ms k j) X ∧ S ≤ (100 : Int) ^ (k - j) ∧ 0 ≤ X ∧ X ≤ 10000000000 * ((k - j : Nat) : Int) ∧ Kp w wr) (fun _ _ i _ => (intOf i + 1).toNat)
      case atStart => exact ⟨k, 0, 1, Nat.le_refl _, rfl, rfl, rfl, CrtM.lcm_none _ (from_none rs ms k), fun p hp => absurd hp (from_none rs ms k p), by rw [Nat.sub_self]; decide, by decide, by omega, HK.out⟩
      case round =>
        obtain ⟨j, X, S, hj, rfl, rfl, rfl, hl, hm, hS, X0, X1, hkp⟩ := hrel
        have HL := Lib.hid hl
        have HM := Lib.hid hm
        have HP := Lib.hid hS
        have HKP := Lib.hid hkp
        have S1 := hl.1
        clear hl hm hS hkp
        cases j with
        | zero =>
          have ei : ((0 : Nat) : Int) - 1 = -1 := by decide
          rw [ei]
          have e0 := Int.emod_nonneg X (show S ≠ 0 by omega)
          have HR := Lib.hid (show CrtM.Sol (Pairs rs ms ms.length) (X % S) S from by
            rw [← HN.out]
            exact CrtM.sol_of _ _ (from_all rs ms k) _ _ (CrtM.least _ X S HL.out HM.out))
          have HB := Lib.hid (Int.le_trans HP.out (pow_small' (k - 0) (by omega)))
          go_wp2_with fail
          go_ret3
          exact ⟨⟨0, X % S, S, .inr (.inr (.inr (.inr ⟨by have := HN.out; omega, H2.out, F.out, HR.out, HB.out, rfl⟩))), rfl⟩, HKP.out⟩
        | succ j =>
          have ei : ((j + 1 : Nat) : Int) - 1 = (j : Int) := by omega
          rw [ei]
          have S2 : S ≤ 100000000 := Int.le_trans HP.out (pow_small _ (by omega))
          obtain ⟨m1, m2, r0, r1⟩ := F.out j (by have := HN.out; omega)
          have LJ := HA.out j (by have := HN.out; have := H2.out; omega)
          have LD := HB.out j (by have := HN.out; omega)
          obtain ⟨r, hr⟩ : ∃ r, r = rs.getD j 0 := ⟨_, rfl⟩
          obtain ⟨m, hm⟩ : ∃ m, m = ms.getD j 0 := ⟨_, rfl⟩
          rw [← hr] at LJ r0 r1
          rw [← hm] at LD m1 m2 r1
          have HLJ := Lib.hid LJ
          have HLD := Lib.hid LD
          have HFS := Lib.hid (show ∀ p, CrtM.More (From rs ms k (j + 1)) (r, m) p ↔ From rs ms k j p from fun p => by rw [hr, hm]; exact from_succ rs ms k j (by omega) p)
          clear hr hm LJ LD ei
          go_wp2_with fail
          go_loopw [8, 11] (fun x t wr' => ∃ T : Nat, (T : Int) ≤ m ∧ t = .int .i64 (T : Int) ∧ x = .int .i64 (X + T * S) ∧ (∀ u : Int, 0 ≤ u → u < T → (X + u * S) % m ≠ r) ∧ Kp w wr') (fun _ t _ => (m - intOf t).toNat)
          case atStart => exact ⟨0, by omega, rfl, by simp, fun u h1 h2 => absurd h2 (by omega), HKP.out⟩
          case round =>
            obtain ⟨T, hT, rfl, rfl, hno, hkp⟩ := hrel
            obtain ⟨ad, rfl, ha1, ha2⟩ := HLJ.out
            obtain ⟨bd, rfl, hb1, hb2⟩ := HLD.out
            have hc := (hkp.cell (p := ad.add j) (by rw [block_add]; exact ha1)).trans ha2
            have hd := (hkp.cell (p := bd.add j) (by rw [block_add]; exact hb1)).trans hb2
            have HK2 := Lib.hid hkp
            have HNO := Lib.hid hno
            have p0 : 0 ≤ (T : Int) * S := Int.mul_nonneg (by omega) (by omega)
            have p1 : (T : Int) * S ≤ 100 * 100000000 := Int.mul_le_mul (by omega) S2 (by omega) (by omega)
            clear ha1 ha2 hb1 hb2 hkp hno
            obtain ⟨Y, hY⟩ : ∃ Y, Y = X + (T : Int) * S := ⟨_, rfl⟩
            have Y0 : 0 ≤ Y := by omega
            have Y1 : Y ≤ 10000000000 * ((k - (j + 1) : Nat) : Int) + 10000000000 := by omega
            have Y2 : Y ≤ 1000000000000 := by omega
            rw [← hY]
            have HY := Lib.hid hY
            clear hY p0 p1
            have y0 := Int.emod_nonneg Y (show m ≠ 0 by omega)
            by_cases hT2 : (T : Int) < m
            · have d1 : decide ((T : Int) < m) = true := by simp; omega
              by_cases hr : Y % m = r
              · have t1 : (Y % m != r) = false := by rw [hr]; simp
                have t2 : ((T : Int) == m) = false := by rw [beq_eq_false_iff_ne]; omega
                have HR := Lib.hid hr
                clear hr
                go_wp2_with fail
                go_quiet (fail)
                go_wp2_with fail
                obtain ⟨g1, g2, g3⟩ := CrtM.gcd_bounds S m (by omega) m1
                have q0 : 0 ≤ S / (Int.gcd S m : Int) := Int.ediv_nonneg (by omega) (by omega)
                have q1 : S / (Int.gcd S m : Int) ≤ S := Int.ediv_le_self _ (by omega)
                have q2 : 0 ≤ S / (Int.gcd S m : Int) * m := Int.mul_nonneg q0 (by omega)
                have q3 : S / (Int.gcd S m : Int) * m ≤ S * 100 := Int.mul_le_mul q1 m2 (by omega) (by omega)
                have HL2 := Lib.hid (CrtM.lcm_of _ _ HFS.out _ (CrtM.lcm_more' (From rs ms k (j + 1)) S r m HL.out (by omega)))
                have HM2 := Lib.hid (show CrtM.Meets (From rs ms k j) Y from by
                  have h1 := CrtM.tries_hit (From rs ms k (j + 1)) X S r m T HL.out HM.out (by rw [← HY.out]; exact HR.out)
                  rw [← HY.out] at h1
                  exact fun p hp => h1 p ((HFS.out p).2 hp))
                have HP2 := Lib.hid (show S / (Int.gcd S m : Int) * m ≤ (100 : Int) ^ (k - j) from by
                  have e : k - j = (k - (j + 1)) + 1 := by omega
                  rw [e, Int.pow_succ]
                  have := HP.out
                  omega)
                have HX2 := Lib.hid (show Y ≤ 10000000000 * ((k - j : Nat) : Int) by omega)
                go_quiet ((with_reducible exact quiet_more (refGcd_any m.natAbs S m _ (Nat.le_refl _) (by omega) (by omega) (by omega) (by omega))))
                go_wp2_with fail
                go_roundw
                case rel => exact ⟨j, Y, _, by omega, rfl, rfl, rfl, HL2.out, HM2.out, HP2.out, Y0, HX2.out, HK2.out.drewN _⟩
                case measure => simp [intOf]
              · have t1 : (Y % m != r) = true := by rw [bne_iff_ne]; exact hr
                have EY := Lib.hid (show Y + S = X + ((T + 1 : Nat) : Int) * S by rw [HY.out, Int.natCast_add, Int.add_mul]; omega)
                have NO := Lib.hid (show ∀ u : Int, 0 ≤ u → u < ((T + 1 : Nat) : Int) → (X + u * S) % m ≠ r from fun u h1 h2 => by
                  by_cases e : u = T
                  · rw [e, ← HY.out]; exact hr
                  · exact HNO.out u h1 (by omega))
                clear hr
                go_wp2_with fail
                go_quiet (fail)
                go_wp2_with fail
                go_roundw
                case rel => exact ⟨T + 1, by omega, by go_num, by rw [EY.out], NO.out, HK2.out.drewN _⟩
                case measure => simp [intOf]; omega
            · have d1 : decide ((T : Int) < m) = false := by simp; omega
              have t2 : ((T : Int) == m) = true := by rw [beq_iff_eq]; omega
              have NO := Lib.hid (CrtM.noSol_of _ _ (fun p hp => from_mono rs ms k j p ((HFS.out p).1 hp)) (CrtM.tries_none _ X S r m HL.out HM.out (by omega) fun u h1 h2 => HNO.out u h1 (by omega)))
              go_wp2_with fail
              go_quiet (fail)
              go_wp2_with fail
              go_ret3
              exact ⟨⟨6, 0, 0, .inr (.inr (.inr (.inl ⟨by have := HN.out; omega, H2.out, F.out, by rw [← HN.out]; exact NO.out, rfl, rfl, rfl⟩))), rfl⟩, HK2.out.drewN _⟩

theorem refCrt_any (A B : Option Addr) (rs ms : List Int) (c d : Nat) (w : World) (ha : Lies w A rs) (hb : Lies w B ms) :
    Calls Tryd.prog 5 #[.slice A rs.length c, .slice B ms.length d] w fun e w' => RefSays rs ms w e w' := by
  by_cases h : 5 < ms.length
  · exact refCrt_full A B rs ms c d w h
  · by_cases h2 : rs.length = ms.length
    · rw [h2]; exact refCrt_len A B rs ms c d w (by omega) h2 ha hb
    · exact refCrt_shape A B rs ms c d w (by omega) h2

end Go.Proofs.YteiblaajkakmdaaDoor
