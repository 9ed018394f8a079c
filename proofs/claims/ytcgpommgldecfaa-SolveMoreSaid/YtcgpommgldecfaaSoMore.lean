/- The law SolveMore. -/
import Derived.Test.YtcgpommgldecfaaSoLaw
namespace Go.Proofs.Ytcgpommgldecfaa
open Go.ChangeShapes Go.WideShapes Go.ChangeAt Go.RowKit
set_option linter.unusedVariables false

set_option maxRecDepth 100000 in
set_option maxHeartbeats 6400000 in
theorem more_ok (A : Option Addr) (a : List (List Int)) (c : Nat) (X : Option Addr) (t : Nat → Fp.F) (d n q : Nat) (f : Nat → Nat → Fp.F) (w : World) (ha : LiesM w A a) (hx : Lies w X (rowF q t)) (sa : Sh n q f a) :
    Calls Try.prog 4 #[.slice A n c, .slice X q d] w fun e w' => e = .returned (.bool true) ∧ Kp w w' := by
  have HA := Lib.hid ha
  have HX := Lib.hid hx
  have FA := Lib.hid (solveFact_any w)
  have AL := Lib.hid (fun (w' : World) (h : Lies w' X (rowF q t)) => show Calls Try.prog 10 #[.slice X q d, .int .i64 0, .int .i64 9972] w' fun e w'' => e = .returned (.bool true) ∧ w' = w'' from by
    have h1 := all_any X (rowF q t) d 0 9972 w' h (by rw [Mx.len_row]; have := sa.c5; omega)
    rw [Mx.len_row] at h1
    exact h1.mono fun e w'' h2 => ⟨tells_yes h2.1 (rowF_in q t), h2.2⟩)
  have SA := Lib.hid sa
  have n0 := sa.r0
  have n5 := sa.r5
  have q0 := sa.c0
  have q5 := sa.c5
  clear sa ha hx
  go_enter Try.func4, Try.ntmps4
  go_wp2_with fail
  refine (FA.out).mono ?_; rintro e w1 ⟨rfl, k1⟩
  have K1 := Lib.hid k1; clear k1
  go_wp2_with fail
  refine (Null_sh SA.out c w1 (HA.out.keep K1.out)).mono ?_; rintro e w2 ⟨b, g, A1, d1, st, rfl, l1, k2⟩
  obtain ⟨n1, hn1⟩ : ∃ n1, n1 = (Mx.fr b q).length := ⟨_, rfl⟩
  rw [← hn1] at l1 ⊢
  have ST := Lib.hid st; have K2 := Lib.hid (K1.out.trans k2); have L1 := Lib.hid l1
  have HN1 := Lib.hid hn1
  have hn1q : n1 ≤ q := by rw [hn1]; exact Mx.fr_le b q
  clear st k2 l1 hn1
  have hrow := HA.out.keep K2.out
  rw [SA.out.eq] at hrow
  obtain ⟨ad, A0, d0, rfl, _, x1, _, _⟩ := hrow.row n0
  rw [add_zero'] at x1
  have X1 := Lib.hid x1
  have e0 : ((n : Int) == 0) = false := by rw [beq_eq_false_iff_ne]; omega
  have e1 : ((q : Int) != (q : Int)) = false := by simp
  clear hrow
  go_wp2_with fail
  refine (AL.out w2 (HX.out.keep K2.out)).mono ?_; rintro e w3 ⟨rfl, rfl⟩
  clear x1
  go_wp2_with fail
  have hm := HA.out.keep K2.out
  rw [SA.out.eq] at hm
  refine (rTo_any (some ad) X f t n q c d w2 hm (HX.out.keep K2.out) (by omega) (by omega)).mono ?_; rintro e w4 ⟨T, dt, rfl, lt, k4⟩
  have K4 := Lib.hid (K2.out.trans k4); have L4 := Lib.hid (L1.out.keep k4)
  have LT := Lib.hid lt
  clear hm k4 lt
  go_wp2_with fail
  refine (One_sh SA.out c dt w4 (HA.out.keep K4.out) LT.out).mono ?_
  rintro e w5 ⟨b2, g2, st2, (⟨y, Y, dy, hans, rfl, ly, k5⟩ | ⟨hno, _, _⟩)⟩
  · obtain ⟨rfl, _⟩ := ST.out.one st2
    have HANS := Lib.hid hans
    have K5 := Lib.hid (K4.out.trans k5); have L5 := Lib.hid (L4.out.keep k5); have LY := Lib.hid ly
    clear st2 hans k5 ly
    go_wp2_with fail
    refine (Steps_sh SA.out c w5 (HA.out.keep K5.out)).mono ?_; rintro e w6 ⟨b3, g3, A3, d3, A4, d4, st3, rfl, _, lc, k6⟩
    obtain ⟨rfl, _⟩ := ST.out.one st3
    obtain ⟨p, hp⟩ : ∃ p, p = b.length := ⟨_, rfl⟩
    rw [← hp]
    have hpq : p ≤ n := by rw [hp]; exact ST.out.le
    have K6 := Lib.hid (K5.out.trans k6); have L6 := Lib.hid (L5.out.keep k6); have LY6 := Lib.hid (LY.out.keep k6); have LX6 := Lib.hid (HX.out.keep (K5.out.trans k6))
    have LC := Lib.hid lc
    have HP := Lib.hid hp
    clear st3 k6 lc hp
    have HAS := Lib.hid (fun (w' : World) (k : Nat) (h : Kp w6 w') => show Calls Try.prog 13 #[.slice A4 p d4, .int .i64 (k : Int)] w' fun e w'' => ((k ∈ b ∧ e = .returned (.bool true)) ∨ (k ∉ b ∧ e = .returned (.bool false))) ∧ w' = w'' from by
      refine (refHas_any A4 (cols b) p d4 (k : Int) w' (LC.out.keep h) (by rw [len_cols, HP.out]; exact Nat.le_refl _) (by omega)).mono fun e w'' h2 => ⟨?_, h2.2⟩
      have h3 := h2.1
      unfold Tells at h3
      rw [HP.out, occurs_cols] at h3
      exact h3)
    go_wp2_with fail
    go_loopw [13, 14, 15] (fun kv sv cv wr => ∃ k : Nat, k ≤ q ∧ cv = .int .i64 (k : Int) ∧ kv = .int .i64 ((Mx.fr b k).length : Int) ∧ (∃ S ds, sv = .slice S q ds ∧ Lies wr S (rowF q (Mx.tot b g t y k))) ∧ Kp w6 wr) (fun _ _ i _ => q - (intOf i).toNat)
    case atStart => exact ⟨0, Nat.zero_le _, rfl, rfl, ⟨Y, dy, rfl, LY6.out⟩, Kp.rfl' _⟩
    case round =>
      obtain ⟨k, hk, rfl, rfl, ⟨S, ds, rfl, ls⟩, hkp⟩ := hrel
      have HK := Lib.hid hkp
      have LS := Lib.hid ls
      obtain ⟨w7, hw7⟩ : ∃ x, x = wr := ⟨_, rfl⟩
      subst hw7
      by_cases hlt : k < q
      · clear ls hkp
        go_wp2_with fail
        refine (HAS.out w7 k HK.out).mono ?_; rintro e w8 ⟨(⟨hb, rfl⟩ | ⟨hb, rfl⟩), rfl⟩
        · have FR := Lib.hid (Mx.fr_yes hb)
          have TT := Lib.hid (show Mx.tot b g t y (k + 1) = Mx.tot b g t y k from if_pos hb)
          clear hb
          go_wp2_with fail
          go_roundw
          case rel => exact ⟨k + 1, by omega, by go_num, by rw [FR.out], ⟨S, ds, rfl, by rw [TT.out]; exact LS.out⟩, HK.out⟩
          case measure => simp [intOf]; omega
        · obtain ⟨hu1, hu2⟩ := Mx.fr_next hlt hb
          rw [← HN1.out] at hu1
          have FR := Lib.hid (show (Mx.fr b (k + 1)).length = (Mx.fr b k).length + 1 by rw [Mx.fr_no hb]; simp)
          have TT := Lib.hid (show ∀ j, Mx.tot b g t y (k + 1) j = Mx.tot b g t y k j + t k * Mx.nv b g k b.length j from fun j => congrFun (if_neg hb) j)
          obtain ⟨u, hu⟩ : ∃ u, u = (Mx.fr b k).length := ⟨_, rfl⟩
          rw [← hu] at hu1 hu2 FR
          rw [← hu]
          have l7 := L6.out.keep HK.out
          obtain ⟨ld, A8, d8, rfl, _, y1, _, l8⟩ := l7.row hu1
          obtain ⟨xd, rfl, _, y2⟩ := (LX6.out.keep HK.out).el hlt
          have l9 : Lies w7 A8 (rowF q (Mx.nv b g k b.length)) := by
            have e : Mx.nm b g q u = Mx.nv b g k b.length := by unfold Mx.nm; rw [hu2]
            rw [← e]; exact l8
          have L9 := Lib.hid l9
          have Y1 := Lib.hid y1
          have Y2 := Lib.hid y2
          have HU := Lib.hid hu
          have hge : decide (n1 ≤ u) = false := by simp; omega
          clear hb l7 l8 l9 y2 hu2 hu
          go_wp2_with fail
          clear y1
          go_loopw [16, 17] (fun v i wz => ∃ j : Nat, j ≤ q ∧ i = .int .i64 (j : Int) ∧ Own wz w7.heap.size v (rowF j (Mx.tot b g t y (k + 1))) ∧ Kp w7 wz) (fun _ i _ => q - (intOf i).toNat)
          case atStart => exact ⟨0, Nat.zero_le _, rfl, Own.none _ _, Kp.rfl' _⟩
          case round =>
            obtain ⟨j, hj, rfl, hown, hkp⟩ := hrel
            have HO := Lib.hid hown
            have HQ := Lib.hid hkp
            have hsz := hkp.size
            clear hown hkp
            by_cases hlt3 : j < q
            · obtain ⟨sd, rfl, _, z1⟩ := LS.out.el hlt3
              obtain ⟨rd, rfl, _, z2⟩ := L9.out.el hlt3
              have y1 := Y1.out
              have y2 := Y2.out
              have N1 := Lib.hid (own_far HO.out (p := sd.add j) (cell_lt z1))
              have N2 := Lib.hid (own_far HO.out (p := rd.add j) (cell_lt z2))
              have N3 := Lib.hid (own_far HO.out (p := ld.add u) (cell_lt y1))
              have N4 := Lib.hid (own_far HO.out (p := xd.add k) (cell_lt y2))
              have c1 := (HQ.out.cell (cell_lt z1)).trans z1
              have c2 := (HQ.out.cell (cell_lt z2)).trans z2
              have c3 := (HQ.out.cell (cell_lt y1)).trans y1
              have c4 := (HQ.out.cell (cell_lt y2)).trans y2
              have HROW := Lib.hid (show rowF (j + 1) (Mx.tot b g t y (k + 1)) = rowF j (Mx.tot b g t y (k + 1)) ++ [((Mx.tot b g t y k j + t k * Mx.nv b g k b.length j).val : Int)] by
                rw [← TT.out]; exact Mx.row_snoc j _)
              have b1 := gval (Mx.tot b g t y k j)
              have b2 := times_bound (t k) (Mx.nv b g k b.length j)
              have MD := Lib.hid (fun w => rMod_any (((Mx.tot b g t y k j).val : Int) + ((t k).val : Int) * ((Mx.nv b g k b.length j).val : Int)) w (by omega) (by omega))
              rw [Mx.val_more] at MD
              have hlen : (rowF j (Mx.tot b g t y (k + 1))).length + 1 ≤ 17000000000000 := by rw [Mx.len_row]; omega
              generalize ((Mx.tot b g t y k j + t k * Mx.nv b g k b.length j).val : Int) = z at *
              generalize ((Mx.tot b g t y k j).val : Int) = s0 at *
              generalize ((t k).val : Int) = t0 at *
              generalize ((Mx.nv b g k b.length j).val : Int) = v0 at *
              have hw0 : IntKind.i64.wrap (t0 * v0) = t0 * v0 := IntWalk.i64_in _ (by omega)
              have hw1 : IntKind.i64.wrap (s0 + t0 * v0) = s0 + t0 * v0 := IntWalk.i64_in _ (by omega)
              clear b1 b2 z1 z2 y1 y2
              go_wp2_with fail
              go_region_held3 (fun w' => w'.cell? (sd.add j) = some (.int .i64 s0) ∧ w'.cell? (rd.add j) = some (.int .i64 v0) ∧ w'.cell? (ld.add u) = some (.slice (some rd) q d8) ∧ w'.cell? (xd.add k) = some (.int .i64 t0))
                (first
                | go_keep
                | (refine ⟨World.grownBy.cell g6 ?_ N1.out, World.grownBy.cell g6 ?_ N2.out, World.grownBy.cell g6 ?_ N3.out, World.grownBy.cell g6 ?_ N4.out⟩ <;> go_keep))
                ((first
                | (refine step_push (by rfl) _ _ (by rfl) w7.heap.size _ (rowF j (Mx.tot b g t y (k + 1))) z _ 1 (by rfl) (by rfl) ?_ ?_ hlen ?_ ?_; (· exact ((HO.out.drewN 1).new _)); (· simp; done); (· simp; omega); intro v' w' h1 g6 _)
                | (go_at_call 14; refine (MD.out _).mono ?_; rintro e w' ⟨rfl, rfl⟩)))
              all_goals
                have HO' := Lib.hid (show Own w' w7.heap.size v' (rowF (j + 1) (Mx.tot b g t y (k + 1))) by rw [HROW.out]; exact h1)
                have HK' := Lib.hid (own_below ((HO.out.drewN 1).new _) ((HQ.out.drewN 1).new _) (Nat.le_trans hsz (by simp)) g6)
                clear h1 g6
                go_wp2_with fail
                go_roundw
                case rel => exact ⟨j + 1, by omega, by go_num, HO'.out, HK'.out⟩
                case measure => simp [intOf]; omega
            · obtain rfl : j = q := by omega
              obtain ⟨As, cs, rfl, hl, _⟩ := HO.out.cap
              rw [Mx.len_row]
              have LZ := Lib.hid hl
              have HZ := Lib.hid (HK.out.trans HQ.out)
              clear hl
              go_wp2_with fail
              go_roundw
              case rel => exact ⟨k + 1, by omega, by go_num, by rw [FR.out]; go_num, ⟨As, cs, rfl, LZ.out⟩, HZ.out⟩
              case measure => simp [intOf]; omega
      · obtain rfl : k = q := by omega
        have K8 := Lib.hid (K6.out.trans hkp)
        have LX8 := Lib.hid (LX6.out.keep hkp)
        clear ls hkp
        go_wp2_with fail
        refine (same_eq S X (rowF k (Mx.tot b g t y k)) (rowF k t) k k ds d w7 LS.out LX8.out (Mx.len_row _ _).symm (Mx.len_row _ _).symm (by omega) (Mx.row_ext fun j hj => by rw [Mx.tot_all ST.out HANS.out j hj])).mono ?_
        rintro e w8 ⟨rfl, k8⟩
        have K9 := Lib.hid (K8.out.trans k8)
        clear k8
        go_wp2_with fail
        go_ret
        exact ⟨rfl, K9.out⟩
  · exact (hno ⟨t, fun i _ => rfl⟩).elim

set_option maxRecDepth 100000 in
set_option maxHeartbeats 6400000 in
/-- A row of another length, or one with a number that is none of the field. -/
theorem more_odd (A : Option Addr) (a : List (List Int)) (c : Nat) (X : Option Addr) (x : List Int) (d n q l : Nat) (f : Nat → Nat → Fp.F) (w : World) (ha : LiesM w A a) (hx : Lies w X x) (hl : l = x.length) (sa : Sh n q f a) (h : l = q → ¬ AllIn x 0 9972) :
    Calls Try.prog 4 #[.slice A n c, .slice X l d] w fun e w' => e = .returned (.bool true) ∧ Kp w w' := by
  have HA := Lib.hid ha
  have HX := Lib.hid hx
  have FA := Lib.hid (solveFact_any w)
  have SA := Lib.hid sa
  have n0 := sa.r0
  have n5 := sa.r5
  have q0 := sa.c0
  have q5 := sa.c5
  have AL := Lib.hid (fun (w' : World) (h1 : Lies w' X x) (hq : l = q) => show Calls Try.prog 10 #[.slice X l d, .int .i64 0, .int .i64 9972] w' fun e w'' => e = .returned (.bool false) ∧ w' = w'' from by
    have h2 := all_any X x d 0 9972 w' h1 (by omega)
    rw [← hl] at h2
    exact h2.mono fun e w'' h3 => ⟨tells_no h3.1 (h hq), h3.2⟩)
  clear sa ha hx hl h
  go_enter Try.func4, Try.ntmps4
  go_wp2_with fail
  refine (FA.out).mono ?_; rintro e w1 ⟨rfl, k1⟩
  have K1 := Lib.hid k1; clear k1
  go_wp2_with fail
  refine (Null_sh SA.out c w1 (HA.out.keep K1.out)).mono ?_; rintro e w2 ⟨b, g, A1, d1, _, rfl, l1, k2⟩
  generalize (Mx.fr b q).length = n1 at *
  have K2 := Lib.hid (K1.out.trans k2)
  clear k2 l1
  have hrow := HA.out.keep K2.out
  rw [SA.out.eq] at hrow
  obtain ⟨ad, A0, d0, rfl, _, x1, _, _⟩ := hrow.row n0
  rw [add_zero'] at x1
  have e0 : ((n : Int) == 0) = false := by rw [beq_eq_false_iff_ne]; omega
  clear hrow
  by_cases hlq : l = q
  · have AL2 := Lib.hid (fun (w' : World) (h1 : Lies w' X x) => AL.out w' h1 hlq)
    subst hlq
    have e1 : ((l : Int) != (l : Int)) = false := by simp
    go_wp2_with fail
    refine (AL2.out w2 (HX.out.keep K2.out)).mono ?_; rintro e w3 ⟨rfl, rfl⟩
    go_wp2_with fail
    go_ret
    exact ⟨rfl, K2.out⟩
  · have e1 : ((l : Int) != (q : Int)) = true := by simp; omega
    go_wp2_with fail
    go_ret
    exact ⟨rfl, K2.out⟩

set_option maxRecDepth 100000 in
set_option maxHeartbeats 6400000 in
theorem more_bad (A : Option Addr) (a : List (List Int)) (c : Nat) (X : Option Addr) (n l d : Nat) (w : World) (ha : LiesM w A a) (hn : a.length = n) (bad : ∀ (w : World), LiesM w A a → Calls Try.prog 6 #[.slice A n c] w fun e w' => ∃ z : Nat, e = .returned (.tuple #[.slice none 0 0, .iface 54 (.int .i64 (z : Int))]) ∧ Kp w w') :
    Calls Try.prog 4 #[.slice A n c, .slice X l d] w fun e w' => e = .returned (.bool true) ∧ Kp w w' := by
  have HA := Lib.hid ha
  have FA := Lib.hid (solveFact_any w)
  have BD := Lib.hid bad
  clear bad hn ha
  go_enter Try.func4, Try.ntmps4
  go_wp2_with fail
  refine (FA.out).mono ?_; rintro e w1 ⟨rfl, k1⟩
  have K1 := Lib.hid k1; clear k1
  go_wp2_with fail
  refine (BD.out w1 (HA.out.keep K1.out)).mono ?_; rintro e w2 ⟨z, rfl, k2⟩
  have K2 := Lib.hid (K1.out.trans k2); clear k2
  go_wp2_with fail
  go_ret
  exact ⟨rfl, K2.out⟩

theorem walk_SolveMore (A : Option Addr) (a : List (List Int)) (c : Nat) (X : Option Addr) (x : List Int) (d : Nat) (w : World) (ha : LiesM w A a) (hx : Lies w X x) :
    Calls Try.prog 4 #[.slice A a.length c, .slice X x.length d] w fun e w' => e = .returned (.bool true) ∧ Kp w w' := by
  rcases Null_or A a _ c rfl with ⟨r, q, f, sa⟩ | bad
  · rw [sa.len]
    by_cases h : x.length = q ∧ AllIn x 0 9972
    · obtain ⟨t, ht⟩ := row_of h.2
      rw [h.1] at ht ⊢
      rw [ht] at hx
      exact more_ok A a c X t d r q f w ha hx sa
    · exact more_odd A a c X x d r q _ f w ha hx rfl sa fun h1 h2 => h ⟨h1, h2⟩
  · exact more_bad A a c X _ _ d w ha rfl bad
end Go.Proofs.Ytcgpommgldecfaa
