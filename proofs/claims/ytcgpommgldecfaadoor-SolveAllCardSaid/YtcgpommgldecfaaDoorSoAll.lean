/- The law SolveAll. -/
import Derived.Test.YtcgpommgldecfaaDoorSoSays
import Derived.Test.YtcgpommgldecfaaDoorSoR1
import Derived.Test.YtcgpommgldecfaaDoorOwnR
import Derived.Deep.RegionLaw
namespace Go.Proofs.YtcgpommgldecfaaDoor
open Go.ChangeShapes Go.WideShapes Go.ChangeAt Go.RowKit
set_option linter.unusedVariables false

set_option maxRecDepth 100000 in
set_option maxHeartbeats 6400000 in
theorem all_ok (A : Option Addr) (a : List (List Int)) (c : Nat) (T : Option Addr) (ys : Nat → Fp.F) (dt r q : Nat) (f : Nat → Nat → Fp.F) (w : World) (hl : Told.Laid w) (ha : LiesM w A a) (ht : Lies w T (rowF r ys)) (sa : Sh r q f a) (hq : q ≠ 5) :
    Calls Tryd.prog 4 #[.slice A r c, .slice T r dt] w fun e w' => e = .returned (.bool true) ∧ Kp w w' := by
  have HA := Lib.hid ha
  have HT := Lib.hid ht
  have HLD := Lib.hid hl
  have FA := Lib.hid (solveFact_any w)
  have AL := Lib.hid (fun (w' : World) (h : Lies w' T (rowF r ys)) => show Calls Tryd.prog 10 #[.slice T r dt, .int .i64 0, .int .i64 9972] w' fun e w'' => e = .returned (.bool true) ∧ w' = w'' from by
    have h1 := all_any T (rowF r ys) dt 0 9972 w' h (by rw [Mx.len_row]; have := sa.r5; omega)
    rw [Mx.len_row] at h1
    exact h1.mono fun e w'' h2 => ⟨tells_yes h2.1 (rowF_in r ys), h2.2⟩)
  have SA := Lib.hid sa
  have r0 := sa.r0
  have r5 := sa.r5
  have q0 := sa.c0
  have q5 := sa.c5
  clear sa ha ht hl
  go_enter Tryd.func4, Tryd.ntmps4
  go_wp2_with fail
  refine (FA.out).mono ?_; rintro e w1 ⟨rfl, k1⟩
  have K1 := Lib.hid k1; clear k1
  go_wp2_with fail
  refine (Rank_sh SA.out c w1 (HA.out.keep K1.out)).mono ?_; rintro e w2 ⟨b, g, st, rfl, k2⟩
  obtain ⟨p, hp⟩ : ∃ p, p = b.length := ⟨_, rfl⟩
  rw [← hp]
  have hpr : p ≤ r := by rw [hp]; exact st.le
  have ST := Lib.hid st; have K2 := Lib.hid (K1.out.trans k2); have HP := Lib.hid hp
  clear st k2 hp
  have hrow := HA.out.keep K2.out
  rw [SA.out.eq] at hrow
  obtain ⟨ad, A0, d0, rfl, _, x1, _, _⟩ := hrow.row r0
  rw [add_zero'] at x1
  have X1 := Lib.hid x1
  have e1 : ((r : Int) != (r : Int)) = false := by simp
  have e2 : ((q : Int) == 5) = false := by rw [beq_eq_false_iff_ne]; omega
  clear hrow
  go_wp2_with fail
  refine (AL.out w2 (HT.out.keep K2.out)).mono ?_; rintro e w3 ⟨rfl, rfl⟩
  go_wp2_with fail
  clear x1
  refine (One_sh SA.out c dt w2 (HA.out.keep K2.out) (HT.out.keep K2.out)).mono ?_
  rintro e w3 ⟨b2, g2, st2, hcase⟩
  obtain ⟨vx, ve, rfl, hk3⟩ : ∃ vx ve, e = .returned (.tuple #[vx, ve]) ∧ Kp w2 w3 := by
    rcases hcase with ⟨x, X, dx, _, h1, _, h2⟩ | ⟨_, h1, h2⟩
    · exact ⟨_, _, h1, h2⟩
    · exact ⟨_, _, h1, h2⟩
  obtain ⟨rfl, _⟩ := ST.out.one st2
  have HCASE := Lib.hid hcase
  have X3 := Lib.hid ((hk3.cell (p := ad) (cell_lt X1.out)).trans X1.out)
  have K3 := Lib.hid (K2.out.trans hk3)
  clear st2 hcase hk3
  go_wp2_with fail
  go_loopw [9, 10] (fun v i wr => ∃ (k : Nat) (G C : Nat → Nat), k ≤ r ∧ i = .int .i64 (k : Int) ∧ OwnM wr w3.heap.size v G C (Mx.matl k (q + 1) (Mx.aug q f ys)) ∧ Kp w3 wr) (fun _ i _ => r - (intOf i).toNat)
  case atStart => exact ⟨0, fun _ => 0, fun _ => 0, Nat.zero_le _, rfl, ownM_none _ _ _ _, Kp.rfl' _⟩
  case round =>
    obtain ⟨k, G, C, hk, rfl, ho, hkp⟩ := hrel
    have HO := Lib.hid ho
    have HK := Lib.hid hkp
    obtain ⟨wo, hwo⟩ : ∃ x, x = wr := ⟨_, rfl⟩
    subst hwo
    by_cases hlt : k < r
    · have hm := HA.out.keep (K3.out.trans hkp)
      rw [SA.out.eq] at hm
      have FL := Lib.hid (rFlip_any (some ad) f r q c wo hm r0 (by omega) (by omega))
      clear ho hkp hm
      go_wp2_with fail
      refine (FL.out).mono ?_; rintro e w4 ⟨A4, d4, rfl, l4, k4⟩
      have K4 := Lib.hid k4
      have FL2 := Lib.hid (rFlip_own A4 (Mx.flip f) q r d4 w4 l4 q0 (by omega) (by omega))
      clear l4 k4
      go_wp2_with fail
      refine (FL2.out).mono ?_; rintro e w5 ⟨v5, G5, C5, rfl, o5, k5⟩
      obtain ⟨g5, cap5, rfl, hg5⟩ := o5.some (by rw [Mx.len_matl]; exact r0)
      rw [Mx.len_matl] at o5 ⊢
      have hrk := o5.row k (by rw [Mx.len_matl]; exact hlt)
      have y1 := o5.head (i := k) (by rw [Mx.len_matl]; exact hlt)
      have hgk := (o5.lt (i := k) (by rw [Mx.len_matl]; exact hlt)).1
      rw [matl_row _ hlt] at hrk y1
      rw [Mx.len_row] at hrk y1
      have K5 := Lib.hid (K4.out.trans k5)
      have HR5 := Lib.hid (show Own w5 w3.heap.size (.slice (some ⟨G5 k, 0, none⟩) q (C5 k)) (rowF q (f k)) from hrk.from (Nat.le_trans HK.out.size K4.out.size))
      have OM := Lib.hid (HO.out.kp K5.out)
      have HAP := Lib.hid (show ∀ i, i < (Mx.matl k (q + 1) (Mx.aug q f ys)).length → G i ≠ G5 k from fun i hi => by have := (HO.out.lt hi).2; have := K4.out.size; omega)
      have KK5 := Lib.hid (HK.out.trans K5.out)
      have L5 := Lib.hid (HT.out.keep (K3.out.trans KK5.out))
      clear o5 k5 hrk hgk hg5
      go_wp2_with (at_builtin; refine wpList_pushM rfl _ _ rfl w3.heap.size _ G C (Mx.matl k (q + 1) (Mx.aug q f ys)) _ (G5 k) q (C5 k) _ 1 (Mx.len_row _ _) rfl rfl (OM.out.new _) (cell_made _ _ _ _ 0 rfl) (HR5.out.new _) HAP.out (by rw [Mx.len_matl]; omega) (Nat.le_trans KK5.out.size ((Kp.rfl' _).new _).size) ?_; intro v' w6 G' C' ho' hk')
      obtain ⟨g6, cap6, rfl, hg6⟩ := ho'.some (by simp)
      have e6 : (Mx.matl k (q + 1) (Mx.aug q f ys) ++ [rowF q (f k)]).length = k + 1 := by rw [List.length_append, Mx.len_matl]; rfl
      obtain ⟨n6, hn6⟩ : ∃ n6, n6 = k + 1 := ⟨_, rfl⟩
      rw [e6, ← hn6] at ho' ⊢
      have hlt6 : k < n6 := by omega
      have hrow6 := ho'.row k (by rw [e6]; omega)
      have y2 := ho'.head (i := k) (by rw [e6]; omega)
      have e7 : (Mx.matl k (q + 1) (Mx.aug q f ys) ++ [rowF q (f k)]).getD k [] = rowF q (f k) := by
        have := Mx.len_matl k (q + 1) (Mx.aug q f ys)
        simp [this]
      rw [e7, Mx.len_row] at hrow6 y2
      have K6 := Lib.hid (hk' w3 (Nat.le_refl _) (KK5.out.new _))
      obtain ⟨td, rfl, _, y3⟩ := (HT.out.keep (K3.out.trans K6.out)).el hlt
      have HSR := Lib.hid (show rowF q (f k) ++ [((ys k).val : Int)] = rowF (q + 1) (Mx.aug q f ys k) from by
        rw [show rowF (q + 1) (Mx.aug q f ys k) = rowF q (Mx.aug q f ys k) ++ [((Mx.aug q f ys k q).val : Int)] from Mx.row_snoc _ _, show Mx.aug q f ys k q = ys k from if_pos rfl]
        congr 1
        exact Mx.row_ext fun j hj => by rw [show Mx.aug q f ys k j = f k j from if_neg (by omega)])
      have HS := Lib.hid (show Mx.matl (k + 1) (q + 1) (Mx.aug q f ys) = Mx.matl k (q + 1) (Mx.aug q f ys) ++ [rowF (q + 1) (Mx.aug q f ys k)] by rw [Mx.matl, Mx.tab_snoc]; rfl)
      obtain ⟨yv, hyv⟩ : ∃ yv, yv = ((ys k).val : Int) := ⟨_, rfl⟩
      rw [← hyv] at HSR y3
      have hlen : (rowF q (f k)).length + 1 ≤ 17000000000000 := by rw [Mx.len_row]; omega
      have HO6 := Lib.hid (show OwnM w6 w3.heap.size (.slice (some ⟨g6, 0, none⟩) n6 cap6) G' C' (Mx.matl k (q + 1) (Mx.aug q f ys) ++ [rowF q (f k)]) from ho')
      have HR6 := Lib.hid hrow6
      have HG6 := Lib.hid hg6
      have Y2 := Lib.hid y2
      have HM := Lib.hid (Mx.len_matl k (q + 1) (Mx.aug q f ys))
      have GROW := Lib.hid (fun (w7 : World) (x d7 : Nat) (hgr : (w6.drew.alloc (.cells #[.int .i64 yv] 3)).grownBy w7 (some (G' k))) (h1 : Own w7 w3.heap.size (.slice (some ⟨x, 0, none⟩) (q + 1) d7) (rowF (q + 1) (Mx.aug q f ys k))) (hx : x = G' k ∨ x = (w6.drew.alloc (.cells #[.int .i64 yv] 3)).heap.size) =>
        show w7.cell? ⟨g6, k, none⟩ = some (.slice (some ⟨G' k, 0, none⟩) q (C' k)) ∧ w7.frozen? ⟨g6, k, none⟩ = false ∧ (∃ G8 C8, OwnM (w7.setCell ⟨g6, k, none⟩ (.slice (some ⟨x, 0, none⟩) (q + 1) d7)) w3.heap.size (.slice (some ⟨g6, 0, none⟩) n6 cap6) G8 C8 (Mx.matl (k + 1) (q + 1) (Mx.aug q f ys))) ∧ Kp w3 (w7.setCell ⟨g6, k, none⟩ (.slice (some ⟨x, 0, none⟩) (q + 1) d7)) from by
          have h := ownM_regrow ((HO6.out.drewN 1).new (.cells #[.int .i64 yv] 3)) (Mx.len_row (q + 1) fun j => ((Mx.aug q f ys k j).val : Int)) (by rw [HM.out]; exact hgr) h1 (by rw [HM.out]; exact hx)
          rw [HM.out] at h
          rw [HS.out]
          refine ⟨?_, h.1, ⟨_, _, h.2⟩, ?_⟩
          · exact World.grownBy.cell hgr (((((Kp.rfl' w6).drewN 1).new _).cell (p := ⟨g6, k, none⟩) (cell_lt Y2.out)).trans Y2.out) (show some g6 ≠ some (G' k) from fun e => top_ne HO6.out.top HR6.out e.symm)
          have hb : Kp w3 w7 := own_below ((HR6.out.drewN 1).new (.cells #[.int .i64 yv] 3)) ((K6.out.drewN 1).new _) (Nat.le_trans K6.out.size ((Kp.rfl' w6).new _).size) hgr
          exact hb.put (p := ⟨g6, k, none⟩) HG6.out _)
      have y4 : (w6.alloc (.cells #[.int .i64 yv] 3)).cell? ⟨g6, k, none⟩ = some (.slice (some ⟨G' k, 0, none⟩) q (C' k)) := (((Kp.rfl' w6).new _).cell (p := ⟨g6, k, none⟩) (cell_lt y2)).trans y2
      clear ho' hk' hrow6 hg6 e6 e7 hn6 hyv y1
      go_wp2_with fail
      go_region_law (refine step_push (by rfl) _ _ (by rfl) w3.heap.size _ (rowF q (f k)) yv _ 1 (by rfl) (by rfl) ((HR6.out.drewN 1).new _) (by simp; done) hlen (Nat.le_trans K6.out.size ((Kp.rfl' w6).new _).size) ?_; intro v7 w7 h1 g7 hat; rw [HSR.out] at h1; obtain ⟨x7, d7, rfl, _, _⟩ := own_some h1 (by rw [Mx.len_row]; omega); rw [Mx.len_row] at h1 hat ⊢; obtain ⟨cz, fz, o8, k8⟩ := (GROW.out w7 x7 d7 g7 h1 (by rcases hat with h | h; (· exact .inl (Option.some.inj h)); (· exact .inr (Option.some.inj h)))); have O8 := Lib.hid o8; have K8 := Lib.hid k8; clear o8 k8 h1 g7 hat)
      all_goals
        go_wp2_with fail
        go_roundw
        case rel =>
          obtain ⟨G8, C8, h8⟩ := O8.out
          exact ⟨k + 1, G8, C8, by omega, by go_num, h8, K8.out⟩
        case measure => simp [intOf]; omega
    · obtain rfl : k = r := by omega
      obtain ⟨A5, d5, rfl, hl5, _⟩ := ho.lies
      rw [Mx.len_matl]
      have SM : Sh k (q + 1) (Mx.aug q f ys) (Mx.matl k (q + 1) (Mx.aug q f ys)) := ⟨rfl, by omega, by omega, by omega, by omega⟩
      have RK := Lib.hid (Rank_sh SM d5 wo hl5)
      clear ho hkp hl5 SM
      go_wp2_with fail
      refine (RK.out).mono ?_; rintro e w4 ⟨b4, g4, st4, rfl, k4⟩
      have HR := Lib.hid (Mx.aug_rank ST.out st4)
      obtain ⟨p4, hp4⟩ : ∃ p4, p4 = b4.length := ⟨_, rfl⟩
      rw [← hp4, ← HP.out] at HR
      rw [← hp4]
      have K34 := Lib.hid (HK.out.trans k4)
      have K4 := Lib.hid (K3.out.trans (HK.out.trans k4))
      clear st4 k4 hp4
      rcases HCASE.out with ⟨x, X, dx, hans, h1, lx, _⟩ | ⟨hno, h1, _⟩
      · obtain ⟨rfl, rfl⟩ : vx = .slice X q dx ∧ ve = .nilIface := by simpa using h1
        have hpp : p4 = p := HR.out.1 ⟨x, hans.sol⟩
        subst hpp
        have AN := Lib.hid hans
        have x1 := ((K34.out).cell (p := ad) (cell_lt X3.out)).trans X3.out
        have LX := Lib.hid (lx.keep K34.out)
        have e3 : ((q : Int) == (q : Int)) = true := by simp
        have e4 : ((p4 : Int) == (p4 : Int)) = true := by simp
        have hm := HA.out.keep K4.out
        rw [SA.out.eq] at hm
        have TO := Lib.hid (rTo_any (some ad) X f x k q c dx w4 hm LX.out (by omega) (by omega))
        clear lx hans h1 hm
        go_wp2_with fail
        refine (TO.out).mono ?_; rintro e w6 ⟨Z, dz, rfl, lz, k6⟩
        have hk6 := K4.out.trans k6
        go_wp2_with fail
        refine (same_eq Z T (rowF k (Mx.tov q f x)) (rowF k ys) k k dz dt w6 lz (HT.out.keep hk6) (Mx.len_row _ _).symm (Mx.len_row _ _).symm (by omega) (Mx.row_ext fun i hi => by rw [AN.out.sol i hi])).mono ?_; rintro e w7 ⟨rfl, k7⟩
        have K7 := Lib.hid (hk6.trans k7)
        clear k7 hk6 lz k6
        go_wp2_with fail
        go_ret
        exact ⟨rfl, K7.out⟩
      · obtain ⟨rfl, rfl⟩ : vx = .slice none 0 0 ∧ ve = .iface 51 (.int .i64 5) := by simpa using h1
        have hpp : p4 = p + 1 := HR.out.2 hno
        have e4 : ((p4 : Int) == (p : Int) + 1) = true := by simp [hpp]
        have hw : IntKind.i64.wrap ((p : Int) + 1) = (p : Int) + 1 := IntWalk.i64_in _ (by omega)
        have E5 := Lib.hid (error_says 5 w4 (laid_kp HLD.out K4.out) (by decide))
        rw [errOf_ne 5 (by decide)] at E5
        clear hno h1 hpp
        go_wp2_with fail
        refine (E5.out).mono ?_; rintro e w7 ⟨rfl, k7⟩
        have K7 := Lib.hid (K4.out.trans k7)
        clear k7
        go_wp2_with fail
        go_ret
        exact ⟨by simp, K7.out⟩

set_option maxRecDepth 100000 in
set_option maxHeartbeats 6400000 in
/-- Another length, a number that is none of the field, or five columns. -/
theorem all_odd (A : Option Addr) (a : List (List Int)) (c : Nat) (T : Option Addr) (l : List Int) (dt r q n : Nat) (f : Nat → Nat → Fp.F) (w : World) (ha : LiesM w A a) (ht : Lies w T l) (hn : n = l.length) (sa : Sh r q f a) (h : n = r → AllIn l 0 9972 → q = 5) :
    Calls Tryd.prog 4 #[.slice A r c, .slice T n dt] w fun e w' => e = .returned (.bool true) ∧ Kp w w' := by
  have HA := Lib.hid ha
  have HT := Lib.hid ht
  have FA := Lib.hid (solveFact_any w)
  have SA := Lib.hid sa
  have r0 := sa.r0
  have r5 := sa.r5
  have ALC := Lib.hid (fun (w' : World) (h : Lies w' T l) (hq2 : n ≤ 1000) => show Calls Tryd.prog 10 #[.slice T n dt, .int .i64 0, .int .i64 9972] w' fun e w'' => Tells (AllIn l 0 9972) e ∧ w' = w'' from by
    have h1 := all_any T l dt 0 9972 w' h (by omega)
    rw [← hn] at h1
    exact h1)
  have HH := Lib.hid h
  clear sa ha ht hn h
  go_enter Tryd.func4, Tryd.ntmps4
  go_wp2_with fail
  refine (FA.out).mono ?_; rintro e w1 ⟨rfl, k1⟩
  have K1 := Lib.hid k1; clear k1
  go_wp2_with fail
  refine (Rank_sh SA.out c w1 (HA.out.keep K1.out)).mono ?_; rintro e w2 ⟨b, g, st, rfl, k2⟩
  generalize b.length = p at *
  have K2 := Lib.hid (K1.out.trans k2)
  clear k2 st
  by_cases hnr : n = r
  · subst hnr
    have H2 := Lib.hid (HH.out rfl)
    have e1 : ((n : Int) != (n : Int)) = false := by simp
    have hrow := HA.out.keep K2.out
    rw [SA.out.eq] at hrow
    obtain ⟨ad, A0, d0, rfl, _, x1, _, _⟩ := hrow.row r0
    rw [add_zero'] at x1
    have AC := Lib.hid (ALC.out w2 (HT.out.keep K2.out) (by omega))
    clear hrow
    go_wp2_with fail
    refine (AC.out).mono ?_; rintro e w3 ⟨(⟨hin, rfl⟩ | ⟨hin, rfl⟩), rfl⟩
    · have e2 : ((q : Int) == 5) = true := by rw [H2.out hin]; rfl
      clear hin
      go_wp2_with fail
      go_ret
      exact ⟨rfl, K2.out⟩
    · clear hin
      go_wp2_with fail
      go_ret
      exact ⟨rfl, K2.out⟩
  · have e1 : ((n : Int) != (r : Int)) = true := by rw [bne_iff_ne]; omega
    clear hnr
    go_wp2_with fail
    go_ret
    exact ⟨rfl, K2.out⟩

set_option maxRecDepth 100000 in
set_option maxHeartbeats 6400000 in
theorem all_bad (A : Option Addr) (a : List (List Int)) (c : Nat) (T : Option Addr) (dt r n : Nat) (w : World) (ha : LiesM w A a) (bad : ∀ (w : World), LiesM w A a → Calls Tryd.prog 15 #[.slice A r c] w fun e w' => ∃ z : Nat, e = .returned (.tuple #[.int .i64 0, .iface 51 (.int .i64 (z : Int))]) ∧ Kp w w') :
    Calls Tryd.prog 4 #[.slice A r c, .slice T n dt] w fun e w' => e = .returned (.bool true) ∧ Kp w w' := by
  have HA := Lib.hid ha
  have FA := Lib.hid (solveFact_any w)
  have BD := Lib.hid bad
  clear bad ha
  go_enter Tryd.func4, Tryd.ntmps4
  go_wp2_with fail
  refine (FA.out).mono ?_; rintro e w1 ⟨rfl, k1⟩
  have K1 := Lib.hid k1; clear k1
  go_wp2_with fail
  refine (BD.out w1 (HA.out.keep K1.out)).mono ?_; rintro e w2 ⟨z, rfl, k2⟩
  have K2 := Lib.hid (K1.out.trans k2); clear k2
  go_wp2_with fail
  go_ret
  exact ⟨rfl, K2.out⟩

theorem walk_SolveAll (A : Option Addr) (a : List (List Int)) (c : Nat) (T : Option Addr) (l : List Int) (dt : Nat) (w : World) (hl : Told.Laid w) (ha : LiesM w A a) (ht : Lies w T l) :
    Calls Tryd.prog 4 #[.slice A a.length c, .slice T l.length dt] w fun e w' => e = .returned (.bool true) ∧ Kp w w' := by
  rcases Rank_or A a _ c rfl with ⟨r, q, f, sa⟩ | bad
  · rw [sa.len]
    by_cases h : (l.length = r ∧ AllIn l 0 9972) ∧ q ≠ 5
    · obtain ⟨ys, hys⟩ := row_of h.1.2
      rw [h.1.1] at hys ⊢
      rw [hys] at ht
      exact all_ok A a c T ys dt r q f w hl ha ht sa h.2
    · exact all_odd A a c T l dt r q _ f w ha ht rfl sa fun h1 h2 => Classical.byContradiction fun h3 => h ⟨⟨h1, h2⟩, h3⟩
  · exact all_bad A a c T dt _ _ w ha bad
end Go.Proofs.YtcgpommgldecfaaDoor
