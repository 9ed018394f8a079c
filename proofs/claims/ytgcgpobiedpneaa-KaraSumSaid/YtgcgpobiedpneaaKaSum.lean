/- The law KaraSum. -/
import Derived.Test.YtgcgpobiedpneaaKaC3
import Derived.Deep.RegionHeld3
import Derived.WalkSpells
namespace Go.Proofs.Ytgcgpobiedpneaa
open Go.ChangeShapes Go.WideShapes Go.ChangeAt Go.RowKit
set_option linter.unusedVariables false

set_option maxRecDepth 100000 in
set_option maxHeartbeats 1600000 in
theorem ksum_bad (A B C : Option Addr) (l m o : List Int) (ca cb cc : Nat) (w : World) (ha : Lies w A l) (hb : Lies w B m) (hc : Lies w C o) (lc : l.length ≤ ca) (le : o.length ≤ cc) (h : kcode l m ≠ 0) :
    Calls Try.prog 4 #[.slice A l.length ca, .slice B m.length cb, .slice C o.length cc] w fun e w' => e = .returned (.bool true) ∧ Kp w w' := by
  have T1 := Lib.hid (fun (w' : World) (k : Kp w w') => kmul_bad A B l m ca cb w' (ha.keep k) (hb.keep k) h)
  have T2 := Lib.hid (fun (w' : World) (k : Kp w w') => kmul_some A C l o ca cc w' (ha.keep k) (hc.keep k) lc le)
  unfold MulFails at T1
  unfold MulSome at T2
  have e := errOf_ne _ h
  rw [e] at T1
  clear e h ha hb hc lc le
  generalize kcode l m = x at *
  generalize kcode l o = y at *
  generalize l.length = n1 at *
  generalize m.length = n2 at *
  generalize o.length = n3 at *
  go_enter Try.func4, Try.ntmps4
  go_wp2_with fail
  refine (kFact_any _).mono ?_; rintro e w1 ⟨rfl, hk⟩
  have K1 := Lib.hid hk
  clear hk
  go_wp2_with fail
  refine (T1.out _ K1.out).mono ?_; rintro e w2 ⟨rfl, hk⟩
  have K2 := Lib.hid (K1.out.trans hk)
  clear hk
  go_wp2_with fail
  refine (T2.out _ K2.out).mono ?_; rintro e w3 ⟨v, i, rfl, hk⟩
  have K3 := Lib.hid (K2.out.trans hk)
  clear hk
  generalize errOf y = ey at *
  go_wp2_with fail
  go_ret
  exact ⟨rfl, K3.out⟩

set_option maxRecDepth 100000 in
set_option maxHeartbeats 1600000 in
theorem ksum_bad2 (A B C : Option Addr) (l m o : List Int) (ca cb cc : Nat) (w : World) (ha : Lies w A l) (hb : Lies w B m) (hc : Lies w C o) (lc : l.length ≤ ca) (ld : m.length ≤ cb) (h0 : kcode l m = 0) (h : kcode l o ≠ 0) :
    Calls Try.prog 4 #[.slice A l.length ca, .slice B m.length cb, .slice C o.length cc] w fun e w' => e = .returned (.bool true) ∧ Kp w w' := by
  have T1 := Lib.hid (fun (w' : World) (k : Kp w w') => kmul_some A B l m ca cb w' (ha.keep k) (hb.keep k) lc ld)
  have T2 := Lib.hid (fun (w' : World) (k : Kp w w') => kmul_bad A C l o ca cc w' (ha.keep k) (hc.keep k) h)
  unfold MulFails at T2
  unfold MulSome at T1
  have e := errOf_ne _ h
  rw [e] at T2
  rw [h0, errOf_zero] at T1
  clear e h ha hb hc lc ld h0
  generalize kcode l o = y at *
  generalize l.length = n1 at *
  generalize m.length = n2 at *
  generalize o.length = n3 at *
  go_enter Try.func4, Try.ntmps4
  go_wp2_with fail
  refine (kFact_any _).mono ?_; rintro e w1 ⟨rfl, hk⟩
  have K1 := Lib.hid hk
  clear hk
  go_wp2_with fail
  refine (T1.out _ K1.out).mono ?_; rintro e w2 ⟨v, i, rfl, hk⟩
  have K2 := Lib.hid (K1.out.trans hk)
  clear hk
  go_wp2_with fail
  refine (T2.out _ K2.out).mono ?_; rintro e w3 ⟨rfl, hk⟩
  have K3 := Lib.hid (K2.out.trans hk)
  clear hk
  go_wp2_with fail
  go_ret
  exact ⟨rfl, K3.out⟩

theorem plus_row {n : Nat} (m o : List Int) : Ka.row n (fun k => Ka.at' m k + Ka.at' o k) = Ka.plus n m o := rfl

set_option maxRecDepth 100000 in
set_option maxHeartbeats 3200000 in
theorem ksum_ok (A B C : Option Addr) (l m o : List Int) (n N ca cb cc : Nat) (w : World) (ha : Lies w A l) (hb : Lies w B m) (hc : Lies w C o) (hl : l.length = n) (hm : m.length = n) (ho : o.length = n) (hP : Pow n) (hN : N + 1 = 2 * n) (lc : n ≤ ca) (ld : n ≤ cb) (le : n ≤ cc)
    (bl : AllIn l (-1000) 1000) (bm : AllIn m (-1000) 1000) (bo : AllIn o (-1000) 1000) :
    Calls Try.prog 4 #[.slice A n ca, .slice B n cb, .slice C n cc] w fun e w' => e = .returned (.bool true) ∧ Kp w w' := by
  have M1 := Lib.hid (fun (w' : World) (k : Kp w w') => kmul_ok A B l m n N ca cb w' (ha.keep k) (hb.keep k) hl hm hP hN lc ld bl bm)
  have M2 := Lib.hid (fun (w' : World) (k : Kp w w') => kmul_ok A C l o n N ca cc w' (ha.keep k) (hc.keep k) hl ho hP hN lc le bl bo)
  have hn := pow_le hP
  have LPL : (Ka.plus n m o).length = n := Ka.len_plus _ _ _
  have MS := Lib.hid (fun (w' : World) (k : Kp w w') (As : Option Addr) (cs : Nat) (hs : Lies w' As (Ka.plus n m o)) (hcs : n ≤ cs) (bs : AllIn (Ka.plus n m o) (-1000) 1000) => kmul_ok A As l (Ka.plus n m o) n N ca cs w' (ha.keep k) hs hl LPL hP hN lc hcs bl bs)
  have MF := Lib.hid (fun (w' : World) (k : Kp w w') (As : Option Addr) (cs : Nat) (hs : Lies w' As (Ka.plus n m o)) (bs : ¬ AllIn (Ka.plus n m o) (-1000) 1000) => show Calls Try.prog 6 #[.slice A n ca, .slice As n cs] w' fun e w'' => MulFails 1 w' e w'' from by
    have c1 := kcode_range (l := l) (m := Ka.plus n m o) (by rw [hl]; exact hP) (by rw [hl, LPL]) (fun e => bs e.2)
    have h := kmul_bad A As l (Ka.plus n m o) ca cs w' (ha.keep k) hs (by rw [c1]; decide)
    rw [c1, hl, LPL] at h
    exact h)
  have AL := Lib.hid (fun (w' : World) (As : Option Addr) (cs : Nat) (hs : Lies w' As (Ka.plus n m o)) => show Calls Try.prog 9 #[.slice As n cs, .int .i64 (-1000), .int .i64 1000] w' fun e w'' => Tells (AllIn (Ka.plus n m o) (-1000) 1000) e ∧ w' = w'' from by
    have h := all_any As (Ka.plus n m o) cs (-1000) 1000 w' hs (by rw [LPL]; omega)
    rw [LPL] at h
    exact h)
  have b1 := allIn_bd bl
  have b2 := allIn_bd bm
  have b3 := allIn_bd bo
  have PB1 := Lib.hid (Ka.prod_bound hl hm b1 b2 (by omega) (by decide))
  have PB2 := Lib.hid (Ka.prod_bound hl ho b1 b3 (by omega) (by decide))
  have LP1 := Lib.hid (show (Ka.prod n l m).length = N by rw [Ka.len_prod]; omega)
  have LP2 := Lib.hid (show (Ka.prod n l o).length = N by rw [Ka.len_prod]; omega)
  have LP3 := Lib.hid (show (Ka.prod n l (Ka.plus n m o)).length = N by rw [Ka.len_prod]; omega)
  have SX := Lib.hid (fun (w' : World) (X : Option Addr) (cx : Nat) (hx : Lies w' X (Ka.prod n l m)) => ssum_any X (Ka.prod n l m) N cx w' hx LP1.out (by omega) (fun k => by have := PB1.out k; omega))
  have SA := Lib.hid (fun (w' : World) (k : Kp w w') => ssum_any A l n ca w' (ha.keep k) hl (by omega) (fun k => by have := b1 k; omega))
  have SB := Lib.hid (fun (w' : World) (k : Kp w w') => ssum_any B m n cb w' (hb.keep k) hm (by omega) (fun k => by have := b2 k; omega))
  have EQ : Ka.sm N (Ka.at' (Ka.prod n l m)) = Ka.sm n (Ka.at' l) * Ka.sm n (Ka.at' m) := by
    rw [show N = 2 * n - 1 by omega, ← Ka.sm_prod (fun i hi => Ka.at_out (by omega)) (fun i hi => Ka.at_out (by omega))]
    exact Ka.sm_congr fun i _ => Ka.at_prod hl hm i
  have BA := Ka.sm_bound (n := n) (f := Ka.at' l) (M := 1000) (fun i _ => b1 i)
  have BB := Ka.sm_bound (n := n) (f := Ka.at' m) (M := 1000) (fun i _ => b2 i)
  have EZ := Lib.hid (fun (k : Nat) (hk : k < N) => Ka.prod_plus (n := n) (l := l) (m := m) (o := o) hm ho k (by omega))
  have HM := Lib.hid hm
  have HO := Lib.hid ho
  have HB := Lib.hid hb
  have HC := Lib.hid hc
  have B2 := Lib.hid b2
  have B3 := Lib.hid b3
  clear ha hb hc hl hm ho hP lc ld le bl bm bo b1 b2 b3 LPL
  have n16 : n ≤ 16 := hn.2
  have n1 := hn.1
  clear hn
  have hNb : N ≤ 31 := by omega
  have HNN := Lib.hid hN
  clear hN
  obtain ⟨sa, hsa⟩ : ∃ x, x = Ka.sm n (Ka.at' l) := ⟨_, rfl⟩
  obtain ⟨sb, hsb⟩ : ∃ x, x = Ka.sm n (Ka.at' m) := ⟨_, rfl⟩
  obtain ⟨sx, hsx⟩ : ∃ x, x = Ka.sm N (Ka.at' (Ka.prod n l m)) := ⟨_, rfl⟩
  rw [← hsa] at BA SA EQ
  rw [← hsb] at BB SB EQ
  rw [← hsx] at SX EQ
  have hq : ((sx : Int) != sa * sb) = false := by rw [EQ]; simp
  have hw : IntKind.i64.wrap (sa * sb) = sa * sb := IntWalk.i64_in _ (by
    have := Ka.mul_bounds (M := 16000) (x := sa) (y := sb) (by omega) (by omega)
    omega)
  clear hsa hsb hsx EQ BA BB
  generalize Ka.prod n l m = P1 at *
  generalize Ka.prod n l o = P2 at *
  generalize Ka.prod n l (Ka.plus n m o) = P3 at *
  generalize kcnt n = kc at *
  go_enter Try.func4, Try.ntmps4
  go_wp2_with fail
  refine (kFact_any _).mono ?_; rintro e w1 ⟨rfl, hk⟩
  have K1 := Lib.hid hk
  clear hk
  go_wp2_with fail
  refine (M1.out _ K1.out).mono ?_; rintro e w2 ⟨Ax, cx, rfl, _, l1, hk⟩
  have L1 := Lib.hid l1
  have T2 := Lib.hid (K1.out.trans hk)
  clear hk l1
  go_wp2_with fail
  refine (M2.out _ T2.out).mono ?_; rintro e w3 ⟨Ay, cy, rfl, _, l2, hk⟩
  have L2 := Lib.hid l2
  have L1 := Lib.hid (L1.out.keep hk)
  have T3 := Lib.hid (T2.out.trans hk)
  clear hk l2
  go_wp2_with fail
  go_loopw [14, 15] (fun v i wr => ∃ k : Nat, k ≤ n ∧ i = .int .i64 (k : Int) ∧ Own wr w3.heap.size v (Ka.row k (fun i => Ka.at' m i + Ka.at' o i)) ∧ Kp w3 wr) (fun _ i _ => n - (intOf i).toNat)
  case atStart => exact ⟨0, Nat.zero_le _, rfl, Own.none _ _, Kp.rfl' _⟩
  case round =>
    obtain ⟨k, hk, rfl, hown, hkp⟩ := hrel
    have HW := Lib.hid hown
    have HK := Lib.hid hkp
    have hsz := hkp.size
    clear hown hkp
    by_cases hlt : k < n
    · obtain ⟨bd, rfl, _, yc⟩ := (HB.out.keep (T3.out.trans HK.out)) k (by rw [HM.out]; exact hlt)
      obtain ⟨cd, rfl, _, zc⟩ := (HC.out.keep (T3.out.trans HK.out)) k (by rw [HO.out]; exact hlt)
      have NB := Lib.hid (own_far HW.out (p := bd.add k) (by obtain ⟨x, e, hx, _⟩ := HB.out k (by rw [HM.out]; exact hlt); cases e; rw [block_add]; exact Nat.lt_of_lt_of_le hx T3.out.size))
      have NC := Lib.hid (own_far HW.out (p := cd.add k) (by obtain ⟨x, e, hx, _⟩ := HC.out k (by rw [HO.out]; exact hlt); cases e; rw [block_add]; exact Nat.lt_of_lt_of_le hx T3.out.size))
      have HROW := Lib.hid (show Ka.row (k + 1) (fun i => Ka.at' m i + Ka.at' o i) = Ka.row k (fun i => Ka.at' m i + Ka.at' o i) ++ [Ka.at' m k + Ka.at' o k] from Ka.row_snoc _ _)
      have y1 := B2.out k
      have z1 := B3.out k
      have hlen : (Ka.row k (fun i => Ka.at' m i + Ka.at' o i)).length + 1 ≤ 17000000000000 := by rw [Ka.len_row]; omega
      change World.cell? _ _ = some (.int .i64 (Ka.at' m k)) at yc
      change World.cell? _ _ = some (.int .i64 (Ka.at' o k)) at zc
      generalize Ka.at' m k = yv at *
      generalize Ka.at' o k = zv at *
      have hw1 : IntKind.i64.wrap (yv + zv) = yv + zv := IntWalk.i64_in _ (by omega)
      clear y1 z1
      go_wp2_with fail
      go_region_held3 (fun w' => w'.cell? (bd.add k) = some (.int .i64 yv) ∧ w'.cell? (cd.add k) = some (.int .i64 zv))
        (first
        | go_keep
        | (refine ⟨World.grownBy.cell g6 ?_ NB.out, World.grownBy.cell g6 ?_ NC.out⟩ <;> go_keep))
        ((first
        | (refine step_push (by rfl) _ _ (by rfl) w3.heap.size _ (Ka.row k (fun i => Ka.at' m i + Ka.at' o i)) (yv + zv) _ 1 (by rfl) (by rfl) ?_ ?_ hlen ?_ ?_; (· exact ((HW.out.drewN 1).new _)); (· simp; done); (· simp; omega); intro v' w' h1 g6 _)))
      have HW' := Lib.hid (show Own w' w3.heap.size v' (Ka.row (k + 1) (fun i => Ka.at' m i + Ka.at' o i)) by rw [HROW.out]; exact h1)
      have HK' := Lib.hid (own_below ((HW.out.drewN 1).new _) ((HK.out.drewN 1).new _) (Nat.le_trans hsz (by simp)) g6)
      clear h1 g6
      go_wp2_with fail
      go_roundw
      case rel => exact ⟨k + 1, by omega, by go_num, HW'.out, HK'.out⟩
      case measure => simp [intOf]; omega
    · obtain rfl : k = n := by omega
      rw [plus_row] at HW
      obtain ⟨As, cs, rfl, hls, hcs⟩ := HW.out.cap
      rw [Ka.len_plus] at hcs ⊢
      have LS := Lib.hid hls
      have LX := Lib.hid (L1.out.keep HK.out)
      have LY := Lib.hid (L2.out.keep HK.out)
      have T4 := Lib.hid (T3.out.trans HK.out)
      have HCS := Lib.hid hcs
      clear hls hcs L1 L2
      go_wp2_with fail
      refine (SX.out _ _ _ LX.out).mono ?_; rintro e w' ⟨rfl, rfl⟩
      go_wp2_with fail
      refine (SA.out _ T4.out).mono ?_; rintro e w' ⟨rfl, rfl⟩
      go_wp2_with fail
      refine (SB.out _ T4.out).mono ?_; rintro e w' ⟨rfl, rfl⟩
      go_wp2_with fail
      by_cases hall : AllIn (Ka.plus k m o) (-1000) 1000
      · refine (MS.out _ T4.out As cs LS.out HCS.out hall).mono ?_
        rintro e w5 ⟨Az, cz, rfl, _, l3, hk⟩
        have LZ := Lib.hid l3
        have LX := Lib.hid (LX.out.keep hk)
        have LY := Lib.hid (LY.out.keep hk)
        have T5 := Lib.hid (T4.out.trans hk)
        clear hk l3 hall
        have hNN : ((N : Int) != (N : Int)) = false := by simp
        go_wp2_with fail
        go_loopw [19] (fun i wr => ∃ j : Nat, j ≤ N ∧ i = .int .i64 (j : Int) ∧ Kp w5 wr) (fun i _ => N - (intOf i).toNat)
        case atStart => exact ⟨0, Nat.zero_le _, rfl, Kp.rfl' _⟩
        case round =>
          obtain ⟨j, hj, rfl, hkp⟩ := hrel
          have HK5 := Lib.hid hkp
          clear hkp
          by_cases hlt2 : j < N
          · obtain ⟨xd, rfl, _, xc⟩ := (LX.out.keep HK5.out) j (by rw [LP1.out]; exact hlt2)
            obtain ⟨yd, rfl, _, yc⟩ := (LY.out.keep HK5.out) j (by rw [LP2.out]; exact hlt2)
            obtain ⟨zd, rfl, _, zc⟩ := (LZ.out.keep HK5.out) j (by rw [LP3.out]; exact hlt2)
            have ez := EZ.out j hlt2
            have p1 := PB1.out j
            have p2 := PB2.out j
            change World.cell? _ _ = some (.int .i64 (Ka.at' P1 j)) at xc
            change World.cell? _ _ = some (.int .i64 (Ka.at' P2 j)) at yc
            change World.cell? _ _ = some (.int .i64 (Ka.at' P3 j)) at zc
            rw [ez] at zc
            generalize Ka.at' P1 j = xv at *
            generalize Ka.at' P2 j = yv at *
            have hw2 : IntKind.i64.wrap (xv + yv) = xv + yv := IntWalk.i64_in _ (by omega)
            have hne : ((xv + yv : Int) != xv + yv) = false := by simp
            clear p1 p2 ez
            go_wp2_with fail
            go_quiet (fail)
            go_wp2_with fail
            go_roundw
            case rel => exact ⟨j + 1, by omega, by go_num, HK5.out.drewN _⟩
            case measure => simp [intOf]; omega
          · obtain rfl : j = N := by omega
            go_wp2_with fail
            go_ret
            exact ⟨rfl, T5.out.trans HK5.out⟩
      · refine (MF.out _ T4.out As cs LS.out hall).mono ?_
        rintro e w5 ⟨rfl, hk⟩
        rw [show errOf 1 = .iface 36 (.int .i64 1) from rfl]
        have LS := Lib.hid (LS.out.keep hk)
        have T5 := Lib.hid (T4.out.trans hk)
        have NA := Lib.hid hall
        clear hk hall
        go_wp2_with fail
        refine (AL.out _ As cs LS.out).mono ?_; rintro e w' ⟨ht, rfl⟩
        obtain rfl : e = .returned (.bool false) := by
          rcases ht with ⟨h, _⟩ | ⟨_, h⟩
          · exact absurd h NA.out
          · exact h
        go_wp2_with fail
        go_ret
        exact ⟨rfl, T5.out⟩

theorem walk_KaraSum (A : Option Addr) (l : List Int) (ca : Nat) (B : Option Addr) (m : List Int) (cb : Nat) (C : Option Addr) (o : List Int) (cc : Nat) (w : World) (ha : Lies w A l) (lc : l.length ≤ ca) (hb : Lies w B m) (ld : m.length ≤ cb) (hc : Lies w C o) (le : o.length ≤ cc) :
    Calls Try.prog 4 #[.slice A l.length ca, .slice B m.length cb, .slice C o.length cc] w fun e w' => e = .returned (.bool true) ∧ Kp w w' := by
  by_cases h : kcode l m = 0
  · by_cases h' : kcode l o = 0
    · obtain ⟨h1, h2, h3, h4⟩ := kcode_zero h
      obtain ⟨_, h5, _, h6⟩ := kcode_zero h'
      have := pow_le h1
      rw [h2, h5]
      exact ksum_ok A B C l m o l.length (2 * l.length - 1) ca cb cc w ha hb hc rfl h2 h5 h1 (by omega) lc (by omega) (by omega) h3 h4 h6
    · exact ksum_bad2 A B C l m o ca cb cc w ha hb hc lc ld h h'
  · exact ksum_bad A B C l m o ca cb cc w ha hb hc lc le h

end Go.Proofs.Ytgcgpobiedpneaa
