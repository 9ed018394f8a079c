/- The law RecurSum. -/
import Derived.Test.YtknpcdnlknlagaaRcFact
import Derived.Test.YtknpcdnlknlagaaMxRef
import Derived.Deep.RegionHeld3
import Derived.WalkSpells
import Derived.BigQuiet
namespace Go.Proofs.Ytknpcdnlknlagaa
open Go.ChangeShapes Go.WideShapes Go.ChangeAt Go.RowKit
set_option linter.unusedVariables false

theorem sq_plus {n : Nat} {f a b : Nat → Fp.F} (hn : 0 < n) (i : Nat) : Mx.sq n f (fun j => a j + b j) i = Mx.sq n f a i + Mx.sq n f b i :=
  ((Mx.sq_goes n f (fun j => a j + b j) hn).one ((Mx.sq_goes n f a hn).plus (Mx.sq_goes n f b hn)) (fun j hj => by rw [Mx.sq_start _ _ _ hj, Mx.sq_start _ _ _ hj, Mx.sq_start _ _ _ hj])) i
theorem sq_later {n : Nat} {f a : Nat → Fp.F} (hn : 0 < n) (i : Nat) : Mx.sq n f (fun j => Mx.sq n f a (j + 1)) i = Mx.sq n f a (i + 1) :=
  ((Mx.sq_goes n f (fun j => Mx.sq n f a (j + 1)) hn).one ((Mx.sq_goes n f a hn).later 1) (fun j hj => by rw [Mx.sq_start _ _ _ hj])) i
theorem rowF_snoc (k : Nat) (u : Nat → Fp.F) : rowF (k + 1) u = rowF k u ++ [((u k).val : Int)] := Mx.row_snoc _ _
theorem rowF_drop1 (N : Nat) (u : Nat → Fp.F) : (rowF N u).drop 1 = rowF (N - 1) fun i => u (i + 1) := by
  refine List.ext_getElem (by simp [rowF, Mx.row]) fun k h1 h2 => ?_
  simp [rowF, Mx.row]
theorem rowF_cut (N n : Nat) (u : Nat → Fp.F) (h : n + 1 ≤ N) : ((rowF N u).drop 1).take n = rowF n fun i => u (i + 1) := by
  rw [rowF_drop1]
  refine List.ext_getElem (by simp [rowF, Mx.row]; omega) fun k h1 h2 => ?_
  simp [rowF, Mx.row]

set_option maxRecDepth 100000 in
set_option maxHeartbeats 6400000 in
theorem sum_main (A : Option Addr) (L : List Int) (c : Nat) (B : Option Addr) (S : List Int) (d : Nat) (C : Option Addr) (T : List Int) (q : Nat) (n N : Nat) (f s t : Nat → Fp.F) (w : World) (ha : Lies w A L) (hb : Lies w B S) (hc : Lies w C T)
    (rc : Rc n f s L S) (rc' : Rc n f t L T) (hN : N ≤ 300) :
    Calls Try.prog 4 #[.slice A n c, .slice B n d, .slice C n q, .int .i64 (N : Int)] w fun e w' => e = .returned (.bool true) ∧ Kp w w' := by
  have FA := Lib.hid (recurFact_any w)
  have HA := Lib.hid ha
  have HB := Lib.hid hb
  have HC := Lib.hid hc
  have h0 := rc.pos
  have h5 := rc.le
  have RS := Lib.hid (fun w' (k : Kp w w') => Row_rc rc A B c d N w' (ha.keep k) (hb.keep k) (by omega))
  have RT := Lib.hid (fun w' (k : Kp w w') => Row_rc rc' A C c q N w' (ha.keep k) (hc.keep k) (by omega))
  have RZ := Lib.hid (fun w' (k : Kp w w') (Z : Option Addr) (e : Nat) (u : Nat → Fp.F) (M : Nat) (hM : M ≤ 300) (hz : Lies w' Z (rowF n u)) => Row_rc (Rc.mk rc.fac rfl h0 h5) A Z c e M w' (ha.keep k) hz (by omega))
  have SP := Lib.hid (fun i => sq_plus (f := f) (a := s) (b := t) h0 i)
  have SL := Lib.hid (fun i => sq_later (f := f) (a := s) h0 i)
  have BEG := Lib.hid rc.beg
  have BEG' := Lib.hid rc'.beg
  have n3 : ¬ (300 : Int) < (N : Int) := by omega
  clear ha hb hc rc rc'
  go_enter Try.func4, Try.ntmps4
  go_wp2_with fail
  refine (FA.out).mono ?_; rintro e w1 ⟨rfl, k1⟩
  have K1 := Lib.hid k1
  clear k1 FA
  go_wp2_with fail
  refine (RS.out _ K1.out).mono ?_; rintro e w2 ⟨gx, rfl, hx, _, k2⟩
  have HX := Lib.hid hx
  have K2 := Lib.hid (K1.out.trans k2)
  clear hx k2 RS
  go_wp2_with fail
  refine (RT.out _ K2.out).mono ?_; rintro e w3 ⟨gy, rfl, hy, _, k3⟩
  have HY := Lib.hid hy
  have HX3 := Lib.hid (HX.out.keep k3)
  have K3 := Lib.hid (K2.out.trans k3)
  clear hy k3 RT HX
  go_wp2_with fail
  go_loopw [14, 15] (fun v i wr => ∃ k : Nat, k ≤ n ∧ i = .int .i64 (k : Int) ∧ Own wr w3.heap.size v (rowF k fun i => s i + t i) ∧ Kp w3 wr) (fun _ i _ => n - (intOf i).toNat)
  case atStart => exact ⟨0, Nat.zero_le _, rfl, Own.none _ _, Kp.rfl' _⟩
  case round =>
    obtain ⟨k, hk, rfl, hown, hkp⟩ := hrel
    have HO := Lib.hid hown
    have HK := Lib.hid hkp
    have hsz := hkp.size
    clear hown hkp
    by_cases hlt : k < n
    · have lb := (HB.out.keep (K3.out.trans HK.out))
      have lc := (HC.out.keep (K3.out.trans HK.out))
      rw [BEG.out] at lb
      rw [BEG'.out] at lc
      obtain ⟨bd, eb, _, yc⟩ := lb.el hlt
      obtain ⟨cd, ec, _, zc⟩ := lc.el hlt
      have hb3 : bd.block < w3.heap.size := by
        have h := HB.out.keep K3.out
        rw [BEG.out] at h
        obtain ⟨x, e, hx, _⟩ := h.el hlt
        rw [eb] at e; cases e; exact hx
      have hc3 : cd.block < w3.heap.size := by
        have h := HC.out.keep K3.out
        rw [BEG'.out] at h
        obtain ⟨x, e, hx, _⟩ := h.el hlt
        rw [ec] at e; cases e; exact hx
      clear lb lc
      subst eb ec
      have NB := Lib.hid (own_far HO.out (p := bd.add k) (by rw [block_add]; exact hb3))
      have NC := Lib.hid (own_far HO.out (p := cd.add k) (by rw [block_add]; exact hc3))
      have HROW := Lib.hid (rowF_snoc k fun i => s i + t i)
      have y1 := rcval (s k)
      have z1 := rcval (t k)
      have MD := Lib.hid (fun w => rMod_any (((s k).val : Int) + ((t k).val : Int)) w (by omega) (by omega))
      rw [← Fp.add_val] at MD
      have hlen : (rowF k fun i => s i + t i).length + 1 ≤ 17000000000000 := by rw [Mx.len_row]; omega
      have hz : ∃ z, z = ((s k + t k : Fp.F).val : Int) := ⟨_, rfl⟩
      obtain ⟨z, hz⟩ := hz
      rw [← hz] at MD
      rw [← hz] at HROW
      generalize ((s k).val : Int) = yv at *
      generalize ((t k).val : Int) = zv at *
      have hw1 : IntKind.i64.wrap (yv + zv) = yv + zv := IntWalk.i64_in _ (by omega)
      clear y1 z1 hz hb3 hc3
      go_wp2_with fail
      go_region_held3 (fun w' => w'.cell? (bd.add k) = some (.int .i64 yv) ∧ w'.cell? (cd.add k) = some (.int .i64 zv))
        (first
        | go_keep
        | (refine ⟨World.grownBy.cell g6 ?_ NB.out, World.grownBy.cell g6 ?_ NC.out⟩ <;> go_keep))
        ((first
        | (refine step_push (by rfl) _ _ (by rfl) w3.heap.size _ (rowF k fun i => s i + t i) z _ 1 (by rfl) (by rfl) ?_ ?_ hlen ?_ ?_; (· exact ((HO.out.drewN 1).new _)); (· simp; done); (· simp; omega); intro v' w' h1 g6 _)
        | (go_at_call 12; refine (MD.out _).mono ?_; rintro e w' ⟨rfl, rfl⟩)))
      have HO' := Lib.hid (show Own w' w3.heap.size v' (rowF (k + 1) fun i => s i + t i) by rw [HROW.out]; exact h1)
      have HK' := Lib.hid (own_below ((HO.out.drewN 1).new _) ((HK.out.drewN 1).new _) (Nat.le_trans hsz (by simp)) g6)
      clear h1 g6
      go_wp2_with fail
      go_roundw
      case rel => exact ⟨k + 1, by omega, by go_num, HO'.out, HK'.out⟩
      case measure => simp [intOf]; omega
    · obtain rfl : k = n := by omega
      obtain ⟨Z, cz, hv, lz, _⟩ := HO.out.cap
      rw [Mx.len_row] at hv
      subst hv
      have LZ := Lib.hid lz
      have K4 := Lib.hid (K3.out.trans HK.out)
      have HX4 := Lib.hid (HX3.out.keep HK.out)
      have HY4 := Lib.hid (HY.out.keep HK.out)
      clear lz HO HK HX3 HY hsz
      obtain ⟨w4, hw4⟩ : ∃ x, x = wr := ⟨_, rfl⟩
      subst hw4
      go_wp2_with fail
      refine (RZ.out _ K4.out Z cz _ N hN LZ.out).mono ?_; rintro e w5 ⟨gz, rfl, hz, _, k5⟩
      have HZ := Lib.hid hz
      have HX5 := Lib.hid (HX4.out.keep k5)
      have HY5 := Lib.hid (HY4.out.keep k5)
      have K5 := Lib.hid (K4.out.trans k5)
      have e1 : ((N : Int) != (N : Int)) = false := by simp
      clear hz k5 HX4 HY4 K4 LZ
      go_wp2_with fail
      go_loopw [18] (fun i wr => ∃ j : Nat, j ≤ N ∧ i = .int .i64 (j : Int) ∧ Kp w5 wr) (fun i _ => N - (intOf i).toNat)
      case atStart => exact ⟨0, Nat.zero_le _, rfl, Kp.rfl' _⟩
      case round =>
        obtain ⟨j, hj, rfl, hkr⟩ := hrel
        have HKR := Lib.hid hkr
        by_cases hjt : j < N
        · have x1 := (HZ.out.keep hkr).cell j (by rw [Mx.len_row]; exact hjt)
          have x2 := (HX5.out.keep hkr).cell j (by rw [Mx.len_row]; exact hjt)
          have x3 := (HY5.out.keep hkr).cell j (by rw [Mx.len_row]; exact hjt)
          rw [Mx.row_at _ _ _ hjt] at x1 x2 x3
          rw [SP.out j] at x1
          have y1 := rcval (Mx.sq k f s j)
          have z1 := rcval (Mx.sq k f t j)
          have MD := Lib.hid (fun w => rMod_any (((Mx.sq k f s j).val : Int) + ((Mx.sq k f t j).val : Int)) w (by omega) (by omega))
          rw [← Fp.add_val] at MD
          generalize ((Mx.sq k f s j + Mx.sq k f t j : Fp.F).val : Int) = z at *
          generalize ((Mx.sq k f s j).val : Int) = yv at *
          generalize ((Mx.sq k f t j).val : Int) = zv at *
          have hw1 : IntKind.i64.wrap (yv + zv) = yv + zv := IntWalk.i64_in _ (by omega)
          have hzz : (z != z) = false := by simp
          clear y1 z1 hkr
          go_wp2_with fail
          go_quiet ((first
            | (with_reducible exact quiet_here (MD.out _))
            | (with_reducible exact quiet_more (MD.out _))))
          go_wp2_with fail
          go_roundw
          case rel => exact ⟨j + 1, by omega, by go_num, HKR.out.drewN _⟩
          case measure => simp [intOf]; omega
        · obtain rfl : j = N := by omega
          have K6 := Lib.hid (K5.out.trans hkr)
          have HX6 := Lib.hid (HX5.out.keep hkr)
          clear HX5 HY5 HZ K5 hkr HKR
          obtain ⟨w6, hw6⟩ : ∃ x, x = wr := ⟨_, rfl⟩
          subst hw6
          by_cases hsh : j < k + 1
          · have hs1 : (j : Int) < (k : Int) + 1 := by omega
            go_wp2_with fail
            go_ret
            exact ⟨rfl, K6.out⟩
          · have hs1 : ¬ (j : Int) < (k : Int) + 1 := by omega
            obtain ⟨j1, hj1⟩ : ∃ j1, j1 = j - 1 := ⟨_, rfl⟩
            have e2 : (j : Int) - 1 = (j1 : Int) := by omega
            have e3 : ¬ j = 1 := by omega
            have l1 := HX6.out.lies.drop 1
            have l2 := (HX6.out.lies.drop 1).take k
            rw [add_at] at l1 l2
            rw [rowF_cut _ _ _ (by omega)] at l2
            rw [rowF_drop1, ← hj1] at l1
            have hj3 : j1 ≤ 300 := by omega
            have HJ := Lib.hid hj1
            have HS := Lib.hid hsh
            have L1 := Lib.hid l1
            have L2 := Lib.hid l2
            have hk1 : (k : Int) + 1 ≤ (j : Int) := by omega
            clear l1 l2 hj1 hsh hs1
            go_wp2_with fail
            refine (RZ.out _ K6.out (some ⟨gx, 1, none⟩) _ _ j1 hj3 L2.out).mono ?_; rintro e w7 ⟨gw, rfl, hw', _, k7⟩
            have HW := Lib.hid hw'
            have HL := Lib.hid (L1.out.keep k7)
            have K7 := Lib.hid (K6.out.trans k7)
            clear hw' k7 L1 L2
            go_wp2_with fail
            refine (same_eq (some ⟨gw, 0, none⟩) (some ⟨gx, 1, none⟩) _ _ j1 _ j1 _ _ HW.out.lies HL.out (Mx.len_row _ _).symm (by rw [Mx.len_row]; have := HJ.out; omega) (by omega) (Mx.row_ext fun i _ => by rw [SL.out i])).mono ?_; rintro e w8 ⟨rfl, k8⟩
            have K8 := Lib.hid (K7.out.trans k8)
            clear k8
            go_wp2_with fail
            go_ret
            exact ⟨rfl, K8.out⟩

set_option maxRecDepth 100000 in
set_option maxHeartbeats 1600000 in
theorem sum_none (A : Option Addr) (L : List Int) (c : Nat) (B : Option Addr) (S : List Int) (d : Nat) (C : Option Addr) (T : List Int) (q : Nat) (m : Int) (w : World) (ha : Lies w A L) (hb : Lies w B S) (hc : Lies w C T)
    (bad : ∀ (A B : Option Addr) (c d : Nat) (w : World), Lies w A L → Lies w B S → Calls Try.prog 9 #[.slice A L.length c, .slice B S.length d, .int .i64 m] w fun e w' => NoRow w e w') :
    Calls Try.prog 4 #[.slice A L.length c, .slice B S.length d, .slice C T.length q, .int .i64 m] w fun e w' => e = .returned (.bool true) ∧ Kp w w' := by
  have FA := Lib.hid (recurFact_any w)
  have RS := Lib.hid (fun w' (k : Kp w w') => bad A B c d w' (ha.keep k) (hb.keep k))
  rcases Row_or L T m with ⟨n, f, s, N, rc, rfl, hN⟩ | bad2
  · have RT := Lib.hid (fun w' (k : Kp w w') => Row_rc rc A C c q N w' (ha.keep k) (hc.keep k) hN)
    rw [rc.fl] at RS ⊢
    rw [rc.sl]
    generalize S.length = n2 at *
    clear ha hb hc bad rc
    go_enter Try.func4, Try.ntmps4
    go_wp2_with fail
    refine (FA.out).mono ?_; rintro e w1 ⟨rfl, k1⟩
    have K1 := Lib.hid k1
    clear k1 FA
    go_wp2_with fail
    refine (RS.out _ K1.out).mono ?_; rintro e w2 ⟨z, rfl, k2⟩
    have K2 := Lib.hid (K1.out.trans k2)
    clear k2 RS
    go_wp2_with fail
    refine (RT.out _ K2.out).mono ?_; rintro e w3 ⟨gy, rfl, hy, _, k3⟩
    have K3 := Lib.hid (K2.out.trans k3)
    clear hy k3 RT
    go_wp2_with fail
    go_ret
    exact ⟨rfl, K3.out⟩
  · have RT := Lib.hid (fun w' (k : Kp w w') => bad2 A C c q w' (ha.keep k) (hc.keep k))
    generalize L.length = n1 at *
    generalize S.length = n2 at *
    generalize T.length = n3 at *
    clear ha hb hc bad bad2
    go_enter Try.func4, Try.ntmps4
    go_wp2_with fail
    refine (FA.out).mono ?_; rintro e w1 ⟨rfl, k1⟩
    have K1 := Lib.hid k1
    clear k1 FA
    go_wp2_with fail
    refine (RS.out _ K1.out).mono ?_; rintro e w2 ⟨z, rfl, k2⟩
    have K2 := Lib.hid (K1.out.trans k2)
    clear k2 RS
    go_wp2_with fail
    refine (RT.out _ K2.out).mono ?_; rintro e w3 ⟨z', rfl, k3⟩
    have K3 := Lib.hid (K2.out.trans k3)
    clear k3 RT
    go_wp2_with fail
    go_ret
    exact ⟨rfl, K3.out⟩

set_option maxRecDepth 100000 in
set_option maxHeartbeats 1600000 in
theorem walk_RecurSum (A : Option Addr) (L : List Int) (c : Nat) (B : Option Addr) (S : List Int) (d : Nat) (C : Option Addr) (T : List Int) (q : Nat) (m : Int) (w : World) (ha : Lies w A L) (hb : Lies w B S) (hc : Lies w C T) :
    Calls Try.prog 4 #[.slice A L.length c, .slice B S.length d, .slice C T.length q, .int .i64 m] w fun e w' => e = .returned (.bool true) ∧ Kp w w' := by
  rcases Row_or L S m with ⟨n, f, s, N, rc, rfl, hN⟩ | bad
  · rcases Row_or L T ((N : Nat) : Int) with ⟨n', f', t, N', rc', e, hN'⟩ | bad2
    · obtain rfl : n' = n := by have := rc.fl; have := rc'.fl; omega
      have rc2 : Rc n' f t L T := ⟨rc.fac, rc'.beg, rc.pos, rc.le⟩
      clear rc' e hN' N'
      rw [rc.fl, rc.sl, rc2.sl]
      by_cases h3 : N ≤ 300
      · exact sum_main A L c B S d C T q n' N f s t w ha hb hc rc rc2 h3
      · have FA := Lib.hid (recurFact_any w)
        have RS := Lib.hid (fun w' (k : Kp w w') => Row_rc rc A B c d N w' (ha.keep k) (hb.keep k) hN)
        have RT := Lib.hid (fun w' (k : Kp w w') => Row_rc rc2 A C c q N w' (ha.keep k) (hc.keep k) hN)
        have n3 : (300 : Int) < (N : Int) := by omega
        clear ha hb hc rc rc2 h3 hN
        go_enter Try.func4, Try.ntmps4
        go_wp2_with fail
        refine (FA.out).mono ?_; rintro e w1 ⟨rfl, k1⟩
        have K1 := Lib.hid k1
        clear k1 FA
        go_wp2_with fail
        refine (RS.out _ K1.out).mono ?_; rintro e w2 ⟨gx, rfl, hx, _, k2⟩
        have K2 := Lib.hid (K1.out.trans k2)
        clear hx k2 RS
        go_wp2_with fail
        refine (RT.out _ K2.out).mono ?_; rintro e w3 ⟨gy, rfl, hy, _, k3⟩
        have K3 := Lib.hid (K2.out.trans k3)
        clear hy k3 RT
        go_wp2_with fail
        go_ret
        exact ⟨rfl, K3.out⟩
    · have FA := Lib.hid (recurFact_any w)
      have RS := Lib.hid (fun w' (k : Kp w w') => Row_rc rc A B c d N w' (ha.keep k) (hb.keep k) hN)
      have RT := Lib.hid (fun w' (k : Kp w w') => bad2 A C c q w' (ha.keep k) (hc.keep k))
      rw [rc.fl] at RT ⊢
      rw [rc.sl]
      generalize T.length = n3 at *
      clear ha hb hc bad2 rc
      go_enter Try.func4, Try.ntmps4
      go_wp2_with fail
      refine (FA.out).mono ?_; rintro e w1 ⟨rfl, k1⟩
      have K1 := Lib.hid k1
      clear k1 FA
      go_wp2_with fail
      refine (RS.out _ K1.out).mono ?_; rintro e w2 ⟨gx, rfl, hx, _, k2⟩
      have K2 := Lib.hid (K1.out.trans k2)
      clear hx k2 RS
      go_wp2_with fail
      refine (RT.out _ K2.out).mono ?_; rintro e w3 ⟨z', rfl, k3⟩
      have K3 := Lib.hid (K2.out.trans k3)
      clear k3 RT
      go_wp2_with fail
      go_ret
      exact ⟨rfl, K3.out⟩
  · exact sum_none A L c B S d C T q m w ha hb hc bad

end Go.Proofs.Ytknpcdnlknlagaa
