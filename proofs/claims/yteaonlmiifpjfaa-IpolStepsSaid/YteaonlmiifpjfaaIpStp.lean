/- The law IpolSteps. -/
import Derived.Test.YteaonlmiifpjfaaIpSum
namespace Go.Proofs.Yteaonlmiifpjfaa
open Go.ChangeShapes Go.WideShapes Go.ChangeAt Go.RowKit
set_option linter.unusedVariables false

theorem vals_reverse (p : List Fp.F) : (Pol.vals p).reverse = Pol.vals p.reverse := by
  unfold Pol.vals; rw [List.map_reverse]
theorem co_reverse (p : List Fp.F) (n i : Nat) (hn : n = p.length) (hi : i < n) : Pol.co p.reverse i = Pol.co p (n - 1 - i) := by
  unfold Pol.co
  rw [List.getD_eq_getElem?_getD, List.getD_eq_getElem?_getD, List.getElem?_reverse (by omega), hn]
/-- What the last point adds does not hang on the order. -/
theorem last_turned (p q : List Fp.F) (n m : Nat) (hp : n = p.length) (hq : n = q.length) (ln : n ≤ 6) (hm : n = m + 1) (hX : Pol.Apart (Pol.co p) n) :
    Pol.Apart (Pol.co p.reverse) n ∧ Pol.co (stepRow p.reverse q.reverse) m = Pol.co (stepRow p q) m := by
  obtain ⟨h1, h2⟩ := Pol.thr_turned (Pol.co p) (Pol.co q) (Pol.co p.reverse) (Pol.co q.reverse) n (by omega) hX (fun i hi => co_reverse p n i hp hi) (fun i hi => co_reverse q n i hq hi)
  refine ⟨h1, ?_⟩
  rw [co_stepRow _ _ _ (by rw [List.length_reverse]; omega), co_stepRow _ _ _ (by omega)]
  subst hm
  rw [← Pol.co_thr (by omega) h1, ← Pol.co_thr (by omega) hX, h2]
theorem nought_turned (p : List Fp.F) (hp : 0 = p.length) : Pol.Apart (Pol.co p.reverse) 0 := fun i j _ h => absurd h (by omega)

theorem turned_vals (A : Option Addr) (p : List Fp.F) (n c : Nat) (w : World) (hl : Lies w A (Pol.vals p)) (hn : n = p.length) (ln : n ≤ 6) :
    Calls Try.prog 13 #[.slice A n c] w fun e w' => ∃ v, e = .returned v ∧ Own w' w.heap.size v (Pol.vals p.reverse) ∧ Kp w w' := by
  have h := turned_any A (Pol.vals p) c w hl (by rw [Pol.len_vals]; omega)
  rw [Pol.len_vals, ← hn, vals_reverse] at h
  exact h

theorem lies_one (w : World) (a : Fp.F) : Lies (w.alloc (.cells #[.int .i64 (a.val : Int)] 3)) (some ⟨w.heap.size, 0, none⟩) (Pol.vals [a]) := lies_new w _ [(a.val : Int)]

set_option maxRecDepth 100000 in
set_option maxHeartbeats 6400000 in
theorem stps_ok (A B : Option Addr) (p q : List Fp.F) (n ca cb : Nat) (w : World) (ha : Lies w A (Pol.vals p)) (hb : Lies w B (Pol.vals q)) (hp : n = p.length) (hq : n = q.length) (ln : n ≤ 6) (lc : n ≤ ca) (hX : Pol.Apart (Pol.co p) n) :
    Calls Try.prog 4 #[.slice A n ca, .slice B n cb] w fun e w' => e = .returned (.bool true) ∧ Kp w w' := by
  have HA := Lib.hid ha
  have HB := Lib.hid hb
  have HP := Lib.hid hp
  have HQ := Lib.hid hq
  have HX := Lib.hid hX
  have LC := Lib.hid lc
  have LA := Lib.hid (Pol.len_thr (Pol.co p) (Pol.co q) n (by omega))
  have HXR := Lib.hid (show Pol.Apart (Pol.co p.reverse) n from by
    rcases Nat.eq_zero_or_pos n with h0 | h0
    · rw [h0]; exact nought_turned p (by omega)
    · exact (last_turned p q n (n - 1) hp hq ln (by omega) hX).1)
  have LS := Lib.hid (show (stepRow p q).length = n by rw [len_stepRow, hp])
  have LSR := Lib.hid (show (stepRow p.reverse q.reverse).length = n by rw [len_stepRow, List.length_reverse, hp])
  clear ha hb hp hq hX lc
  go_enter Try.func4, Try.ntmps4
  go_wp2_with fail
  refine (ipFact_any _).mono ?_; rintro e w1 ⟨rfl, hk⟩
  have K1 := Lib.hid hk
  clear hk
  go_wp2_with fail
  refine (steps_ok A B p q n _ _ _ (HA.out.keep K1.out) (HB.out.keep K1.out) HP.out HQ.out ln LC.out HX.out).mono ?_
  rintro e w2 ⟨Al, nl, rfl, l, _, hk⟩
  rw [LS.out]
  have Ll := Lib.hid l
  have T2 := Lib.hid (K1.out.trans hk)
  clear l hk
  go_wp2_with fail
  refine (turned_vals A p n _ _ (HA.out.keep T2.out) HP.out ln).mono ?_
  rintro e w3 ⟨vx, rfl, hox, hk⟩
  have OX := Lib.hid hox
  have K3 := Lib.hid hk
  clear hox hk
  go_wp2_with fail
  refine (turned_vals B q n _ _ (HB.out.keep (T2.out.trans K3.out)) HQ.out ln).mono ?_
  rintro e w4 ⟨vy, rfl, hoy, hk⟩
  have K4 := Lib.hid hk
  obtain ⟨Ax, cx, rfl, lx, lcx⟩ := (OX.out.kp hk).cap
  obtain ⟨Ay, cy, rfl, ly, lcy⟩ := hoy.cap
  have ex : (Pol.vals p.reverse).length = n := by rw [Pol.len_vals, List.length_reverse, ← HP.out]
  have ey : (Pol.vals q.reverse).length = n := by rw [Pol.len_vals, List.length_reverse, ← HQ.out]
  rw [ex] at lcx ⊢
  rw [ey] at lcy ⊢
  have LX := Lib.hid lx
  have LY := Lib.hid ly
  have LCX := Lib.hid lcx
  clear hoy hk OX lx ly lcx lcy ex ey
  go_wp2_with fail
  refine (steps_ok Ax Ay p.reverse q.reverse n _ _ _ LX.out LY.out (by rw [List.length_reverse]; exact HP.out) (by rw [List.length_reverse]; exact HQ.out) ln LCX.out HXR.out).mono ?_
  rintro e w5 ⟨Am, nm, rfl, l, _, hk⟩
  rw [LSR.out]
  have Lm := Lib.hid l
  have K5 := Lib.hid ((K3.out.trans K4.out).trans hk)
  have T5 := Lib.hid (T2.out.trans K5.out)
  clear l hk K3 K4 LX LY LCX
  go_wp2_with fail
  refine (through_ok A B p q n _ _ _ (HA.out.keep T5.out) (HB.out.keep T5.out) HP.out HQ.out ln LC.out HX.out).mono ?_
  rintro e w6 ⟨Af, nf, rfl, l, _, hk⟩
  have Lf := Lib.hid l
  have K6 := Lib.hid hk
  have T6 := Lib.hid (T5.out.trans hk)
  clear l hk
  obtain ⟨f, hf⟩ : ∃ f, f = Pol.thr (Pol.co p) (Pol.co q) n := ⟨_, rfl⟩
  rw [← hf] at LA Lf ⊢
  have HF := Lib.hid hf
  clear hf
  obtain ⟨mf, hmf⟩ : ∃ mf, mf = f.length := ⟨_, rfl⟩
  rw [← hmf] at LA ⊢
  have HMF := Lib.hid hmf
  clear hmf
  by_cases h0 : n = 0
  · have m0 : mf = 0 := by have := LA.out; omega
    subst m0
    subst h0
    go_wp2_with fail
    go_ret
    exact ⟨rfl, T6.out⟩
  · obtain ⟨n', hn'⟩ : ∃ n', n = n' + 1 := ⟨n - 1, by omega⟩
    have lt := (last_turned p q n n' HP.out HQ.out ln hn' HX.out).2
    obtain ⟨ld, rfl, _, lcl⟩ := (Ll.out.keep (K5.out.trans K6.out)) n' (by rw [Pol.len_vals, LS.out]; omega)
    obtain ⟨md, rfl, _, mcl⟩ := (Lm.out.keep K6.out) n' (by rw [Pol.len_vals, LSR.out]; omega)
    rw [Pol.vals_at] at lcl mcl
    rw [lt] at mcl
    have AL := Lib.hid (fun (wx : World) (hx : Lies wx (some ld) (Pol.vals (stepRow p q))) => all_any (some ld) (Pol.vals (stepRow p q)) nl 0 9972 wx hx (by rw [Pol.len_vals, LS.out]; omega))
    rw [Pol.len_vals, LS.out] at AL
    have AQ := Lib.hid (show ∀ d : Nat, Calls Try.prog 14 #[.slice (some ld) n nl, .int .i64 0, .int .i64 9972] (w6.drewN d) fun e w' => e = .returned (.bool true) ∧ w6.drewN d = w' from
      fun d => (AL.out (w6.drewN d) ((Ll.out.keep (K5.out.trans K6.out)).keep ((Kp.rfl' w6).drewN d))).mono fun e w' ⟨ht, hw⟩ => ⟨tells_yes ht (vals_allIn _), hw⟩)
    have e1 : (n : Int) - 1 = (n' : Int) := by omega
    have f1 : n' < n := by omega
    have f2 : decide (n = 0) = false := by simp; exact h0
    have f3 : ((n : Int) == 0) = false := by rw [beq_eq_false_iff_ne]; omega
    have HN' := Lib.hid hn'
    clear hn' lt AL
    generalize ((Pol.co (stepRow p q) n').val : Int) = sv at *
    go_wp2_with fail
    go_quiet ((first
      | (with_reducible exact quiet_here (AQ.out _))))
    go_wp2_with fail
    go_loopw [12, 13, 14] (fun s v i wr => ∃ (k : Nat) (As Aw : Option Addr) (ls cs lw cw : Nat), k ≤ n ∧ i = .int .i64 (k : Int) ∧ s = .slice As ls cs ∧ ls = (Pol.nsum (Pol.co p) (stp p q) k).length ∧ Lies wr As (Pol.vals (Pol.nsum (Pol.co p) (stp p q) k)) ∧
        v = .slice Aw lw cw ∧ lw = (Pol.way (Pol.co p) k).length ∧ Lies wr Aw (Pol.vals (Pol.way (Pol.co p) k)) ∧ Kp w6 wr) (fun _ _ i _ => n - (intOf i).toNat)
    case atStart => exact ⟨0, Option.none, some ⟨w6.heap.size, 0, Option.none⟩, 0, 0, 1, 1, Nat.zero_le _, rfl, rfl, rfl, Lies.empty _ _, rfl, rfl, lies_new' (w6.drewN nq) _ [1] _ (by simp), ((Kp.rfl' w6).drewN nq).new _⟩
    case round =>
      obtain ⟨k, As, Aw, ls, cs, lw, cw, hk, rfl, rfl, hls, hsl, rfl, hlw, hwl, hkp⟩ := hrel
      have HLS := Lib.hid hls
      have HSL := Lib.hid hsl
      have HLW := Lib.hid hlw
      have HWL := Lib.hid hwl
      have HK := Lib.hid hkp
      have BS := Lib.hid (Pol.len_nsum (Pol.co p) (stp p q) k (by omega))
      have BW := Lib.hid (Pol.len_way (Pol.co p) k (by omega))
      clear hls hsl hlw hwl hkp
      by_cases hlt : k < n
      · obtain ⟨ad, rfl, hbx, xc⟩ := (HA.out.keep (T6.out.trans HK.out)) k (by rw [Pol.len_vals, ← HP.out]; exact hlt)
        obtain ⟨ld', ee, _, sc⟩ := (Ll.out.keep ((K5.out.trans K6.out).trans HK.out)) k (by rw [Pol.len_vals, LS.out]; exact hlt)
        injection ee with ee
        subst ee
        rw [Pol.vals_at] at xc sc
        rw [co_stepRow _ _ _ (by rw [← HP.out]; exact hlt)] at sc
        change _ = some (Value.int .i64 ((stp p q k).val : Int)) at sc
        have b1 := Fp.val_bound (stp p q k)
        have PL := Lib.hid (refPlus_any As Aw (Pol.nsum (Pol.co p) (stp p q) k) (Pol.way (Pol.co p) k) ls lw cs cw ((stp p q k).val : Int) (stp p q k) 0 wr HSL.out HWL.out HLS.out HLW.out
          (by have := HLS.out; have := BS.out; omega) (by have := HLW.out; have := BW.out; omega) (by omega) (Fp.ofInt_self _) (by omega) (by omega))
        have x1 := Fp.val_bound (Pol.co p k)
        have MD := Lib.hid (fun wx => refMod_el (-((Pol.co p k).val : Int)) wx (by omega) (by omega))
        rw [ofInt_neg] at MD
        have TM := Lib.hid (fun (wx : World) (B' : Option Addr) (hx : Kp wr wx) (hB : Lies wx B' (Pol.vals [-(Pol.co p k), 1])) => refTimes_any Aw B' (Pol.way (Pol.co p) k) [-(Pol.co p k), 1] lw 2 cw 2 wx (HWL.out.keep hx) hB HLW.out rfl
          (by have := HLW.out; have := BW.out; omega) (by omega))
        unfold el at *
        generalize ((stp p q k).val : Int) = tv at *
        generalize hnv : ((-(Pol.co p k)).val : Int) = nv at *
        have HNV := Lib.hid hnv
        clear hnv
        generalize ((Pol.co p k).val : Int) = xv at *
        go_wp2_with fail
        refine (PL.out).mono ?_; rintro e w8 ⟨A8, c8, rfl, l8, _, hk8⟩
        have xc8 : w8.cell? (ad.add k) = some (.int .i64 xv) := (hk8.cell (p := ad.add k) (by rw [block_add]; exact hbx)).trans xc
        have L8 := Lib.hid l8
        have K8 := Lib.hid hk8
        have X8 := Lib.hid (HK.out.trans hk8)
        clear l8 hk8 PL xc sc hbx
        go_wp2_with fail
        refine (MD.out _).mono ?_; rintro e w' ⟨rfl, rfl⟩
        go_wp2_with fail
        refine (TM.out _ _ (K8.out.new _) (by rw [vals_two, HNV.out]; exact lies_new w8 _ [nv, 1])).mono ?_
        rintro e w9 ⟨A9, c9, rfl, l9, _, hk9⟩
        have K9 := Lib.hid (((Kp.rfl' w8).new _).trans hk9)
        have L9 := Lib.hid l9
        clear l9 hk9 TM
        go_wp2_with fail
        go_roundw
        case rel => exact ⟨k + 1, A8, A9, _, c8, _, c9, by omega, by go_num, rfl, rfl, L8.out.keep K9.out, rfl, rfl, L9.out, X8.out.trans K9.out⟩
        case measure => simp [intOf]; omega
      · obtain rfl : k = n := by omega
        have EQ := Lib.hid (show Pol.nsum (Pol.co p) (stp p q) k = f by rw [HF.out]; exact (Pol.thr_nsum (Pol.co p) (Pol.co q) k (by omega)).symm)
        go_wp2_with fail
        refine (ints_eq' As Af _ _ _ _ _ _ _ HSL.out (Lf.out.keep HK.out) HLS.out HMF.out (by have := HLS.out; have := BS.out; omega) EQ.out).mono ?_
        rintro e w9 ⟨rfl, hk9⟩
        have T9 := Lib.hid (T6.out.trans (HK.out.trans hk9))
        clear hk9
        go_wp2_with fail
        go_ret
        exact ⟨rfl, T9.out⟩

set_option maxRecDepth 100000 in
set_option maxHeartbeats 1600000 in
theorem stps_bad (A B : Option Addr) (l m : List Int) (ca cb : Nat) (w : World) (ha : Lies w A l) (hb : Lies w B m) (lc : l.length ≤ ca) (h : dcode l m ≠ 0) :
    Calls Try.prog 4 #[.slice A l.length ca, .slice B m.length cb] w fun e w' => e = .returned (.bool true) ∧ Kp w w' := by
  have T1 := Lib.hid (fun (w' : World) (k : Kp w w') => steps_bad A B l m ca cb w' (ha.keep k) (hb.keep k) lc h)
  unfold Fails at T1
  have e := errOf_ne _ h
  rw [e] at T1
  clear e h ha hb lc
  generalize dcode l m = x at *
  generalize l.length = n1 at *
  generalize m.length = n2 at *
  go_enter Try.func4, Try.ntmps4
  go_wp2_with fail
  refine (ipFact_any _).mono ?_; rintro e w1 ⟨rfl, hk⟩
  have K1 := Lib.hid hk
  clear hk
  go_wp2_with fail
  refine (T1.out _ K1.out).mono ?_; rintro e w2 ⟨rfl, hk⟩
  have K2 := Lib.hid (K1.out.trans hk)
  clear hk
  go_wp2_with fail
  go_ret
  exact ⟨rfl, K2.out⟩

theorem walk_IpolSteps (A : Option Addr) (l : List Int) (ca : Nat) (B : Option Addr) (m : List Int) (cb : Nat) (w : World) (ha : Lies w A l) (lc : l.length ≤ ca) (hb : Lies w B m) :
    Calls Try.prog 4 #[.slice A l.length ca, .slice B m.length cb] w fun e w' => e = .returned (.bool true) ∧ Kp w w' := by
  by_cases h : dcode l m = 0
  · obtain ⟨p, q, rfl, rfl, h1, h2, h3⟩ := dcode_zero h
    rw [Pol.len_vals, Pol.len_vals, h2]
    rw [Pol.len_vals] at lc
    exact stps_ok A B p q p.length ca cb w ha hb rfl h2.symm h1 lc h3
  · exact stps_bad A B l m ca cb w ha hb lc h

end Go.Proofs.Yteaonlmiifpjfaa
