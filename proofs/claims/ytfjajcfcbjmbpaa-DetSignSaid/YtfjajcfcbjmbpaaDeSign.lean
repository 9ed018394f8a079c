/- The law DetSign. -/
import Derived.Test.YtfjajcfcbjmbpaaDeSum
import Derived.Test.YtfjajcfcbjmbpaaSgnRef
namespace Go.Proofs.Ytfjajcfcbjmbpaa
open Go.ChangeShapes Go.WideShapes Go.ChangeAt Go.RowKit
set_option linter.unusedVariables false

set_option maxRecDepth 100000 in
set_option maxHeartbeats 25600000 in
theorem walk_DetSign (A : Option Addr) (l : List Int) (c : Nat) (i j : Int) (w : World) (hl : Lies w A l) (lc : l.length ≤ c) :
    Calls Try.prog 7 #[.slice A l.length c, .int .i64 i, .int .i64 j] w fun e w' => e = .returned (.bool true) ∧ Kp w w' := by
  obtain ⟨n, hn⟩ : ∃ n, n = l.length := ⟨_, rfl⟩
  rw [← hn] at lc ⊢
  have HL := Lib.hid hl
  have HN := Lib.hid hn.symm
  have HLC := Lib.hid lc
  have FA := Lib.hid (detFact_any w)
  clear hl lc hn
  by_cases h8 : 8 < n
  · go_enter Try.func7, Try.ntmps7
    go_wp2_with fail
    refine (FA.out).mono ?_; rintro e w1 ⟨rfl, k1⟩
    have K1 := Lib.hid k1; clear k1
    go_wp2_with fail
    go_ret
    exact ⟨rfl, K1.out⟩
  · have SG := Lib.hid (fun w h => Sign_any A l n c w h HN.out (by omega))
    have SR := Lib.hid (fun w h => rSign_any A l n c w h HN.out (by omega))
    obtain ⟨fm, hfm⟩ : ∃ fm : Nat → Nat → Fp.F, fm = fun (i j : Nat) => if l.getD i 0 = (j : Int) then (1 : Fp.F) else 0 := ⟨_, rfl⟩
    have HFM := Lib.hid hfm
    obtain ⟨i0, hif, hz0, hz1, hz2⟩ := info_parts int_info
    clear hfm
    go_enter Try.func7, Try.ntmps7
    go_wp2_with fail
    refine (FA.out).mono ?_; rintro e w1 ⟨rfl, k1⟩
    have K1 := Lib.hid k1; clear k1
    go_wp2_with fail
    refine (SG.out _ (HL.out.keep K1.out)).mono ?_; rintro e w2 ⟨x, rfl, hx, k2⟩
    have K2 := Lib.hid (K1.out.trans k2); have HX := Lib.hid hx
    clear k2 hx
    go_wp2_with fail
    refine (SR.out _ (HL.out.keep K2.out)).mono ?_; rintro e w3 ⟨y, rfl, hy, k3⟩
    obtain rfl : y = x := hy.one HX.out
    have K3 := Lib.hid (K2.out.trans k3)
    have hxb := hy.bound
    have e0 : ((y : Int) != y) = false := by simp
    clear k3 hy
    by_cases hx0 : y = 0
    · have e1 : (y == 0) = true := by rw [hx0]; rfl
      clear hx0
      go_wp2_with fail
      refine (SR.out _ (HL.out.keep K3.out)).mono ?_; rintro e w4 ⟨z, rfl, hz, k4⟩
      obtain rfl : z = y := hz.one HX.out
      have K4 := Lib.hid (K3.out.trans k4)
      clear k4 hz
      go_wp2_with fail
      go_ret
      exact ⟨ret_bool (by simp), K4.out⟩
    · have e1 : (y == 0) = false := beq_false_of_ne hx0
      have HIN := Lib.hid (show ∀ k, k < n → ∃ m : Nat, m < n ∧ l.getD k 0 = (m : Int) from fun k hk => by
        by_cases h : l.getD k 0 < 0 ∨ (n : Int) ≤ l.getD k 0
        · exact absurd (HX.out.one ⟨.inr (.inr rfl), by rw [Mx.sp_out (s := fun i => l.getD i 0) hk h]; rfl⟩) hx0
        · exact ⟨(l.getD k 0).toNat, by omega, by omega⟩)
      obtain ⟨x, hxe⟩ : ∃ x, x = y := ⟨_, rfl⟩
      rw [← hxe] at HX hxb e0 e1 ⊢
      have HSD := Lib.hid (show Mx.dt n fm = Mx.sp n fun i => l.getD i 0 by rw [HFM.out]; rfl)
      have HXV := Lib.hid (show x % 9973 = ((Mx.sp n fun i => l.getD i 0).val : Int) by rw [← HX.out.2, Fp.ofInt_val])
      clear hx0 hxe
      by_cases hi : 0 ≤ i ∧ i ≤ (n : Int) - 1
      · have II := Lib.hid (fun w => law2In_any i 0 ((n : Int) - 1) w true (by simp; omega))
        by_cases hj : 0 ≤ j ∧ j ≤ (n : Int) - 1
        · have IJ := Lib.hid (fun w => law2In_any j 0 ((n : Int) - 1) w true (by simp; omega))
          by_cases hij : i = j
          · have e2 : (i != j) = false := by rw [hij]; simp
            have KK := Lib.hid K3.out
            clear hi hj hij
            go_wp2_with fail
            refine (II.out w3).mono ?_; rintro e w4 ⟨rfl, rfl⟩
            go_wp2_with fail
            refine (IJ.out w3).mono ?_; rintro e w4 ⟨rfl, rfl⟩
            by_cases h51 : n < 1
            · go_wp2_with fail
              go_ret
              exact ⟨rfl, KK.out⟩
            · by_cases h52 : 5 < n
              · go_wp2_with fail
                go_ret
                exact ⟨rfl, KK.out⟩
              · go_wp2_with fail
                go_loopw [11, 12] (fun v i wr => ∃ (k : Nat) (G C : Nat → Nat), k ≤ n ∧ i = .int .i64 (k : Int) ∧ OwnM wr w.heap.size v G C (Mx.matl k n fm) ∧ Kp w wr) (fun _ i _ => n - (intOf i).toNat)
                case atStart => exact ⟨0, fun _ => 0, fun _ => 0, Nat.zero_le _, rfl, ownM_none _ _ _ _, KK.out⟩
                case round =>
                  obtain ⟨k, G, C, hk, rfl, ho, hkp⟩ := hrel
                  have HO := Lib.hid ho
                  have HK := Lib.hid hkp
                  by_cases hlt : k < n
                  · obtain ⟨m, hm, hml⟩ := HIN.out k hlt
                    obtain ⟨ad, rfl, hadl, y1⟩ := HL.out k (by rw [HN.out]; exact hlt)
                    have y2 := (hkp.cell (p := ad.add k) (by rw [block_add]; exact hadl)).trans y1
                    rw [hml] at y2
                    have Y2 := Lib.hid (show ∀ w2, Kp wr w2 → w2.cell? (ad.add k) = some (.int .i64 (m : Int)) from fun w2 h => (h.cell (p := ad.add k) (by rw [block_add]; exact Nat.lt_of_lt_of_le hadl hkp.size)).trans y2)
                    have HS := Lib.hid (show Mx.matl (k + 1) n fm = Mx.matl k n fm ++ [(Mx.row n fun _ => 0).set m 1] by
                      rw [Mx.matl, Mx.tab_snoc, Mx.row_set]
                      congr 2
                      refine Mx.row_ext fun j _ => ?_
                      rw [HFM.out]
                      show (((if l.getD k 0 = (j : Int) then (1 : Fp.F) else 0)).val : Int) = _
                      by_cases e : j = m
                      · rw [if_pos e, if_pos (by rw [hml, e])]; rfl
                      · rw [if_neg e, if_neg (fun e' => e (by rw [hml] at e'; omega))]; rfl)
                    have HAP := Lib.hid (show ∀ i, i < (Mx.matl k n fm).length → G i ≠ wr.heap.size from fun i hi => by have := (HO.out.lt hi).2; omega)
                    clear ho hkp hml y1 y2
                    go_wp2_with (first
                      | (at_make; refine wpList_make_full _ rfl _ _ 35 rfl wr.heap.size 3 i0 (.int .i64 0) 1 Try.underlying35 hif hz0 hz1 _ _ _ _ n rfl rfl rfl rfl (by rw [hz2]; omega) (by unfold maxLen; omega) (Nat.le_refl _) ?_; intro w2 hown hgrow; have kp2 : Kp wr w2 := (Kp.rfl' wr).grown hgrow (by simp) (fun k hk => by cases hk); have ow := own_made hown; have hcell := own_cell ow m (by rw [Mx.len_row]; exact hm); have hfree := own_free ow m; have y2 := Y2.out w2 kp2; have kp3 := Lib.hid (kp2.put (p := ⟨wr.heap.size, m, none⟩) (Nat.le_refl _) (.int .i64 1)); have ow3 := Lib.hid (own_put ow m 1); have om3 := Lib.hid (HO.out.kp kp3.out))
                      | (at_builtin; refine wpList_pushM rfl _ _ rfl w.heap.size _ G C (Mx.matl k n fm) _ wr.heap.size n n _ 1 (by rw [List.length_set, Mx.len_row]) rfl rfl (om3.out.new _) (cell_made _ _ _ _ 0 (size_set _ _ _)) ((ow3.out.from HK.out.size).new _) HAP.out (by rw [Mx.len_matl]; omega) (Nat.le_trans HK.out.size (Nat.le_trans kp3.out.size ((Kp.rfl' _).new _).size)) ?_; intro v' w' G' C' ho' hk'))
                    have HO' := Lib.hid ho'
                    have HK' := Lib.hid (hk' w (Nat.le_refl _) ((HK.out.trans kp3.out).new _))
                    clear ho' hk'
                    go_wp2_with fail
                    go_roundw
                    case rel => exact ⟨k + 1, G', C', by omega, by go_num, by rw [HS.out]; exact HO'.out, HK'.out⟩
                    case measure => simp [intOf]; omega
                  · obtain rfl : k = n := by omega
                    obtain ⟨Am, cm, rfl, hlm, _⟩ := ho.lies
                    rw [Mx.len_matl]
                    have OY := Lib.hid (Of_sh (A := Am) (show Sh k k fm (Mx.matl k k fm) from ⟨rfl, by omega, by omega, by omega, by omega⟩) cm wr hlm)
                    rw [HSD.out] at OY
                    have MO := Lib.hid (fun w => rMod_any x w (by omega) (by omega))
                    rw [HXV.out] at MO
                    clear ho hkp hlm
                    go_wp2_with fail
                    refine (OY.out).mono ?_; rintro e w8 ⟨rfl, k8⟩
                    have K8 := Lib.hid (HK.out.trans k8); clear k8
                    go_wp2_with fail
                    refine (MO.out w8).mono ?_; rintro e w9 ⟨rfl, rfl⟩
                    go_wp2_with fail
                    go_ret
                    exact ⟨ret_bool (by simp), K8.out⟩
          · obtain ⟨p, rfl⟩ : ∃ p : Nat, i = (p : Int) := ⟨i.toNat, by omega⟩
            obtain ⟨q, rfl⟩ : ∃ q : Nat, j = (q : Int) := ⟨j.toNat, by omega⟩
            have e2 : ((p : Int) != (q : Int)) = true := by rw [bne_iff_ne]; exact hij
            have hp : p < n := by omega
            have hq : q < n := by omega
            have hpq : p ≠ q := fun h => hij (by rw [h])
            have hwn : IntKind.i64.wrap (-x) = -x := IntWalk.i64_in _ (by omega)
            have HPQ := Lib.hid hpq
            clear hi hj hij hpq
            go_wp2_with fail
            refine (II.out w3).mono ?_; rintro e w4 ⟨rfl, rfl⟩
            go_wp2_with fail
            refine (IJ.out w3).mono ?_; rintro e w4 ⟨rfl, rfl⟩
            go_wp2_with fail
            obtain ⟨u, hu⟩ : ∃ u : Nat → Fp.F, l = Mx.row n fun j => ((u j).val : Int) := row_F HN.out fun k hk => by
              obtain ⟨m, h1, h2⟩ := HIN.out k (by rw [← HN.out]; exact hk)
              rw [h2]; omega
            have HU := Lib.hid hu
            have LW := Lib.hid (show LiesM (w3.alloc (.cells #[.slice A n c] 35)) (some ⟨w3.heap.size, 0, none⟩) (Mx.matl 1 n fun _ => u) by
              intro k hk
              rw [Mx.len_matl] at hk
              obtain rfl : k = 0 := by omega
              have hg : (Mx.matl 1 n fun _ => u).getD 0 [] = l := hu.symm
              rw [hg, HN.out]
              exact ⟨_, A, c, rfl, by simp, by rw [add_at]; exact (cell_made w3 _ _ _ 0 rfl).trans rfl, HLC.out, (HL.out.keep K3.out).keep ((Kp.rfl' w3).new _)⟩)
            clear hu
            refine (rCopy_any (some ⟨w3.heap.size, 0, none⟩) (fun _ => u) 1 n 1 _ LW.out (by omega) (by omega) (by omega)).mono ?_; rintro e w5 ⟨v, G, C, rfl, ho, k5⟩
            obtain ⟨g, gc, rfl, hg⟩ := ho.some (by rw [Mx.len_matl]; decide)
            rw [Mx.len_matl] at ho ⊢
            have z0 := ho.weak.head (i := 0) (by decide)
            have hrow := ho.row 0 (by rw [Mx.len_matl]; decide)
            rw [show (Mx.matl 1 n fun _ => u).getD 0 [] = l from HU.out.symm, HN.out] at hrow
            have hG := (ho.lt (i := 0) (by rw [Mx.len_matl]; decide)).1
            have k5' := (K3.out.new (.cells #[.slice A n c] 35)).trans k5
            obtain ⟨ad, rfl, hadl, y1⟩ := HL.out p (by rw [HN.out]; exact hp)
            obtain ⟨_, ea, _, y2⟩ := HL.out q (by rw [HN.out]; exact hq)
            cases ea
            obtain ⟨lp, hlp⟩ : ∃ z, z = l.getD p 0 := ⟨_, rfl⟩
            obtain ⟨lq, hlq⟩ : ∃ z, z = l.getD q 0 := ⟨_, rfl⟩
            rw [← hlp] at y1
            rw [← hlq] at y2
            have hGw : w.heap.size ≤ G 0 := Nat.le_trans (Nat.le_trans K3.out.size ((Kp.rfl' w3).new _).size) hG
            have k6 := k5'.put (p := ⟨G 0, p, none⟩) hGw (.int .i64 lq)
            have KK := Lib.hid (k6.put (p := ⟨G 0, q, none⟩) hGw (.int .i64 lp))
            have v1 := (k5'.cell (p := ad.add q) (by rw [block_add]; exact hadl)).trans y2
            have v2 := (k6.cell (p := ad.add p) (by rw [block_add]; exact hadl)).trans y1
            have x1 := own_cell hrow p (by rw [HN.out]; exact hp)
            have x2 := own_free hrow p
            have hr1 := own_put hrow p lq
            have x3 := own_cell hr1 q (by rw [List.length_set, HN.out]; exact hq)
            have x4 := own_free hr1 q
            have hr2 := own_put hr1 q lp
            have SG2 := Lib.hid (Sign_any (some ⟨G 0, 0, none⟩) ((l.set p lq).set q lp) n (C 0) _ (by obtain ⟨A', c', e, h⟩ := hr2.lies; cases e; exact h) (by rw [List.length_set, List.length_set]; exact HN.out) (by omega))
            rw [show Mx.sp n (fun i => ((l.set p lq).set q lp).getD i 0) = -(Mx.sp n fun i => l.getD i 0) by
              rw [← Mx.sp_swap (fun i => l.getD i 0) hp hq HPQ.out]
              refine Mx.sp_congr fun t ht => ?_
              rw [getD_set2 (by rw [HN.out]; exact hp) (by rw [HN.out]; exact hq)]
              by_cases h1 : t = q
              · rw [if_pos h1, h1, Mx.sw_right]; exact hlp
              · rw [if_neg h1]
                by_cases h2 : t = p
                · rw [if_pos h2, h2, Mx.sw_left]; exact hlq
                · rw [if_neg h2, Mx.sw_none h2 h1]] at SG2
            have e3 : ((-x : Int) != -x) = false := by simp
            clear ho k5 hrow hG k5' y1 y2 hGw k6 hr1 hr2 hlp hlq
            go_wp2_with fail
            refine (SG2.out).mono ?_; rintro e w7 ⟨z, rfl, hz, k7⟩
            obtain rfl : z = -x := hz.one HX.out.neg
            have KK := Lib.hid (KK.out.trans k7)
            clear k7 hz x1 x2 x3 x4 v1 v2 z0
            by_cases h51 : n < 1
            · exfalso; omega
            · by_cases h52 : 5 < n
              · go_wp2_with fail
                go_ret
                exact ⟨rfl, KK.out⟩
              · go_wp2_with fail
                go_loopw [11, 12] (fun v i wr => ∃ (k : Nat) (G C : Nat → Nat), k ≤ n ∧ i = .int .i64 (k : Int) ∧ OwnM wr w.heap.size v G C (Mx.matl k n fm) ∧ Kp w wr) (fun _ i _ => n - (intOf i).toNat)
                case atStart => exact ⟨0, fun _ => 0, fun _ => 0, Nat.zero_le _, rfl, ownM_none _ _ _ _, KK.out⟩
                case round =>
                  obtain ⟨k, G, C, hk, rfl, ho, hkp⟩ := hrel
                  have HO := Lib.hid ho
                  have HK := Lib.hid hkp
                  by_cases hlt : k < n
                  · obtain ⟨m, hm, hml⟩ := HIN.out k hlt
                    obtain ⟨_, ea, hadl, y1⟩ := HL.out k (by rw [HN.out]; exact hlt)
                    cases ea
                    have y2 := (hkp.cell (p := ad.add k) (by rw [block_add]; exact hadl)).trans y1
                    rw [hml] at y2
                    have Y2 := Lib.hid (show ∀ w2, Kp wr w2 → w2.cell? (ad.add k) = some (.int .i64 (m : Int)) from fun w2 h => (h.cell (p := ad.add k) (by rw [block_add]; exact Nat.lt_of_lt_of_le hadl hkp.size)).trans y2)
                    have HS := Lib.hid (show Mx.matl (k + 1) n fm = Mx.matl k n fm ++ [(Mx.row n fun _ => 0).set m 1] by
                      rw [Mx.matl, Mx.tab_snoc, Mx.row_set]
                      congr 2
                      refine Mx.row_ext fun j _ => ?_
                      rw [HFM.out]
                      show (((if l.getD k 0 = (j : Int) then (1 : Fp.F) else 0)).val : Int) = _
                      by_cases e : j = m
                      · rw [if_pos e, if_pos (by rw [hml, e])]; rfl
                      · rw [if_neg e, if_neg (fun e' => e (by rw [hml] at e'; omega))]; rfl)
                    have HAP := Lib.hid (show ∀ i, i < (Mx.matl k n fm).length → G i ≠ wr.heap.size from fun i hi => by have := (HO.out.lt hi).2; omega)
                    clear ho hkp hml y1 y2
                    go_wp2_with (first
                      | (at_make; refine wpList_make_full _ rfl _ _ 35 rfl wr.heap.size 3 i0 (.int .i64 0) 1 Try.underlying35 hif hz0 hz1 _ _ _ _ n rfl rfl rfl rfl (by rw [hz2]; omega) (by unfold maxLen; omega) (Nat.le_refl _) ?_; intro w2 hown hgrow; have kp2 : Kp wr w2 := (Kp.rfl' wr).grown hgrow (by simp) (fun k hk => by cases hk); have ow := own_made hown; have hcell := own_cell ow m (by rw [Mx.len_row]; exact hm); have hfree := own_free ow m; have y2 := Y2.out w2 kp2; have kp3 := Lib.hid (kp2.put (p := ⟨wr.heap.size, m, none⟩) (Nat.le_refl _) (.int .i64 1)); have ow3 := Lib.hid (own_put ow m 1); have om3 := Lib.hid (HO.out.kp kp3.out))
                      | (at_builtin; refine wpList_pushM rfl _ _ rfl w.heap.size _ G C (Mx.matl k n fm) _ wr.heap.size n n _ 1 (by rw [List.length_set, Mx.len_row]) rfl rfl (om3.out.new _) (cell_made _ _ _ _ 0 (size_set _ _ _)) ((ow3.out.from HK.out.size).new _) HAP.out (by rw [Mx.len_matl]; omega) (Nat.le_trans HK.out.size (Nat.le_trans kp3.out.size ((Kp.rfl' _).new _).size)) ?_; intro v' w' G' C' ho' hk'))
                    have HO' := Lib.hid ho'
                    have HK' := Lib.hid (hk' w (Nat.le_refl _) ((HK.out.trans kp3.out).new _))
                    clear ho' hk'
                    go_wp2_with fail
                    go_roundw
                    case rel => exact ⟨k + 1, G', C', by omega, by go_num, by rw [HS.out]; exact HO'.out, HK'.out⟩
                    case measure => simp [intOf]; omega
                  · obtain rfl : k = n := by omega
                    obtain ⟨Am, cm, rfl, hlm, _⟩ := ho.lies
                    rw [Mx.len_matl]
                    have OY := Lib.hid (Of_sh (A := Am) (show Sh k k fm (Mx.matl k k fm) from ⟨rfl, by omega, by omega, by omega, by omega⟩) cm wr hlm)
                    rw [HSD.out] at OY
                    have MO := Lib.hid (fun w => rMod_any x w (by omega) (by omega))
                    rw [HXV.out] at MO
                    clear ho hkp hlm
                    go_wp2_with fail
                    refine (OY.out).mono ?_; rintro e w8 ⟨rfl, k8⟩
                    have K8 := Lib.hid (HK.out.trans k8); clear k8
                    go_wp2_with fail
                    refine (MO.out w8).mono ?_; rintro e w9 ⟨rfl, rfl⟩
                    go_wp2_with fail
                    go_ret
                    exact ⟨ret_bool (by simp), K8.out⟩
        · have IJ := Lib.hid (fun w => law2In_any j 0 ((n : Int) - 1) w false (by simp; omega))
          have KK := Lib.hid K3.out
          clear hi hj
          go_wp2_with fail
          refine (II.out w3).mono ?_; rintro e w4 ⟨rfl, rfl⟩
          go_wp2_with fail
          refine (IJ.out w3).mono ?_; rintro e w4 ⟨rfl, rfl⟩
          by_cases h51 : n < 1
          · go_wp2_with fail
            go_ret
            exact ⟨rfl, KK.out⟩
          · by_cases h52 : 5 < n
            · go_wp2_with fail
              go_ret
              exact ⟨rfl, KK.out⟩
            · go_wp2_with fail
              go_loopw [11, 12] (fun v i wr => ∃ (k : Nat) (G C : Nat → Nat), k ≤ n ∧ i = .int .i64 (k : Int) ∧ OwnM wr w.heap.size v G C (Mx.matl k n fm) ∧ Kp w wr) (fun _ i _ => n - (intOf i).toNat)
              case atStart => exact ⟨0, fun _ => 0, fun _ => 0, Nat.zero_le _, rfl, ownM_none _ _ _ _, KK.out⟩
              case round =>
                obtain ⟨k, G, C, hk, rfl, ho, hkp⟩ := hrel
                have HO := Lib.hid ho
                have HK := Lib.hid hkp
                by_cases hlt : k < n
                · obtain ⟨m, hm, hml⟩ := HIN.out k hlt
                  obtain ⟨ad, rfl, hadl, y1⟩ := HL.out k (by rw [HN.out]; exact hlt)
                  have y2 := (hkp.cell (p := ad.add k) (by rw [block_add]; exact hadl)).trans y1
                  rw [hml] at y2
                  have Y2 := Lib.hid (show ∀ w2, Kp wr w2 → w2.cell? (ad.add k) = some (.int .i64 (m : Int)) from fun w2 h => (h.cell (p := ad.add k) (by rw [block_add]; exact Nat.lt_of_lt_of_le hadl hkp.size)).trans y2)
                  have HS := Lib.hid (show Mx.matl (k + 1) n fm = Mx.matl k n fm ++ [(Mx.row n fun _ => 0).set m 1] by
                    rw [Mx.matl, Mx.tab_snoc, Mx.row_set]
                    congr 2
                    refine Mx.row_ext fun j _ => ?_
                    rw [HFM.out]
                    show (((if l.getD k 0 = (j : Int) then (1 : Fp.F) else 0)).val : Int) = _
                    by_cases e : j = m
                    · rw [if_pos e, if_pos (by rw [hml, e])]; rfl
                    · rw [if_neg e, if_neg (fun e' => e (by rw [hml] at e'; omega))]; rfl)
                  have HAP := Lib.hid (show ∀ i, i < (Mx.matl k n fm).length → G i ≠ wr.heap.size from fun i hi => by have := (HO.out.lt hi).2; omega)
                  clear ho hkp hml y1 y2
                  go_wp2_with (first
                    | (at_make; refine wpList_make_full _ rfl _ _ 35 rfl wr.heap.size 3 i0 (.int .i64 0) 1 Try.underlying35 hif hz0 hz1 _ _ _ _ n rfl rfl rfl rfl (by rw [hz2]; omega) (by unfold maxLen; omega) (Nat.le_refl _) ?_; intro w2 hown hgrow; have kp2 : Kp wr w2 := (Kp.rfl' wr).grown hgrow (by simp) (fun k hk => by cases hk); have ow := own_made hown; have hcell := own_cell ow m (by rw [Mx.len_row]; exact hm); have hfree := own_free ow m; have y2 := Y2.out w2 kp2; have kp3 := Lib.hid (kp2.put (p := ⟨wr.heap.size, m, none⟩) (Nat.le_refl _) (.int .i64 1)); have ow3 := Lib.hid (own_put ow m 1); have om3 := Lib.hid (HO.out.kp kp3.out))
                    | (at_builtin; refine wpList_pushM rfl _ _ rfl w.heap.size _ G C (Mx.matl k n fm) _ wr.heap.size n n _ 1 (by rw [List.length_set, Mx.len_row]) rfl rfl (om3.out.new _) (cell_made _ _ _ _ 0 (size_set _ _ _)) ((ow3.out.from HK.out.size).new _) HAP.out (by rw [Mx.len_matl]; omega) (Nat.le_trans HK.out.size (Nat.le_trans kp3.out.size ((Kp.rfl' _).new _).size)) ?_; intro v' w' G' C' ho' hk'))
                  have HO' := Lib.hid ho'
                  have HK' := Lib.hid (hk' w (Nat.le_refl _) ((HK.out.trans kp3.out).new _))
                  clear ho' hk'
                  go_wp2_with fail
                  go_roundw
                  case rel => exact ⟨k + 1, G', C', by omega, by go_num, by rw [HS.out]; exact HO'.out, HK'.out⟩
                  case measure => simp [intOf]; omega
                · obtain rfl : k = n := by omega
                  obtain ⟨Am, cm, rfl, hlm, _⟩ := ho.lies
                  rw [Mx.len_matl]
                  have OY := Lib.hid (Of_sh (A := Am) (show Sh k k fm (Mx.matl k k fm) from ⟨rfl, by omega, by omega, by omega, by omega⟩) cm wr hlm)
                  rw [HSD.out] at OY
                  have MO := Lib.hid (fun w => rMod_any x w (by omega) (by omega))
                  rw [HXV.out] at MO
                  clear ho hkp hlm
                  go_wp2_with fail
                  refine (OY.out).mono ?_; rintro e w8 ⟨rfl, k8⟩
                  have K8 := Lib.hid (HK.out.trans k8); clear k8
                  go_wp2_with fail
                  refine (MO.out w8).mono ?_; rintro e w9 ⟨rfl, rfl⟩
                  go_wp2_with fail
                  go_ret
                  exact ⟨ret_bool (by simp), K8.out⟩
      · have II := Lib.hid (fun w => law2In_any i 0 ((n : Int) - 1) w false (by simp; omega))
        have KK := Lib.hid K3.out
        clear hi
        go_wp2_with fail
        refine (II.out w3).mono ?_; rintro e w4 ⟨rfl, rfl⟩
        by_cases h51 : n < 1
        · go_wp2_with fail
          go_ret
          exact ⟨rfl, KK.out⟩
        · by_cases h52 : 5 < n
          · go_wp2_with fail
            go_ret
            exact ⟨rfl, KK.out⟩
          · go_wp2_with fail
            go_loopw [11, 12] (fun v i wr => ∃ (k : Nat) (G C : Nat → Nat), k ≤ n ∧ i = .int .i64 (k : Int) ∧ OwnM wr w.heap.size v G C (Mx.matl k n fm) ∧ Kp w wr) (fun _ i _ => n - (intOf i).toNat)
            case atStart => exact ⟨0, fun _ => 0, fun _ => 0, Nat.zero_le _, rfl, ownM_none _ _ _ _, KK.out⟩
            case round =>
              obtain ⟨k, G, C, hk, rfl, ho, hkp⟩ := hrel
              have HO := Lib.hid ho
              have HK := Lib.hid hkp
              by_cases hlt : k < n
              · obtain ⟨m, hm, hml⟩ := HIN.out k hlt
                obtain ⟨ad, rfl, hadl, y1⟩ := HL.out k (by rw [HN.out]; exact hlt)
                have y2 := (hkp.cell (p := ad.add k) (by rw [block_add]; exact hadl)).trans y1
                rw [hml] at y2
                have Y2 := Lib.hid (show ∀ w2, Kp wr w2 → w2.cell? (ad.add k) = some (.int .i64 (m : Int)) from fun w2 h => (h.cell (p := ad.add k) (by rw [block_add]; exact Nat.lt_of_lt_of_le hadl hkp.size)).trans y2)
                have HS := Lib.hid (show Mx.matl (k + 1) n fm = Mx.matl k n fm ++ [(Mx.row n fun _ => 0).set m 1] by
                  rw [Mx.matl, Mx.tab_snoc, Mx.row_set]
                  congr 2
                  refine Mx.row_ext fun j _ => ?_
                  rw [HFM.out]
                  show (((if l.getD k 0 = (j : Int) then (1 : Fp.F) else 0)).val : Int) = _
                  by_cases e : j = m
                  · rw [if_pos e, if_pos (by rw [hml, e])]; rfl
                  · rw [if_neg e, if_neg (fun e' => e (by rw [hml] at e'; omega))]; rfl)
                have HAP := Lib.hid (show ∀ i, i < (Mx.matl k n fm).length → G i ≠ wr.heap.size from fun i hi => by have := (HO.out.lt hi).2; omega)
                clear ho hkp hml y1 y2
                go_wp2_with (first
                  | (at_make; refine wpList_make_full _ rfl _ _ 35 rfl wr.heap.size 3 i0 (.int .i64 0) 1 Try.underlying35 hif hz0 hz1 _ _ _ _ n rfl rfl rfl rfl (by rw [hz2]; omega) (by unfold maxLen; omega) (Nat.le_refl _) ?_; intro w2 hown hgrow; have kp2 : Kp wr w2 := (Kp.rfl' wr).grown hgrow (by simp) (fun k hk => by cases hk); have ow := own_made hown; have hcell := own_cell ow m (by rw [Mx.len_row]; exact hm); have hfree := own_free ow m; have y2 := Y2.out w2 kp2; have kp3 := Lib.hid (kp2.put (p := ⟨wr.heap.size, m, none⟩) (Nat.le_refl _) (.int .i64 1)); have ow3 := Lib.hid (own_put ow m 1); have om3 := Lib.hid (HO.out.kp kp3.out))
                  | (at_builtin; refine wpList_pushM rfl _ _ rfl w.heap.size _ G C (Mx.matl k n fm) _ wr.heap.size n n _ 1 (by rw [List.length_set, Mx.len_row]) rfl rfl (om3.out.new _) (cell_made _ _ _ _ 0 (size_set _ _ _)) ((ow3.out.from HK.out.size).new _) HAP.out (by rw [Mx.len_matl]; omega) (Nat.le_trans HK.out.size (Nat.le_trans kp3.out.size ((Kp.rfl' _).new _).size)) ?_; intro v' w' G' C' ho' hk'))
                have HO' := Lib.hid ho'
                have HK' := Lib.hid (hk' w (Nat.le_refl _) ((HK.out.trans kp3.out).new _))
                clear ho' hk'
                go_wp2_with fail
                go_roundw
                case rel => exact ⟨k + 1, G', C', by omega, by go_num, by rw [HS.out]; exact HO'.out, HK'.out⟩
                case measure => simp [intOf]; omega
              · obtain rfl : k = n := by omega
                obtain ⟨Am, cm, rfl, hlm, _⟩ := ho.lies
                rw [Mx.len_matl]
                have OY := Lib.hid (Of_sh (A := Am) (show Sh k k fm (Mx.matl k k fm) from ⟨rfl, by omega, by omega, by omega, by omega⟩) cm wr hlm)
                rw [HSD.out] at OY
                have MO := Lib.hid (fun w => rMod_any x w (by omega) (by omega))
                rw [HXV.out] at MO
                clear ho hkp hlm
                go_wp2_with fail
                refine (OY.out).mono ?_; rintro e w8 ⟨rfl, k8⟩
                have K8 := Lib.hid (HK.out.trans k8); clear k8
                go_wp2_with fail
                refine (MO.out w8).mono ?_; rintro e w9 ⟨rfl, rfl⟩
                go_wp2_with fail
                go_ret
                exact ⟨ret_bool (by simp), K8.out⟩

end Go.Proofs.Ytfjajcfcbjmbpaa
