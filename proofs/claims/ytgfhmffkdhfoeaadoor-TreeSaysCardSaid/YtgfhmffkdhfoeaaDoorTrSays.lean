/- The walk of TreeSays. -/
import Derived.Test.YtgfhmffkdhfoeaaDoorTrRef
import Derived.Test.YtgfhmffkdhfoeaaDoorTrFact
import Derived.Test.YtgfhmffkdhfoeaaDoorErrG
import Derived.StillTailTactics
import Derived.Deep.Cut
namespace Go.Proofs.YtgfhmffkdhfoeaaDoor
open Go.ChangeShapes Go.WideShapes Go.ChangeAt Go.RowKit
set_option linter.unusedVariables false

theorem rowsT_none (w : World) : Calls Tryd.prog 11 #[.slice none 0 0, .slice none 0 0] w fun e w' => e = .returned (.bool true) ∧ Kp w w' :=
  rows_eq none none [] [] 0 0 0 0 w (LiesM.empty _ _) (LiesM.empty _ _) rfl rfl modest_nil modest_nil rfl

set_option maxRecDepth 100000 in
set_option maxHeartbeats 3200000 in
theorem trsays_bad (n : Int) (A : Option Addr) (m : List (List Int)) (q c z : Nat) (w : World) (hl : Told.Laid w) (ha : LiesM w A m) (hq : m.length = q) (hz : trcd n m = z) (h0 : z ≠ 0) :
    Calls Tryd.prog 3 #[.int .i64 n, .slice A q c] w fun e w' => e = .returned (.bool true) ∧ Kp w w' := by
  have hz100 : z ≤ 100 := by rw [← hz]; exact trcd_le n m
  have PA := Lib.hid (fun w' (k : Kp w w') => rPairs_any n A m q c w' (ha.keep k) hq)
  have CK := Lib.hid (fun w' (k : Kp w w') => TChk_any n A m q c w' (ha.keep k) hq)
  have LA := Lib.hid (fun w' (k : Kp w w') => Lapl_no n A m q c w' (ha.keep k) hq (by rw [hz]; exact h0))
  have CN := Lib.hid (fun w' (k : Kp w w') => TCnt_no n A m q c w' (ha.keep k) hq (by rw [hz]; exact h0))
  have ERZ := Lib.hid (fun (wx : World) (hx : Kp w wx) => error_says z wx (laid_kp hl hx) hz100)
  rw [hz] at PA CK LA CN
  rw [errOf_ne _ h0] at CK LA CN ERZ
  clear hl ha hq hz
  have e1 : ((z : Int) == 0) = false := by rw [beq_eq_false_iff_ne]; omega
  clear h0
  go_enter Tryd.func3, Tryd.ntmps3
  go_wp2_with fail
  refine (PA.out w (Kp.rfl' w)).mono ?_; rintro e w1 ⟨rfl, hd⟩
  have K1 := Lib.hid hd.kp; clear hd
  go_wp2_with fail
  refine (CK.out w1 K1.out).mono ?_; rintro e w2 ⟨rfl, hd⟩
  have K2 := Lib.hid (K1.out.trans hd.kp); clear hd
  go_wp2_with fail
  refine (ERZ.out w2 K2.out).mono ?_; rintro e w3 ⟨rfl, k3⟩
  have K3 := Lib.hid (K2.out.trans k3); clear k3
  go_wp2_with fail
  refine (LA.out w3 K3.out).mono ?_; rintro e w4 ⟨rfl, k4⟩
  have K4 := Lib.hid (K3.out.trans k4); clear k4
  go_wp2_with fail
  refine (ERZ.out w4 K4.out).mono ?_; rintro e w5 ⟨rfl, k5⟩
  have K5 := Lib.hid (K4.out.trans k5); clear k5
  go_wp2_with fail
  refine (rowsT_none w5).mono ?_; rintro e w6 ⟨rfl, k6⟩
  have K6 := Lib.hid (K5.out.trans k6); clear k6
  go_wp2_with fail
  refine (CN.out w6 K6.out).mono ?_; rintro e w7 ⟨rfl, k7⟩
  have K7 := Lib.hid (K6.out.trans k7); clear k7
  go_wp2_with fail
  refine (ERZ.out w7 K7.out).mono ?_; rintro e w8 ⟨rfl, k8⟩
  have K8 := Lib.hid (K7.out.trans k8); clear k8
  go_wp2_with fail
  go_ret
  exact ⟨rfl, K8.out⟩

/-- The document's row i of the matrix, after j columns. -/
def rrw (f : Nat → Nat → Int) (i j t : Nat) : Int := if t = i then -(Zx.sg j fun s => if s = i then 0 else f i s) else if t < j then f i t else 0
theorem rrw_zero (f : Nat → Nat → Int) (i t : Nat) : rrw f i 0 t = 0 := by
  unfold rrw
  split
  · rfl
  · rw [if_neg (by omega)]
theorem rrw_here (f : Nat → Nat → Int) (i t : Nat) : rrw f i (i + 1) t = rrw f i i t := by
  unfold rrw
  by_cases h : t = i
  · rw [if_pos h, if_pos h, Zx.sg_succ, if_pos rfl, Int.add_zero]
  · rw [if_neg h, if_neg h]
    by_cases h2 : t < i
    · rw [if_pos h2, if_pos (by omega)]
    · rw [if_neg h2, if_neg (by omega)]
theorem rrw_next (f : Nat → Nat → Int) {i j : Nat} (h : i ≠ j) (t : Nat) : rrw f i (j + 1) t = if t = i then rrw f i j i - f i j else if t = j then f i j else rrw f i j t := by
  unfold rrw
  by_cases h1 : t = i
  · rw [if_pos h1, if_pos h1, if_pos rfl, Zx.sg_succ, if_neg (fun y => h y.symm)]; omega
  · rw [if_neg h1, if_neg h1, if_neg h1]
    by_cases h2 : t = j
    · rw [if_pos h2, if_pos (by omega), h2]
    · rw [if_neg h2]
      by_cases h3 : t < j
      · rw [if_pos h3, if_pos (by omega)]
      · rw [if_neg h3, if_neg (by omega)]
theorem rrw_all (f : Nat → Nat → Int) {n i t : Nat} (hi : i < n) (ht : t < n) (h0 : Zx.sg n (f i) = 0) : rrw f i n t = f i t := by
  unfold rrw
  by_cases h : t = i
  · rw [if_pos h, h]
    have e := Zx.sg_extra hi (fun s => if s = i then 0 else f i s) (f i i)
    rw [Zx.sg_congr (g := f i) fun s _ => by
      by_cases hs : s = i
      · rw [if_pos hs, if_pos hs, hs]; omega
      · rw [if_neg hs, if_neg hs]; omega, h0] at e
    omega
  · rw [if_neg h, if_pos ht]
theorem rrw_ab {f : Nat → Nat → Int} (h : ∀ i j, -15 ≤ f i j ∧ f i j ≤ 15) (i j : Nat) : -(15 * (j : Int)) ≤ rrw f i j i ∧ rrw f i j i ≤ 15 * j := by
  have := sg_mid (f := fun s => if s = i then 0 else f i s) (fun s => by
    have := h i s
    show -15 ≤ (if s = i then (0 : Int) else f i s) ∧ (if s = i then (0 : Int) else f i s) ≤ 15
    split <;> omega) j
  unfold rrw
  rw [if_pos rfl]
  omega

set_option maxRecDepth 100000 in
set_option maxHeartbeats 12800000 in
theorem trsays_ok (n : Nat) (l : List (Nat × Nat)) (m : List (List Int)) (s : Gr n l m) (A : Option Addr) (q c : Nat) (w : World) (hl : Told.Laid w) (ha : LiesM w A m) (hq : m.length = q) :
    Calls Tryd.prog 3 #[.int .i64 (n : Int), .slice A q c] w fun e w' => e = .returned (.bool true) ∧ Kp w w' := by
  have PA := Lib.hid (fun w' (k : Kp w w') => rPairs_any (n : Int) A m q c w' (ha.keep k) hq)
  have CK := Lib.hid (fun w' (k : Kp w w') => TChk_any (n : Int) A m q c w' (ha.keep k) hq)
  have TR := Lib.hid (fun w' (k : Kp w w') => rTrees_any s A q c w' (ha.keep k) hq)
  have LA := Lib.hid (fun w' (k : Kp w w') => Lapl_ok n l m s A q c w' (ha.keep k) hq)
  have CN := Lib.hid (fun w' (k : Kp w w') => TCnt_ok n l m s A q c w' (ha.keep k) hq)
  have BT := Lib.hid (fun a b w' (k : Kp w w') => rBtw_any s A q c a b w' (ha.keep k) hq)
  have ERZ := Lib.hid (fun (wx : World) (hx : Kp w wx) => error_says 0 wx (laid_kp hl hx) (by decide))
  rw [s.code] at PA CK
  rw [errOf_zero] at CK ERZ
  have n6 := s.n6
  have AB := Lib.hid (lpm_ab (l := l) s.few)
  have BL := Lib.hid (fun a b (h : a ≠ b) => show lpm l a b = -(Zx.btw a b l : Int) from Zx.btw_lap h s.ne)
  have BB := Lib.hid (fun a b => Nat.le_trans (Zx.btw_le a b l) s.few)
  have ROW := Lib.hid (fun i => show Zx.sg n (lpm l i) = 0 from Zx.lap_sum (Zx.lab_id n) s.ok i)
  generalize (trn n l : Int) = T at *
  generalize lpm l = f at *
  obtain ⟨i0, hi, hz0, hz1, hz2⟩ := info_parts int_info
  clear hl ha hq s
  go_enter Tryd.func3, Tryd.ntmps3
  go_wp2_with fail
  refine (PA.out w (Kp.rfl' w)).mono ?_; rintro e w1 ⟨rfl, hd⟩
  have K1 := Lib.hid hd.kp; clear hd
  go_wp2_with fail
  refine (CK.out w1 K1.out).mono ?_; rintro e w2 ⟨rfl, hd⟩
  have K2 := Lib.hid (K1.out.trans hd.kp); clear hd
  go_wp2_with fail
  refine (ERZ.out w2 K2.out).mono ?_; rintro e w3 ⟨rfl, k3⟩
  have K3 := Lib.hid (K2.out.trans k3); clear k3
  go_wp2_with fail
  refine (TR.out w3 K3.out).mono ?_; rintro e w4 ⟨rfl, k4⟩
  have K4 := Lib.hid (K3.out.trans k4); clear k4
  clear K1 K2 K3 PA CK TR
  have O0 := Lib.hid (show OwnM w4 w4.heap.size (.slice none 0 0) (fun _ => 0) (fun _ => 0) (Mx.tab 0 n f) from ownM_none _ _ _ _)
  go_wp2_with fail
  go_loopw [7, 9] (fun v i wr => ∃ (k : Nat) (G C : Nat → Nat), k ≤ n ∧ i = .int .i64 (k : Int) ∧ OwnM wr w4.heap.size v G C (Mx.tab k n f) ∧ Kp w4 wr) (fun _ i _ => n - (intOf i).toNat)
  case atStart => exact ⟨0, _, _, Nat.zero_le _, rfl, O0.out, Kp.rfl' _⟩
  case round =>
    obtain ⟨k, G, C, hk, rfl, ho, hkp⟩ := hrel
    clear O0
    obtain ⟨wo, hwo⟩ : ∃ x, x = wr := ⟨_, rfl⟩
    subst hwo
    have HO := Lib.hid ho
    have HK := Lib.hid hkp
    clear ho hkp
    by_cases hlt : k < n
    · have HS := Lib.hid (Mx.tab_snoc k n f)
      have RA := Lib.hid (fun t (ht : t < n) => rrw_all f hlt ht (ROW.out k))
      have RH := Lib.hid (rrw_here f k)
      have RB := Lib.hid (rrw_ab AB.out k)
      go_upto_region 11 with (at_make; refine wpList_make_full _ rfl _ _ 28 rfl wo.heap.size 3 i0 (.int .i64 0) 1 Tryd.underlying28 hi hz0 hz1 _ _ _ _ n rfl rfl rfl rfl (by rw [hz2]; omega) (by unfold maxLen; omega) (Nat.le_refl _) ?_; intro w6 hown hgrow)
      have R6 := Lib.hid (show Row w6 wo.heap.size (Mx.row n (rrw f k 0)) from by
        have := row_made hown
        rw [Mx.row_rep] at this
        rwa [Mx.row_ext (fun t _ => rrw_zero f k t)])
      have K6 := Lib.hid (show Kp wo w6 from (Kp.rfl' wo).grown hgrow (by simp) (fun k hk => by cases hk))
      clear hown hgrow
      obtain ⟨g, hg⟩ : ∃ g, g = wo.heap.size := ⟨_, rfl⟩
      rw [← hg] at R6 ⊢
      have HG := Lib.hid hg
      clear hg
      go_wp2_with fail
      go_loopw [11] (fun i wq => ∃ j : Nat, j ≤ n ∧ i = .int .i64 (j : Int) ∧ Row wq g (Mx.row n (rrw f k j)) ∧ Kp wo wq) (fun i _ => n - (intOf i).toNat)
      case atStart => exact ⟨0, Nat.zero_le _, rfl, R6.out, K6.out⟩
      case round =>
        obtain ⟨j, hj, rfl, hr, hkq⟩ := hrel
        clear R6 K6
        obtain ⟨wd, hwd⟩ : ∃ x, x = wr := ⟨_, rfl⟩
        subst hwd
        have RR := Lib.hid hr
        have KR := Lib.hid hkq
        clear hr hkq
        by_cases hlt2 : j < n
        · by_cases hkj : k = j
          · have e1 : ((k : Int) != (j : Int)) = false := by rw [bne_eq_false_iff_eq, hkj]
            have R7 := Lib.hid (show Row wd g (Mx.row n (rrw f k (j + 1))) from by
              have := RR.out
              rw [← hkj] at this ⊢
              rwa [Mx.row_ext (fun t _ => RH.out t)])
            clear hkj
            go_wp2_with fail
            go_roundw
            case rel => exact ⟨j + 1, by omega, by go_num, R7.out, KR.out⟩
            case measure => simp [intOf]; omega
          · have e1 : ((k : Int) != (j : Int)) = true := by rw [bne_iff_ne]; omega
            have NX := Lib.hid (rrw_next f hkj)
            have B1 := Lib.hid (BT.out k j wd (K4.out.trans (HK.out.trans KR.out)))
            have B2 := BB.out k j
            have B3 := BL.out k j hkj
            obtain ⟨b, hb⟩ : ∃ b, b = Zx.btw k j l := ⟨_, rfl⟩
            rw [← hb] at B1 B2 B3
            obtain ⟨y, hy⟩ : ∃ y, y = rrw f k j k := ⟨_, rfl⟩
            have RB2 := RB.out j
            rw [← hy] at RB2
            have free := RR.out.free j
            obtain ⟨z9, x9⟩ : ∃ z, wd.cell? ⟨g, j, none⟩ = some z := ⟨_, RR.out.cell j (by rw [Mx.len_row]; exact hlt2)⟩
            have v1 : IntKind.i64.wrap (-(b : Int)) = -(b : Int) := IntWalk.i64_in _ (by omega)
            have HX := Lib.hid (And.intro hy B3)
            have HKJ := Lib.hid hkj
            clear hb hy B3 hkj
            go_wp2_with fail
            refine (B1.out).mono ?_; rintro e w9 ⟨rfl, rfl⟩
            obtain ⟨x, hx⟩ : ∃ x, x = f k j := ⟨_, rfl⟩
            have v2 : -(b : Int) = x := by rw [hx, HX.out.2]
            have x15 := AB.out k j
            rw [← hx] at x15
            have HXX := Lib.hid hx
            obtain ⟨w5, hw5⟩ : ∃ w5, w5 = wd.setCell ⟨g, j, none⟩ (.int .i64 x) := ⟨_, rfl⟩
            have R5 := Lib.hid (show Row w5 g ((Mx.row n (rrw f k j)).set j x) by rw [hw5]; exact RR.out.put j x)
            have K5 := Lib.hid (show Kp wo w5 by rw [hw5]; exact KR.out.put (p := ⟨g, j, none⟩) (by show wo.heap.size ≤ g; rw [HG.out]; exact Nat.le_refl _) _)
            rw [Mx.row_set] at R5
            have HW5 := Lib.hid hw5
            clear hx hw5 RR KR B1
            go_upto_region 16 with (fail)
            rw [← HW5.out]
            clear HW5 free x9
            have y1 := R5.out.cell k (by rw [Mx.len_row]; exact hlt)
            have y2 := R5.out.cell j (by rw [Mx.len_row]; exact hlt2)
            rw [Mx.row_at _ _ _ hlt, if_neg HKJ.out, ← HX.out.1] at y1
            rw [Mx.row_at _ _ _ hlt2, if_pos rfl] at y2
            have y3 := R5.out.free k
            have v3 : IntKind.i64.wrap (y - x) = y - x := IntWalk.i64_in _ (by omega)
            have R6 := Lib.hid (show Row ((w5.drewN 1).setCell ⟨g, k, none⟩ (.int .i64 (y - x))) g (Mx.row n (rrw f k (j + 1))) from by
              have := (R5.out.drewN 1).put k (y - x)
              rw [Mx.row_set] at this
              rw [Mx.row_ext (fun t _ => NX.out t), ← HX.out.1, ← HXX.out]
              exact this)
            have K6 := Lib.hid ((K5.out.drewN 1).put (p := ⟨g, k, none⟩) (by show wo.heap.size ≤ g; rw [HG.out]; exact Nat.le_refl _) (.int .i64 (y - x)))
            clear NX RB BL BB AB RA RH R5 K5
            go_still_tail 12, (by kernel_rfl)
            change wpList _ _ _ _ _ w5.drew
            go_wp2_with fail
            go_roundw
            case rel => exact ⟨j + 1, by omega, by go_num, R6.out, K6.out⟩
            case measure => simp [intOf]; omega
        · obtain rfl : j = n := by omega
          have R7 := Lib.hid (show Row wd g (Mx.row j (f k)) from by
            have := RR.out
            rwa [Mx.row_ext (fun t ht => RA.out t ht)] at this)
          have OM := Lib.hid (HO.out.kp KR.out)
          have OR := Lib.hid (show Own wd w4.heap.size (.slice (some ⟨g, 0, none⟩) j j) (Mx.row j (f k)) from R7.out.own (by rw [HG.out]; exact HK.out.size) (Mx.len_row _ _) (by omega))
          have HAP := Lib.hid (show ∀ i, i < (Mx.tab k j f).length → G i ≠ g from fun i hi => by have := (HO.out.lt hi).2; rw [HG.out]; omega)
          have HLE := Lib.hid (show (Mx.tab k j f).length + 1 ≤ 1000000 by rw [Mx.len_tab]; omega)
          clear RR R7 HO
          go_wp2_with (at_builtin; refine wpList_pushM rfl _ _ rfl w4.heap.size _ G C (Mx.tab k j f) _ g j j _ 1 (Mx.len_row _ _) rfl rfl (OM.out.new _) (cell_made _ _ _ _ 0 rfl) (OR.out.new _) HAP.out HLE.out (Nat.le_trans HK.out.size (Nat.le_trans KR.out.size ((Kp.rfl' _).new _).size)) ?_; intro v' w' G' C' ho' hk')
          have HO' := Lib.hid ho'
          have HK' := Lib.hid (hk' w4 (Nat.le_refl _) ((HK.out.trans KR.out).new _))
          clear ho' hk'
          go_wp2_with fail
          go_roundw
          case rel => exact ⟨k + 1, G', C', by omega, by go_num, by rw [HS.out]; exact HO'.out, HK'.out⟩
          case measure => simp [intOf]; omega
    · obtain rfl : k = n := by omega
      obtain ⟨A1, d2, rfl, hl, _⟩ := HO.out.lies
      rw [Mx.len_tab] at *
      have L5 := Lib.hid hl
      have K5 := Lib.hid (K4.out.trans HK.out)
      clear hl HO
      go_wp2_with fail
      refine (LA.out wo K5.out).mono ?_; rintro e w6 ⟨g, H, rfl, hg, _, k6⟩
      have K6 := Lib.hid (K5.out.trans k6)
      have L6 := Lib.hid (L5.out.keep k6)
      have M6 := Lib.hid hg.lies
      clear hg k6
      go_wp2_with fail
      refine (ERZ.out w6 K6.out).mono ?_; rintro e w7 ⟨rfl, k7⟩
      have K7 := Lib.hid (K6.out.trans k7)
      have RE := Lib.hid (rows_eq (some ⟨g, 0, none⟩) A1 _ _ k k k d2 w7 (M6.out.keep k7) (L6.out.keep k7) (Mx.len_tab _ _ _) (Mx.len_tab _ _ _) (modest_tab f (by omega) (by omega)) (modest_tab f (by omega) (by omega)) rfl)
      clear k7
      go_wp2_with fail
      refine (RE.out).mono ?_; rintro e w8 ⟨rfl, k8⟩
      have K8 := Lib.hid (K7.out.trans k8)
      clear k8
      go_wp2_with fail
      refine (CN.out w8 K8.out).mono ?_; rintro e w9 ⟨rfl, k9⟩
      have K9 := Lib.hid (K8.out.trans k9)
      clear k9
      go_wp2_with fail
      refine (ERZ.out w9 K9.out).mono ?_; rintro e w10 ⟨rfl, k10⟩
      have K10 := Lib.hid (K9.out.trans k10)
      clear k10
      go_wp2_with fail
      go_ret
      exact ⟨rfl, K10.out⟩

end Go.Proofs.YtgfhmffkdhfoeaaDoor
