/- Contract of package sturm's negatedRest (made by tools/gen_SuC3.py). -/
import Derived.Test.YtbdpcpodmmhjaaaSuC2
import Derived.Test.YtbdpcpodmmhjaaaStT
import Derived.StillTailTactics
namespace Go.Proofs.Ytbdpcpodmmhjaaa
open Go.ChangeShapes Go.WideShapes Go.ChangeAt Go.RowKit
set_option linter.unusedVariables false

theorem neg_at (f : List Int) (i : Nat) : (f.map (- ·)).getD i 0 = -(f.getD i 0) := by
  rw [Stu.neg_is, Stu.getD_scale]; omega
theorem bn_any {l : List Int} {B : Int} (h : Stu.Bn B l) (hB : 0 ≤ B) (k : Nat) : -B ≤ l.getD k 0 ∧ l.getD k 0 ≤ B := h.at hB k

set_option maxRecDepth 100000 in
set_option maxHeartbeats 6400000 in
theorem urest_any (A B : Option Addr) (f g : List Int) (n p c d : Nat) (w : World) (ha : Lies w A f) (hb : Lies w B g) (hn : f.length = n) (hp : g.length = p) (n1 : 1 ≤ n) (n4 : n ≤ 4) (p2 : 2 ≤ p) (p4 : p ≤ 4)
    (X Y : Int) (hX : 0 ≤ X) (hY : 1 ≤ Y) (bX : Stu.Bn X f) (bY : Stu.Bn Y g) (tg : Stu.Tp g) (fit : X * (2 * Y) ^ (n + 1 - p) ≤ 4000000000000000000) (cap : X ≤ 4000000000000000000 ∧ Y ≤ 4000000000000000000) :
    Calls Try.prog 26 #[.slice A n c, .slice B p d] w fun e w' => ∃ A' c', e = .returned (.slice A' (Stu.nr f g).length c') ∧ (Stu.nr f g).length ≤ c' ∧ Lies w' A' (Stu.nr f g) ∧ (∀ ad, A' = some ad → w.heap.size ≤ ad.block) ∧ Kp w w' := by
  obtain ⟨i0, hi, hz0, hz1, hz2⟩ := info_parts int_info
  obtain ⟨q, hq⟩ : ∃ q, p = q + 1 := ⟨p - 1, by omega⟩
  obtain ⟨adB, rfl, _, xb⟩ := hb q (by omega)
  have HA := Lib.hid ha
  have HB := Lib.hid hb
  have HN := Lib.hid hn
  have HP' := Lib.hid hp
  have BX := Lib.hid (fun k => bn_any bX hX k)
  have NR := Lib.hid (Stu.nr_nxs f g (by omega))
  rw [hn, hp] at NR
  obtain ⟨S, hS⟩ : ∃ S, S = n + 1 - p := ⟨_, rfl⟩
  rw [← hS] at fit NR
  have FIT := Lib.hid (fun s (h : s < S) => Stu.step_fit hX hY h fit)
  have NB := Lib.hid (fun s => Stu.nxs_bn s g (f.map (- ·)) X Y hX hY bX.neg bY)
  have BY := Lib.hid (fun k => bn_any bY (show 0 ≤ Y by omega) k)
  have NL := Lib.hid (fun s => Stu.nxs_len s (f.map (- ·)) g)
  have LF := Lib.hid (show (f.map (- ·)).length = n by rw [List.length_map]; exact hn)
  have TPG := Lib.hid (show Stu.tp g = g.getD q 0 by unfold Stu.tp; rw [hp, hq]; rfl)
  have TPZ := Lib.hid (show Stu.tp g ≠ 0 from tg fun e => by rw [e] at hp; simp at hp; omega)
  have HS := Lib.hid hS
  have eqp : (p : Int) - 1 = (q : Int) := by omega
  have EQP := Lib.hid eqp
  have HQ' := Lib.hid hq
  obtain ⟨wn, hwn⟩ : ∃ z : Nat, n = z + 1 := ⟨n - 1, by omega⟩
  have eqn : (n : Int) - 1 = (wn : Int) := by omega
  have EQN := Lib.hid eqn
  have HWN := Lib.hid hwn
  have hwp : IntKind.i64.wrap ((p : Int) - 1) = (q : Int) := by rw [eqp]; exact IntWalk.i64_in _ (by omega)
  have hwn' : IntKind.i64.wrap ((n : Int) - 1) = (wn : Int) := by rw [eqn]; exact IntWalk.i64_in _ (by omega)
  clear ha hb hn hp bX bY tg fit hS eqp eqn hwn hq
  go_enter Try.func26, Try.ntmps26
  go_wp2_with (at_make; refine wpList_make_full _ rfl _ _ 22 rfl w.heap.size 3 i0 (.int .i64 0) 1 Try.underlying22 hi hz0 hz1 _ _ _ _ n rfl rfl rfl rfl (by rw [hz2]; omega) (by unfold maxLen; omega) (Nat.le_refl _) ?_; intro w1 hown hgrow)
  have HR1 := Lib.hid (row_made hown)
  have HK1 := Lib.hid (show Kp w w1 from (Kp.rfl' w).grown hgrow (by simp) (fun k hk => by cases hk))
  obtain ⟨G, hG⟩ : ∃ g, g = w.heap.size := ⟨_, rfl⟩
  rw [← hG] at HR1
  try rw [← hG]
  have HG := Lib.hid (show w.heap.size ≤ G by omega)
  clear hown hgrow hG xb
  go_wp2_with fail
  go_loopw [20] (fun i wr => ∃ k : Nat, k ≤ n ∧ i = .int .i64 (k : Int) ∧ Row wr G (Mx.row n fun j => if j < k then -(f.getD j 0) else 0) ∧ Kp w wr) (fun i _ => n - (intOf i).toNat)
  case atStart =>
    refine ⟨0, Nat.zero_le _, rfl, ?_, HK1.out⟩
    have := HR1.out
    rw [Mx.row_rep] at this
    rw [show (Mx.row n fun j => if j < 0 then -(f.getD j 0) else 0) = Mx.row n fun _ => 0 from Mx.row_ext fun j _ => by rw [if_neg (by omega)]]
    exact this
  case round =>
    obtain ⟨k, hk, rfl, hr, hkp⟩ := hrel
    by_cases hlt : k < n
    · obtain ⟨ad, rfl, _, x1⟩ := (HA.out.keep hkp) k (by have := HN.out; omega)
      have y1 := hr.cell k (by rw [Mx.len_row]; exact hlt)
      have y2 := hr.free k
      have b1 := BX.out k
      obtain ⟨z, hz⟩ : ∃ z, z = f.getD k 0 := ⟨_, rfl⟩
      rw [← hz] at x1 b1
      have HZ := Lib.hid hz
      have hwz : IntKind.i64.wrap (-z) = -z := IntWalk.i64_in _ (by omega)
      have HP := Lib.hid (hr.put k (-z))
      have HQ := Lib.hid (hkp.put (p := ⟨G, k, none⟩) HG.out (.int .i64 (-z)))
      clear hr hkp b1 hz
      go_wp2_with fail
      go_roundw
      case rel =>
        refine ⟨k + 1, by omega, by go_num, ?_, HQ.out⟩
        have := HP.out
        rw [Mx.row_set] at this
        rw [show (Mx.row n fun j => if j < k + 1 then -(f.getD j 0) else 0) = Mx.row n fun j => if j = k then -z else if j < k then -(f.getD j 0) else 0 from Mx.row_ext fun j _ => by
          by_cases e : j = k
          · rw [if_pos e, if_pos (by omega), e, HZ.out]
          · rw [if_neg e]
            by_cases e2 : j < k
            · rw [if_pos e2, if_pos (by omega)]
            · rw [if_neg e2, if_neg (by omega)]]
        exact this
      case measure => simp [intOf]; omega
    · obtain rfl : k = n := by omega
      have HR2 := Lib.hid (show Row wr G (Mx.row k fun i => (Stu.nxs 0 (f.map (- ·)) g).getD i 0) by
        rw [show (Mx.row k fun i => (Stu.nxs 0 (f.map (- ·)) g).getD i 0) = Mx.row k fun j => if j < k then -(f.getD j 0) else 0 from Mx.row_ext fun j hj => by rw [if_pos hj]; exact neg_at f j]
        exact hr)
      have HK2 := Lib.hid hkp
      clear hr hkp HR1 HK1 hlt hk
      go_wp2_with fail
      obtain ⟨n, hkn⟩ : ∃ n, n = k := ⟨_, rfl⟩
      subst hkn
      go_loopw [9] (fun i wr => ∃ (s : Nat) (j : Int), s ≤ S ∧ j + 1 + (s : Int) = (n : Int) ∧ i = .int .i64 j ∧ Row wr G (Mx.row n fun i => (Stu.nxs s (f.map (- ·)) g).getD i 0) ∧ Kp w wr) (fun i _ => (intOf i + 1).toNat)
      case atStart => exact ⟨0, _, Nat.zero_le _, by have := HWN.out; omega, rfl, HR2.out, HK2.out⟩
      case round =>
        clear HR2 HK2
        obtain ⟨s, j, hs, hj, rfl, hr, hkp⟩ := hrel
        obtain ⟨wo, hwo⟩ : ∃ x, x = wr := ⟨_, rfl⟩
        subst hwo
        have HR := Lib.hid hr
        have HK := Lib.hid hkp
        clear hr hkp
        by_cases hlt : s < S
        · obtain ⟨t, ht⟩ : ∃ t : Nat, (t : Int) = j := ⟨j.toNat, by have := HS.out; omega⟩
          subst ht
          have htn : t < n := by omega
          have SS := Lib.hid (show t + 1 + s = n ∧ s < S from ⟨by omega, hlt⟩)
          obtain ⟨off, hoff⟩ : ∃ off : Nat, off + q = t := ⟨t - q, by have := HS.out; have := HQ'.out; omega⟩
          have OFF := Lib.hid (show off + q = t ∧ p = q + 1 ∧ t < n from ⟨hoff, HQ'.out, htn⟩)
          obtain ⟨c', hc'⟩ : ∃ c', c' = Stu.nxs s (f.map (- ·)) g := ⟨_, rfl⟩
          have lc : c'.length = t + 1 := by rw [hc', NL.out, LF.out]; omega
          obtain ⟨M, hM⟩ : ∃ M, M = X * (2 * Y) ^ s := ⟨_, rfl⟩
          have fit := FIT.out s hlt
          have bc : Stu.Bn M c' := by rw [hc', hM]; exact NB.out s
          rw [← hM] at fit
          have hc0 : Stu.tp c' = c'.getD t 0 := by unfold Stu.tp; rw [lc]; rfl
          have NX := Lib.hid (show ∀ i, (Stu.nxs (s + 1) (f.map (- ·)) g).getD i 0 = c'.getD i 0 * Stu.az (Stu.tp g) - (if off ≤ i ∧ i < off + p then Stu.tq c' g * g.getD (i - off) 0 else 0) from fun i => by
            rw [Stu.nxs_succ, ← hc', Stu.nx_at _ _ (by have := HP'.out; omega) (by have := HP'.out; have := HQ'.out; omega), show c'.length - g.length = off by have := HP'.out; have := HQ'.out; omega, HP'.out])
          have bm := fun k => bn_any bc fit.2 k
          rw [← hc'] at HR
          have zb := Stu.az_bd (BY.out q)
          have zp := Stu.az_pos TPZ.out
          rw [TPG.out] at zp
          have tb := bm t
          have BZ := Lib.hid (show ∀ k, -(M * Y) ≤ c'.getD k 0 * Stu.az (Stu.tp g) ∧ c'.getD k 0 * Stu.az (Stu.tp g) ≤ M * Y from fun k => Stu.prod_bd (bm k) (by rw [TPG.out]; omega))
          have BT := Lib.hid (show ∀ k, -(M * Y) ≤ Stu.tq c' g * g.getD k 0 ∧ Stu.tq c' g * g.getD k 0 ≤ M * Y from fun k => Stu.prod_bd (Stu.tq_bd fit.2 bc) (BY.out k))
          have K2 : M * Y * 2 ≤ 4000000000000000000 := fit.1
          have hM1 : M ≤ 4000000000000000000 := by
            have := Int.mul_le_mul_of_nonneg_left hY fit.2
            omega
          obtain ⟨cf, hcf⟩ : ∃ cf : Nat → Int, cf = fun i => c'.getD i 0 := ⟨_, rfl⟩
          obtain ⟨gf, hgf⟩ : ∃ gf : Nat → Int, gf = fun i => g.getD i 0 := ⟨_, rfl⟩
          have GF := Lib.hid (show ∀ i, g.getD i 0 = gf i from fun i => by rw [hgf])
          have CF : ∀ i, c'.getD i 0 = cf i := fun i => by rw [hcf]
          have hrr : (fun i => c'.getD i 0) = cf := hcf.symm
          rw [hrr] at HR
          have y1 := HR.out.cell t (by rw [Mx.len_row]; exact htn)
          rw [Mx.row_at _ _ _ htn] at y1
          obtain ⟨ad', e', _, y2⟩ := (HB.out.keep HK.out) q (by have := HP'.out; have := HQ'.out; omega)
          obtain rfl := Option.some.inj e'
          rw [GF.out] at y2
          have hqp : q < p := by have := HQ'.out; omega
          have TQ : Stu.tq c' g = if gf q < 0 then -(cf t) else cf t := by unfold Stu.tq; rw [TPG.out, hc0, GF.out, CF]
          have AZ : Stu.az (Stu.tp g) = if gf q < 0 then -(gf q) else gf q := by unfold Stu.az; rw [TPG.out, GF.out]
          have GQ : gf q ≠ 0 := by rw [← GF.out, ← TPG.out]; exact TPZ.out
          rw [GF.out] at zb zp
          rw [CF] at tb
          have bq := BY.out q
          rw [GF.out] at bq
          have NX' := Lib.hid (show ∀ i, (Stu.nxs (s + 1) (f.map (- ·)) g).getD i 0 = cf i * Stu.az (Stu.tp g) - (if off ≤ i ∧ i < off + p then Stu.tq c' g * gf (i - off) else 0) from fun i => by rw [NX.out, CF, GF.out])
          have BZ' := Lib.hid (show ∀ k, -(M * Y) ≤ cf k * Stu.az (Stu.tp g) ∧ cf k * Stu.az (Stu.tp g) ≤ M * Y from fun k => by rw [← CF]; exact BZ.out k)
          have BT' := Lib.hid (show ∀ k, -(M * Y) ≤ Stu.tq c' g * gf k ∧ Stu.tq c' g * gf k ≤ M * Y from fun k => by rw [← GF.out]; exact BT.out k)
          rw [TQ, AZ] at NX' 
          rw [AZ] at BZ'
          rw [TQ] at BT'
          have tj : (q : Int) ≤ (t : Int) := by omega
          generalize M * Y = MY at *
          clear NX BZ BT TQ AZ hcf hgf hrr hc' hc0 lc hM fit bc bm zb zp hj hoff NB NL e'
          obtain ⟨a, haa⟩ : ∃ a, a = cf t := ⟨_, rfl⟩
          obtain ⟨b, hbb⟩ : ∃ b, b = gf q := ⟨_, rfl⟩
          rw [← haa] at y1 tb NX' BT'
          rw [← hbb] at y2 GQ bq NX' BT' BZ'
          clear haa hbb
          by_cases hb0 : b < 0
          · rw [if_pos hb0, if_pos hb0] at NX'
            rw [if_pos hb0] at BT' BZ'
            obtain ⟨T, hT⟩ : ∃ T, T = -a := ⟨_, rfl⟩
            obtain ⟨Z, hZ⟩ : ∃ Z, Z = -b := ⟨_, rfl⟩
            have hw1 : IntKind.i64.wrap (-a) = T := by rw [hT]; exact IntWalk.i64_in _ (by omega)
            have hw2 : IntKind.i64.wrap (-b) = Z := by rw [hZ]; exact IntWalk.i64_in _ (by omega)
            rw [← hT] at NX' BT'
            rw [← hZ] at NX' BZ'
            have NX := NX'
            have BZ := BZ'
            have BT := BT'
            clear NX' BZ' BT' hT hZ GQ bq tb
            go_wp2_with fail
            go_quiet (fail)
            go_wp2_with fail
            go_loopw [58] (fun i wq => ∃ k : Nat, k ≤ n ∧ i = .int .i64 (k : Int) ∧ Row wq G (Mx.row n fun i => if i < k then cf i * Z else cf i) ∧ Kp w wq) (fun i _ => n - (intOf i).toNat)
            case atStart => exact ⟨0, Nat.zero_le _, rfl, by rw [show (Mx.row n fun i => if i < 0 then cf i * Z else cf i) = Mx.row n cf from Mx.row_ext fun i _ => by rw [if_neg (by omega)]]; exact HR.out.drewN _, HK.out.drewN _⟩
            case round =>
              obtain ⟨k, hk, rfl, hr2, hk2⟩ := hrel
              obtain ⟨wq, hwq⟩ : ∃ x, x = wr := ⟨_, rfl⟩
              subst hwq
              have HR2 := Lib.hid hr2
              have HK2 := Lib.hid hk2
              clear hr2 hk2
              by_cases hlt : k < n
              · have y1 := HR2.out.cell k (by rw [Mx.len_row]; exact hlt)
                rw [Mx.row_at _ _ _ hlt, if_neg (by omega)] at y1
                have y2 := HR2.out.free k
                have b1 := BZ.out k
                have hwm : IntKind.i64.wrap (cf k * Z) = cf k * Z := IntWalk.i64_in _ (by omega)
                have HP := Lib.hid (HR2.out.put k (cf k * Z))
                have HQ := Lib.hid (HK2.out.put (p := ⟨G, k, none⟩) HG.out (.int .i64 (cf k * Z)))
                clear b1
                go_wp2_with fail
                go_roundw
                case rel =>
                  refine ⟨k + 1, by omega, by go_num, ?_, HQ.out⟩
                  have := HP.out
                  rw [Mx.row_set] at this
                  rw [show (Mx.row n fun i => if i < k + 1 then cf i * Z else cf i) = Mx.row n fun i => if i = k then cf k * Z else if i < k then cf i * Z else cf i from Mx.row_ext fun i _ => by
                    by_cases e : i = k
                    · rw [if_pos e, if_pos (by omega), e]
                    · rw [if_neg e]
                      by_cases e2 : i < k
                      · rw [if_pos e2, if_pos (by omega)]
                      · rw [if_neg e2, if_neg (by omega)]]
                  exact this
                case measure => simp [intOf]; omega
              · obtain rfl : k = n := by omega
                have HR3 := Lib.hid (show Row wq G (Mx.row k fun i => cf i * Z) by
                  rw [show (Mx.row k fun i => cf i * Z) = Mx.row k fun i => if i < k then cf i * Z else cf i from Mx.row_ext fun i hi => by rw [if_pos hi]]
                  exact HR2.out)
                clear HR2 hlt
                go_wp2_with fail
                go_loopw [71] (fun i wz => ∃ m : Nat, m ≤ p ∧ i = .int .i64 (m : Int) ∧ Row wz G (Mx.row k fun i => cf i * Z - (if off ≤ i ∧ i < off + m then T * gf (i - off) else 0)) ∧ Kp w wz) (fun i _ => p - (intOf i).toNat)
                case atStart => exact ⟨0, Nat.zero_le _, rfl, by rw [show (Mx.row k fun i => cf i * Z - (if off ≤ i ∧ i < off + 0 then T * gf (i - off) else 0)) = Mx.row k fun i => cf i * Z from Mx.row_ext fun i _ => by rw [if_neg (by omega), Int.sub_zero]]; exact HR3.out, HK2.out⟩
                case round =>
                  obtain ⟨m, hm, rfl, hr4, hk4⟩ := hrel
                  have HR4 := Lib.hid hr4
                  have HK4 := Lib.hid hk4
                  clear hr4 hk4
                  by_cases hlm : m < p
                  · obtain ⟨ad', e', _, x1⟩ := (HB.out.keep HK4.out) m (by have := HP'.out; omega)
                    obtain rfl := Option.some.inj e'
                    rw [GF.out m] at x1
                    obtain ⟨u, hu⟩ : ∃ u : Nat, u = off + m := ⟨_, rfl⟩
                    have huk : u < k := by have := OFF.out; omega
                    have y1 := HR4.out.cell u (by rw [Mx.len_row]; exact huk)
                    rw [Mx.row_at _ _ _ huk, if_neg (by omega), Int.sub_zero] at y1
                    have y2 := HR4.out.free u
                    have b1 := BZ.out u
                    have b2 := BT.out m
                    have hw1 : IntKind.i64.wrap ((t : Int) - (q : Int)) = (off : Int) := by
                      have := OFF.out
                      rw [show (t : Int) - (q : Int) = (off : Int) by omega]; exact IntWalk.i64_in _ (by omega)
                    have hw2 : IntKind.i64.wrap ((off : Int) + (m : Int)) = (u : Int) := by
                      rw [show (off : Int) + (m : Int) = (u : Int) by omega]; exact IntWalk.i64_in _ (by omega)
                    have hw3 : IntKind.i64.wrap (T * gf m) = T * gf m := IntWalk.i64_in _ (by omega)
                    have hw4 : IntKind.i64.wrap (cf u * Z - T * gf m) = cf u * Z - T * gf m := IntWalk.i64_in _ (by omega)
                    have HP4 := Lib.hid (HR4.out.put u (cf u * Z - T * gf m))
                    have HQ4 := Lib.hid (HK4.out.put (p := ⟨G, u, none⟩) HG.out (.int .i64 (cf u * Z - T * gf m)))
                    have HU := Lib.hid hu
                    clear b1 b2 e' hu
                    go_wp2_with fail
                    go_roundw
                    case rel =>
                      refine ⟨m + 1, by omega, by go_num, ?_, HQ4.out⟩
                      have := HP4.out
                      rw [Mx.row_set] at this
                      rw [show (Mx.row k fun i => cf i * Z - (if off ≤ i ∧ i < off + (m + 1) then T * gf (i - off) else 0)) = Mx.row k fun i => if i = u then cf u * Z - T * gf m else cf i * Z - (if off ≤ i ∧ i < off + m then T * gf (i - off) else 0) from Mx.row_ext fun i _ => by
                        have hu := HU.out
                        by_cases e : i = u
                        · rw [if_pos e, if_pos (by omega), e, show u - off = m by omega]
                        · rw [if_neg e]
                          by_cases e2 : off ≤ i ∧ i < off + m
                          · rw [if_pos e2, if_pos (by omega)]
                          · rw [if_neg e2, if_neg (by omega)]]
                      exact this
                    case measure => simp [intOf]; omega
                  · obtain rfl : m = p := by omega
                    have hw5 : IntKind.i64.wrap ((t : Int) - 1) = (t : Int) - 1 := IntWalk.i64_in _ (by omega)
                    have HR5 := Lib.hid (show Row _ G (Mx.row k fun i => (Stu.nxs (s + 1) (f.map (- ·)) g).getD i 0) by
                      rw [show (Mx.row k fun i => (Stu.nxs (s + 1) (f.map (- ·)) g).getD i 0) = Mx.row k fun i => cf i * Z - (if off ≤ i ∧ i < off + m then T * gf (i - off) else 0) from Mx.row_ext fun i _ => NX.out i]
                      exact HR4.out)
                    clear HR4 HR3 hlm
                    go_wp2_with fail
                    go_roundw
                    case rel => exact ⟨s + 1, (t : Int) - 1, by have := SS.out; omega, by have := SS.out; omega, rfl, HR5.out, HK4.out⟩
                    case measure => simp [intOf]
          · have hb1 : ¬ b < 0 := hb0
            rw [if_neg hb0, if_neg hb0] at NX'
            rw [if_neg hb0] at BT' BZ'
            have NX := NX'
            have BZ := BZ'
            have BT := BT'
            clear NX' BZ' BT' GQ bq tb
            go_wp2_with fail
            go_quiet (fail)
            go_wp2_with fail
            go_loopw [58] (fun i wq => ∃ k : Nat, k ≤ n ∧ i = .int .i64 (k : Int) ∧ Row wq G (Mx.row n fun i => if i < k then cf i * b else cf i) ∧ Kp w wq) (fun i _ => n - (intOf i).toNat)
            case atStart => exact ⟨0, Nat.zero_le _, rfl, by rw [show (Mx.row n fun i => if i < 0 then cf i * b else cf i) = Mx.row n cf from Mx.row_ext fun i _ => by rw [if_neg (by omega)]]; exact HR.out.drewN _, HK.out.drewN _⟩
            case round =>
              obtain ⟨k, hk, rfl, hr2, hk2⟩ := hrel
              obtain ⟨wq, hwq⟩ : ∃ x, x = wr := ⟨_, rfl⟩
              subst hwq
              have HR2 := Lib.hid hr2
              have HK2 := Lib.hid hk2
              clear hr2 hk2
              by_cases hlt : k < n
              · have y1 := HR2.out.cell k (by rw [Mx.len_row]; exact hlt)
                rw [Mx.row_at _ _ _ hlt, if_neg (by omega)] at y1
                have y2 := HR2.out.free k
                have b1 := BZ.out k
                have hwm : IntKind.i64.wrap (cf k * b) = cf k * b := IntWalk.i64_in _ (by omega)
                have HP := Lib.hid (HR2.out.put k (cf k * b))
                have HQ := Lib.hid (HK2.out.put (p := ⟨G, k, none⟩) HG.out (.int .i64 (cf k * b)))
                clear b1
                go_wp2_with fail
                go_roundw
                case rel =>
                  refine ⟨k + 1, by omega, by go_num, ?_, HQ.out⟩
                  have := HP.out
                  rw [Mx.row_set] at this
                  rw [show (Mx.row n fun i => if i < k + 1 then cf i * b else cf i) = Mx.row n fun i => if i = k then cf k * b else if i < k then cf i * b else cf i from Mx.row_ext fun i _ => by
                    by_cases e : i = k
                    · rw [if_pos e, if_pos (by omega), e]
                    · rw [if_neg e]
                      by_cases e2 : i < k
                      · rw [if_pos e2, if_pos (by omega)]
                      · rw [if_neg e2, if_neg (by omega)]]
                  exact this
                case measure => simp [intOf]; omega
              · obtain rfl : k = n := by omega
                have HR3 := Lib.hid (show Row wq G (Mx.row k fun i => cf i * b) by
                  rw [show (Mx.row k fun i => cf i * b) = Mx.row k fun i => if i < k then cf i * b else cf i from Mx.row_ext fun i hi => by rw [if_pos hi]]
                  exact HR2.out)
                clear HR2 hlt
                go_wp2_with fail
                go_loopw [71] (fun i wz => ∃ m : Nat, m ≤ p ∧ i = .int .i64 (m : Int) ∧ Row wz G (Mx.row k fun i => cf i * b - (if off ≤ i ∧ i < off + m then a * gf (i - off) else 0)) ∧ Kp w wz) (fun i _ => p - (intOf i).toNat)
                case atStart => exact ⟨0, Nat.zero_le _, rfl, by rw [show (Mx.row k fun i => cf i * b - (if off ≤ i ∧ i < off + 0 then a * gf (i - off) else 0)) = Mx.row k fun i => cf i * b from Mx.row_ext fun i _ => by rw [if_neg (by omega), Int.sub_zero]]; exact HR3.out, HK2.out⟩
                case round =>
                  obtain ⟨m, hm, rfl, hr4, hk4⟩ := hrel
                  have HR4 := Lib.hid hr4
                  have HK4 := Lib.hid hk4
                  clear hr4 hk4
                  by_cases hlm : m < p
                  · obtain ⟨ad', e', _, x1⟩ := (HB.out.keep HK4.out) m (by have := HP'.out; omega)
                    obtain rfl := Option.some.inj e'
                    rw [GF.out m] at x1
                    obtain ⟨u, hu⟩ : ∃ u : Nat, u = off + m := ⟨_, rfl⟩
                    have huk : u < k := by have := OFF.out; omega
                    have y1 := HR4.out.cell u (by rw [Mx.len_row]; exact huk)
                    rw [Mx.row_at _ _ _ huk, if_neg (by omega), Int.sub_zero] at y1
                    have y2 := HR4.out.free u
                    have b1 := BZ.out u
                    have b2 := BT.out m
                    have hw1 : IntKind.i64.wrap ((t : Int) - (q : Int)) = (off : Int) := by
                      have := OFF.out
                      rw [show (t : Int) - (q : Int) = (off : Int) by omega]; exact IntWalk.i64_in _ (by omega)
                    have hw2 : IntKind.i64.wrap ((off : Int) + (m : Int)) = (u : Int) := by
                      rw [show (off : Int) + (m : Int) = (u : Int) by omega]; exact IntWalk.i64_in _ (by omega)
                    have hw3 : IntKind.i64.wrap (a * gf m) = a * gf m := IntWalk.i64_in _ (by omega)
                    have hw4 : IntKind.i64.wrap (cf u * b - a * gf m) = cf u * b - a * gf m := IntWalk.i64_in _ (by omega)
                    have HP4 := Lib.hid (HR4.out.put u (cf u * b - a * gf m))
                    have HQ4 := Lib.hid (HK4.out.put (p := ⟨G, u, none⟩) HG.out (.int .i64 (cf u * b - a * gf m)))
                    have HU := Lib.hid hu
                    clear b1 b2 e' hu
                    go_wp2_with fail
                    go_roundw
                    case rel =>
                      refine ⟨m + 1, by omega, by go_num, ?_, HQ4.out⟩
                      have := HP4.out
                      rw [Mx.row_set] at this
                      rw [show (Mx.row k fun i => cf i * b - (if off ≤ i ∧ i < off + (m + 1) then a * gf (i - off) else 0)) = Mx.row k fun i => if i = u then cf u * b - a * gf m else cf i * b - (if off ≤ i ∧ i < off + m then a * gf (i - off) else 0) from Mx.row_ext fun i _ => by
                        have hu := HU.out
                        by_cases e : i = u
                        · rw [if_pos e, if_pos (by omega), e, show u - off = m by omega]
                        · rw [if_neg e]
                          by_cases e2 : off ≤ i ∧ i < off + m
                          · rw [if_pos e2, if_pos (by omega)]
                          · rw [if_neg e2, if_neg (by omega)]]
                      exact this
                    case measure => simp [intOf]; omega
                  · obtain rfl : m = p := by omega
                    have hw5 : IntKind.i64.wrap ((t : Int) - 1) = (t : Int) - 1 := IntWalk.i64_in _ (by omega)
                    have HR5 := Lib.hid (show Row _ G (Mx.row k fun i => (Stu.nxs (s + 1) (f.map (- ·)) g).getD i 0) by
                      rw [show (Mx.row k fun i => (Stu.nxs (s + 1) (f.map (- ·)) g).getD i 0) = Mx.row k fun i => cf i * b - (if off ≤ i ∧ i < off + m then a * gf (i - off) else 0) from Mx.row_ext fun i _ => NX.out i]
                      exact HR4.out)
                    clear HR4 HR3 hlm
                    go_wp2_with fail
                    go_roundw
                    case rel => exact ⟨s + 1, (t : Int) - 1, by have := SS.out; omega, by have := SS.out; omega, rfl, HR5.out, HK4.out⟩
                    case measure => simp [intOf]
        · have hsS : s = S := by omega
          have TM := Lib.hid (show Stu.tm (Mx.row n fun i => (Stu.nxs s (f.map (- ·)) g).getD i 0) = Stu.nr f g by
            rw [NR.out, ← hsS]
            rw [show (Mx.row n fun i => (Stu.nxs s (f.map (- ·)) g).getD i 0) = _ from Stu.row_more _ n (by rw [NL.out, LF.out]; omega)]
            exact Stu.tm_more _ _)
          obtain ⟨R, hR⟩ : ∃ R, R = Mx.row n fun i => (Stu.nxs s (f.map (- ·)) g).getD i 0 := ⟨_, rfl⟩
          rw [← hR] at TM HR
          have LR := Lib.hid (show R.length = n by rw [hR, Mx.len_row])
          have tj : ¬ (q : Int) ≤ j := by have := HS.out; have := HQ'.out; omega
          clear hR hj hsS hlt NR NB NL
          go_wp2_with fail
          go_loop [5] (fun v => ∃ m : Nat, m ≤ n ∧ v = .slice (some ⟨G, 0, none⟩) m n ∧ Stu.tm (R.take m) = Stu.tm R) (fun v => lenOf v)
          case atStart => exact ⟨n, Nat.le_refl _, rfl, by rw [List.take_of_length_le (by rw [LR.out]; exact Nat.le_refl _)]⟩
          case round =>
            obtain ⟨m, hm, rfl, ht⟩ := hrel
            have HT := Lib.hid ht
            clear ht
            have FIN : ∀ m, m ≤ n → Stu.tm R = R.take m → ∃ A' c', Ending.returned (Value.slice (some ⟨G, 0, none⟩) m n) = .returned (.slice A' (Stu.nr f g).length c') ∧ (Stu.nr f g).length ≤ c' ∧ Lies wo A' (Stu.nr f g) ∧ (∀ ad, A' = some ad → w.heap.size ≤ ad.block) ∧ Kp w wo := fun m hm e => by
              have e2 : Stu.nr f g = R.take m := TM.out.symm.trans e
              have e3 : (Stu.nr f g).length = m := by rw [e2, List.length_take, LR.out]; omega
              exact ⟨_, n, by rw [e3], by omega, by rw [e2]; exact HR.out.lies.take m, fun ad ea => by cases ea; exact HG.out, HK.out⟩
            have FIN' := Lib.hid FIN
            clear FIN
            cases m with
            | zero =>
              have E := Lib.hid (show Stu.tm R = R.take 0 by rw [← HT.out]; rfl)
              go_wp2_with fail
              go_ret
              exact FIN'.out 0 (Nat.zero_le _) E.out
            | succ m =>
              have hmn : m < n := by omega
              have y1 := HR.out.cell m (by rw [LR.out]; exact hmn)
              have TK := Lib.hid (Stu.tm_take (l := R) (k := m) (by rw [LR.out]; exact hmn))
              obtain ⟨z, hz⟩ : ∃ z, z = R.getD m 0 := ⟨_, rfl⟩
              rw [← hz] at y1 TK
              clear hz
              by_cases h0 : z = 0
              · subst h0
                have ST := Lib.hid (show Stu.tm (R.take m) = Stu.tm R by rw [← HT.out, TK.out, Stu.tm_zero])
                go_wp2_with fail
                go_round
                case rel => exact ⟨m, by omega, rfl, ST.out⟩
                case measure => simp [lenOf]
              · have e0 : (z == 0) = false := by rw [beq_eq_false_iff_ne]; exact h0
                have E := Lib.hid (show Stu.tm R = R.take (m + 1) by rw [← HT.out, TK.out, Stu.tm_not _ h0])
                clear h0
                go_wp2_with fail
                go_ret
                exact FIN'.out (m + 1) hm E.out

end Go.Proofs.Ytbdpcpodmmhjaaa
