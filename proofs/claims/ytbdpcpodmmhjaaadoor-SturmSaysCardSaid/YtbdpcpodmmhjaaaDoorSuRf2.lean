/- Contract of the document's split (made by tools/gen_SuRf2.py). -/
import Derived.Test.YtbdpcpodmmhjaaaDoorSuRf1
import Derived.Test.YtbdpcpodmmhjaaaDoorStV
import Derived.Test.YtbdpcpodmmhjaaaDoorStN
import Derived.Test.YtbdpcpodmmhjaaaDoorOwnH
import Derived.StillTailTactics
import Derived.BigQuiet
namespace Go.Proofs.YtbdpcpodmmhjaaaDoor
open Go.ChangeShapes Go.WideShapes Go.ChangeAt Go.RowKit
set_option linter.unusedVariables false

theorem own_from {w : World} {B B' : Nat} {v : Value} {l : List Int} (h : Own w B v l) (hB : B' ≤ B) : Own w B' v l := by
  refine ⟨h.1, ?_⟩
  rcases h.2 with h2 | ⟨g, cap, cur, e, hg, r⟩
  · exact .inl h2
  · exact .inr ⟨g, cap, cur, e, by omega, r⟩

set_option maxRecDepth 100000 in
set_option maxHeartbeats 12800000 in
theorem rSplit_any (A B : Option Addr) (f g : List Int) (n p c d : Nat) (w : World) (ha : Lies w A f) (hb : Lies w B g) (hn : f.length = n) (hp : g.length = p) (hc : n ≤ c) (n4 : n ≤ 4) (p1 : 1 ≤ p) (p4 : p ≤ 4)
    (X Y : Int) (hX : 0 ≤ X) (hY : 1 ≤ Y) (bX : Stu.Bn X f) (bY : Stu.Bn Y g) (tg : Stu.Tp g) (fit : X * (2 * Y) ^ (n + 1 - p) ≤ 4000000000000000000) (cap : Y ≤ 1000000) :
    Calls Tryd.prog 20 #[.slice A n c, .slice B p d] w fun e w' => ∃ v1 v2, e = .returned (.tuple #[v1, v2]) ∧ Own w' w.heap.size v1 (Stu.dq f g) ∧ Own w' w.heap.size v2 (Stu.dr f g) ∧ Kp w w' := by
  obtain ⟨i0, hi, hz0, hz1, hz2⟩ := info_parts int_info
  obtain ⟨q, hq⟩ : ∃ q, p = q + 1 := ⟨p - 1, by omega⟩
  obtain ⟨adB, rfl, _, xb⟩ := hb q (by omega)
  have HB := Lib.hid hb
  have HN := Lib.hid hn
  have HP' := Lib.hid hp
  have DQ := Lib.hid (Stu.dq_qst f g (by omega))
  have DR := Lib.hid (Stu.dr_nxs f g (by omega))
  rw [hn, hp] at DQ DR
  obtain ⟨S, hS⟩ : ∃ S, S = n + 1 - p := ⟨_, rfl⟩
  rw [← hS] at fit DQ DR
  have FIT := Lib.hid (fun s (h : s < S) => Stu.step_fit hX hY h fit)
  have NB := Lib.hid (fun s => Stu.nxs_bn s g f X Y hX hY bX bY)
  have QB := Lib.hid (fun s => Stu.qst_bn s g f X Y hX hY bX bY)
  have BY := Lib.hid (fun k => bn_any bY (show 0 ≤ Y by omega) k)
  have NL := Lib.hid (fun s => Stu.nxs_len s f g)
  have QL := Lib.hid (fun s => show (Stu.qst s f g (List.replicate 8 0)).length = 8 by rw [Stu.qst_len, List.length_replicate])
  have TPG := Lib.hid (show Stu.tp g = g.getD q 0 by unfold Stu.tp; rw [hp, hq]; rfl)
  have TPZ := Lib.hid (show Stu.tp g ≠ 0 from tg fun e => by rw [e] at hp; simp at hp; omega)
  have HS := Lib.hid hS
  have eqp : (p : Int) - 1 = (q : Int) := by omega
  have HQ' := Lib.hid hq
  have hwp : IntKind.i64.wrap ((p : Int) - 1) = (q : Int) := by rw [eqp]; exact IntWalk.i64_in _ (by omega)
  have ST := Lib.hid (show Lies w A (Stu.nxs 0 f g) from ha)
  have FITS := Lib.hid (show X * (2 * Y) ^ S ≤ 4000000000000000000 ∧ 0 ≤ X * (2 * Y) ^ S from ⟨fit, Int.mul_nonneg hX (by have := Stu.pow_le Y hY S; omega)⟩)
  obtain ⟨b, hbb⟩ : ∃ b, b = g.getD q 0 := ⟨_, rfl⟩
  rw [← hbb] at xb TPG
  have by' := BY.out q
  rw [← hbb] at by'
  have AZ := Lib.hid (fun w' : World => absW_any b w' (by omega) (by omega))
  obtain ⟨Z, hZ⟩ : ∃ Z, Z = Stu.az b := ⟨_, rfl⟩
  rw [← hZ] at AZ
  have HZ := Lib.hid hZ
  have BYB := Lib.hid by'
  have hqp : q < p := by omega
  clear ha hb hn hp bX bY tg fit hS hq hbb by' hZ eqp
  go_enter Tryd.func20, Tryd.ntmps20
  go_wp2_with (at_make; refine wpList_make_full _ rfl _ _ 22 rfl w.heap.size 3 i0 (.int .i64 0) 1 Tryd.underlying22 hi hz0 hz1 _ _ _ _ 8 rfl rfl rfl rfl (by rw [hz2]; omega) (by unfold maxLen; omega) (Nat.le_refl _) ?_; intro w1 hown hgrow)
  have HR1 := Lib.hid (row_made hown)
  have HK1 := Lib.hid (show Kp w w1 from (Kp.rfl' w).grown hgrow (by simp) (fun k hk => by cases hk))
  obtain ⟨Gq, hG⟩ : ∃ g, g = w.heap.size := ⟨_, rfl⟩
  rw [← hG] at HR1
  try rw [← hG]
  have HG := Lib.hid (show w.heap.size ≤ Gq by omega)
  have ST1 := Lib.hid (ST.out.keep HK1.out)
  clear hown hgrow hG xb ST
  go_wp2_with fail
  go_loopw [0] (fun u wr => ∃ (s : Nat) (A' : Option Addr) (m c' : Nat), s ≤ S ∧ m + s = n ∧ u = .slice A' m c' ∧ m ≤ c' ∧ Lies wr A' (Stu.nxs s f g) ∧ Row wr Gq (Mx.row 8 fun i => (Stu.qst s f g (List.replicate 8 0)).getD i 0) ∧ Kp w wr) (fun u _ => lenOf u)
  case atStart =>
    refine ⟨0, A, n, c, Nat.zero_le _, rfl, rfl, hc, ST1.out, ?_, HK1.out⟩
    have := HR1.out
    rw [Mx.row_rep] at this
    rw [show (Mx.row 8 fun i => (Stu.qst 0 f g (List.replicate 8 0)).getD i 0) = Mx.row 8 fun _ => 0 from Mx.row_ext fun i hi => by
      show (List.replicate 8 (0 : Int)).getD i 0 = 0
      rw [List.getD_eq_getElem?_getD, List.getElem?_replicate, if_pos hi]; rfl]
    exact this
  case round =>
    clear HR1 ST1 HK1
    obtain ⟨s, A', m, c', hs, hm, rfl, hmc, hl, hrq, hkp⟩ := hrel
    obtain ⟨wo, hwo⟩ : ∃ x, x = wr := ⟨_, rfl⟩
    subst hwo
    have RQ := Lib.hid hrq
    have HK := Lib.hid hkp
    have HC := Lib.hid hl
    clear hrq hkp hl
    by_cases hlt : s < S
    · obtain ⟨t, ht⟩ : ∃ t : Nat, m = t + 1 := ⟨m - 1, by have := HS.out; omega⟩
      have TT := Lib.hid ht
      have SS := Lib.hid (show t + 1 + s = n ∧ s < S from ⟨by omega, hlt⟩)
      obtain ⟨off, hoff⟩ : ∃ off : Nat, off + q = t := ⟨t - q, by have := HS.out; have := HQ'.out; omega⟩
      have OFF := Lib.hid (show off + q = t ∧ p = q + 1 ∧ t ≤ 3 from ⟨hoff, HQ'.out, by omega⟩)
      obtain ⟨cc, hcc⟩ : ∃ cc, cc = Stu.nxs s f g := ⟨_, rfl⟩
      obtain ⟨QQ, hQQ⟩ : ∃ QQ, QQ = Stu.qst s f g (List.replicate 8 0) := ⟨_, rfl⟩
      have lc : cc.length = t + 1 := by rw [hcc, NL.out, HN.out]; omega
      have lq : QQ.length = 8 := by rw [hQQ]; exact QL.out s
      have LC := Lib.hid lc
      obtain ⟨M, hM⟩ : ∃ M, M = X * (2 * Y) ^ s := ⟨_, rfl⟩
      have fit := FIT.out s hlt
      have bc : Stu.Bn M cc := by rw [hcc, hM]; exact NB.out s
      have bq : Stu.Bn M QQ := by rw [hQQ, hM]; exact QB.out s
      rw [← hM] at fit
      have hc0 : Stu.tp cc = cc.getD t 0 := by unfold Stu.tp; rw [lc]; rfl
      rw [← hcc] at HC
      rw [← hQQ] at RQ
      obtain ⟨NXL, hNXL⟩ : ∃ N, N = Stu.nx cc g := ⟨_, rfl⟩
      have NEQ := Lib.hid (show NXL = Stu.nx (Stu.nxs s f g) g by rw [hNXL, hcc])
      have LN := Lib.hid (show NXL.length = t by rw [hNXL, Stu.nx_len, lc]; rfl)
      have lg : cc.length - g.length = off := by have := HP'.out; have := HQ'.out; omega
      have NX0 := Lib.hid (show ∀ i, NXL.getD i 0 = cc.getD i 0 * Stu.az (Stu.tp g) - (if off ≤ i ∧ i < off + p then Stu.tq cc g * g.getD (i - off) 0 else 0) from fun i => by
        rw [hNXL, Stu.nx_at _ _ (by have := HP'.out; omega) (by have := HP'.out; have := HQ'.out; omega), lg, HP'.out])
      have QX0 := Lib.hid (show ∀ i, (Stu.qst (s + 1) f g (List.replicate 8 0)).getD i 0 = if i = off then QQ.getD i 0 * Stu.az (Stu.tp g) + Stu.tq cc g else QQ.getD i 0 * Stu.az (Stu.tp g) from fun i => by
        rw [Stu.qst_succ, ← hQQ, ← hcc, Stu.qn_at _ _ _ _ (by rw [lg, lq]; omega), lg])
      have bm := fun k => bn_any bc fit.2 k
      have bqm := fun k => bn_any bq fit.2 k
      have zb := Stu.az_bd BYB.out
      have BZ0 := Lib.hid (show ∀ k, -(M * Y) ≤ cc.getD k 0 * Stu.az (Stu.tp g) ∧ cc.getD k 0 * Stu.az (Stu.tp g) ≤ M * Y from fun k => Stu.prod_bd (bm k) (by rw [TPG.out]; omega))
      have BQ0 := Lib.hid (show ∀ k, -(M * Y) ≤ QQ.getD k 0 * Stu.az (Stu.tp g) ∧ QQ.getD k 0 * Stu.az (Stu.tp g) ≤ M * Y from fun k => Stu.prod_bd (bqm k) (by rw [TPG.out]; omega))
      have BT0 := Lib.hid (show ∀ k, -(M * Y) ≤ Stu.tq cc g * g.getD k 0 ∧ Stu.tq cc g * g.getD k 0 ≤ M * Y from fun k => Stu.prod_bd (Stu.tq_bd fit.2 bc) (BY.out k))
      have TB0 := Stu.tq_bd fit.2 bc (g := g)
      have K2 : M * Y * 2 ≤ 4000000000000000000 := fit.1
      have hM1 : M ≤ M * Y := by
        have := Int.mul_le_mul_of_nonneg_left hY fit.2
        omega
      rw [TPG.out, ← HZ.out] at NX0 QX0 BZ0 BQ0
      obtain ⟨cf, hcf⟩ : ∃ cf : Nat → Int, cf = fun i => cc.getD i 0 := ⟨_, rfl⟩
      obtain ⟨qf, hqf⟩ : ∃ qf : Nat → Int, qf = fun i => QQ.getD i 0 := ⟨_, rfl⟩
      obtain ⟨gf, hgf⟩ : ∃ gf : Nat → Int, gf = fun i => g.getD i 0 := ⟨_, rfl⟩
      have GF := Lib.hid (show ∀ i, g.getD i 0 = gf i from fun i => by rw [hgf])
      have CF := Lib.hid (show ∀ i, cc.getD i 0 = cf i from fun i => by rw [hcf])
      have QF : ∀ i, QQ.getD i 0 = qf i := fun i => by rw [hqf]
      rw [show (fun i => QQ.getD i 0) = qf from hqf.symm] at RQ
      have BZ := Lib.hid (show ∀ k, -(M * Y) ≤ cf k * Z ∧ cf k * Z ≤ M * Y from fun k => by rw [← CF.out]; exact BZ0.out k)
      have BQ := Lib.hid (show ∀ k, -(M * Y) ≤ qf k * Z ∧ qf k * Z ≤ M * Y from fun k => by rw [← QF]; exact BQ0.out k)
      obtain ⟨ad0, rfl, _, y1⟩ := HC.out t (by rw [lc]; omega)
      rw [CF.out] at y1
      have tb := bm t
      rw [CF.out] at tb
      obtain ⟨a, haa⟩ : ∃ a, a = cf t := ⟨_, rfl⟩
      rw [← haa] at y1 tb
      have TQ : Stu.tq cc g = if b < 0 then -a else a := by unfold Stu.tq; rw [TPG.out, hc0, CF.out, haa]
      have eqm : (m : Int) - 1 = (t : Int) := by omega
      have hw1 : IntKind.i64.wrap ((m : Int) - 1) = (t : Int) := by rw [eqm]; exact IntWalk.i64_in _ (by omega)
      have hw2 : IntKind.i64.wrap ((t : Int) - (q : Int)) = (off : Int) := by rw [show (t : Int) - (q : Int) = (off : Int) by omega]; exact IntWalk.i64_in _ (by omega)
      have tm1 : t < m := by omega
      have g1 : (q : Int) < (m : Int) := by omega
      have g2 : decide (0 < m) = true := decide_eq_true (by omega)
      have QX1 := Lib.hid (show ∀ i, (Stu.qst (s + 1) f g (List.replicate 8 0)).getD i 0 = if i = off then qf i * Z + Stu.tq cc g else qf i * Z from fun i => by rw [QX0.out, QF])
      have NX1 := Lib.hid (show ∀ i, NXL.getD i 0 = cf i * Z - (if off ≤ i ∧ i < off + p then Stu.tq cc g * gf (i - off) else 0) from fun i => by rw [NX0.out, CF.out, GF.out])
      have BT1 := Lib.hid (show ∀ k, -(M * Y) ≤ Stu.tq cc g * gf k ∧ Stu.tq cc g * gf k ≤ M * Y from fun k => by rw [← GF.out]; exact BT0.out k)
      have TB1 := Lib.hid (show -(M * Y) ≤ Stu.tq cc g ∧ Stu.tq cc g ≤ M * Y by omega)
      rw [TQ] at QX1 NX1 BT1 TB1
      have t3 : t ≤ 3 := by omega
      have bb := BYB.out
      have mm : M ≤ 2000000000000000000 := by omega
      generalize M * Y = MY at *
      clear NX0 QX0 BZ0 BQ0 BT0 TB0 TQ hcf hqf hgf hc0 lc lq hM fit bc bq bm bqm zb hoff haa hNXL lg QF hcc hQQ hM1 ht eqm
      by_cases hb0 : b < 0
      · rw [if_pos hb0] at BT1 TB1 QX1 NX1
        obtain ⟨T, hT⟩ : ∃ T, T = -a := ⟨_, rfl⟩
        have hwT : IntKind.i64.wrap (-a) = T := by rw [hT]; exact IntWalk.i64_in _ (by omega)
        rw [← hT] at NX1 BT1 TB1 QX1
        have NX := NX1
        have QX := QX1
        have BT := BT1
        have TB := TB1
        clear NX1 QX1 BT1 TB1 hT tb bb mm
        go_wp2_with fail
        go_loopw [11, 12] (fun v i wq => ∃ k : Nat, k ≤ t ∧ i = .int .i64 (k : Int) ∧ Own wq wo.heap.size v (NXL.take k) ∧ Kp wo wq) (fun _ i _ => t - (intOf i).toNat)
        case atStart => exact ⟨0, Nat.zero_le _, rfl, Own.none _ _, Kp.rfl' _⟩
        case round =>
          obtain ⟨k, hk, rfl, ho, hkq⟩ := hrel
          have HO := Lib.hid ho
          have HK2 := Lib.hid hkq
          clear ho hkq
          have hwk : IntKind.i64.wrap ((k : Int) + 1) = (k : Int) + 1 := IntWalk.i64_in _ (by omega)
          by_cases hlt : k < t
          · have hlt' : (k : Int) + 1 < (m : Int) := by have := TT.out; omega
            obtain ⟨ad, ea, _, x1⟩ := (HC.out.keep HK2.out) k (by have := LC.out; have := TT.out; omega)
            obtain rfl := Option.some.inj ea
            rw [CF.out] at x1
            have b1 := BZ.out k
            have hwm : IntKind.i64.wrap (cf k * Z) = cf k * Z := IntWalk.i64_in _ (by omega)
            have TK := Lib.hid (Stu.tm_take (l := NXL) (k := k) (by rw [LN.out]; exact hlt))
            rw [NX.out k] at TK
            have hlen : (NXL.take k).length + 1 ≤ 17000000000000 := by rw [List.length_take]; omega
            have HSZ := HK2.out.size
            have CA := Lib.hid (fun nn : Nat => AZ.out (wr.drewN nn))
            by_cases hof : off ≤ k
            · obtain ⟨u, hu⟩ : ∃ u : Nat, u + off = k := ⟨k - off, by omega⟩
              have hwu : IntKind.i64.wrap ((k : Int) - (off : Int)) = (u : Int) := by rw [show (k : Int) - (off : Int) = (u : Int) by omega]; exact IntWalk.i64_in _ (by omega)
              have hup : u < p := by have := OFF.out; omega
              obtain ⟨adg, eg, _, x2⟩ := (HB.out.keep (HK.out.trans HK2.out)) u (by have := HP'.out; omega)
              obtain rfl := Option.some.inj eg
              rw [GF.out] at x2
              have b2 := BT.out u
              have hw3 : IntKind.i64.wrap (T * gf u) = T * gf u := IntWalk.i64_in _ (by omega)
              have hw4 : IntKind.i64.wrap (cf k * Z - T * gf u) = cf k * Z - T * gf u := IntWalk.i64_in _ (by omega)
              have TK2 := Lib.hid (show NXL.take (k + 1) = NXL.take k ++ [cf k * Z - T * gf u] by
                rw [TK.out, if_pos (by have := OFF.out; omega), show k - off = u by omega])
              have hof' : (off : Int) ≤ (k : Int) := by omega
              clear b1 b2 eg hu hof TK ea
              go_wp2_with fail
              go_quiet ((first
                | (with_reducible exact quiet_here (CA.out _))))
              go_wp2_with (at_builtin; refine wpList_push rfl _ _ rfl wo.heap.size _ (NXL.take k) (cf k * Z - T * gf u) _ 1 rfl rfl ((HO.out.drewN _).new _) (cell_made _ _ _ _ 0 rfl) hlen (Nat.le_trans HSZ (((Kp.rfl' _).drewN _).new _).size) ?_; intro v' w' q1 q2 _; have HO' := Lib.hid q1; have HK' := Lib.hid (show Kp wo w' from own_below ((HO.out.drewN _).new _) ((HK2.out.drewN _).new _) (Nat.le_trans HSZ (((Kp.rfl' _).drewN _).new _).size) q2); clear q1 q2)
              go_roundw
              case rel => exact ⟨k + 1, by omega, by go_num, by rw [TK2.out]; exact HO'.out, HK'.out⟩
              case measure => simp [intOf]; omega
            · have TK2 := Lib.hid (show NXL.take (k + 1) = NXL.take k ++ [cf k * Z] by
                rw [TK.out, if_neg (by omega), Int.sub_zero])
              have hof' : ¬ (off : Int) ≤ (k : Int) := by omega
              clear b1 hof TK ea
              go_wp2_with fail
              go_quiet ((first
                | (with_reducible exact quiet_here (CA.out _))))
              go_wp2_with (at_builtin; refine wpList_push rfl _ _ rfl wo.heap.size _ (NXL.take k) (cf k * Z) _ 1 rfl rfl ((HO.out.drewN _).new _) (cell_made _ _ _ _ 0 rfl) hlen (Nat.le_trans HSZ (((Kp.rfl' _).drewN _).new _).size) ?_; intro v' w' q1 q2 _; have HO' := Lib.hid q1; have HK' := Lib.hid (show Kp wo w' from own_below ((HO.out.drewN _).new _) ((HK2.out.drewN _).new _) (Nat.le_trans HSZ (((Kp.rfl' _).drewN _).new _).size) q2); clear q1 q2)
              go_roundw
              case rel => exact ⟨k + 1, by omega, by go_num, by rw [TK2.out]; exact HO'.out, HK'.out⟩
              case measure => simp [intOf]; omega
          · obtain rfl : k = t := by omega
            have hlt' : ¬ (k : Int) + 1 < (m : Int) := by have := TT.out; omega
            have TA := Lib.hid (show NXL.take k = NXL from List.take_of_length_le (by rw [LN.out]; exact Nat.le_refl _))
            rw [TA.out] at HO
            obtain ⟨wi, hwi⟩ : ∃ x, x = wr := ⟨_, rfl⟩
            subst hwi
            obtain ⟨A3, c3, hv3, l3, hc3⟩ := HO.out.cap
            rw [LN.out] at hv3 hc3
            subst hv3
            have OB := Lib.hid (own_far HO.out (p := ⟨Gq, 0, none⟩) (show Gq < wo.heap.size from RQ.out.lt))
            have RQ2 := Lib.hid (RQ.out.keep HK2.out)
            have KK := Lib.hid (HK.out.trans HK2.out)
            clear l3 hlt
            go_wp2_with fail
            go_loopw [14] (fun i wq => ∃ y : Nat, y ≤ 8 ∧ i = .int .i64 (y : Int) ∧ Row wq Gq (Mx.row 8 fun i => if i < y then qf i * Z else qf i) ∧ Own wq wo.heap.size (.slice A3 k c3) NXL ∧ Kp w wq) (fun i _ => 8 - (intOf i).toNat)
            case atStart => exact ⟨0, Nat.zero_le _, rfl, by rw [show (Mx.row 8 fun i => if i < 0 then qf i * Z else qf i) = Mx.row 8 qf from Mx.row_ext fun i _ => by rw [if_neg (by omega)]]; exact RQ2.out, HO.out, KK.out⟩
            case round =>
              clear HO RQ2 KK
              obtain ⟨y, hy, rfl, rq, ho2, kq⟩ := hrel
              have HRQ := Lib.hid rq
              have HO2 := Lib.hid ho2
              have HKQ := Lib.hid kq
              clear rq ho2 kq
              by_cases hy8 : y < 8
              · have z1 := HRQ.out.cell y (by rw [Mx.len_row]; exact hy8)
                rw [Mx.row_at _ _ _ hy8, if_neg (by omega)] at z1
                have z2 := HRQ.out.free y
                have b1 := BQ.out y
                have hwm : IntKind.i64.wrap (qf y * Z) = qf y * Z := IntWalk.i64_in _ (by omega)
                have hy8' : (y : Int) < 8 := by omega
                have CA := Lib.hid (fun w' : World => AZ.out w')
                clear b1
                go_wp2_with fail
                refine wp_region_still_tail 10 (by kernel_rfl) (by kernel_rfl) ?_
                simp only [List.take_succ_cons, List.take_zero, List.drop_succ_cons, List.drop_zero]
                repeat still_step
                still_call ((CA.out _).mono fun _ _ h => ⟨h.1, h.2.symm⟩)
                repeat still_step
                refine wpStill_nil ?_
                change wpList _ _ _ _ _ wr.drew
                go_wp2_with fail
                go_roundw
                case rel =>
                  refine ⟨y + 1, by omega, by go_num, ?_, (HO2.out.drewN 1).far (a := ⟨Gq, y, none⟩) (fun e => OB.out e.symm) _, (HKQ.out.drewN 1).put (p := ⟨Gq, y, none⟩) HG.out _⟩
                  have := (HRQ.out.drewN 1).put y (qf y * Z)
                  rw [Mx.row_set] at this
                  rw [show (Mx.row 8 fun i => if i < y + 1 then qf i * Z else qf i) = Mx.row 8 fun i => if i = y then qf y * Z else if i < y then qf i * Z else qf i from Mx.row_ext fun i _ => by
                    by_cases e : i = y
                    · rw [if_pos e, if_pos (by omega), e]
                    · rw [if_neg e]
                      by_cases e2 : i < y
                      · rw [if_pos e2, if_pos (by omega)]
                      · rw [if_neg e2, if_neg (by omega)]]
                  exact this
                case measure => simp [intOf]; omega
              · obtain rfl : y = 8 := by omega
                have HR3 := Lib.hid (show Row wr Gq (Mx.row 8 fun i => qf i * Z) by
                  rw [show (Mx.row 8 fun i => qf i * Z) = Mx.row 8 fun i => if i < 8 then qf i * Z else qf i from Mx.row_ext fun i hi => by rw [if_pos hi]]
                  exact HRQ.out)
                have of8 : off < 8 := by have := OFF.out; omega
                have of8' : (off : Int) < 8 := by omega
                have z1 := HR3.out.cell off (by rw [Mx.len_row]; exact of8)
                rw [Mx.row_at _ _ _ of8] at z1
                have z2 := HR3.out.free off
                have b1 := BQ.out off
                have b2 := TB.out
                have hwa : IntKind.i64.wrap (qf off * Z + T) = qf off * Z + T := IntWalk.i64_in _ (by omega)
                have RF := Lib.hid (show Row (wr.setCell ⟨Gq, off, none⟩ (.int .i64 (qf off * Z + T))) Gq (Mx.row 8 fun i => (Stu.qst (s + 1) f g (List.replicate 8 0)).getD i 0) by
                  rw [show (Mx.row 8 fun i => (Stu.qst (s + 1) f g (List.replicate 8 0)).getD i 0) = Mx.row 8 fun i => if i = off then qf off * Z + T else qf i * Z from Mx.row_ext fun i _ => by
                    rw [QX.out i]
                    by_cases e : i = off
                    · rw [if_pos e, if_pos e, e]
                    · rw [if_neg e, if_neg e]]
                  rw [← Mx.row_set]
                  exact HR3.out.put _ _)
                have OF := Lib.hid (HO2.out.far (a := ⟨Gq, off, none⟩) (fun e => OB.out e.symm) (.int .i64 (qf off * Z + T)))
                have KF := Lib.hid (HKQ.out.put (p := ⟨Gq, off, none⟩) HG.out (.int .i64 (qf off * Z + T)))
                clear HRQ HR3 hy8 b1 b2
                go_wp2_with fail
                go_roundw
                case rel =>
                  obtain ⟨A4, c4, e4, l4⟩ := OF.out.lies
                  rw [LN.out] at e4
                  cases e4
                  exact ⟨s + 1, A3, k, c3, by have := SS.out; omega, by have := SS.out; omega, rfl, hc3, by rw [Stu.nxs_succ]; exact NEQ.out ▸ l4, RF.out, KF.out⟩
                case measure => have := TT.out; simp [lenOf]; omega
      · have hb1 : ¬ b < 0 := hb0
        rw [if_neg hb0] at BT1 TB1 QX1 NX1
        have NX := NX1
        have QX := QX1
        have BT := BT1
        have TB := TB1
        clear NX1 QX1 BT1 TB1 tb bb mm
        go_wp2_with fail
        go_loopw [11, 12] (fun v i wq => ∃ k : Nat, k ≤ t ∧ i = .int .i64 (k : Int) ∧ Own wq wo.heap.size v (NXL.take k) ∧ Kp wo wq) (fun _ i _ => t - (intOf i).toNat)
        case atStart => exact ⟨0, Nat.zero_le _, rfl, Own.none _ _, Kp.rfl' _⟩
        case round =>
          obtain ⟨k, hk, rfl, ho, hkq⟩ := hrel
          have HO := Lib.hid ho
          have HK2 := Lib.hid hkq
          clear ho hkq
          have hwk : IntKind.i64.wrap ((k : Int) + 1) = (k : Int) + 1 := IntWalk.i64_in _ (by omega)
          by_cases hlt : k < t
          · have hlt' : (k : Int) + 1 < (m : Int) := by have := TT.out; omega
            obtain ⟨ad, ea, _, x1⟩ := (HC.out.keep HK2.out) k (by have := LC.out; have := TT.out; omega)
            obtain rfl := Option.some.inj ea
            rw [CF.out] at x1
            have b1 := BZ.out k
            have hwm : IntKind.i64.wrap (cf k * Z) = cf k * Z := IntWalk.i64_in _ (by omega)
            have TK := Lib.hid (Stu.tm_take (l := NXL) (k := k) (by rw [LN.out]; exact hlt))
            rw [NX.out k] at TK
            have hlen : (NXL.take k).length + 1 ≤ 17000000000000 := by rw [List.length_take]; omega
            have HSZ := HK2.out.size
            have CA := Lib.hid (fun nn : Nat => AZ.out (wr.drewN nn))
            by_cases hof : off ≤ k
            · obtain ⟨u, hu⟩ : ∃ u : Nat, u + off = k := ⟨k - off, by omega⟩
              have hwu : IntKind.i64.wrap ((k : Int) - (off : Int)) = (u : Int) := by rw [show (k : Int) - (off : Int) = (u : Int) by omega]; exact IntWalk.i64_in _ (by omega)
              have hup : u < p := by have := OFF.out; omega
              obtain ⟨adg, eg, _, x2⟩ := (HB.out.keep (HK.out.trans HK2.out)) u (by have := HP'.out; omega)
              obtain rfl := Option.some.inj eg
              rw [GF.out] at x2
              have b2 := BT.out u
              have hw3 : IntKind.i64.wrap (a * gf u) = a * gf u := IntWalk.i64_in _ (by omega)
              have hw4 : IntKind.i64.wrap (cf k * Z - a * gf u) = cf k * Z - a * gf u := IntWalk.i64_in _ (by omega)
              have TK2 := Lib.hid (show NXL.take (k + 1) = NXL.take k ++ [cf k * Z - a * gf u] by
                rw [TK.out, if_pos (by have := OFF.out; omega), show k - off = u by omega])
              have hof' : (off : Int) ≤ (k : Int) := by omega
              clear b1 b2 eg hu hof TK ea
              go_wp2_with fail
              go_quiet ((first
                | (with_reducible exact quiet_here (CA.out _))))
              go_wp2_with (at_builtin; refine wpList_push rfl _ _ rfl wo.heap.size _ (NXL.take k) (cf k * Z - a * gf u) _ 1 rfl rfl ((HO.out.drewN _).new _) (cell_made _ _ _ _ 0 rfl) hlen (Nat.le_trans HSZ (((Kp.rfl' _).drewN _).new _).size) ?_; intro v' w' q1 q2 _; have HO' := Lib.hid q1; have HK' := Lib.hid (show Kp wo w' from own_below ((HO.out.drewN _).new _) ((HK2.out.drewN _).new _) (Nat.le_trans HSZ (((Kp.rfl' _).drewN _).new _).size) q2); clear q1 q2)
              go_roundw
              case rel => exact ⟨k + 1, by omega, by go_num, by rw [TK2.out]; exact HO'.out, HK'.out⟩
              case measure => simp [intOf]; omega
            · have TK2 := Lib.hid (show NXL.take (k + 1) = NXL.take k ++ [cf k * Z] by
                rw [TK.out, if_neg (by omega), Int.sub_zero])
              have hof' : ¬ (off : Int) ≤ (k : Int) := by omega
              clear b1 hof TK ea
              go_wp2_with fail
              go_quiet ((first
                | (with_reducible exact quiet_here (CA.out _))))
              go_wp2_with (at_builtin; refine wpList_push rfl _ _ rfl wo.heap.size _ (NXL.take k) (cf k * Z) _ 1 rfl rfl ((HO.out.drewN _).new _) (cell_made _ _ _ _ 0 rfl) hlen (Nat.le_trans HSZ (((Kp.rfl' _).drewN _).new _).size) ?_; intro v' w' q1 q2 _; have HO' := Lib.hid q1; have HK' := Lib.hid (show Kp wo w' from own_below ((HO.out.drewN _).new _) ((HK2.out.drewN _).new _) (Nat.le_trans HSZ (((Kp.rfl' _).drewN _).new _).size) q2); clear q1 q2)
              go_roundw
              case rel => exact ⟨k + 1, by omega, by go_num, by rw [TK2.out]; exact HO'.out, HK'.out⟩
              case measure => simp [intOf]; omega
          · obtain rfl : k = t := by omega
            have hlt' : ¬ (k : Int) + 1 < (m : Int) := by have := TT.out; omega
            have TA := Lib.hid (show NXL.take k = NXL from List.take_of_length_le (by rw [LN.out]; exact Nat.le_refl _))
            rw [TA.out] at HO
            obtain ⟨wi, hwi⟩ : ∃ x, x = wr := ⟨_, rfl⟩
            subst hwi
            obtain ⟨A3, c3, hv3, l3, hc3⟩ := HO.out.cap
            rw [LN.out] at hv3 hc3
            subst hv3
            have OB := Lib.hid (own_far HO.out (p := ⟨Gq, 0, none⟩) (show Gq < wo.heap.size from RQ.out.lt))
            have RQ2 := Lib.hid (RQ.out.keep HK2.out)
            have KK := Lib.hid (HK.out.trans HK2.out)
            clear l3 hlt
            go_wp2_with fail
            go_loopw [14] (fun i wq => ∃ y : Nat, y ≤ 8 ∧ i = .int .i64 (y : Int) ∧ Row wq Gq (Mx.row 8 fun i => if i < y then qf i * Z else qf i) ∧ Own wq wo.heap.size (.slice A3 k c3) NXL ∧ Kp w wq) (fun i _ => 8 - (intOf i).toNat)
            case atStart => exact ⟨0, Nat.zero_le _, rfl, by rw [show (Mx.row 8 fun i => if i < 0 then qf i * Z else qf i) = Mx.row 8 qf from Mx.row_ext fun i _ => by rw [if_neg (by omega)]]; exact RQ2.out, HO.out, KK.out⟩
            case round =>
              clear HO RQ2 KK
              obtain ⟨y, hy, rfl, rq, ho2, kq⟩ := hrel
              have HRQ := Lib.hid rq
              have HO2 := Lib.hid ho2
              have HKQ := Lib.hid kq
              clear rq ho2 kq
              by_cases hy8 : y < 8
              · have z1 := HRQ.out.cell y (by rw [Mx.len_row]; exact hy8)
                rw [Mx.row_at _ _ _ hy8, if_neg (by omega)] at z1
                have z2 := HRQ.out.free y
                have b1 := BQ.out y
                have hwm : IntKind.i64.wrap (qf y * Z) = qf y * Z := IntWalk.i64_in _ (by omega)
                have hy8' : (y : Int) < 8 := by omega
                have CA := Lib.hid (fun w' : World => AZ.out w')
                clear b1
                go_wp2_with fail
                refine wp_region_still_tail 10 (by kernel_rfl) (by kernel_rfl) ?_
                simp only [List.take_succ_cons, List.take_zero, List.drop_succ_cons, List.drop_zero]
                repeat still_step
                still_call ((CA.out _).mono fun _ _ h => ⟨h.1, h.2.symm⟩)
                repeat still_step
                refine wpStill_nil ?_
                change wpList _ _ _ _ _ wr.drew
                go_wp2_with fail
                go_roundw
                case rel =>
                  refine ⟨y + 1, by omega, by go_num, ?_, (HO2.out.drewN 1).far (a := ⟨Gq, y, none⟩) (fun e => OB.out e.symm) _, (HKQ.out.drewN 1).put (p := ⟨Gq, y, none⟩) HG.out _⟩
                  have := (HRQ.out.drewN 1).put y (qf y * Z)
                  rw [Mx.row_set] at this
                  rw [show (Mx.row 8 fun i => if i < y + 1 then qf i * Z else qf i) = Mx.row 8 fun i => if i = y then qf y * Z else if i < y then qf i * Z else qf i from Mx.row_ext fun i _ => by
                    by_cases e : i = y
                    · rw [if_pos e, if_pos (by omega), e]
                    · rw [if_neg e]
                      by_cases e2 : i < y
                      · rw [if_pos e2, if_pos (by omega)]
                      · rw [if_neg e2, if_neg (by omega)]]
                  exact this
                case measure => simp [intOf]; omega
              · obtain rfl : y = 8 := by omega
                have HR3 := Lib.hid (show Row wr Gq (Mx.row 8 fun i => qf i * Z) by
                  rw [show (Mx.row 8 fun i => qf i * Z) = Mx.row 8 fun i => if i < 8 then qf i * Z else qf i from Mx.row_ext fun i hi => by rw [if_pos hi]]
                  exact HRQ.out)
                have of8 : off < 8 := by have := OFF.out; omega
                have of8' : (off : Int) < 8 := by omega
                have z1 := HR3.out.cell off (by rw [Mx.len_row]; exact of8)
                rw [Mx.row_at _ _ _ of8] at z1
                have z2 := HR3.out.free off
                have b1 := BQ.out off
                have b2 := TB.out
                have hwa : IntKind.i64.wrap (qf off * Z + a) = qf off * Z + a := IntWalk.i64_in _ (by omega)
                have RF := Lib.hid (show Row (wr.setCell ⟨Gq, off, none⟩ (.int .i64 (qf off * Z + a))) Gq (Mx.row 8 fun i => (Stu.qst (s + 1) f g (List.replicate 8 0)).getD i 0) by
                  rw [show (Mx.row 8 fun i => (Stu.qst (s + 1) f g (List.replicate 8 0)).getD i 0) = Mx.row 8 fun i => if i = off then qf off * Z + a else qf i * Z from Mx.row_ext fun i _ => by
                    rw [QX.out i]
                    by_cases e : i = off
                    · rw [if_pos e, if_pos e, e]
                    · rw [if_neg e, if_neg e]]
                  rw [← Mx.row_set]
                  exact HR3.out.put _ _)
                have OF := Lib.hid (HO2.out.far (a := ⟨Gq, off, none⟩) (fun e => OB.out e.symm) (.int .i64 (qf off * Z + a)))
                have KF := Lib.hid (HKQ.out.put (p := ⟨Gq, off, none⟩) HG.out (.int .i64 (qf off * Z + a)))
                clear HRQ HR3 hy8 b1 b2
                go_wp2_with fail
                go_roundw
                case rel =>
                  obtain ⟨A4, c4, e4, l4⟩ := OF.out.lies
                  rw [LN.out] at e4
                  cases e4
                  exact ⟨s + 1, A3, k, c3, by have := SS.out; omega, by have := SS.out; omega, rfl, hc3, by rw [Stu.nxs_succ]; exact NEQ.out ▸ l4, RF.out, KF.out⟩
                case measure => have := TT.out; simp [lenOf]; omega
    · have hsS : s = S := by omega
      have g1 : ¬ (q : Int) < (m : Int) := by have := HS.out; have := HQ'.out; omega
      obtain ⟨QQ, hQQ⟩ : ∃ QQ, QQ = Stu.qst s f g (List.replicate 8 0) := ⟨_, rfl⟩
      have lq : QQ.length = 8 := by rw [hQQ]; exact QL.out s
      have bq : Stu.Bn (X * (2 * Y) ^ S) QQ := by rw [hQQ, hsS]; exact QB.out S
      have bc : Stu.Bn (X * (2 * Y) ^ S) (Stu.nxs s f g) := by rw [hsS]; exact NB.out S
      have RR := Lib.hid (show Row wo Gq QQ by
        have := RQ.out
        rw [← hQQ] at this
        rw [show (Mx.row 8 fun i => QQ.getD i 0) = QQ ++ List.replicate (8 - QQ.length) 0 from Stu.row_more QQ 8 (by omega), lq, show List.replicate (8 - 8) (0 : Int) = [] from rfl, List.append_nil] at this
        exact this)
      have P1 := Lib.hid (rPlain_any (some ⟨Gq, 0, none⟩) QQ 8 8 _ wo RR.out.lies lq (Nat.le_refl _) (by omega) FITS.out.2 FITS.out.1 bq)
      have P2 := Lib.hid (fun (w' : World) (k : Kp wo w') => rPlain_any A' (Stu.nxs s f g) m c' _ w' (HC.out.keep k) (by rw [NL.out, HN.out]; omega) hmc (by omega) FITS.out.2 FITS.out.1 bc)
      rw [hQQ, hsS, ← DQ.out] at P1
      rw [hsS, ← DR.out] at P2
      clear hQQ lq bq bc RR RQ HC hlt hsS hs hm
      go_wp2_with fail
      refine (P1.out).mono ?_; rintro e w2 ⟨v1, rfl, o1, k1⟩
      have O1 := Lib.hid o1
      have K1 := Lib.hid k1
      clear o1 k1
      go_wp2_with fail
      refine (P2.out _ K1.out).mono ?_; rintro e w3 ⟨v2, rfl, o2, k2⟩
      have O2 := Lib.hid o2
      have K2 := Lib.hid k2
      have SZ := HK.out.size
      have SZ2 := K1.out.size
      clear o2 k2
      go_wp2_with fail
      go_ret2
      exact ⟨v1, v2, rfl, own_from (O1.out.kp K2.out) SZ, own_from O2.out (Nat.le_trans SZ SZ2), (HK.out.trans K1.out).trans K2.out⟩

end Go.Proofs.YtbdpcpodmmhjaaaDoor
