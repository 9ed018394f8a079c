/- The law TreeRows. -/
import Derived.Test.YtgfhmffkdhfoeaaTrFact
import Derived.Test.YtgfhmffkdhfoeaaSumG
import Derived.Test.YtgfhmffkdhfoeaaZFlip
namespace Go.Proofs.Ytgfhmffkdhfoeaa
open Go.ChangeShapes Go.WideShapes Go.ChangeAt Go.RowKit
set_option linter.unusedVariables false

theorem sm_sg (f : Nat → Int) : ∀ n, Ka.sm n f = Zx.sg n f
  | 0 => rfl
  | n + 1 => by show Ka.sm n f + f n = Zx.sg n f + f n; rw [sm_sg f n]
theorem sm_row {n : Nat} (f : Nat → Int) : Ka.sm n (Ka.at' (Mx.row n f)) = Zx.sg n f := by
  rw [← sm_sg]
  exact Ka.sm_congr fun i hi => Mx.row_at _ _ _ hi
set_option maxRecDepth 100000 in
set_option maxHeartbeats 3200000 in
theorem walk_TreeRows (n : Int) (A : Option Addr) (m : List (List Int)) (c : Nat) (w : World) (ha : LiesM w A m) :
    Calls Try.prog 4 #[.int .i64 n, .slice A m.length c] w fun e w' => e = .returned (.bool true) ∧ Kp w w' := by
  have FA := Lib.hid (fun w => treeFact_any w)
  obtain ⟨q, hq⟩ : ∃ q, q = m.length := ⟨_, rfl⟩
  rw [← hq]
  have HA := Lib.hid ha
  rcases gr_or n m with ⟨k, l, rfl, s⟩ | h
  · have LA := Lib.hid (fun w h => Lapl_ok k l m s A q c w h hq.symm)
    have hk1 := s.n1
    have hk6 := s.n6
    have hq15 : q ≤ 15 := by rw [hq, s.len]; exact s.few
    have AB := Lib.hid (lpm_ab (l := l) s.few)
    have MID := Lib.hid (show Zx.sg k (fun i => lpm l i i) = 2 * (q : Int) by rw [hq, s.len]; exact Zx.lap_mid s.ok s.ne)
    have ROW := Lib.hid (fun i => show Zx.sg k (lpm l i) = 0 from Zx.lap_sum (Zx.lab_id k) s.ok i)
    have SYM := Lib.hid (fun i j => show lpm l i j = Zx.flip (lpm l) i j from Zx.lap_flip _ _ i j)
    generalize lpm l = f at *
    have MB := Lib.hid (sg_mid (f := fun i => f i i) fun i => AB.out i i)
    clear ha hq s
    go_enter Try.func4, Try.ntmps4
    go_wp2_with fail
    refine (FA.out _).mono ?_; rintro e w1 ⟨rfl, k1⟩
    have K1 := Lib.hid k1
    clear k1
    go_wp2_with fail
    refine (LA.out _ (HA.out.keep K1.out)).mono ?_; rintro e w2 ⟨g, G, rfl, hg, hlt, k2⟩
    have G2 := Lib.hid hg
    have K2 := Lib.hid (K1.out.trans k2)
    clear hg hlt k2
    go_wp2_with fail
    go_loopw [8, 9] (fun v i wr => ∃ t : Nat, t ≤ k ∧ i = .int .i64 (t : Int) ∧ v = .int .i64 (Zx.sg t fun i => f i i) ∧ Grid wr g G k k f ∧ Kp w wr) (fun _ i _ => k - (intOf i).toNat)
    case atStart => exact ⟨0, Nat.zero_le _, rfl, rfl, G2.out, K2.out⟩
    case round =>
      obtain ⟨t, ht, rfl, rfl, hg, hk⟩ := hrel
      by_cases hlt : t < k
      · have x1 := hg.cell hlt
        have x2 := hg.el hlt hlt
        have SU := Lib.hid (rsum_any (some ⟨G t, 0, none⟩) (Mx.row k (f t)) k k wr (hg.row t hlt).lies (Mx.len_row _ _) (by omega) fun j => by
          by_cases hj : j < k
          · have := AB.out t j
            rw [show Ka.at' (Mx.row k (f t)) j = f t j from Mx.row_at _ _ _ hj]; omega
          · rw [show Ka.at' (Mx.row k (f t)) j = 0 by unfold Ka.at'; rw [List.getD_eq_getElem?_getD, List.getElem?_eq_none (by rw [Mx.len_row]; omega)]; rfl]; omega)
        rw [sm_row, ROW.out] at SU
        have NX := Lib.hid (show Zx.sg (t + 1) (fun i => f i i) = Zx.sg t (fun i => f i i) + f t t from rfl)
        have b1 := AB.out t t
        have b2 := MB.out t
        have G3 := Lib.hid hg
        have K3 := Lib.hid hk
        generalize f t t = x at *
        generalize Zx.sg t (fun i => f i i) = y at *
        have e1 : ((k : Int) != (k : Int)) = false := by simp
        have v1 : IntKind.i64.wrap (y + x) = y + x := IntWalk.i64_in _ (by omega)
        clear hg hk
        go_wp2_with fail
        refine (SU.out).mono ?_; rintro e w4 ⟨rfl, rfl⟩
        go_wp2_with fail
        go_roundw
        case rel => exact ⟨t + 1, by omega, by go_num, by rw [NX.out], G3.out, K3.out⟩
        case measure => simp [intOf]; omega
      · obtain rfl : t = k := by omega
        rw [MID.out]
        have L3 := Lib.hid hg.lies
        have K3 := Lib.hid hk
        have FL := Lib.hid (rFlipZ_any (some ⟨g, 0, none⟩) f t t t wr hg.lies (by omega) (by omega) (by omega))
        clear hg hk
        have e1 : ((2 * (q : Int)) == 2 * (q : Int)) = true := by simp
        go_wp2_with fail
        refine (FL.out).mono ?_; rintro e w4 ⟨B, d, rfl, hl, hk⟩
        have L4 := Lib.hid hl
        have K4 := Lib.hid (K3.out.trans hk)
        have SA := Lib.hid (rSameZ_any (some ⟨g, 0, none⟩) B f (Zx.flip f) t t t d w4 (L3.out.keep hk) hl (by omega) (by omega))
        clear hl hk
        go_wp2_with fail
        refine (SA.out).mono ?_; rintro e w5 ⟨b, rfl, hb, hk⟩
        obtain rfl : b = true := hb.2 fun i j _ _ => SYM.out i j
        have K5 := Lib.hid (K4.out.trans hk)
        clear hk hb
        go_wp2_with fail
        go_ret
        exact ⟨rfl, K5.out⟩
  · have LA := Lib.hid (fun w hw => Lapl_no n A m q c w hw hq.symm h)
    rw [errOf_ne _ h] at LA
    generalize trcd n m = z at *
    clear ha hq h
    go_enter Try.func4, Try.ntmps4
    go_wp2_with fail
    refine (FA.out _).mono ?_; rintro e w1 ⟨rfl, k1⟩
    have K1 := Lib.hid k1
    clear k1
    go_wp2_with fail
    refine (LA.out _ (HA.out.keep K1.out)).mono ?_; rintro e w2 ⟨rfl, k2⟩
    have K2 := Lib.hid (K1.out.trans k2)
    clear k2
    go_wp2_with fail
    go_ret
    exact ⟨rfl, K2.out⟩

end Go.Proofs.Ytgfhmffkdhfoeaa
