/- The law TreeCut. -/
import Derived.Test.YtgfhmffkdhfoeaaTrFact
import Derived.Test.YtgfhmffkdhfoeaaTrCutM
import Derived.Test.YtgfhmffkdhfoeaaRowO
import Derived.Deep.Cut
import Derived.Deep.DeepCutAuto
namespace Go.Proofs.Ytgfhmffkdhfoeaa
open Go.ChangeShapes Go.WideShapes Go.ChangeAt Go.RowKit
set_option linter.unusedVariables false

theorem LiesM.keepHead {w w' : World} {A : Option Addr} {m : List (List Int)} {l : List (Nat × Nat)} {n : Nat} (h : LiesM w A m) (s : Gr n l m) {j : Nat} (hj : j < l.length) :
    ∃ ad a1 d1, A = some ad ∧ ad.block < w.heap.size ∧ a1.block < w.heap.size ∧ 2 ≤ d1 ∧ Lies w (some a1) (pr2 (l.getD j (0, 0))) ∧ w.cell? (ad.add j) = some (.slice (some a1) 2 d1) ∧
      w.cell? a1 = some (.int .i64 ((l.getD j (0, 0)).1 : Int)) ∧ w.cell? ⟨a1.block, a1.off + 1, none⟩ = some (.int .i64 ((l.getD j (0, 0)).2 : Int)) := by
  obtain ⟨ad, A1, d1, rfl, h0, hc1, hle, hr1⟩ := h j (by rw [s.len]; exact hj)
  rw [s.at' hj] at hc1 hr1 hle
  obtain ⟨a1, rfl, h1, c0⟩ := hr1 0 (by show 0 < 2; decide)
  obtain ⟨a1', e', _, c1⟩ := hr1 1 (by show 1 < 2; decide)
  obtain rfl := Option.some.inj e'
  rw [add_zero'] at c0
  exact ⟨ad, a1, d1, rfl, h0, h1, hle, hr1, hc1, c0, c1⟩

set_option maxRecDepth 100000 in
set_option maxHeartbeats 25600000 in
theorem walk_TreeCut (n : Int) (A : Option Addr) (m : List (List Int)) (c : Nat) (k : Int) (w : World) (ha : LiesM w A m) :
    Calls Try.prog 3 #[.int .i64 n, .slice A m.length c, .int .i64 k] w fun e w' => e = .returned (.bool true) ∧ Kp w w' := by
  have FA := Lib.hid (fun w => treeFact_any w)
  obtain ⟨q, hq⟩ : ∃ q, q = m.length := ⟨_, rfl⟩
  rw [← hq]
  have HA := Lib.hid ha
  rcases gr_or n m with ⟨N, l, rfl, s⟩ | h
  rotate_left
  · have CN := Lib.hid (fun w hw => TCnt_no n A m q c w hw hq.symm h)
    rw [errOf_ne _ h] at CN
    generalize trcd n m = z at *
    clear ha hq h
    go_enter Try.func3, Try.ntmps3
    go_wp2_with fail
    refine (FA.out _).mono ?_; rintro e w1 ⟨rfl, k1⟩
    have K1 := Lib.hid k1
    clear k1
    go_wp2_with fail
    refine (CN.out _ (HA.out.keep K1.out)).mono ?_; rintro e w2 ⟨rfl, k2⟩
    have K2 := Lib.hid (K1.out.trans k2)
    clear k2
    go_wp2_with fail
    go_ret
    exact ⟨rfl, K2.out⟩
  have CN := Lib.hid (fun w h => TCnt_ok N l m s A q c w h hq.symm)
  have hql : q = l.length := by rw [hq, s.len]
  have hq15 : q ≤ 15 := by rw [hql]; exact s.few
  have HS := Lib.hid s
  obtain ⟨t, ht⟩ : ∃ t, t = (decide (0 ≤ k) && decide (k ≤ (q : Int) - 1)) := ⟨_, rfl⟩
  have IN := Lib.hid (fun w => law4In_any k 0 ((q : Int) - 1) w t ht.symm)
  cases t
  · generalize (trn N l : Int) = T at *
    clear ha hq s hql ht
    go_enter Try.func3, Try.ntmps3
    go_wp2_with fail
    refine (FA.out _).mono ?_; rintro e w1 ⟨rfl, k1⟩
    have K1 := Lib.hid k1
    clear k1
    go_wp2_with fail
    refine (CN.out _ (HA.out.keep K1.out)).mono ?_; rintro e w2 ⟨rfl, k2⟩
    have K2 := Lib.hid (K1.out.trans k2)
    clear k2
    go_wp2_with fail
    refine (IN.out _).mono ?_; rintro e w3 ⟨rfl, rfl⟩
    go_wp2_with fail
    go_ret
    exact ⟨rfl, K2.out⟩
  have hk0 : 0 ≤ k ∧ k ≤ (q : Int) - 1 := by simpa using ht.symm
  obtain ⟨kk, rfl⟩ : ∃ kk : Nat, k = kk := ⟨k.toNat, by omega⟩
  have hkq : kk < q := by omega
  clear hk0
  clear ht
  obtain ⟨a, hea⟩ : ∃ a, (l.getD kk (0, 0)).1 = a := ⟨_, rfl⟩
  obtain ⟨b, heb⟩ : ∃ b, (l.getD kk (0, 0)).2 = b := ⟨_, rfl⟩
  have hm := s.mem (k := kk) (by omega)
  rw [hea, heb] at hm
  obtain ⟨p, hp⟩ : ∃ p, N = p + 2 := ⟨N - 2, by omega⟩
  obtain ⟨g1, g2, hsum⟩ := s.cut hp (k := kk) (by omega) hea heb
  obtain ⟨f, hf⟩ : ∃ f, f = Zx.sqz N a b := ⟨_, rfl⟩
  rw [← hf] at g2 hsum
  rw [← hql] at g1 g2 hsum
  have C1 := Lib.hid (fun A d w h => TCnt_ok N _ _ g1 A (lfp l kk q).length d w h (List.length_map _))
  have C2 := Lib.hid (fun A d w h => TCnt_ok (p + 1) _ _ g2 A (jnp f l kk q).length d w h (List.length_map _))
  have tl1 := g1.trn_le
  have tl2 := g2.trn_le
  have HSUM := Lib.hid (show (trn N l : Int) = (trn N (lfp l kk q) : Int) + (trn (p + 1) (jnp f l kk q) : Int) by rw [hsum]; simp)
  obtain ⟨T, hT⟩ : ∃ T, T = (trn N l : Int) := ⟨_, rfl⟩
  obtain ⟨T1, hT1⟩ : ∃ T, T = (trn N (lfp l kk q) : Int) := ⟨_, rfl⟩
  obtain ⟨T2, hT2⟩ : ∃ T, T = (trn (p + 1) (jnp f l kk q) : Int) := ⟨_, rfl⟩
  have b1 : 0 ≤ T1 ∧ T1 ≤ 3003 := by omega
  have b2 : 0 ≤ T2 ∧ T2 ≤ 3003 := by omega
  rw [← hT] at CN HSUM
  rw [← hT1] at C1 HSUM
  rw [← hT2] at C2 HSUM
  obtain ⟨P, hP⟩ : ∃ P, P = p + 1 := ⟨_, rfl⟩
  rw [← hP] at C2
  have hN6 := s.n6
  have hNP : (N : Int) - 1 = (P : Int) := by omega
  have FX := Lib.hid (show ∀ X, f X = if Zx.sq1 a b X = P then b else Zx.sq1 a b X from fun X => by rw [hf]; unfold Zx.sqz Zx.sq2; rw [show N - 1 = P by omega])
  obtain ⟨ad, ak, dk, rfl, h0, h1, _, _, hck, hca, hcb⟩ := LiesM.keepHead (w' := w) ha s (j := kk) (by omega)
  rw [hea] at hca
  rw [heb] at hcb
  have X0 := Lib.hid (And.intro h0 h1)
  have X1 := Lib.hid (And.intro hck (And.intro hca hcb))
  have HQ := Lib.hid hql
  clear ha hq s hql hea heb hm hp g1 g2 hsum hT hT1 hT2 hf hP tl1 tl2 h0 h1 hck hca hcb
  go_enter Try.func3, Try.ntmps3
  go_wp2_with fail
  refine (FA.out _).mono ?_; rintro e w1 ⟨rfl, k1⟩
  have K1 := Lib.hid k1
  clear k1
  go_wp2_with fail
  refine (CN.out _ (HA.out.keep K1.out)).mono ?_; rintro e w2 ⟨rfl, k2⟩
  have K2 := Lib.hid (K1.out.trans k2)
  clear k2
  have x1 := (K2.out.cell (p := ad.add kk) (by rw [block_add]; exact X0.out.1)).trans X1.out.1
  have x2 := (K2.out.cell (p := ak) X0.out.2).trans X1.out.2.1
  have x3 := (K2.out.cell (p := ⟨ak.block, ak.off + 1, none⟩) X0.out.2).trans X1.out.2.2
  go_wp2_with fail
  refine (IN.out _).mono ?_; rintro e w3 ⟨rfl, rfl⟩
  go_wp2_with fail
  clear x1 x2 x3 X0 X1
  have R0 := Lib.hid (show Rows2 w2 w.heap.size (.slice none 0 0) (.slice none 0 0) ((lfp l kk 0).map pr2) ((jnp f l kk 0).map pr2) from rows2_none _ _)
  go_loopw [10, 11, 14] (fun u v i wr => ∃ j : Nat, j ≤ q ∧ i = .int .i64 (j : Int) ∧ Rows2 wr w.heap.size u v ((lfp l kk j).map pr2) ((jnp f l kk j).map pr2) ∧ Kp w wr) (fun _ _ i _ => q - (intOf i).toNat)
  case atStart => exact ⟨0, Nat.zero_le _, rfl, R0.out, K2.out⟩
  case round =>
    obtain ⟨j, hj, rfl, hr, hkr⟩ := hrel
    clear R0 K2 K1
    obtain ⟨wo, hwo⟩ : ∃ x, x = wr := ⟨_, rfl⟩
    subst hwo
    have RR := Lib.hid hr
    have KR := Lib.hid hkr
    by_cases hlt : j < q
    · by_cases hjk : j = kk
      · have e1 : ((j : Int) == (kk : Int)) = true := by simp [hjk]
        have E1 := Lib.hid (lfp_skip l kk)
        have E2 := Lib.hid (jnp_skip f l kk)
        have EJ := Lib.hid hjk
        clear hr hkr hjk
        go_wp2_with fail
        go_roundw
        case rel => exact ⟨j + 1, by omega, by go_num, by have h := RR.out; rw [EJ.out] at h ⊢; rw [E1.out, E2.out]; exact h, KR.out⟩
        case measure => simp [intOf]; omega
      · have e1 : ((j : Int) == (kk : Int)) = false := by rw [beq_eq_false_iff_ne]; omega
        obtain ⟨ad', a1, d1, e', h0, h1, hd2, hlr, hc1, c0, c1⟩ := LiesM.keepHead (w' := w) HA.out HS.out (j := j) (by have := HQ.out; omega)
        obtain rfl := Option.some.inj e'
        have EL := Lib.hid (lfp_more l hjk)
        have EJ := Lib.hid (jnp_more f l hjk)
        have ES := Lib.hid (jnp_same f l hjk)
        have hm := HS.out.mem (k := j) (by have := HQ.out; omega)
        have len1 : ((lfp l kk j).map pr2).length + 1 ≤ 1000000 := by rw [List.length_map]; have := lfp_len l kk j; omega
        have len2 : ((jnp f l kk j).map pr2).length + 1 ≤ 1000000 := by rw [List.length_map]; have := jnp_len f l kk j; omega
        generalize l.getD j (0, 0) = ev at *
        obtain ⟨X, Y⟩ := ev
        have EL := Lib.hid (show (lfp l kk (j + 1)).map pr2 = (lfp l kk j).map pr2 ++ [pr2 (X, Y)] by rw [EL.out]; simp)
        have EJ := Lib.hid (fun h => show (jnp f l kk (j + 1)).map pr2 = (jnp f l kk j).map pr2 ++ [pr2 (f X, f Y)] by rw [EJ.out h]; simp)
        have EM := Lib.hid (fun h => show (jnp f l kk (j + 1)).map pr2 = (jnp f l kk j).map pr2 by rw [ES.out h])
        clear ES
        have D0 := Lib.hid (And.intro h0 h1)
        have D1 := Lib.hid (And.intro hc1 (And.intro c0 c1))
        have HLR := Lib.hid hlr
        have y1 := (hkr.cell (p := ad.add j) (by rw [block_add]; exact h0)).trans hc1
        have hB := hkr.size
        obtain ⟨C, hC⟩ : ∃ C, C = (lfp l kk j).map pr2 := ⟨_, rfl⟩
        obtain ⟨D, hD⟩ : ∃ C, C = (jnp f l kk j).map pr2 := ⟨_, rfl⟩
        rw [← hC] at EL len1 RR
        rw [← hD] at EJ EM len2 RR
        have F1 := Lib.hid ((RR.out.new (.cells #[.slice (some a1) 2 d1] 29)).one.old hlr (KR.out.new _))
        have F2 := Lib.hid ((RR.out.new (.cells #[.slice (some a1) 2 d1] 29)).two.old hlr (KR.out.new _))
        clear hr hkr hjk h0 h1 hlr hc1 c0 c1 hm hC hD e'
        go_upto_region 17 with (at_builtin; refine wpList_pushR2 rfl _ _ rfl w.heap.size _ _ C D (some a1) (pr2 (X, Y)) 2 d1 wo.heap.size 1 rfl hd2 rfl rfl (RR.out.new _) (cell_made _ _ _ _ 0 rfl) F1.out F2.out len1 (Nat.le_trans hB ((Kp.rfl' _).new _).size) ?_; intro u' w4 hr4 hk4)
        have R4 := Lib.hid hr4
        have K4 := Lib.hid (hk4 w (Nat.le_refl _) (KR.out.new _))
        clear hr4 hk4 F1 F2 RR KR y1 hd2
        have y1 := (K4.out.cell (p := ad.add j) (by rw [block_add]; exact D0.out.1)).trans D1.out.1
        have y2 := (K4.out.cell (p := a1) D0.out.2).trans D1.out.2.1
        have y3 := (K4.out.cell (p := ⟨a1.block, a1.off + 1, none⟩) D0.out.2).trans D1.out.2.2
        dsimp only at y2 y3
        clear D0 D1
        go_upto_if 82 with (fail)
        clear y1 y2 y3
        go_cut [15] (fun x wc => x = .int .i64 (Zx.sq1 a b X : Int) ∧ w4 = wc)
        case first =>
          by_cases hx : X = b
          · have e2 : ((X : Int) == (b : Int)) = true := by simp [hx]
            have E := Lib.hid (show Zx.sq1 a b X = a from if_pos hx)
            clear hx
            go_wp2_with fail
            go_meet
            case rel => exact ⟨by rw [E.out], rfl⟩
          · have e2 : ((X : Int) == (b : Int)) = false := by rw [beq_eq_false_iff_ne]; omega
            have E := Lib.hid (show Zx.sq1 a b X = X from if_neg hx)
            clear hx
            go_wp2_with fail
            go_meet
            case rel => exact ⟨by rw [E.out], rfl⟩
        case rest =>
        obtain ⟨rfl, rfl⟩ := hcut
        go_upto_if 86 with (fail)
        go_cut [16] (fun x wc => x = .int .i64 (Zx.sq1 a b Y : Int) ∧ w4 = wc)
        case first =>
          by_cases hx : Y = b
          · have e2 : ((Y : Int) == (b : Int)) = true := by simp [hx]
            have E := Lib.hid (show Zx.sq1 a b Y = a from if_pos hx)
            clear hx
            go_wp2_with fail
            go_meet
            case rel => exact ⟨by rw [E.out], rfl⟩
          · have e2 : ((Y : Int) == (b : Int)) = false := by rw [beq_eq_false_iff_ne]; omega
            have E := Lib.hid (show Zx.sq1 a b Y = Y from if_neg hx)
            clear hx
            go_wp2_with fail
            go_meet
            case rel => exact ⟨by rw [E.out], rfl⟩
        case rest =>
        obtain ⟨rfl, rfl⟩ := hcut
        have GX := Lib.hid (FX.out X)
        have GY := Lib.hid (FX.out Y)
        generalize Zx.sq1 a b X = X1 at *
        generalize Zx.sq1 a b Y = Y1 at *
        go_upto_if 91 with (fail)
        go_cut [15] (fun x wc => x = .int .i64 (f X : Int) ∧ w4 = wc)
        case first =>
          by_cases hx : X1 = P
          · have e2 : ((X1 : Int) == (P : Int)) = true := by simp [hx]
            have E := Lib.hid (show f X = b from GX.out.trans (if_pos hx))
            clear hx
            go_wp2_with fail
            go_meet
            case rel => exact ⟨by rw [E.out], rfl⟩
          · have e2 : ((X1 : Int) == (P : Int)) = false := by rw [beq_eq_false_iff_ne]; omega
            have E := Lib.hid (show f X = X1 from GX.out.trans (if_neg hx))
            clear hx
            go_wp2_with fail
            go_meet
            case rel => exact ⟨by rw [E.out], rfl⟩
        case rest =>
        obtain ⟨rfl, rfl⟩ := hcut
        go_upto_if 96 with (fail)
        go_cut [16] (fun x wc => x = .int .i64 (f Y : Int) ∧ w4 = wc)
        case first =>
          by_cases hx : Y1 = P
          · have e2 : ((Y1 : Int) == (P : Int)) = true := by simp [hx]
            have E := Lib.hid (show f Y = b from GY.out.trans (if_pos hx))
            clear hx
            go_wp2_with fail
            go_meet
            case rel => exact ⟨by rw [E.out], rfl⟩
          · have e2 : ((Y1 : Int) == (P : Int)) = false := by rw [beq_eq_false_iff_ne]; omega
            have E := Lib.hid (show f Y = Y1 from GY.out.trans (if_neg hx))
            clear hx
            go_wp2_with fail
            go_meet
            case rel => exact ⟨by rw [E.out], rfl⟩
        case rest =>
        obtain ⟨rfl, rfl⟩ := hcut
        clear GX GY
        by_cases hx : f X = f Y
        · have e2 : ((f X : Int) != (f Y : Int)) = false := by rw [bne_eq_false_iff_eq, hx]
          have EM' := Lib.hid (EM.out hx)
          clear hx EM EJ
          go_wp2_with fail
          go_roundw
          case rel => exact ⟨j + 1, by omega, by go_num, by rw [EL.out, EM'.out]; exact R4.out, K4.out⟩
          case measure => simp [intOf]; omega
        · have e2 : ((f X : Int) != (f Y : Int)) = true := by rw [bne_iff_ne]; omega
          have EJ' := Lib.hid (EJ.out hx)
          clear hx EM EJ
          generalize f X = x at *
          generalize f Y = y at *
          have L5 := (lies_new' w4 3 [(x : Int), (y : Int)] _ rfl).keep ((Kp.rfl' _).new (.cells #[.slice (some ⟨w4.heap.size, 0, none⟩) 2 2] 29))
          have O1 := Lib.hid (R4.out.two.fresh L5 (Nat.le_refl _))
          have O2 := Lib.hid (R4.out.one.fresh L5 (Nat.le_refl _))
          have R5 := Lib.hid ((R4.out.symm.new (.cells #[.int .i64 (x : Int), .int .i64 (y : Int)] 3)).new (.cells #[.slice (some ⟨w4.heap.size, 0, none⟩) 2 2] 29))
          have K5 := Lib.hid ((K4.out.new (.cells #[.int .i64 (x : Int), .int .i64 (y : Int)] 3)).new (.cells #[.slice (some ⟨w4.heap.size, 0, none⟩) 2 2] 29))
          have hB5 := K5.out.size
          clear L5 R4 K4
          go_wp2_with (at_builtin; refine wpList_pushR2 rfl _ _ rfl w.heap.size _ _ D _ (some ⟨w4.heap.size, 0, none⟩) (pr2 (x, y)) 2 2 (w4.heap.size + 1) 1 rfl (Nat.le_refl _) rfl rfl R5.out (cell_made _ _ _ _ 0 (by simp)) O1.out O2.out len2 hB5 ?_; intro v' w9 hr9 hk9)
          have R9 := Lib.hid hr9.symm
          have K9 := Lib.hid (hk9 w (Nat.le_refl _) K5.out)
          clear hr9 hk9 R5 K5 O1 O2
          go_wp2_with fail
          go_roundw
          case rel => exact ⟨j + 1, by omega, by go_num, by rw [EL.out, EJ'.out]; exact R9.out, K9.out⟩
          case measure => simp [intOf]; omega
    · obtain rfl : j = q := by omega
      obtain ⟨A1, c1, rfl, _, hl1⟩ := hr.one.lies
      obtain ⟨A2, c2, rfl, _, hl2⟩ := hr.two.lies
      rw [List.length_map, List.length_map]
      have L1 := Lib.hid hl1
      have L2 := Lib.hid hl2
      have D1 := Lib.hid (fun d w h => C1.out A1 d w h)
      have D2 := Lib.hid (fun d w h => C2.out A2 d w h)
      generalize (lfp l kk j).map pr2 = M1 at *
      generalize (jnp f l kk j).map pr2 = M2 at *
      generalize (lfp l kk j).length = n1 at *
      generalize (jnp f l kk j).length = n2 at *
      have e1 : (T == T1 + T2) = true := by rw [beq_iff_eq]; exact HSUM.out
      clear hr hkr hl1 hl2 C1 C2 RR
      go_wp2_with fail
      refine (D1.out _ _ L1.out).mono ?_; rintro e w5 ⟨rfl, k5⟩
      have K5 := Lib.hid (KR.out.trans k5)
      have L2' := Lib.hid (L2.out.keep k5)
      clear k5
      go_wp2_with fail
      refine (D2.out _ _ L2'.out).mono ?_; rintro e w6 ⟨rfl, k6⟩
      have K6 := Lib.hid (K5.out.trans k6)
      clear k6
      go_wp2_with fail
      go_ret
      exact ⟨rfl, K6.out⟩

end Go.Proofs.Ytgfhmffkdhfoeaa
