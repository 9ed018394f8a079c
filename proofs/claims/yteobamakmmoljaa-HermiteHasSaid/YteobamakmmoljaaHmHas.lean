/- The law HermiteHas. -/
import Derived.Test.YteobamakmmoljaaHmFact
namespace Go.Proofs.Yteobamakmmoljaa
open Go.ChangeShapes Go.WideShapes Go.ChangeAt Go.RowKit
set_option linter.unusedVariables false

theorem two_less {a b : Int} (ha : -20 ≤ a ∧ a ≤ 20) (hb : -20 ≤ b ∧ b ≤ 20) : IntKind.i64.wrap (2 * a) = 2 * a ∧ IntKind.i64.wrap (2 * a - b) = 2 * a - b :=
  ⟨IntWalk.i64_in _ (by omega), IntWalk.i64_in _ (by omega)⟩
set_option maxRecDepth 100000 in
set_option maxHeartbeats 3200000 in
theorem walk_HermiteHas_in {n : Nat} {f : Nat → Nat → Int} {m : List (List Int)} (s : Hm n f m) (A B : Option Addr) (l : List Int) (c d i j : Nat) (w : World) (ha : LiesM w A m) (hb : Lies w B l) (hi : i < n) (hj : j < n) :
    Calls Try.prog 5 #[.slice A n c, .int .i64 (i : Int), .int .i64 (j : Int), .slice B l.length d] w fun e w' => e = .returned (.bool true) ∧ Kp w w' := by
  have HA := Lib.hid ha
  have HB := Lib.hid hb
  have FA := Lib.hid (hermiteFact_any w)
  have OA := Lib.hid (fun w h => Form_ok s A c w h)
  have n3 := s.sh.n3
  have n0 := s.sh.n0
  have SM := Lib.hid s.sh.ab
  have HT := Lib.hid (fun w' (k : Kp w w') => show LiesM w' A (Mx.tab n n f) from by rw [← s.sh.eq]; exact ha.keep k)
  have IN1 := Lib.hid (fun w => law4In_any (i : Int) 0 ((n : Int) - 1) w true (by simp; omega))
  have IN2 := Lib.hid (fun w => law4In_any (j : Int) 0 ((n : Int) - 1) w true (by simp; omega))
  have hw1 : IntKind.i64.wrap ((n : Int) - 1) = (n : Int) - 1 := IntWalk.i64_in _ (by omega)
  obtain ⟨g2, hg2⟩ : ∃ g2 : Nat → Int, g2 = fun t => 2 * f i t - f j t := ⟨_, rfl⟩
  have GB := Lib.hid (show ∀ t, t < n → -60 ≤ g2 t ∧ g2 t ≤ 60 from fun t ht => by
    have h1 := s.sh.ab i t hi ht
    have h2 := s.sh.ab j t hj ht
    rw [hg2]; dsimp only; omega)
  have GL := Lib.hid (show Zx.Lat n f g2 from (((Zx.Lat.row f hi).times 2).less (Zx.Lat.row f hj)).congr fun t _ => by rw [hg2])
  have GAT := Lib.hid (show ∀ t, 2 * f i t - f j t = g2 t from fun t => by rw [hg2])
  have SUM := Lib.hid (fun (w : World) (B' : Option Addr) (d' : Nat) (h : LiesM w A m) (hb : Lies w B' (Mx.row n g2)) => Has_ok s A B' (Mx.row n g2) c d' w h hb (Mx.len_row _ _) (fun t ht => by
    rw [Mx.len_row] at ht
    rw [Mx.row_at _ _ _ ht]
    have := GB.out t ht
    omega))
  have ROW := Lib.hid (fun (y : Nat → Int) => show Zx.Lat n f (fun t => (Mx.row n y).getD t 0) ↔ Zx.Lat n f y from ⟨fun h => h.congr fun t ht => Mx.row_at _ _ _ ht, fun h => h.congr fun t ht => (Mx.row_at _ _ _ ht).symm⟩)
  have SS := Lib.hid s
  clear ha hb s hg2
  go_enter Try.func5, Try.ntmps5
  go_wp2_with fail
  refine (FA.out).mono ?_; rintro e w1 ⟨rfl, k1⟩
  have K1 := Lib.hid k1; clear k1
  go_wp2_with fail
  refine (OA.out w1 (HA.out.keep K1.out)).mono ?_; rintro e w2 ⟨g, cap, G, C, a, _, _, _, rfl, _, _, k2⟩
  have K2 := Lib.hid (K1.out.trans k2)
  clear k2
  go_wp2_with fail
  refine (IN1.out _).mono ?_; rintro e w3 ⟨rfl, rfl⟩
  go_wp2_with fail
  refine (IN2.out _).mono ?_; rintro e w3 ⟨rfl, rfl⟩
  go_wp2_with fail
  go_loopw [13, 15] (fun v t wr => ∃ k : Nat, k ≤ n ∧ t = .int .i64 (k : Int) ∧ Own wr w.heap.size v (Mx.row k g2) ∧ Kp w wr) (fun _ t _ => n - (intOf t).toNat)
  case atStart => exact ⟨0, Nat.zero_le _, rfl, Own.none _ _, K2.out⟩
  case round =>
    obtain ⟨k, hk, rfl, ho, hkp⟩ := hrel
    have HO := Lib.hid ho
    have HK := Lib.hid hkp
    by_cases hlt : k < n
    · obtain ⟨ad, A1, d1, rfl, hl0, x1, _, l1⟩ := (HT.out wr hkp).row hi
      obtain ⟨ad1, rfl, hl1, x2⟩ := l1.el hlt
      obtain ⟨ad', A2, d2, ea, hl2, y1, _, l2⟩ := (HT.out wr hkp).row hj
      obtain rfl := Option.some.inj ea
      obtain ⟨ad2, rfl, hl3, y2⟩ := l2.el hlt
      have tl := two_less (SM.out i k hi hlt) (SM.out j k hj hlt)
      have HG := Lib.hid (GAT.out k)
      have HS := Lib.hid (Mx.row_snoc k g2)
      have hlen : (Mx.row k g2).length + 1 ≤ 17000000000000 := by rw [Mx.len_row]; omega
      have hsz := hkp.size
      generalize f i k = p at *
      generalize f j k = q at *
      have hw2 := tl.1
      have hw3 : IntKind.i64.wrap (2 * p - q) = g2 k := tl.2.trans HG.out
      clear ho hkp l1 l2 tl
      go_wp2_with fail
      go_region_law (refine step_push (by rfl) _ _ (by rfl) w.heap.size _ (Mx.row k g2) (g2 k) _ 1 (by rfl) (by rfl) ((HO.out.drewN 1).new _) (by simp; done) hlen (Nat.le_trans hsz ((Kp.rfl' wr).new _).size) ?_; intro v' w' h1 h2 _; have HO' := Lib.hid h1; have HK' := Lib.hid (own_below ((HO.out.drewN 1).new (.cells #[.int .i64 (g2 k)] 3)) ((HK.out.drewN 1).new _) (Nat.le_trans hsz ((Kp.rfl' wr).new _).size) h2); clear h1 h2)
      all_goals
        go_wp2_with fail
        go_roundw
        case rel => exact ⟨k + 1, by omega, by go_num, by rw [HS.out]; exact HO'.out, HK'.out⟩
        case measure => simp [intOf]; omega
    · obtain rfl : n = k := by omega
      obtain ⟨As, cs, rfl, hls, _⟩ := ho.cap
      rw [Mx.len_row]
      have LS := Lib.hid hls
      have SU := Lib.hid (SUM.out wr As cs (HA.out.keep hkp) hls)
      clear ho hkp hls HO
      go_wp2_with fail
      refine (SU.out).mono ?_; rintro e w3 ⟨b, hb, rfl, k3⟩
      obtain rfl : b = true := hb.2 ((ROW.out g2).2 GL.out)
      have K3 := Lib.hid (HK.out.trans k3)
      have LS3 := Lib.hid (LS.out.keep k3)
      clear hb k3 SU LS
      by_cases hl : l.length = n
      · by_cases hx : AllIn l (-100) 100
        · have HX := Lib.hid (Has_ok SS.out A B l c d w3 (HA.out.keep K3.out) (HB.out.keep K3.out) hl hx)
          rw [hl]
          have HLL := Lib.hid hl
          have XB := Lib.hid (show ∀ t, t < n → -100 ≤ l.getD t 0 ∧ l.getD t 0 ≤ 100 from fun t ht => hx t (by omega))
          obtain ⟨xv, hxv⟩ : ∃ xv : Nat → Int, xv = fun t => l.getD t 0 := ⟨_, rfl⟩
          have HXV := Lib.hid (show ∀ t, l.getD t 0 = xv t from fun t => by rw [hxv])
          rw [← hxv] at HX
          obtain ⟨y, hy⟩ : ∃ y : Nat → Int, y = fun t => xv t + g2 t := ⟨_, rfl⟩
          have HY := Lib.hid (show ∀ t, xv t + g2 t = y t from fun t => by rw [hy])
          have YL := Lib.hid (show Zx.Lat n f y ↔ Zx.Lat n f xv from ⟨fun h => (h.less GL.out).congr fun t _ => by rw [hy]; dsimp only; omega, fun h => (h.add GL.out).congr fun t _ => by rw [hy]⟩)
          clear hl hx hxv hy
          go_wp2_with fail
          refine (HX.out).mono ?_; rintro e w4 ⟨b, hb, rfl, k4⟩
          have HBX := Lib.hid hb
          have K4 := Lib.hid (K3.out.trans k4)
          have LS4 := Lib.hid (LS3.out.keep k4)
          clear hb k4 HX LS3
          go_wp2_with fail
          go_loopw [14, 18] (fun v t wr => ∃ k : Nat, k ≤ n ∧ t = .int .i64 (k : Int) ∧ Own wr w4.heap.size v (Mx.row k y) ∧ Kp w4 wr) (fun _ t _ => n - (intOf t).toNat)
          case atStart => exact ⟨0, Nat.zero_le _, rfl, Own.none _ _, Kp.rfl' _⟩
          case round =>
            obtain ⟨k, hk, rfl, ho, hkp⟩ := hrel
            have HO := Lib.hid ho
            have HQ := Lib.hid hkp
            by_cases hlt : k < n
            · obtain ⟨ad1, rfl, _, x1⟩ := (HB.out.keep (K4.out.trans hkp)) k (by rw [HLL.out]; exact hlt)
              obtain ⟨ad2, rfl, _, x2⟩ := (LS4.out.keep hkp).el hlt
              rw [HXV.out k] at x1
              have hb1 := XB.out k hlt
              rw [HXV.out k] at hb1
              have hb2 := GB.out k hlt
              have HS := Lib.hid (Mx.row_snoc k y)
              have hlen : (Mx.row k y).length + 1 ≤ 17000000000000 := by rw [Mx.len_row]; omega
              have hsz := hkp.size
              have hw4 : IntKind.i64.wrap (xv k + g2 k) = y k := by rw [← HY.out k]; exact IntWalk.i64_in _ (by omega)
              clear ho hkp hb1 hb2
              go_wp2_with fail
              go_region_law (refine step_push (by rfl) _ _ (by rfl) w4.heap.size _ (Mx.row k y) (y k) _ 1 (by rfl) (by rfl) ((HO.out.drewN 1).new _) (by simp; done) hlen (Nat.le_trans hsz ((Kp.rfl' wr).new _).size) ?_; intro v' w' h1 h2 _; have HO' := Lib.hid h1; have HK' := Lib.hid (own_below ((HO.out.drewN 1).new (.cells #[.int .i64 (y k)] 3)) ((HQ.out.drewN 1).new _) (Nat.le_trans hsz ((Kp.rfl' wr).new _).size) h2); clear h1 h2)
              all_goals
                go_wp2_with fail
                go_roundw
                case rel => exact ⟨k + 1, by omega, by go_num, by rw [HS.out]; exact HO'.out, HK'.out⟩
                case measure => simp [intOf]; omega
            · obtain rfl : n = k := by omega
              obtain ⟨Am, cm, rfl, hlm, _⟩ := ho.cap
              rw [Mx.len_row]
              have K5 := Lib.hid (K4.out.trans hkp)
              by_cases hy : AllIn (Mx.row n y) (-100) 100
              · have HX2 := Lib.hid (Has_ok SS.out A Am (Mx.row n y) c cm wr (HA.out.keep K5.out) hlm (Mx.len_row _ _) hy)
                clear ho hkp hlm hy HO
                go_wp2_with fail
                refine (HX2.out).mono ?_; rintro e w5 ⟨b2, hb2, rfl, k5⟩
                obtain rfl : b2 = b := by
                  have h1 : b2 = true ↔ b = true := hb2.trans ((ROW.out y).trans (YL.out.trans HBX.out.symm))
                  cases b <;> cases b2 <;> simp at h1 ⊢
                have K6 := Lib.hid (K5.out.trans k5)
                have e9 : (b2 == b2) = true := by simp
                clear hb2 k5
                go_wp2_with fail
                go_ret
                exact ⟨rfl, K6.out⟩
              · have HX2 := Has_range SS.out A Am (Mx.row n y) c cm wr (HA.out.keep K5.out) hlm (Mx.len_row _ _) hy
                rw [errOf_ne 1 (by decide)] at HX2
                have HX2 := Lib.hid HX2
                clear ho hkp hlm hy HO
                go_wp2_with fail
                refine (HX2.out).mono ?_; rintro e w5 ⟨rfl, k5⟩
                have K6 := Lib.hid (K5.out.trans k5)
                clear k5
                go_wp2_with fail
                go_ret
                exact ⟨rfl, K6.out⟩
        · have hx1 := Has_range SS.out A B l c d w3 (HA.out.keep K3.out) (HB.out.keep K3.out) hl hx
          rw [errOf_ne 1 (by decide)] at hx1
          have HX := Lib.hid hx1
          have AL := Lib.hid (fun w4 (k : Kp w3 w4) => show Calls Try.prog 16 #[.slice B n d, .int .i64 (-100), .int .i64 100] w4 fun e w' => e = .returned (.bool false) ∧ w4 = w' from by
            have := all_any B l d (-100) 100 w4 (HB.out.keep (K3.out.trans k)) (by omega)
            rw [hl] at this
            exact this.mono fun e w' ⟨ht, h2⟩ => ⟨tells_no ht hx, h2⟩)
          rw [hl]
          have e8 : ((n : Int) != (n : Int)) = false := by simp
          clear hl hx hx1
          go_wp2_with fail
          refine (HX.out).mono ?_; rintro e w4 ⟨rfl, k4⟩
          have K4 := Lib.hid k4
          clear k4
          go_wp2_with fail
          refine (AL.out w4 K4.out).mono ?_; rintro e w5 ⟨rfl, rfl⟩
          go_wp2_with fail
          go_ret
          exact ⟨rfl, K3.out.trans K4.out⟩
      · have hx1 := Has_len SS.out A B (p := l.length) c d w3 (HA.out.keep K3.out) hl
        rw [errOf_ne 3 (by decide)] at hx1
        have HX := Lib.hid hx1
        have e8 : ((l.length : Int) != (n : Int)) = true := by rw [bne_iff_ne]; omega
        generalize l.length = L at *
        clear hl hx1
        go_wp2_with fail
        refine (HX.out).mono ?_; rintro e w4 ⟨rfl, k4⟩
        have K4 := Lib.hid (K3.out.trans k4)
        clear k4
        go_wp2_with fail
        go_ret
        exact ⟨rfl, K4.out⟩
set_option maxRecDepth 100000 in
set_option maxHeartbeats 1600000 in
theorem walk_HermiteHas (A : Option Addr) (m : List (List Int)) (c : Nat) (i j : Int) (B : Option Addr) (l : List Int) (d : Nat) (w : World) (ha : LiesM w A m) (hb : Lies w B l) :
    Calls Try.prog 5 #[.slice A m.length c, .int .i64 i, .int .i64 j, .slice B l.length d] w fun e w' => e = .returned (.bool true) ∧ Kp w w' := by
  obtain ⟨n, hn⟩ : ∃ n, n = m.length := ⟨_, rfl⟩
  rw [← hn]
  have HA := Lib.hid ha
  have FA := Lib.hid (hermiteFact_any w)
  rcases Form_or A m n c hn.symm with ⟨x, s⟩ | bad
  · by_cases hi : 0 ≤ i ∧ i ≤ (n : Int) - 1
    · by_cases hj : 0 ≤ j ∧ j ≤ (n : Int) - 1
      · obtain ⟨i0, rfl⟩ : ∃ i0 : Nat, i = (i0 : Int) := ⟨i.toNat, by omega⟩
        obtain ⟨j0, rfl⟩ : ∃ j0 : Nat, j = (j0 : Int) := ⟨j.toNat, by omega⟩
        exact walk_HermiteHas_in s A B l c d i0 j0 w ha hb (by omega) (by omega)
      · have OA := Lib.hid (fun w h => Form_ok s A c w h)
        have n3 := s.sh.n3
        have IN1 := Lib.hid (fun w => law4In_any i 0 ((n : Int) - 1) w true (by simp; omega))
        have IN2 := Lib.hid (fun w => law4In_any j 0 ((n : Int) - 1) w false (by simp; omega))
        have hw1 : IntKind.i64.wrap ((n : Int) - 1) = (n : Int) - 1 := IntWalk.i64_in _ (by omega)
        clear ha hb hn s hi hj
        generalize l.length = L at *
        go_enter Try.func5, Try.ntmps5
        go_wp2_with fail
        refine (FA.out).mono ?_; rintro e w1 ⟨rfl, k1⟩
        have K1 := Lib.hid k1; clear k1
        go_wp2_with fail
        refine (OA.out w1 (HA.out.keep K1.out)).mono ?_; rintro e w2 ⟨g, cap, G, C, a, _, _, _, rfl, _, _, k2⟩
        have K2 := Lib.hid (K1.out.trans k2)
        clear k2
        go_wp2_with fail
        refine (IN1.out _).mono ?_; rintro e w3 ⟨rfl, rfl⟩
        go_wp2_with fail
        refine (IN2.out _).mono ?_; rintro e w3 ⟨rfl, rfl⟩
        go_wp2_with fail
        go_ret
        exact ⟨rfl, K2.out⟩
    · have OA := Lib.hid (fun w h => Form_ok s A c w h)
      have n3 := s.sh.n3
      have IN1 := Lib.hid (fun w => law4In_any i 0 ((n : Int) - 1) w false (by simp; omega))
      have hw1 : IntKind.i64.wrap ((n : Int) - 1) = (n : Int) - 1 := IntWalk.i64_in _ (by omega)
      clear ha hb hn s hi
      generalize l.length = L at *
      go_enter Try.func5, Try.ntmps5
      go_wp2_with fail
      refine (FA.out).mono ?_; rintro e w1 ⟨rfl, k1⟩
      have K1 := Lib.hid k1; clear k1
      go_wp2_with fail
      refine (OA.out w1 (HA.out.keep K1.out)).mono ?_; rintro e w2 ⟨g, cap, G, C, a, _, _, _, rfl, _, _, k2⟩
      have K2 := Lib.hid (K1.out.trans k2)
      clear k2
      go_wp2_with fail
      refine (IN1.out _).mono ?_; rintro e w3 ⟨rfl, rfl⟩
      go_wp2_with fail
      go_ret
      exact ⟨rfl, K2.out⟩
  · have OA := Lib.hid bad
    clear bad hn ha hb
    generalize l.length = L at *
    go_enter Try.func5, Try.ntmps5
    go_wp2_with fail
    refine (FA.out).mono ?_; rintro e w1 ⟨rfl, k1⟩
    have K1 := Lib.hid k1; clear k1
    go_wp2_with fail
    refine (OA.out w1 (HA.out.keep K1.out)).mono ?_; rintro e w2 ⟨z, rfl, k2⟩
    have K2 := Lib.hid (K1.out.trans k2)
    clear k2
    go_wp2_with fail
    go_ret
    exact ⟨rfl, K2.out⟩
end Go.Proofs.Yteobamakmmoljaa
