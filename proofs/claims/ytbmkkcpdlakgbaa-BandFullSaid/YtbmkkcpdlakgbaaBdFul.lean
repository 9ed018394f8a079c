/- The walk of BandFull. -/
import Derived.Test.YtbmkkcpdlakgbaaBdFact
import Derived.Test.YtbmkkcpdlakgbaaBdC5
import Derived.Test.YtbmkkcpdlakgbaaDeC3
import Derived.Test.YtbmkkcpdlakgbaaMtFact
namespace Go.Proofs.Ytbmkkcpdlakgbaa
open Go.ChangeShapes Go.WideShapes Go.ChangeAt Go.RowKit
set_option linter.unusedVariables false

/-- A row as a matrix of one column. -/
def acol (x : Nat → Fp.F) : Nat → Nat → Fp.F := fun i _ => x i

set_option maxRecDepth 100000 in
set_option maxHeartbeats 6400000 in
theorem walk_BandFull (A : Option Addr) (L : List Int) (c : Nat) (B : Option Addr) (M : List Int) (d : Nat) (C : Option Addr) (N : List Int) (f : Nat) (X : Option Addr) (Z : List Int) (g : Nat) (w : World)
    (ha : Lies w A L) (hb : Lies w B M) (hc : Lies w C N) (hx : Lies w X Z) :
    Calls Try.prog 4 #[.slice A L.length c, .slice B M.length d, .slice C N.length f, .slice X Z.length g] w fun e w' => e = .returned (.bool true) ∧ Kp w w' := by
  have FA := Lib.hid (bandFact_any w)
  have HA := Lib.hid ha
  have HB := Lib.hid hb
  have HC := Lib.hid hc
  have HX := Lib.hid hx
  rcases bd_or L M N with ⟨q, m, a, b, bd⟩ | bad
  · obtain ⟨e1, e2, e3, hq⟩ := bd
    subst e1 e2 e3
    rw [Mx.len_row, Mx.len_row, Mx.len_row]
    by_cases hq4 : 4 < q
    · have DB := Lib.hid (fun w' (k : Kp w w') => BFull_big A B C q c d f m a b w' (HA.out.keep k) (HB.out.keep k) (HC.out.keep k) hq hq4)
      rw [errOf_ne 4 (by decide)] at DB
      clear ha hb hc hx
      generalize q + 1 = n at *
      generalize Z.length = zl at *
      go_enter Try.func4, Try.ntmps4
      go_wp2_with fail
      refine (FA.out).mono ?_; rintro e w1 ⟨rfl, k1⟩
      have K1 := Lib.hid k1; clear k1
      go_wp2_with fail
      refine (DB.out w1 K1.out).mono ?_; rintro e w2 ⟨rfl, rfl⟩
      go_wp2_with fail
      go_ret
      exact ⟨rfl, K1.out⟩
    · have FF := Lib.hid (fun w' (k : Kp w w') => BFull_ok A B C q c d f m a b w' (HA.out.keep k) (HB.out.keep k) (HC.out.keep k) (by omega))
      have DD := Lib.hid (fun w' (k : Kp w w') => BDet_ok A B C q c d f m a b w' (HA.out.keep k) (HB.out.keep k) (HC.out.keep k) hq)
      rw [← Mx.dt_bnd] at DD
      have OF := Lib.hid (fun w' A' d' (h : LiesM w' A' (Mx.matl (q + 1) (q + 1) (Mx.bnd m a b))) => Of_ok A' (Mx.bnd m a b) (q + 1) d' w' h (by omega) (by omega))
      by_cases hz : Z.length = q + 1
      · by_cases hr : AllIn Z 0 9972
        · obtain ⟨x, hZ⟩ := brow_of hr
          rw [hz] at hZ
          subst hZ
          rw [Mx.len_row]
          have MU := Lib.hid (fun w' (k : Kp w w') => BMul_ok A B C X q c d f g m a b x w' (HA.out.keep k) (HB.out.keep k) (HC.out.keep k) hq (HX.out.keep k))
          have MM := Lib.hid (fun w' A' B' c' d' (h1 : LiesM w' A' (Mx.matl (q + 1) (q + 1) (Mx.bnd m a b))) (h2 : LiesM w' B' (Mx.matl (q + 1) 1 (acol x))) => (Mul_ok A' B' (Mx.bnd m a b) (acol x) (q + 1) (q + 1) 1 c' d' w' h1 h2 (by omega) (by omega) (by omega) (by omega) (by omega) (by omega)).mono fun _ _ h => h.got)
          have YE := Lib.hid (show ∀ i j, Mx.mul (q + 1) (Mx.bnd m a b) (acol x) i j = Mx.tov (q + 1) (Mx.bnd m a b) x i from fun i j => rfl)
          have hn5 : q + 1 ≤ 5 := by omega
          generalize (Mx.mul (q + 1) (Mx.bnd m a b) (acol x)) = YM at *
          generalize (Mx.tov (q + 1) (Mx.bnd m a b) x) = Y at *
          generalize ((Mx.dt (q + 1) (Mx.bnd m a b)).val : Int) = dv at *
          generalize Mx.bnd m a b = F at *
          clear ha hb hc hx hz hr HA HB HC hq4 hq
          generalize q + 1 = n at *
          go_enter Try.func4, Try.ntmps4
          go_wp2_with fail
          refine (FA.out).mono ?_; rintro e w1 ⟨rfl, k1⟩
          have K1 := Lib.hid k1; clear k1
          go_wp2_with fail
          refine (FF.out w1 K1.out).mono ?_; rintro e w2 ⟨Am, dm, rfl, _, lm, k2⟩
          have K2 := Lib.hid (K1.out.trans k2)
          have LM := Lib.hid lm; clear k2 lm
          go_wp2_with fail
          refine (DD.out w2 K2.out).mono ?_; rintro e w3 ⟨rfl, k3⟩
          have K3 := Lib.hid (K2.out.trans k3)
          have LM3 := Lib.hid (LM.out.keep k3); clear k3
          go_wp2_with fail
          refine (OF.out w3 Am dm LM3.out).mono ?_; rintro e w4 ⟨rfl, k4⟩
          have K4 := Lib.hid (K3.out.trans k4)
          have LM4 := Lib.hid (LM3.out.keep k4); clear k4
          go_wp2_with fail
          refine (MU.out w4 K4.out).mono ?_; rintro e w5 ⟨gp, rfl, r5, k5⟩
          have K5 := Lib.hid (K4.out.trans k5)
          have LM5 := Lib.hid (LM4.out.keep k5)
          have R5 := Lib.hid r5; clear k5 r5 LM LM3 LM4 FA FF DD OF MU
          go_wp2_with fail
          go_loopw [17, 18] (fun v i wr => ∃ (k : Nat) (G C : Nat → Nat), k ≤ n ∧ i = .int .i64 (k : Int) ∧ OwnM wr w5.heap.size v G C (Mx.matl k 1 (acol x)) ∧ Kp w5 wr) (fun _ i _ => n - (intOf i).toNat)
          case atStart => exact ⟨0, fun _ => 0, fun _ => 0, Nat.zero_le _, rfl, ownM_none _ _ _ _, Kp.rfl' _⟩
          case round =>
            obtain ⟨k, G, C, hk, rfl, ho, hkp⟩ := hrel
            have HO := Lib.hid ho
            have HK := Lib.hid hkp
            by_cases hlt : k < n
            · obtain ⟨xd, rfl, _, x1⟩ := (HX.out.keep (K5.out.trans hkp)).el hlt
              have HS := Lib.hid (show Mx.matl (k + 1) 1 (acol x) = Mx.matl k 1 (acol x) ++ [[((x k).val : Int)]] by rw [Mx.matl, Mx.tab_snoc]; rfl)
              generalize ((x k).val : Int) = z at *
              have hsz := hkp.size
              have OM := Lib.hid (show OwnM ((wr.alloc (.cells #[.int .i64 z] 3)).alloc (.cells #[.slice (some ⟨wr.heap.size, 0, none⟩) 1 1] 22)) w5.heap.size _ G C (Mx.matl k 1 (acol x)) from (ho.kp ((Kp.rfl' _).new _)).kp ((Kp.rfl' _).new _))
              have HU := Lib.hid (show Own ((wr.alloc (.cells #[.int .i64 z] 3)).alloc (.cells #[.slice (some ⟨wr.heap.size, 0, none⟩) 1 1] 22)) w5.heap.size (.slice (some ⟨wr.heap.size, 0, none⟩) 1 1) [z] from by
                have r : Row (wr.alloc (.cells #[.int .i64 z] 3)) wr.heap.size [z] := Cl.made wr [z]
                exact (r.keep ((Kp.rfl' _).new _)).own hsz rfl (by decide))
              have HAP := Lib.hid (show ∀ i, i < (Mx.matl k 1 (acol x)).length → G i ≠ wr.heap.size from fun i hi => by have := (ho.lt hi).2; omega)
              clear ho hkp
              go_wp2_with (at_builtin; refine wpList_pushM rfl _ _ rfl w5.heap.size _ G C (Mx.matl k 1 (acol x)) [z] wr.heap.size 1 1 _ 1 rfl rfl rfl OM.out (cell_made _ _ _ _ 0 (by simp)) HU.out HAP.out (by rw [Mx.len_matl]; omega) (Nat.le_trans hsz (((Kp.rfl' wr).new _).new _).size) ?_; intro v' w' G' C' ho' hk')
              rw [← HS.out] at ho'
              have HO' := Lib.hid ho'
              have HK' := Lib.hid (hk' w5 (Nat.le_refl _) ((HK.out.new _).new _))
              clear ho' hk'
              go_wp2_with fail
              go_roundw
              case rel => exact ⟨k + 1, G', C', by omega, by go_num, HO'.out, HK'.out⟩
              case measure => simp [intOf]; omega
            · obtain rfl : k = n := by omega
              obtain ⟨Ac, dc, rfl, lc, _⟩ := ho.lies
              rw [Mx.len_matl]
              have LC := Lib.hid lc
              have K6 := Lib.hid (K5.out.trans HK.out)
              have LM6 := Lib.hid (LM5.out.keep HK.out)
              have R6 := Lib.hid (R5.out.keep HK.out)
              clear ho hkp lc HO
              go_wp2_with fail
              refine (MM.out wr Am Ac dm dc LM6.out LC.out).mono ?_; rintro e w7 ⟨Ap, dp, rfl, lp, k7⟩
              have K7 := Lib.hid (K6.out.trans k7)
              have R7 := Lib.hid (R6.out.keep k7)
              have LP := Lib.hid lp
              clear k7 lp
              go_wp2_with fail
              go_loopw [20] (fun i wr => ∃ j : Nat, j ≤ k ∧ i = .int .i64 (j : Int) ∧ Drew w7 wr) (fun i _ => k - (intOf i).toNat)
              case atStart => exact ⟨0, Nat.zero_le _, rfl, Drew.refl _⟩
              case round =>
                obtain ⟨j, hj, rfl, hd⟩ := hrel
                have HD := Lib.hid hd
                by_cases hlt3 : j < k
                · obtain ⟨ad, A1, d1, rfl, _, x2, _, l1⟩ := (LP.out.keep hd.kp).row hlt3
                  obtain ⟨ad1, rfl, _, x3⟩ := l1.el (j := 0) (by decide)
                  rw [add_zero', YE.out] at x3
                  have x4 := (R7.out.keep hd.kp).cell j (by rw [Mx.len_row]; exact hlt3)
                  rw [Mx.row_at _ _ _ hlt3] at x4
                  generalize ((Y j).val : Int) = z at *
                  clear hd l1
                  go_wp2_with fail
                  go_quiet (fail)
                  go_wp2_with fail
                  go_roundw
                  case rel => exact ⟨j + 1, by omega, by go_num, HD.out.more _⟩
                  case measure => simp [intOf]; omega
                · have HD := Lib.hid (K7.out.trans hd.kp)
                  clear hd
                  go_wp2_with fail
                  go_ret
                  exact ⟨rfl, HD.out⟩
        · have MU := Lib.hid (fun w' (k : Kp w w') => BMul_range A B C X Z q (Z.length) c d f g m a b w' (HA.out.keep k) (HB.out.keep k) (HC.out.keep k) hq (HX.out.keep k) rfl hz hr)
          rw [errOf_ne 1 (by decide)] at MU
          generalize ((Mx.dt (q + 1) (Mx.bnd m a b)).val : Int) = dv at *
          generalize Mx.bnd m a b = F at *
          clear ha hb hc hx hz hr HA HB HC HX hq4 hq
          generalize q + 1 = n at *
          generalize Z.length = zl at *
          go_enter Try.func4, Try.ntmps4
          go_wp2_with fail
          refine (FA.out).mono ?_; rintro e w1 ⟨rfl, k1⟩
          have K1 := Lib.hid k1; clear k1
          go_wp2_with fail
          refine (FF.out w1 K1.out).mono ?_; rintro e w2 ⟨Am, dm, rfl, _, lm, k2⟩
          have K2 := Lib.hid (K1.out.trans k2)
          have LM := Lib.hid lm; clear k2 lm
          go_wp2_with fail
          refine (DD.out w2 K2.out).mono ?_; rintro e w3 ⟨rfl, k3⟩
          have K3 := Lib.hid (K2.out.trans k3)
          have LM3 := Lib.hid (LM.out.keep k3); clear k3
          go_wp2_with fail
          refine (OF.out w3 Am dm LM3.out).mono ?_; rintro e w4 ⟨rfl, k4⟩
          have K4 := Lib.hid (K3.out.trans k4); clear k4
          go_wp2_with fail
          refine (MU.out w4 K4.out).mono ?_; rintro e w5 ⟨rfl, rfl⟩
          go_wp2_with fail
          go_ret
          exact ⟨rfl, K4.out⟩
      · have MU := Lib.hid (fun w' (k : Kp w w') => BMul_shape A B C X q Z.length c d f g m a b w' (HA.out.keep k) (HB.out.keep k) (HC.out.keep k) hq hz)
        rw [errOf_ne 3 (by decide)] at MU
        generalize ((Mx.dt (q + 1) (Mx.bnd m a b)).val : Int) = dv at *
        generalize Mx.bnd m a b = F at *
        clear ha hb hc hx hz HA HB HC HX hq4 hq
        generalize q + 1 = n at *
        generalize Z.length = zl at *
        go_enter Try.func4, Try.ntmps4
        go_wp2_with fail
        refine (FA.out).mono ?_; rintro e w1 ⟨rfl, k1⟩
        have K1 := Lib.hid k1; clear k1
        go_wp2_with fail
        refine (FF.out w1 K1.out).mono ?_; rintro e w2 ⟨Am, dm, rfl, _, lm, k2⟩
        have K2 := Lib.hid (K1.out.trans k2)
        have LM := Lib.hid lm; clear k2 lm
        go_wp2_with fail
        refine (DD.out w2 K2.out).mono ?_; rintro e w3 ⟨rfl, k3⟩
        have K3 := Lib.hid (K2.out.trans k3)
        have LM3 := Lib.hid (LM.out.keep k3); clear k3
        go_wp2_with fail
        refine (OF.out w3 Am dm LM3.out).mono ?_; rintro e w4 ⟨rfl, k4⟩
        have K4 := Lib.hid (K3.out.trans k4); clear k4
        go_wp2_with fail
        refine (MU.out w4 K4.out).mono ?_; rintro e w5 ⟨rfl, rfl⟩
        go_wp2_with fail
        go_ret
        exact ⟨rfl, K4.out⟩
  · have DB := Lib.hid (fun w' (k : Kp w w') => BFull_bad A B C L M N _ _ _ c d f w' (HA.out.keep k) (HB.out.keep k) (HC.out.keep k) rfl rfl rfl bad)
    rw [errOf_ne _ bad] at DB
    generalize bcode L M N = z at *
    generalize L.length = n1 at *
    generalize M.length = n2 at *
    generalize N.length = n3 at *
    generalize Z.length = n4 at *
    clear ha hb hc hx bad
    go_enter Try.func4, Try.ntmps4
    go_wp2_with fail
    refine (FA.out).mono ?_; rintro e w1 ⟨rfl, k1⟩
    have K1 := Lib.hid k1; clear k1
    go_wp2_with fail
    refine (DB.out w1 K1.out).mono ?_; rintro e w2 ⟨rfl, rfl⟩
    go_wp2_with fail
    go_ret
    exact ⟨rfl, K1.out⟩

end Go.Proofs.Ytbmkkcpdlakgbaa
