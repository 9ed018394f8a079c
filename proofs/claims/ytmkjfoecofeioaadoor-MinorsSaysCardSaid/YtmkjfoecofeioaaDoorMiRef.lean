/- Contract of the document's Adj. -/
import Derived.Test.YtmkjfoecofeioaaDoorMxRef4
import Derived.Test.YtmkjfoecofeioaaDoorMiC2
namespace Go.Proofs.YtmkjfoecofeioaaDoor
open Go.ChangeShapes Go.WideShapes Go.ChangeAt Go.RowKit
set_option linter.unusedVariables false

set_option maxRecDepth 100000 in
set_option maxHeartbeats 6400000 in
theorem rAdj_any (A : Option Addr) (f : Nat → Nat → Fp.F) (n p d : Nat) (w : World) (ha : LiesM w A (Mx.matl n n f)) (hn : n = p + 1) (hp : p ≤ 900) :
    Calls Tryd.prog 6 #[.slice A n d] w fun e w' => Made n n (Mx.adj p f) w e w' := by
  have HA := Lib.hid ha
  have WO := Lib.hid (fun (i j : Nat) (w : World) (h : LiesM w A (Mx.matl n n f)) (hi : i < n) (hj : j < n) => show Calls Tryd.prog 12 #[.slice A n d, .int .i64 (i : Int), .int .i64 (j : Int)] w fun e w' => Made p p (wo f i j) w e w' by
    subst hn
    have := rWithout_any A f p i j d w h (by omega) (by omega) (by omega)
    rw [Int.toNat_natCast] at this
    exact this)
  have DM := Lib.hid (fun (i j : Nat) A d w h => rDetMod_any p (by omega) A (wo f i j) d w h)
  have n0 : 0 < n := by omega
  have n9 : n ≤ 1000 := by omega
  clear ha hn hp
  go_enter Tryd.func6, Tryd.ntmps6
  go_wp2_with fail
  go_loopw [3, 4, 5, 6, 7] (fun v i _ _ _ wr => ∃ (k : Nat) (G C : Nat → Nat), k ≤ n ∧ i = .int .i64 (k : Int) ∧ OwnM wr w.heap.size v G C (Mx.matl k n (Mx.adj p f)) ∧ Kp w wr) (fun _ i _ _ _ _ => n - (intOf i).toNat)
  case atStart => exact ⟨0, fun _ => 0, fun _ => 0, Nat.zero_le _, rfl, ownM_none _ _ _ _, Kp.rfl' _⟩
  case round =>
    obtain ⟨k, G, C, hk, rfl, ho, hkp⟩ := hrel
    obtain ⟨wo', hwo⟩ : ∃ x, x = wr := ⟨_, rfl⟩
    subst hwo
    have HO := Lib.hid ho
    have HK := Lib.hid hkp
    clear ho hkp
    by_cases hlt : k < n
    · have HS := Lib.hid (show Mx.matl (k + 1) n (Mx.adj p f) = Mx.matl k n (Mx.adj p f) ++ [Mx.row n fun j => ((Mx.adj p f k j).val : Int)] by rw [Mx.matl, Mx.tab_snoc]; rfl)
      go_wp2_with fail
      go_loopw [5, 6, 7] (fun u i _ wq => ∃ t : Nat, t ≤ n ∧ i = .int .i64 (t : Int) ∧ Own wq wo'.heap.size u (Mx.row t fun j => ((Mx.adj p f k j).val : Int)) ∧ Kp wo' wq) (fun _ i _ _ => n - (intOf i).toNat)
      case atStart => exact ⟨0, Nat.zero_le _, rfl, Own.none _ _, Kp.rfl' _⟩
      case round =>
        obtain ⟨t, ht, rfl, hu, hkq⟩ := hrel
        have HU := Lib.hid hu
        have HQ := Lib.hid hkq
        clear hu hkq
        by_cases hlt2 : t < n
        · have W1 := Lib.hid (WO.out t k wr (HA.out.keep (HK.out.trans HQ.out)) hlt2 hlt)
          have hdv := rval (Mx.dt p (wo f t k))
          have hwr : IntKind.i64.wrap ((k : Int) + (t : Int)) = (k : Int) + (t : Int) := IntWalk.i64_in _ (by omega)
          have HMV := Lib.hid (minus_val (Mx.dt p (wo f t k)))
          have D1 := Lib.hid (fun A d w h => DM.out t k A d w h)
          have HAD := Lib.hid (show Mx.adj p f k t = Mx.sgn (k + t) * Mx.dt p (wo f t k) from rfl)
          have hlen : (Mx.row t fun j => ((Mx.adj p f k j).val : Int)).length + 1 ≤ 17000000000000 := by rw [Mx.len_row]; omega
          have HSN := Lib.hid (Mx.row_snoc t fun j => ((Mx.adj p f k j).val : Int))
          generalize Mx.dt p (wo f t k) = dd at *
          by_cases hpar : (k + t) % 2 = 1
          · have e1 := par_odd hpar
            have HXX := Lib.hid (show ((-dd).val : Int) = ((Mx.adj p f k t).val : Int) by rw [HAD.out, sgn_odd hpar dd])
            rw [← HXX.out] at HSN
            have hwn : IntKind.i64.wrap (-(dd.val : Int)) = -(dd.val : Int) := IntWalk.i64_in _ (by omega)
            have MO := Lib.hid (fun w => rMod_any (-(dd.val : Int)) w (by omega) (by omega))
            rw [HMV.out] at MO
            generalize ((-dd).val : Int) = z at *
            generalize (dd.val : Int) = dv at *
            clear hpar hdv
            go_wp2_with fail
            refine (W1.out).mono ?_; rintro e w3 ⟨A3, d3, rfl, l3, k3⟩
            have L3 := Lib.hid l3
            have Q3 := Lib.hid (HQ.out.trans k3)
            have U3 := Lib.hid (HU.out.kp k3)
            clear l3 k3
            go_wp2_with fail
            refine (D1.out A3 d3 w3 L3.out).mono ?_; rintro e w4 ⟨rfl, k4⟩
            have Q4 := Lib.hid (Q3.out.trans k4)
            have U4 := Lib.hid (U3.out.kp k4)
            have hsz := Q4.out.size
            clear k4
            go_wp2_with fail
            refine (MO.out w4).mono ?_; rintro e w5 ⟨rfl, rfl⟩
            go_wp2_with (at_builtin; refine wpList_push rfl _ _ rfl wo'.heap.size _ (Mx.row t fun j => ((Mx.adj p f k j).val : Int)) z w4.heap.size 1 rfl rfl (U4.out.new _) (by simp; done) hlen (Nat.le_trans hsz ((Kp.rfl' _).new _).size) ?_; intro v' w' h1 h2 _)
            have HU' := Lib.hid h1
            have HQ' := Lib.hid (own_below (U4.out.new _) (Q4.out.new _) (Nat.le_trans hsz ((Kp.rfl' _).new _).size) h2)
            clear h1 h2
            go_wp2_with fail
            go_roundw
            case rel => exact ⟨t + 1, by omega, by go_num, by rw [HSN.out]; exact HU'.out, HQ'.out⟩
            case measure => simp [intOf]; omega
          · have hpar' : (k + t) % 2 = 0 := by omega
            have e1 := par_even hpar'
            have HXX := Lib.hid (show (dd.val : Int) = ((Mx.adj p f k t).val : Int) by rw [HAD.out, ← sgn_even hpar' dd])
            rw [← HXX.out] at HSN
            generalize (dd.val : Int) = z at *
            clear hpar hpar' hdv HMV
            go_wp2_with fail
            refine (W1.out).mono ?_; rintro e w3 ⟨A3, d3, rfl, l3, k3⟩
            have L3 := Lib.hid l3
            have Q3 := Lib.hid (HQ.out.trans k3)
            have U3 := Lib.hid (HU.out.kp k3)
            clear l3 k3
            go_wp2_with fail
            refine (D1.out A3 d3 w3 L3.out).mono ?_; rintro e w4 ⟨rfl, k4⟩
            have Q4 := Lib.hid (Q3.out.trans k4)
            have U4 := Lib.hid (U3.out.kp k4)
            have hsz := Q4.out.size
            clear k4
            go_wp2_with (at_builtin; refine wpList_push rfl _ _ rfl wo'.heap.size _ (Mx.row t fun j => ((Mx.adj p f k j).val : Int)) z w4.heap.size 1 rfl rfl (U4.out.new _) (by simp; done) hlen (Nat.le_trans hsz ((Kp.rfl' _).new _).size) ?_; intro v' w' h1 h2 _)
            have HU' := Lib.hid h1
            have HQ' := Lib.hid (own_below (U4.out.new _) (Q4.out.new _) (Nat.le_trans hsz ((Kp.rfl' _).new _).size) h2)
            clear h1 h2
            go_wp2_with fail
            go_roundw
            case rel => exact ⟨t + 1, by omega, by go_num, by rw [HSN.out]; exact HU'.out, HQ'.out⟩
            case measure => simp [intOf]; omega
        · obtain rfl : t = n := by omega
          obtain ⟨g, gc, rfl, hg, hgc⟩ := own_some HU.out (by rw [Mx.len_row]; exact n0)
          rw [Mx.len_row] at HU hgc ⊢
          have OM := Lib.hid (HO.out.kp HQ.out)
          have HAP := Lib.hid (show ∀ i, i < (Mx.matl k t (Mx.adj p f)).length → G i ≠ g from fun i hi => by have := (HO.out.lt hi).2; omega)
          have HLE := Lib.hid (show (Mx.matl k t (Mx.adj p f)).length + 1 ≤ 1000000 by rw [Mx.len_matl]; omega)
          go_wp2_with (at_builtin; refine wpList_pushM rfl _ _ rfl w.heap.size _ G C (Mx.matl k t (Mx.adj p f)) _ g t gc _ 1 (Mx.len_row _ _) rfl rfl (OM.out.new _) (cell_made _ _ _ _ 0 rfl) ((HU.out.from HK.out.size).new _) HAP.out HLE.out (Nat.le_trans HK.out.size (Nat.le_trans HQ.out.size ((Kp.rfl' _).new _).size)) ?_; intro v' w' G' C' ho' hk')
          have HO' := Lib.hid ho'
          have HK' := Lib.hid (hk' w (Nat.le_refl _) ((HK.out.trans HQ.out).new _))
          clear ho' hk'
          go_wp2_with fail
          go_roundw
          case rel => exact ⟨k + 1, G', C', by omega, by go_num, by rw [HS.out]; exact HO'.out, HK'.out⟩
          case measure => simp [intOf]; omega
    · obtain rfl : k = n := by omega
      obtain ⟨A', d2, rfl, hl, _⟩ := HO.out.lies
      rw [Mx.len_matl] at *
      have HL := Lib.hid hl
      clear hl
      go_wp2_with fail
      go_ret
      exact ⟨A', d2, rfl, HL.out, HK.out⟩

end Go.Proofs.YtmkjfoecofeioaaDoor
