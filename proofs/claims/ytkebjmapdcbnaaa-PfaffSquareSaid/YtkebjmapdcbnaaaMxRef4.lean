/- Contracts of the document's answer on matrices, fourth part: Without, DetMod, Square. For all packages. -/
import Derived.Test.YtkebjmapdcbnaaaMxRef3
import Derived.Test.YtkebjmapdcbnaaaMatD
import Derived.Test.YtkebjmapdcbnaaaCt
import Derived.Test.YtkebjmapdcbnaaaSqr
import Derived.Deep.RegionHeld3
namespace Go.Proofs.Ytkebjmapdcbnaaa
open Go.ChangeShapes Go.WideShapes Go.ChangeAt Go.RowKit
set_option linter.unusedVariables false

theorem wo_del (f : Nat → Nat → Fp.F) (j : Nat) : wo f 0 j = Mx.del j f := by
  funext a b
  unfold wo Mx.del
  congr 1

set_option maxRecDepth 100000 in
set_option maxHeartbeats 6400000 in
theorem rWithout_any (A : Option Addr) (f : Nat → Nat → Fp.F) (p a b d : Nat) (w : World) (ha : LiesM w A (Mx.matl (p + 1) (p + 1) f)) (hpa : a ≤ p) (hpb : b ≤ p) (hp : p ≤ 1000) :
    Calls Try.prog 17 #[.slice A ((p + 1 : Nat) : Int).toNat d, .int .i64 (a : Int), .int .i64 (b : Int)] w fun e w' => Made p p (wo f a b) w e w' := by
  rw [Int.toNat_natCast]
  have HA := Lib.hid ha
  clear ha
  obtain ⟨n, hn⟩ : ∃ n, n = p + 1 := ⟨_, rfl⟩
  rw [← hn] at HA ⊢
  have HN := Lib.hid hn
  have hn1 : n ≤ 1001 := by omega
  clear hn
  go_enter Try.func17, Try.ntmps17
  go_wp2_with fail
  go_loopw [7, 8] (fun v i wr => ∃ (k : Nat) (G C : Nat → Nat), k ≤ n ∧ i = .int .i64 (k : Int) ∧ OwnM wr w.heap.size v G C (Mx.matl (ct a k) p (wo f a b)) ∧ Kp w wr) (fun _ i _ => n - (intOf i).toNat)
  case atStart => exact ⟨0, fun _ => 0, fun _ => 0, Nat.zero_le _, rfl, by rw [ct_zero]; exact ownM_none _ _ _ _, Kp.rfl' _⟩
  case round =>
    obtain ⟨k, G, C, hk, rfl, ho, hkp⟩ := hrel
    obtain ⟨wo', hwo⟩ : ∃ x, x = wr := ⟨_, rfl⟩
    subst hwo
    have HO := Lib.hid ho
    have HK := Lib.hid hkp
    clear ho hkp
    by_cases hlt : k < n
    · by_cases hka : k = a
      · subst hka
        have e1 : ((k : Int) == (k : Int)) = true := by simp
        have HC := Lib.hid (ct_skip k)
        go_wp2_with fail
        go_roundw
        case rel => exact ⟨k + 1, G, C, by omega, by go_num, by rw [HC.out]; exact HO.out, HK.out⟩
        case measure => simp [intOf]; omega
      · have e1 : ((k : Int) == (a : Int)) = false := by rw [beq_eq_false_iff_ne]; omega
        have hp0 : 0 < p := by have := HN.out; omega
        have HC := Lib.hid (ct_next hka)
        have HSK := Lib.hid (sk_ct hka)
        have HS := Lib.hid (show Mx.matl (ct a k + 1) p (wo f a b) = Mx.matl (ct a k) p (wo f a b) ++ [Mx.row p fun j => ((f k (Mx.sk b j)).val : Int)] by
          rw [Mx.matl, Mx.tab_snoc]
          congr 2
          refine Mx.row_ext fun j _ => ?_
          show ((f (Mx.sk a (ct a k)) (Mx.sk b j)).val : Int) = _
          rw [HSK.out])
        have HCL := Lib.hid (show ct a k ≤ 2000 by have := ct_le (a := a) (p := p) (t := k) hpa (by have := HN.out; omega); omega)
        clear hka
        obtain ⟨ad, A1, d1, rfl, _, x1, _, l1⟩ := (HA.out.keep HK.out).row hlt
        have L1 := Lib.hid l1
        have X1 := Lib.hid x1
        clear l1 x1
        go_wp2_with fail
        go_loopw [9, 10] (fun u i wq => ∃ t : Nat, t ≤ n ∧ i = .int .i64 (t : Int) ∧ Own wq wo'.heap.size u (Mx.row (ct b t) fun j => ((f k (Mx.sk b j)).val : Int)) ∧ Kp wo' wq) (fun _ i _ => n - (intOf i).toNat)
        case atStart => exact ⟨0, Nat.zero_le _, rfl, by rw [ct_zero]; exact Own.none _ _, Kp.rfl' _⟩
        case round =>
          obtain ⟨t, ht, rfl, hu, hkq⟩ := hrel
          have HU := Lib.hid hu
          have HQ := Lib.hid hkq
          have x2 := (hkq.cell (p := ad.add k) (cell_lt X1.out)).trans X1.out
          by_cases hlt2 : t < n
          · by_cases htb : t = b
            · subst htb
              have e2 : ((t : Int) != (t : Int)) = false := by simp
              have HC2 := Lib.hid (ct_skip t)
              clear hu hkq
              go_wp2_with fail
              go_roundw
              case rel => exact ⟨t + 1, by omega, by go_num, by rw [HC2.out]; exact HU.out, HQ.out⟩
              case measure => simp [intOf]; omega
            · have e2 : ((t : Int) != (b : Int)) = true := by rw [bne_iff_ne]; omega
              have HC2 := Lib.hid (ct_next htb)
              have HSK2 := Lib.hid (sk_ct htb)
              obtain ⟨ad1, rfl, _, x3⟩ := (L1.out.keep hkq).el hlt2
              have hlen : (Mx.row (ct b t) fun j => ((f k (Mx.sk b j)).val : Int)).length + 1 ≤ 17000000000000 := by
                rw [Mx.len_row]; have := ct_le (a := b) (p := p) (t := t) hpb (by have := HN.out; omega); omega
              have HSN := Lib.hid (show Mx.row (ct b t + 1) (fun j => ((f k (Mx.sk b j)).val : Int)) = (Mx.row (ct b t) fun j => ((f k (Mx.sk b j)).val : Int)) ++ [((f k t).val : Int)] by
                rw [Mx.row_snoc, HSK2.out])
              have hsz := HQ.out.size
              generalize ((f k t).val : Int) = z at *
              obtain ⟨wd, hwd⟩ : ∃ x, x = wr := ⟨_, rfl⟩
              subst hwd
              clear hu hkq htb
              go_wp2_with (at_builtin; refine wpList_push rfl _ _ rfl wo'.heap.size _ (Mx.row (ct b t) fun j => ((f k (Mx.sk b j)).val : Int)) z wd.heap.size 1 rfl rfl (HU.out.new _) (by simp; done) hlen (Nat.le_trans hsz ((Kp.rfl' _).new _).size) ?_; intro v' w' h1 h2 _)
              have HU' := Lib.hid h1
              have HQ' := Lib.hid (own_below (HU.out.new _) (HQ.out.new _) (Nat.le_trans hsz ((Kp.rfl' _).new _).size) h2)
              clear h1 h2
              go_wp2_with fail
              go_roundw
              case rel => exact ⟨t + 1, by omega, by go_num, by rw [HC2.out, HSN.out]; exact HU'.out, HQ'.out⟩
              case measure => simp [intOf]; omega
          · obtain rfl : t = n := by omega
            rw [show ct b t = p by rw [HN.out]; exact ct_end hpb] at HU
            obtain ⟨g, gc, rfl, hg, hgc⟩ := own_some HU.out (by rw [Mx.len_row]; exact hp0)
            rw [Mx.len_row] at HU hgc ⊢
            clear hu hkq
            have OM := Lib.hid (HO.out.kp HQ.out)
            have HAP := Lib.hid (show ∀ i, i < (Mx.matl (ct a k) p (wo f a b)).length → G i ≠ g from fun i hi => by have := (HO.out.lt hi).2; omega)
            have HLE := Lib.hid (show (Mx.matl (ct a k) p (wo f a b)).length + 1 ≤ 1000000 by rw [Mx.len_matl]; have := HCL.out; omega)
            go_wp2_with (at_builtin; refine wpList_pushM rfl _ _ rfl w.heap.size _ G C (Mx.matl (ct a k) p (wo f a b)) _ g p gc _ 1 (Mx.len_row _ _) rfl rfl (OM.out.new _) (cell_made _ _ _ _ 0 rfl) ((HU.out.from HK.out.size).new _) HAP.out HLE.out (Nat.le_trans HK.out.size (Nat.le_trans HQ.out.size ((Kp.rfl' _).new _).size)) ?_; intro v' w' G' C' ho' hk')
            have HO' := Lib.hid ho'
            have HK' := Lib.hid (hk' w (Nat.le_refl _) ((HK.out.trans HQ.out).new _))
            clear ho' hk'
            go_wp2_with fail
            go_roundw
            case rel => exact ⟨k + 1, G', C', by omega, by go_num, by rw [HC.out, HS.out]; exact HO'.out, HK'.out⟩
            case measure => simp [intOf]; omega
    · obtain rfl : k = n := by omega
      obtain ⟨A, d2, rfl, hl, _⟩ := HO.out.lies
      rw [Mx.len_matl, show ct a k = p by rw [HN.out]; exact ct_end hpa] at *
      have HL := Lib.hid hl
      clear hl
      go_wp2_with fail
      go_ret
      exact ⟨A, d2, rfl, HL.out, HK.out⟩

/-- The sign of a place as a whole number. -/
def sgnI (j : Nat) : Int := if j % 2 = 0 then 1 else -1
theorem sgnI_some (j : Nat) : sgnI j = 1 ∨ sgnI j = -1 := by unfold sgnI; split <;> simp
theorem sgnI_succ (j : Nat) : sgnI (j + 1) = -(sgnI j) := by
  unfold sgnI
  by_cases h : j % 2 = 0
  · rw [if_pos h, if_neg (by omega)]
  · rw [if_neg h, if_pos (by omega)]; rfl
theorem sgnI_F (j : Nat) : Fp.ofInt (sgnI j) = Mx.sgn j := by
  unfold sgnI Mx.sgn
  split <;> decide
theorem det_step (s x d : Fp.F) (k : Nat) : ((s.val : Int) + sgnI k * (x.val : Int) * (d.val : Int)) % 9973 = ((s + Mx.sgn k * x * d).val : Int) := by
  rw [← Fp.ofInt_val, Fp.ofInt_add, Fp.ofInt_mul, Fp.ofInt_mul, Fp.ofInt_self, Fp.ofInt_self, Fp.ofInt_self, sgnI_F]
theorem det_bound (x d : Fp.F) (k : Nat) : (-9972 ≤ sgnI k * (x.val : Int) ∧ sgnI k * (x.val : Int) ≤ 9972) ∧ -99440784 ≤ sgnI k * (x.val : Int) * (d.val : Int) ∧ sgnI k * (x.val : Int) * (d.val : Int) ≤ 99440784 := by
  have h := rprod x d
  have hx := rval x
  rcases sgnI_some k with e | e
  · rw [e, Int.one_mul]; omega
  · rw [e, Int.neg_one_mul, Int.neg_mul]; omega


set_option maxHeartbeats 1600000 in
theorem rSquare_any (A : Option Addr) (m : List (List Int)) (n d most : Nat) (lo hi : Int) (w : World) (ha : LiesM w A m) (hn : m.length = n) (hmo : most ≤ 1000) :
    Calls Try.prog 19 #[.slice A n d, .int .i64 (most : Int), .int .i64 lo, .int .i64 hi] w fun e w' => e = .returned (.int .i64 (qcode most lo hi m : Int)) ∧ Drew w w' := by
  have MX := Lib.hid (rMatrix_any A m n d most lo hi w ha hn hmo)
  by_cases h0 : Mx.mcode most lo hi m = 0
  · have h0n : 0 < m.length := by
      rcases Nat.eq_zero_or_pos m.length with h | h
      · exfalso; unfold Mx.mcode at h0; rw [if_pos (.inl h)] at h0; cases h0
      · exact h
    obtain ⟨ad, A0, d0, rfl, hl0, hc0, _, _⟩ := ha 0 h0n
    rw [add_zero'] at hc0
    have HC := Lib.hid hc0
    have EV := Lib.hid (show qcode most lo hi m = if n ≠ (m.getD 0 []).length then 3 else 0 by
      unfold qcode
      rw [h0, hn]
      by_cases h : n ≠ (m.getD 0 []).length
      · rw [if_pos ⟨rfl, h⟩, if_pos h]
      · rw [if_neg (fun h' => h h'.2), if_neg h])
    rw [h0] at MX
    have hn0 : (0 : Int) < n := by omega
    generalize (m.getD 0 []).length = q at *
    generalize qcode most lo hi m = z at *
    have HN0 := Lib.hid hn0
    clear ha h0 hn h0n hc0
    by_cases hq : n = q
    · subst hq
      have E2 := Lib.hid (show z = 0 by rw [EV.out, if_neg (fun h => h rfl)])
      have e1 : ((n : Int) != (n : Int)) = false := by simp
      go_enter Try.func19, Try.ntmps19
      go_wp2_with fail
      refine (MX.out).mono ?_; rintro e w1 ⟨rfl, hd⟩
      have HD := Lib.hid hd
      have hc := (hd.kp.cell (p := ad) hl0).trans HC.out
      clear hd
      go_wp2_with fail
      go_ret
      exact ⟨by rw [E2.out]; rfl, HD.out⟩
    · have E2 := Lib.hid (show z = 3 by rw [EV.out, if_pos hq])
      have e1 : ((n : Int) != (q : Int)) = true := by rw [bne_iff_ne]; omega
      go_enter Try.func19, Try.ntmps19
      go_wp2_with fail
      refine (MX.out).mono ?_; rintro e w1 ⟨rfl, hd⟩
      have HD := Lib.hid hd
      have hc := (hd.kp.cell (p := ad) hl0).trans HC.out
      clear hd
      go_wp2_with fail
      go_ret
      exact ⟨by rw [E2.out]; rfl, HD.out⟩
  · have EV : qcode most lo hi m = Mx.mcode most lo hi m := by unfold qcode; rw [if_neg (fun h => h0 h.1)]
    rw [EV]
    have e1 : ((Mx.mcode most lo hi m : Int) == 0) = false := by rw [beq_eq_false_iff_ne]; omega
    generalize Mx.mcode most lo hi m = z at *
    clear ha hn EV h0
    go_enter Try.func19, Try.ntmps19
    go_wp2_with fail
    refine (MX.out).mono ?_; rintro e w1 ⟨rfl, hd⟩
    have HD := Lib.hid hd
    clear hd
    go_wp2_with fail
    go_ret
    exact ⟨rfl, HD.out⟩
end Go.Proofs.Ytkebjmapdcbnaaa
