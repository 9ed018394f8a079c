/- Contracts of the document's answer on matrices, fourth part: Without, DetMod, Square. For all packages. -/
import Derived.Test.YtbmkkcpdlakgbaaDoorMxRef3
import Derived.Test.YtbmkkcpdlakgbaaDoorMatD
import Derived.Test.YtbmkkcpdlakgbaaDoorCt
import Derived.Test.YtbmkkcpdlakgbaaDoorSqr
import Derived.Deep.RegionHeld3
namespace Go.Proofs.YtbmkkcpdlakgbaaDoor
open Go.ChangeShapes Go.WideShapes Go.ChangeAt Go.RowKit
set_option linter.unusedVariables false

theorem wo_del (f : Nat → Nat → Fp.F) (j : Nat) : wo f 0 j = Mx.del j f := by
  funext a b
  unfold wo Mx.del
  congr 1

set_option maxRecDepth 100000 in
set_option maxHeartbeats 6400000 in
theorem rWithout_any (A : Option Addr) (f : Nat → Nat → Fp.F) (p a b d : Nat) (w : World) (ha : LiesM w A (Mx.matl (p + 1) (p + 1) f)) (hpa : a ≤ p) (hpb : b ≤ p) (hp : p ≤ 1000) :
    Calls Tryd.prog 19 #[.slice A ((p + 1 : Nat) : Int).toNat d, .int .i64 (a : Int), .int .i64 (b : Int)] w fun e w' => Made p p (wo f a b) w e w' := by
  rw [Int.toNat_natCast]
  have HA := Lib.hid ha
  clear ha
  obtain ⟨n, hn⟩ : ∃ n, n = p + 1 := ⟨_, rfl⟩
  rw [← hn] at HA ⊢
  have HN := Lib.hid hn
  have hn1 : n ≤ 1001 := by omega
  clear hn
  go_enter Tryd.func19, Tryd.ntmps19
  go_wp2_with fail
  go_loopw [7, 8] (fun v i wr => ∃ (k : Nat) (G C : Nat → Nat), k ≤ n ∧ i = .int .i64 (k : Int) ∧ OwnM wr w.heap.size v G C (Mx.matl (ct a k) p (wo f a b)) ∧ Kp w wr) (fun _ i _ => n - (intOf i).toNat)
  case atStart => exact ⟨0, fun _ => 0, fun _ => 0, Nat.zero_le _, rfl, by rw [ct_zero]; exact ownM_none _ _ _ _, Kp.rfl' _⟩
  case round =>
    obtain ⟨k, G, C, hk, rfl, ho, hkp⟩ := hrel
    obtain ⟨wo', hwo⟩ : ∃ x, x = wr := ⟨_, rfl⟩
    subst hwo
    have HO := Lib.hid ho
    have HK := Lib.hid hkp
    clear ho hkp
    by_cases hlt : k < n
    · by_cases hka : k = a
      · subst hka
        have e1 : ((k : Int) == (k : Int)) = true := by simp
        have HC := Lib.hid (ct_skip k)
        go_wp2_with fail
        go_roundw
        case rel => exact ⟨k + 1, G, C, by omega, by go_num, by rw [HC.out]; exact HO.out, HK.out⟩
        case measure => simp [intOf]; omega
      · have e1 : ((k : Int) == (a : Int)) = false := by rw [beq_eq_false_iff_ne]; omega
        have hp0 : 0 < p := by have := HN.out; omega
        have HC := Lib.hid (ct_next hka)
        have HSK := Lib.hid (sk_ct hka)
        have HS := Lib.hid (show Mx.matl (ct a k + 1) p (wo f a b) = Mx.matl (ct a k) p (wo f a b) ++ [Mx.row p fun j => ((f k (Mx.sk b j)).val : Int)] by
          rw [Mx.matl, Mx.tab_snoc]
          congr 2
          refine Mx.row_ext fun j _ => ?_
          show ((f (Mx.sk a (ct a k)) (Mx.sk b j)).val : Int) = _
          rw [HSK.out])
        have HCL := Lib.hid (show ct a k ≤ 2000 by have := ct_le (a := a) (p := p) (t := k) hpa (by have := HN.out; omega); omega)
        clear hka
        obtain ⟨ad, A1, d1, rfl, _, x1, _, l1⟩ := (HA.out.keep HK.out).row hlt
        have L1 := Lib.hid l1
        have X1 := Lib.hid x1
        clear l1 x1
        go_wp2_with fail
        go_loopw [9, 10] (fun u i wq => ∃ t : Nat, t ≤ n ∧ i = .int .i64 (t : Int) ∧ Own wq wo'.heap.size u (Mx.row (ct b t) fun j => ((f k (Mx.sk b j)).val : Int)) ∧ Kp wo' wq) (fun _ i _ => n - (intOf i).toNat)
        case atStart => exact ⟨0, Nat.zero_le _, rfl, by rw [ct_zero]; exact Own.none _ _, Kp.rfl' _⟩
        case round =>
          obtain ⟨t, ht, rfl, hu, hkq⟩ := hrel
          have HU := Lib.hid hu
          have HQ := Lib.hid hkq
          have x2 := (hkq.cell (p := ad.add k) (cell_lt X1.out)).trans X1.out
          by_cases hlt2 : t < n
          · by_cases htb : t = b
            · subst htb
              have e2 : ((t : Int) != (t : Int)) = false := by simp
              have HC2 := Lib.hid (ct_skip t)
              clear hu hkq
              go_wp2_with fail
              go_roundw
              case rel => exact ⟨t + 1, by omega, by go_num, by rw [HC2.out]; exact HU.out, HQ.out⟩
              case measure => simp [intOf]; omega
            · have e2 : ((t : Int) != (b : Int)) = true := by rw [bne_iff_ne]; omega
              have HC2 := Lib.hid (ct_next htb)
              have HSK2 := Lib.hid (sk_ct htb)
              obtain ⟨ad1, rfl, _, x3⟩ := (L1.out.keep hkq).el hlt2
              have hlen : (Mx.row (ct b t) fun j => ((f k (Mx.sk b j)).val : Int)).length + 1 ≤ 17000000000000 := by
                rw [Mx.len_row]; have := ct_le (a := b) (p := p) (t := t) hpb (by have := HN.out; omega); omega
              have HSN := Lib.hid (show Mx.row (ct b t + 1) (fun j => ((f k (Mx.sk b j)).val : Int)) = (Mx.row (ct b t) fun j => ((f k (Mx.sk b j)).val : Int)) ++ [((f k t).val : Int)] by
                rw [Mx.row_snoc, HSK2.out])
              have hsz := HQ.out.size
              generalize ((f k t).val : Int) = z at *
              obtain ⟨wd, hwd⟩ : ∃ x, x = wr := ⟨_, rfl⟩
              subst hwd
              clear hu hkq htb
              go_wp2_with (at_builtin; refine wpList_push rfl _ _ rfl wo'.heap.size _ (Mx.row (ct b t) fun j => ((f k (Mx.sk b j)).val : Int)) z wd.heap.size 1 rfl rfl (HU.out.new _) (by simp; done) hlen (Nat.le_trans hsz ((Kp.rfl' _).new _).size) ?_; intro v' w' h1 h2 _)
              have HU' := Lib.hid h1
              have HQ' := Lib.hid (own_below (HU.out.new _) (HQ.out.new _) (Nat.le_trans hsz ((Kp.rfl' _).new _).size) h2)
              clear h1 h2
              go_wp2_with fail
              go_roundw
              case rel => exact ⟨t + 1, by omega, by go_num, by rw [HC2.out, HSN.out]; exact HU'.out, HQ'.out⟩
              case measure => simp [intOf]; omega
          · obtain rfl : t = n := by omega
            rw [show ct b t = p by rw [HN.out]; exact ct_end hpb] at HU
            obtain ⟨g, gc, rfl, hg, hgc⟩ := own_some HU.out (by rw [Mx.len_row]; exact hp0)
            rw [Mx.len_row] at HU hgc ⊢
            clear hu hkq
            have OM := Lib.hid (HO.out.kp HQ.out)
            have HAP := Lib.hid (show ∀ i, i < (Mx.matl (ct a k) p (wo f a b)).length → G i ≠ g from fun i hi => by have := (HO.out.lt hi).2; omega)
            have HLE := Lib.hid (show (Mx.matl (ct a k) p (wo f a b)).length + 1 ≤ 1000000 by rw [Mx.len_matl]; have := HCL.out; omega)
            go_wp2_with (at_builtin; refine wpList_pushM rfl _ _ rfl w.heap.size _ G C (Mx.matl (ct a k) p (wo f a b)) _ g p gc _ 1 (Mx.len_row _ _) rfl rfl (OM.out.new _) (cell_made _ _ _ _ 0 rfl) ((HU.out.from HK.out.size).new _) HAP.out HLE.out (Nat.le_trans HK.out.size (Nat.le_trans HQ.out.size ((Kp.rfl' _).new _).size)) ?_; intro v' w' G' C' ho' hk')
            have HO' := Lib.hid ho'
            have HK' := Lib.hid (hk' w (Nat.le_refl _) ((HK.out.trans HQ.out).new _))
            clear ho' hk'
            go_wp2_with fail
            go_roundw
            case rel => exact ⟨k + 1, G', C', by omega, by go_num, by rw [HC.out, HS.out]; exact HO'.out, HK'.out⟩
            case measure => simp [intOf]; omega
    · obtain rfl : k = n := by omega
      obtain ⟨A, d2, rfl, hl, _⟩ := HO.out.lies
      rw [Mx.len_matl, show ct a k = p by rw [HN.out]; exact ct_end hpa] at *
      have HL := Lib.hid hl
      clear hl
      go_wp2_with fail
      go_ret
      exact ⟨A, d2, rfl, HL.out, HK.out⟩

/-- The sign of a place as a whole number. -/
def sgnI (j : Nat) : Int := if j % 2 = 0 then 1 else -1
theorem sgnI_some (j : Nat) : sgnI j = 1 ∨ sgnI j = -1 := by unfold sgnI; split <;> simp
theorem sgnI_succ (j : Nat) : sgnI (j + 1) = -(sgnI j) := by
  unfold sgnI
  by_cases h : j % 2 = 0
  · rw [if_pos h, if_neg (by omega)]
  · rw [if_neg h, if_pos (by omega)]; rfl
theorem sgnI_F (j : Nat) : Fp.ofInt (sgnI j) = Mx.sgn j := by
  unfold sgnI Mx.sgn
  split <;> decide
theorem det_step (s x d : Fp.F) (k : Nat) : ((s.val : Int) + sgnI k * (x.val : Int) * (d.val : Int)) % 9973 = ((s + Mx.sgn k * x * d).val : Int) := by
  rw [← Fp.ofInt_val, Fp.ofInt_add, Fp.ofInt_mul, Fp.ofInt_mul, Fp.ofInt_self, Fp.ofInt_self, Fp.ofInt_self, sgnI_F]
theorem det_bound (x d : Fp.F) (k : Nat) : (-9972 ≤ sgnI k * (x.val : Int) ∧ sgnI k * (x.val : Int) ≤ 9972) ∧ -99440784 ≤ sgnI k * (x.val : Int) * (d.val : Int) ∧ sgnI k * (x.val : Int) * (d.val : Int) ≤ 99440784 := by
  have h := rprod x d
  have hx := rval x
  rcases sgnI_some k with e | e
  · rw [e, Int.one_mul]; omega
  · rw [e, Int.neg_one_mul, Int.neg_mul]; omega

set_option maxRecDepth 100000 in
set_option maxHeartbeats 6400000 in
theorem rDetMod_step (A : Option Addr) (f : Nat → Nat → Fp.F) (p n d : Nat) (w : World) (ha : LiesM w A (Mx.matl n n f)) (hn : n = p + 1) (hp : p ≤ 1000)
    (ih : ∀ (A : Option Addr) (f : Nat → Nat → Fp.F) (d : Nat) (w : World), LiesM w A (Mx.matl p p f) → Calls Tryd.prog 8 #[.slice A p d] w fun e w' => e = .returned (.int .i64 ((Mx.dt p f).val : Int)) ∧ Kp w w') :
    Calls Tryd.prog 8 #[.slice A n d] w fun e w' => e = .returned (.int .i64 ((Mx.dt n f).val : Int)) ∧ Kp w w' := by
  have HA := Lib.hid ha
  have IH := Lib.hid ih
  have hdt : Mx.dt n f = Mx.sg n fun j => Mx.sgn j * f 0 j * Mx.dt p (Mx.del j f) := by rw [hn]; rfl
  rw [hdt]
  have h0 : 0 < n := by omega
  have hn1 : n ≤ 1001 := by omega
  have e0 : ((n : Int) == 0) = false := by rw [beq_eq_false_iff_ne]; omega
  have WO := Lib.hid (fun (k : Nat) (w : World) (hk : k < n) (h : LiesM w A (Mx.matl n n f)) => show Calls Tryd.prog 19 #[.slice A n d, .int .i64 0, .int .i64 (k : Int)] w fun e w' => Made p p (Mx.del k f) w e w' by
    subst hn
    have := rWithout_any A f p 0 k d w h (Nat.zero_le _) (by omega) hp
    rw [Int.toNat_natCast, wo_del] at this
    exact this)
  clear ha ih hdt hn
  go_enter Tryd.func8, Tryd.ntmps8
  go_wp2_with fail
  go_loopw [3, 4, 5] (fun s g i wr => ∃ k : Nat, k ≤ n ∧ i = .int .i64 (k : Int) ∧ g = .int .i64 (sgnI k) ∧ s = .int .i64 ((Mx.sg k fun j => Mx.sgn j * f 0 j * Mx.dt p (Mx.del j f)).val : Int) ∧ Kp w wr) (fun _ _ i _ => n - (intOf i).toNat)
  case atStart => exact ⟨0, Nat.zero_le _, rfl, rfl, rfl, Kp.rfl' _⟩
  case round =>
    obtain ⟨k, hk, rfl, rfl, rfl, hkp⟩ := hrel
    have HK := Lib.hid hkp
    by_cases hlt : k < n
    · obtain ⟨ad, A0, d0, ea, hl0, x1, _, l1⟩ := (HA.out.keep hkp).row h0
      subst ea
      rw [add_zero'] at x1
      obtain ⟨ad1, ea, hl1, x2⟩ := l1.el hlt
      subst ea
      obtain ⟨s, hs⟩ : ∃ s, s = Mx.sg k fun j => Mx.sgn j * f 0 j * Mx.dt p (Mx.del j f) := ⟨_, rfl⟩
      rw [← hs]
      have hs2 : (Mx.sg (k + 1) fun j => Mx.sgn j * f 0 j * Mx.dt p (Mx.del j f)) = s + Mx.sgn k * f 0 k * Mx.dt p (Mx.del k f) := by rw [Mx.sg_succ, hs]
      have HSG := Lib.hid (sgnI_succ k)
      have hsg := sgnI_some k
      have hb := det_bound (f 0 k) (Mx.dt p (Mx.del k f)) k
      have hst := det_step s (f 0 k) (Mx.dt p (Mx.del k f)) k
      have hsv := rval s
      have hneg : IntKind.i64.wrap (-(sgnI k)) = -(sgnI k) := IntWalk.i64_in _ (by omega)
      rw [← hs2] at hst
      clear l1 hs
      by_cases hz : f 0 k = 0
      · have HS := Lib.hid (show (s.val : Int) = ((Mx.sg (k + 1) fun j => Mx.sgn j * f 0 j * Mx.dt p (Mx.del j f)).val : Int) by rw [hs2, hz]; congr 2; grind)
        rw [hz, show (((0 : Fp.F).val : Nat) : Int) = 0 from rfl] at x2
        generalize (s.val : Int) = sv at *
        generalize sgnI k = gi at *
        clear hb hst hsv hkp hz hs2
        go_wp2_with fail
        go_roundw
        case rel => exact ⟨k + 1, by omega, by go_num, by rw [HSG.out], by rw [HS.out], HK.out⟩
        case measure => simp [intOf]; omega
      · have hv := Fp.ne_val hz
        have e1 : (((f 0 k).val : Int) != 0) = true := by rw [bne_iff_ne]; omega
        have HI := Lib.hid (fun A' d' w' h => IH.out A' (Mx.del k f) d' w' h)
        obtain ⟨u, hu⟩ : ∃ u, u = ((Mx.sg (k + 1) fun j => Mx.sgn j * f 0 j * Mx.dt p (Mx.del j f)).val : Int) := ⟨_, rfl⟩
        rw [← hu] at hst
        have HU := Lib.hid hu
        generalize (s.val : Int) = sv at *
        generalize ((f 0 k).val : Int) = xv at *
        generalize ((Mx.dt p (Mx.del k f)).val : Int) = dv at *
        generalize sgnI k = gi at *
        obtain ⟨y, hy⟩ : ∃ y, y = gi * xv := ⟨_, rfl⟩
        rw [← hy] at hb hst
        obtain ⟨z, hz'⟩ : ∃ z, z = y * dv := ⟨_, rfl⟩
        rw [← hz'] at hb hst
        have hw1 : IntKind.i64.wrap (gi * xv) = y := by rw [← hy]; exact IntWalk.i64_in _ (by omega)
        have hw2 : IntKind.i64.wrap (y * dv) = z := by rw [← hz']; exact IntWalk.i64_in _ (by omega)
        have hw3 : IntKind.i64.wrap (sv + z) = sv + z := IntWalk.i64_in _ (by omega)
        have MO := Lib.hid (fun w => rMod_any (sv + z) w (by omega) (by omega))
        rw [hst] at MO
        have kd : Kp wr wr.drew := (Kp.rfl' wr).drewN 1
        have W1 := Lib.hid (WO.out k wr.drew hlt (HA.out.keep (hkp.trans kd)))
        have SK := Lib.hid (fun (w' : World) (h : Kp wr w') => (show w'.cell? ad = some (.slice (some ad1) n d0) ∧ w'.cell? (ad1.add k) = some (.int .i64 xv) ∧ Kp wr w' from
          ⟨(h.cell (p := ad) hl0).trans x1, (h.cell (p := ad1.add k) (by rw [block_add]; exact hl1)).trans x2, h⟩))
        clear hb hst hsv hkp hz hs2 hu hv hy hz' hsg
        go_wp2_with fail
        go_region_held3 (fun w' => w'.cell? ad = some (.slice (some ad1) n d0) ∧ w'.cell? (ad1.add k) = some (.int .i64 xv) ∧ Kp wr w')
          (first
          | exact SK.out _ (Kp.rfl' _)
          | exact SK.out _ kd
          | exact SK.out _ (kd.trans k1)
          | exact SK.out _ ((kd.trans k1).trans k2))
          ((first
          | (go_at_call 19; (with_reducible refine (W1.out).mono ?_); rintro e w1 ⟨A1, c1, rfl, l1, k1⟩)
          | (go_at_call 8; (with_reducible refine (HI.out A1 c1 _ l1).mono ?_); rintro e w2 ⟨rfl, k2⟩)
          | (go_at_call 18; (with_reducible refine (MO.out _).mono ?_); rintro e w' ⟨rfl, rfl⟩)))
        have HK2 := Lib.hid (HK.out.trans ((kd.trans k1).trans k2))
        clear k1 k2 l1 x1 x2
        go_wp2_with fail
        go_roundw
        case rel => exact ⟨k + 1, by omega, by go_num, by rw [HSG.out], by rw [HU.out], HK2.out⟩
        case measure => simp [intOf]; omega
    · obtain rfl : k = n := by omega
      clear hkp
      go_wp2_with fail
      go_ret
      exact ⟨rfl, HK.out⟩

theorem rDetMod_any : ∀ (n : Nat) (hn : n ≤ 1000) (A : Option Addr) (f : Nat → Nat → Fp.F) (d : Nat) (w : World) (ha : LiesM w A (Mx.matl n n f)),
    Calls Tryd.prog 8 #[.slice A n d] w fun e w' => e = .returned (.int .i64 ((Mx.dt n f).val : Int)) ∧ Kp w w'
  | 0, _, A, f, d, w, ha => by
    have e1 : ((Mx.dt 0 f).val : Int) = 1 := rfl
    rw [e1]
    clear ha
    go_enter Tryd.func8, Tryd.ntmps8
    go_wp2
    go_ret
    exact ⟨rfl, Kp.rfl' _⟩
  | p + 1, hp, A, f, d, w, ha => rDetMod_step A f p (p + 1) d w ha rfl (by omega) (fun A f d w h => rDetMod_any p (by omega) A f d w h)

end Go.Proofs.YtbmkkcpdlakgbaaDoor
