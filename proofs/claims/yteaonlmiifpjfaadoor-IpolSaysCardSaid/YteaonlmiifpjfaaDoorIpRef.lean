/- Contracts of the document's answer for package ipol (package rankmereref1): Has, Dots, Through. -/
import Derived.Test.YteaonlmiifpjfaaDoorIpC3
import Derived.Test.YteaonlmiifpjfaaDoorSame
namespace Go.Proofs.YteaonlmiifpjfaaDoor
open Go.ChangeShapes Go.WideShapes Go.ChangeAt Go.RowKit
set_option linter.unusedVariables false

set_option maxHeartbeats 800000 in
theorem refHas_any (A : Option Addr) (l : List Int) (n c : Nat) (v : Int) (w : World) (hl : Lies w A l) (hn : n ≤ l.length) (ln : n ≤ 1000000) :
    Calls Tryd.prog 12 #[.slice A n c, .int .i64 v] w fun e w' => Tells (Occurs l n v) e ∧ w = w' := by
  have HL := Lib.hid hl
  have HN := Lib.hid hn
  clear hl hn
  go_enter Tryd.func12, Tryd.ntmps12
  go_wp2_with fail
  go_loop [5] (fun i => ∃ k : Nat, k ≤ n ∧ i = .int .i64 (k : Int) ∧ ∀ j, j < k → l.getD j 0 ≠ v) (fun i => n - (intOf i).toNat)
  case atStart => exact ⟨0, Nat.zero_le _, rfl, fun j hj => absurd hj (by omega)⟩
  case round =>
    obtain ⟨k, hk, rfl, hg⟩ := hrel
    have HG := Lib.hid hg
    clear hg
    by_cases hlt : k < n
    · obtain ⟨ad, rfl, _, hc⟩ := HL.out k (by have := HN.out; omega)
      obtain ⟨m, hm⟩ : ∃ m, m = l.getD k 0 := ⟨_, rfl⟩
      rw [← hm] at hc
      by_cases h0 : m = v
      · have F := Lib.hid (show Occurs l n v from ⟨k, hlt, by rw [← hm, h0]⟩)
        have e0 : (m == v) = true := by rw [h0]; exact beq_self_eq_true v
        clear hm h0
        go_wp2_with fail
        go_ret
        exact ⟨.inl ⟨F.out, rfl⟩, rfl⟩
      · have GG := Lib.hid (show ∀ j, j < k + 1 → l.getD j 0 ≠ v from fun j hj => by
          by_cases e : j = k
          · subst e; rw [← hm]; exact h0
          · exact HG.out j (by omega))
        have e0 : (m == v) = false := by rw [beq_eq_false_iff_ne]; exact h0
        clear hm h0
        go_wp2_with fail
        go_round
        case rel => exact ⟨k + 1, by omega, by go_num, GG.out⟩
        case measure => simp [intOf]; omega
    · have F := Lib.hid (show ¬ Occurs l n v from fun ⟨j, h1, h2⟩ => HG.out j (by omega) h2)
      go_wp2_with fail
      go_ret
      exact ⟨.inr ⟨F.out, rfl⟩, rfl⟩

theorem tells_no {P : Prop} {e : Ending} (h : Tells P e) (hp : ¬ P) : e = .returned (.bool false) := by rcases h with ⟨h, _⟩ | ⟨_, h⟩ <;> first | exact h | exact absurd h hp

/-- The answer is what is wrong. -/
def SaysCode (c : Nat) (w : World) (e : Ending) (w' : World) : Prop := e = .returned (.int .i64 (c : Int)) ∧ Drew w w'
theorem refDots_full (A B : Option Addr) (l m : List Int) (c d : Nat) (w : World) (h : 6 < l.length) :
    Calls Tryd.prog 4 #[.slice A l.length c, .slice B m.length d] w fun e w' => SaysCode (dcode l m) w e w' := by
  rw [dcode_full h]
  generalize l.length = n at *
  generalize m.length = q at *
  have h' : (6 : Int) < n := by omega
  go_enter Tryd.func4, Tryd.ntmps4
  go_wp2
  go_ret
  exact ⟨rfl, Drew.refl _⟩
theorem refDots_shape (A B : Option Addr) (l m : List Int) (c d : Nat) (w : World) (h : ¬ 6 < l.length) (h1 : m.length ≠ l.length) :
    Calls Tryd.prog 4 #[.slice A l.length c, .slice B m.length d] w fun e w' => SaysCode (dcode l m) w e w' := by
  rw [dcode_shape h h1]
  generalize l.length = n at *
  generalize m.length = q at *
  have h' : ¬ (6 : Int) < n := by omega
  have h2 : ((n : Int) != (q : Int)) = true := by simp; omega
  clear h h1
  go_enter Tryd.func4, Tryd.ntmps4
  go_wp2
  go_ret
  exact ⟨rfl, Drew.refl _⟩

set_option maxHeartbeats 1600000 in
theorem refDots_main (A B : Option Addr) (l m : List Int) (c d : Nat) (w : World) (ha : Lies w A l) (hb : Lies w B m) (hc : l.length ≤ c) (h : ¬ 6 < l.length) (h1 : m.length = l.length) :
    Calls Tryd.prog 4 #[.slice A l.length c, .slice B l.length d] w fun e w' => SaysCode (dcode l m) w e w' := by
  have HA := Lib.hid ha
  have AX := Lib.hid (all_any A l c 0 9972 w ha (by omega))
  have AY := Lib.hid (all_any B m d 0 9972 w hb (by omega))
  rw [h1] at AY
  have RNG := Lib.hid (fun h2 => dcode_range h h1 h2)
  have TWI := Lib.hid (fun h2 h3 h4 => dcode_twice h h1 h2 h3 h4)
  have OKS := Lib.hid (fun h2 h3 h4 => dcode_ok h h1 h2 h3 h4)
  obtain ⟨v, hv⟩ : ∃ v, v = dcode l m := ⟨_, rfl⟩
  rw [← hv] at RNG TWI OKS ⊢
  obtain ⟨n, hn⟩ : ∃ n, n = l.length := ⟨_, rfl⟩
  rw [← hn] at h hc AX AY ⊢
  have HN := Lib.hid hn
  have h' : ¬ (6 : Int) < n := by omega
  clear ha hb hv hn h1
  go_enter Tryd.func4, Tryd.ntmps4
  go_wp2_with fail
  refine (AX.out).mono ?_; rintro e w' ⟨hte, rfl⟩
  rcases hte with ⟨hp, rfl⟩ | ⟨hp, rfl⟩
  · have PX := Lib.hid hp
    clear hp
    go_wp2_with fail
    refine (AY.out).mono ?_; rintro e w' ⟨hte, rfl⟩
    rcases hte with ⟨hp, rfl⟩ | ⟨hp, rfl⟩
    · have PY := Lib.hid hp
      clear hp
      go_wp2_with fail
      go_loopw [5] (fun i wr => ∃ k : Nat, k ≤ n ∧ i = .int .i64 (k : Int) ∧ (∀ j, j < k → ¬ Occurs l j (l.getD j 0)) ∧ Drew w wr) (fun i _ => n - (intOf i).toNat)
      case atStart => exact ⟨0, Nat.zero_le _, rfl, fun j hj => absurd hj (by omega), Drew.refl _⟩
      case round =>
        obtain ⟨t, ht, rfl, hg2, hdr⟩ := hrel
        have HG2 := Lib.hid hg2
        have HD := Lib.hid hdr
        have HA2 := Lib.hid (HA.out.keep hdr.kp)
        clear hg2 hdr
        by_cases hlt2 : t < n
        · have CT := Lib.hid (fun (k : Nat) => refHas_any A l t c (l.getD t 0) (wr.drewN k) (HA2.out.keep ((Kp.rfl' wr).drewN k)) (by have := HN.out; omega) (by omega))
          obtain ⟨ad, rfl, _, hcx⟩ := HA2.out t (by have := HN.out; omega)
          have tc : t ≤ c := by omega
          have DN := Lib.hid (fun hno : ¬ Occurs l t (l.getD t 0) => show ∀ j, j < t + 1 → ¬ Occurs l j (l.getD j 0) from fun j hj => by
            by_cases e : j = t
            · subst e; exact hno
            · exact HG2.out j (by omega))
          have DY := Lib.hid (fun hy : Occurs l t (l.getD t 0) => TWI.out PX.out PY.out ⟨t, by have := HN.out; omega, hy⟩)
          obtain ⟨x, hx⟩ : ∃ x, x = l.getD t 0 := ⟨_, rfl⟩
          rw [← hx] at hcx CT DN DY
          clear hx
          by_cases hp : Occurs l t x
          · have CY := Lib.hid (show ∀ k, Calls Tryd.prog 12 #[.slice (some ad) t c, .int .i64 x] (wr.drewN k) fun e w' => e = .returned (.bool true) ∧ wr.drewN k = w' from fun k => (CT.out k).mono fun e w' ⟨h1, h2⟩ => ⟨tells_yes h1 hp, h2⟩)
            have E := Lib.hid (DY.out hp)
            clear hp
            go_wp2_with fail
            go_quiet ((first
              | (with_reducible exact quiet_here (CY.out _))))
            go_wp2_with fail
            go_ret
            exact ⟨by rw [E.out]; rfl, HD.out.more _⟩
          · have CY := Lib.hid (show ∀ k, Calls Tryd.prog 12 #[.slice (some ad) t c, .int .i64 x] (wr.drewN k) fun e w' => e = .returned (.bool false) ∧ wr.drewN k = w' from fun k => (CT.out k).mono fun e w' ⟨h1, h2⟩ => ⟨tells_no h1 hp, h2⟩)
            have E := Lib.hid (DN.out hp)
            clear hp
            go_wp2_with fail
            go_quiet ((first
              | (with_reducible exact quiet_here (CY.out _))))
            go_wp2_with fail
            go_roundw
            case rel => exact ⟨t + 1, by omega, by go_num, E.out, HD.out.more _⟩
            case measure => simp [intOf]; omega
        · have E := Lib.hid (OKS.out PX.out PY.out fun ⟨j, hj, ho⟩ => HG2.out j (by have := HN.out; omega) ho)
          go_wp2_with fail
          go_ret
          exact ⟨by rw [E.out]; rfl, HD.out⟩
    · have E := Lib.hid (RNG.out fun hh => hp hh.2)
      clear hp
      go_wp2_with fail
      go_ret
      exact ⟨by rw [E.out]; rfl, Drew.refl _⟩
  · have E := Lib.hid (RNG.out fun hh => hp hh.1)
    clear hp
    go_wp2_with fail
    go_ret
    exact ⟨by rw [E.out]; rfl, Drew.refl _⟩

theorem refDots_any (A B : Option Addr) (l m : List Int) (c d : Nat) (w : World) (ha : Lies w A l) (hb : Lies w B m) (hc : l.length ≤ c) :
    Calls Tryd.prog 4 #[.slice A l.length c, .slice B m.length d] w fun e w' => SaysCode (dcode l m) w e w' := by
  by_cases h : 6 < l.length
  · exact refDots_full A B l m c d w h
  · by_cases h1 : m.length = l.length
    · have := refDots_main A B l m c d w ha hb hc h h1
      rw [h1]; exact this
    · exact refDots_shape A B l m c d w h h1

theorem refDiv_one (b : Fp.F) (w : World) (hb : b ≠ 0) :
    Calls Tryd.prog 16 #[.int .i64 1, el b] w fun e w' => e = .returned (el (Fp.inv b)) ∧ w = w' := by
  have h := refDiv_el 1 b w hb
  rw [Fin.one_mul] at h
  exact h

theorem vals_pair (a b : Fp.F) : Pol.vals [a, b] = [(a.val : Int), (b.val : Int)] := rfl

set_option maxRecDepth 100000 in
set_option maxHeartbeats 3200000 in
theorem refThrough_any (A B : Option Addr) (p q : List Fp.F) (n c d : Nat) (w : World) (ha : Lies w A (Pol.vals p)) (hb : Lies w B (Pol.vals q)) (hn : n = p.length) (hq : n = q.length) (ln : n ≤ 6) (hX : Pol.Apart (Pol.co p) n) :
    Calls Tryd.prog 7 #[.slice A n c, .slice B n d] w fun e w' => GivesRow (Pol.thr (Pol.co p) (Pol.co q) n) w e w' := by
  rw [← Pol.lsum_thr _ _ n (by omega) hX]
  have HA := Lib.hid ha
  have HB := Lib.hid hb
  have HN := Lib.hid hn
  have HQ := Lib.hid hq
  have HX := Lib.hid hX
  clear ha hb hn hq hX
  go_enter Tryd.func7, Tryd.ntmps7
  go_wp2_with fail
  go_loopw [5, 6] (fun v i wr => ∃ (m l c' : Nat) (A' : Option Addr), m ≤ n ∧ i = .int .i64 (m : Int) ∧ v = .slice A' l c' ∧ l = (Pol.lsum (Pol.co p) (Pol.co q) n m).length ∧ Lies wr A' (Pol.vals (Pol.lsum (Pol.co p) (Pol.co q) n m)) ∧ l ≤ c' ∧ Kp w wr) (fun _ i _ => n - (intOf i).toNat)
  case atStart => exact ⟨0, 0, 0, Option.none, Nat.zero_le _, rfl, rfl, rfl, Lies.empty _ _, Nat.le_refl _, Kp.rfl' _⟩
  case round =>
    obtain ⟨m, l, c', A', hm, rfl, rfl, hl, hlies, hc, hkp⟩ := hrel
    have HL := Lib.hid hl
    have HLI := Lib.hid hlies
    have HK := Lib.hid hkp
    have LB := Lib.hid (Pol.len_lsum (Pol.co p) (Pol.co q) n m (by omega) hm)
    clear hl hlies hkp
    by_cases hlt : m < n
    · obtain ⟨bd, rfl, _, yc⟩ := (HB.out.keep HK.out) m (by rw [Pol.len_vals, ← HQ.out]; exact hlt)
      rw [Pol.vals_at] at yc
      obtain ⟨y, hy⟩ : ∃ y, y = Pol.co q m := ⟨_, rfl⟩
      rw [← hy] at yc
      have HY := Lib.hid hy
      clear hy
      obtain ⟨yv, hyv⟩ : ∃ yv, yv = (y.val : Int) := ⟨_, rfl⟩
      rw [← hyv] at yc
      have HYV := Lib.hid hyv
      clear hyv
      go_wp2_with fail
      go_loopw [7, 8] (fun u j wq => ∃ (k l2 c2 : Nat) (A2 : Option Addr), k ≤ n ∧ j = .int .i64 (k : Int) ∧ u = .slice A2 l2 c2 ∧ l2 = (Pol.lag (Pol.co p) y m k).length ∧ Lies wq A2 (Pol.vals (Pol.lag (Pol.co p) y m k)) ∧ l2 ≤ c2 ∧ Lies wq A' (Pol.vals (Pol.lsum (Pol.co p) (Pol.co q) n m)) ∧ Kp w wq) (fun _ j _ => n - (intOf j).toNat)
      case atStart => exact ⟨0, 1, 1, some ⟨wr.heap.size, 0, Option.none⟩, Nat.zero_le _, rfl, rfl, rfl, by show Lies _ _ [(y.val : Int)]; rw [← HYV.out]; exact lies_new wr _ [yv], Nat.le_refl _, HLI.out.keep ((Kp.rfl' wr).new _), HK.out.new _⟩
      case round =>
        obtain ⟨k, l2, c2, A2, hk, rfl, rfl, hl2, hlies2, hc2, hliesO, hkp2⟩ := hrel
        have HL2 := Lib.hid hl2
        have HLI2 := Lib.hid hlies2
        have HLO := Lib.hid hliesO
        have HK2 := Lib.hid hkp2
        have LB2 := Lib.hid (Pol.len_lag (Pol.co p) y m k (by omega)).1
        clear hl2 hlies2 hkp2 hliesO
        by_cases hlt2 : k < n
        · by_cases hkm : k = m
          · have hne : ((k : Int) != (m : Int)) = false := by rw [hkm]; simp
            have EQ := Lib.hid (show Pol.lag (Pol.co p) y m (k + 1) = Pol.lag (Pol.co p) y m k by rw [Pol.lag, if_pos hkm])
            clear hkm
            go_wp2_with fail
            go_roundw
            case rel => exact ⟨k + 1, l2, c2, A2, by omega, by go_num, rfl, by rw [EQ.out]; exact HL2.out, by rw [EQ.out]; exact HLI2.out, hc2, HLO.out, HK2.out⟩
            case measure => simp [intOf]; omega
          · have hne : ((k : Int) != (m : Int)) = true := by simp; omega
            obtain ⟨ad, rfl, hbx, x1⟩ := (HA.out.keep HK2.out) m (by rw [Pol.len_vals, ← HN.out]; exact hlt)
            obtain ⟨ad', ee, _, x0⟩ := (HA.out.keep HK2.out) k (by rw [Pol.len_vals, ← HN.out]; exact hlt2)
            injection ee with ee
            subst ee
            rw [Pol.vals_at] at x1 x0
            have ne := Pol.sub_ne (HX.out.ne (i := m) (j := k) hlt hlt2 (fun e => hkm e.symm))
            have EQ := Lib.hid (show Pol.lag (Pol.co p) y m (k + 1) = Pol.mul (Pol.lag (Pol.co p) y m k) [-(Pol.co p k) * Fp.inv (Pol.co p m - Pol.co p k), Fp.inv (Pol.co p m - Pol.co p k)] by rw [Pol.lag, if_neg hkm])
            obtain ⟨a1, ha1⟩ : ∃ a1, a1 = Pol.co p m := ⟨_, rfl⟩
            obtain ⟨a0, ha0⟩ : ∃ a0, a0 = Pol.co p k := ⟨_, rfl⟩
            rw [← ha1, ← ha0] at EQ ne
            rw [← ha1] at x1
            rw [← ha0] at x0
            clear ha1 ha0 hkm
            have b1 := Fp.val_bound a1
            have b0 := Fp.val_bound a0
            have MD := Lib.hid (fun wx => refMod_el ((a1.val : Int) - (a0.val : Int)) wx (by omega) (by omega))
            have DV := Lib.hid (fun wx => refDiv_one (a1 - a0) wx ne)
            have hsub : Fp.ofInt ((a1.val : Int) - (a0.val : Int)) = a1 - a0 := by
              have : Fp.ofInt ((a1.val : Int) - (a0.val : Int)) = Fp.ofInt (a1.val : Int) + Fp.ofInt (-(a0.val : Int)) := by rw [← Fp.ofInt_add, Int.sub_eq_add_neg]
              rw [this, Fp.ofInt_self, ofInt_neg]; grind
            rw [hsub] at MD
            clear hsub ne
            obtain ⟨i, hi⟩ : ∃ i, i = Fp.inv (a1 - a0) := ⟨_, rfl⟩
            rw [← hi] at DV EQ
            clear hi
            obtain ⟨p1, p2⟩ := prod_bound a0 i
            have MD2 := Lib.hid (fun wx => refMod_el (-(a0.val : Int) * (i.val : Int)) wx (by rw [Int.neg_mul]; omega) (by rw [Int.neg_mul]; omega))
            have hprod : Fp.ofInt (-(a0.val : Int) * (i.val : Int)) = -a0 * i := by rw [Fp.ofInt_mul, Fp.ofInt_self, ofInt_neg]
            have hw : wrap64 (-(a0.val : Int) * (i.val : Int)) = -(a0.val : Int) * (i.val : Int) := wrap64_id ⟨by rw [Int.neg_mul]; omega, by rw [Int.neg_mul]; omega⟩
            rw [hprod] at MD2
            clear hprod
            have TM := Lib.hid (fun (wx : World) (B' : Option Addr) (hx : Kp wr wx) (hB : Lies wx B' (Pol.vals [-a0 * i, i])) => refTimes_any A2 B' (Pol.lag (Pol.co p) y m k) [-a0 * i, i] l2 2 c2 2 wx (HLI2.out.keep hx) hB HL2.out rfl
              (by have := HL2.out; have := LB2.out; omega) (by omega))
            have i1 := Fp.val_bound i
            unfold el at *
            generalize ((a1 - a0).val : Int) = dv at *
            generalize hpv : ((-a0 * i).val : Int) = pv at *
            have HPV := Lib.hid hpv
            clear hpv
            generalize (a1.val : Int) = v1 at *
            generalize (a0.val : Int) = v0 at *
            generalize hiv : (i.val : Int) = iv at *
            have HIV := Lib.hid hiv
            clear hiv
            go_wp2_with fail
            go_quiet ((first
              | (with_reducible exact quiet_here (MD.out _))
              | (with_reducible exact quiet_here (DV.out _))))
            go_wp2_with fail
            refine (MD2.out _).mono ?_; rintro e w' ⟨rfl, rfl⟩
            go_wp2_with fail
            refine (TM.out _ _ (((Kp.rfl' wr).drewN _).new _) (by rw [vals_pair, HPV.out, HIV.out]; exact lies_new (wr.drewN _) _ [pv, iv])).mono ?_
            rintro e w9 ⟨A9, c9, rfl, l9, lc9, hk9⟩
            rw [← EQ.out] at l9 lc9 ⊢
            have KW := Lib.hid ((((Kp.rfl' wr).drewN _).new _).trans hk9)
            have K9 := Lib.hid (HK2.out.trans ((((Kp.rfl' wr).drewN _).new _).trans hk9))
            have L9 := Lib.hid l9
            have C9 := Lib.hid lc9
            clear l9 hk9 TM lc9
            go_wp2_with fail
            go_roundw
            case rel => exact ⟨k + 1, _, c9, A9, by omega, by go_num, rfl, rfl, L9.out, C9.out, HLO.out.keep KW.out, K9.out⟩
            case measure => simp [intOf]; omega
        · obtain rfl : k = n := by omega
          have PL := Lib.hid (refPlus_any A' A2 (Pol.lsum (Pol.co p) (Pol.co q) k m) (Pol.lag (Pol.co p) y m k) l l2 c' c2 1 1 0 wr HLO.out HLI2.out HL.out HL2.out
            (by have := HL.out; have := LB.out; omega) (by have := HL2.out; have := LB2.out; omega) (by omega) rfl (by omega) (by omega))
          have EQ := Lib.hid (show Pol.plus (Pol.lsum (Pol.co p) (Pol.co q) k m) (Pol.lag (Pol.co p) y m k) 1 0 = Pol.lsum (Pol.co p) (Pol.co q) k (m + 1) by rw [Pol.lsum, HY.out])
          rw [EQ.out] at PL
          go_wp2_with fail
          refine (PL.out).mono ?_; rintro e w8 ⟨A8, c8, rfl, l8, lc8, hk8⟩
          have L8 := Lib.hid l8
          have C8 := Lib.hid lc8
          have K8 := Lib.hid (HK2.out.trans hk8)
          clear l8 lc8 hk8 PL
          go_wp2_with fail
          go_roundw
          case rel => exact ⟨m + 1, _, c8, A8, by omega, by go_num, rfl, rfl, L8.out, C8.out, K8.out⟩
          case measure => simp [intOf]; omega
    · obtain rfl : m = n := by omega
      go_wp2_with fail
      go_ret
      exact ⟨A', c', by rw [← HL.out]; rfl, HLI.out, by rw [← HL.out]; exact hc, HK.out⟩

end Go.Proofs.YteaonlmiifpjfaaDoor
