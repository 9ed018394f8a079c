/- Contracts of package solve, fourth part: One. -/
import Derived.Test.YtcgpommgldecfaaDoorSoC3
import Derived.Deep.Cut
import Derived.Deep.CutRange
import Derived.Deep.DeepCutAuto
namespace Go.Proofs.YtcgpommgldecfaaDoor
open Go.ChangeShapes Go.WideShapes Go.ChangeAt Go.RowKit
set_option linter.unusedVariables false

theorem cols_at (b : List Nat) {k : Nat} (hk : k < b.length) : (cols b).getD k 0 = (Mx.pv b k : Int) := by simp [cols, Mx.pv, hk]
/-- What satisfy leaves, value by value. -/
def SRel (B0 B gx cx r c i : Nat) (f : Nat → Nat → Fp.F) (ys : Nat → Fp.F) (b : List Nat) (q p : Value) (w w' : World) : Prop :=
  (∃ n G C x W, p = .nilIface ∧ OwnM w' B q G C (Mx.matl n c W) ∧ Own w' B0 (.slice (some ⟨gx, 0, none⟩) c cx) (rowF c x) ∧ Mx.Srch c f ys b (i + 1) x (Mx.wl n W) ∧ n ≤ 1000 ∧ Below B0 w w') ∨
  (p = .iface 51 (.int .i64 5) ∧ Mx.NoAns r c f ys ∧ Below B0 w w')
theorem stepped_rel {B0 B gx cx r c i : Nat} {f : Nat → Nat → Fp.F} {ys : Nat → Fp.F} {b : List Nat} {w : World} {e : Ending} {w' : World} (h : Stepped B0 B gx cx r c i f ys b w e w') :
    ∃ q p, e = .returned (.tuple #[q, p]) ∧ SRel B0 B gx cx r c i f ys b q p w w' := by
  rcases h with ⟨A, n, d, G, C, x, W, he, h⟩ | ⟨he, h⟩
  · exact ⟨_, _, he, .inl ⟨n, G, C, x, W, rfl, h⟩⟩
  · exact ⟨_, _, he, .inr ⟨rfl, h⟩⟩

theorem SRel.from {B0 B gx cx r c i : Nat} {f : Nat → Nat → Fp.F} {ys : Nat → Fp.F} {b : List Nat} {q p : Value} {w0 w w' : World} (h : SRel B0 B gx cx r c i f ys b q p w w') (k : Below B0 w0 w) : SRel B0 B gx cx r c i f ys b q p w0 w' := by
  rcases h with ⟨n, G, C, x, W, h1, h2, h3, h4, h5, h6⟩ | ⟨h1, h2, h3⟩
  · exact .inl ⟨n, G, C, x, W, h1, h2, h3, h4, h5, k.trans h6⟩
  · exact .inr ⟨h1, h2, k.trans h3⟩

/-- The answer of a system, or that there is none. -/
def GotOne (r c : Nat) (f : Nat → Nat → Fp.F) (ys : Nat → Fp.F) (w : World) (e : Ending) (w' : World) : Prop :=
  ∃ b g, Stair r c c f b g ∧ ((∃ x A d, Mx.Ans r c f ys b x ∧ e = .returned (.tuple #[.slice A c d, .nilIface]) ∧ Lies w' A (rowF c x) ∧ Kp w w') ∨
    (Mx.NoAns r c f ys ∧ e = .returned (.tuple #[.slice none 0 0, .iface 51 (.int .i64 5)]) ∧ Kp w w'))
/-- No row, an error. -/
def FailsRow (c : Nat) (w : World) (e : Ending) (w' : World) : Prop := e = .returned (.tuple #[.slice none 0 0, errOf c]) ∧ Kp w w'

set_option maxRecDepth 100000 in
theorem One_bad (A : Option Addr) (m : List (List Int)) (n d : Nat) (T : Option Addr) (q e : Nat) (w : World) (ha : LiesM w A m) (hn : m.length = n) (h : Mx.mcode 5 0 9972 m ≠ 0) :
    Calls Tryd.prog 12 #[.slice A n d, .slice T q e] w fun e w' => FailsRow (Mx.mcode 5 0 9972 m) w e w' := by
  have C := Lib.hid (Steps_bad A m n d w ha hn h)
  unfold FailsSteps at C
  unfold FailsRow
  rw [errOf_ne _ h] at C ⊢
  generalize Mx.mcode 5 0 9972 m = z at *
  clear ha hn h
  go_enter Tryd.func12, Tryd.ntmps12
  go_wp2_with fail
  refine (C.out).mono ?_; rintro e w' ⟨rfl, hk⟩
  have HK := Lib.hid hk
  clear hk
  go_wp2_with fail
  go_ret2
  exact ⟨rfl, HK.out⟩

set_option maxRecDepth 100000 in
theorem One_side (A : Option Addr) (f : Nat → Nat → Fp.F) (r c d : Nat) (T : Option Addr) (l : List Int) (q e : Nat) (w : World) (ha : LiesM w A (Mx.matl r c f)) (ht : Lies w T l) (hl : l.length = q) (hr0 : 0 < r) (hr : r ≤ 5) (hc0 : 0 < c) (hc : c ≤ 5) (h : Mx.rcode 0 9972 r l ≠ 0) :
    Calls Tryd.prog 12 #[.slice A r d, .slice T q e] w fun e w' => FailsRow (Mx.rcode 0 9972 r l) w e w' := by
  have ST := Lib.hid (Steps_ok A f r c d w ha hr0 hr hc0 hc)
  have CS := Lib.hid (fun (w1 : World) (k : Kp w w1) => checkSide_any T l q e r w1 (ht.keep k) hl (by omega))
  unfold FailsRow
  rw [errOf_ne _ h] at CS ⊢
  generalize Mx.rcode 0 9972 r l = z at *
  clear ha ht h
  go_enter Tryd.func12, Tryd.ntmps12
  go_wp2_with fail
  refine (ST.out).mono ?_; rintro e w1 ⟨b, g, A1, d1, A2, d2, hs, rfl, l1, l2, k1⟩
  have K1 := Lib.hid k1
  clear hs l1 l2 k1
  go_wp2_with fail
  refine (CS.out _ K1.out).mono ?_; rintro e w' ⟨rfl, rfl⟩
  go_wp2_with fail
  go_ret2
  exact ⟨rfl, K1.out⟩

set_option maxRecDepth 100000 in
set_option maxHeartbeats 6400000 in
theorem One_ok (A : Option Addr) (f : Nat → Nat → Fp.F) (r c d : Nat) (T : Option Addr) (t : Nat → Fp.F) (e : Nat) (w : World) (ha : LiesM w A (Mx.matl r c f)) (ht : Lies w T (rowF r t)) (hr0 : 0 < r) (hr : r ≤ 5) (hc0 : 0 < c) (hc : c ≤ 5) :
    Calls Tryd.prog 12 #[.slice A r d, .slice T r e] w fun e w' => GotOne r c f t w e w' := by
  have STP := Lib.hid (Steps_ok A f r c d w ha hr0 hr hc0 hc)
  have CS := Lib.hid (fun (w1 : World) (k : Kp w w1) => checkSide_any T (rowF r t) r e r w1 (ht.keep k) (Mx.len_row _ _) (by omega))
  rw [Mx.rcode_ok (Mx.len_row _ _) (fun k hk => by
    rw [Mx.len_row] at hk
    rw [Mx.row_at _ _ _ hk]; exact gval _), errOf_zero] at CS
  have HA := Lib.hid ha
  have HT := Lib.hid ht
  obtain ⟨i0, hi, hz0, hz1, hz2⟩ := info_parts int_info
  clear ha ht
  go_enter Tryd.func12, Tryd.ntmps12
  go_wp2_with fail
  refine (STP.out).mono ?_; rintro e w1 ⟨b, g, A1, d1, A2, d2, hs, rfl, l1, l2, k1⟩
  obtain ⟨p, hp⟩ : ∃ p, p = b.length := ⟨_, rfl⟩
  rw [← hp]
  have HP := Lib.hid hp
  have ST := Lib.hid hs
  have L2 := Lib.hid l2
  have K1 := Lib.hid k1
  have hpr : p ≤ r := by rw [hp]; exact hs.le
  obtain ⟨ad, A0, d0, rfl, _, x1, _, _⟩ := (HA.out.keep k1).row hr0
  rw [add_zero'] at x1
  clear hs l1 l2 k1 hp
  go_wp2_with fail
  refine (CS.out _ K1.out).mono ?_; rintro e w' ⟨rfl, rfl⟩
  go_wp2_with (at_make; refine wpList_make_full _ rfl _ _ 23 rfl w1.heap.size 3 i0 (.int .i64 0) 1 Tryd.underlying23 hi hz0 hz1 _ _ _ _ c rfl rfl rfl rfl (by rw [hz2]; omega) (by unfold maxLen; omega) (Nat.le_refl _) ?_; intro w2 hown hgrow)
  have hkp2 : Kp w1 w2 := (Kp.rfl' w1).grown hgrow (by simp) (fun k hk => by cases hk)
  have hrow := row_made hown
  obtain ⟨gx, hgx⟩ : ∃ gx, gx = w1.heap.size := ⟨_, rfl⟩
  rw [← hgx] at hrow ⊢
  have hx0 : Own w2 w.heap.size (.slice (some ⟨gx, 0, none⟩) c c) (rowF c fun _ => 0) := by
    rw [Mx.row_rep] at hrow
    exact hrow.own (by rw [hgx]; exact K1.out.size) (Mx.len_row _ _) (by omega)
  have GX := Lib.hid (show gx < w2.heap.size ∧ w.heap.size ≤ w2.heap.size from ⟨hrow.lt, Nat.le_trans K1.out.size hkp2.size⟩)
  have HX0 := Lib.hid hx0
  have K2 := Lib.hid (K1.out.trans hkp2)
  have K12 := Lib.hid hkp2
  clear hown hgrow hkp2 hrow hgx hx0 x1
  go_loopw [11, 39] (fun v j wr => ∃ (k : Nat) (G C : Nat → Nat), k ≤ p ∧ j = .int .i64 (k : Int) ∧ OwnM wr w2.heap.size v G C (Mx.matl k c fun s q => if q = Mx.pv b s then 1 else 0) ∧ Kp w2 wr) (fun _ j _ => p - (intOf j).toNat)
  case atStart => exact ⟨0, fun _ => 0, fun _ => 0, Nat.zero_le _, rfl, ownM_none _ _ _ _, Kp.rfl' _⟩
  case round =>
    obtain ⟨k, G, C, hk, rfl, ho, hkp⟩ := hrel
    have HO := Lib.hid ho
    have HK := Lib.hid hkp
    clear ho hkp
    by_cases hlt : k < p
    · obtain ⟨ad2, rfl, _, x2⟩ := ((L2.out.keep K12.out).keep HK.out) k (by rw [len_cols, ← HP.out]; exact hlt)
      rw [cols_at b (by rw [← HP.out]; exact hlt)] at x2
      have UN := Lib.hid (unit_any c (Mx.pv b k) wr (by omega) (ST.out.steps.lt k (by rw [← HP.out]; exact hlt)))
      generalize hj : Mx.pv b k = j at *
      have HJ := Lib.hid hj
      clear hj
      go_wp2_with fail
      refine (UN.out).mono ?_; rintro e w3 ⟨gu, rfl, hgu, hru, k3⟩
      have OM := Lib.hid (HO.out.kp k3)
      have HU := Lib.hid (hru.own (B := w2.heap.size) (Nat.le_trans HK.out.size hgu) (Mx.len_row _ _) (by omega))
      have HAP := Lib.hid (show ∀ i, i < (Mx.matl k c fun s q => if q = Mx.pv b s then 1 else 0).length → G i ≠ gu from fun i hi => by
        have := (HO.out.lt hi).2
        omega)
      have HK3 := Lib.hid (HK.out.trans k3)
      have HNX := Lib.hid (show (Mx.matl k c fun s q => if q = Mx.pv b s then 1 else 0) ++ [rowF c fun q => if q = j then 1 else 0] = Mx.matl (k + 1) c fun s q => if q = Mx.pv b s then 1 else 0 by
        rw [← HJ.out]; exact (Mx.tab_snoc _ _ _).symm)
      clear hgu hru k3 x2
      go_wp2_with (at_builtin; refine wpList_pushM rfl _ _ rfl w2.heap.size _ G C (Mx.matl k c fun s q => if q = Mx.pv b s then 1 else 0) _ gu c c _ 1 (Mx.len_row _ _) rfl rfl (OM.out.new _) (cell_made _ _ _ _ 0 rfl) (HU.out.new _) HAP.out (by rw [Mx.len_matl]; omega) (Nat.le_trans HK3.out.size ((Kp.rfl' _).new _).size) ?_; intro v' w4 G' C' ho4 hk4)
      rw [HNX.out] at ho4
      have HO4 := Lib.hid ho4
      have HK4 := Lib.hid (hk4 w2 (Nat.le_refl _) (HK3.out.new _))
      clear ho4 hk4
      go_wp2_with fail
      go_roundw
      case rel => exact ⟨k + 1, G', C', by omega, by go_num, HO4.out, HK4.out⟩
      case measure => simp [intOf]; omega
    · obtain rfl : k = p := by omega
      have SR0 := Lib.hid (show Mx.Srch c f t b 0 (fun _ => 0) (Mx.wl k fun s q => if q = Mx.pv b s then 1 else 0) from by
        have h := Mx.Srch.start c f t b
        rw [Mx.wl_units, ← HP.out] at h
        exact h)
      have HX1 := Lib.hid (HX0.out.kp HK.out)
      have K4 := Lib.hid (K2.out.trans HK.out)
      have hk1000 : k ≤ 1000 := by omega
      obtain ⟨w0', hw0'⟩ : ∃ x, x = wr := ⟨_, rfl⟩
      subst hw0'
      go_wp2_with fail
      go_loopw [11, 53] (fun v j wr => ∃ (i n : Nat) (G C : Nat → Nat) (x : Nat → Fp.F) (W : Nat → Nat → Fp.F), i ≤ r ∧ j = .int .i64 (i : Int) ∧ n ≤ 1000 ∧ OwnM wr w2.heap.size v G C (Mx.matl n c W) ∧ Own wr w.heap.size (.slice (some ⟨gx, 0, none⟩) c c) (rowF c x) ∧ Mx.Srch c f t b i x (Mx.wl n W) ∧ Kp w wr) (fun _ j _ => r - (intOf j).toNat)
      case atStart => exact ⟨0, k, G, C, _, _, Nat.zero_le _, rfl, hk1000, HO.out, HX1.out, SR0.out, K4.out⟩
      case round =>
        obtain ⟨i, n, G, C, x, W, hir, rfl, hn, ho, hx, hsr, hkp⟩ := hrel
        by_cases hlt : i < r
        · obtain ⟨_, A3, d3, e3, _, x3, _, l3⟩ := (HA.out.keep hkp).row hlt
          obtain rfl := Option.some.inj e3
          obtain ⟨ad4, rfl, _, x4⟩ := (HT.out.keep hkp).el hlt
          have ROW := Lib.hid (show LiesIn w w.heap.size A3 (rowF c (f i)) from by
            obtain ⟨_, A0', d0', e0, _, x0, _, l0⟩ := HA.out.row hlt
            obtain rfl := Option.some.inj e0
            have := (hkp.cell (p := ad.add i) (by rw [block_add]; assumption)).symm.trans x3
            rw [x0] at this
            cases this
            exact l0)
          have VO := Lib.hid ((valueOf_any A3 c d3 wr.drew).mono fun e w' h => (⟨wr.drew.heap.size, h.1, h.2.1, h.2.2, Nat.le_refl _⟩ :
            ∃ gp, e = .returned (.func (.func 42) #[] #[.pointer (some ⟨gp, 0, none⟩)]) ∧ w'.cell? ⟨gp, 0, none⟩ = some (.slice A3 c d3) ∧ Kp wr.drew w' ∧ wr.drew.heap.size ≤ gp))
          have KD := Lib.hid (show Kp w wr.drew from hkp.drewN 1)
          have SAT := Lib.hid (fun (w5 : World) (gp : Nat) (hb : w5.cell? ⟨gp, 0, none⟩ = some (.slice A3 c d3)) (k5 : Kp wr.drew w5) (hgp : wr.drew.heap.size ≤ gp) =>
            (satisfy_any (B0 := w.heap.size) (B := w2.heap.size) (gx := gx) (cx := c) (gp := gp) (r := r) (v := u11) w5 (by omega) hn hlt ST.out.steps ST.out.req hsr ⟨⟨A3, d3, hb, ROW.out.below (KD.out.trans k5)⟩⟩
              (hx.kp (((Kp.rfl' wr).drewN 1).trans k5)) (ho.kp (((Kp.rfl' wr).drewN 1).trans k5)) GX.out.1 GX.out.2 (fun e => by have h1 : wr.heap.size ≤ gp := hgp; have := (World.ownsRow.lt hx gx rfl).2; omega)
              (fun e => by have h1 : wr.heap.size ≤ gp := hgp; have := (World.ownsRow.lt ho.top gp e).2; omega) (fun s hs e => by have h1 : wr.heap.size ≤ gp := hgp; have := (ho.lt (by rw [Mx.len_matl]; exact hs)).2; omega)).mono
              fun e w' h => (show ∃ q p, e = .returned (.tuple #[q, p]) ∧ SRel w.heap.size w2.heap.size gx c r c i f t b q p w w' from by
                obtain ⟨q, p, he, hr⟩ := stepped_rel h
                exact ⟨q, p, he, hr.from (KD.out.trans k5)⟩))
          have XK := Lib.hid (fun (w5 : World) (k5 : Kp wr.drew w5) => (show w5.cell? (ad4.add i) = some (.int .i64 ((t i).val : Int)) from by
            have h4 := x4
            rw [← x4]
            exact ((((Kp.rfl' wr).drewN 1).trans k5).cell (p := ad4.add i) (cell_lt h4))))
          generalize ((t i).val : Int) = ti at *
          clear ho hx hsr hkp l3
          go_upto_region 17 with (fail)
          go_cut [8, 11, 53] from 53 to 73 (fun p q j wc => j = .int .i64 (i : Int) ∧ SRel w.heap.size w2.heap.size gx c r c i f t b q p w wc)
          case first =>
            go_region_law (first
              | (go_simp; go_at_call 29; (with_reducible refine (VO.out).mono ?_); rintro e w5 ⟨gp, rfl, hb5, hk5, hgp⟩
                 have c5 := XK.out w5 hk5)
              | (go_simp; go_at_call 28; (with_reducible refine (SAT.out w5 gp hb5 hk5 hgp).mono ?_); rintro e w6 ⟨q6, p6, rfl, hrel6⟩))
            all_goals
              go_wp2_with fail
              go_meet
              case rel => exact ⟨rfl, hrel6⟩
          case rest =>
            obtain ⟨rfl, hrel⟩ := hcut
            rcases hrel with ⟨n2, G2, C2, x2, W2, rfl, ho2, hx2, hsr2, hn2, hk2⟩ | ⟨rfl, hno, hk2⟩
            · have HO2 := Lib.hid ho2
              have HX2 := Lib.hid hx2
              have HSR2 := Lib.hid hsr2
              have HK2 := Lib.hid hk2
              clear ho2 hx2 hsr2 hk2
              go_wp2_with fail
              go_roundw
              case rel => exact ⟨i + 1, n2, G2, C2, x2, W2, by omega, by go_num, hn2, HO2.out, HX2.out, HSR2.out, HK2.out⟩
              case measure => simp [intOf]; omega
            · have HNO := Lib.hid hno
              have HK2 := Lib.hid hk2
              clear hno hk2
              go_wp2_with fail
              go_ret2
              exact ⟨b, g, ST.out, .inr ⟨HNO.out, rfl, HK2.out⟩⟩
        · obtain rfl : i = r := by omega
          have HX := Lib.hid (own_at hx)
          have HSR := Lib.hid hsr
          have HKP := Lib.hid hkp
          clear ho hx hsr hkp
          go_wp2_with fail
          go_ret2
          exact ⟨b, g, ST.out, .inl ⟨x, some ⟨gx, 0, none⟩, c, HSR.out.done, rfl, HX.out, HKP.out⟩⟩
end Go.Proofs.YtcgpommgldecfaaDoor
