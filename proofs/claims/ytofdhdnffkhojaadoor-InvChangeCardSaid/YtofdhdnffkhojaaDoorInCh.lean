/- The law InvChange. (Made by tools/gen_InCh.py.) -/
import Derived.Test.YtofdhdnffkhojaaDoorInFact
import Derived.Test.YtofdhdnffkhojaaDoorInC5
import Derived.Test.YtofdhdnffkhojaaDoorMxRef2
import Derived.Test.YtofdhdnffkhojaaDoorSame
namespace Go.Proofs.YtofdhdnffkhojaaDoor
open Go.ChangeShapes Go.WideShapes Go.ChangeAt Go.RowKit
set_option linter.unusedVariables false

abbrev frow (n : Nat) (u : Nat → Fp.F) : List Int := Mx.row n fun i => ((u i).val : Int)
theorem frow_of {l : List Int} {n : Nat} (hn : l.length = n) (h : AllIn l 0 9972) : ∃ t : Nat → Fp.F, l = frow n t := by
  subst hn
  refine ⟨fun j => Fp.ofInt (l.getD j 0), ?_⟩
  refine (Mx.is_row l).trans (Mx.row_ext fun k hk => ?_)
  show l.getD k 0 = ((Fp.ofInt (l.getD k 0)).val : Int)
  rw [Fp.ofInt_val]
  have := h k hk
  omega
theorem frow_in (q : Nat) (t : Nat → Fp.F) : AllIn (frow q t) 0 9972 := fun k hk => by
  rw [Mx.len_row] at hk
  rw [Mx.row_at _ _ _ hk]
  exact gval (t k)
theorem fall_yes {U : Option Addr} {l : List Int} {n cu : Nat} {w : World} (hu : Lies w U l) (hn : l.length = n) (h : n ≤ 5) (ha : AllIn l 0 9972) : Calls Tryd.prog 14 #[.slice U n cu, .int .i64 0, .int .i64 9972] w fun e w' => e = .returned (.bool true) ∧ w = w' := by
  subst hn
  exact (all_any U l cu 0 9972 w hu (by omega)).mono fun e w' h2 => ⟨tells_yes h2.1 ha, h2.2⟩
theorem fall_no {U : Option Addr} {l : List Int} {n cu : Nat} {w : World} (hu : Lies w U l) (hn : l.length = n) (h : n ≤ 5) (ha : ¬ AllIn l 0 9972) : Calls Tryd.prog 14 #[.slice U n cu, .int .i64 0, .int .i64 9972] w fun e w' => e = .returned (.bool false) ∧ w = w' := by
  subst hn
  exact (all_any U l cu 0 9972 w hu (by omega)).mono fun e w' h2 => ⟨tells_no h2.1 ha, h2.2⟩

set_option maxRecDepth 100000 in
set_option maxHeartbeats 6400000 in
theorem inch_bad (A U V : Option Addr) (a : List (List Int)) (n p q d cu cv z : Nat) (w : World) (hl : Told.Laid w) (ha : LiesM w A a)
    (bad : ∀ (w : World), LiesM w A a → Calls Tryd.prog 11 #[.slice A n d] w fun e w' => FailsI z w e w') :
    Calls Tryd.prog 6 #[.slice A n d, .slice U p cu, .slice V q cv] w fun e w' => e = .returned (.bool true) ∧ Kp w w' := by
  have HA := Lib.hid ha
  have FA := Lib.hid (invFact_any w hl)
  have BAD := Lib.hid bad
  clear ha hl bad
  go_enter Tryd.func6, Tryd.ntmps6
  go_wp2_with fail
  refine (FA.out).mono ?_; rintro e w1 ⟨rfl, k1⟩
  have K := Lib.hid k1; clear k1
  go_wp2_with fail
  refine (BAD.out w1 (HA.out.keep K.out)).mono ?_; rintro e w2 ⟨rfl, k2⟩
  replace K := Lib.hid (K.out.trans k2); clear k2
  go_wp2_with fail
  go_ret
  exact ⟨rfl, K.out⟩

set_option maxRecDepth 100000 in
set_option maxHeartbeats 6400000 in
theorem inch_sh1 (A U V : Option Addr) (a : List (List Int)) (l l' : List Int) (f : Nat → Nat → Fp.F) (n r d cu cv : Nat) (p q : Nat) (w : World) (hl : Told.Laid w) (ha : LiesM w A a) (hu : Lies w U l) (hv : Lies w V l') (sa : Sh n n f a) (hr : n = r + 1) (hd : Mx.dt n f ≠ 0) (h2 : p ≠ n) :
    Calls Tryd.prog 6 #[.slice A n d, .slice U p cu, .slice V q cv] w fun e w' => e = .returned (.bool true) ∧ Kp w w' := by
  have HA := Lib.hid ha
  have FA := Lib.hid (invFact_any w hl)
  have n5 := sa.r5
  have O1 := Lib.hid (fun w h => IOf_sh (A := A) sa hr hd d w h)
  have eu : ((p : Int) != (n : Int)) = true := by rw [bne_iff_ne]; omega
  clear ha hu hv hl sa hr hd h2
  go_enter Tryd.func6, Tryd.ntmps6
  go_wp2_with fail
  refine (FA.out).mono ?_; rintro e w1 ⟨rfl, k1⟩
  have K := Lib.hid k1; clear k1
  go_wp2_with fail
  refine (O1.out w1 (HA.out.keep K.out)).mono ?_; rintro e w2 ⟨g2, rfl, l2, k2⟩
  replace K := Lib.hid (K.out.trans k2); clear k2 l2
  go_wp2_with fail
  go_ret
  exact ⟨rfl, K.out⟩

set_option maxRecDepth 100000 in
set_option maxHeartbeats 6400000 in
theorem inch_sh2 (A U V : Option Addr) (a : List (List Int)) (l l' : List Int) (f : Nat → Nat → Fp.F) (n r d cu cv : Nat) (p q : Nat) (w : World) (hl : Told.Laid w) (ha : LiesM w A a) (hu : Lies w U l) (hv : Lies w V l') (sa : Sh n n f a) (hr : n = r + 1) (hd : Mx.dt n f ≠ 0) (h1 : p = n) (h2 : q ≠ n) :
    Calls Tryd.prog 6 #[.slice A n d, .slice U p cu, .slice V q cv] w fun e w' => e = .returned (.bool true) ∧ Kp w w' := by
  have HA := Lib.hid ha
  have FA := Lib.hid (invFact_any w hl)
  have n5 := sa.r5
  have O1 := Lib.hid (fun w h => IOf_sh (A := A) sa hr hd d w h)
  have eu : ((p : Int) != (n : Int)) = false := by rw [bne_eq_false_iff_eq]; omega
  have ev : ((q : Int) != (n : Int)) = true := by rw [bne_iff_ne]; omega
  clear ha hu hv hl sa hr hd h1 h2
  go_enter Tryd.func6, Tryd.ntmps6
  go_wp2_with fail
  refine (FA.out).mono ?_; rintro e w1 ⟨rfl, k1⟩
  have K := Lib.hid k1; clear k1
  go_wp2_with fail
  refine (O1.out w1 (HA.out.keep K.out)).mono ?_; rintro e w2 ⟨g2, rfl, l2, k2⟩
  replace K := Lib.hid (K.out.trans k2); clear k2 l2
  go_wp2_with fail
  go_ret
  exact ⟨rfl, K.out⟩

set_option maxRecDepth 100000 in
set_option maxHeartbeats 6400000 in
theorem inch_r1 (A U V : Option Addr) (a : List (List Int)) (l l' : List Int) (f : Nat → Nat → Fp.F) (n r d cu cv : Nat)  (w : World) (hl : Told.Laid w) (ha : LiesM w A a) (hu : Lies w U l) (hv : Lies w V l') (sa : Sh n n f a) (hr : n = r + 1) (hd : Mx.dt n f ≠ 0) (hp : l.length = n) (hq : l'.length = n) (h2 : ¬ AllIn l 0 9972) :
    Calls Tryd.prog 6 #[.slice A n d, .slice U n cu, .slice V n cv] w fun e w' => e = .returned (.bool true) ∧ Kp w w' := by
  have HA := Lib.hid ha
  have FA := Lib.hid (invFact_any w hl)
  have n5 := sa.r5
  have O1 := Lib.hid (fun w h => IOf_sh (A := A) sa hr hd d w h)
  have eu : ((n : Int) != (n : Int)) = false := by rw [bne_eq_false_iff_eq]
  have AU := Lib.hid (fun w1 (h : Kp w w1) => fall_no (cu := cu) (hu.keep h) hp n5 h2)
  clear ha hu hv hl sa hr hd hp hq h2
  go_enter Tryd.func6, Tryd.ntmps6
  go_wp2_with fail
  refine (FA.out).mono ?_; rintro e w1 ⟨rfl, k1⟩
  have K := Lib.hid k1; clear k1
  go_wp2_with fail
  refine (O1.out w1 (HA.out.keep K.out)).mono ?_; rintro e w2 ⟨g2, rfl, l2, k2⟩
  replace K := Lib.hid (K.out.trans k2); clear k2 l2
  go_wp2_with fail
  refine (AU.out _ K.out).mono ?_; rintro e w7 ⟨rfl, rfl⟩
  go_wp2_with fail
  go_ret
  exact ⟨rfl, K.out⟩

set_option maxRecDepth 100000 in
set_option maxHeartbeats 6400000 in
theorem inch_r2 (A U V : Option Addr) (a : List (List Int)) (l l' : List Int) (f : Nat → Nat → Fp.F) (n r d cu cv : Nat)  (w : World) (hl : Told.Laid w) (ha : LiesM w A a) (hu : Lies w U l) (hv : Lies w V l') (sa : Sh n n f a) (hr : n = r + 1) (hd : Mx.dt n f ≠ 0) (hp : l.length = n) (hq : l'.length = n) (h1 : AllIn l 0 9972) (h2 : ¬ AllIn l' 0 9972) :
    Calls Tryd.prog 6 #[.slice A n d, .slice U n cu, .slice V n cv] w fun e w' => e = .returned (.bool true) ∧ Kp w w' := by
  have HA := Lib.hid ha
  have FA := Lib.hid (invFact_any w hl)
  have n5 := sa.r5
  have O1 := Lib.hid (fun w h => IOf_sh (A := A) sa hr hd d w h)
  have eu : ((n : Int) != (n : Int)) = false := by rw [bne_eq_false_iff_eq]
  have AU := Lib.hid (fun w1 (h : Kp w w1) => fall_yes (cu := cu) (hu.keep h) hp n5 h1)
  have AV := Lib.hid (fun w1 (h : Kp w w1) => fall_no (cu := cv) (hv.keep h) hq n5 h2)
  clear ha hu hv hl sa hr hd hp hq h1 h2
  go_enter Tryd.func6, Tryd.ntmps6
  go_wp2_with fail
  refine (FA.out).mono ?_; rintro e w1 ⟨rfl, k1⟩
  have K := Lib.hid k1; clear k1
  go_wp2_with fail
  refine (O1.out w1 (HA.out.keep K.out)).mono ?_; rintro e w2 ⟨g2, rfl, l2, k2⟩
  replace K := Lib.hid (K.out.trans k2); clear k2 l2
  go_wp2_with fail
  refine (AU.out _ K.out).mono ?_; rintro e w7 ⟨rfl, rfl⟩
  go_wp2_with fail
  refine (AV.out _ K.out).mono ?_; rintro e w7 ⟨rfl, rfl⟩
  go_wp2_with fail
  go_ret
  exact ⟨rfl, K.out⟩

set_option maxRecDepth 100000 in
set_option maxHeartbeats 6400000 in
theorem inch_ok (A U V : Option Addr) (a : List (List Int)) (f : Nat → Nat → Fp.F) (u v : Nat → Fp.F) (n r d cu cv : Nat) (w : World) (hl : Told.Laid w) (ha : LiesM w A a) (hu : Lies w U (frow n u)) (hv : Lies w V (frow n v)) (sa : Sh n n f a) (hr : n = r + 1) (hd : Mx.dt n f ≠ 0) :
    Calls Tryd.prog 6 #[.slice A n d, .slice U n cu, .slice V n cv] w fun e w' => e = .returned (.bool true) ∧ Kp w w' := by
  have HA := Lib.hid ha
  have HU := Lib.hid hu
  have HV := Lib.hid hv
  have HL := Lib.hid hl
  have FA := Lib.hid (invFact_any w hl)
  have n5 := sa.r5
  have n0 := sa.r0
  have hm : LiesM w A (Mx.matl n n f) := by rw [← sa.eq]; exact ha
  have HM := Lib.hid hm
  have O1 := Lib.hid (fun w h => IOf_sh (A := A) sa hr hd d w h)
  have eu : ((n : Int) != (n : Int)) = false := by rw [bne_eq_false_iff_eq]
  have AU := Lib.hid (fun w1 (h : Kp w w1) => fall_yes (cu := cu) (hu.keep h) (Mx.len_row _ _) n5 (frow_in n u))
  have AV := Lib.hid (fun w1 (h : Kp w w1) => fall_yes (cu := cv) (hv.keep h) (Mx.len_row _ _) n5 (frow_in n v))
  have CO := Lib.hid (fun w1 (h : Kp w w1) => rCopy_any A f n n d w1 (hm.keep h) n0 (by omega) (by omega))
  have un : Mx.Unm n f (Mx.invm r f) := by rw [hr] at hd ⊢; exact Mx.unm_invm r f hd
  have HDB := Lib.hid (Mx.dt_bent un u v)
  have HUN := Lib.hid un
  have HHD := Lib.hid hd
  have HR := Lib.hid hr
  have SI := Lib.hid (sa.inv (p := r))
  clear ha hu hv hl sa hr hd hm un
  go_enter Tryd.func6, Tryd.ntmps6
  go_wp2_with fail
  refine (FA.out).mono ?_; rintro e w1 ⟨rfl, k1⟩
  have K := Lib.hid k1; clear k1
  go_wp2_with fail
  refine (O1.out w1 (HA.out.keep K.out)).mono ?_; rintro e w2 ⟨g2, rfl, l2, k2⟩
  replace K := Lib.hid (K.out.trans k2); have L2 := Lib.hid l2; clear k2 l2
  go_wp2_with fail
  refine (AU.out _ K.out).mono ?_; rintro e w7 ⟨rfl, rfl⟩
  go_wp2_with fail
  refine (AV.out _ K.out).mono ?_; rintro e w7 ⟨rfl, rfl⟩
  go_wp2_with fail
  refine (CO.out _ K.out).mono ?_; rintro e w3 ⟨v3, G, C, rfl, ho, k3⟩
  obtain ⟨g, gc, rfl, hg⟩ := ho.some (by rw [Mx.len_matl]; exact n0)
  rw [Mx.len_matl] at ho ⊢
  have HO := Lib.hid ho
  have HK3 := Lib.hid k3
  clear ho k3
  go_wp2_with fail
  go_loopw [11] (fun i wr => ∃ k : Nat, k ≤ n ∧ i = .int .i64 (k : Int) ∧ OwnM wr w2.heap.size (.slice (some ⟨g, 0, none⟩) n gc) G C (Mx.tab n n fun a b => if a < k then ((Mx.plus f (Mx.outer u v) a b).val : Int) else ((f a b).val : Int)) ∧ Kp w2 wr) (fun i _ => n - (intOf i).toNat)
  case atStart => exact ⟨0, Nat.zero_le _, rfl, HO.out.ext (fun a b _ _ => by rw [if_neg (by omega)]), HK3.out⟩
  case round =>
    obtain ⟨k, hk, rfl, ho, hkp⟩ := hrel
    obtain ⟨wo, hwo⟩ : ∃ x, x = wr := ⟨_, rfl⟩
    subst hwo
    have HO1 := Lib.hid ho
    have HK1 := Lib.hid hkp
    clear ho hkp
    by_cases hlt : k < n
    · go_wp2_with fail
      go_loopw [12] (fun i wq => ∃ q : Nat, q ≤ n ∧ i = .int .i64 (q : Int) ∧ OwnM wq w2.heap.size (.slice (some ⟨g, 0, none⟩) n gc) G C (Mx.tab n n fun a b => if a < k ∨ (a = k ∧ b < q) then ((Mx.plus f (Mx.outer u v) a b).val : Int) else ((f a b).val : Int)) ∧ Kp w2 wq) (fun i _ => n - (intOf i).toNat)
      case atStart => exact ⟨0, Nat.zero_le _, rfl, HO1.out.ext (fun a b _ _ => by
        by_cases e : a < k
        · rw [if_pos e, if_pos (.inl e)]
        · rw [if_neg e, if_neg (by omega)]), HK1.out⟩
      case round =>
        obtain ⟨q, hq, rfl, ho, hkq⟩ := hrel
        by_cases hlt2 : q < n
        · have kq := K.out.trans hkq
          obtain ⟨ud, rfl, _, x1⟩ := (HU.out.keep kq).el hlt
          obtain ⟨vd, rfl, _, x2⟩ := (HV.out.keep kq).el hlt2
          have y1 := ho.head (i := k) (by rw [Mx.len_tab]; exact hlt)
          have y2 := ho.el (i := k) (j := q) (by rw [Mx.len_tab]; exact hlt) (by rw [Mx.tab_len _ _ _ _ hlt]; exact hlt2)
          have y3 := ho.free (i := k) (by rw [Mx.len_tab]; exact hlt) q
          have y4 := (ho.lt (i := k) (by rw [Mx.len_tab]; exact hlt)).1
          rw [Mx.tab_len _ _ _ _ hlt] at y1
          rw [Mx.tab_el _ _ _ _ _ hlt hlt2, if_neg (by omega)] at y2
          have HO2 := Lib.hid ho
          have HK2 := Lib.hid hkq
          have v1 := gval (f k q)
          have v2 := times_bound (u k) (v q)
          have M1 := Lib.hid (fun w => (rMod_any (((f k q).val : Int) + ((u k).val : Int) * ((v q).val : Int)) w (by omega) (by omega)))
          rw [Mx.val_more] at M1
          obtain ⟨z, hz⟩ : ∃ z, z = ((f k q + u k * v q).val : Int) := ⟨_, rfl⟩
          rw [← hz] at M1
          have HZZ := Lib.hid (show z = ((Mx.plus f (Mx.outer u v) k q).val : Int) from hz)
          generalize ((f k q).val : Int) = n1 at *
          generalize ((u k).val : Int) = n2 at *
          generalize ((v q).val : Int) = n3 at *
          have hwm : IntKind.i64.wrap (n2 * n3) = n2 * n3 := IntWalk.i64_in _ (by omega)
          have hwa : IntKind.i64.wrap (n1 + n2 * n3) = n1 + n2 * n3 := IntWalk.i64_in _ (by omega)
          clear ho hkq kq v1 v2 hz
          go_wp2_with fail
          refine wp_region_still_tail 24 (by kernel_rfl) (by kernel_rfl) ?_
          simp only [List.take_succ_cons, List.take_zero, List.drop_succ_cons, List.drop_zero]
          repeat still_step
          still_call ((M1.out _).mono fun _ _ h => ⟨h.1, h.2.symm⟩)
          repeat still_step
          refine wpStill_nil ?_
          change wpList _ _ _ _ _ wr.drew
          go_wp2_with fail
          go_roundw
          case rel =>
            refine ⟨q + 1, by omega, by go_num, ((HO2.out.drewN 1).put hlt q z).ext (fun a b ha hb => ?_), (HK2.out.drewN 1).put (p := ⟨G k, q, none⟩) y4 _⟩
            by_cases e : a = k ∧ b = q
            · rw [if_pos e, if_pos (by omega), e.1, e.2]; exact HZZ.out
            · rw [if_neg e]
              by_cases e2 : a < k ∨ (a = k ∧ b < q)
              · rw [if_pos e2, if_pos (by omega)]
              · rw [if_neg e2, if_neg (by omega)]
          case measure => simp [intOf]; omega
        · obtain rfl : q = n := by omega
          have HO2 := Lib.hid ho
          have HK2 := Lib.hid hkq
          clear ho hkq
          go_wp2_with fail
          go_roundw
          case rel =>
            refine ⟨k + 1, by omega, by go_num, HO2.out.ext (fun a b ha hb => ?_), HK2.out⟩
            by_cases e : a < k ∨ (a = k ∧ b < q)
            · rw [if_pos e, if_pos (by omega)]
            · rw [if_neg e, if_neg (by omega)]
          case measure => simp [intOf]; omega
    · obtain rfl : k = n := by omega
      have hl := HO1.out.ext (f' := fun a b => ((Mx.plus f (Mx.outer u v) a b).val : Int)) (fun a b ha _ => by rw [if_pos ha])
      have L9 := Lib.hid (show LiesM wo (some ⟨g, 0, none⟩) (Mx.matl k k (Mx.plus f (Mx.outer u v))) from by
        obtain ⟨A9, d9, ev, hl9, _⟩ := hl.lies
        injection ev with e1 e2 e3
        rw [e1]
        exact hl9)
      have KK := Lib.hid (K.out.trans HK1.out)
      have L22 := Lib.hid (L2.out.keep HK1.out)
      have SP : Sh k k (Mx.plus f (Mx.outer u v)) (Mx.matl k k (Mx.plus f (Mx.outer u v))) := ⟨rfl, n0, n5, n0, n5⟩
      clear hl
      by_cases hz : Mx.bent k (Mx.invm r f) u v = 0
      · have CH := Lib.hid (fun w1 (h : Kp w w1) (h2 : LiesM w1 (some ⟨g2, 0, none⟩) (Mx.matl k k (Mx.invm r f))) => Chg_none (some ⟨g2, 0, none⟩) U V (Mx.invm r f) u v k k cu cv w1 h2 (HU.out.keep h) (HV.out.keep h) n0 n5 hz)
        have O3 := Lib.hid (fun w1 (h : LiesM w1 (some ⟨g, 0, none⟩) (Mx.matl k k (Mx.plus f (Mx.outer u v)))) => IOf_none (some ⟨g, 0, none⟩) (Mx.plus f (Mx.outer u v)) k gc w1 h n0 n5 (by rw [HDB.out, hz]; grind))
        have E1 := Lib.hid (fun (wx : World) (hx : Kp w wx) => error_says 5 wx (laid_kp HL.out hx) (by decide))
        rw [errOf_ne 5 (by decide)] at CH O3 E1
        clear hz SP
        go_wp2_with fail
        refine (CH.out _ KK.out L22.out).mono ?_; rintro e w4 ⟨rfl, k4⟩
        have K4 := Lib.hid (KK.out.trans k4); have L94 := Lib.hid (L9.out.keep k4); clear k4
        go_wp2_with fail
        refine (O3.out _ L94.out).mono ?_; rintro e w5 ⟨rfl, k5⟩
        have K5 := Lib.hid (K4.out.trans k5); clear k5
        go_wp2_with fail
        refine (E1.out _ K5.out).mono ?_; rintro e w6 ⟨rfl, k6⟩
        have K6 := Lib.hid (K5.out.trans k6); clear k6
        go_wp2_with fail
        refine (E1.out _ K6.out).mono ?_; rintro e w7 ⟨rfl, k7⟩
        have K7 := Lib.hid (K6.out.trans k7); clear k7
        go_wp2_with fail
        go_ret
        exact ⟨ret_bool (by simp), K7.out⟩
      · have hd2 : Mx.dt k (Mx.plus f (Mx.outer u v)) ≠ 0 := by
          rw [HDB.out]
          exact fun e => (Fp.mul_zero_or e).elim HHD.out hz
        have CH := Lib.hid (fun w1 (h : Kp w w1) (h2 : LiesM w1 (some ⟨g2, 0, none⟩) (Mx.matl k k (Mx.invm r f))) => Chg_ok (some ⟨g2, 0, none⟩) U V (Mx.invm r f) u v k k cu cv w1 h2 (HU.out.keep h) (HV.out.keep h) n0 n5 hz)
        have O3 := Lib.hid (fun w1 (h : LiesM w1 (some ⟨g, 0, none⟩) (Mx.matl k k (Mx.plus f (Mx.outer u v)))) => IOf_sh SP HR.out hd2 gc w1 h)
        have EQ : Mx.matl k k (Mx.invm r (Mx.plus f (Mx.outer u v))) = Mx.matl k k (Mx.shm k (Mx.invm r f) u v) := by
          have h1 : Mx.Unm k (Mx.plus f (Mx.outer u v)) (Mx.invm r (Mx.plus f (Mx.outer u v))) := by
            have := HR.out
            subst this
            exact Mx.unm_invm r _ hd2
          exact (h1.one_of (Mx.unm_bent HUN.out u v hz)).mat
        rw [EQ] at O3
        have S2 : Sh k k (Mx.shm k (Mx.invm r f) u v) (Mx.matl k k (Mx.shm k (Mx.invm r f) u v)) := ⟨rfl, n0, n5, n0, n5⟩
        have R1 := Lib.hid (fun A B c d w ha hb => rows_eq A B _ _ k k c d w ha hb (Mx.len_matl _ _ _) (Mx.len_matl _ _ _) S2.modest S2.modest rfl)
        clear hz SP S2 EQ hd2
        go_wp2_with fail
        refine (CH.out _ KK.out L22.out).mono ?_; rintro e w4 ⟨g4, rfl, l4, k4⟩
        have K4 := Lib.hid (KK.out.trans k4); have L94 := Lib.hid (L9.out.keep k4); have L4 := Lib.hid l4; clear k4 l4
        go_wp2_with fail
        refine (O3.out _ L94.out).mono ?_; rintro e w5 ⟨g5, rfl, l5, k5⟩
        have K5 := Lib.hid (K4.out.trans k5); have L5 := Lib.hid l5; have L45 := Lib.hid (L4.out.keep k5); clear k5 l5
        go_wp2_with fail
        refine (R1.out _ _ _ _ _ L45.out L5.out).mono ?_; rintro e w6 ⟨rfl, k6⟩
        have K6 := Lib.hid (K5.out.trans k6); clear k6
        go_wp2_with fail
        go_ret
        exact ⟨rfl, K6.out⟩

theorem walk_InvChange (A : Option Addr) (a : List (List Int)) (d : Nat) (U : Option Addr) (l : List Int) (cu : Nat) (V : Option Addr) (l' : List Int) (cv : Nat) (w : World) (hl : Told.Laid w) (ha : LiesM w A a) (hu : Lies w U l) (hv : Lies w V l') :
    Calls Tryd.prog 6 #[.slice A a.length d, .slice U l.length cu, .slice V l'.length cv] w fun e w' => e = .returned (.bool true) ∧ Kp w w' := by
  rcases IOf_or A a a.length d rfl with ⟨f, sa, hd⟩ | ⟨z, bad⟩
  · have n0 := sa.r0
    have hr : a.length = (a.length - 1) + 1 := by omega
    by_cases h1 : l.length = a.length
    · by_cases h2 : l'.length = a.length
      · by_cases h3 : AllIn l 0 9972
        · by_cases h4 : AllIn l' 0 9972
          · obtain ⟨u, eu⟩ := frow_of h1 h3
            obtain ⟨v, ev⟩ := frow_of h2 h4
            rw [h1, h2]
            rw [eu] at hu
            rw [ev] at hv
            exact inch_ok A U V a f u v a.length _ d cu cv w hl ha hu hv sa hr hd
          · rw [h1, h2]
            exact inch_r2 A U V a l l' f a.length _ d cu cv w hl ha hu hv sa hr hd h1 h2 h3 h4
        · rw [h1, h2]
          exact inch_r1 A U V a l l' f a.length _ d cu cv w hl ha hu hv sa hr hd h1 h2 h3
      · exact inch_sh2 A U V a l l' f a.length _ d cu cv _ _ w hl ha hu hv sa hr hd h1 h2
    · exact inch_sh1 A U V a l l' f a.length _ d cu cv _ _ w hl ha hu hv sa hr hd h1
  · exact inch_bad A U V a a.length l.length l'.length d cu cv z w hl ha bad
end Go.Proofs.YtofdhdnffkhojaaDoor
