/- Contracts of the document's answer on matrices, second part: Copy, MatMul, MatAdd, Matrix, Field. For all packages. -/
import Derived.Test.YtbgmbjicidfhlaaDoorMxRef
namespace Go.Proofs.YtbgmbjicidfhlaaDoor
open Go.ChangeShapes Go.WideShapes Go.ChangeAt Go.RowKit
set_option linter.unusedVariables false

/-- Where the heads lie. -/
theorem OwnM.some {w : World} {B : Nat} {v : Value} {G C : Nat → Nat} {m : List (List Int)} (h : OwnM w B v G C m) (h0 : 0 < m.length) : ∃ g c, v = .slice (.some ⟨g, 0, .none⟩) m.length c ∧ B ≤ g := by
  rcases h.top.2 with ⟨_, h1⟩ | ⟨g, cap, cur, e, hg, _⟩
  · omega
  · exact ⟨g, cap, e, hg⟩

set_option maxRecDepth 100000 in
set_option maxHeartbeats 3200000 in
theorem rCopy_any (A : Option Addr) (f : Nat → Nat → Fp.F) (r c d : Nat) (w : World) (ha : LiesM w A (Mx.matl r c f)) (hc0 : 0 < c) (hr : r ≤ 1000) (hc : c ≤ 1000) :
    Calls Tryd.prog 24 #[.slice A r d] w fun e w' => MadeOwn r c f w e w' := by
  have HA := Lib.hid ha
  clear ha
  go_enter Tryd.func24, Tryd.ntmps24
  go_wp2_with fail
  go_loopw [3, 4] (fun v i wr => ∃ (k : Nat) (G C : Nat → Nat), k ≤ r ∧ i = .int .i64 (k : Int) ∧ OwnM wr w.heap.size v G C (Mx.matl k c f) ∧ Kp w wr) (fun _ i _ => r - (intOf i).toNat)
  case atStart => exact ⟨0, fun _ => 0, fun _ => 0, Nat.zero_le _, rfl, ownM_none _ _ _ _, Kp.rfl' _⟩
  case round =>
    obtain ⟨k, G, C, hk, rfl, ho, hkp⟩ := hrel
    have HO := Lib.hid ho
    have HK := Lib.hid hkp
    by_cases hlt : k < r
    · obtain ⟨ad, A1, d1, rfl, _, x1, _, l1⟩ := (HA.out.keep hkp).row hlt
      clear ho hkp
      have L1 := Lib.hid l1
      clear l1
      have HS := Lib.hid (show Mx.matl (k + 1) c f = Mx.matl k c f ++ [Mx.row c fun j => ((f k j).val : Int)] by rw [Mx.matl, Mx.tab_snoc]; rfl)
      go_wp2_with (first
        | (at_builtin; refine wpList_cat rfl _ _ rfl wr.heap.size _ [] (Mx.row c fun j => ((f k j).val : Int)) A1 c d1 rfl rfl (Mx.len_row _ _).symm (Own.none _ _) L1.out (by rw [Mx.len_row]; simp; omega) (Nat.le_refl _) ?_; intro v1 w2 h1 h2 _; have kp2 : Kp wr w2 := own_below (Own.none wr wr.heap.size) (Kp.rfl' _) (Nat.le_refl _) h2; rw [List.nil_append] at h1; obtain ⟨g, gc, rfl, hg, hgc⟩ := own_some h1 (by rw [Mx.len_row]; exact hc0); rw [Mx.len_row] at h1 hgc ⊢; have HU := Lib.hid h1; have HQ := Lib.hid kp2; have OM := Lib.hid (HO.out.kp kp2); have HAP := Lib.hid (show ∀ i, i < (Mx.matl k c f).length → G i ≠ g from fun i hi => by have := (HO.out.lt hi).2; omega); clear h1 h2 kp2)
        | (at_builtin; refine wpList_pushM rfl _ _ rfl w.heap.size _ G C (Mx.matl k c f) _ g c gc _ 1 (Mx.len_row _ _) rfl rfl (OM.out.new _) (cell_made _ _ _ _ 0 rfl) ((HU.out.from HK.out.size).new _) HAP.out (by rw [Mx.len_matl]; omega) (Nat.le_trans HK.out.size (Nat.le_trans HQ.out.size ((Kp.rfl' _).new _).size)) ?_; intro v' w' G' C' ho' hk'))
      have HO' := Lib.hid ho'
      have HK' := Lib.hid (hk' w (Nat.le_refl _) ((HK.out.trans HQ.out).new _))
      clear ho' hk'
      go_wp2_with fail
      go_roundw
      case rel => exact ⟨k + 1, G', C', by omega, by go_num, by rw [HS.out]; exact HO'.out, HK'.out⟩
      case measure => simp [intOf]; omega
    · obtain rfl : k = r := by omega
      clear ho hkp
      go_wp2_with fail
      go_ret
      exact ⟨_, G, C, rfl, HO.out, HK.out⟩

set_option maxRecDepth 100000 in
set_option maxHeartbeats 6400000 in
theorem rMatMul_any (A A' : Option Addr) (f f' : Nat → Nat → Fp.F) (r q c d d' : Nat) (w : World) (ha : LiesM w A (Mx.matl r q f)) (ha' : LiesM w A' (Mx.matl q c f')) (hq0 : 0 < q) (hc0 : 0 < c) (hr : r ≤ 1000) (hq : q ≤ 1000) (hc : c ≤ 1000) :
    Calls Tryd.prog 12 #[.slice A r d, .slice A' q d'] w fun e w' => Made r c (Mx.mul q f f') w e w' := by
  obtain ⟨bd, B0, e0, rfl, hlt1, hc01, _, _⟩ := ha'.row hq0
  rw [add_zero'] at hc01
  have HA := Lib.hid ha
  have HB := Lib.hid ha'
  have C0 := Lib.hid hc01
  clear ha ha' hc01
  go_enter Tryd.func12, Tryd.ntmps12
  go_wp2_with fail
  go_loopw [5, 6] (fun v i wr => ∃ (k : Nat) (G C : Nat → Nat), k ≤ r ∧ i = .int .i64 (k : Int) ∧ OwnM wr w.heap.size v G C (Mx.matl k c (Mx.mul q f f')) ∧ Kp w wr) (fun _ i _ => r - (intOf i).toNat)
  case atStart => exact ⟨0, fun _ => 0, fun _ => 0, Nat.zero_le _, rfl, ownM_none _ _ _ _, Kp.rfl' _⟩
  case round =>
    obtain ⟨k, G, C, hk, rfl, ho, hkp⟩ := hrel
    obtain ⟨wo, hwo⟩ : ∃ x, x = wr := ⟨_, rfl⟩
    subst hwo
    have HO := Lib.hid ho
    have HK := Lib.hid hkp
    clear ho hkp
    by_cases hlt : k < r
    · have HS := Lib.hid (show Mx.matl (k + 1) c (Mx.mul q f f') = Mx.matl k c (Mx.mul q f f') ++ [Mx.row c fun j => ((Mx.mul q f f' k j).val : Int)] by rw [Mx.matl, Mx.tab_snoc]; rfl)
      go_wp2_with fail
      go_loopw [7, 8] (fun u i wq => ∃ t : Nat, t ≤ c ∧ i = .int .i64 (t : Int) ∧ Own wq wo.heap.size u (Mx.row t fun j => ((Mx.mul q f f' k j).val : Int)) ∧ Kp wo wq) (fun _ i _ => c - (intOf i).toNat)
      case atStart => exact ⟨0, Nat.zero_le _, rfl, Own.none _ _, Kp.rfl' _⟩
      case round =>
        obtain ⟨t, ht, rfl, hu, hkq⟩ := hrel
        obtain ⟨w1, hw1⟩ : ∃ x, x = wr := ⟨_, rfl⟩
        subst hw1
        have HU := Lib.hid hu
        have HQ := Lib.hid hkq
        have hb0 := ((HK.out.trans hkq).cell (p := bd) hlt1).trans C0.out
        by_cases hlt2 : t < c
        · clear hu hkq
          go_wp2_with fail
          go_loopw [9, 10] (fun s i wz => ∃ p : Nat, p ≤ q ∧ i = .int .i64 (p : Int) ∧ s = .int .i64 ((Mx.sg p (fun x => f k x * f' x t)).val : Int) ∧ Drew w1 wz) (fun _ i _ => q - (intOf i).toNat)
          case atStart => exact ⟨0, Nat.zero_le _, rfl, rfl, Drew.refl _⟩
          case round =>
            obtain ⟨p, hp, rfl, rfl, hdr⟩ := hrel
            have HD := Lib.hid hdr
            by_cases hlt3 : p < q
            · have kz := (HK.out.trans HQ.out).trans hdr.kp
              obtain ⟨ad, A1, d1, rfl, _, x1, _, l1⟩ := (HA.out.keep kz).row hlt
              obtain ⟨ad1, rfl, _, x2⟩ := l1.el hlt3
              obtain ⟨bd', A2, d2, eb, _, x3, _, l2⟩ := (HB.out.keep kz).row hlt3
              obtain rfl := Option.some.inj eb
              obtain ⟨bd1, rfl, _, x4⟩ := l2.el hlt2
              have HSG := Lib.hid (show ((Mx.sg p (fun x => f k x * f' x t)).val : Int) + ((f k p).val : Int) * ((f' p t).val : Int) < 1000000000000 ∧ (((Mx.sg p (fun x => f k x * f' x t)).val : Int) + ((f k p).val : Int) * ((f' p t).val : Int)) % 9973 = ((Mx.sg (p + 1) (fun x => f k x * f' x t)).val : Int) by
                have b1 := rval (Mx.sg p (fun x => f k x * f' x t))
                have b2 := rprod (f k p) (f' p t)
                exact ⟨by omega, Mx.val_more _ _ _⟩)
              have v0 := rval (Mx.sg p (fun x => f k x * f' x t))
              have v3 := rprod (f k p) (f' p t)
              generalize ((Mx.sg p (fun x => f k x * f' x t)).val : Int) = u0 at *
              obtain ⟨u1, hu1⟩ : ∃ u1, u1 = ((Mx.sg (p + 1) (fun x => f k x * f' x t)).val : Int) := ⟨_, rfl⟩
              rw [← hu1] at HSG
              have HU1 := Lib.hid hu1
              generalize ((f k p).val : Int) = x at *
              generalize ((f' p t).val : Int) = y at *
              have hwm : IntKind.i64.wrap (x * y) = x * y := IntWalk.i64_in _ (by omega)
              have hwa : IntKind.i64.wrap (u0 + x * y) = u0 + x * y := IntWalk.i64_in _ (by omega)
              have MO := Lib.hid (fun w => (rMod_any (u0 + x * y) w (by omega) (by omega)))
              rw [HSG.out.2] at MO
              clear hdr kz l1 l2 v0 v3 hu1
              go_wp2_with fail
              go_quiet ((first
                | (with_reducible exact quiet_here (MO.out _))
                | (with_reducible exact quiet_more (MO.out _))))
              go_wp2_with fail
              go_roundw
              case rel => exact ⟨p + 1, by omega, by go_num, by rw [HU1.out], HD.out.more _⟩
              case measure => simp [intOf]; omega
            · obtain rfl : p = q := by omega
              obtain ⟨wd, hwd⟩ : ∃ x, x = wr := ⟨_, rfl⟩
              subst hwd
              have hlen : (Mx.row t fun j => ((Mx.mul p f f' k j).val : Int)).length + 1 ≤ 17000000000000 := by rw [Mx.len_row]; omega
              have HUd := Lib.hid (HU.out.kp HD.out.kp)
              have HQd := Lib.hid (HQ.out.trans HD.out.kp)
              have hsz := HQd.out.size
              have HSN := Lib.hid (show Mx.row (t + 1) (fun j => ((Mx.mul p f f' k j).val : Int)) = (Mx.row t fun j => ((Mx.mul p f f' k j).val : Int)) ++ [((Mx.sg p (fun x => f k x * f' x t)).val : Int)] from Mx.row_snoc t _)
              generalize ((Mx.sg p (fun x => f k x * f' x t)).val : Int) = z at *
              clear hdr
              go_wp2_with (at_builtin; refine wpList_push rfl _ _ rfl wo.heap.size _ (Mx.row t fun j => ((Mx.mul p f f' k j).val : Int)) z wd.heap.size 1 rfl rfl (HUd.out.new _) (by simp; done) hlen (Nat.le_trans hsz ((Kp.rfl' _).new _).size) ?_; intro v' w' h1 h2 _)
              have HU' := Lib.hid h1
              have HQ' := Lib.hid (own_below (HUd.out.new _) (HQd.out.new _) (Nat.le_trans hsz ((Kp.rfl' _).new _).size) h2)
              clear h1 h2
              go_wp2_with fail
              go_roundw
              case rel => exact ⟨t + 1, by omega, by go_num, by rw [HSN.out]; exact HU'.out, HQ'.out⟩
              case measure => simp [intOf]; omega
        · obtain rfl : t = c := by omega
          obtain ⟨g, gc, rfl, hg, hgc⟩ := own_some hu (by rw [Mx.len_row]; exact hc0)
          rw [Mx.len_row] at HU hgc ⊢
          clear hu hkq
          have OM := Lib.hid (HO.out.kp HQ.out)
          have HAP := Lib.hid (show ∀ i, i < (Mx.matl k t (Mx.mul q f f')).length → G i ≠ g from fun i hi => by have := (HO.out.lt hi).2; omega)
          go_wp2_with (at_builtin; refine wpList_pushM rfl _ _ rfl w.heap.size _ G C (Mx.matl k t (Mx.mul q f f')) _ g t gc _ 1 (Mx.len_row _ _) rfl rfl (OM.out.new _) (cell_made _ _ _ _ 0 rfl) ((HU.out.from HK.out.size).new _) HAP.out (by rw [Mx.len_matl]; omega) (Nat.le_trans HK.out.size (Nat.le_trans HQ.out.size ((Kp.rfl' _).new _).size)) ?_; intro v' w' G' C' ho' hk')
          have HO' := Lib.hid ho'
          have HK' := Lib.hid (hk' w (Nat.le_refl _) ((HK.out.trans HQ.out).new _))
          clear ho' hk'
          go_wp2_with fail
          go_roundw
          case rel => exact ⟨k + 1, G', C', by omega, by go_num, by rw [HS.out]; exact HO'.out, HK'.out⟩
          case measure => simp [intOf]; omega
    · obtain rfl : k = r := by omega
      obtain ⟨A, d2, rfl, hl, _⟩ := HO.out.lies
      rw [Mx.len_matl]
      have HL := Lib.hid hl
      clear hl
      go_wp2_with fail
      go_ret
      exact ⟨A, d2, rfl, HL.out, HK.out⟩

set_option maxRecDepth 100000 in
set_option maxHeartbeats 6400000 in
theorem rMatAdd_any (A A' : Option Addr) (f f' : Nat → Nat → Fp.F) (r c d d' : Nat) (w : World) (ha : LiesM w A (Mx.matl r c f)) (ha' : LiesM w A' (Mx.matl r c f')) (hr0 : 0 < r) (hc0 : 0 < c) (hr : r ≤ 1000) (hc : c ≤ 1000) :
    Calls Tryd.prog 10 #[.slice A r d, .slice A' r d'] w fun e w' => Made r c (Mx.plus f f') w e w' := by
  have CO := Lib.hid (rCopy_any A f r c d w ha hc0 hr hc)
  have HA := Lib.hid ha
  have HB := Lib.hid ha'
  clear ha ha'
  go_enter Tryd.func10, Tryd.ntmps10
  go_wp2_with fail
  refine (CO.out).mono ?_; rintro e w1 ⟨v, G, C, rfl, ho, hk⟩
  obtain ⟨g, gc, rfl, hg⟩ := ho.some (by rw [Mx.len_matl]; exact hr0)
  rw [Mx.len_matl] at ho ⊢
  have HO := Lib.hid ho
  have HK := Lib.hid hk
  clear ho hk
  go_wp2_with fail
  go_loopw [6] (fun i wr => ∃ k : Nat, k ≤ r ∧ i = .int .i64 (k : Int) ∧ OwnM wr w.heap.size (.slice (some ⟨g, 0, none⟩) r gc) G C (Mx.tab r c fun a b => if a < k then ((Mx.plus f f' a b).val : Int) else ((f a b).val : Int)) ∧ Kp w wr) (fun i _ => r - (intOf i).toNat)
  case atStart => exact ⟨0, Nat.zero_le _, rfl, HO.out.ext (fun a b _ _ => by rw [if_neg (by omega)]), HK.out⟩
  case round =>
    obtain ⟨k, hk, rfl, ho, hkp⟩ := hrel
    obtain ⟨wo, hwo⟩ : ∃ x, x = wr := ⟨_, rfl⟩
    subst hwo
    have HO1 := Lib.hid ho
    have HK1 := Lib.hid hkp
    clear ho hkp
    by_cases hlt : k < r
    · go_wp2_with fail
      go_loopw [7] (fun i wq => ∃ t : Nat, t ≤ c ∧ i = .int .i64 (t : Int) ∧ OwnM wq w.heap.size (.slice (some ⟨g, 0, none⟩) r gc) G C (Mx.tab r c fun a b => if a < k ∨ (a = k ∧ b < t) then ((Mx.plus f f' a b).val : Int) else ((f a b).val : Int)) ∧ Kp w wq) (fun i _ => c - (intOf i).toNat)
      case atStart => exact ⟨0, Nat.zero_le _, rfl, HO1.out.ext (fun a b _ _ => by
        by_cases e : a < k
        · rw [if_pos e, if_pos (.inl e)]
        · rw [if_neg e, if_neg (by omega)]), HK1.out⟩
      case round =>
        obtain ⟨t, ht, rfl, ho, hkq⟩ := hrel
        obtain ⟨ad, A1, d1, rfl, _, x1, _, l1⟩ := (HA.out.keep hkq).row hlt
        by_cases hlt2 : t < c
        · obtain ⟨ad1, rfl, _, x2⟩ := l1.el hlt2
          obtain ⟨bd, A2, d2, rfl, _, x3, _, l2⟩ := (HB.out.keep hkq).row hlt
          obtain ⟨bd1, rfl, _, x4⟩ := l2.el hlt2
          have y1 := ho.head (i := k) (by rw [Mx.len_tab]; exact hlt)
          have y2 := ho.el (i := k) (j := t) (by rw [Mx.len_tab]; exact hlt) (by rw [Mx.tab_len _ _ _ _ hlt]; exact hlt2)
          have y3 := ho.free (i := k) (by rw [Mx.len_tab]; exact hlt) t
          have y4 := (ho.lt (i := k) (by rw [Mx.len_tab]; exact hlt)).1
          rw [Mx.tab_len _ _ _ _ hlt] at y1
          rw [Mx.tab_el _ _ _ _ _ hlt hlt2] at y2
          have HO2 := Lib.hid ho
          have HK2 := Lib.hid hkq
          have v1 := rval (f k t)
          have v2 := rval (f' k t)
          have MO := Lib.hid (fun w => (rMod_any (((f k t).val : Int) + ((f' k t).val : Int)) w (by omega) (by omega)))
          rw [Mx.val_plus] at MO
          obtain ⟨z, hz⟩ : ∃ z, z = ((f k t + f' k t).val : Int) := ⟨_, rfl⟩
          rw [← hz] at MO
          have HZ := Lib.hid hz
          generalize ((f k t).val : Int) = x at *
          generalize ((f' k t).val : Int) = y at *
          have hwa : IntKind.i64.wrap (x + y) = x + y := IntWalk.i64_in _ (by omega)
          generalize (if k < k ∨ k = k ∧ t < t then ((Mx.plus f f' k t).val : Int) else x) = old at y2
          clear ho hkq l1 l2 v1 v2 hz
          go_wp2_with fail
          refine wp_region_still_tail 22 (by kernel_rfl) (by kernel_rfl) ?_
          simp only [List.take_succ_cons, List.take_zero, List.drop_succ_cons, List.drop_zero]
          repeat still_step
          still_call ((MO.out _).mono fun _ _ h => ⟨h.1, h.2.symm⟩)
          repeat still_step
          refine wpStill_nil ?_
          change wpList _ _ _ _ _ wr.drew
          go_wp2_with fail
          go_roundw
          case rel =>
            refine ⟨t + 1, by omega, by go_num, ((HO2.out.drewN 1).put hlt t z).ext (fun a b ha hb => ?_), (HK2.out.drewN 1).put (p := ⟨G k, t, none⟩) y4 _⟩
            by_cases e : a = k ∧ b = t
            · rw [if_pos e, if_pos (by omega), e.1, e.2]; exact HZ.out
            · rw [if_neg e]
              by_cases e2 : a < k ∨ (a = k ∧ b < t)
              · rw [if_pos e2, if_pos (by omega)]
              · rw [if_neg e2, if_neg (by omega)]
          case measure => simp [intOf]; omega
        · obtain rfl : t = c := by omega
          have HO2 := Lib.hid ho
          have HK2 := Lib.hid hkq
          clear ho hkq l1
          go_wp2_with fail
          go_roundw
          case rel =>
            refine ⟨k + 1, by omega, by go_num, HO2.out.ext (fun a b ha hb => ?_), HK2.out⟩
            by_cases e : a < k ∨ (a = k ∧ b < t)
            · rw [if_pos e, if_pos (by omega)]
            · rw [if_neg e, if_neg (by omega)]
          case measure => simp [intOf]; omega
    · obtain rfl : k = r := by omega
      obtain ⟨A, d2, ev, hl, _⟩ := HO1.out.lies
      rw [Mx.len_tab] at ev
      cases ev
      have HL := Lib.hid (show LiesM wo (some ⟨g, 0, none⟩) (Mx.matl k c (Mx.plus f f')) by
        rw [Mx.matl, Mx.tab_ext (h := fun a b => if a < k then ((Mx.plus f f' a b).val : Int) else ((f a b).val : Int)) (fun a b ha _ => by rw [if_pos ha])]; exact hl)
      clear hl
      go_wp2_with fail
      go_ret
      exact ⟨_, _, rfl, HL.out, HK1.out⟩

end Go.Proofs.YtbgmbjicidfhlaaDoor
