/- Contracts of the document's answer on matrices, fifth part: Stairs. For all packages. -/
import Derived.Test.YtcgpommgldecfaaDoorMxRef2
import Derived.Test.YtcgpommgldecfaaDoorFldRef
import Derived.Test.YtcgpommgldecfaaDoorOwnH
import Derived.Test.YtcgpommgldecfaaDoorMatG
namespace Go.Proofs.YtcgpommgldecfaaDoor
open Go.ChangeShapes Go.WideShapes Go.ChangeAt Go.RowKit
set_option linter.unusedVariables false

theorem mod_times (a b : Fp.F) : (a.val : Int) * (b.val : Int) % 9973 = ((a * b).val : Int) := (Fp.mul_val a b).symm
theorem mod_less (a x b : Fp.F) : ((a.val : Int) - (x.val : Int) * (b.val : Int)) % 9973 = ((a - x * b).val : Int) := by
  have h : Fp.ofInt ((a.val : Int) - (x.val : Int) * (b.val : Int)) = a - x * b := by
    have h2 := Fp.ofInt_add ((a.val : Int) - (x.val : Int) * (b.val : Int)) ((x.val : Int) * (b.val : Int))
    rw [Int.sub_add_cancel, Fp.ofInt_mul, Fp.ofInt_self, Fp.ofInt_self, Fp.ofInt_self] at h2
    generalize Fp.ofInt ((a.val : Int) - (x.val : Int) * (b.val : Int)) = y at *
    grind
  rw [← Fp.ofInt_val, h]

/-- A row from p on, before row t, that is not nought at column c; or there is none. -/
def Last (f : Nat → Nat → Fp.F) (p c t : Nat) (v : Int) : Prop := (v = -1 ∧ ∀ s, p ≤ s → s < t → f s c = 0) ∨ ∃ a : Nat, v = (a : Int) ∧ p ≤ a ∧ a < t ∧ f a c ≠ 0
theorem Last.start (f : Nat → Nat → Fp.F) (p c : Nat) : Last f p c p (-1) := .inl ⟨rfl, fun s h1 h2 => absurd h1 (by omega)⟩
theorem Last.zero {f : Nat → Nat → Fp.F} {p c t : Nat} {v : Int} (h : Last f p c t v) (h0 : f t c = 0) : Last f p c (t + 1) v := by
  rcases h with ⟨h1, h2⟩ | ⟨a, h1, h2, h3, h4⟩
  · exact .inl ⟨h1, fun s hs1 hs2 => by
      by_cases e : s = t
      · rw [e]; exact h0
      · exact h2 s hs1 (by omega)⟩
  · exact .inr ⟨a, h1, h2, by omega, h4⟩
theorem Last.hit {f : Nat → Nat → Fp.F} {p c t : Nat} (hp : p ≤ t) (h0 : f t c ≠ 0) : Last f p c (t + 1) (t : Int) := .inr ⟨t, rfl, hp, Nat.lt_succ_self t, h0⟩

/-- The matrix in steps and the columns in which they begin, as the document's answer has them. -/
def MadeSteps (r c k : Nat) (f : Nat → Nat → Fp.F) (w : World) (e : Ending) (w' : World) : Prop :=
  ∃ b g A d A' d', Stair r c k f b g ∧ e = .returned (.tuple #[.slice A r d, .slice A' b.length d']) ∧ LiesM w' A (Mx.matl r c g) ∧ Lies w' A' (cols b) ∧ Kp w w'

set_option maxRecDepth 100000 in
set_option maxHeartbeats 12800000 in
theorem rStairs_any (A : Option Addr) (f : Nat → Nat → Fp.F) (r c k0 d : Nat) (w : World) (ha : LiesM w A (Mx.matl r c f)) (hr0 : 0 < r) (hc0 : 0 < c) (hr : r ≤ 1000) (hc : c ≤ 1000) (hk0 : k0 ≤ c) :
    Calls Tryd.prog 19 #[.slice A r d, .int .i64 (k0 : Int)] w fun e w' => MadeSteps r c k0 f w e w' := by
  have CO := Lib.hid (rCopy_any A f r c d w ha hc0 hr hc)
  clear ha
  go_enter Tryd.func19, Tryd.ntmps19
  go_wp2_with fail
  refine (CO.out).mono ?_; rintro e w1 ⟨v, G0, C0, rfl, ho, hk⟩
  obtain ⟨g, gc, rfl, hg⟩ := ho.some (by rw [Mx.len_matl]; exact hr0)
  rw [Mx.len_matl] at ho ⊢
  have HO := Lib.hid ho
  have HK := Lib.hid hk
  clear ho hk
  go_wp2_with fail
  go_loopw [7, 8] (fun u i wr => ∃ (k : Nat) (b : List Nat) (h : Nat → Nat → Fp.F) (G C : Nat → Nat), k ≤ k0 ∧ i = .int .i64 (k : Int) ∧ Stair r c k f b h ∧ MatRow wr w.heap.size g gc G C r c (fun i j => ((h i j).val : Int)) u (cols b) ∧ Kp w wr) (fun _ i _ => k0 - (intOf i).toNat)
  case atStart => exact ⟨0, [], f, G0, C0, Nat.zero_le _, rfl, Stair.start r c f, MatRow.start HO.out, HK.out⟩
  case round =>
    obtain ⟨k, b, h, G, C, hk, rfl, hst, hmr, hkp⟩ := hrel
    obtain ⟨Au, du, rfl, hlu, _⟩ := hmr.row.cap
    obtain ⟨p, hp⟩ : ∃ p, p = b.length := ⟨_, rfl⟩
    have hpr : p ≤ r := by rw [hp]; exact hst.steps.le
    rw [len_cols, ← hp] at hmr ⊢
    have HM := Lib.hid hmr
    have HS := Lib.hid hst
    have HK := Lib.hid hkp
    have HL := Lib.hid hlu
    have HP := Lib.hid hp
    obtain ⟨w0, hw0⟩ : ∃ x, x = wr := ⟨_, rfl⟩
    subst hw0
    clear hmr hst hkp hlu hp
    by_cases hlt : k < k0
    · have hkc : k < c := by omega
      go_wp2_with fail
      go_loop [10, 11] (fun x i => ∃ (t : Nat) (v : Int), p ≤ t ∧ t ≤ r ∧ i = .int .i64 (t : Int) ∧ x = .int .i64 v ∧ Last h p k t v) (fun _ i => r - (intOf i).toNat)
      case atStart => exact ⟨p, -1, Nat.le_refl _, hpr, rfl, rfl, Last.start _ _ _⟩
      case round =>
        obtain ⟨t, v, hpt, htr, rfl, rfl, hla⟩ := hrel
        have HLA := Lib.hid hla
        by_cases hlt2 : t < r
        · have z1 := HM.out.mat.weak.head hlt2
          have z2 := HM.out.mat.weak.el hlt2 hkc
          by_cases h0 : h t k = 0
          · rw [h0, show (((0 : Fp.F).val : Nat) : Int) = 0 from rfl] at z2
            have HL2 := Lib.hid (hla.zero h0)
            clear hla h0
            go_wp2_with fail
            go_round
            case rel => exact ⟨t + 1, v, by omega, by omega, by go_num, rfl, HL2.out⟩
            case measure => simp [intOf]; omega
          · have HL2 := Lib.hid (Last.hit hpt h0)
            have hv := Fp.ne_val h0
            have e1 : (((h t k).val : Int) != 0) = true := by rw [bne_iff_ne]; omega
            generalize ((h t k).val : Int) = z at *
            clear hla h0 hv
            go_wp2_with fail
            go_round
            case rel => exact ⟨t + 1, t, by omega, by omega, by go_num, rfl, HL2.out⟩
            case measure => simp [intOf]; omega
        · obtain rfl : t = r := by omega
          rcases hla with ⟨rfl, hz⟩ | ⟨a, rfl, hpa, har, h0⟩
          · have HS2 := Lib.hid (HS.out.skip fun i h1 h2 => hz i (by rw [HP.out]; exact h1) h2)
            clear hz
            go_wp2_with fail
            go_roundw
            case rel => exact ⟨k + 1, b, h, G, C, by omega, by go_num, HS2.out, HM.out, HK.out⟩
            case measure => simp [intOf]; omega
          · have hpr' : p < t := by omega
            clear hlt2 htr hpt
            obtain ⟨r, hrr⟩ : ∃ r, r = t := ⟨_, rfl⟩
            subst hrr
            have y1 := HM.out.mat.weak.head har
            have y2 := HM.out.mat.weak.head hpr'
            have y3 := HM.out.mat.weak.topFree a
            have hBg := HM.out.mat.weak.topLe.1
            have HWA := Lib.hid (HM.out.mat.weak.set har (HM.out.mat.weak.row p hpr'))
            have HRA := Lib.hid (own_store (HM.out.mat.weak.row a har) (a := ⟨g, a, none⟩) (HM.out.mat.weak.apartTop har) (Value.slice (some ⟨G p, 0, none⟩) c (C p)))
            have HKA := Lib.hid (HK.out.put (p := ⟨g, a, none⟩) hBg (Value.slice (some ⟨G p, 0, none⟩) c (C p)))
            have y4 := own_cell HRA.out k (by rw [Mx.len_row]; exact hkc)
            rw [Mx.row_at _ _ _ hkc] at y4
            have PO := Lib.hid (fun w => refPow_any 9971 (h a k) 9971 w (Nat.le_refl _) (by decide))
            unfold el at PO
            change Hid (∀ w, Calls Tryd.prog 31 #[.int .i64 ((h a k).val : Int), .int .i64 9971] w fun e w' => e = .returned (.int .i64 ((Fp.inv (h a k)).val : Int)) ∧ w = w') at PO
            obtain ⟨pv, hpv⟩ : ∃ pv, pv = ((h a k).val : Int) := ⟨_, rfl⟩
            rw [← hpv] at y4 PO
            clear hpv
            go_wp2_with fail
            refine (PO.out _).mono ?_; rintro e w' ⟨rfl, rfl⟩
            clear y1 y2 y3 y4
            obtain ⟨wA, hwA⟩ : ∃ x, x = w0.setCell ⟨g, a, none⟩ (.slice (some ⟨G p, 0, none⟩) c (C p)) := ⟨_, rfl⟩
            rw [← hwA] at HWA HRA HKA ⊢
            have HEA := Lib.hid hwA
            have hszA : w0.heap.size = wA.heap.size := by rw [hwA]; exact size_set _ _ _
            have HSZ := Lib.hid hszA
            clear hwA hszA
            obtain ⟨iv, hiv⟩ : ∃ iv, iv = ((Fp.inv (h a k)).val : Int) := ⟨_, rfl⟩
            rw [← hiv]
            have HIV := Lib.hid hiv
            clear hiv
            go_wp2_with fail
            go_loopw [14, 15] (fun q i wq => ∃ t : Nat, t ≤ c ∧ i = .int .i64 (t : Int) ∧ Own wq wA.heap.size q (Mx.row t fun j => ((h a j * Fp.inv (h a k)).val : Int)) ∧ Kp wA wq) (fun _ i _ => c - (intOf i).toNat)
            case atStart => exact ⟨0, Nat.zero_le _, rfl, Own.none _ _, Kp.rfl' _⟩
            case round =>
              obtain ⟨t, htc, rfl, hu, hkq⟩ := hrel
              have HU := Lib.hid hu
              have HQ := Lib.hid hkq
              obtain ⟨wd, hwd⟩ : ∃ x, x = wr := ⟨_, rfl⟩
              subst hwd
              by_cases hlt3 : t < c
              · have z1 := own_cell (HRA.out.kp hkq) t (by rw [Mx.len_row]; exact hlt3)
                rw [Mx.row_at _ _ _ hlt3] at z1
                have hb := rprod (h a t) (Fp.inv (h a k))
                have hm := mod_times (h a t) (Fp.inv (h a k))
                have hlen : (Mx.row t fun j => ((h a j * Fp.inv (h a k)).val : Int)).length + 1 ≤ 17000000000000 := by rw [Mx.len_row]; omega
                have HSN := Lib.hid (Mx.row_snoc t fun j => ((h a j * Fp.inv (h a k)).val : Int))
                rw [← HIV.out] at hb hm
                obtain ⟨z, hz⟩ : ∃ z, z = ((h a t * Fp.inv (h a k)).val : Int) := ⟨_, rfl⟩
                rw [← hz] at hm HSN
                generalize ((h a t).val : Int) = x at *
                have hwm : IntKind.i64.wrap (x * iv) = x * iv := IntWalk.i64_in _ (by omega)
                have MO := Lib.hid (fun w => rMod_any (x * iv) w (by omega) (by omega))
                rw [hm] at MO
                have hsz := HQ.out.size
                clear hu hkq hb hm hz
                go_wp2_with fail
                refine (MO.out _).mono ?_; rintro e w' ⟨rfl, rfl⟩
                go_wp2_with (at_builtin; refine wpList_push rfl _ _ rfl wA.heap.size _ (Mx.row t fun j => ((h a j * Fp.inv (h a k)).val : Int)) z wd.heap.size 1 rfl rfl (HU.out.new _) (by simp; done) hlen (Nat.le_trans hsz ((Kp.rfl' _).new _).size) ?_; intro v' w' h1 h2 _)
                have HU' := Lib.hid h1
                have HQ' := Lib.hid (own_below (HU.out.new _) (HQ.out.new _) (Nat.le_trans hsz ((Kp.rfl' _).new _).size) h2)
                clear h1 h2
                go_wp2_with fail
                go_roundw
                case rel => exact ⟨t + 1, by omega, by go_num, by rw [HSN.out]; exact HU'.out, HQ'.out⟩
                case measure => simp [intOf]; omega
              · obtain rfl : t = c := by omega
                obtain ⟨go, co, rfl, hgo, hgc⟩ := own_some hu (by rw [Mx.len_row]; exact hc0)
                rw [Mx.len_row] at HU hgc ⊢
                have z1 := (HWA.out.kp hkq).head hpr'
                have z2 := (HWA.out.kp hkq).topFree p
                have RH := HM.out.rehead har hpr' (w' := wd) (by rw [← HEA.out]; exact hkq) (by rw [HSZ.out]; exact HU.out)
                obtain ⟨H, hH⟩ : ∃ H : Nat → Nat → Fp.F, H = fun i => if i = a then h p else if i = p then h a else h i := ⟨_, rfl⟩
                have hHp : H p = h a := by
                  rw [hH]
                  show (if p = a then h p else if p = p then h a else h p) = h a
                  by_cases e : p = a
                  · rw [if_pos e, e]
                  · rw [if_neg e, if_pos rfl]
                obtain ⟨G', hG'⟩ : ∃ G' : Nat → Nat, G' = fun i => if i = p then go else if i = a then G p else G i := ⟨_, rfl⟩
                obtain ⟨C', hC'⟩ : ∃ C' : Nat → Nat, C' = fun i => if i = p then co else if i = a then C p else C i := ⟨_, rfl⟩
                rw [← hG', ← hC'] at RH
                have RH := RH.ext (f' := fun i j => ((clnTo H p k 0 i j).val : Int)) fun i j _ _ => by
                  unfold clnTo
                  by_cases e1 : i = p
                  · simp only [if_pos e1, hHp]
                  · simp only [if_neg e1, hH, Nat.not_lt_zero, if_false]
                    by_cases e2 : i = a
                    · simp only [if_pos e2]
                    · simp only [if_neg e2]
                have eg : G' p = go := by rw [hG']; exact if_pos rfl
                have ec : C' p = co := by rw [hC']; exact if_pos rfl
                have HS2 := HS.out.next (a := a) (by rw [← HP.out]; exact hpa) har h0
                rw [← HP.out, ← cln_nxt, ← hH] at HS2
                have HS2 := Lib.hid HS2
                have HKD := Lib.hid ((HKA.out.trans hkq).put (p := ⟨g, p, none⟩) hBg (.slice (some ⟨go, 0, none⟩) t co))
                clear hG' hC' hH hHp hu hkq h0 hgo hgc
                subst eg ec
                have RH := Lib.hid RH
                go_wp2_with fail
                obtain ⟨wC, hwC⟩ : ∃ x, x = wd.setCell ⟨g, p, none⟩ (.slice (some ⟨G' p, 0, none⟩) t (C' p)) := ⟨_, rfl⟩
                rw [← hwC] at RH HKD ⊢
                clear hwC z1 z2 HU HQ HEA HSZ HIV HWA HRA HKA PO
                obtain ⟨c, hcc⟩ : ∃ c, c = t := ⟨_, rfl⟩
                subst hcc
                go_loopw [16] (fun i wq => ∃ t : Nat, t ≤ r ∧ i = .int .i64 (t : Int) ∧ MatRow wq w.heap.size g gc G' C' r c (fun i j => ((clnTo H p k t i j).val : Int)) (.slice Au p du) (cols b) ∧ Kp w wq) (fun i _ => r - (intOf i).toNat)
                case atStart => exact ⟨0, Nat.zero_le _, rfl, RH.out, HKD.out⟩
                case round =>
                  obtain ⟨t, htr, rfl, hmr, hkq⟩ := hrel
                  have HM2 := Lib.hid hmr
                  have HK2 := Lib.hid hkq
                  obtain ⟨wt, hwt⟩ : ∃ x, x = wr := ⟨_, rfl⟩
                  subst hwt
                  clear hmr hkq
                  by_cases hlt4 : t < r
                  · by_cases htp : t = p
                    · subst htp
                      have e1 : ((t : Int) != (t : Int)) = false := by simp
                      go_wp2_with fail
                      go_roundw
                      case rel => exact ⟨t + 1, by omega, by go_num, HM2.out.ext (fun i j _ _ => by rw [clnTo_same]), HK2.out⟩
                      case measure => simp [intOf]; omega
                    · have e1 : ((t : Int) != (p : Int)) = true := by rw [bne_iff_ne]; omega
                      have z1 := HM2.out.mat.weak.head hlt4
                      have z2 := HM2.out.mat.weak.el hlt4 hkc
                      have ht0 : ∀ j, clnTo H p k t t j = H t j := fun j => by unfold clnTo; rw [if_neg htp, if_neg (by omega)]
                      have ht1 : ∀ j, clnTo H p k (t + 1) t j = H t j - H t k * (H p j * Fp.inv (H p k)) := fun j => by unfold clnTo; rw [if_neg htp, if_pos (by omega)]
                      have ht2 : ∀ j, clnTo H p k t p j = H p j * Fp.inv (H p k) := fun j => by unfold clnTo; rw [if_pos rfl]
                      have ht3 : ∀ i j, i ≠ t → clnTo H p k (t + 1) i j = clnTo H p k t i j := fun i j hi => by
                        unfold clnTo
                        by_cases e : i = p
                        · rw [if_pos e, if_pos e]
                        · rw [if_neg e, if_neg e]
                          by_cases e2 : i < t
                          · rw [if_pos e2, if_pos (by omega)]
                          · rw [if_neg e2, if_neg (by omega)]
                      rw [ht0] at z2
                      have HT0 := Lib.hid ht0
                      have HT1 := Lib.hid ht1
                      have HT2 := Lib.hid ht2
                      have HT3 := Lib.hid ht3
                      have HTP := Lib.hid htp
                      obtain ⟨fv, hfv⟩ : ∃ fv, fv = ((H t k).val : Int) := ⟨_, rfl⟩
                      rw [← hfv] at z2
                      have HFV := Lib.hid hfv
                      clear htp ht0 ht1 ht2 ht3 hfv
                      go_wp2_with fail
                      go_loopw [18] (fun i wz => ∃ s : Nat, s ≤ c ∧ i = .int .i64 (s : Int) ∧ MatRow wz w.heap.size g gc G' C' r c (fun x y => if x = t ∧ y < s then ((clnTo H p k (t + 1) x y).val : Int) else ((clnTo H p k t x y).val : Int)) (.slice Au p du) (cols b) ∧ Kp w wz) (fun i _ => c - (intOf i).toNat)
                      case atStart => exact ⟨0, Nat.zero_le _, rfl, HM2.out.ext (fun x y _ _ => by rw [if_neg (by omega)]), HK2.out⟩
                      case round =>
                        obtain ⟨s, hs, rfl, hmz, hkz⟩ := hrel
                        have HM3 := Lib.hid hmz
                        have HK3 := Lib.hid hkz
                        clear hmz hkz z1 z2
                        by_cases hlt5 : s < c
                        · have x1 := HM3.out.mat.weak.head hlt4
                          have x2 := HM3.out.mat.weak.el hlt4 hlt5
                          have x3 := HM3.out.mat.weak.el hpr' hlt5
                          have x4 := HM3.out.mat.weak.free hlt4 s
                          have x5 := (HM3.out.mat.weak.lt hlt4).1
                          rw [if_neg (by omega), HT0.out] at x2
                          rw [if_neg (by have := HTP.out; omega), HT2.out] at x3
                          have hb := rprod (H t k) (H p s * Fp.inv (H p k))
                          have hm := mod_less (H t s) (H t k) (H p s * Fp.inv (H p k))
                          have hv := rval (H t s)
                          rw [← HFV.out] at hb hm
                          rw [← HT1.out] at hm
                          obtain ⟨z, hz⟩ : ∃ z, z = ((clnTo H p k (t + 1) t s).val : Int) := ⟨_, rfl⟩
                          rw [← hz] at hm
                          have HZ := Lib.hid hz
                          generalize ((H t s).val : Int) = u0 at *
                          generalize ((H p s * Fp.inv (H p k)).val : Int) = ov at *
                          have hwm : IntKind.i64.wrap (fv * ov) = fv * ov := IntWalk.i64_in _ (by omega)
                          have hws : IntKind.i64.wrap (u0 - fv * ov) = u0 - fv * ov := IntWalk.i64_in _ (by omega)
                          have MO := Lib.hid (fun w => rMod_any (u0 - fv * ov) w (by omega) (by omega))
                          rw [hm] at MO
                          have HX5 := Lib.hid x5
                          clear hb hm hv hz x5
                          go_wp2_with fail
                          refine wp_region_still_tail 21 (by kernel_rfl) (by kernel_rfl) ?_
                          simp only [List.take_succ_cons, List.take_zero, List.drop_succ_cons, List.drop_zero]
                          repeat still_step
                          still_call ((MO.out _).mono fun _ _ h => ⟨h.1, h.2.symm⟩)
                          repeat still_step
                          refine wpStill_nil ?_
                          change wpList _ _ _ _ _ wr.drew
                          go_wp2_with fail
                          go_roundw
                          case rel =>
                            refine ⟨s + 1, by omega, by go_num, ((HM3.out.drewN 1).put hlt4 s z).ext (fun x y hx hy => ?_), (HK3.out.drewN 1).put (p := ⟨G' t, s, none⟩) HX5.out _⟩
                            by_cases e : x = t ∧ y = s
                            · rw [if_pos e, if_pos (by omega), e.1, e.2]; exact HZ.out
                            · rw [if_neg e]
                              by_cases e2 : x = t ∧ y < s
                              · rw [if_pos e2, if_pos (by omega)]
                              · rw [if_neg e2, if_neg (by omega)]
                          case measure => simp [intOf]; omega
                        · obtain rfl : s = c := by omega
                          have HM4 := Lib.hid (HM3.out.ext (f' := fun i j => ((clnTo H p k (t + 1) i j).val : Int)) (fun x y _ hy => by
                            by_cases e : x = t
                            · rw [if_pos ⟨e, hy⟩]
                            · rw [if_neg (fun h => e h.1), HT3.out x y e]))
                          go_wp2_with fail
                          go_roundw
                          case rel => exact ⟨t + 1, by omega, by go_num, HM4.out, HK3.out⟩
                          case measure => simp [intOf]; omega
                  · obtain rfl : t = r := by omega
                    have HM5 := Lib.hid (HM2.out.ext (f' := fun i j => ((cln H p k i j).val : Int)) (fun i j hi _ => by
                      unfold clnTo cln
                      by_cases e : i = p
                      · rw [if_pos e, if_pos e]
                      · rw [if_neg e, if_neg e, if_pos hi]))
                    have hsz := HK2.out.size
                    have HSN := Lib.hid (cols_snoc b k)
                    have hlen : (cols b).length + 1 ≤ 17000000000000 := by rw [len_cols, ← HP.out]; omega
                    obtain ⟨we, hwe⟩ : ∃ x, x = wt := ⟨_, rfl⟩
                    subst hwe
                    go_wp2_with (at_builtin; refine wpList_push rfl _ _ rfl w.heap.size _ (cols b) (k : Int) we.heap.size 1 rfl rfl (HM5.out.row.new _) (by simp; done) hlen (Nat.le_trans hsz ((Kp.rfl' _).new _).size) ?_; intro v' w3 h1 h2 h3)
                    have HM6 := Lib.hid ((HM5.out.kp ((Kp.rfl' _).new _)).push h1 h2 h3)
                    have HK6 := Lib.hid (own_below (HM5.out.row.new _) (HK2.out.new _) (Nat.le_trans hsz ((Kp.rfl' _).new _).size) h2)
                    clear h1 h2 h3
                    go_wp2_with fail
                    go_roundw
                    case rel => exact ⟨k + 1, b ++ [k], cln H p k, G', C', by omega, by go_num, HS2.out, by rw [HSN.out]; exact HM6.out, HK6.out⟩
                    case measure => simp [intOf]; omega
    · obtain rfl : k = k0 := by omega
      have HL2 := Lib.hid (HM.out.mat.liesM)
      go_wp2_with fail
      go_ret2
      exact ⟨b, h, some ⟨g, 0, none⟩, gc, Au, du, HS.out, by rw [← HP.out]; rfl, HL2.out, HL.out, HK.out⟩
end Go.Proofs.YtcgpommgldecfaaDoor
