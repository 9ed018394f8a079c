/- Contracts of the document's answer: floor, Hermite. -/
import Derived.Test.YteobamakmmoljaaDoorHmRf1
import Derived.Test.YteobamakmmoljaaDoorHmC3
import Derived.Test.YteobamakmmoljaaDoorHmD
import Derived.Deep.LoopGhost
import Derived.Deep.Cut
import Derived.Deep.CutRange
import Derived.Deep.DeepCutAuto
namespace Go.Proofs.YteobamakmmoljaaDoor
open Go.ChangeShapes Go.WideShapes Go.ChangeAt Go.RowKit
set_option linter.unusedVariables false

theorem floor_arith {a b : Int} (hb : 0 < b) : (0 ≤ a → a.tdiv b = a / b) ∧ (a < 0 → -((b - 1 - a).tdiv b) = a / b) := by
  constructor
  · intro h; exact Int.tdiv_eq_ediv_of_nonneg h
  · intro h
    rw [Int.tdiv_eq_ediv_of_nonneg (by omega)]
    have h1 := Int.mul_ediv_add_emod a b
    have h2 := Int.emod_nonneg a (Int.ne_of_gt hb)
    have h3 := Int.emod_lt_of_pos a hb
    have e : b - 1 - a = (b - 1 - a % b) + b * (-(a / b)) := by
      have : b * (-(a / b)) = -(b * (a / b)) := by grind
      omega
    rw [e, Int.add_mul_ediv_left _ _ (by omega), Int.ediv_eq_zero_of_lt (by omega) (by omega)]
    omega
set_option maxRecDepth 100000 in
theorem floorZ_any (a b : Int) (w : World) (hb : 0 < b) (hb2 : b ≤ 1000000) (ha : -4000000000000000 ≤ a ∧ a ≤ 4000000000000000) :
    Calls Tryd.prog 19 #[.int .i64 a, .int .i64 b] w fun e w' => e = .returned (.int .i64 (a / b)) ∧ w = w' := by
  have e0 : (b == 0) = false := by rw [beq_eq_false_iff_ne]; omega
  have fb := Zx.floor_ab (a := a) hb
  unfold Zx.ab at fb
  by_cases h : 0 ≤ a
  · have f := (floor_arith (a := a) hb).1 h
    have hd : decide (0 ≤ a) = true := decide_eq_true h
    have hw : IntKind.i64.wrap (a.tdiv b) = a / b := by rw [f]; exact IntWalk.i64_in _ (by omega)
    generalize a / b = q at *
    clear fb f
    go_enter Tryd.func19, Tryd.ntmps19
    go_wp2_with fail
    go_ret
    exact ⟨rfl, rfl⟩
  · have f := (floor_arith (a := a) hb).2 (by omega)
    have hd : decide (0 ≤ a) = false := decide_eq_false h
    have hw1 : IntKind.i64.wrap (b - 1) = b - 1 := IntWalk.i64_in _ (by omega)
    have hw2 : IntKind.i64.wrap (b - 1 - a) = b - 1 - a := IntWalk.i64_in _ (by omega)
    obtain ⟨z, hz⟩ : ∃ z, z = (b - 1 - a).tdiv b := ⟨_, rfl⟩
    rw [← hz] at f
    have hw : IntKind.i64.wrap ((b - 1 - a).tdiv b) = z := by rw [← hz]; exact IntWalk.i64_in _ (by omega)
    have hw3 : IntKind.i64.wrap (-z) = a / b := by rw [f]; exact IntWalk.i64_in _ (by omega)
    generalize a / b = q at *
    clear fb f hz
    go_enter Tryd.func19, Tryd.ntmps19
    go_wp2_with fail
    go_ret
    exact ⟨rfl, rfl⟩

theorem quot_le (a b : Int) : Zx.ab (a.tdiv b) ≤ Zx.ab a := by
  have := Int.natAbs_tdiv_le_natAbs a b
  unfold Zx.ab; omega
/-- A row under way: one number more. -/
theorem row_more {t j : Nat} {z : Int} {y : Nat → Int} {k : Nat → Nat → Int} (hz : z = y j) (r s : Nat) : (if r = t ∧ s = j then z else if r = t ∧ s < j then y s else k r s) = if r = t ∧ s < j + 1 then y s else k r s := by
  by_cases e : r = t ∧ s = j
  · rw [if_pos e, if_pos (by omega), hz, e.2]
  · rw [if_neg e]
    by_cases e2 : r = t ∧ s < j
    · rw [if_pos e2, if_pos (by omega)]
    · rw [if_neg e2, if_neg (by omega)]
theorem row_all {n t : Nat} {y : Nat → Int} {k : Nat → Nat → Int} (r s : Nat) (hs : s < n) : (if r = t ∧ s < n then y s else k r s) = Zx.setr t y k r s := by
  by_cases e : r = t
  · rw [if_pos ⟨e, hs⟩, e, Zx.setr_at]
  · rw [if_neg (fun h => e h.1), Zx.setr_ne e]

set_option maxRecDepth 100000 in
set_option maxHeartbeats 25600000 in
theorem rHerm_any {n : Nat} {x : Nat → Nat → Int} {m : List (List Int)} (s : Hm n x m) (A : Option Addr) (d : Nat) (w : World) (ha : LiesM w A m) :
    Calls Tryd.prog 7 #[.slice A n d] w fun e w' =>
      ∃ g cap G C a, Zx.Hnf n a ∧ Zx.Eql n a x ∧ e = .returned (.slice (some ⟨g, 0, none⟩) n cap) ∧ OwnM w' w.heap.size (.slice (some ⟨g, 0, none⟩) n cap) G C (Mx.tab n n a) ∧ Kp w w' := by
  have n3 := s.sh.n3
  have n0 := s.sh.n0
  have CP := Lib.hid (rCopyZ_any A x n n d w (by rw [← s.sh.eq]; exact ha) n0 (by omega) (by omega))
  have D0 := Lib.hid (Zx.Dm.start s.sh.small)
  have DT := Lib.hid s.ne
  have DM := Lib.hid (Zx.dt_twenty s.sh.n3 s.sh.small)
  clear ha s
  go_enter Tryd.func7, Tryd.ntmps7
  go_wp2_with fail
  refine (CP.out).mono ?_; rintro e w1 ⟨v, G, C, rfl, o1, k1⟩
  obtain ⟨g, cap, rfl, hnc⟩ := ownM_slice o1 (Mx.len_tab _ _ _) n0
  have HO := Lib.hid o1
  have HK := Lib.hid k1
  have hBg : w.heap.size ≤ g := o1.weak.topLe.1
  clear o1 k1 CP
  go_wp2_with fail
  go_loopw [5] (fun i wr => ∃ (c : Nat) (G C : Nat → Nat) (f : Nat → Nat → Int), c ≤ n ∧ i = .int .i64 (c : Int) ∧ OwnM wr w.heap.size (.slice (some ⟨g, 0, none⟩) n cap) G C (Mx.tab n n f) ∧ Zx.Dm n c x f ∧ Kp w wr) (fun i _ => n - (intOf i).toNat)
  case atStart => exact ⟨0, G, C, x, Nat.zero_le _, rfl, HO.out, D0.out, HK.out⟩
  case round =>
    clear HO HK D0
    obtain ⟨c, G, C, f, hc, rfl, ho, hf, hkp⟩ := hrel
    have HO := Lib.hid ho
    have HF := Lib.hid hf
    have HK := Lib.hid hkp
    clear ho hf hkp
    by_cases hltc : c < n
    · as_aux_lemma =>
      have DL := Lib.hid (Zx.dl_up (c + 1))
      go_wp2_with fail
      go_loopg [6] (Zx.dl c + 1).toNat (fun q _ wr => ∃ (G C : Nat → Nat) (h : Nat → Nat → Int) (p : Int), OwnM wr w.heap.size (.slice (some ⟨g, 0, none⟩) n cap) G C (Mx.tab n n h) ∧ Zx.Dp n c f h p ∧ Zx.Jb n c f p h ∧ Kp w wr ∧ p.toNat = q)
      case atStart => exact ⟨G, C, f, Zx.dl c + 1, HO.out, HF.out.dp hltc, Zx.Jb.start n3 hltc HF.out.bl, HK.out, rfl⟩
      case round =>
        clear HO HK
        obtain ⟨G, C, h, p, ho, hd, hj, hkp, hq⟩ := hrel
        have HO := Lib.hid ho
        have HD := Lib.hid hd
        have HJ := Lib.hid hj
        have HK := Lib.hid hkp
        have HQP := Lib.hid hq
        have HB := Lib.hid (fun r j (h1 : c ≤ r) (h2 : r < n) (h3 : j < n) => hj.bound n3 hltc h1 h2 h3)
        clear ho hd hj hkp hq
        obtain ⟨wo, hwo⟩ : ∃ z, z = wr := ⟨_, rfl⟩
        subst hwo
        go_wp2_with fail
        go_loopw [6, 7, 8] (fun b mm i wq => ∃ (t : Nat) (bv : Int) (m : Nat), c ≤ t ∧ t ≤ n ∧ i = .int .i64 (t : Int) ∧ b = .int .i64 bv ∧ mm = .int .i64 (m : Int) ∧ m ≤ t ∧ Zx.BstTo c t h bv m ∧ Kp wo wq) (fun _ _ i _ => n - (intOf i).toNat)
        case atStart => exact ⟨c, -1, 0, Nat.le_refl _, by omega, rfl, rfl, rfl, Nat.zero_le _, Zx.BstTo.start c h, Kp.rfl' _⟩
        case round =>
          obtain ⟨t, bv, m, hct, ht, rfl, rfl, rfl, hmt, hbst, hkq⟩ := hrel
          have HBT := Lib.hid hbst
          have HKQ := Lib.hid hkq
          have HM := Lib.hid (HO.out.kp hkq)
          clear hkq
          by_cases hltt : t < n
          · as_aux_lemma =>
            have y1 := HM.out.weak.head hltt
            have y2 := HM.out.weak.el hltt hltc
            have b1 := HB.out t c hct hltt hltc
            have dd := DL.out.2.2
            by_cases h0 : h t c = 0
            · have ST := Lib.hid (HBT.out.skip hct h0)
              rw [h0] at y2
              clear hbst b1 h0 dd
              go_wp2_with fail
              go_roundw
              case rel => exact ⟨t + 1, bv, m, by omega, by omega, by go_num, rfl, rfl, by omega, ST.out, HKQ.out⟩
              case measure => simp [intOf]; omega
            · have e1 : (h t c != 0) = true := by rw [bne_iff_ne]; exact h0
              rcases hbst.2 with ⟨eb, _⟩ | ⟨b', eb, hb1, hb2, hb3, _⟩
              · have ST := Lib.hid (HBT.out.take hct h0 (.inl (by omega)))
                subst eb
                generalize h t c = xv at *
                clear hbst b1 h0 dd
                go_wp2_with fail
                go_quiet (fail)
                go_wp2_with fail
                go_roundw
                case rel => exact ⟨t + 1, (t : Int), m + 1, by omega, by omega, by go_num, rfl, by go_num, by omega, ST.out, HKQ.out.drewN _⟩
                case measure => simp [intOf]; omega
              · subst eb
                have hbn : b' < n := by omega
                have b2 := HB.out b' c hb1 hbn hltc
                have z1 := HM.out.weak.head hbn
                have z2 := HM.out.weak.el hbn hltc
                have A1 := Lib.hid (fun w => absZ_any (h t c) w (by unfold Zx.ab at b1; omega) (by unfold Zx.ab at b1; omega))
                have A2 := Lib.hid (fun w => absZ_any (h b' c) w (by unfold Zx.ab at b2; omega) (by unfold Zx.ab at b2; omega))
                have en : decide ((b' : Int) < 0) = false := decide_eq_false (by omega)
                by_cases hlt : Zx.ab (h t c) < Zx.ab (h b' c)
                · have ST := Lib.hid (HBT.out.take hct h0 (.inr ⟨b', rfl, hlt⟩))
                  have ed : decide (Zx.ab (h t c) < Zx.ab (h b' c)) = true := decide_eq_true hlt
                  generalize Zx.ab (h t c) = a1 at *
                  generalize Zx.ab (h b' c) = a2 at *
                  generalize h t c = xv at *
                  generalize h b' c = xb at *
                  clear hbst b1 b2 h0 hlt dd hb3
                  go_wp2_with fail
                  go_quiet ((first
                    | (with_reducible exact quiet_here (A1.out _))
                    | (with_reducible exact quiet_more (A1.out _))
                    | (with_reducible exact quiet_here (A2.out _))
                    | (with_reducible exact quiet_more (A2.out _))))
                  go_wp2_with fail
                  go_roundw
                  case rel => exact ⟨t + 1, (t : Int), m + 1, by omega, by omega, by go_num, rfl, by go_num, by omega, ST.out, HKQ.out.drewN _⟩
                  case measure => simp [intOf]; omega
                · have ST := Lib.hid (HBT.out.keep hct h0 (by omega))
                  have ed : decide (Zx.ab (h t c) < Zx.ab (h b' c)) = false := decide_eq_false hlt
                  generalize Zx.ab (h t c) = a1 at *
                  generalize Zx.ab (h b' c) = a2 at *
                  generalize h t c = xv at *
                  generalize h b' c = xb at *
                  clear hbst b1 b2 h0 hlt dd hb3
                  go_wp2_with fail
                  go_quiet ((first
                    | (with_reducible exact quiet_here (A1.out _))
                    | (with_reducible exact quiet_more (A1.out _))
                    | (with_reducible exact quiet_here (A2.out _))
                    | (with_reducible exact quiet_more (A2.out _))))
                  go_wp2_with fail
                  go_roundw
                  case rel => exact ⟨t + 1, (b' : Int), m + 1, by omega, by omega, by go_num, rfl, by go_num, by omega, ST.out, HKQ.out.drewN _⟩
                  case measure => simp [intOf]; omega
          · obtain rfl : n = t := by omega
            obtain ⟨b, rfl, hbs, hmn, hm1, hm2⟩ := hbst.end' (Zx.Dp.some HF.out HD.out hltc DT.out)
            have HBS := Lib.hid hbs
            have HM1 := Lib.hid hm1
            have HM2 := Lib.hid hm2
            have hbn : b < n := hbs.lt
            have hcb : c ≤ b := hbs.ge
            have HK2 := Lib.hid (HK.out.trans HKQ.out)
            clear hbst HBT hm1 hm2 hbs HKQ hct ht hltt
            have y1 := HM.out.weak.head hbn
            have y2 := HM.out.weak.head hltc
            have y3 := HM.out.weak.topFree b
            have y4 := HM.out.weak.topFree c
            have y5 : (wr.setCell ⟨g, b, none⟩ (.slice (some ⟨G c, 0, none⟩) n (C c))).cell? ⟨g, c, none⟩ = some (.slice (some ⟨G c, 0, none⟩) n (C c)) := by
              by_cases e : c = b
              · subst e; exact World.cell?_setCell_same' _ _ _ (by rw [y2]; rfl)
              · have hne : (⟨g, b, none⟩ : Addr) ≠ ⟨g, c, none⟩ := fun e' => e (by cases e'; rfl)
                rw [World.cell?_setCell_other (w := wr) (v := .slice (some ⟨G c, 0, none⟩) n (C c)) (h := hne)]; exact y2
            have y6 : (wr.setCell ⟨g, b, none⟩ (.slice (some ⟨G c, 0, none⟩) n (C c))).frozen? ⟨g, c, none⟩ = false := (HM.out.weak.set hbn (HM.out.weak.row c hltc)).topFree c
            obtain ⟨G', hG'⟩ : ∃ G' : Nat → Nat, G' = fun r => if r = c then G b else if r = b then G c else G r := ⟨_, rfl⟩
            obtain ⟨C', hC'⟩ : ∃ C' : Nat → Nat, C' = fun r => if r = c then C b else if r = b then C c else C r := ⟨_, rfl⟩
            have sw := HM.out.swap hbn hltc
            rw [← hG', ← hC'] at sw
            obtain ⟨h2, hh2⟩ : ∃ h2, h2 = Zx.swr b c h := ⟨_, rfl⟩
            have SW := Lib.hid (show OwnM ((wr.setCell ⟨g, b, none⟩ (.slice (some ⟨G c, 0, none⟩) n (C c))).setCell ⟨g, c, none⟩ (.slice (some ⟨G b, 0, none⟩) n (C b))) w.heap.size (.slice (some ⟨g, 0, none⟩) n cap) G' C' (Mx.tab n n h2) by rw [hh2]; exact sw)
            have HKW := Lib.hid (show Kp w ((wr.setCell ⟨g, b, none⟩ (.slice (some ⟨G c, 0, none⟩) n (C c))).setCell ⟨g, c, none⟩ (.slice (some ⟨G b, 0, none⟩) n (C b))) from (HK2.out.put (p := ⟨g, b, none⟩) hBg _).put (p := ⟨g, c, none⟩) hBg _)
            have HH := Lib.hid hh2
            have HGC := Lib.hid (show G' c = G b by rw [hG']; exact if_pos rfl)
            clear hG' hC' sw hh2 HM
            by_cases hm : m = 1
            · as_aux_lemma =>
              have em : ((m : Int) == 1) = true := by rw [beq_iff_eq]; omega
              have HZ := Lib.hid (HM1.out hm)
              clear hm
              have HB2 := Lib.hid (show ∀ r j, c ≤ r → r < n → j < n → Zx.ab (h2 r j) ≤ Zx.dl (c + 1) from fun r j h1 h3 h4 => by
                obtain ⟨s0, e, hs⟩ := Zx.swr_row (b := b) (c := c) h r
                rw [HH.out, e]
                exact HB.out s0 j (by rcases hs with e | e | e <;> omega) (by rcases hs with e | e | e <;> omega) h4)
              have NZ := Lib.hid (show h2 c c ≠ 0 by rw [HH.out, Zx.swr_c]; exact HBS.out.ne)
              have NX := Lib.hid (show ∀ k, (0 < h2 c c ∧ k = h2) ∨ (h2 c c < 0 ∧ k = Zx.setr c (fun j => -(h2 c j)) h2) → Zx.Dm n (c + 1) x k from fun k hk => by
                rw [HH.out] at hk
                exact HF.out.next hltc n3 HD.out HJ.out HBS.out HZ.out hk)
              have z2 := SW.out.weak.el hltc hltc
              rw [HGC.out] at z2
              by_cases hneg : h2 c c < 0
              · have hd : decide (h2 c c < 0) = true := decide_eq_true hneg
                have DN := Lib.hid (NX.out _ (.inr ⟨hneg, rfl⟩))
                obtain ⟨y, hy⟩ : ∃ y : Nat → Int, y = fun j => -(h2 c j) := ⟨_, rfl⟩
                rw [← hy] at DN
                have BD := Lib.hid (show ∀ j, j < n → Zx.ab (h2 c j) ≤ 2000000000000000 from fun j hj => by
                  have a := HB2.out c j (Nat.le_refl c) hltc hj
                  have b := DL.out.1
                  have e := (Zx.dl_up (c + 1)).2.2
                  omega)
                have YA := Lib.hid (show ∀ j, y j = -(h2 c j) by rw [hy]; exact fun _ => rfl)
                generalize hv : h2 c c = v at z2 hd
                clear hv hneg hy
                go_wp2_with fail
                go_loopw [13] (fun i wq => ∃ j : Nat, j ≤ n ∧ i = .int .i64 (j : Int) ∧ OwnM wq w.heap.size (.slice (some ⟨g, 0, none⟩) n cap) G' C' (Mx.tab n n fun r s => if r = c ∧ s < j then y s else h2 r s) ∧ Kp w wq) (fun i _ => n - (intOf i).toNat)
                case atStart => exact ⟨0, Nat.zero_le _, rfl, SW.out.ext (fun r s _ _ => by rw [if_neg (by omega)]), HKW.out⟩
                case round =>
                  obtain ⟨j, hj, rfl, ho, hkp⟩ := hrel
                  have HQ := Lib.hid ho
                  have HKQ := Lib.hid hkp
                  clear ho hkp
                  by_cases hltj : j < n
                  · have y1 := HQ.out.weak.head (hltc)
                    have y2 := HQ.out.weak.el (hltc) hltj
                    have y3 := HQ.out.weak.free (hltc) j
                    rw [if_neg (by omega)] at y2
                    have bb := BD.out j hltj
                    obtain ⟨z, hz⟩ : ∃ z, z = y j := ⟨_, rfl⟩
                    have HP := Lib.hid ((HQ.out.put (hltc) j z).ext fun r s _ _ => row_more (y := y) (k := h2) hz r s)
                    have hsz : w.heap.size ≤ G' c := (HQ.out.weak.lt (hltc)).1
                    have HK2 := Lib.hid ((HKQ.out.drewN 1).put (p := ⟨G' c, j, none⟩) hsz (.int .i64 z))
                    have hzv : z = -(h2 c j) := by rw [hz]; exact YA.out j
                    have hwn : IntKind.i64.wrap (-(h2 c j)) = z := by rw [hzv]; exact IntWalk.i64_in _ (by unfold Zx.ab at bb; omega)
                    generalize h2 c j = xi at *
                    clear hz hzv bb hsz
                    go_wp2_with fail
                    go_still_tail 14, (by kernel_rfl)
                    change wpList _ _ _ _ _ wr.drew
                    go_wp2_with fail
                    go_roundw
                    case rel => exact ⟨j + 1, by omega, by go_num, HP.out.kp ((Kp.rfl' _).drewN 1), HK2.out⟩
                    case measure => simp [intOf]; omega
                  · obtain rfl : n = j := by omega
                    have HE := Lib.hid (HQ.out.ext (f' := Zx.setr c y h2) fun r s _ hs => row_all r s hs)
                    go_wp2_with fail
                    go_roundw
                    case rel => exact ⟨c + 1, G', C', _, by omega, by go_num, HE.out, DN.out, HKQ.out⟩
                    case measure => simp [intOf]; omega
              · have hd : decide (h2 c c < 0) = false := decide_eq_false hneg
                have DN := Lib.hid (NX.out h2 (.inl ⟨by have := NZ.out; omega, rfl⟩))
                generalize hv : h2 c c = v at z2 hd
                clear hv hneg
                go_wp2_with fail
                go_roundw
                case rel => exact ⟨c + 1, G', C', h2, by omega, by go_num, SW.out, DN.out, HKW.out⟩
                case measure => simp [intOf]; omega
            · as_aux_lemma =>
              have em : ((m : Int) == 1) = false := by rw [beq_eq_false_iff_ne]; omega
              have HZ := Lib.hid (HM2.out hm)
              clear hm
              have STP := Lib.hid (show Zx.Jb n c f (Zx.ab (h b c)) (Zx.psr c n h2) ∧ ∀ r j, c < r → r < n → j < n → Zx.ab ((h2 r c).tdiv (h2 c c) * h2 c j) ≤ Zx.dl (c + 1) by
                obtain ⟨s0, s1, s2, s3, s4⟩ := HZ.out
                rw [HH.out]; exact HJ.out.step HD.out n3 hltc HBS.out s1 s2 s3 s4)
              have DP2 := Lib.hid (show Zx.Dp n c f (Zx.psr c n h2) (Zx.ab (h b c)) by rw [HH.out]; exact HD.out.step hltc HBS.out)
              have PLT := Lib.hid (show (Zx.ab (h b c)).toNat < p.toNat by
                obtain ⟨s0, s1, s2, s3, s4⟩ := HZ.out
                have := HD.out.less HBS.out s1 s2 s3 s4
                have := Zx.ab_pos (h b c)
                omega)
              have HB2 := Lib.hid (show ∀ r j, c ≤ r → r < n → j < n → Zx.ab (h2 r j) ≤ Zx.dl (c + 1) from fun r j h1 h3 h4 => by
                obtain ⟨s0, e, hs⟩ := Zx.swr_row (b := b) (c := c) h r
                rw [HH.out, e]
                exact HB.out s0 j (by rcases hs with e | e | e <;> omega) (by rcases hs with e | e | e <;> omega) h4)
              have NZ := Lib.hid (show h2 c c ≠ 0 by rw [HH.out, Zx.swr_c]; exact HBS.out.ne)
              go_wp2_with fail
              obtain ⟨wz, hwz⟩ : ∃ z, z = (wr.setCell ⟨g, b, none⟩ (.slice (some ⟨G c, 0, none⟩) n (C c))).setCell ⟨g, c, none⟩ (.slice (some ⟨G b, 0, none⟩) n (C b)) := ⟨_, rfl⟩
              rw [← hwz] at SW HKW ⊢
              clear hwz y1 y2 y3 y4 y5 y6
              go_loopw [10] (fun i wq => ∃ t : Nat, c + 1 ≤ t ∧ t ≤ n ∧ i = .int .i64 (t : Int) ∧ OwnM wq w.heap.size (.slice (some ⟨g, 0, none⟩) n cap) G' C' (Mx.tab n n (Zx.psr c t h2)) ∧ Kp w wq) (fun i _ => n - (intOf i).toNat)
              case atStart => exact ⟨c + 1, Nat.le_refl _, by omega, by go_num, by rw [Zx.psr_none c (c + 1) h2 (Nat.le_refl _)]; exact SW.out, HKW.out⟩
              case round =>
                clear SW HKW
                obtain ⟨t, ht1, ht2, rfl, ho, hkp⟩ := hrel
                have HM3 := Lib.hid ho
                have HK3 := Lib.hid hkp
                clear ho hkp
                by_cases hltt : t < n
                · obtain ⟨k0, hk0⟩ : ∃ k0, k0 = Zx.psr c t h2 := ⟨_, rfl⟩
                  have ec : k0 c = h2 c := by rw [hk0, Zx.psr_low c h2 t (by omega)]
                  have et : k0 t = h2 t := by rw [hk0, Zx.psr_low c h2 t (by omega)]
                  rw [← hk0] at HM3
                  have htc : t ≠ c := by omega
                  obtain ⟨q, hq⟩ : ∃ q, q = (k0 t c).tdiv (k0 c c) := ⟨_, rfl⟩
                  have BD := Lib.hid (show ∀ j, j < n → Zx.ab (k0 t j) ≤ 2000000000000000 ∧ Zx.ab (q * k0 c j) ≤ 2000000000000000 from fun j hj => by
                    have a := HB2.out t j (by omega) hltt hj
                    have b := STP.out.2 t j (by omega) hltt hj
                    have e := (Zx.dl_up (c + 1)).2.2
                    rw [hq, et, ec]
                    omega)
                  have NZ2 : k0 c c ≠ 0 := by rw [ec]; exact NZ.out
                  have e0 : (k0 c c == 0) = false := by rw [beq_eq_false_iff_ne]; exact NZ2
                  have hwq : IntKind.i64.wrap ((k0 t c).tdiv (k0 c c)) = q := by
                    rw [← hq]; refine IntWalk.i64_in _ ?_
                    have a := quot_le (k0 t c) (k0 c c)
                    rw [← hq] at a
                    have b := (BD.out c hltc).1
                    unfold Zx.ab at a b
                    omega
                  obtain ⟨y, hy⟩ : ∃ y : Nat → Int, y = fun j => k0 t j - q * k0 c j := ⟨_, rfl⟩
                  have YA := Lib.hid (show ∀ j, y j = k0 t j - q * k0 c j by rw [hy]; exact fun _ => rfl)
                  have HE2 := Lib.hid (show Zx.setr t y k0 = Zx.psr c (t + 1) h2 by rw [hy, hq, hk0]; exact Zx.psr_next h2 (by omega))
                  have y1 := HM3.out.weak.head hltt
                  have y2 := HM3.out.weak.el hltt hltc
                  have y3 := HM3.out.weak.head hltc
                  have y4 := HM3.out.weak.el hltc hltc
                  generalize hv1 : k0 t c = v1 at y2 hwq
                  generalize hv2 : k0 c c = v2 at y4 hwq e0 NZ2
                  clear hv1 hv2 hy hq hk0 ec et
                  go_wp2_with fail
                  go_quiet (fail)
                  go_wp2_with fail
                  clear y1 y2 y3 y4
                  go_loopw [12] (fun i wq => ∃ j : Nat, j ≤ n ∧ i = .int .i64 (j : Int) ∧ OwnM wq w.heap.size (.slice (some ⟨g, 0, none⟩) n cap) G' C' (Mx.tab n n fun r s => if r = t ∧ s < j then y s else k0 r s) ∧ Kp w wq) (fun i _ => n - (intOf i).toNat)
                  case atStart => exact ⟨0, Nat.zero_le _, rfl, (HM3.out.kp ((Kp.rfl' _).drewN _)).ext (fun r s _ _ => by rw [if_neg (by omega)]), HK3.out.drewN _⟩
                  case round =>
                    obtain ⟨j, hj, rfl, ho, hkp⟩ := hrel
                    have HQ := Lib.hid ho
                    have HKQ := Lib.hid hkp
                    clear ho hkp
                    by_cases hltj : j < n
                    · have y1 := HQ.out.weak.head (hltt)
                      have y2 := HQ.out.weak.el (hltt) hltj
                      have y3 := HQ.out.weak.free (hltt) j
                      rw [if_neg (by omega)] at y2
                      have y4 := HQ.out.weak.head (hltc)
                      have y5 := HQ.out.weak.el (hltc) hltj
                      rw [if_neg (by omega)] at y5
                      have bb := BD.out j hltj
                      obtain ⟨z, hz⟩ : ∃ z, z = y j := ⟨_, rfl⟩
                      have HP := Lib.hid ((HQ.out.put (hltt) j z).ext fun r s _ _ => row_more (y := y) (k := k0) hz r s)
                      have hsz : w.heap.size ≤ G' t := (HQ.out.weak.lt (hltt)).1
                      have HK2 := Lib.hid ((HKQ.out.drewN 1).put (p := ⟨G' t, j, none⟩) hsz (.int .i64 z))
                      have hzv : z = k0 t j - q * k0 c j := by rw [hz]; exact YA.out j
                      have hwm : IntKind.i64.wrap (q * k0 c j) = q * k0 c j := IntWalk.i64_in _ (by unfold Zx.ab at bb; omega)
                      have hwn : IntKind.i64.wrap (k0 t j - q * k0 c j) = z := by rw [hzv]; exact IntWalk.i64_in _ (by unfold Zx.ab at bb; omega)
                      generalize k0 t j = xi at *
                      generalize k0 c j = xj at *
                      clear hz hzv bb hsz
                      go_wp2_with fail
                      go_still_tail 23, (by kernel_rfl)
                      change wpList _ _ _ _ _ wr.drew
                      go_wp2_with fail
                      go_roundw
                      case rel => exact ⟨j + 1, by omega, by go_num, HP.out.kp ((Kp.rfl' _).drewN 1), HK2.out⟩
                      case measure => simp [intOf]; omega
                    · obtain rfl : n = j := by omega
                      have HE := Lib.hid (show OwnM wr w.heap.size (.slice (some ⟨g, 0, none⟩) n cap) G' C' (Mx.tab n n (Zx.psr c (t + 1) h2)) by rw [← HE2.out]; exact HQ.out.ext fun r s _ hs => row_all r s hs)
                      go_wp2_with fail
                      go_roundw
                      case rel => exact ⟨t + 1, by omega, by omega, by go_num, HE.out, HKQ.out⟩
                      case measure => simp [intOf]; omega
                · obtain rfl : n = t := by omega
                  go_wp2_with fail
                  go_roundg (Zx.ab (h b c)).toNat
                  case measure => rw [← HQP.out]; exact PLT.out
                  case rel => exact ⟨G', C', _, Zx.ab (h b c), HM3.out, DP2.out, STP.out.1, HK3.out, rfl⟩
    · obtain rfl : n = c := by omega
      as_aux_lemma =>
      have hwn2 : IntKind.i64.wrap ((n : Int) - 2) = (n : Int) - 2 := IntWalk.i64_in _ (by omega)
      go_wp2_with fail
      go_loopw [14] (fun i wr => ∃ (i' : Nat) (v : Int) (G C : Nat → Nat) (f : Nat → Nat → Int), i = .int .i64 v ∧ v = (i' : Int) - 1 ∧ i' + 1 ≤ n ∧ OwnM wr w.heap.size (.slice (some ⟨g, 0, none⟩) n cap) G C (Mx.tab n n f) ∧ Zx.Bk n i' x f ∧ Kp w wr) (fun i _ => (intOf i + 1).toNat)
      case atStart => exact ⟨n - 1, (n : Int) - 2, G, C, f, rfl, by omega, by omega, HO.out, HF.out.bk (by omega), HK.out⟩
      case round =>
        clear HO HF HK hwn2
        obtain ⟨i', v, G, C, f, rfl, hv, hi, ho, hf, hkp⟩ := hrel
        have HM := Lib.hid ho
        have HF := Lib.hid hf
        have HK := Lib.hid hkp
        clear ho hf hkp
        by_cases h0 : 0 ≤ v
        · obtain ⟨i0, rfl⟩ : ∃ i0 : Nat, v = (i0 : Int) := ⟨v.toNat, by omega⟩
          obtain rfl : i' = i0 + 1 := by omega
          have hin : i0 < n := by omega
          have B0 := Lib.hid (HF.out.bc hin)
          have hw3 : IntKind.i64.wrap ((i0 : Int) - 1) = (i0 : Int) - 1 := IntWalk.i64_in _ (by omega)
          clear HF h0 hv
          go_wp2_with fail
          go_loopw [15] (fun i wq => ∃ (c : Nat) (f : Nat → Nat → Int), i0 + 1 ≤ c ∧ c ≤ n ∧ i = .int .i64 (c : Int) ∧ OwnM wq w.heap.size (.slice (some ⟨g, 0, none⟩) n cap) G C (Mx.tab n n f) ∧ Zx.Bc n i0 c x f ∧ Kp w wq) (fun i _ => n - (intOf i).toNat)
          case atStart => exact ⟨i0 + 1, f, Nat.le_refl _, by omega, by go_num, HM.out, B0.out, HK.out⟩
          case round =>
            clear HM B0 HK
            obtain ⟨c, f, hc1, hc2, rfl, ho, hf, hkp⟩ := hrel
            have HM := Lib.hid ho
            have HF := Lib.hid hf
            have HK := Lib.hid hkp
            clear ho hf hkp
            by_cases hltc : c < n
            · as_aux_lemma =>
              have stp := HF.out.step n3 (by omega) hltc DM.out
              have B1 := Lib.hid stp.1
              have hp := stp.2.1
              have bic := (stp.2.2 c hltc).1
              obtain ⟨q, hq⟩ : ∃ q, q = f i0 c / f c c := ⟨_, rfl⟩
              have BD := Lib.hid (show ∀ j, j < n → Zx.ab (f i0 j) ≤ 2000000000000000 ∧ Zx.ab (q * f c j) ≤ 2000000000000000 from fun j hj => by
                have a := stp.2.2 j hj
                rw [hq]
                omega)
              have FL := Lib.hid (fun w => floorZ_any (f i0 c) (f c c) w hp.1 (by omega) (by unfold Zx.ab at bic; omega))
              rw [← hq] at FL
              obtain ⟨y, hy⟩ : ∃ y : Nat → Int, y = Zx.rdc c (f c) (f i0) := ⟨_, rfl⟩
              have YA := Lib.hid (show ∀ j, y j = f i0 j - q * f c j by rw [hy, hq]; exact fun _ => rfl)
              rw [← hy] at B1
              have y1 := HM.out.weak.head hin
              have y2 := HM.out.weak.el hin hltc
              have y3 := HM.out.weak.head hltc
              have y4 := HM.out.weak.el hltc hltc
              generalize hv1 : f i0 c = v1 at y2 FL
              generalize hv2 : f c c = v2 at y4 FL
              clear hv1 hv2 hy hq stp hp bic
              go_wp2_with fail
              go_quiet ((first
                | (with_reducible exact quiet_here (FL.out _))
                | (with_reducible exact quiet_more (FL.out _))))
              go_wp2_with fail
              clear y1 y2 y3 y4
              go_loopw [17] (fun i wq => ∃ j : Nat, j ≤ n ∧ i = .int .i64 (j : Int) ∧ OwnM wq w.heap.size (.slice (some ⟨g, 0, none⟩) n cap) G C (Mx.tab n n fun r s => if r = i0 ∧ s < j then y s else f r s) ∧ Kp w wq) (fun i _ => n - (intOf i).toNat)
              case atStart => exact ⟨0, Nat.zero_le _, rfl, (HM.out.kp ((Kp.rfl' _).drewN _)).ext (fun r s _ _ => by rw [if_neg (by omega)]), HK.out.drewN _⟩
              case round =>
                obtain ⟨j, hj, rfl, ho, hkp⟩ := hrel
                have HQ := Lib.hid ho
                have HKQ := Lib.hid hkp
                clear ho hkp
                by_cases hltj : j < n
                · have y1 := HQ.out.weak.head (hin)
                  have y2 := HQ.out.weak.el (hin) hltj
                  have y3 := HQ.out.weak.free (hin) j
                  rw [if_neg (by omega)] at y2
                  have y4 := HQ.out.weak.head (hltc)
                  have y5 := HQ.out.weak.el (hltc) hltj
                  rw [if_neg (by omega)] at y5
                  have bb := BD.out j hltj
                  obtain ⟨z, hz⟩ : ∃ z, z = y j := ⟨_, rfl⟩
                  have HP := Lib.hid ((HQ.out.put (hin) j z).ext fun r s _ _ => row_more (y := y) (k := f) hz r s)
                  have hsz : w.heap.size ≤ G i0 := (HQ.out.weak.lt (hin)).1
                  have HK2 := Lib.hid ((HKQ.out.drewN 1).put (p := ⟨G i0, j, none⟩) hsz (.int .i64 z))
                  have hzv : z = f i0 j - q * f c j := by rw [hz]; exact YA.out j
                  have hwm : IntKind.i64.wrap (q * f c j) = q * f c j := IntWalk.i64_in _ (by unfold Zx.ab at bb; omega)
                  have hwn : IntKind.i64.wrap (f i0 j - q * f c j) = z := by rw [hzv]; exact IntWalk.i64_in _ (by unfold Zx.ab at bb; omega)
                  generalize f i0 j = xi at *
                  generalize f c j = xj at *
                  clear hz hzv bb hsz
                  go_wp2_with fail
                  go_still_tail 23, (by kernel_rfl)
                  change wpList _ _ _ _ _ wr.drew
                  go_wp2_with fail
                  go_roundw
                  case rel => exact ⟨j + 1, by omega, by go_num, HP.out.kp ((Kp.rfl' _).drewN 1), HK2.out⟩
                  case measure => simp [intOf]; omega
                · obtain rfl : n = j := by omega
                  have HE := Lib.hid (HQ.out.ext (f' := Zx.setr i0 y f) fun r s _ hs => row_all r s hs)
                  go_wp2_with fail
                  go_roundw
                  case rel => exact ⟨c + 1, _, by omega, by omega, by go_num, HE.out, B1.out, HKQ.out⟩
                  case measure => simp [intOf]; omega
            · obtain rfl : n = c := by omega
              have B2 := Lib.hid HF.out.bk
              go_wp2_with fail
              go_roundw
              case rel => exact ⟨i0, (i0 : Int) - 1, G, C, f, rfl, rfl, by omega, HM.out, B2.out, HK.out⟩
              case measure => simp [intOf]
        · obtain rfl : i' = 0 := by omega
          have hd : decide (0 ≤ v) = false := decide_eq_false h0
          clear h0 hv
          go_wp2_with fail
          go_ret
          exact ⟨g, cap, G, C, f, HF.out.hnf, HF.out.eql, rfl, HM.out, HK.out⟩
end Go.Proofs.YteobamakmmoljaaDoor
