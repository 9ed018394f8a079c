/- Contracts of package gauss, third part: Steps, Rank. -/
import Derived.Test.YtldkamhknaflbaaGaC2
import Derived.Test.YtldkamhknaflbaaMtC1
namespace Go.Proofs.Ytldkamhknaflbaa
open Go.ChangeShapes Go.WideShapes Go.ChangeAt Go.RowKit
set_option linter.unusedVariables false

/-- The matrix in steps, and the columns of its pivots. -/
def GotSteps (r c : Nat) (f : Nat → Nat → Fp.F) (w : World) (e : Ending) (w' : World) : Prop :=
  ∃ b g A d A' d', Stair r c c f b g ∧ e = .returned (.tuple #[.slice A r d, .slice A' b.length d', .nilIface]) ∧ LiesM w' A (Mx.matl r c g) ∧ Lies w' A' (cols b) ∧ Kp w w'
/-- No matrix, no columns, an error. -/
def FailsSteps (c : Nat) (w : World) (e : Ending) (w' : World) : Prop := e = .returned (.tuple #[.slice none 0 0, .slice none 0 0, errOf c]) ∧ Kp w w'

set_option maxRecDepth 100000 in
set_option maxHeartbeats 1600000 in
theorem Steps_bad (A : Option Addr) (m : List (List Int)) (n d : Nat) (w : World) (ha : LiesM w A m) (hn : m.length = n) (h : Mx.mcode 5 0 9972 m ≠ 0) :
    Calls Try.prog 33 #[.slice A n d] w fun e w' => FailsSteps (Mx.mcode 5 0 9972 m) w e w' := by
  have C := Lib.hid (Check_any A m n d w ha hn)
  unfold FailsSteps
  rw [errOf_ne _ h] at C ⊢
  generalize Mx.mcode 5 0 9972 m = z at *
  clear ha hn h
  go_enter Try.func33, Try.ntmps33
  go_wp2_with fail
  refine (C.out).mono ?_; rintro e w' ⟨rfl, rfl⟩
  go_wp2_with fail
  go_ret3
  exact ⟨rfl, Kp.rfl' _⟩

set_option maxRecDepth 100000 in
set_option maxHeartbeats 6400000 in
theorem Steps_ok (A : Option Addr) (f : Nat → Nat → Fp.F) (r c d : Nat) (w : World) (ha : LiesM w A (Mx.matl r c f)) (hr0 : 0 < r) (hr : r ≤ 5) (hc0 : 0 < c) (hc : c ≤ 5) :
    Calls Try.prog 33 #[.slice A r d] w fun e w' => GotSteps r c f w e w' := by
  have CK := Lib.hid (Check_any A (Mx.matl r c f) r d w ha (Mx.len_matl _ _ _))
  rw [Mx.mcode_matl f hr0 hr hc0 hc, errOf_zero] at CK
  have CL := Lib.hid (clone_any A r c d f w (by omega) (by omega) ha)
  clear ha
  obtain ⟨i0, hi, hz0, hz1, hz2⟩ := info_parts int_info
  go_enter Try.func33, Try.ntmps33
  go_wp2_with fail
  refine (CK.out).mono ?_; rintro e w' ⟨rfl, rfl⟩
  go_wp2_with fail
  refine (CL.out).mono ?_; rintro e w1 ⟨G0, rfl, hg, hk⟩
  obtain ⟨g, hg'⟩ : ∃ g, g = w.heap.size := ⟨_, rfl⟩
  have hB : w.heap.size ≤ g := by omega
  rw [← hg'] at hg ⊢
  clear hg'
  have ho := hg.own (B := w.heap.size) hB (by omega) (by omega)
  have hcell := ho.weak.head hr0
  have HO := Lib.hid ho
  have HK := Lib.hid hk
  clear ho hk hg hB
  go_wp2_with fail
  go_loopw [7, 23] (fun u i wr => ∃ (k : Nat) (b : List Nat) (h : Nat → Nat → Fp.F) (G C : Nat → Nat), k ≤ c ∧ i = .int .i64 (k : Int) ∧ Stair r c k f b h ∧ MatRow wr w.heap.size g r G C r c (fun i j => ((h i j).val : Int)) u (cols b) ∧ Kp w wr) (fun _ i _ => c - (intOf i).toNat)
  case atStart => exact ⟨0, [], f, G0, _, Nat.zero_le _, rfl, Stair.start r c f, MatRow.start HO.out, HK.out⟩
  case round =>
    clear hcell
    obtain ⟨k, b, h, G, C, hk, rfl, hst, hmr, hkp⟩ := hrel
    obtain ⟨Au, du, rfl, hlu, _⟩ := hmr.row.cap
    obtain ⟨p, hp⟩ : ∃ p, p = b.length := ⟨_, rfl⟩
    have hpr : p ≤ r := by rw [hp]; exact hst.steps.le
    rw [len_cols, ← hp] at hmr ⊢
    have HM := Lib.hid hmr
    have HS := Lib.hid hst
    have HK := Lib.hid hkp
    have HL := Lib.hid hlu
    have HP := Lib.hid hp
    clear hmr hst hkp hlu hp
    by_cases hlt : k < c
    · have BE := Lib.hid (below_any (some ⟨g, 0, none⟩) (d := r) hpr hlt wr (by omega) (by omega) HM.out.mat.liesM)
      go_wp2_with fail
      refine (BE.out).mono ?_; rintro e w' ⟨a, hf, rfl, rfl⟩
      have HF := Lib.hid hf
      have ha1 : p ≤ a := hf.1
      have ha2 : a ≤ r := hf.2.1
      clear hf
      by_cases har : a = r
      · have e1 : ((a : Int) == (r : Int)) = true := by rw [har]; simp
        have HS2 := Lib.hid (HS.out.skip fun i h1 h2 => HF.out.2.2.1 i (by rw [HP.out]; exact h1) (by omega))
        clear har ha1 ha2
        go_wp2_with fail
        go_roundw
        case rel => exact ⟨k + 1, b, h, G, C, by omega, by go_num, HS2.out, HM.out, HK.out⟩
        case measure => simp [intOf]; omega
      · have e1 : ((a : Int) == (r : Int)) = false := by rw [beq_eq_false_iff_ne]; omega
        have har' : a < r := by omega
        have hpr' : p < r := by omega
        have h0 := HF.out.2.2.2 har'
        have y1 := HM.out.mat.weak.head har'
        have y2 := HM.out.mat.weak.head hpr'
        have y3 := HM.out.mat.weak.topFree a
        have y4 := HM.out.mat.weak.topFree p
        have y5 : (wr.setCell ⟨g, p, none⟩ (.slice (some ⟨G a, 0, none⟩) c (C a))).cell? ⟨g, a, none⟩ = some (.slice (some ⟨G a, 0, none⟩) c (C a)) := by
          by_cases e : a = p
          · subst e; exact World.cell?_setCell_same' _ _ _ (by rw [y1]; rfl)
          · have hne : (⟨g, p, none⟩ : Addr) ≠ ⟨g, a, none⟩ := fun e' => e (by cases e'; rfl)
            rw [World.cell?_setCell_other (w := wr) (v := .slice (some ⟨G a, 0, none⟩) c (C a)) (h := hne)]; exact y1
        have y6 : (wr.setCell ⟨g, p, none⟩ (.slice (some ⟨G a, 0, none⟩) c (C a))).frozen? ⟨g, a, none⟩ = false := (HM.out.mat.weak.set hpr' (HM.out.mat.weak.row a har')).topFree a
        have hBg := HM.out.mat.weak.topLe.1
        obtain ⟨H, hH⟩ : ∃ H : Nat → Nat → Fp.F, H = fun i => if i = a then h p else if i = p then h a else h i := ⟨_, rfl⟩
        obtain ⟨G', hG'⟩ : ∃ G' : Nat → Nat, G' = fun i => if i = a then G p else if i = p then G a else G i := ⟨_, rfl⟩
        obtain ⟨C', hC'⟩ : ∃ C' : Nat → Nat, C' = fun i => if i = a then C p else if i = p then C a else C i := ⟨_, rfl⟩
        have SW := HM.out.swap hpr' har'
        rw [← hG', ← hC'] at SW
        have SW := Lib.hid (SW.ext (f' := fun i j => ((H i j).val : Int)) fun i j _ _ => by
          rw [hH]
          by_cases e1 : i = a
          · simp only [if_pos e1]
          · by_cases e2 : i = p
            · simp only [if_neg e1, if_pos e2]
            · simp only [if_neg e1, if_neg e2])
        have hHp : H p k = h a k := by
          rw [hH]
          show (if p = a then h p else if p = p then h a else h p) k = h a k
          by_cases e : p = a
          · rw [if_pos e, e]
          · rw [if_neg e, if_pos rfl]
        have CLN := Lib.hid (fun w' hh => clean_any (B := w.heap.size) (g := g) (cap := r) (G := G') (C := C') (f := H) hpr' hlt (by rw [hHp]; exact h0) w' (by omega) (by omega) hh)
        have HS2 := HS.out.next (a := a) (by rw [← HP.out]; exact ha1) har' h0
        rw [← HP.out, ← cln_nxt, ← hH] at HS2
        have HS2 := Lib.hid HS2
        have HK1 := Lib.hid (((HK.out.put (p := ⟨g, p, none⟩) hBg (.slice (some ⟨G a, 0, none⟩) c (C a))).put (p := ⟨g, a, none⟩) hBg (.slice (some ⟨G p, 0, none⟩) c (C p))).drewN 1)
        have HGL := Lib.hid (show ∀ i, i < r → w.heap.size ≤ G' i from fun i hi => (SW.out.mat.weak.lt hi).1)
        have HSN := Lib.hid (cols_snoc b k)
        have hlen : (cols b).length + 1 ≤ 17000000000000 := by rw [len_cols, ← HP.out]; omega
        clear har ha2 ha1 hH hG' hC' hHp h0 hBg HF
        go_wp2_with fail
        go_region_law (fail)
        all_goals
          go_wp2_with fail
          refine (CLN.out _ (SW.out.drewN 1).mat).mono ?_; rintro e w2 ⟨rfl, ho2, hon2⟩
          have HM2 := Lib.hid ((SW.out.drewN 1).only hon2 ho2)
          have HK2 := Lib.hid (show Kp w w2 from hon2.below HK1.out HK1.out.size HGL.out)
          clear ho2 hon2 y1 y2 y3 y4 y5 y6
          have hsz := HK2.out.size
          go_wp2_with (at_builtin; refine wpList_push rfl _ _ rfl w.heap.size _ (cols b) (k : Int) w2.heap.size 1 rfl rfl (HM2.out.row.new _) (by simp; done) hlen (Nat.le_trans hsz ((Kp.rfl' _).new _).size) ?_; intro v' w3 h1 h2 h3)
          have HM3 := Lib.hid ((HM2.out.kp ((Kp.rfl' _).new _)).push h1 h2 h3)
          have HK3 := Lib.hid (own_below (HM2.out.row.new _) (HK2.out.new _) (Nat.le_trans hsz ((Kp.rfl' _).new _).size) h2)
          clear h1 h2 h3
          go_wp2_with fail
          go_roundw
          case rel => exact ⟨k + 1, b ++ [k], cln H p k, G', C', by omega, by go_num, HS2.out, by rw [HSN.out]; exact HM3.out, HK3.out⟩
          case measure => simp [intOf]; omega
    · obtain rfl : k = c := by omega
      have HL2 := Lib.hid (HM.out.mat.liesM)
      go_wp2_with fail
      go_ret3
      exact ⟨b, h, some ⟨g, 0, none⟩, r, Au, du, HS.out, by rw [← HP.out]; rfl, HL2.out, HL.out, HK.out⟩

end Go.Proofs.Ytldkamhknaflbaa
