/- Contracts of the document's answer: whether a row is a sum of rows, by determinants, for numbers of any size whose sums fit. For all packages. -/
import Derived.Test.YtlnehhhlpdaebaaDoorZDetB
import Derived.Test.YtlnehhhlpdaebaaDoorSetH
import Derived.Test.YtlnehhhlpdaebaaDoorHmM
import Derived.Test.YtlnehhhlpdaebaaDoorSame
namespace Go.Proofs.YtlnehhhlpdaebaaDoor
open Go.ChangeShapes Go.WideShapes Go.ChangeAt Go.RowKit
set_option linter.unusedVariables false

theorem dvd_tmodB {a b : Int} : b ∣ a ↔ a.tmod b = 0 := ⟨fun h => Int.tmod_eq_zero_of_dvd h, fun h => Int.dvd_of_tmod_eq_zero h⟩
theorem ownM_sliceB {w : World} {B : Nat} {v : Value} {G C : Nat → Nat} {m : List (List Int)} {k : Nat} (h : OwnM w B v G C m) (hk : m.length = k) (h0 : 0 < k) : ∃ g cap, v = .slice (some ⟨g, 0, none⟩) k cap ∧ k ≤ cap := by
  rcases h.top.2 with ⟨_, e⟩ | ⟨g, cap, cur, rfl, _, _, hnc, _⟩
  · omega
  · exact ⟨g, cap, by rw [hk], by omega⟩
set_option maxRecDepth 100000 in
set_option maxHeartbeats 1600000 in
theorem rSumB_any {n : Nat} {f : Nat → Nat → Int} (M : Int) (hM : 1 ≤ M) (hMB : Zx.fb M n ≤ 1000000000000000000) (n0 : 0 < n) (n3 : n ≤ 100) (hf : ∀ i j, i < n → j < n → Zx.ab (f i j) ≤ M) (hne : Zx.dt n f ≠ 0) (A B : Option Addr) (y : Nat → Int) (c d : Nat) (w : World) (ha : LiesM w A (Mx.tab n n f)) (hb : Lies w B (Mx.row n y)) (hd : n ≤ d) (hy : ∀ j, j < n → Zx.ab (y j) ≤ M) :
    Calls Tryd.prog 12 #[.slice A n c, .slice B n d] w fun e w' => Tells (Zx.Lat n f y) e ∧ Kp w w' := by
  have HA := Lib.hid ha
  have HB := Lib.hid hb
  have HY := Lib.hid hy
  have HD := Lib.hid hd
  have DT := Lib.hid (rDetB_any n n3 M hM hMB A f c w hf ha)
  have MB := Lib.hid hMB
  have CP := Lib.hid (fun w' (k : Kp w w') => rCopyZ_any A f n n c w' (ha.keep k) n0 (by omega) (by omega))
  have AB := Lib.hid hf
  have LD := Lib.hid (show Zx.Lat n f y ↔ ∀ i, i < n → (Zx.dt n (Zx.setr i y f)).tmod (Zx.dt n f) = 0 by
    obtain ⟨p, rfl⟩ : ∃ p, n = p + 1 := ⟨n - 1, by omega⟩
    rw [Zx.lat_det hne]
    exact ⟨fun h i hi => dvd_tmodB.1 (h i hi), fun h i hi => dvd_tmodB.2 (h i hi)⟩)
  have hdb := Zx.dt_ab (by omega) n f hf
  have D0 : Zx.dt n f ≠ 0 := hne
  obtain ⟨D, hD⟩ : ∃ D, D = Zx.dt n f := ⟨_, rfl⟩
  rw [← hD] at DT LD D0
  have e0 : (D == 0) = false := by rw [beq_eq_false_iff_ne]; exact D0
  clear ha hb hy hd hD hf hne hMB hdb
  go_enter Tryd.func12, Tryd.ntmps12
  go_wp2_with fail
  refine (DT.out).mono ?_; rintro e w1 ⟨rfl, k1⟩
  have K1 := Lib.hid k1
  clear k1
  go_wp2_with fail
  go_loopw [6] (fun i wr => ∃ k : Nat, k ≤ n ∧ i = .int .i64 (k : Int) ∧ (∀ r, r < k → (Zx.dt n (Zx.setr r y f)).tmod D = 0) ∧ Kp w wr) (fun i _ => n - (intOf i).toNat)
  case atStart => exact ⟨0, Nat.zero_le _, rfl, fun r hr => absurd hr (by omega), K1.out⟩
  case round =>
    obtain ⟨k, hk, rfl, hz, hkp⟩ := hrel
    have HZ := Lib.hid hz
    have HK := Lib.hid hkp
    clear hz
    by_cases hlt : k < n
    · have C1 := Lib.hid (CP.out wr hkp)
      clear hkp
      go_wp2_with fail
      refine (C1.out).mono ?_; rintro e w2 ⟨v, G, C, rfl, o2, k2⟩
      obtain ⟨g, cap, rfl, hnc⟩ := ownM_sliceB o2 (Mx.len_tab _ _ _) n0
      have y1 := o2.weak.head hlt
      have y2 := o2.weak.topFree k
      have hg := o2.weak.topLe.1
      have la := o2.liesM.rowSet (i := k) (c1 := d) (by rw [Mx.len_tab]; exact hlt) ((HB.out.keep HK.out).keep k2) (by rw [Mx.len_row]; exact HD.out)
      rw [Mx.len_row, tab_setr] at la
      have K3 := Lib.hid ((HK.out.trans k2).put (p := ⟨g, k, none⟩) (Nat.le_trans HK.out.size hg) (.slice B n d))
      have DK := Lib.hid (rDetB_any n n3 M hM MB.out (some ⟨g, 0, none⟩) (Zx.setr k y f) cap _ (fun i j hi hj => by
        by_cases e : i = k
        · rw [e, Zx.setr_at]; exact HY.out j hj
        · rw [Zx.setr_ne e]; exact AB.out i j hi hj) la)
      have bdk := Zx.dt_ab (M := M) (by omega) n (Zx.setr k y f) (fun i j hi hj => by
        by_cases e : i = k
        · rw [e, Zx.setr_at]; exact HY.out j hj
        · rw [Zx.setr_ne e]; exact AB.out i j hi hj)
      have bdk2 := MB.out
      have HKZ := Lib.hid (HZ.out)
      have NO := Lib.hid (show (Zx.dt n (Zx.setr k y f)).tmod D ≠ 0 → ¬ Zx.Lat n f y from fun h h' => h (LD.out.1 h' k hlt))
      have YES := Lib.hid (show (Zx.dt n (Zx.setr k y f)).tmod D = 0 → ∀ r, r < k + 1 → (Zx.dt n (Zx.setr r y f)).tmod D = 0 from fun h r hr => by
        by_cases e : r = k
        · rw [e]; exact h
        · exact HZ.out r (by omega))
      obtain ⟨E, hE⟩ : ∃ E, E = Zx.dt n (Zx.setr k y f) := ⟨_, rfl⟩
      rw [← hE] at DK NO YES bdk
      obtain ⟨T, hT⟩ : ∃ T, T = E.tmod D := ⟨_, rfl⟩
      rw [← hT] at NO YES
      have hT2 : E.tmod D = T := hT.symm
      have hwT : IntKind.i64.wrap (E.tmod D) = T := by
        rw [← hT]; refine IntWalk.i64_in _ ?_
        have a := Int.natAbs_tmod E D
        have b := Nat.mod_le E.natAbs D.natAbs
        unfold Zx.ab at bdk
        omega
      clear o2 k2 la hE hT bdk bdk2 hg
      go_wp2_with fail
      refine (DK.out).mono ?_; rintro e w3 ⟨rfl, k3⟩
      have K4 := Lib.hid (K3.out.trans k3)
      clear k3 y1 y2
      by_cases h0 : T = 0
      · have ST := Lib.hid (YES.out h0)
        have e1 : (T != 0) = false := by rw [h0]; rfl
        subst h0
        go_wp2_with fail
        go_roundw
        case rel => exact ⟨k + 1, by omega, by go_num, ST.out, K4.out⟩
        case measure => simp [intOf]; omega
      · have N := Lib.hid (NO.out h0)
        have e1 : (T != 0) = true := by rw [bne_iff_ne]; exact h0
        clear h0
        go_wp2_with fail
        go_ret
        exact ⟨.inr ⟨N.out, rfl⟩, K4.out⟩
    · obtain rfl : n = k := by omega
      have Y := Lib.hid (LD.out.2 HZ.out)
      clear hkp
      go_wp2_with fail
      go_ret
      exact ⟨.inl ⟨Y.out, rfl⟩, HK.out⟩
end Go.Proofs.YtlnehhhlpdaebaaDoor
