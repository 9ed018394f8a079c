/- Contracts of package gauss, second part: clean. -/
import Derived.Test.YtldkamhknaflbaaGaC1
import Derived.Test.YtldkamhknaflbaaFld
import Derived.StillTailTactics
namespace Go.Proofs.Ytldkamhknaflbaa
open Go.ChangeShapes Go.WideShapes Go.ChangeAt Go.RowKit
set_option linter.unusedVariables false

set_option maxRecDepth 100000 in
set_option maxHeartbeats 3200000 in
theorem clean_any {B g cap : Nat} {G C : Nat → Nat} {r c : Nat} {f : Nat → Nat → Fp.F} {i j : Nat} (hi : i < r) (hj : j < c) (h0 : f i j ≠ 0) (w : World) (hr : r ≤ 1000) (hc : c ≤ 1000)
    (h : OwnM w B (.slice (some ⟨g, 0, none⟩) r cap) G C (Mx.matl r c f)) :
    Calls Try.prog 49 #[.slice (some ⟨g, 0, none⟩) r cap, .int .i64 (i : Int), .int .i64 (j : Int)] w fun e w' =>
      e = .returned .nilIface ∧ OwnM w' B (.slice (some ⟨g, 0, none⟩) r cap) G C (Mx.matl r c (cln f i j)) ∧ Only G r w w' := by
  have y1 := h.weak.head hi
  have y2 := h.weak.el hi hj
  have DV := Lib.hid (div_el 1 (f i j) w h0)
  have HO := Lib.hid h
  unfold el at DV
  rw [show (1 : Fp.F) * Fp.inv (f i j) = Fp.inv (f i j) by grind, show (((1 : Fp.F).val : Nat) : Int) = 1 from rfl] at DV
  obtain ⟨iv, hiv⟩ : ∃ iv, iv = ((Fp.inv (f i j)).val : Int) := ⟨_, rfl⟩
  rw [← hiv] at DV
  have HIV := Lib.hid hiv
  generalize ((f i j).val : Int) = pv at *
  clear h hiv
  go_enter Try.func49, Try.ntmps49
  go_wp2_with fail
  refine (DV.out).mono ?_; rintro e w1 ⟨rfl, hd⟩
  have HO1 := Lib.hid (HO.out.kp hd.kp)
  have HN1 := Lib.hid (Only.of (G := G) (r := r) hd.kp)
  have y3 := HO1.out.weak.head hi
  clear hd y1 y2
  go_wp2_with fail
  go_loopw [31] (fun u wr => ∃ k : Nat, k ≤ c ∧ u = .int .i64 (k : Int) ∧ OwnM wr B (.slice (some ⟨g, 0, none⟩) r cap) G C (Mx.tab r c fun p q => if p = i ∧ q < k then ((f i q * Fp.inv (f i j)).val : Int) else ((f p q).val : Int)) ∧ Only G r w wr) (fun u _ => c - (intOf u).toNat)
  case atStart => exact ⟨0, Nat.zero_le _, rfl, HO1.out.ext (fun p q _ _ => by rw [if_neg (by omega)]), HN1.out⟩
  case round =>
    obtain ⟨k, hk, rfl, ho, hon⟩ := hrel
    by_cases hlt : k < c
    · have z1 := ho.weak.head hi
      have z2 := ho.weak.el hi hlt
      have z3 := ho.weak.free hi k
      rw [if_neg (by omega)] at z2
      have HP := Lib.hid ho
      have HN := Lib.hid hon
      have hm := times_mod (f i k) (Fp.inv (f i j))
      have hb := times_bound (f i k) (Fp.inv (f i j))
      rw [← HIV.out] at hm hb
      obtain ⟨z, hz⟩ : ∃ z, z = ((f i k * Fp.inv (f i j)).val : Int) := ⟨_, rfl⟩
      rw [← hz] at hm
      have HZ := Lib.hid hz
      generalize ((f i k).val : Int) = v at *
      have hwm : IntKind.i64.wrap (v * iv) = v * iv := IntWalk.i64_in _ (by omega)
      clear ho hon hz hb y3
      go_wp2_with fail
      go_still_tail 16, (by kernel_rfl)
      change wpList _ _ _ _ _ wr.drew
      go_wp2_with fail
      go_roundw
      case rel =>
        refine ⟨k + 1, by omega, by go_num, ((HP.out.drewN 1).put hi k z).ext (fun p q hp hq => ?_), (HN.out.drewN 1).put hi k _⟩
        by_cases e : p = i ∧ q = k
        · rw [if_pos e, if_pos (by omega), HZ.out, e.2]
        · rw [if_neg e]
          by_cases e2 : p = i ∧ q < k
          · rw [if_pos e2, if_pos (by omega)]
          · rw [if_neg e2, if_neg (by omega)]
      case measure => simp [intOf]; omega
    · obtain rfl : k = c := by omega
      have HP := Lib.hid (ho.ext (f' := fun p q => ((clnTo f i j 0 p q).val : Int)) (fun p q hp hq => by
        unfold clnTo
        by_cases e : p = i
        · rw [if_pos ⟨e, hq⟩, if_pos e]
        · rw [if_neg (fun h => e h.1), if_neg e, if_neg (by omega)]))
      have HN := Lib.hid hon
      clear ho hon y3
      go_wp2_with fail
      go_loopw [53] (fun u wr => ∃ k' : Nat, k' ≤ r ∧ u = .int .i64 (k' : Int) ∧ OwnM wr B (.slice (some ⟨g, 0, none⟩) r cap) G C (Mx.matl r k (clnTo f i j k')) ∧ Only G r w wr) (fun u _ => r - (intOf u).toNat)
      case atStart => exact ⟨0, Nat.zero_le _, rfl, HP.out, HN.out⟩
      case round =>
        obtain ⟨t, ht, rfl, ho, hon⟩ := hrel
        obtain ⟨wo, hwo⟩ : ∃ x, x = wr := ⟨_, rfl⟩
        subst hwo
        by_cases hlt2 : t < r
        · have z1 := ho.weak.head hlt2
          have z2 := ho.weak.head hi
          by_cases hti : t = i
          · subst hti
            have e1 : ((t : Int) != (t : Int)) = false := by simp
            have HP := Lib.hid ho
            have HN := Lib.hid hon
            clear ho hon
            go_wp2_with fail
            go_roundw
            case rel => exact ⟨t + 1, by omega, by go_num, HP.out.ext (fun p q _ _ => by rw [clnTo_same]), HN.out⟩
            case measure => simp [intOf]; omega
          · have e1 : ((t : Int) != (i : Int)) = true := by rw [bne_iff_ne]; omega
            have z3 := ho.weak.el hlt2 hj
            rw [show clnTo f i j t t j = f t j by unfold clnTo; rw [if_neg hti, if_neg (by omega)]] at z3
            have SU := Lib.hid (fun w => subtract_any (B := B) (g := g) (cap := cap) (G := G) (C := C) hlt2 hi hti (f t j) w hc (f := clnTo f i j t))
            generalize ((f t j).val : Int) = v at *
            have HP := Lib.hid ho
            have HN := Lib.hid hon
            have HTI := Lib.hid hti
            clear ho hon hti
            go_wp2_with fail
            go_still_tail 9, (by kernel_rfl)
            change wpList _ _ _ _ _ wo.drew
            go_wp2_with fail
            refine (SU.out _ (HP.out.drewN 1)).mono ?_; rintro e w2 ⟨rfl, ho2, hon2⟩
            have HP2 := Lib.hid ho2
            have HN2 := Lib.hid ((HN.out.drewN 1).trans hon2)
            clear ho2 hon2
            go_wp2_with fail
            go_roundw
            case rel => exact ⟨t + 1, by omega, by go_num, HP2.out.ext (fun p q _ _ => by rw [clnTo_next f HTI.out]), HN2.out⟩
            case measure => simp [intOf]; omega
        · obtain rfl : t = r := by omega
          have HP := Lib.hid ho
          have HN := Lib.hid hon
          clear ho hon
          go_wp2_with fail
          go_ret
          refine ⟨rfl, HP.out.ext (fun p q hp hq => ?_), HN.out⟩
          unfold clnTo cln
          by_cases e : p = i
          · rw [if_pos e, if_pos e]
          · rw [if_neg e, if_neg e, if_pos hp]
end Go.Proofs.Ytldkamhknaflbaa
