/- Contract of the document's answer's Near. -/
import Derived.Test.YtnjbpikcglakoaaDoorContRef
namespace Go.Proofs.YtnjbpikcglakoaaDoor
open Go.ChangeShapes Go.WideShapes Go.ChangeAt Go.RowKit
open Cont
set_option linter.unusedVariables false

set_option maxRecDepth 100000 in
set_option maxHeartbeats 3200000 in
theorem refNear_more (A : Option Addr) (l : List Int) (c : Nat) (hc1 : ¬ c = 1) (w : World) (hl : Lies w A l) (h0 : 0 < l.length) (h30 : l.length ≤ 30) (hc : l.length ≤ c) :
    Calls Tryd.prog 9 #[.slice A l.length c] w fun e w' => RNearSays l w e w' := by
  have HL := Lib.hid hl
  have HI := Lib.hid (okT_iff l h0)
  obtain ⟨n, hn⟩ : ∃ n, n = l.length := ⟨_, rfl⟩
  obtain ⟨ad, rfl, hld, hc0⟩ := hl 0 h0
  have HDR := Lib.hid (lies_drop hl 1 (by omega))
  rw [← hn] at h0 h30 hc ⊢
  have HN := Lib.hid hn
  obtain ⟨x0, hx0⟩ : ∃ x, x = l.getD 0 0 := ⟨_, rfl⟩
  rw [← hx0] at hc0 HI
  have z1 : ((n : Int) == 0) = false := by rw [beq_eq_false_iff_ne]; omega
  have hneg : ¬ (30 : Int) < n := by omega
  have HBAD := Lib.hid (show ¬ OkT l → RNearSays l w (.returned (.tuple #[.slice none 0 0, .int .i64 1])) w from fun h => ⟨1, [], _, .inr (.inr (.inl ⟨by have := HN.out; omega, by have := HN.out; omega, h, rfl, rfl⟩)), rfl, OwnF.none _ _, Kp.rfl' _⟩)
  clear hl hn hx0
  have had : ad.add 0 = ad := rfl
  rw [had] at hc0
  clear had
  go_enter Tryd.func9, Tryd.ntmps9
  go_wp2_with fail
  by_cases hx : 0 ≤ x0 ∧ x0 ≤ 1000000
  · refine (refIn_yes x0 0 1000000 _ hx.1 hx.2).mono ?_; rintro e w' ⟨rfl, rfl⟩
    have HOKN := Lib.hid (fun h : ¬ AllIn (l.drop 1) 1 1000000 => HBAD.out (fun o => h (HI.out.1 o).2))
    have HOKY := Lib.hid (fun h : AllIn (l.drop 1) 1 1000000 => HI.out.2 ⟨hx, h⟩)
    have HALL := Lib.hid (show ∀ (A' : Option Addr) (cc : Nat), Lies w A' (l.drop 1) → Calls Tryd.prog 16 #[.slice A' (n - 1) cc, .int .i64 1, .int .i64 1000000] w (fun e w' => Tells (AllIn (l.drop 1) 1 1000000) e ∧ w = w') from fun A' cc h => by
      have := all_any A' (l.drop 1) cc 1 1000000 w h (by rw [HDR.out.1, ← HN.out]; omega)
      rwa [HDR.out.1, ← HN.out] at this)
    clear hx hc0
    go_wp2_with fail
    · refine (HALL.out _ _ ?_).mono ?_
      · exact HDR.out.2
      rintro e w' ⟨ht, rfl⟩
      rcases ht with ⟨hall, rfl⟩ | ⟨hall, rfl⟩
      · have HOK := Lib.hid (HOKY.out hall)
        clear hall HALL HOKN HOKY HBAD HI HDR
        go_wp2_with fail
        go_loopw [4, 5] (fun v i wr => ∃ j : Nat, j ≤ n ∧ i = .int .i64 (((j + 1 : Nat)) : Int) ∧ OwnF wr w.heap.size v (nearsUp l j) ∧ (∀ i, i < j → Sm (cv l i)) ∧ Kp w wr) (fun _ i _ => n + 1 - (intOf i).toNat)
        case atStart => exact ⟨0, Nat.zero_le _, rfl, OwnF.none _ _, fun i hi => absurd hi (by omega), Kp.rfl' _⟩
        case round =>
          obtain ⟨j, hj, rfl, hown, hsm, hkp⟩ := hrel
          have HO := Lib.hid hown
          have HS := Lib.hid hsm
          have HK := Lib.hid hkp
          clear hown hsm hkp
          by_cases hlt : j < n
          · have hpre := lies_pre (HL.out.keep HK.out) (j + 1) (by have := HN.out; omega)
            have HFR := Lib.hid (show Calls Tryd.prog 17 #[.slice (some ad) (j + 1) c] wr (fun e w' => e = .returned (frv (cv l j)) ∧ Kp wr w') from by
              have h := refFrac_any (some ad) (l.take (j + 1)) c wr hpre.2 (by rw [hpre.1]; omega) (by rw [hpre.1]; omega)
                (fun k hk => by
                  have := okT_take l HOK.out (j + 1) k hk
                  exact ⟨this.1, this.2.1⟩)
                (fun i hi => tail_le l HOK.out j (by have := HN.out; omega) HS.out i hi)
              rw [hpre.1, ← cv_frac] at h
              exact h)
            have hnx := next_le l HOK.out j (by have := HN.out; omega) HS.out
            have hge := cv_ge l HOK.out j (by have := HN.out; omega)
            have HSM := Lib.hid (show ¬ Sm (cv l j) → ∀ wz, Kp w wz → RNearSays l w (.returned (.tuple #[.slice none 0 0, .int .i64 4])) wz from fun ns wz hz =>
              ⟨4, [], _, .inr (.inr (.inr (.inl ⟨by have := HN.out; omega, by have := HN.out; omega, HOK.out, fun h => ns (h j (by have := HN.out; omega)), rfl, rfl⟩))), rfl, OwnF.none _ _, hz⟩)
            have HUP := Lib.hid (nearsUp_succ l j)
            have HS2 := Lib.hid (show Sm (cv l j) → ∀ i, i < j + 1 → Sm (cv l i) from fun hs i hi => by
              by_cases e : i = j
              · subst e; exact hs
              · exact HS.out i (by omega))
            obtain ⟨f, hf⟩ : ∃ f, f = cv l j := ⟨_, rfl⟩
            rw [← hf] at HFR HSM HUP HS2 hnx hge
            clear hf hpre
            obtain ⟨p, q⟩ := f
            unfold Sm at HSM HS2
            simp only [] at hnx hge HSM HS2
            obtain ⟨_, _, _, _, n5, n6⟩ := hnx
            obtain ⟨n7, n8⟩ := hge
            have hjc : (j : Int) + 1 ≤ (c : Int) := by omega
            go_wp2_with fail
            refine (HFR.out).mono ?_; rintro e w2 ⟨rfl, hk2⟩
            have HK2 := Lib.hid (HK.out.trans hk2)
            have HO2 := Lib.hid (HO.out.kp hk2)
            clear hk2
            by_cases s1 : 1000000 < p
            · have FIN := Lib.hid (HSM.out (fun h => by omega) _ (HK2.out.new (.cells #[.int .i64 p, .int .i64 q] 23)))
              go_wp2_with fail
              go_ret2
              exact FIN.out
            by_cases s2 : 1000000 < q
            · have FIN := Lib.hid (HSM.out (fun h => by omega) _ (HK2.out.new (.cells #[.int .i64 p, .int .i64 q] 23)))
              go_wp2_with fail
              go_ret2
              exact FIN.out
            have HS3 := Lib.hid (HS2.out ⟨by omega, by omega⟩)
            have hlen : (nearsUp l j).length + 1 ≤ 1000000000000 := by rw [nearsUp_len]; omega
            have hsz := HK2.out.size
            go_wp2_with (at_builtin; refine wpList_pushF rfl _ _ rfl w.heap.size _ (nearsUp l j) (p, q) _ 1 rfl rfl ((HO2.out.new _).new _) (by simp) (by simp) hlen (by simp; omega) ?_; intro v' w' h1 h2 _)
            have HO3 := Lib.hid h1
            have HK3 := Lib.hid (ownF_below ((HO2.out.new _).new _) (Nat.le_refl _) ((HK2.out.new _).new _) (by simp; omega) h2)
            clear h1 h2
            go_wp2_with fail
            go_roundw
            case rel => exact ⟨j + 1, by omega, by go_num, by rw [HUP.out]; exact HO3.out, HS3.out, HK3.out⟩
            case measure => simp [intOf]; omega
          · obtain rfl : j = n := by omega
            have FIN := Lib.hid (show ∀ v, OwnF wr w.heap.size v (nearsUp l j) → RNearSays l w (.returned (.tuple #[v, .int .i64 0])) wr from fun v hv =>
              ⟨0, _, v, .inr (.inr (.inr (.inr ⟨by have := HN.out; omega, by have := HN.out; omega, HOK.out, fun i hi => HS.out i (by have := HN.out; omega), rfl, rfl⟩))), rfl, by rw [← HN.out]; exact hv, HK.out⟩)
            go_wp2_with fail
            go_ret2
            exact FIN.out _ HO.out
      · have FIN := Lib.hid (HOKN.out hall)
        go_wp2_with fail
        go_ret2
        exact FIN.out
  · have FIN := Lib.hid (HBAD.out (fun h => hx (HI.out.1 h).1))
    refine (refIn_no x0 0 1000000 _ hx).mono ?_; rintro e w' ⟨rfl, rfl⟩
    go_wp2_with fail
    go_ret2
    exact FIN.out

end Go.Proofs.YtnjbpikcglakoaaDoor
