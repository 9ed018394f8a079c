/- The law BareissMod. -/
import Derived.Test.YtlpeffddjppeeaaBaFact
import Derived.Test.YtlpeffddjppeeaaDeFact
import Derived.Test.YtlpeffddjppeeaaZRef
namespace Go.Proofs.Ytlpeffddjppeeaa
open Go.ChangeShapes Go.WideShapes Go.ChangeAt Go.RowKit
set_option linter.unusedVariables false

set_option maxRecDepth 100000 in
set_option maxHeartbeats 3200000 in
theorem walk_BareissMod (A : Option Addr) (m : List (List Int)) (c : Nat) (w : World) (ha : LiesM w A m) :
    Calls Try.prog 3 #[.slice A m.length c] w fun e w' => e = .returned (.bool true) ∧ Kp w w' := by
  obtain ⟨n, hn⟩ : ∃ n, n = m.length := ⟨_, rfl⟩
  rw [← hn]
  have HA := Lib.hid ha
  have FA := Lib.hid (bareissFact_any w)
  clear ha
  rcases BOf_or A m n c hn.symm with ⟨x, s⟩ | bad
  · have OA := Lib.hid (fun w h => BOf_ok A x m n c w h s)
    have n0 := s.n0
    have n5 := s.n5
    have IN := Lib.hid (fun w => law2In_any (Zx.dt n x) (-10000000) 10000000 w true (in_million s))
    have hdb := Zx.dt_bound s.n5 s.nine (Nat.le_refl n)
    have AB := Lib.hid s.ab
    have HX := Lib.hid (show LiesM w A (Mx.tab n n x) by rw [← s.eq]; exact HA.out)
    have MD := Lib.hid (fun w => rMod_any (Zx.dt n x) w (by omega) (by omega))
    have CO := Lib.hid (fun w1 (k : Kp w w1) => rCopyZ_any A x n n c w1 (HX.out.keep k) n0 (by omega) (by omega))
    have SF : Sh n n (fun i j => Fp.ofInt (x i j)) (Mx.matl n n fun i j => Fp.ofInt (x i j)) := ⟨rfl, n0, n5, n0, n5⟩
    have DO := Lib.hid (fun A d w h => Of_sh (A := A) SF d w h)
    rw [← Zx.dt_ofInt, Fp.ofInt_val] at DO
    obtain ⟨D, hD⟩ : ∃ D, D = Zx.dt n x := ⟨_, rfl⟩
    rw [← hD] at OA IN MD DO hdb
    obtain ⟨z, hz⟩ : ∃ z, z = D % 9973 := ⟨_, rfl⟩
    rw [← hz] at MD DO
    have e0 : (z == z) = true := by simp
    clear hn s hD SF hz
    go_enter Try.func3, Try.ntmps3
    go_wp2_with fail
    refine (FA.out).mono ?_; rintro e w1 ⟨rfl, k1⟩
    have K1 := Lib.hid k1; clear k1
    go_wp2_with fail
    refine (OA.out w1 (HA.out.keep K1.out)).mono ?_; rintro e w2 ⟨rfl, k2⟩
    have K2 := Lib.hid (K1.out.trans k2); clear k2
    go_wp2_with fail
    refine (CO.out _ K2.out).mono ?_; rintro e w3 ⟨v3, G, C, rfl, ho, k3⟩
    obtain ⟨g, gc, rfl, hg⟩ := ho.some (by rw [Mx.len_tab]; exact n0)
    rw [Mx.len_tab] at ho ⊢
    have HO := Lib.hid ho
    have HK3 := Lib.hid k3
    clear ho k3
    go_wp2_with fail
    go_loopw [7] (fun i wr => ∃ k : Nat, k ≤ n ∧ i = .int .i64 (k : Int) ∧ OwnM wr w2.heap.size (.slice (some ⟨g, 0, none⟩) n gc) G C (Mx.tab n n fun a b => if a < k then x a b % 9973 else x a b) ∧ Kp w2 wr) (fun i _ => n - (intOf i).toNat)
    case atStart => exact ⟨0, Nat.zero_le _, rfl, HO.out.ext (fun a b _ _ => by rw [if_neg (by omega)]), HK3.out⟩
    case round =>
      obtain ⟨k, hk, rfl, ho, hkp⟩ := hrel
      obtain ⟨wo, hwo⟩ : ∃ x, x = wr := ⟨_, rfl⟩
      subst hwo
      have HO1 := Lib.hid ho
      have HK1 := Lib.hid hkp
      clear ho hkp
      by_cases hlt : k < n
      · go_wp2_with fail
        go_loopw [8] (fun i wq => ∃ q : Nat, q ≤ n ∧ i = .int .i64 (q : Int) ∧ OwnM wq w2.heap.size (.slice (some ⟨g, 0, none⟩) n gc) G C (Mx.tab n n fun a b => if a < k ∨ (a = k ∧ b < q) then x a b % 9973 else x a b) ∧ Kp w2 wq) (fun i _ => n - (intOf i).toNat)
        case atStart => exact ⟨0, Nat.zero_le _, rfl, HO1.out.ext (fun a b _ _ => by
          by_cases e : a < k
          · rw [if_pos e, if_pos (.inl e)]
          · rw [if_neg e, if_neg (by omega)]), HK1.out⟩
        case round =>
          obtain ⟨q, hq, rfl, ho, hkq⟩ := hrel
          by_cases hlt2 : q < n
          · have y1 := ho.head (i := k) (by rw [Mx.len_tab]; exact hlt)
            have y2 := ho.el (i := k) (j := q) (by rw [Mx.len_tab]; exact hlt) (by rw [Mx.tab_len _ _ _ _ hlt]; exact hlt2)
            have y3 := ho.free (i := k) (by rw [Mx.len_tab]; exact hlt) q
            have y4 := (ho.lt (i := k) (by rw [Mx.len_tab]; exact hlt)).1
            rw [Mx.tab_len _ _ _ _ hlt] at y1
            rw [Mx.tab_el _ _ _ _ _ hlt hlt2, if_neg (by omega)] at y2
            have HO2 := Lib.hid ho
            have HK2 := Lib.hid hkq
            have v1 := AB.out k q hlt hlt2
            have M1 := Lib.hid (fun w => (rMod_any (x k q) w (by omega) (by omega)))
            obtain ⟨y, hy⟩ : ∃ y, y = x k q % 9973 := ⟨_, rfl⟩
            rw [← hy] at M1
            have HYY := Lib.hid hy
            obtain ⟨n1, hn1⟩ : ∃ n1, n1 = x k q := ⟨_, rfl⟩
            rw [← hn1] at M1 y2
            clear ho hkq v1 hy hn1
            go_wp2_with fail
            refine wp_region_still_tail 14 (by kernel_rfl) (by kernel_rfl) ?_
            simp only [List.take_succ_cons, List.take_zero, List.drop_succ_cons, List.drop_zero]
            repeat still_step
            still_call ((M1.out _).mono fun _ _ h => ⟨h.1, h.2.symm⟩)
            repeat still_step
            refine wpStill_nil ?_
            change wpList _ _ _ _ _ wr.drew
            go_wp2_with fail
            go_roundw
            case rel =>
              refine ⟨q + 1, by omega, by go_num, ((HO2.out.drewN 1).put hlt q y).ext (fun a b ha hb => ?_), (HK2.out.drewN 1).put (p := ⟨G k, q, none⟩) y4 _⟩
              by_cases e : a = k ∧ b = q
              · rw [if_pos e, if_pos (by omega), e.1, e.2]; exact HYY.out
              · rw [if_neg e]
                by_cases e2 : a < k ∨ (a = k ∧ b < q)
                · rw [if_pos e2, if_pos (by omega)]
                · rw [if_neg e2, if_neg (by omega)]
            case measure => simp [intOf]; omega
          · obtain rfl : q = n := by omega
            have HO2 := Lib.hid ho
            have HK2 := Lib.hid hkq
            clear ho hkq
            go_wp2_with fail
            go_roundw
            case rel =>
              refine ⟨k + 1, by omega, by go_num, HO2.out.ext (fun a b ha hb => ?_), HK2.out⟩
              by_cases e : a < k ∨ (a = k ∧ b < q)
              · rw [if_pos e, if_pos (by omega)]
              · rw [if_neg e, if_neg (by omega)]
            case measure => simp [intOf]; omega
      · obtain rfl : k = n := by omega
        have hl := HO1.out.ext (f' := fun a b => ((Fp.ofInt (x a b)).val : Int)) (fun a b ha _ => by rw [if_pos ha, Fp.ofInt_val])
        have L9 := Lib.hid (show LiesM wo (some ⟨g, 0, none⟩) (Mx.matl k k fun i j => Fp.ofInt (x i j)) from by
          obtain ⟨A9, d9, ev, hl9, _⟩ := hl.lies
          injection ev with e1 e2 e3
          rw [e1]
          exact hl9)
        have KK := Lib.hid (K2.out.trans HK1.out)
        clear hl
        go_wp2_with fail
        refine (DO.out (some ⟨g, 0, none⟩) gc wo L9.out).mono ?_; rintro e w4 ⟨rfl, k4⟩
        have K4 := Lib.hid (KK.out.trans k4); clear k4
        go_wp2_with fail
        refine (IN.out w4).mono ?_; rintro e w5 ⟨rfl, rfl⟩
        go_wp2_with fail
        refine (MD.out w4).mono ?_; rintro e w5 ⟨rfl, rfl⟩
        go_wp2_with fail
        go_ret
        exact ⟨ret_bool (by simp), K4.out⟩
  · have BAD := Lib.hid bad
    clear hn bad
    go_enter Try.func3, Try.ntmps3
    go_wp2_with fail
    refine (FA.out).mono ?_; rintro e w1 ⟨rfl, k1⟩
    have K1 := Lib.hid k1; clear k1
    go_wp2_with fail
    refine (BAD.out w1 (HA.out.keep K1.out)).mono ?_; rintro e w2 ⟨z, rfl, k2⟩
    have K2 := Lib.hid (K1.out.trans k2); clear k2
    go_wp2_with fail
    go_ret
    exact ⟨ret_bool (by simp), K2.out⟩

end Go.Proofs.Ytlpeffddjppeeaa
