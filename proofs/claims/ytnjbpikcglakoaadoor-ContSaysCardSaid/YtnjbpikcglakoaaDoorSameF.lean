/- Contract of rankmeresame.Fracs: are two lists of fractions the same. -/
import Derived.Test.YtnjbpikcglakoaaDoorSame
import Derived.Test.YtnjbpikcglakoaaDoorContC
namespace Go.Proofs.YtnjbpikcglakoaaDoor
open Go.ChangeShapes Go.WideShapes Go.ChangeAt Go.RowKit
open Cont
set_option linter.unusedVariables false

theorem fracs_same (l m : List Fr) (h : l.length = m.length) (h2 : ∀ k, k < l.length → l.getD k (0, 0) = m.getD k (0, 0)) : l = m := by
  refine List.ext_getElem h fun k h3 h4 => ?_
  have := h2 k h3
  rwa [List.getD_eq_getElem?_getD, List.getD_eq_getElem?_getD, List.getElem?_eq_getElem h3, List.getElem?_eq_getElem h4] at this

set_option maxHeartbeats 800000 in
theorem fracs_any (A B : Option Addr) (l m : List Fr) (c d : Nat) (w : World) (ha : LiesF w A l) (hb : LiesF w B m) (hn : l.length ≤ 1000000) (hm : m.length ≤ 1000000) :
    Calls Tryd.prog 11 #[.slice A l.length c, .slice B m.length d] w fun e w' => Tells (l = m) e ∧ Kp w w' := by
  have HA := Lib.hid ha
  have HB := Lib.hid hb
  obtain ⟨n, hn'⟩ : ∃ n, n = l.length := ⟨_, rfl⟩
  obtain ⟨q, hq'⟩ : ∃ q, q = m.length := ⟨_, rfl⟩
  rw [← hn'] at hn ⊢
  rw [← hq'] at hm ⊢
  have HN := Lib.hid hn'
  have HQ := Lib.hid hq'
  clear ha hb hn' hq'
  by_cases he : n = q
  · subst he
    have hne : ((n : Int) != (n : Int)) = false := by simp
    go_enter Tryd.func11, Tryd.ntmps11
    go_wp2_with fail
    go_loopw [5] (fun i wr => ∃ k : Nat, k ≤ n ∧ i = .int .i64 (k : Int) ∧ (∀ j, j < k → l.getD j (0, 0) = m.getD j (0, 0)) ∧ Kp w wr) (fun i _ => n - (intOf i).toNat)
    case atStart => exact ⟨0, Nat.zero_le _, rfl, fun j hj => absurd hj (by omega), Kp.rfl' _⟩
    case round =>
      obtain ⟨k, hk, rfl, hg, hkp⟩ := hrel
      have HG := Lib.hid hg
      have HK := Lib.hid hkp
      clear hg hkp
      by_cases hlt : k < n
      · obtain ⟨ad, rfl, _, hc1, hc2⟩ := (HA.out.keep HK.out).at k (by have := HN.out; omega)
        obtain ⟨bd, rfl, _, hd1, hd2⟩ := (HB.out.keep HK.out).at k (by have := HQ.out; omega)
        obtain ⟨x, hx⟩ : ∃ x, x = l.getD k (0, 0) := ⟨_, rfl⟩
        obtain ⟨y, hy⟩ : ∃ y, y = m.getD k (0, 0) := ⟨_, rfl⟩
        rw [← hx] at hc1 hc2
        rw [← hy] at hd1 hd2
        have hc3 := pair_at hc2
        have hd3 := pair_at hd2
        rw [Nat.mul_comm] at hc1 hd1
        clear hc2 hd2
        by_cases hxy : x = y
        · have GG := Lib.hid (show ∀ j, j < k + 1 → l.getD j (0, 0) = m.getD j (0, 0) from fun j hj => by
            by_cases e : j = k
            · subst e; rw [← hx, ← hy]; exact hxy
            · exact HG.out j (by omega))
          clear hx hy
          subst hxy
          obtain ⟨x1, x2⟩ := x
          simp only [] at hc1 hc3 hd1 hd3
          go_wp2_with fail
          go_quiet (fail)
          go_wp2_with fail
          go_roundw
          case rel => exact ⟨k + 1, by omega, by go_num, GG.out, HK.out.drewN _⟩
          case measure => simp [intOf]; omega
        · have NF := Lib.hid (show ¬ l = m from fun e => hxy (by rw [hx, hy, e]))
          clear hx hy
          obtain ⟨x1, x2⟩ := x
          obtain ⟨y1, y2⟩ := y
          simp only [] at hc1 hc3 hd1 hd3
          by_cases h1 : x1 = y1
          · subst h1
            have hb : (x2 == y2) = false := by rw [beq_eq_false_iff_ne]; intro e; exact hxy (by rw [e])
            clear hxy
            go_wp2_with fail
            go_quiet (fail)
            go_wp2_with fail
            go_ret
            exact ⟨.inr ⟨NF.out, rfl⟩, HK.out.drewN _⟩
          · have hb : (x1 == y1) = false := by rw [beq_eq_false_iff_ne]; exact h1
            clear hxy h1
            go_wp2_with fail
            go_quiet (fail)
            go_wp2_with fail
            go_ret
            exact ⟨.inr ⟨NF.out, rfl⟩, HK.out.drewN _⟩
      · have YES := Lib.hid (show l = m from fracs_same l m (by rw [← HN.out, ← HQ.out]) fun j hj => HG.out j (by have := HN.out; omega))
        go_wp2_with fail
        go_ret
        exact ⟨.inl ⟨YES.out, rfl⟩, HK.out⟩
  · have hne : ((n : Int) != (q : Int)) = true := by rw [bne_iff_ne]; omega
    have NF := Lib.hid (show ¬ l = m from fun e => he (by rw [HN.out, HQ.out, e]))
    clear he
    go_enter Tryd.func11, Tryd.ntmps11
    go_wp2_with fail
    go_ret
    exact ⟨.inr ⟨NF.out, rfl⟩, Kp.rfl' _⟩

end Go.Proofs.YtnjbpikcglakoaaDoor
