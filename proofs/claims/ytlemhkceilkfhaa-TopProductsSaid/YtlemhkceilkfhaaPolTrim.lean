/- Contract of the document's Trim on rows of factors: for all packages. -/
import Derived.Test.YtlemhkceilkfhaaPolC1
namespace Go.Proofs.Ytlemhkceilkfhaa
open Go.ChangeShapes Go.WideShapes Go.ChangeAt Go.RowKit
set_option linter.unusedVariables false

theorem rTrim_any (A : Option Addr) (p : List Fp.F) (c : Nat) (w : World) (hl : Lies w A (Pol.vals p)) (hc : p.length ≤ c) (hn : p.length ≤ 1000000) :
    Calls Try.prog 17 #[.slice A p.length c] w fun e w' => e = .returned (.slice A (Pol.trim p).length c) ∧ w = w' := by
  have HL := Lib.hid hl
  obtain ⟨n, hn'⟩ : ∃ n, n = p.length := ⟨_, rfl⟩
  rw [← hn'] at hn hc ⊢
  have HN := Lib.hid hn'
  clear hl hn'
  go_enter Try.func17, Try.ntmps17
  go_wp2_with fail
  go_loop [3] (fun v => ∃ k : Nat, k ≤ n ∧ v = .int .i64 (k : Int) ∧ Pol.trim (p.take k) = Pol.trim p) (fun v => (intOf v).toNat)
  case atStart => exact ⟨n, Nat.le_refl _, rfl, by rw [HN.out, List.take_length]⟩
  case round =>
    obtain ⟨k, hk, rfl, ht⟩ := hrel
    have HT := Lib.hid ht
    clear ht
    have kc : (k : Int) ≤ (c : Int) := by omega
    cases k with
    | zero =>
      have E := Lib.hid (show Pol.trim p = [] by rw [← HT.out]; rfl)
      go_wp2_with fail
      go_ret
      exact ⟨by rw [E.out]; rfl, rfl⟩
    | succ k =>
      obtain ⟨ad, rfl, _, hcell⟩ := HL.out k (by rw [Pol.len_vals, ← HN.out]; omega)
      rw [Pol.vals_at] at hcell
      by_cases h0 : Pol.co p k = 0
      · have e0 : (((Pol.co p k).val : Int) == 0) = true := by rw [h0]; rfl
        have ST := Lib.hid (trim_step0 p k (by have := HN.out; omega) h0)
        generalize ((Pol.co p k).val : Int) = m at *
        clear h0
        go_wp2_with fail
        go_round
        case rel => exact ⟨k, by omega, by go_num, by rw [← ST.out]; exact HT.out⟩
        case measure => simp [intOf]
      · have e0 : (((Pol.co p k).val : Int) == 0) = false := by rw [beq_eq_false_iff_ne]; intro e; exact h0 (Fp.val_inj e)
        have E := Lib.hid (show Pol.trim p = p.take (k + 1) by rw [← HT.out, Pol.take_succ p k (by have := HN.out; omega), Pol.trim_not _ _ h0])
        have E2 := Lib.hid (show (p.take (k + 1)).length = k + 1 by rw [List.length_take]; have := HN.out; omega)
        generalize ((Pol.co p k).val : Int) = m at *
        clear h0
        go_wp2_with fail
        go_ret
        exact ⟨by rw [E.out, E2.out]; rfl, rfl⟩

end Go.Proofs.Ytlemhkceilkfhaa
