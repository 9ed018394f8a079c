/- Contracts of slices.Index and slices.Contains at rows of integers: for all packages. -/
import Derived.Test.YtbdpcpodmmhjaaaSame
namespace Go.Proofs.Ytbdpcpodmmhjaaa
open Go.ChangeShapes Go.WideShapes Go.ChangeAt Go.RowKit
set_option linter.unusedVariables false

/-- A number occurs among the first. -/
def Occurs (l : List Int) (n : Nat) (v : Int) : Prop := ∃ j, j < n ∧ l.getD j 0 = v
/-- An index where it occurs, or -1. -/
def Idx (P : Prop) (e : Ending) : Prop := (P ∧ ∃ k : Nat, e = .returned (.int .i64 (k : Int))) ∨ (¬ P ∧ e = .returned (.int .i64 (-1)))


set_option maxHeartbeats 800000 in
theorem refHas_any (A : Option Addr) (l : List Int) (n c : Nat) (v : Int) (w : World) (hl : Lies w A l) (hn : n ≤ l.length) (ln : n ≤ 1000000) :
    Calls Try.prog 12 #[.slice A n c, .int .i64 v] w fun e w' => Tells (Occurs l n v) e ∧ w = w' := by
  have HL := Lib.hid hl
  have HN := Lib.hid hn
  clear hl hn
  go_enter Try.func12, Try.ntmps12
  go_wp2_with fail
  go_loop [5] (fun i => ∃ k : Nat, k ≤ n ∧ i = .int .i64 (k : Int) ∧ ∀ j, j < k → l.getD j 0 ≠ v) (fun i => n - (intOf i).toNat)
  case atStart => exact ⟨0, Nat.zero_le _, rfl, fun j hj => absurd hj (by omega)⟩
  case round =>
    obtain ⟨k, hk, rfl, hg⟩ := hrel
    have HG := Lib.hid hg
    clear hg
    by_cases hlt : k < n
    · obtain ⟨ad, rfl, _, hc⟩ := HL.out k (by have := HN.out; omega)
      obtain ⟨m, hm⟩ : ∃ m, m = l.getD k 0 := ⟨_, rfl⟩
      rw [← hm] at hc
      by_cases h0 : m = v
      · have F := Lib.hid (show Occurs l n v from ⟨k, hlt, by rw [← hm, h0]⟩)
        have e0 : (m == v) = true := by rw [h0]; exact beq_self_eq_true v
        clear hm h0
        go_wp2_with fail
        go_ret
        exact ⟨.inl ⟨F.out, rfl⟩, rfl⟩
      · have GG := Lib.hid (show ∀ j, j < k + 1 → l.getD j 0 ≠ v from fun j hj => by
          by_cases e : j = k
          · subst e; rw [← hm]; exact h0
          · exact HG.out j (by omega))
        have e0 : (m == v) = false := by rw [beq_eq_false_iff_ne]; exact h0
        clear hm h0
        go_wp2_with fail
        go_round
        case rel => exact ⟨k + 1, by omega, by go_num, GG.out⟩
        case measure => simp [intOf]; omega
    · have F := Lib.hid (show ¬ Occurs l n v from fun ⟨j, h1, h2⟩ => HG.out j (by omega) h2)
      go_wp2_with fail
      go_ret
      exact ⟨.inr ⟨F.out, rfl⟩, rfl⟩
end Go.Proofs.Ytbdpcpodmmhjaaa
