/- Contracts of package rankmeresame on lists (Turned), and of rankmereref1.in and All. -/
import Derived.Test.YtkebjmapdcbnaaaOwn
import Derived.Test.YtkebjmapdcbnaaaSmall
namespace Go.Proofs.Ytkebjmapdcbnaaa
open Go.ChangeShapes Go.WideShapes Go.ChangeAt Go.RowKit
set_option linter.unusedVariables false

/-- An answer true or false, as P says. -/
def Tells (P : Prop) (e : Ending) : Prop := (P ∧ e = .returned (.bool true)) ∨ (¬ P ∧ e = .returned (.bool false))
theorem tells_yes {P : Prop} {e : Ending} (h : Tells P e) (hp : P) : e = .returned (.bool true) := by rcases h with ⟨_, h⟩ | ⟨h, _⟩ <;> first | exact h | exact absurd hp h

theorem list_same (l m : List Int) (h : l.length = m.length) (h2 : ∀ k, k < l.length → l.getD k 0 = m.getD k 0) : l = m := by
  refine List.ext_getElem h fun k h3 h4 => ?_
  have := h2 k h3
  rwa [List.getD_eq_getElem?_getD, List.getD_eq_getElem?_getD, List.getElem?_eq_getElem h3, List.getElem?_eq_getElem h4] at this


theorem refIn_yes (n a b : Int) (w : World) (h1 : a ≤ n) (h2 : n ≤ b) :
    Calls Try.prog 34 #[.int .i64 n, .int .i64 a, .int .i64 b] w fun e w' => e = .returned (.bool true) ∧ w = w' := by
  go_enter Try.func34, Try.ntmps34
  go_wp2
  go_ret
  exact ⟨rfl, rfl⟩

theorem refIn_no (n a b : Int) (w : World) (h : ¬ (a ≤ n ∧ n ≤ b)) :
    Calls Try.prog 34 #[.int .i64 n, .int .i64 a, .int .i64 b] w fun e w' => e = .returned (.bool false) ∧ w = w' := by
  by_cases h1 : a ≤ n
  · have h2 : ¬ n ≤ b := by omega
    clear h
    go_enter Try.func34, Try.ntmps34
    go_wp2
    go_ret
    exact ⟨rfl, rfl⟩
  · clear h
    go_enter Try.func34, Try.ntmps34
    go_wp2
    go_ret
    exact ⟨rfl, rfl⟩

/-- Each number of the list lies from a to b. -/
def AllIn (l : List Int) (a b : Int) : Prop := ∀ k, k < l.length → a ≤ l.getD k 0 ∧ l.getD k 0 ≤ b

set_option maxHeartbeats 800000 in
theorem all_big (A : Option Addr) (l : List Int) (c : Nat) (a b : Int) (w : World) (hl : Lies w A l) (hn : l.length ≤ 9223372036854775807) :
    Calls Try.prog 33 #[.slice A l.length c, .int .i64 a, .int .i64 b] w fun e w' => Tells (AllIn l a b) e ∧ w = w' := by
  have HL := Lib.hid hl
  obtain ⟨n, hn'⟩ : ∃ n, n = l.length := ⟨_, rfl⟩
  rw [← hn'] at hn ⊢
  have HN := Lib.hid hn'
  clear hl hn'
  go_enter Try.func33, Try.ntmps33
  go_wp2_with fail
  go_loop [7] (fun i => ∃ k : Nat, k ≤ n ∧ i = .int .i64 (k : Int) ∧ ∀ j, j < k → a ≤ l.getD j 0 ∧ l.getD j 0 ≤ b) (fun i => n - (intOf i).toNat)
  case atStart => exact ⟨0, Nat.zero_le _, rfl, fun j hj => absurd hj (by omega)⟩
  case round =>
    obtain ⟨k, hk, rfl, hg⟩ := hrel
    have HG := Lib.hid hg
    clear hg
    by_cases hlt : k < n
    · obtain ⟨ad, rfl, _, hc⟩ := HL.out k (by have := HN.out; omega)
      obtain ⟨m, hm⟩ : ∃ m, m = l.getD k 0 := ⟨_, rfl⟩
      rw [← hm] at hc
      by_cases hin : a ≤ m ∧ m ≤ b
      · have GG := Lib.hid (show ∀ j, j < k + 1 → a ≤ l.getD j 0 ∧ l.getD j 0 ≤ b from fun j hj => by
          by_cases e : j = k
          · subst e; rw [← hm]; exact hin
          · exact HG.out j (by omega))
        clear hm
        go_wp2_with fail
        refine (refIn_yes m a b _ hin.1 hin.2).mono ?_; rintro e w' ⟨rfl, rfl⟩
        clear hin
        go_wp2_with fail
        go_round
        case rel => exact ⟨k + 1, by omega, by go_num, GG.out⟩
        case measure => simp [intOf]; omega
      · have NF := Lib.hid (show ¬ AllIn l a b from fun f => hin (by have := f k (by have := HN.out; omega); rw [hm]; exact this))
        have HI := Lib.hid hin
        clear hm hin
        go_wp2_with fail
        refine (refIn_no m a b _ HI.out).mono ?_; rintro e w' ⟨rfl, rfl⟩
        go_wp2_with fail
        go_ret
        exact ⟨.inr ⟨NF.out, rfl⟩, rfl⟩
    · have hF := Lib.hid (show AllIn l a b from fun j hj => HG.out j (by have := HN.out; omega))
      go_wp2_with fail
      go_ret
      exact ⟨.inl ⟨hF.out, rfl⟩, rfl⟩
theorem all_any (A : Option Addr) (l : List Int) (c : Nat) (a b : Int) (w : World) (hl : Lies w A l) (hn : l.length ≤ 1000000) :
    Calls Try.prog 33 #[.slice A l.length c, .int .i64 a, .int .i64 b] w fun e w' => Tells (AllIn l a b) e ∧ w = w' := all_big A l c a b w hl (by omega)



end Go.Proofs.Ytkebjmapdcbnaaa
