/- slices.Min and slices.Max of whole numbers. For all packages. -/
import Derived.Test.YtgfhmffkdhfoeaaDoorRowG
namespace Go.Proofs.YtgfhmffkdhfoeaaDoor
open Go.ChangeShapes Go.WideShapes Go.ChangeAt Go.RowKit
set_option linter.unusedVariables false

/-- The least of some numbers. -/
def Least (l : List Int) (k : Nat) (v : Int) : Prop := (∀ j, j < k → v ≤ l.getD j 0) ∧ ∃ j, j < k ∧ v = l.getD j 0
theorem Least.one (l : List Int) : Least l 1 (l.getD 0 0) := ⟨fun j hj => by
  obtain rfl : j = 0 := by omega
  exact Int.le_refl _, 0, by decide, rfl⟩
theorem Least.old {l : List Int} {k : Nat} {v : Int} (h : Least l k v) (h1 : v ≤ l.getD k 0) : Least l (k + 1) v :=
  ⟨fun j hj => by
    by_cases e : j = k
    · rw [e]; exact h1
    · exact h.1 j (by omega), by obtain ⟨j, hj, e⟩ := h.2; exact ⟨j, by omega, e⟩⟩
theorem Least.next {l : List Int} {k : Nat} {v : Int} (h : Least l k v) (h1 : l.getD k 0 ≤ v) : Least l (k + 1) (l.getD k 0) :=
  ⟨fun j hj => by
    by_cases e : j = k
    · rw [e]; exact Int.le_refl _
    · exact Int.le_trans h1 (h.1 j (by omega)), k, by omega, rfl⟩
set_option maxRecDepth 100000 in
set_option maxHeartbeats 800000 in
theorem smin_any (A : Option Addr) (l : List Int) (n d : Nat) (w : World) (ha : Lies w A l) (hn : l.length = n) (h0 : 1 ≤ n) (hb : n ≤ 1000) :
    Calls Tryd.prog 25 #[.slice A n d] w fun e w' => ∃ v, e = .returned (.int .i64 v) ∧ w = w' ∧ Least l n v := by
  have HA := Lib.hid ha
  have HN := Lib.hid hn
  obtain ⟨ad, rfl, _, hc0⟩ := ha 0 (by omega)
  have h00 : ¬ (n < 1) := by omega
  have h01 : 0 < n := by omega
  rw [add_zero'] at hc0
  have LO := Lib.hid (Least.one l)
  obtain ⟨x0, hx0⟩ : ∃ x, x = l.getD 0 0 := ⟨_, rfl⟩
  rw [← hx0] at hc0 LO
  clear ha hn hx0
  go_enter Tryd.func25, Tryd.ntmps25
  go_wp2_with fail
  go_loop [3, 4] (fun m i => ∃ (k : Nat) (v : Int), k ≤ n ∧ i = .int .i64 (k : Int) ∧ m = .int .i64 v ∧ Least l k v) (fun _ i => n - (intOf i).toNat)
  case atStart => exact ⟨1, x0, by omega, rfl, rfl, LO.out⟩
  case round =>
    obtain ⟨k, v, hk, rfl, rfl, hl⟩ := hrel
    have HL := Lib.hid hl
    clear hl
    by_cases hlt : k < n
    · obtain ⟨ad', e', _, hcx⟩ := HA.out k (by have := HN.out; omega)
      obtain rfl := Option.some.inj e'
      have h1 := Lib.hid (fun h => HL.out.old (k := k) h)
      have h2 := Lib.hid (fun h => HL.out.next (k := k) h)
      obtain ⟨x, hx⟩ : ∃ x, x = l.getD k 0 := ⟨_, rfl⟩
      rw [← hx] at hcx h1 h2
      clear hx
      by_cases hvx : v < x
      · go_wp2_with fail
        go_round
        case rel => exact ⟨k + 1, v, by omega, by go_num, rfl, h1.out (by omega)⟩
        case measure => simp [intOf]; omega
      · go_wp2_with fail
        go_round
        case rel => exact ⟨k + 1, x, by omega, by go_num, by rw [show (if x < v then x else v) = x by split <;> omega], h2.out (by omega)⟩
        case measure => simp [intOf]; omega
    · obtain rfl : k = n := by omega
      go_wp2_with fail
      go_ret
      exact ⟨v, rfl, rfl, HL.out⟩

/-- The largest of some numbers. -/
def Most (l : List Int) (k : Nat) (v : Int) : Prop := (∀ j, j < k → l.getD j 0 ≤ v) ∧ ∃ j, j < k ∧ v = l.getD j 0
theorem Most.one (l : List Int) : Most l 1 (l.getD 0 0) := ⟨fun j hj => by
  obtain rfl : j = 0 := by omega
  exact Int.le_refl _, 0, by decide, rfl⟩
theorem Most.old {l : List Int} {k : Nat} {v : Int} (h : Most l k v) (h1 : l.getD k 0 ≤ v) : Most l (k + 1) v :=
  ⟨fun j hj => by
    by_cases e : j = k
    · rw [e]; exact h1
    · exact h.1 j (by omega), by obtain ⟨j, hj, e⟩ := h.2; exact ⟨j, by omega, e⟩⟩
theorem Most.next {l : List Int} {k : Nat} {v : Int} (h : Most l k v) (h1 : v ≤ l.getD k 0) : Most l (k + 1) (l.getD k 0) :=
  ⟨fun j hj => by
    by_cases e : j = k
    · rw [e]; exact Int.le_refl _
    · exact Int.le_trans (h.1 j (by omega)) h1, k, by omega, rfl⟩
set_option maxRecDepth 100000 in
set_option maxHeartbeats 800000 in
theorem smax_any (A : Option Addr) (l : List Int) (n d : Nat) (w : World) (ha : Lies w A l) (hn : l.length = n) (h0 : 1 ≤ n) (hb : n ≤ 1000) :
    Calls Tryd.prog 26 #[.slice A n d] w fun e w' => ∃ v, e = .returned (.int .i64 v) ∧ w = w' ∧ Most l n v := by
  have HA := Lib.hid ha
  have HN := Lib.hid hn
  obtain ⟨ad, rfl, _, hc0⟩ := ha 0 (by omega)
  have h00 : ¬ (n < 1) := by omega
  have h01 : 0 < n := by omega
  rw [add_zero'] at hc0
  have LO := Lib.hid (Most.one l)
  obtain ⟨x0, hx0⟩ : ∃ x, x = l.getD 0 0 := ⟨_, rfl⟩
  rw [← hx0] at hc0 LO
  clear ha hn hx0
  go_enter Tryd.func26, Tryd.ntmps26
  go_wp2_with fail
  go_loop [3, 4] (fun m i => ∃ (k : Nat) (v : Int), k ≤ n ∧ i = .int .i64 (k : Int) ∧ m = .int .i64 v ∧ Most l k v) (fun _ i => n - (intOf i).toNat)
  case atStart => exact ⟨1, x0, by omega, rfl, rfl, LO.out⟩
  case round =>
    obtain ⟨k, v, hk, rfl, rfl, hl⟩ := hrel
    have HL := Lib.hid hl
    clear hl
    by_cases hlt : k < n
    · obtain ⟨ad', e', _, hcx⟩ := HA.out k (by have := HN.out; omega)
      obtain rfl := Option.some.inj e'
      have h1 := Lib.hid (fun h => HL.out.old (k := k) h)
      have h2 := Lib.hid (fun h => HL.out.next (k := k) h)
      obtain ⟨x, hx⟩ : ∃ x, x = l.getD k 0 := ⟨_, rfl⟩
      rw [← hx] at hcx h1 h2
      clear hx
      by_cases hvx : v < x
      · go_wp2_with fail
        go_round
        case rel => exact ⟨k + 1, x, by omega, by go_num, rfl, h2.out (by omega)⟩
        case measure => simp [intOf]; omega
      · go_wp2_with fail
        go_round
        case rel => exact ⟨k + 1, v, by omega, by go_num, rfl, h1.out (by omega)⟩
        case measure => simp [intOf]; omega
    · obtain rfl : k = n := by omega
      go_wp2_with fail
      go_ret
      exact ⟨v, rfl, rfl, HL.out⟩

end Go.Proofs.YtgfhmffkdhfoeaaDoor
