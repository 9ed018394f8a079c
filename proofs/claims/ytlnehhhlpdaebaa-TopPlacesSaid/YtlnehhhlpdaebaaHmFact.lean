/- What hermite says of whatever comes in, and its closed fact. -/
import Derived.Test.YtlnehhhlpdaebaaHmC6
import Derived.Test.YtlnehhhlpdaebaaRowsG
namespace Go.Proofs.Ytlnehhhlpdaebaa
open Go.ChangeShapes Go.WideShapes Go.ChangeAt Go.RowKit
set_option linter.unusedVariables false

/-- Rows have a form, or Form says an error. -/
theorem Form_or (A : Option Addr) (m : List (List Int)) (n d : Nat) (hn : m.length = n) :
    (∃ x, Hm n x m) ∨ ∀ (w : World), LiesM w A m → Calls Try.prog 36 #[.slice A n d] w fun e w' => ∃ z : Nat, e = .returned (.tuple #[.slice none 0 0, .iface 51 (.int .i64 (z : Int))]) ∧ Kp w w' := by
  rcases hm_or m hn with h | h
  · exact .inl h
  · exact .inr fun w ha => ((Form_no A m n d w ha hn h).mono fun e w' h' => ⟨hcd m, by rw [h'.1, errOf_ne _ h], h'.2⟩)
theorem n22_hm {a b c d : Int} (ha : -20 ≤ a ∧ a ≤ 20) (hb : -20 ≤ b ∧ b ≤ 20) (hc : -20 ≤ c ∧ c ≤ 20) (hd : -20 ≤ d ∧ d ≤ 20) (h : Zx.dt 2 (n22 a b c d) ≠ 0) : Hm 2 (n22 a b c d) (Mx.tab 2 2 (n22 a b c d)) :=
  ⟨⟨rfl, by decide, by decide, fun i j hi hj => by
    have h1 : i = 0 ∨ i = 1 := by omega
    have h2 : j = 0 ∨ j = 1 := by omega
    rcases h1 with rfl | rfl <;> rcases h2 with rfl | rfl <;> assumption⟩, h⟩
def c2 (a b : Int) : Nat → Int := fun i => if i = 0 then a else b
theorem lat22 {a b c d : Int} {x : Nat → Int} (p q : Int) (h0 : x 0 = p * a + q * c) (h1 : x 1 = p * b + q * d) : Zx.Lat 2 (n22 a b c d) x :=
  ⟨c2 p q, fun j hj => by
    have h2 : j = 0 ∨ j = 1 := by omega
    rcases h2 with rfl | rfl
    · rw [h0]; show p * a + q * c = (0 + p * a) + q * c; omega
    · rw [h1]; show p * b + q * d = (0 + p * b) + q * d; omega⟩
theorem in22 {a b c d : Int} {m : Nat → Nat → Int} (h0 : Zx.Lat 2 m (n22 a b c d 0)) (h1 : Zx.Lat 2 m (n22 a b c d 1)) : Zx.In 2 (n22 a b c d) m := fun i hi => by
  have h2 : i = 0 ∨ i = 1 := by omega
  rcases h2 with rfl | rfl
  · exact h0
  · exact h1
theorem hf_form {a : Nat → Nat → Int} (h1 : Zx.Hnf 2 a) (h2 : Zx.Eql 2 a (n22 4 1 6 2)) : Mx.tab 2 2 a = Mx.tab 2 2 (n22 2 0 0 1) := by
  have hb : Zx.Hnf 2 (n22 2 0 0 1) := by
    refine ⟨fun i j hi hj => ?_, fun i hi => ?_, fun i j hi hj => ?_⟩
    · rw [show i = 1 by omega, show j = 0 by omega]; rfl
    · have h2 : i = 0 ∨ i = 1 := by omega
      rcases h2 with rfl | rfl <;> decide
    · rw [show i = 0 by omega, show j = 1 by omega]; decide
  have e : Zx.Eql 2 (n22 2 0 0 1) (n22 4 1 6 2) :=
    ⟨in22 (lat22 2 (-1) (by decide) (by decide)) (lat22 (-3) 2 (by decide) (by decide)), in22 (lat22 2 1 (by decide) (by decide)) (lat22 3 2 (by decide) (by decide))⟩
  exact tab_eq.2 (h1.one hb (h2.trans e.symm))
theorem hf_yes : Zx.Lat 2 (n22 2 0 0 2) fun j => [(2 : Int), 4].getD j 0 := lat22 1 2 (by decide) (by decide)
theorem hf_no : ¬ Zx.Lat 2 (n22 2 0 0 2) fun j => [(2 : Int), 3].getD j 0 := fun ⟨c, h⟩ => by
  have h1 : (3 : Int) = (0 + c 0 * 0) + c 1 * 2 := h 1 (by decide)
  omega

theorem all2 {p q : Int} (hp : -100 ≤ p ∧ p ≤ 100) (hq : -100 ≤ q ∧ q ≤ 100) : AllIn [p, q] (-100) 100 := fun k hk => by
  have hk' : k < 2 := hk
  have h2 : k = 0 ∨ k = 1 := by omega
  rcases h2 with rfl | rfl
  · exact hp
  · exact hq
end Go.Proofs.Ytlnehhhlpdaebaa
