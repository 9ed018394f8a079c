/- What hermite says of whatever comes in, and its closed fact. -/
import Derived.Test.YteobamakmmoljaaHmC6
import Derived.Test.YteobamakmmoljaaRowsG
import Derived.Test.YteobamakmmoljaaLawIn
namespace Go.Proofs.Yteobamakmmoljaa
open Go.ChangeShapes Go.WideShapes Go.ChangeAt Go.RowKit
set_option linter.unusedVariables false

/-- Rows have a form, or Form says an error. -/
theorem Form_or (A : Option Addr) (m : List (List Int)) (n d : Nat) (hn : m.length = n) :
    (∃ x, Hm n x m) ∨ ∀ (w : World), LiesM w A m → Calls Try.prog 7 #[.slice A n d] w fun e w' => ∃ z : Nat, e = .returned (.tuple #[.slice none 0 0, .iface 44 (.int .i64 (z : Int))]) ∧ Kp w w' := by
  rcases hm_or m hn with h | h
  · exact .inl h
  · exact .inr fun w ha => ((Form_no A m n d w ha hn h).mono fun e w' h' => ⟨hcd m, by rw [h'.1, errOf_ne _ h], h'.2⟩)
theorem n22_hm {a b c d : Int} (ha : -20 ≤ a ∧ a ≤ 20) (hb : -20 ≤ b ∧ b ≤ 20) (hc : -20 ≤ c ∧ c ≤ 20) (hd : -20 ≤ d ∧ d ≤ 20) (h : Zx.dt 2 (n22 a b c d) ≠ 0) : Hm 2 (n22 a b c d) (Mx.tab 2 2 (n22 a b c d)) :=
  ⟨⟨rfl, by decide, by decide, fun i j hi hj => by
    have h1 : i = 0 ∨ i = 1 := by omega
    have h2 : j = 0 ∨ j = 1 := by omega
    rcases h1 with rfl | rfl <;> rcases h2 with rfl | rfl <;> assumption⟩, h⟩
def c2 (a b : Int) : Nat → Int := fun i => if i = 0 then a else b
theorem lat22 {a b c d : Int} {x : Nat → Int} (p q : Int) (h0 : x 0 = p * a + q * c) (h1 : x 1 = p * b + q * d) : Zx.Lat 2 (n22 a b c d) x :=
  ⟨c2 p q, fun j hj => by
    have h2 : j = 0 ∨ j = 1 := by omega
    rcases h2 with rfl | rfl
    · rw [h0]; show p * a + q * c = (0 + p * a) + q * c; omega
    · rw [h1]; show p * b + q * d = (0 + p * b) + q * d; omega⟩
theorem in22 {a b c d : Int} {m : Nat → Nat → Int} (h0 : Zx.Lat 2 m (n22 a b c d 0)) (h1 : Zx.Lat 2 m (n22 a b c d 1)) : Zx.In 2 (n22 a b c d) m := fun i hi => by
  have h2 : i = 0 ∨ i = 1 := by omega
  rcases h2 with rfl | rfl
  · exact h0
  · exact h1
theorem hf_form {a : Nat → Nat → Int} (h1 : Zx.Hnf 2 a) (h2 : Zx.Eql 2 a (n22 4 1 6 2)) : Mx.tab 2 2 a = Mx.tab 2 2 (n22 2 0 0 1) := by
  have hb : Zx.Hnf 2 (n22 2 0 0 1) := by
    refine ⟨fun i j hi hj => ?_, fun i hi => ?_, fun i j hi hj => ?_⟩
    · rw [show i = 1 by omega, show j = 0 by omega]; rfl
    · have h2 : i = 0 ∨ i = 1 := by omega
      rcases h2 with rfl | rfl <;> decide
    · rw [show i = 0 by omega, show j = 1 by omega]; decide
  have e : Zx.Eql 2 (n22 2 0 0 1) (n22 4 1 6 2) :=
    ⟨in22 (lat22 2 (-1) (by decide) (by decide)) (lat22 (-3) 2 (by decide) (by decide)), in22 (lat22 2 1 (by decide) (by decide)) (lat22 3 2 (by decide) (by decide))⟩
  exact tab_eq.2 (h1.one hb (h2.trans e.symm))
theorem hf_yes : Zx.Lat 2 (n22 2 0 0 2) fun j => [(2 : Int), 4].getD j 0 := lat22 1 2 (by decide) (by decide)
theorem hf_no : ¬ Zx.Lat 2 (n22 2 0 0 2) fun j => [(2 : Int), 3].getD j 0 := fun ⟨c, h⟩ => by
  have h1 : (3 : Int) = (0 + c 0 * 0) + c 1 * 2 := h 1 (by decide)
  omega

theorem all2 {p q : Int} (hp : -100 ≤ p ∧ p ≤ 100) (hq : -100 ≤ q ∧ q ≤ 100) : AllIn [p, q] (-100) 100 := fun k hk => by
  have hk' : k < 2 := hk
  have h2 : k = 0 ∨ k = 1 := by omega
  rcases h2 with rfl | rfl
  · exact hp
  · exact hq
set_option maxRecDepth 100000 in
set_option maxHeartbeats 1600000 in
theorem hermiteFact_any (w : World) : Calls Try.prog 6 #[] w fun e w' => e = .returned (.bool true) ∧ Kp w w' := by
  have F1 := Lib.hid (Form_ok (n22_hm (a := 4) (b := 1) (c := 6) (d := 2) (by decide) (by decide) (by decide) (by decide) (by decide)) (some ⟨w.heap.size + 1 + 1, 0, none⟩) 2 (lit22 w w.heap.size 4 1 6 2) (lit22_lies w _ 4 1 6 2 rfl))
  have S2 := Lib.hid (n22_hm (a := 2) (b := 0) (c := 0) (d := 2) (by decide) (by decide) (by decide) (by decide) (by decide))
  go_enter Try.func6, Try.ntmps6
  go_wp2_with fail
  refine (F1.out).mono ?_; rintro e w1 ⟨g, cap, G, C, a, n1, l1, _, rfl, o1, _, k1⟩
  have LA := Lib.hid (show LiesM w1 (some ⟨g, 0, none⟩) (Mx.tab 2 2 (n22 2 0 0 1)) by rw [← hf_form n1 l1]; exact o1.liesM)
  have K1 := Lib.hid ((lit22_kp w w.heap.size 4 1 6 2).trans k1)
  clear k1 n1 l1 o1 F1
  have A0 : LiesM (lit22 w1 w1.heap.size 2 0 0 2) (some ⟨w1.heap.size + 1 + 1, 0, none⟩) (Mx.tab 2 2 (n22 2 0 0 2)) := lit22_lies w1 _ 2 0 0 2 rfl
  have H2 := Lib.hid (Has_ok S2.out (some ⟨w1.heap.size + 1 + 1, 0, none⟩) (some ⟨w1.heap.size + 1 + 1 + 1, 0, none⟩) [2, 4] 2 2 ((lit22 w1 w1.heap.size 2 0 0 2).alloc (.cells #[.int .i64 2, .int .i64 4] 3)) (A0.keep ((Kp.rfl' _).new _)) (lies_new' _ _ [2, 4] _ (lit22_size _ _ _ _ _ _).symm) rfl (all2 (by decide) (by decide)))
  clear A0
  go_wp2_with fail
  refine (H2.out).mono ?_; rintro e w2 ⟨b, hb, rfl, k2⟩
  obtain rfl := hb.2 hf_yes
  have K2 := Lib.hid (((lit22_kp w1 w1.heap.size 2 0 0 2).new (.cells #[.int .i64 2, .int .i64 4] 3)).trans k2)
  clear hb k2 H2
  have A0 : LiesM (lit22 w2 w2.heap.size 2 0 0 2) (some ⟨w2.heap.size + 1 + 1, 0, none⟩) (Mx.tab 2 2 (n22 2 0 0 2)) := lit22_lies w2 _ 2 0 0 2 rfl
  have H3 := Lib.hid (Has_ok S2.out (some ⟨w2.heap.size + 1 + 1, 0, none⟩) (some ⟨w2.heap.size + 1 + 1 + 1, 0, none⟩) [2, 3] 2 2 ((lit22 w2 w2.heap.size 2 0 0 2).alloc (.cells #[.int .i64 2, .int .i64 3] 3)) (A0.keep ((Kp.rfl' _).new _)) (lies_new' _ _ [2, 3] _ (lit22_size _ _ _ _ _ _).symm) rfl (all2 (by decide) (by decide)))
  clear A0
  go_wp2_with fail
  refine (H3.out).mono ?_; rintro e w3 ⟨b, hb, rfl, k3⟩
  obtain rfl : b = false := by
    cases b with
    | false => rfl
    | true => exact absurd (hb.1 rfl) hf_no
  have K3 := Lib.hid (((lit22_kp w2 w2.heap.size 2 0 0 2).new (.cells #[.int .i64 2, .int .i64 3] 3)).trans k3)
  clear hb k3 H3 S2
  go_wp2_with fail
  refine (rows_eq (some ⟨g, 0, none⟩) (some ⟨w3.heap.size + 1 + 1, 0, none⟩) (Mx.tab 2 2 (n22 2 0 0 1)) (Mx.tab 2 2 (n22 2 0 0 1)) 2 2 cap 2 _ (((LA.out.keep K2.out).keep K3.out).keep (lit22_kp w3 w3.heap.size 2 0 0 1)) (lit22_lies w3 _ 2 0 0 1 rfl) rfl rfl (modest_tab _ (by decide) (by decide)) (modest_tab _ (by decide) (by decide)) rfl).mono ?_
  rintro e w4 ⟨rfl, k4⟩
  have K4 := Lib.hid (((K1.out.trans K2.out).trans K3.out).trans ((lit22_kp w3 w3.heap.size 2 0 0 1).trans k4))
  clear k4
  go_wp2_with fail
  go_ret
  exact ⟨rfl, K4.out⟩
end Go.Proofs.Yteobamakmmoljaa
