/- What bareiss says of whatever comes in; its closed fact; how great a number of ones is. -/
import Derived.Test.YtlpeffddjppeeaaBaC4
import Derived.Test.YtlpeffddjppeeaaRowsG
import Derived.Test.YtlpeffddjppeeaaLawIn
namespace Go.Proofs.Ytlpeffddjppeeaa
open Go.ChangeShapes Go.WideShapes Go.ChangeAt Go.RowKit
set_option linter.unusedVariables false

theorem BOf_or (A : Option Addr) (m : List (List Int)) (n d : Nat) (hn : m.length = n) :
    (∃ x, Shz n x m) ∨ ∀ (w : World), LiesM w A m → Calls Try.prog 7 #[.slice A n d] w fun e w' => ∃ z : Nat, e = .returned (.tuple #[.int .i64 0, .iface 46 (.int .i64 (z : Int))]) ∧ Kp w w' := by
  rcases shz_or m hn with h | h
  · exact .inl h
  · exact .inr fun w ha => ((BOf_bad A m n d w ha hn h).mono fun e w' h' => ⟨qcode 5 (-9) 9 m, by rw [h'.1, errOf_ne _ h], h'.2⟩)

theorem ba1_shz : Shz 2 (n22 0 2 (-3) 4) (Mx.tab 2 2 (n22 0 2 (-3) 4)) := ⟨rfl, by decide, by decide, fun i j hi hj => by
  have h1 : i = 0 ∨ i = 1 := by omega
  have h2 : j = 0 ∨ j = 1 := by omega
  rcases h1 with rfl | rfl <;> rcases h2 with rfl | rfl <;> decide⟩
theorem ba2_shz : Shz 2 (n22 2 1 1 2) (Mx.tab 2 2 (n22 2 1 1 2)) := ⟨rfl, by decide, by decide, fun i j hi hj => by
  have h1 : i = 0 ∨ i = 1 := by omega
  have h2 : j = 0 ∨ j = 1 := by omega
  rcases h1 with rfl | rfl <;> rcases h2 with rfl | rfl <;> decide⟩
theorem ba1_dt : Zx.dt 2 (n22 0 2 (-3) 4) = 6 := by decide +kernel
theorem ba2_leads : leads 2 (n22 2 1 1 2) = [2, 3] := by decide +kernel

set_option maxRecDepth 100000 in
set_option maxHeartbeats 1600000 in
theorem bareissFact_any (w : World) : Calls Try.prog 6 #[] w fun e w' => e = .returned (.bool true) ∧ Kp w w' := by
  have O1 := Lib.hid (BOf_ok (some ⟨w.heap.size + 1 + 1, 0, none⟩) _ _ 2 2 (lit22 w w.heap.size 0 2 (-3) 4) (lit22_lies w _ 0 2 (-3) 4 rfl) ba1_shz)
  rw [ba1_dt] at O1
  go_enter Try.func6, Try.ntmps6
  go_wp2_with fail
  refine (O1.out).mono ?_; rintro e w1 ⟨rfl, k1⟩
  have K1 := Lib.hid ((lit22_kp w w.heap.size 0 2 (-3) 4).trans k1)
  clear k1 O1
  go_wp2_with fail
  refine (Lead_ok (some ⟨w1.heap.size + 1 + 1, 0, none⟩) _ _ 2 2 (lit22 w1 w1.heap.size 2 1 1 2) (lit22_lies w1 _ 2 1 1 2 rfl) ba2_shz).mono ?_
  rintro e w2 ⟨g, rfl, hr, k2⟩
  rw [ba2_leads] at hr
  have HR := Lib.hid hr
  have K2 := Lib.hid (K1.out.trans ((lit22_kp w1 w1.heap.size 2 1 1 2).trans k2))
  clear k2 hr
  go_wp2_with fail
  refine (same_eq (some ⟨g, 0, none⟩) (some ⟨w2.heap.size, 0, none⟩) [2, 3] [2, 3] 2 2 2 2 _ (HR.out.lies.keep ((Kp.rfl' _).new _)) (lies_new w2 _ [2, 3]) rfl rfl (by decide) rfl).mono ?_
  rintro e w3 ⟨rfl, k3⟩
  have K3 := Lib.hid ((K2.out.new _).trans k3)
  clear k3
  go_wp2_with fail
  go_ret
  exact ⟨rfl, K3.out⟩

theorem in_million {n : Nat} {x : Nat → Nat → Int} {m : List (List Int)} (s : Shz n x m) : (decide ((-10000000 : Int) ≤ Zx.dt n x) && decide (Zx.dt n x ≤ 10000000)) = true := by
  have := Zx.dt_bound s.n5 s.nine (Nat.le_refl n)
  simp; omega

end Go.Proofs.Ytlpeffddjppeeaa
