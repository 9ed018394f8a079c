/- The closed fact of the laws on graphs; pairs as a literal. -/
import Derived.Test.YtgfhmffkdhfoeaaDoorTrC3
import Derived.Test.YtgfhmffkdhfoeaaDoorRowsG
import Derived.Test.YtgfhmffkdhfoeaaDoorLawIn
namespace Go.Proofs.YtgfhmffkdhfoeaaDoor
open Go.ChangeShapes Go.WideShapes Go.ChangeAt Go.RowKit
set_option linter.unusedVariables false

/-- Three pairs as a literal. -/
abbrev lit32 (w : World) (g : Nat) (a b c d e f : Int) : World :=
  (((w.alloc (.cells #[.int .i64 a, .int .i64 b] 3)).alloc (.cells #[.int .i64 c, .int .i64 d] 3)).alloc (.cells #[.int .i64 e, .int .i64 f] 3)).alloc (.cells #[.slice (some ⟨g, 0, none⟩) 2 2, .slice (some ⟨g + 1, 0, none⟩) 2 2, .slice (some ⟨g + 1 + 1, 0, none⟩) 2 2] 28)
theorem lit32_kp (w : World) (g : Nat) (a b c d e f : Int) : Kp w (lit32 w g a b c d e f) := ((((Kp.rfl' w).new _).new _).new _).new _
theorem lit32_lies (w : World) (g : Nat) (a b c d e f : Int) (h : g = w.heap.size) : LiesM (lit32 w g a b c d e f) (some ⟨g + 1 + 1 + 1, 0, none⟩) [[a, b], [c, d], [e, f]] := by
  subst h
  obtain ⟨o1, h1⟩ : ∃ o, o = Obj.cells #[.int .i64 a, .int .i64 b] 3 := ⟨_, rfl⟩
  obtain ⟨o2, h2⟩ : ∃ o, o = Obj.cells #[.int .i64 c, .int .i64 d] 3 := ⟨_, rfl⟩
  obtain ⟨o3, h3⟩ : ∃ o, o = Obj.cells #[.int .i64 e, .int .i64 f] 3 := ⟨_, rfl⟩
  have l1 : Lies (w.alloc o1) (some ⟨w.heap.size, 0, none⟩) [a, b] := by rw [h1]; exact lies_new' w _ [a, b] _ rfl
  have l2 : Lies ((w.alloc o1).alloc o2) (some ⟨w.heap.size + 1, 0, none⟩) [c, d] := by rw [h2]; exact lies_new' (w.alloc o1) _ [c, d] _ (by simp)
  have l3 : Lies (((w.alloc o1).alloc o2).alloc o3) (some ⟨w.heap.size + 1 + 1, 0, none⟩) [e, f] := by rw [h3]; exact lies_new' ((w.alloc o1).alloc o2) _ [e, f] _ (by simp)
  unfold lit32
  rw [← h1, ← h2, ← h3]
  intro k hk
  have hs : w.heap.size + 1 + 1 + 1 < ((((w.alloc o1).alloc o2).alloc o3).alloc (.cells #[.slice (some ⟨w.heap.size, 0, none⟩) 2 2, .slice (some ⟨w.heap.size + 1, 0, none⟩) 2 2, .slice (some ⟨w.heap.size + 1 + 1, 0, none⟩) 2 2] 28)).heap.size := by simp
  match k, hk with
  | 0, _ => exact ⟨_, some ⟨w.heap.size, 0, none⟩, 2, rfl, hs, by rw [add_at, cell_just _ _ _ _ _ (by simp)]; rfl, Nat.le_refl _, l1.keep ((((Kp.rfl' _).new _).new _).new _)⟩
  | 1, _ => exact ⟨_, some ⟨w.heap.size + 1, 0, none⟩, 2, rfl, hs, by rw [add_at, cell_just _ _ _ _ _ (by simp)]; rfl, Nat.le_refl _, l2.keep (((Kp.rfl' _).new _).new _)⟩
  | 2, _ => exact ⟨_, some ⟨w.heap.size + 1 + 1, 0, none⟩, 2, rfl, hs, by rw [add_at, cell_just _ _ _ _ _ (by simp)]; rfl, Nat.le_refl _, l3.keep ((Kp.rfl' _).new _)⟩

theorem sg_mid {f : Nat → Int} (h : ∀ i, -15 ≤ f i ∧ f i ≤ 15) : ∀ n : Nat, -(15 * (n : Int)) ≤ Zx.sg n f ∧ Zx.sg n f ≤ 15 * n
  | 0 => by rw [Zx.sg_zero]; omega
  | n + 1 => by
    have := sg_mid h n
    have := h n
    rw [Zx.sg_succ]
    omega

/-- A triangle. -/
theorem tri_gr : Gr 3 [(0, 1), (1, 2), (2, 0)] [[0, 1], [1, 2], [2, 0]] :=
  ⟨by decide, by decide, by decide, rfl, by intro e he; simp at he; rcases he with rfl | rfl | rfl <;> decide, by intro e he; simp at he; rcases he with rfl | rfl | rfl <;> decide⟩
theorem tri_trn : trn 3 [(0, 1), (1, 2), (2, 0)] = 3 := by decide +kernel

set_option maxRecDepth 100000 in
set_option maxHeartbeats 1600000 in
theorem treeFact_any (w : World) : Calls Tryd.prog 13 #[] w fun e w' => e = .returned (.bool true) ∧ Kp w w' := by
  have F1 := Lib.hid (TCnt_ok 3 _ _ tri_gr (some ⟨w.heap.size + 1 + 1 + 1, 0, none⟩) 3 3 (lit32 w w.heap.size 0 1 1 2 2 0) (lit32_lies w _ 0 1 1 2 2 0 rfl) rfl)
  rw [tri_trn] at F1
  go_enter Tryd.func13, Tryd.ntmps13
  go_wp2_with fail
  refine (F1.out).mono ?_; rintro e w1 ⟨rfl, k1⟩
  have K1 := Lib.hid ((lit32_kp w w.heap.size 0 1 1 2 2 0).trans k1)
  clear k1 F1
  go_wp2_with fail
  go_ret
  exact ⟨rfl, K1.out⟩

end Go.Proofs.YtgfhmffkdhfoeaaDoor
