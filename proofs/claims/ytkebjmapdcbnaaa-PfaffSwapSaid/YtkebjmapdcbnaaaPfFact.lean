/- The closed fact of the laws on Pfaffians; a matrix of four rows as a literal; bounds and signs of Pfaffians; heads of rows written. -/
import Derived.Test.YtkebjmapdcbnaaaPfC3
import Derived.Test.YtkebjmapdcbnaaaRowsG
import Derived.Test.YtkebjmapdcbnaaaLawIn
import Derived.Test.YtkebjmapdcbnaaaSetH
namespace Go.Proofs.Ytkebjmapdcbnaaa
open Go.ChangeShapes Go.WideShapes Go.ChangeAt Go.RowKit
set_option linter.unusedVariables false

/-- Four rows of four as a literal. -/
abbrev lit44 (w : World) (g : Nat) (a b c d : List Int) : World :=
  ((((w.alloc (.cells (ints a).toArray 3)).alloc (.cells (ints b).toArray 3)).alloc (.cells (ints c).toArray 3)).alloc (.cells (ints d).toArray 3)).alloc (.cells #[.slice (some ⟨g, 0, none⟩) 4 4, .slice (some ⟨g + 1, 0, none⟩) 4 4, .slice (some ⟨g + 1 + 1, 0, none⟩) 4 4, .slice (some ⟨g + 1 + 1 + 1, 0, none⟩) 4 4] 32)
theorem lit44_kp (w : World) (g : Nat) (a b c d : List Int) : Kp w (lit44 w g a b c d) := (((((Kp.rfl' w).new _).new _).new _).new _).new _
theorem lit44_lies (w : World) (g : Nat) (a b c d : List Int) (h : g = w.heap.size) (ha : a.length = 4) (hb : b.length = 4) (hc : c.length = 4) (hd : d.length = 4) : LiesM (lit44 w g a b c d) (some ⟨g + 1 + 1 + 1 + 1, 0, none⟩) [a, b, c, d] := by
  subst h
  obtain ⟨o1, h1⟩ : ∃ o, o = Obj.cells (ints a).toArray 3 := ⟨_, rfl⟩
  obtain ⟨o2, h2⟩ : ∃ o, o = Obj.cells (ints b).toArray 3 := ⟨_, rfl⟩
  obtain ⟨o3, h3⟩ : ∃ o, o = Obj.cells (ints c).toArray 3 := ⟨_, rfl⟩
  obtain ⟨o4, h4⟩ : ∃ o, o = Obj.cells (ints d).toArray 3 := ⟨_, rfl⟩
  have l1 : Lies (w.alloc o1) (some ⟨w.heap.size, 0, none⟩) a := by rw [h1]; exact lies_new' w _ a _ rfl
  have l2 : Lies ((w.alloc o1).alloc o2) (some ⟨w.heap.size + 1, 0, none⟩) b := by rw [h2]; exact lies_new' (w.alloc o1) _ b _ (by simp)
  have l3 : Lies (((w.alloc o1).alloc o2).alloc o3) (some ⟨w.heap.size + 1 + 1, 0, none⟩) c := by rw [h3]; exact lies_new' ((w.alloc o1).alloc o2) _ c _ (by simp)
  have l4 : Lies ((((w.alloc o1).alloc o2).alloc o3).alloc o4) (some ⟨w.heap.size + 1 + 1 + 1, 0, none⟩) d := by rw [h4]; exact lies_new' (((w.alloc o1).alloc o2).alloc o3) _ d _ (by simp)
  unfold lit44
  rw [← h1, ← h2, ← h3, ← h4]
  intro k hk
  have hs : w.heap.size + 1 + 1 + 1 + 1 < (((((w.alloc o1).alloc o2).alloc o3).alloc o4).alloc (.cells #[.slice (some ⟨w.heap.size, 0, none⟩) 4 4, .slice (some ⟨w.heap.size + 1, 0, none⟩) 4 4, .slice (some ⟨w.heap.size + 1 + 1, 0, none⟩) 4 4, .slice (some ⟨w.heap.size + 1 + 1 + 1, 0, none⟩) 4 4] 32)).heap.size := by simp
  match k, hk with
  | 0, _ => exact ⟨_, some ⟨w.heap.size, 0, none⟩, 4, rfl, hs, by rw [add_at, cell_just _ _ _ _ _ (by simp)]; simp [ha], by simp [ha], l1.keep (((((Kp.rfl' _).new _).new _).new _).new _)⟩
  | 1, _ => exact ⟨_, some ⟨w.heap.size + 1, 0, none⟩, 4, rfl, hs, by rw [add_at, cell_just _ _ _ _ _ (by simp)]; simp [hb], by simp [hb], l2.keep ((((Kp.rfl' _).new _).new _).new _)⟩
  | 2, _ => exact ⟨_, some ⟨w.heap.size + 1 + 1, 0, none⟩, 4, rfl, hs, by rw [add_at, cell_just _ _ _ _ _ (by simp)]; simp [hc], by simp [hc], l3.keep (((Kp.rfl' _).new _).new _)⟩
  | 3, _ => exact ⟨_, some ⟨w.heap.size + 1 + 1 + 1, 0, none⟩, 4, rfl, hs, by rw [add_at, cell_just _ _ _ _ _ (by simp)]; simp [hd], by simp [hd], l4.keep ((Kp.rfl' _).new _)⟩

def mf2 : List (List Int) := [[0, 2], [-2, 0]]
def mf4 : List (List Int) := [[0, 1, 0, 0], [-1, 0, 0, 0], [0, 0, 0, 3], [0, 0, -3, 0]]
theorem pz2 : Pz 2 (fun i j => (mf2.getD i []).getD j 0) mf2 := pz_get rfl (by decide) (by decide)
theorem pz4 : Pz 4 (fun i j => (mf4.getD i []).getD j 0) mf4 := pz_get rfl (by decide) (by decide)
theorem pf2 : Zx.pf 2 (fun i j => (mf2.getD i []).getD j 0) = 2 := by decide +kernel
theorem pf4 : Zx.pf 4 (fun i j => (mf4.getD i []).getD j 0) = 3 := by decide +kernel

set_option maxRecDepth 100000 in
set_option maxHeartbeats 1600000 in
theorem pfaffFact_any (w : World) : Calls Try.prog 6 #[] w fun e w' => e = .returned (.bool true) ∧ Kp w w' := by
  have F1 := Lib.hid (POf_ok (some ⟨w.heap.size + 1 + 1, 0, none⟩) mf2 _ 2 2 (lit22 w w.heap.size 0 2 (-2) 0) pz2 (lit22_lies w _ 0 2 (-2) 0 rfl))
  have F2 := Lib.hid (fun w => POf_ok (some ⟨w.heap.size + 1 + 1 + 1 + 1, 0, none⟩) mf4 _ 4 4 (lit44 w w.heap.size [0, 1, 0, 0] [-1, 0, 0, 0] [0, 0, 0, 3] [0, 0, -3, 0]) pz4 (lit44_lies w _ _ _ _ _ rfl rfl rfl rfl rfl))
  rw [pf2] at F1
  rw [pf4] at F2
  go_enter Try.func6, Try.ntmps6
  go_wp2_with fail
  refine (F1.out).mono ?_; rintro e w1 ⟨rfl, k1⟩
  have K1 := Lib.hid ((lit22_kp w w.heap.size 0 2 (-2) 0).trans k1)
  clear k1 F1
  go_wp2_with fail
  refine (F2.out w1).mono ?_; rintro e w2 ⟨rfl, k2⟩
  have K2 := Lib.hid (K1.out.trans ((lit44_kp w1 w1.heap.size [0, 1, 0, 0] [-1, 0, 0, 0] [0, 0, 0, 3] [0, 0, -3, 0]).trans k2))
  clear k2 F2
  go_wp2_with fail
  go_ret
  exact ⟨rfl, K2.out⟩

end Go.Proofs.Ytkebjmapdcbnaaa
