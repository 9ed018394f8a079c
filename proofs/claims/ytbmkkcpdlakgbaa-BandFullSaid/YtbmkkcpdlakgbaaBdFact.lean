/- The closed fact on bands. -/
import Derived.Test.YtbmkkcpdlakgbaaBdC3
import Derived.Test.YtbmkkcpdlakgbaaBdC7
import Derived.Test.YtbmkkcpdlakgbaaRowsG
namespace Go.Proofs.Ytbmkkcpdlakgbaa
open Go.ChangeShapes Go.WideShapes Go.ChangeAt Go.RowKit
set_option linter.unusedVariables false

def two' : Nat → Fp.F := fun _ => 2
def less' : Nat → Fp.F := fun _ => 9972
def onetwo : Nat → Fp.F := fun i => if i = 0 then 1 else 2
def three' : Nat → Fp.F := fun _ => 3
def four' : Nat → Fp.F := fun _ => 4
theorem bf_ko : ((Mx.ko (2 + 1) two' (fun i => less' i * less' i)).val : Int) = 4 := by decide +kernel
theorem bf_m : Mx.matl (1 + 1) (1 + 1) (Mx.bnd onetwo three' four') = Mx.tab 2 2 (n22 1 3 4 2) := by decide +kernel

set_option maxRecDepth 100000 in
set_option maxHeartbeats 3200000 in
theorem bandFact_any (w : World) : Calls Try.prog 6 #[] w fun e w' => e = .returned (.bool true) ∧ Kp w w' := by
  obtain ⟨a1, ha1⟩ : ∃ x, x = w.alloc (.cells (ints [2, 2, 2]).toArray 3) := ⟨_, rfl⟩
  obtain ⟨a2, ha2⟩ : ∃ x, x = a1.alloc (.cells (ints [9972, 9972]).toArray 3) := ⟨_, rfl⟩
  obtain ⟨a3, ha3⟩ : ∃ x, x = a2.alloc (.cells (ints [9972, 9972]).toArray 3) := ⟨_, rfl⟩
  have e1 : a1.heap.size = w.heap.size + 1 := by rw [ha1]; simp
  have e2 : a2.heap.size = w.heap.size + 1 + 1 := by rw [ha2]; simp [e1]
  have k1 : Kp w a1 := by rw [ha1]; exact (Kp.rfl' _).new _
  have k2 : Kp a1 a2 := by rw [ha2]; exact (Kp.rfl' _).new _
  have k3 : Kp a2 a3 := by rw [ha3]; exact (Kp.rfl' _).new _
  have l1 : Lies a3 (some ⟨w.heap.size, 0, none⟩) (rowF (2 + 1) two') := (show Lies a1 _ [2, 2, 2] by rw [ha1]; exact lies_new w _ [2, 2, 2]).keep (k2.trans k3)
  have l2 : Lies a3 (some ⟨w.heap.size + 1, 0, none⟩) (rowF 2 less') := (show Lies a2 _ [9972, 9972] by rw [ha2]; exact lies_new' a1 _ [9972, 9972] _ e1.symm).keep k3
  have l3 : Lies a3 (some ⟨w.heap.size + 1 + 1, 0, none⟩) (rowF 2 less') := (show Lies a3 _ [9972, 9972] by rw [ha3]; exact lies_new' a2 _ [9972, 9972] _ e2.symm)
  have DD := Lib.hid (BDet_ok (some ⟨w.heap.size, 0, none⟩) (some ⟨w.heap.size + 1, 0, none⟩) (some ⟨w.heap.size + 1 + 1, 0, none⟩) 2 3 2 2 two' less' less' a3 l1 l2 l3 (by decide))
  rw [bf_ko] at DD
  have K := Lib.hid (k1.trans (k2.trans k3))
  have X3 := Lib.hid (show a3 = ((w.alloc (.cells (ints [2, 2, 2]).toArray 3)).alloc (.cells (ints [9972, 9972]).toArray 3)).alloc (.cells (ints [9972, 9972]).toArray 3) by rw [ha3, ha2, ha1])
  clear ha1 ha2 ha3 e1 e2 k1 k2 k3 l1 l2 l3
  go_enter Try.func6, Try.ntmps6
  go_wp2_with fail
  change Calls _ _ _ (((w.alloc (.cells (ints [2, 2, 2]).toArray 3)).alloc (.cells (ints [9972, 9972]).toArray 3)).alloc (.cells (ints [9972, 9972]).toArray 3)) _
  rw [← X3.out]
  refine (DD.out).mono ?_; rintro e w1 ⟨rfl, hk⟩
  have K1 := Lib.hid (K.out.trans hk)
  clear hk X3 DD K
  obtain ⟨b1, hb1⟩ : ∃ x, x = w1.alloc (.cells (ints [1, 2]).toArray 3) := ⟨_, rfl⟩
  obtain ⟨b2, hb2⟩ : ∃ x, x = b1.alloc (.cells (ints [3]).toArray 3) := ⟨_, rfl⟩
  obtain ⟨b3, hb3⟩ : ∃ x, x = b2.alloc (.cells (ints [4]).toArray 3) := ⟨_, rfl⟩
  have e1 : b1.heap.size = w1.heap.size + 1 := by rw [hb1]; simp
  have e2 : b2.heap.size = w1.heap.size + 1 + 1 := by rw [hb2]; simp [e1]
  have k1 : Kp w1 b1 := by rw [hb1]; exact (Kp.rfl' _).new _
  have k2 : Kp b1 b2 := by rw [hb2]; exact (Kp.rfl' _).new _
  have k3 : Kp b2 b3 := by rw [hb3]; exact (Kp.rfl' _).new _
  have l1 : Lies b3 (some ⟨w1.heap.size, 0, none⟩) (rowF (1 + 1) onetwo) := (show Lies b1 _ [1, 2] by rw [hb1]; exact lies_new w1 _ [1, 2]).keep (k2.trans k3)
  have l2 : Lies b3 (some ⟨w1.heap.size + 1, 0, none⟩) (rowF 1 three') := (show Lies b2 _ [3] by rw [hb2]; exact lies_new' b1 _ [3] _ e1.symm).keep k3
  have l3 : Lies b3 (some ⟨w1.heap.size + 1 + 1, 0, none⟩) (rowF 1 four') := (show Lies b3 _ [4] by rw [hb3]; exact lies_new' b2 _ [4] _ e2.symm)
  have DD := Lib.hid (BFull_ok (some ⟨w1.heap.size, 0, none⟩) (some ⟨w1.heap.size + 1, 0, none⟩) (some ⟨w1.heap.size + 1 + 1, 0, none⟩) 1 2 1 1 onetwo three' four' b3 l1 l2 l3 (by decide))
  have K := Lib.hid (K1.out.trans (k1.trans (k2.trans k3)))
  have X3 := Lib.hid (show b3 = ((w1.alloc (.cells (ints [1, 2]).toArray 3)).alloc (.cells (ints [3]).toArray 3)).alloc (.cells (ints [4]).toArray 3) by rw [hb3, hb2, hb1])
  clear hb1 hb2 hb3 e1 e2 k1 k2 k3 l1 l2 l3
  go_wp2_with fail
  change Calls _ _ _ (((w1.alloc (.cells (ints [1, 2]).toArray 3)).alloc (.cells (ints [3]).toArray 3)).alloc (.cells (ints [4]).toArray 3)) _
  rw [← X3.out]
  refine (DD.out).mono ?_; rintro e w2 ⟨A, d, rfl, hd, lm, hk⟩
  rw [bf_m] at lm
  have LM := Lib.hid lm
  have K2 := Lib.hid (K.out.trans hk)
  clear hk X3 DD K lm
  go_wp2_with fail
  refine (rows_eq A (some ⟨w2.heap.size + 1 + 1, 0, none⟩) (Mx.tab 2 2 (n22 1 3 4 2)) (Mx.tab 2 2 (n22 1 3 4 2)) 2 2 d 2 (lit22 w2 w2.heap.size 1 3 4 2) (LM.out.keep (lit22_kp _ _ _ _ _ _)) (lit22_lies _ _ _ _ _ _ rfl) (Mx.len_tab _ _ _) (Mx.len_tab _ _ _) (modest_tab _ (by decide) (by decide)) (modest_tab _ (by decide) (by decide)) rfl).mono ?_
  rintro e w3 ⟨rfl, k3⟩
  have K3 := Lib.hid (K2.out.trans ((lit22_kp w2 w2.heap.size 1 3 4 2).trans k3))
  clear k3
  go_wp2_with fail
  go_ret
  exact ⟨rfl, K3.out⟩

end Go.Proofs.Ytbmkkcpdlakgbaa
