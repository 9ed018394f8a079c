/- What minors says of good matrices; its closed fact, outright. -/
import Derived.Test.YtmkjfoecofeioaaDoorMiC2
import Derived.Test.YtmkjfoecofeioaaDoorDeFact
namespace Go.Proofs.YtmkjfoecofeioaaDoor
open Go.ChangeShapes Go.WideShapes Go.ChangeAt Go.RowKit
set_option linter.unusedVariables false

theorem MOf_sh {A : Option Addr} {m : List (List Int)} {n p i j : Nat} {f : Nat → Nat → Fp.F} (s : Sh n n f m) (hn : n = p + 1) (hi : i ≤ p) (hj : j ≤ p) (d : Nat) (w : World) (ha : LiesM w A m) :
    Calls Tryd.prog 13 #[.slice A n d, .int .i64 (i : Int), .int .i64 (j : Int)] w fun e w' => e = .returned (.tuple #[.int .i64 ((Mx.dt p (wo f i j)).val : Int), .nilIface]) ∧ Kp w w' := by
  have h5 := s.r5
  rw [s.eq] at ha
  exact MOf_ok A f n p i j d w ha hn hi hj (by omega)
theorem MOf_not {A : Option Addr} {m : List (List Int)} {n : Nat} {i j : Int} {f : Nat → Nat → Fp.F} (s : Sh n n f m) (ho : i < 0 ∨ (n : Int) ≤ i ∨ j < 0 ∨ (n : Int) ≤ j) (d : Nat) (w : World) (ha : LiesM w A m) :
    Calls Tryd.prog 13 #[.slice A n d, .int .i64 i, .int .i64 j] w fun e w' => e = .returned (.tuple #[.int .i64 0, errOf 1]) ∧ Kp w w' :=
  MOf_out A m n d i j w ha s.len s.code2 ho
theorem MAdj_sh {A : Option Addr} {m : List (List Int)} {n p : Nat} {f : Nat → Nat → Fp.F} (s : Sh n n f m) (hn : n = p + 1) (d : Nat) (w : World) (ha : LiesM w A m) :
    Calls Tryd.prog 7 #[.slice A n d] w fun e w' => ∃ g, e = .returned (.tuple #[.slice (some ⟨g, 0, none⟩) n n, .nilIface]) ∧ LiesM w' (some ⟨g, 0, none⟩) (Mx.matl n n (Mx.adj p f)) ∧ Kp w w' := by
  have h5 := s.r5
  rw [s.eq] at ha
  exact MAdj_ok A f n p d w ha hn (by omega)

theorem fadj_mat : Mx.matl 2 2 (Mx.adj 1 fdet) = Mx.tab 2 2 (n22 4 9971 9970 1) := by decide +kernel
/-- A matrix of one number, just laid down. -/
def lit11 (w : World) (g : Nat) (a : Int) : World := (w.alloc (.cells #[.int .i64 a] 3)).alloc (.cells #[.slice (some ⟨g, 0, none⟩) 1 1] 40)
theorem lit11_kp (w : World) (g : Nat) (a : Int) : Kp w (lit11 w g a) := ((Kp.rfl' w).new _).new _
theorem lit11_lies (w : World) (g : Nat) (a : Fp.F) (h : g = w.heap.size) : LiesM (lit11 w g (a.val : Int)) (some ⟨g + 1, 0, none⟩) (Mx.matl 1 1 fun _ _ => a) := by
  subst h
  have e1 : (w.alloc (.cells #[.int .i64 (a.val : Int)] 3)).heap.size = w.heap.size + 1 := by simp
  intro k hk
  rw [Mx.len_matl] at hk
  obtain rfl : k = 0 := by omega
  refine ⟨⟨w.heap.size + 1, 0, none⟩, some ⟨w.heap.size, 0, none⟩, 1, rfl, ?_, ?_, ?_, ?_⟩
  · show w.heap.size + 1 < (World.alloc _ _).heap.size
    rw [World.size_alloc, e1]; omega
  · rw [add_zero']
    exact (cell_made _ _ _ _ 0 e1.symm).trans rfl
  · exact Nat.le_refl _
  · exact (lies_new w 3 [(a.val : Int)]).keep ((Kp.rfl' _).new _)

set_option maxRecDepth 100000 in
set_option maxHeartbeats 1600000 in
theorem minorsFact_any (w : World) : Calls Tryd.prog 14 #[] w fun e w' => e = .returned (.bool true) ∧ Kp w w' := by
  have A1 : LiesM (lit22 w w.heap.size 1 2 3 4) (some ⟨w.heap.size + 1 + 1, 0, none⟩) (Mx.matl 2 2 fdet) := by
    rw [← fdet_mat]; exact lit22_lies w _ 1 2 3 4 rfl
  have O1 := Lib.hid (MAdj_ok _ fdet 2 1 2 _ A1 rfl (by decide))
  rw [fadj_mat] at O1
  clear A1
  have S1 := Lib.hid (fun (w1 : World) => MOf_ok (some ⟨w1.heap.size + 1, 0, none⟩) (fun _ _ => 7) 1 0 0 0 1 _ (lit11_lies w1 w1.heap.size 7 rfl) rfl (Nat.le_refl _) (Nat.le_refl _) (by decide))
  rw [show (((Mx.dt 0 (wo (fun _ _ => 7) 0 0)).val : Nat) : Int) = 1 from rfl] at S1
  go_enter Tryd.func14, Tryd.ntmps14
  go_wp2_with fail
  refine (O1.out).mono ?_; rintro e w1 ⟨g, rfl, l1, k1⟩
  have L1 := Lib.hid l1
  have K1 := Lib.hid ((lit22_kp w w.heap.size 1 2 3 4).trans k1)
  clear k1 l1 O1
  go_wp2_with fail
  refine (S1.out w1).mono ?_; rintro e w2 ⟨rfl, k2⟩
  have k3 := (lit11_kp w1 w1.heap.size (((7 : Fp.F).val : Nat) : Int)).trans k2
  have L2 := Lib.hid (L1.out.keep k3)
  have K2 := Lib.hid (K1.out.trans k3)
  clear k2 k3 S1
  go_wp2_with fail
  refine (rows_eq (some ⟨g, 0, none⟩) (some ⟨w2.heap.size + 1 + 1, 0, none⟩) (Mx.tab 2 2 (n22 4 9971 9970 1)) (Mx.tab 2 2 (n22 4 9971 9970 1)) 2 2 2 2 (lit22 w2 w2.heap.size 4 9971 9970 1) (L2.out.keep (lit22_kp _ _ _ _ _ _)) (lit22_lies _ _ _ _ _ _ rfl) (Mx.len_tab _ _ _) (Mx.len_tab _ _ _) (modest_tab _ (by decide) (by decide)) (modest_tab _ (by decide) (by decide)) rfl).mono ?_
  rintro e w3 ⟨rfl, k3⟩
  have K3 := Lib.hid ((K2.out.trans (lit22_kp w2 w2.heap.size 4 9971 9970 1)).trans k3)
  clear k3
  go_wp2_with fail
  go_ret
  exact ⟨rfl, K3.out⟩

end Go.Proofs.YtmkjfoecofeioaaDoor
