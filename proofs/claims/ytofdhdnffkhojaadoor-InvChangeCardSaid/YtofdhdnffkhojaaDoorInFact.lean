/- What inv.Of says of whatever comes in; its closed fact. -/
import Derived.Test.YtofdhdnffkhojaaDoorInC2
import Derived.Test.YtofdhdnffkhojaaDoorDeFact
import Derived.Test.YtofdhdnffkhojaaDoorErrG
namespace Go.Proofs.YtofdhdnffkhojaaDoor
open Go.ChangeShapes Go.WideShapes Go.ChangeAt Go.RowKit
set_option linter.unusedVariables false

/-- An error, and nothing else. -/
def FailsI (z : Nat) (w : World) (e : Ending) (w' : World) : Prop := e = .returned (.tuple #[.slice none 0 0, .iface 53 (.int .i64 (z : Int))]) ∧ Kp w w'
theorem IOf_or (A : Option Addr) (m : List (List Int)) (n d : Nat) (hn : m.length = n) :
    (∃ f, Sh n n f m ∧ Mx.dt n f ≠ 0) ∨ ∃ z : Nat, ∀ (w : World), LiesM w A m → Calls Tryd.prog 11 #[.slice A n d] w fun e w' => FailsI z w e w' := by
  rcases sq_or m hn with ⟨f, s⟩ | h
  · by_cases hd : Mx.dt n f = 0
    · refine .inr ⟨5, fun w ha => ?_⟩
      rw [s.eq] at ha
      exact (IOf_none A f n d w ha s.r0 s.r5 hd).mono fun e w' h' => ⟨by rw [h'.1, errOf_ne 5 (by decide)], h'.2⟩
    · exact .inl ⟨f, s, hd⟩
  · exact .inr ⟨qcode 5 0 9972 m, fun w ha => ((IOf_bad A m n d w ha hn h).mono fun e w' h' => ⟨by rw [h'.1, errOf_ne _ h], h'.2⟩)⟩
theorem IOf_sh {A : Option Addr} {m : List (List Int)} {n p : Nat} {f : Nat → Nat → Fp.F} (s : Sh n n f m) (hn : n = p + 1) (hd : Mx.dt n f ≠ 0) (d : Nat) (w : World) (ha : LiesM w A m) :
    Calls Tryd.prog 11 #[.slice A n d] w fun e w' => ∃ g, e = .returned (.tuple #[.slice (some ⟨g, 0, none⟩) n n, .nilIface]) ∧ LiesM w' (some ⟨g, 0, none⟩) (Mx.matl n n (Mx.invm p f)) ∧ Kp w w' := by
  have h5 := s.r5
  rw [s.eq] at ha
  exact IOf_ok A f n p d w ha hn (by omega) hd
theorem Sh.inv {n p : Nat} {f : Nat → Nat → Fp.F} {m : List (List Int)} (s : Sh n n f m) : Sh n n (Mx.invm p f) (Mx.matl n n (Mx.invm p f)) := ⟨rfl, s.r0, s.r5, s.r0, s.r5⟩

def finv1 : Nat → Nat → Fp.F := f22 1 2 0 1
def finv2 : Nat → Nat → Fp.F := f22 1 2 2 4
theorem finv1_mat : Mx.tab 2 2 (n22 1 2 0 1) = Mx.matl 2 2 finv1 := by decide +kernel
theorem finv2_mat : Mx.tab 2 2 (n22 1 2 2 4) = Mx.matl 2 2 finv2 := by decide +kernel
theorem finv1_dt : Mx.dt 2 finv1 = 1 := by decide +kernel
theorem finv2_dt : Mx.dt 2 finv2 = 0 := by decide +kernel
theorem finv1_inv : Mx.matl 2 2 (Mx.invm 1 finv1) = Mx.tab 2 2 (n22 1 9971 0 1) := by
  have h1 : Mx.Unm 2 finv1 (Mx.invm 1 finv1) := Mx.unm_invm 1 finv1 (by show Mx.dt 2 finv1 ≠ 0; rw [finv1_dt]; decide)
  have h2 : Mx.Unm 2 finv1 (f22 1 9971 0 1) := Mx.unm_left fun i j hi hj => by
    have h : ∀ i, i < 2 → ∀ j, j < 2 → Mx.mul 2 (f22 1 9971 0 1) finv1 i j = Mx.one i j := by decide +kernel
    exact h i hi j hj
  rw [(h1.one_of h2).mat]
  decide +kernel

set_option maxRecDepth 100000 in
set_option maxHeartbeats 1600000 in
theorem invFact_any (w : World) (hl : Told.Laid w) : Calls Tryd.prog 17 #[] w fun e w' => e = .returned (.bool true) ∧ Kp w w' := by
  have A1 : LiesM (lit22 w w.heap.size 1 2 0 1) (some ⟨w.heap.size + 1 + 1, 0, none⟩) (Mx.matl 2 2 finv1) := by
    rw [← finv1_mat]; exact lit22_lies w _ 1 2 0 1 rfl
  have O1 := Lib.hid (IOf_ok _ finv1 2 1 2 _ A1 rfl (by decide) (by rw [finv1_dt]; decide))
  rw [finv1_inv] at O1
  clear A1
  have S1 := Lib.hid (fun (w1 : World) => IOf_none (some ⟨w1.heap.size + 1 + 1, 0, none⟩) finv2 2 2 (lit22 w1 w1.heap.size 1 2 2 4) (by rw [← finv2_mat]; exact lit22_lies w1 _ 1 2 2 4 rfl) (by decide) (by decide) finv2_dt)
  have HL := Lib.hid hl
  have E1 := Lib.hid (fun (wx : World) (hx : Kp w wx) => error_says 5 wx (laid_kp HL.out hx) (by decide))
  rw [errOf_ne 5 (by decide)] at S1 E1
  clear hl
  go_enter Tryd.func17, Tryd.ntmps17
  go_wp2_with fail
  refine (O1.out).mono ?_; rintro e w1 ⟨g, rfl, l1, k1⟩
  have L1 := Lib.hid l1
  have K1 := Lib.hid ((lit22_kp w w.heap.size 1 2 0 1).trans k1)
  clear k1 l1 O1
  go_wp2_with fail
  refine (S1.out w1).mono ?_; rintro e w2 ⟨rfl, k2⟩
  have k3 := (lit22_kp w1 w1.heap.size 1 2 2 4).trans k2
  have L2 := Lib.hid (L1.out.keep k3)
  have K2 := Lib.hid (K1.out.trans k3)
  clear k2 k3 S1
  go_wp2_with fail
  refine (E1.out _ K2.out).mono ?_; rintro e w3 ⟨rfl, k3⟩
  have K3 := Lib.hid (K2.out.trans k3)
  have L3 := Lib.hid (L2.out.keep k3)
  clear k3
  go_wp2_with fail
  refine (rows_eq (some ⟨g, 0, none⟩) (some ⟨w3.heap.size + 1 + 1, 0, none⟩) (Mx.tab 2 2 (n22 1 9971 0 1)) (Mx.tab 2 2 (n22 1 9971 0 1)) 2 2 2 2 (lit22 w3 w3.heap.size 1 9971 0 1) (L3.out.keep (lit22_kp _ _ _ _ _ _)) (lit22_lies _ _ _ _ _ _ rfl) (Mx.len_tab _ _ _) (Mx.len_tab _ _ _) (modest_tab _ (by decide) (by decide)) (modest_tab _ (by decide) (by decide)) rfl).mono ?_
  rintro e w4 ⟨rfl, k4⟩
  have K4 := Lib.hid ((K3.out.trans (lit22_kp w3 w3.heap.size 1 9971 0 1)).trans k4)
  clear k4
  go_wp2_with fail
  go_ret
  exact ⟨rfl, K4.out⟩

end Go.Proofs.YtofdhdnffkhojaaDoor
