/- Package massey in the laws' words: what comes in is a row, or every call fails; the closed fact. -/
import Derived.Test.YtpffekaldpllkaaDoorMsC4
namespace Go.Proofs.YtpffekaldpllkaaDoor
open Go.ChangeShapes Go.WideShapes Go.ChangeAt Go.RowKit
set_option linter.unusedVariables false

/-- An error, and no number. -/
def NoNum (w : World) (e : Ending) (w' : World) : Prop := ∃ z : Nat, e = .returned (.tuple #[.int .i64 0, .iface 39 (.int .i64 (z : Int))]) ∧ Kp w w'
theorem SFew_or (L : List Int) :
    (∃ N x, Sr N x L) ∨ ∀ (A : Option Addr) (c : Nat) (w : World), Lies w A L → Calls Tryd.prog 9 #[.slice A L.length c] w fun e w' => NoNum w e w' := by
  rcases sr_or L with h | h
  · exact .inl h
  · exact .inr fun A c w ha => (Fewest_bad A L c w ha h).mono fun e w' h' => ⟨scd L, by rw [h'.1, errOf_ne _ h], h'.2⟩
theorem SFew_sr {N l : Nat} {x : Nat → Fp.F} {L : List Int} (h : Sr N x L) (hf : Mx.Few N l x) (A : Option Addr) (c : Nat) (w : World) (ha : Lies w A L) :
    Calls Tryd.prog 9 #[.slice A N c] w fun e w' => e = .returned (.tuple #[.int .i64 (l : Int), .nilIface]) ∧ Kp w w' := by
  rw [h.row] at ha
  exact Fewest_ok A N c l x w ha h.le hf

def x6 : Nat → Fp.F := fun i => Fp.ofInt ([0, 1, 1, 2, 3, 5].getD i 0)
def x3 : Nat → Fp.F := fun i => Fp.ofInt ([1, 2, 4].getD i 0)
def x5 : Nat → Fp.F := fun i => Fp.ofInt ([0, 0, 5].getD i 0)
def cone : Nat → Fp.F := fun _ => 1
def ctwo : Nat → Fp.F := fun _ => 2
theorem sr6 : rowF 6 x6 = [0, 1, 1, 2, 3, 5] := by decide +kernel
theorem sr3 : rowF 3 x3 = [1, 2, 4] := by decide +kernel
theorem sr5 : rowF 3 x5 = [0, 0, 5] := by decide +kernel
theorem gn6 : Mx.Gn 6 2 cone x6 := fun i h1 h2 => by
  rcases (show i = 2 ∨ i = 3 ∨ i = 4 ∨ i = 5 by omega) with rfl | rfl | rfl | rfl <;> decide +kernel
theorem few6 : Mx.Few 6 2 x6 := ⟨⟨cone, gn6⟩, fun m hm ⟨c, h⟩ => by
  rcases (show m = 0 ∨ m = 1 by omega) with rfl | rfl
  · exact absurd (Mx.gn_none h 1 (by omega)) (by decide +kernel)
  · have := h 1 (by omega) (by omega)
    rw [Mx.sg_succ, Mx.sg_zero, show x6 (1 - 1 - 0) = 0 by decide +kernel, show x6 1 = 1 by decide +kernel] at this
    exact Fp.one_ne (by grind)⟩
theorem few6_row {f : Nat → Fp.F} (h : Mx.Gn 6 2 f x6) : rowF 2 f = [1, 1] := by
  have e := Mx.gn_same few6 h gn6 (by omega)
  rw [show rowF 2 f = rowF 2 cone from Mx.row_ext fun k hk => by rw [e k hk]]
  decide +kernel
theorem gn3 : Mx.Gn 3 1 ctwo x3 := fun i h1 h2 => by
  rcases (show i = 1 ∨ i = 2 by omega) with rfl | rfl <;> decide +kernel
theorem few5 : Mx.Few 3 3 x5 := ⟨⟨cone, Mx.Gn.far _ _ (by omega)⟩, fun m hm ⟨c, h⟩ => by
  rcases (show m = 0 ∨ m = 1 ∨ m = 2 by omega) with rfl | rfl | rfl
  · exact absurd (Mx.gn_none h 2 (by omega)) (by decide +kernel)
  · have := h 2 (by omega) (by omega)
    rw [Mx.sg_succ, Mx.sg_zero, show x5 (2 - 1 - 0) = 0 by decide +kernel] at this
    exact absurd (show x5 2 = 0 by rw [this]; grind) (by decide +kernel)
  · have := h 2 (by omega) (by omega)
    rw [Mx.sg_succ, Mx.sg_succ, Mx.sg_zero, show x5 (2 - 1 - 0) = 0 by decide +kernel, show x5 (2 - 1 - 1) = 0 by decide +kernel] at this
    exact absurd (show x5 2 = 0 by rw [this]; grind) (by decide +kernel)⟩

set_option maxRecDepth 100000 in
set_option maxHeartbeats 3200000 in
theorem masseyFact_any (w : World) : Calls Tryd.prog 14 #[] w fun e w' => e = .returned (.bool true) ∧ Kp w w' := by
  have R1 := Lib.hid (fun (w1 : World) (A : Option Addr) (h1 : Lies w1 A [0, 1, 1, 2, 3, 5]) => Fewest_ok A 6 6 2 x6 w1 (by rw [sr6]; exact h1) (by decide) few6)
  have R2 := Lib.hid (fun (w1 : World) (A : Option Addr) (h1 : Lies w1 A [0, 1, 1, 2, 3, 5]) => Factors_ok A 6 6 2 x6 w1 (by rw [sr6]; exact h1) (by decide) few6 (by decide))
  have R3 := Lib.hid (fun (w1 : World) (A B : Option Addr) (h1 : Lies w1 A [1, 2, 4]) (h2 : Lies w1 B [2]) => SGoes_ok A B 3 1 3 1 x3 ctwo w1 (by rw [sr3]; exact h1) (by rw [show rowF 1 ctwo = [2] by decide +kernel]; exact h2) (by decide) (by decide) true ⟨fun _ => gn3, fun _ => rfl⟩)
  go_enter Tryd.func14, Tryd.ntmps14
  go_wp2_with fail
  refine (R1.out _ _ (lies_new w _ [0, 1, 1, 2, 3, 5])).mono ?_; rintro e w1 ⟨rfl, k1⟩
  have K1 := Lib.hid (((Kp.rfl' w).new _).trans k1)
  clear k1
  go_wp2_with fail
  refine (R2.out _ _ (lies_new w1 _ [0, 1, 1, 2, 3, 5])).mono ?_; rintro e w2 ⟨B, d, f, rfl, hl, hg, k2⟩
  have K12 := Lib.hid ((Kp.rfl' w1).new _ |>.trans k2)
  have HL := Lib.hid (show Lies w2 B [1, 1] by rw [← few6_row hg]; exact hl)
  clear k2 hl hg
  go_wp2_with fail
  refine (R3.out _ _ _ ((lies_new w2 _ [1, 2, 4]).keep ((Kp.rfl' _).new _)) (lies_new' (w2.alloc _) _ [2] _ (by simp))).mono ?_; rintro e w3 ⟨rfl, h3⟩
  subst h3
  have K3 := Lib.hid (((Kp.rfl' w2).new (.cells (ints [1, 2, 4]).toArray 3)).new (.cells (ints [2]).toArray 3))
  have K4 := Lib.hid ((K1.out.trans K12.out).trans K3.out)
  go_wp2_with fail
  refine (same_eq B _ [1, 1] [1, 1] 2 2 d 2 _ ((HL.out.keep K3.out).keep ((Kp.rfl' _).new _)) (lies_new' _ _ [1, 1] _ (by simp)) rfl rfl (by decide) rfl).mono ?_; rintro e w3 ⟨rfl, k3⟩
  have K5 := Lib.hid ((K4.out.new _).trans k3)
  clear k3
  go_wp2_with fail
  go_ret
  exact ⟨rfl, K5.out⟩

end Go.Proofs.YtpffekaldpllkaaDoor
