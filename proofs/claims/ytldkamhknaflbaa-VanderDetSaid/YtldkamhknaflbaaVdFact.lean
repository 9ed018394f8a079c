/- Package vander in the laws' words: what comes in are numbers of a matrix, or every call fails; the closed fact. -/
import Derived.Test.YtldkamhknaflbaaVdC2
import Derived.Test.YtldkamhknaflbaaVdC3
import Derived.Test.YtldkamhknaflbaaShM
namespace Go.Proofs.Ytldkamhknaflbaa
open Go.ChangeShapes Go.WideShapes Go.ChangeAt Go.RowKit
set_option linter.unusedVariables false

/-- An error, and no matrix. -/
def NoMx (w : World) (e : Ending) (w' : World) : Prop := ∃ z : Nat, e = .returned (.tuple #[.slice none 0 0, .iface 56 (.int .i64 (z : Int))]) ∧ Kp w w'
theorem VFull_no {L : List Int} (h : vcd L ≠ 0) (A : Option Addr) (c : Nat) (w : World) (ha : Lies w A L) :
    Calls Try.prog 7 #[.slice A L.length c] w fun e w' => NoMx w e w' :=
  (VFull_bad A L c w ha h).mono fun e w' h' => ⟨vcd L, by rw [h'.1, errOf_ne _ h], by rw [← h'.2]; exact Kp.rfl' w⟩
theorem Vd.sh {n : Nat} {X : Nat → Fp.F} {L : List Int} (h : Vd n X L) : Sh n n (Mx.vm X) (Mx.matl n n (Mx.vm X)) := ⟨rfl, h.n0, h.n5, h.n0, h.n5⟩
theorem Vd.lies {n : Nat} {X : Nat → Fp.F} {L : List Int} (h : Vd n X L) {A : Option Addr} {w : World} (ha : Lies w A L) : Lies w A (Mx.row n fun j => ((X j).val : Int)) := by
  rw [h.row] at ha; exact ha

def x124 : Nat → Fp.F := fun i => Fp.ofInt ([1, 2, 4].getD i 0)
theorem vd124 : Vd 3 x124 [1, 2, 4] := ⟨by decide +kernel, by decide, by decide⟩
theorem df124 : (Mx.df 3 x124).val = 6 := by decide +kernel
set_option maxRecDepth 100000 in
set_option maxHeartbeats 1600000 in
theorem vanderFact_any (w : World) : Calls Try.prog 6 #[] w fun e w' => e = .returned (.bool true) ∧ Kp w w' := by
  have R1 := Lib.hid (fun (w1 : World) (A : Option Addr) (h1 : Lies w1 A [1, 2, 4]) => VDet_ok A [1, 2, 4] 3 3 x124 w1 h1 vd124 (by decide))
  rw [df124] at R1
  go_enter Try.func6, Try.ntmps6
  go_wp2_with fail
  refine (R1.out _ _ (lies_new w _ [1, 2, 4])).mono ?_; rintro e w1 ⟨rfl, k1⟩
  have K := Lib.hid (((Kp.rfl' w).new _).trans k1)
  clear k1
  go_wp2_with fail
  go_ret
  exact ⟨rfl, K.out⟩

end Go.Proofs.Ytldkamhknaflbaa
