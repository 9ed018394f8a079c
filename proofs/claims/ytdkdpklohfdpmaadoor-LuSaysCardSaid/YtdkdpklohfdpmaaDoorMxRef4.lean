/- Contracts of the document's answer on matrices, fourth part: Without, DetMod, Square. For all packages. -/
import Derived.Test.YtdkdpklohfdpmaaDoorMxRef3
import Derived.Test.YtdkdpklohfdpmaaDoorMatD
import Derived.Test.YtdkdpklohfdpmaaDoorCt
import Derived.Test.YtdkdpklohfdpmaaDoorSqr
import Derived.Deep.RegionHeld3
namespace Go.Proofs.YtdkdpklohfdpmaaDoor
open Go.ChangeShapes Go.WideShapes Go.ChangeAt Go.RowKit
set_option linter.unusedVariables false

theorem wo_del (f : Nat → Nat → Fp.F) (j : Nat) : wo f 0 j = Mx.del j f := by
  funext a b
  unfold wo Mx.del
  congr 1


/-- The sign of a place as a whole number. -/
def sgnI (j : Nat) : Int := if j % 2 = 0 then 1 else -1
theorem sgnI_some (j : Nat) : sgnI j = 1 ∨ sgnI j = -1 := by unfold sgnI; split <;> simp
theorem sgnI_succ (j : Nat) : sgnI (j + 1) = -(sgnI j) := by
  unfold sgnI
  by_cases h : j % 2 = 0
  · rw [if_pos h, if_neg (by omega)]
  · rw [if_neg h, if_pos (by omega)]; rfl
theorem sgnI_F (j : Nat) : Fp.ofInt (sgnI j) = Mx.sgn j := by
  unfold sgnI Mx.sgn
  split <;> decide
theorem det_step (s x d : Fp.F) (k : Nat) : ((s.val : Int) + sgnI k * (x.val : Int) * (d.val : Int)) % 9973 = ((s + Mx.sgn k * x * d).val : Int) := by
  rw [← Fp.ofInt_val, Fp.ofInt_add, Fp.ofInt_mul, Fp.ofInt_mul, Fp.ofInt_self, Fp.ofInt_self, Fp.ofInt_self, sgnI_F]
theorem det_bound (x d : Fp.F) (k : Nat) : (-9972 ≤ sgnI k * (x.val : Int) ∧ sgnI k * (x.val : Int) ≤ 9972) ∧ -99440784 ≤ sgnI k * (x.val : Int) * (d.val : Int) ∧ sgnI k * (x.val : Int) * (d.val : Int) ≤ 99440784 := by
  have h := rprod x d
  have hx := rval x
  rcases sgnI_some k with e | e
  · rw [e, Int.one_mul]; omega
  · rw [e, Int.neg_one_mul, Int.neg_mul]; omega


set_option maxHeartbeats 1600000 in
theorem rSquare_any (A : Option Addr) (m : List (List Int)) (n d most : Nat) (lo hi : Int) (w : World) (ha : LiesM w A m) (hn : m.length = n) (hmo : most ≤ 1000) :
    Calls Tryd.prog 4 #[.slice A n d, .int .i64 (most : Int), .int .i64 lo, .int .i64 hi] w fun e w' => e = .returned (.int .i64 (qcode most lo hi m : Int)) ∧ Drew w w' := by
  have MX := Lib.hid (rMatrix_any A m n d most lo hi w ha hn hmo)
  by_cases h0 : Mx.mcode most lo hi m = 0
  · have h0n : 0 < m.length := by
      rcases Nat.eq_zero_or_pos m.length with h | h
      · exfalso; unfold Mx.mcode at h0; rw [if_pos (.inl h)] at h0; cases h0
      · exact h
    obtain ⟨ad, A0, d0, rfl, hl0, hc0, _, _⟩ := ha 0 h0n
    rw [add_zero'] at hc0
    have HC := Lib.hid hc0
    have EV := Lib.hid (show qcode most lo hi m = if n ≠ (m.getD 0 []).length then 3 else 0 by
      unfold qcode
      rw [h0, hn]
      by_cases h : n ≠ (m.getD 0 []).length
      · rw [if_pos ⟨rfl, h⟩, if_pos h]
      · rw [if_neg (fun h' => h h'.2), if_neg h])
    rw [h0] at MX
    have hn0 : (0 : Int) < n := by omega
    generalize (m.getD 0 []).length = q at *
    generalize qcode most lo hi m = z at *
    have HN0 := Lib.hid hn0
    clear ha h0 hn h0n hc0
    by_cases hq : n = q
    · subst hq
      have E2 := Lib.hid (show z = 0 by rw [EV.out, if_neg (fun h => h rfl)])
      have e1 : ((n : Int) != (n : Int)) = false := by simp
      go_enter Tryd.func4, Tryd.ntmps4
      go_wp2_with fail
      refine (MX.out).mono ?_; rintro e w1 ⟨rfl, hd⟩
      have HD := Lib.hid hd
      have hc := (hd.kp.cell (p := ad) hl0).trans HC.out
      clear hd
      go_wp2_with fail
      go_ret
      exact ⟨by rw [E2.out]; rfl, HD.out⟩
    · have E2 := Lib.hid (show z = 3 by rw [EV.out, if_pos hq])
      have e1 : ((n : Int) != (q : Int)) = true := by rw [bne_iff_ne]; omega
      go_enter Tryd.func4, Tryd.ntmps4
      go_wp2_with fail
      refine (MX.out).mono ?_; rintro e w1 ⟨rfl, hd⟩
      have HD := Lib.hid hd
      have hc := (hd.kp.cell (p := ad) hl0).trans HC.out
      clear hd
      go_wp2_with fail
      go_ret
      exact ⟨by rw [E2.out]; rfl, HD.out⟩
  · have EV : qcode most lo hi m = Mx.mcode most lo hi m := by unfold qcode; rw [if_neg (fun h => h0 h.1)]
    rw [EV]
    have e1 : ((Mx.mcode most lo hi m : Int) == 0) = false := by rw [beq_eq_false_iff_ne]; omega
    generalize Mx.mcode most lo hi m = z at *
    clear ha hn EV h0
    go_enter Tryd.func4, Tryd.ntmps4
    go_wp2_with fail
    refine (MX.out).mono ?_; rintro e w1 ⟨rfl, hd⟩
    have HD := Lib.hid hd
    clear hd
    go_wp2_with fail
    go_ret
    exact ⟨rfl, HD.out⟩
end Go.Proofs.YtdkdpklohfdpmaaDoor
