/- Contracts of the document's answer on rows of whole numbers: Abs, what is wrong with rows. -/
import Derived.Test.YteobamakmmoljaaDoorZDetH
import Derived.Test.YteobamakmmoljaaDoorHmC5
namespace Go.Proofs.YteobamakmmoljaaDoor
open Go.ChangeShapes Go.WideShapes Go.ChangeAt Go.RowKit
set_option linter.unusedVariables false

theorem absZ_any (n : Int) (w : World) (h1 : -4000000000000000000 ≤ n) (h2 : n ≤ 4000000000000000000) :
    Calls Tryd.prog 18 #[.int .i64 n] w fun e w' => e = .returned (.int .i64 (Zx.ab n)) ∧ w = w' := by
  by_cases h : n < 0
  · rw [show Zx.ab n = -n by unfold Zx.ab; omega]
    have hw : IntKind.i64.wrap (-n) = -n := IntWalk.i64_in _ (by omega)
    go_enter Tryd.func18, Tryd.ntmps18
    go_wp2
    go_ret
    exact ⟨rfl, rfl⟩
  · rw [show Zx.ab n = n by unfold Zx.ab; omega]
    go_enter Tryd.func18, Tryd.ntmps18
    go_wp2
    go_ret
    exact ⟨rfl, rfl⟩
theorem Shh.det {n : Nat} {x : Nat → Nat → Int} {m : List (List Int)} (s : Shh n x m) (A : Option Addr) (d : Nat) (w : World) (ha : LiesM w A m) :
    Calls Tryd.prog 15 #[.slice A n d] w fun e w' => e = .returned (.int .i64 (Zx.dt n x)) ∧ Kp w w' :=
  rDetH_any n (by have := s.n3; omega) A x d w (fun i j hi hj => by have := s.ab i j hi hj; omega) (by rw [← s.eq]; exact ha)
theorem rHRows_any (A : Option Addr) (m : List (List Int)) (n d : Nat) (w : World) (ha : LiesM w A m) (hn : m.length = n) :
    Calls Tryd.prog 4 #[.slice A n d] w fun e w' => e = .returned (.int .i64 (hcd m : Int)) ∧ Kp w w' := by
  have SQ := rSquare_any A m n d 3 (-20) 20 w ha hn (by omega)
  have hq5 := qcode_le 3 (-20) 20 m
  rcases shh_or m hn with ⟨x, s⟩ | h
  · rw [s.code] at SQ
    have SQ := Lib.hid SQ
    have DT := Lib.hid (fun w' (k : Kp w w') => s.det A d w' (ha.keep k))
    have hc := s.hcd
    by_cases hd : Zx.dt n x = 0
    · rw [if_pos hd] at hc
      rw [hc]
      rw [hd] at DT
      clear ha hn s hd hc hq5
      go_enter Tryd.func4, Tryd.ntmps4
      go_wp2_with fail
      refine (SQ.out).mono ?_; rintro e w1 ⟨rfl, hd1⟩
      have K1 := Lib.hid hd1.kp
      clear hd1
      go_wp2_with fail
      refine (DT.out w1 K1.out).mono ?_; rintro e w2 ⟨rfl, k2⟩
      have K2 := Lib.hid (K1.out.trans k2)
      clear k2
      go_wp2_with fail
      go_ret
      exact ⟨rfl, K2.out⟩
    · rw [if_neg hd] at hc
      rw [hc]
      have e0 : (Zx.dt n x == 0) = false := by rw [beq_eq_false_iff_ne]; exact hd
      generalize Zx.dt n x = D at *
      clear ha hn s hd hc hq5
      go_enter Tryd.func4, Tryd.ntmps4
      go_wp2_with fail
      refine (SQ.out).mono ?_; rintro e w1 ⟨rfl, hd1⟩
      have K1 := Lib.hid hd1.kp
      clear hd1
      go_wp2_with fail
      refine (DT.out w1 K1.out).mono ?_; rintro e w2 ⟨rfl, k2⟩
      have K2 := Lib.hid (K1.out.trans k2)
      clear k2
      go_wp2_with fail
      go_ret
      exact ⟨rfl, K2.out⟩
  · have hc : hcd m = qcode 3 (-20) 20 m := by unfold hcd; rw [if_pos h]
    rw [hc]
    have e0 : (((qcode 3 (-20) 20 m : Nat) : Int) == 0) = false := by rw [beq_eq_false_iff_ne]; omega
    have SQ := Lib.hid SQ
    generalize qcode 3 (-20) 20 m = z at *
    clear ha hn h hc hq5
    go_enter Tryd.func4, Tryd.ntmps4
    go_wp2_with fail
    refine (SQ.out).mono ?_; rintro e w1 ⟨rfl, hd1⟩
    have K1 := Lib.hid hd1.kp
    clear hd1
    go_wp2_with fail
    go_ret
    exact ⟨rfl, K1.out⟩
end Go.Proofs.YteobamakmmoljaaDoor
