/- The law InvBack. -/
import Derived.Test.YtofdhdnffkhojaaDoorInFact
import Derived.Test.YtofdhdnffkhojaaDoorMtFact
namespace Go.Proofs.YtofdhdnffkhojaaDoor
open Go.ChangeShapes Go.WideShapes Go.ChangeAt Go.RowKit
set_option linter.unusedVariables false

set_option maxRecDepth 100000 in
set_option maxHeartbeats 6400000 in
theorem walk_InvBack (A : Option Addr) (a : List (List Int)) (c : Nat) (w : World) (hl : Told.Laid w) (ha : LiesM w A a) :
    Calls Tryd.prog 4 #[.slice A a.length c] w fun e w' => e = .returned (.bool true) ∧ Kp w w' := by
  obtain ⟨n, hn⟩ : ∃ n, n = a.length := ⟨_, rfl⟩
  rw [← hn]
  have HA := Lib.hid ha
  have FA := Lib.hid (invFact_any w hl)
  clear ha hl
  rcases IOf_or A a n c hn.symm with ⟨f, sa, hd⟩ | ⟨z, bad⟩
  · have SA := Lib.hid sa
    have n0 := sa.r0
    have n5 := sa.r5
    obtain ⟨p, hp⟩ : ∃ p, n = p + 1 := ⟨n - 1, by omega⟩
    have un : Mx.Unm n f (Mx.invm p f) := by rw [hp] at hd ⊢; exact Mx.unm_invm p f hd
    have hd2 : Mx.dt n (Mx.invm p f) ≠ 0 := un.symm.ne
    have un2 : Mx.Unm n (Mx.invm p f) (Mx.invm p (Mx.invm p f)) := by rw [hp] at hd2 ⊢; exact Mx.unm_invm p _ hd2
    have E1 := Lib.hid (un.right.mat)
    have E2 := Lib.hid (un.left.mat)
    have E3 := Lib.hid (show Mx.matl n n (Mx.invm p (Mx.invm p f)) = a by rw [(un2.one_of un.symm).mat, sa.eq])
    have SI := Lib.hid (sa.inv (p := p))
    have SO := Lib.hid (show Sh n n Mx.one (Mx.matl n n Mx.one) from ⟨rfl, n0, n5, n0, n5⟩)
    have O1 := Lib.hid (fun w h => IOf_sh (A := A) sa hp hd c w h)
    have O2 := Lib.hid (fun A d w h => IOf_sh (A := A) (sa.inv (p := p)) hp hd2 d w h)
    rw [E3.out] at O2
    have ON := Lib.hid (fun w => One_ok n w n0 n5)
    have R1 := Lib.hid (fun A B c d w ha hb => rows_eq A B (Mx.matl n n Mx.one) (Mx.matl n n Mx.one) n n c d w ha hb (Mx.len_matl _ _ _) (Mx.len_matl _ _ _) SO.out.modest SO.out.modest rfl)
    have R2 := Lib.hid (fun A B c d w ha hb => rows_eq A B a a n n c d w ha hb sa.len sa.len sa.modest sa.modest rfl)
    clear hn sa hd hd2 un un2 hp
    go_enter Tryd.func4, Tryd.ntmps4
    go_wp2_with fail
    refine (FA.out).mono ?_; rintro e w1 ⟨rfl, k1⟩
    have K := Lib.hid k1; clear k1
    go_wp2_with fail
    refine (O1.out w1 (HA.out.keep K.out)).mono ?_; rintro e w2 ⟨g2, rfl, l2, k2⟩
    replace K := Lib.hid (K.out.trans k2); have L2 := Lib.hid l2; clear k2 l2
    go_wp2_with fail
    refine (Mul_sh SA.out SI.out c n w2 (HA.out.keep K.out) L2.out).mono ?_; rintro e w3 ⟨A3, c3, rfl, l3, k3⟩
    rw [E1.out] at l3
    replace K := Lib.hid (K.out.trans k3); have L3 := Lib.hid l3; replace L2 := Lib.hid (L2.out.keep k3); clear k3 l3
    go_wp2_with fail
    refine (Mul_sh SI.out SA.out n c w3 L2.out (HA.out.keep K.out)).mono ?_; rintro e w4 ⟨A4, c4, rfl, l4, k4⟩
    rw [E2.out] at l4
    replace K := Lib.hid (K.out.trans k4); have L4 := Lib.hid l4; replace L2 := Lib.hid (L2.out.keep k4); replace L3 := Lib.hid (L3.out.keep k4); clear k4 l4
    go_wp2_with fail
    refine (O2.out _ n w4 L2.out).mono ?_; rintro e w5 ⟨g5, rfl, l5, k5⟩
    replace K := Lib.hid (K.out.trans k5); have L5 := Lib.hid l5; replace L3 := Lib.hid (L3.out.keep k5); replace L4 := Lib.hid (L4.out.keep k5); clear k5 l5
    go_wp2_with fail
    refine (ON.out w5).mono ?_; rintro e w6 ⟨A6, d6, rfl, _, l6, k6⟩
    rw [Mx.len_matl]
    replace K := Lib.hid (K.out.trans k6); have L6 := Lib.hid l6; replace L3 := Lib.hid (L3.out.keep k6); replace L4 := Lib.hid (L4.out.keep k6); replace L5 := Lib.hid (L5.out.keep k6); clear k6 l6
    go_wp2_with fail
    refine (R1.out A3 A6 c3 d6 w6 L3.out L6.out).mono ?_; rintro e w7 ⟨rfl, k7⟩
    replace K := Lib.hid (K.out.trans k7); replace L6 := Lib.hid (L6.out.keep k7); replace L4 := Lib.hid (L4.out.keep k7); replace L5 := Lib.hid (L5.out.keep k7); clear k7 L3
    go_wp2_with fail
    refine (R1.out A4 A6 c4 d6 w7 L4.out L6.out).mono ?_; rintro e w8 ⟨rfl, k8⟩
    replace K := Lib.hid (K.out.trans k8); replace L5 := Lib.hid (L5.out.keep k8); clear k8 L4 L6
    go_wp2_with fail
    refine (R2.out _ A n c w8 L5.out (HA.out.keep K.out)).mono ?_; rintro e w9 ⟨rfl, k9⟩
    replace K := Lib.hid (K.out.trans k9); clear k9 L5
    go_wp2_with fail
    go_ret
    exact ⟨ret_bool (by simp), K.out⟩
  · have BAD := Lib.hid bad
    clear hn bad
    go_enter Tryd.func4, Tryd.ntmps4
    go_wp2_with fail
    refine (FA.out).mono ?_; rintro e w1 ⟨rfl, k1⟩
    have K1 := Lib.hid k1; clear k1
    go_wp2_with fail
    refine (BAD.out w1 (HA.out.keep K1.out)).mono ?_; rintro e w2 ⟨rfl, k2⟩
    have K2 := Lib.hid (K1.out.trans k2); clear k2
    go_wp2_with fail
    go_ret
    exact ⟨rfl, K2.out⟩

end Go.Proofs.YtofdhdnffkhojaaDoor
