/- The law InvMul. -/
import Derived.Test.YtofdhdnffkhojaaDoorInFact
import Derived.Test.YtofdhdnffkhojaaDoorMtFact
namespace Go.Proofs.YtofdhdnffkhojaaDoor
open Go.ChangeShapes Go.WideShapes Go.ChangeAt Go.RowKit
set_option linter.unusedVariables false

theorem IOf_some (A : Option Addr) (m : List (List Int)) (n d : Nat) (hn : m.length = n) (w : World) (ha : LiesM w A m) :
    Calls Tryd.prog 11 #[.slice A n d] w fun e w' => ∃ v er, e = .returned (.tuple #[v, er]) ∧ Kp w w' := by
  rcases IOf_or A m n d hn with ⟨f, s, hd⟩ | ⟨z, bad⟩
  · have n0 := s.r0
    exact (IOf_sh (p := n - 1) s (by omega) hd d w ha).mono fun e w' ⟨g, he, _, hk⟩ => ⟨_, _, he, hk⟩
  · exact (bad w ha).mono fun e w' h => ⟨_, _, h.1, h.2⟩

set_option maxRecDepth 100000 in
set_option maxHeartbeats 6400000 in
theorem walk_InvMul (A : Option Addr) (a : List (List Int)) (c : Nat) (B : Option Addr) (b : List (List Int)) (c' : Nat) (w : World) (hl : Told.Laid w) (ha : LiesM w A a) (hb : LiesM w B b) :
    Calls Tryd.prog 5 #[.slice A a.length c, .slice B b.length c'] w fun e w' => e = .returned (.bool true) ∧ Kp w w' := by
  obtain ⟨n, hn⟩ : ∃ n, n = a.length := ⟨_, rfl⟩
  obtain ⟨m, hm⟩ : ∃ m, m = b.length := ⟨_, rfl⟩
  rw [← hn, ← hm]
  have HA := Lib.hid ha
  have HB := Lib.hid hb
  have FA := Lib.hid (invFact_any w hl)
  clear ha hb hl
  rcases IOf_or A a n c hn.symm with ⟨f, sa, hd⟩ | ⟨z, bad⟩
  · have SA := Lib.hid sa
    have n0 := sa.r0
    have n5 := sa.r5
    obtain ⟨p, hp⟩ : ∃ p, n = p + 1 := ⟨n - 1, by omega⟩
    have O1 := Lib.hid (fun w h => IOf_sh (A := A) sa hp hd c w h)
    rcases IOf_or B b m c' hm.symm with ⟨f', sb, hd'⟩ | ⟨z, bad⟩
    · have m0 := sb.r0
      obtain ⟨q, hq⟩ : ∃ q, m = q + 1 := ⟨m - 1, by omega⟩
      have O2 := Lib.hid (fun w h => IOf_sh (A := B) sb hq hd' c' w h)
      by_cases he : n = m
      · subst he
        obtain rfl : q = p := by omega
        have e1 : ((n : Int) != (n : Int)) = false := by rw [bne_eq_false_iff_eq]
        have un : Mx.Unm n f (Mx.invm q f) := by rw [hp] at hd ⊢; exact Mx.unm_invm q f hd
        have un' : Mx.Unm n f' (Mx.invm q f') := by rw [hp] at hd' ⊢; exact Mx.unm_invm q f' hd'
        have um := un.mul un'
        have hd3 := um.ne
        have um2 : Mx.Unm n (Mx.mul n f f') (Mx.invm q (Mx.mul n f f')) := by rw [hp] at hd3 ⊢; exact Mx.unm_invm q _ hd3
        have E1 := Lib.hid ((um2.one_of um).mat)
        have SB := Lib.hid sb
        have SI := Lib.hid (sa.inv (p := q))
        have SI' := Lib.hid (sb.inv (p := q))
        have O3 := Lib.hid (fun A d w h => IOf_sh (A := A) (sa.mul sb) hp hd3 d w h)
        rw [E1.out] at O3
        have SR := Lib.hid (show Sh n n (Mx.mul n (Mx.invm q f') (Mx.invm q f)) (Mx.matl n n (Mx.mul n (Mx.invm q f') (Mx.invm q f))) from ⟨rfl, n0, n5, n0, n5⟩)
        have R1 := Lib.hid (fun A B c d w ha hb => rows_eq A B _ _ n n c d w ha hb (Mx.len_matl _ _ _) (Mx.len_matl _ _ _) SR.out.modest SR.out.modest rfl)
        clear hn hm sa sb hd hd' un un' um um2 hd3 hp hq
        go_enter Tryd.func5, Tryd.ntmps5
        go_wp2_with fail
        refine (FA.out).mono ?_; rintro e w1 ⟨rfl, k1⟩
        have K := Lib.hid k1; clear k1
        go_wp2_with fail
        refine (O1.out w1 (HA.out.keep K.out)).mono ?_; rintro e w2 ⟨g2, rfl, l2, k2⟩
        replace K := Lib.hid (K.out.trans k2); have L2 := Lib.hid l2; clear k2 l2
        go_wp2_with fail
        refine (O2.out w2 (HB.out.keep K.out)).mono ?_; rintro e w3 ⟨g3, rfl, l3, k3⟩
        replace K := Lib.hid (K.out.trans k3); have L3 := Lib.hid l3; replace L2 := Lib.hid (L2.out.keep k3); clear k3 l3
        go_wp2_with fail
        refine (Mul_sh SA.out SB.out c c' w3 (HA.out.keep K.out) (HB.out.keep K.out)).mono ?_; rintro e w4 ⟨A4, c4, rfl, l4, k4⟩
        replace K := Lib.hid (K.out.trans k4); have L4 := Lib.hid l4; replace L2 := Lib.hid (L2.out.keep k4); replace L3 := Lib.hid (L3.out.keep k4); clear k4 l4
        go_wp2_with fail
        refine (O3.out A4 c4 w4 L4.out).mono ?_; rintro e w5 ⟨g5, rfl, l5, k5⟩
        replace K := Lib.hid (K.out.trans k5); have L5 := Lib.hid l5; replace L2 := Lib.hid (L2.out.keep k5); replace L3 := Lib.hid (L3.out.keep k5); clear k5 l5
        go_wp2_with fail
        refine (Mul_sh SI'.out SI.out n n w5 L3.out L2.out).mono ?_; rintro e w6 ⟨A6, c6, rfl, l6, k6⟩
        replace K := Lib.hid (K.out.trans k6); have L6 := Lib.hid l6; replace L5 := Lib.hid (L5.out.keep k6); clear k6 l6
        go_wp2_with fail
        refine (R1.out _ A6 n c6 w6 L5.out L6.out).mono ?_; rintro e w7 ⟨rfl, k7⟩
        replace K := Lib.hid (K.out.trans k7); clear k7
        go_wp2_with fail
        go_ret
        exact ⟨ret_bool (by simp), K.out⟩
      · have e1 : ((n : Int) != (m : Int)) = true := by rw [bne_iff_ne]; omega
        clear hn hm sa sb hd hd' he hp hq
        go_enter Tryd.func5, Tryd.ntmps5
        go_wp2_with fail
        refine (FA.out).mono ?_; rintro e w1 ⟨rfl, k1⟩
        have K := Lib.hid k1; clear k1
        go_wp2_with fail
        refine (O1.out w1 (HA.out.keep K.out)).mono ?_; rintro e w2 ⟨g2, rfl, l2, k2⟩
        replace K := Lib.hid (K.out.trans k2); clear k2 l2
        go_wp2_with fail
        refine (O2.out w2 (HB.out.keep K.out)).mono ?_; rintro e w3 ⟨g3, rfl, l3, k3⟩
        replace K := Lib.hid (K.out.trans k3); clear k3 l3
        go_wp2_with fail
        go_ret
        exact ⟨rfl, K.out⟩
    · have BAD := Lib.hid bad
      clear hn hm sa hd hp bad
      go_enter Tryd.func5, Tryd.ntmps5
      go_wp2_with fail
      refine (FA.out).mono ?_; rintro e w1 ⟨rfl, k1⟩
      have K := Lib.hid k1; clear k1
      go_wp2_with fail
      refine (O1.out w1 (HA.out.keep K.out)).mono ?_; rintro e w2 ⟨g2, rfl, l2, k2⟩
      replace K := Lib.hid (K.out.trans k2); clear k2 l2
      go_wp2_with fail
      refine (BAD.out w2 (HB.out.keep K.out)).mono ?_; rintro e w3 ⟨rfl, k3⟩
      replace K := Lib.hid (K.out.trans k3); clear k3
      go_wp2_with fail
      go_ret
      exact ⟨rfl, K.out⟩
  · have BAD := Lib.hid bad
    have ANY := Lib.hid (fun w h => IOf_some B b m c' hm.symm w h)
    clear hn hm bad
    go_enter Tryd.func5, Tryd.ntmps5
    go_wp2_with fail
    refine (FA.out).mono ?_; rintro e w1 ⟨rfl, k1⟩
    have K := Lib.hid k1; clear k1
    go_wp2_with fail
    refine (BAD.out w1 (HA.out.keep K.out)).mono ?_; rintro e w2 ⟨rfl, k2⟩
    replace K := Lib.hid (K.out.trans k2); clear k2
    go_wp2_with fail
    refine (ANY.out w2 (HB.out.keep K.out)).mono ?_; rintro e w3 ⟨v3, er3, rfl, k3⟩
    replace K := Lib.hid (K.out.trans k3); clear k3
    go_wp2_with fail
    go_ret
    exact ⟨rfl, K.out⟩

end Go.Proofs.YtofdhdnffkhojaaDoor
