/- The law MinorsAdj. -/
import Derived.Test.YtmkjfoecofeioaaMiFact
import Derived.Test.YtmkjfoecofeioaaDeMul
import Derived.Test.YtmkjfoecofeioaaMxRef2
namespace Go.Proofs.Ytmkjfoecofeioaa
open Go.ChangeShapes Go.WideShapes Go.ChangeAt Go.RowKit
set_option linter.unusedVariables false

/-- The one, of which the first k numbers are d. -/
def oneTo (d : Fp.F) (k : Nat) : Nat → Nat → Fp.F := fun a b => if a = b then (if a < k then d else 1) else 0
theorem oneTo_next (d : Fp.F) (k a b : Nat) : (if a = k ∧ b = k then ((d.val : Nat) : Int) else ((oneTo d k a b).val : Int)) = ((oneTo d (k + 1) a b).val : Int) := by
  unfold oneTo
  by_cases h : a = b
  · subst h
    rw [if_pos rfl, if_pos rfl]
    by_cases h2 : a = k
    · rw [if_pos ⟨h2, h2⟩, if_pos (by omega)]
    · rw [if_neg (fun h => h2 h.1)]
      by_cases h3 : a < k
      · rw [if_pos h3, if_pos (by omega)]
      · rw [if_neg h3, if_neg (by omega)]
  · rw [if_neg h, if_neg h, if_neg (fun h' => h (h'.1.trans h'.2.symm))]
theorem oneTo_all (d : Fp.F) (n : Nat) : Mx.matl n n (oneTo d n) = Mx.matl n n (Mx.scal d) := Mx.matl_ext fun a b ha _ => by
  show (if a = b then (if a < n then d else 1) else 0) = if a = b then d else 0
  rw [if_pos ha]

set_option maxRecDepth 100000 in
set_option maxHeartbeats 6400000 in
theorem walk_MinorsAdj (A : Option Addr) (a : List (List Int)) (c : Nat) (w : World) (ha : LiesM w A a) :
    Calls Try.prog 3 #[.slice A a.length c] w fun e w' => e = .returned (.bool true) ∧ Kp w w' := by
  obtain ⟨n, hn⟩ : ∃ n, n = a.length := ⟨_, rfl⟩
  rw [← hn]
  have HA := Lib.hid ha
  have FA := Lib.hid (minorsFact_any w)
  clear ha
  rcases Of_or A a n c hn.symm with ⟨f, sa⟩ | bad
  · have SA := Lib.hid sa
    have n0 := sa.r0
    have n5 := sa.r5
    obtain ⟨p, hp⟩ : ∃ p, n = p + 1 := ⟨n - 1, by omega⟩
    have HP := Lib.hid hp
    have TR := Lib.hid (show Mx.matl n n (Mx.mul n f (Mx.adj p f)) = Mx.matl n n (Mx.scal (Mx.dt n f)) by rw [hp]; exact (Mx.adj_right p f).mat)
    have TL := Lib.hid (show Mx.matl n n (Mx.mul n (Mx.adj p f) f) = Mx.matl n n (Mx.scal (Mx.dt n f)) by rw [hp]; exact (Mx.adj_left p f).mat)
    have TD := Lib.hid (show Mx.dt n (Mx.adj p f) = Fp.pw (Mx.dt n f) p by rw [hp]; exact Mx.adj_dt p f)
    obtain ⟨x, hx⟩ : ∃ x, x = Mx.dt n f := ⟨_, rfl⟩
    rw [← hx] at TR TL TD
    have IX := Lib.hid (fun w => law2In_any (x.val : Int) 0 9972 w true (in_el x))
    have OA := Lib.hid (fun w h => Of_sh (A := A) sa c w h)
    rw [← hx] at OA
    have AD := Lib.hid (fun w h => MAdj_sh (A := A) sa hp c w h)
    have sj : Sh n n (Mx.adj p f) (Mx.matl n n (Mx.adj p f)) := ⟨rfl, n0, n5, n0, n5⟩
    have SJ := Lib.hid sj
    have OB := Lib.hid (fun A d w h => Of_sh (A := A) sj d w h)
    rw [TD.out] at OB
    have UN := Lib.hid (fun w => rUnit_own n w (by omega))
    have PW := Lib.hid (fun w => refPow_any p x p w (Nat.le_refl _) (by omega))
    have hwp : IntKind.i64.wrap ((n : Int) - 1) = (p : Int) := by rw [IntWalk.i64_in _ (by omega)]; omega
    have hxv := gval x
    clear hn sa hx hp sj
    go_enter Try.func3, Try.ntmps3
    go_wp2_with fail
    refine (FA.out).mono ?_; rintro e w1 ⟨rfl, k1⟩
    have K1 := Lib.hid k1; clear k1
    go_wp2_with fail
    refine (OA.out w1 (HA.out.keep K1.out)).mono ?_; rintro e w2 ⟨rfl, k2⟩
    have K2 := Lib.hid (K1.out.trans k2); clear k2
    go_wp2_with fail
    refine (AD.out w2 (HA.out.keep K2.out)).mono ?_; rintro e w3 ⟨g3, rfl, l3, k3⟩
    have K3 := Lib.hid (K2.out.trans k3); have L3 := Lib.hid l3; clear k3 l3
    go_wp2_with fail
    refine (Mul_sh SA.out SJ.out c n w3 (HA.out.keep K3.out) L3.out).mono ?_; rintro e w4 ⟨A4, c4, rfl, l4, k4⟩
    rw [TR.out] at l4
    have K4 := Lib.hid (K3.out.trans k4); have L4 := Lib.hid l4; have L34 := Lib.hid (L3.out.keep k4); clear k4 l4
    go_wp2_with fail
    refine (Mul_sh SJ.out SA.out n c w4 L34.out (HA.out.keep K4.out)).mono ?_; rintro e w5 ⟨A5, c5, rfl, l5, k5⟩
    rw [TL.out] at l5
    have K5 := Lib.hid (K4.out.trans k5); have L5 := Lib.hid l5; have L35 := Lib.hid (L34.out.keep k5); have L45 := Lib.hid (L4.out.keep k5); clear k5 l5
    go_wp2_with fail
    refine (OB.out _ n w5 L35.out).mono ?_; rintro e w6 ⟨rfl, k6⟩
    have K6 := Lib.hid (K5.out.trans k6); have L46 := Lib.hid (L45.out.keep k6); have L56 := Lib.hid (L5.out.keep k6); clear k6
    go_wp2_with fail
    refine (IX.out w6).mono ?_; rintro e w7 ⟨rfl, rfl⟩
    go_wp2_with fail
    refine (UN.out w6).mono ?_; rintro e w7 ⟨v, G, C, rfl, ho, k7⟩
    obtain ⟨g, gc, rfl, hg⟩ := ho.some (by rw [Mx.len_matl]; exact n0)
    rw [Mx.len_matl] at ho ⊢
    have HO := Lib.hid (show OwnM w7 w6.heap.size (.slice (some ⟨g, 0, none⟩) n gc) G C (Mx.matl n n (oneTo x 0)) by
      rw [show Mx.matl n n (oneTo x 0) = Mx.matl n n Mx.one from Mx.matl_ext fun a b _ _ => by unfold oneTo Mx.one; rw [if_neg (Nat.not_lt_zero a)]]; exact ho)
    have K7 := Lib.hid k7
    clear ho k7
    go_wp2_with fail
    go_loopw [14] (fun i wr => ∃ k : Nat, k ≤ n ∧ i = .int .i64 (k : Int) ∧ OwnM wr w6.heap.size (.slice (some ⟨g, 0, none⟩) n gc) G C (Mx.matl n n (oneTo x k)) ∧ Kp w6 wr) (fun i _ => n - (intOf i).toNat)
    case atStart => exact ⟨0, Nat.zero_le _, rfl, HO.out, K7.out⟩
    case round =>
      obtain ⟨k, hk, rfl, hq, hkq⟩ := hrel
      clear HO K7
      have HQ := Lib.hid hq
      have HKQ := Lib.hid hkq
      clear hq hkq
      by_cases hlt : k < n
      · have y1 := HQ.out.head (i := k) (by rw [Mx.len_matl]; exact hlt)
        rw [Mx.matl, Mx.tab_len _ _ _ _ hlt] at y1
        have y2 := HQ.out.el (i := k) (j := k) (by rw [Mx.len_matl]; exact hlt) (by rw [Mx.matl, Mx.tab_len _ _ _ _ hlt]; exact hlt)
        have y3 := HQ.out.free (i := k) (by rw [Mx.len_matl]; exact hlt) k
        have hGk := (HQ.out.lt (i := k) (by rw [Mx.len_matl]; exact hlt)).1
        have HN := Lib.hid (show OwnM (wr.setCell ⟨G k, k, none⟩ (.int .i64 (x.val : Int))) w6.heap.size (.slice (some ⟨g, 0, none⟩) n gc) G C (Mx.matl n n (oneTo x (k + 1))) from
          (HQ.out.put hlt k (x.val : Int)).ext fun a b _ _ => oneTo_next x k a b)
        have HKN := Lib.hid (HKQ.out.put (p := ⟨G k, k, none⟩) hGk (.int .i64 (x.val : Int)))
        clear hGk
        go_wp2_with fail
        go_roundw
        case rel => exact ⟨k + 1, by omega, by go_num, HN.out, HKN.out⟩
        case measure => simp [intOf]; omega
      · obtain rfl : k = n := by omega
        have hl := HQ.out.liesM
        rw [oneTo_all] at hl
        have HL := Lib.hid hl
        clear hl HQ
        have SX : Sh k k (Mx.scal x) (Mx.matl k k (Mx.scal x)) := ⟨rfl, n0, n5, n0, n5⟩
        have R1 := Lib.hid (fun A B c d w ha hb => rows_eq A B (Mx.matl k k (Mx.scal x)) (Mx.matl k k (Mx.scal x)) k k c d w ha hb (Mx.len_matl _ _ _) (Mx.len_matl _ _ _) SX.modest SX.modest rfl)
        clear SX
        go_wp2_with fail
        refine (R1.out A4 _ c4 gc wr (L46.out.keep HKQ.out) HL.out).mono ?_; rintro e w8 ⟨rfl, k8⟩
        have K8 := Lib.hid (HKQ.out.trans k8); have HL8 := Lib.hid (HL.out.keep k8); clear k8
        go_wp2_with fail
        refine (R1.out A5 _ c5 gc w8 (L56.out.keep K8.out) HL8.out).mono ?_; rintro e w9 ⟨rfl, k9⟩
        have K9 := Lib.hid (K6.out.trans (K8.out.trans k9)); clear k9
        go_wp2_with fail
        refine (PW.out w9).mono ?_; rintro e w10 ⟨rfl, rfl⟩
        go_wp2_with fail
        go_ret
        exact ⟨ret_bool (by simp), K9.out⟩
  · have BAD := Lib.hid bad
    clear hn bad
    go_enter Try.func3, Try.ntmps3
    go_wp2_with fail
    refine (FA.out).mono ?_; rintro e w1 ⟨rfl, k1⟩
    have K1 := Lib.hid k1; clear k1
    go_wp2_with fail
    refine (BAD.out w1 (HA.out.keep K1.out)).mono ?_; rintro e w2 ⟨z, rfl, k2⟩
    have K2 := Lib.hid (K1.out.trans k2); clear k2
    go_wp2_with fail
    go_ret
    exact ⟨rfl, K2.out⟩

end Go.Proofs.Ytmkjfoecofeioaa
