/- The law MinorsCramer. -/
import Derived.Test.YtmkjfoecofeioaaMiFact
import Derived.Test.YtmkjfoecofeioaaDeSum
import Derived.Test.YtmkjfoecofeioaaSoR1
namespace Go.Proofs.Ytmkjfoecofeioaa
open Go.ChangeShapes Go.WideShapes Go.ChangeAt Go.RowKit
set_option linter.unusedVariables false

/-- Column j, of which the first k numbers are another one's. -/
def colTo (j k : Nat) (u : Nat → Fp.F) (f : Nat → Nat → Fp.F) : Nat → Nat → Fp.F := fun a b => if b = j ∧ a < k then u a else f a b
theorem colTo_next (j k : Nat) (u : Nat → Fp.F) (f : Nat → Nat → Fp.F) (a b : Nat) : (if a = k ∧ b = j then ((u k).val : Int) else ((colTo j k u f a b).val : Int)) = ((colTo j (k + 1) u f a b).val : Int) := by
  unfold colTo
  by_cases h : b = j
  · by_cases h2 : a = k
    · rw [if_pos ⟨h2, h⟩, if_pos ⟨h, by omega⟩, h2]
    · rw [if_neg (fun h => h2 h.1)]
      by_cases h3 : a < k
      · rw [if_pos ⟨h, h3⟩, if_pos ⟨h, by omega⟩]
      · rw [if_neg (fun h => h3 h.2), if_neg (fun h => by omega)]
  · rw [if_neg (fun h' => h h'.2), if_neg (fun h' => h h'.1), if_neg (fun h' => h h'.1)]
theorem colTo_all (j n : Nat) (u : Nat → Fp.F) (f : Nat → Nat → Fp.F) : Mx.matl n n (colTo j n u f) = Mx.matl n n (Mx.setc j u f) := Mx.matl_ext fun a b ha _ => by
  show (if b = j ∧ a < n then u a else f a b) = if b = j then u a else f a b
  by_cases h : b = j
  · rw [if_pos ⟨h, ha⟩, if_pos h]
  · rw [if_neg (fun h' => h h'.1), if_neg h]

set_option maxRecDepth 100000 in
set_option maxHeartbeats 6400000 in
theorem walk_MinorsCramer (A : Option Addr) (a : List (List Int)) (c : Nat) (X : Option Addr) (l : List Int) (d : Nat) (w : World) (ha : LiesM w A a) (hl : Lies w X l) :
    Calls Try.prog 4 #[.slice A a.length c, .slice X l.length d] w fun e w' => e = .returned (.bool true) ∧ Kp w w' := by
  obtain ⟨n, hn⟩ : ∃ n, n = a.length := ⟨_, rfl⟩
  obtain ⟨q, hq⟩ : ∃ q, q = l.length := ⟨_, rfl⟩
  rw [← hn, ← hq]
  have HA := Lib.hid ha
  have HX := Lib.hid hl
  have HQ := Lib.hid hq
  have FA := Lib.hid (minorsFact_any w)
  clear ha hl hq
  rcases Of_or A a n c hn.symm with ⟨f, sa⟩ | bad
  · have SA := Lib.hid sa
    have n0 := sa.r0
    have n5 := sa.r5
    obtain ⟨x, hx⟩ : ∃ x, x = Mx.dt n f := ⟨_, rfl⟩
    have HXD := Lib.hid hx
    have IX := Lib.hid (fun w => law2In_any (x.val : Int) 0 9972 w true (in_el x))
    have OA := Lib.hid (fun w h => Of_sh (A := A) sa c w h)
    rw [← hx] at OA
    have hxv := gval x
    clear hn sa hx
    by_cases hqn : q = n
    · subst hqn
      have AL := Lib.hid (fun w h => all_any X l d 0 9972 w h (by rw [← HQ.out]; omega))
      rw [← HQ.out] at AL
      have e0 : ((q : Int) != (q : Int)) = false := by simp
      by_cases hall : AllIn l 0 9972
      · have AT := Lib.hid (fun w h => (AL.out w h).mono fun e w' h' => show e = .returned (.bool true) ∧ w = w' from ⟨tells_yes h'.1 hall, h'.2⟩)
        obtain ⟨u, hu⟩ := row_F HQ.out.symm hall
        have HU := Lib.hid hu
        have ha1 := HA.out
        rw [SA.out.eq] at ha1
        have HM := Lib.hid ha1
        have hx1 := HX.out
        rw [hu] at hx1
        have HXR := Lib.hid hx1
        have TO := Lib.hid (fun w ha hx => rTo_any A X f u q q c d w ha hx (by omega) (by omega))
        have CR := Lib.hid (fun (k : Nat) (hk : k < q) => show Mx.dt q (Mx.setc k (Mx.tov q f u) f) = x * u k by rw [HXD.out]; exact Mx.cramer q k f u hk)
        generalize Mx.tov q f u = t at *
        clear AL hall hu ha1 hx1
        go_enter Try.func4, Try.ntmps4
        go_wp2_with fail
        refine (FA.out).mono ?_; rintro e w1 ⟨rfl, k1⟩
        have K1 := Lib.hid k1; clear k1
        go_wp2_with fail
        refine (OA.out w1 (HA.out.keep K1.out)).mono ?_; rintro e w2 ⟨rfl, k2⟩
        have K2 := Lib.hid (K1.out.trans k2); clear k2
        go_wp2_with fail
        refine (AT.out w2 (HX.out.keep K2.out)).mono ?_; rintro e w3 ⟨rfl, rfl⟩
        go_wp2_with fail
        refine (IX.out w2).mono ?_; rintro e w3 ⟨rfl, rfl⟩
        go_wp2_with fail
        refine (TO.out w2 (HM.out.keep K2.out) (HXR.out.keep K2.out)).mono ?_; rintro e w4 ⟨T, dt, rfl, lt, k4⟩
        have K4 := Lib.hid (K2.out.trans k4); have LT := Lib.hid lt; clear k4 lt
        go_wp2_with fail
        go_loopw [9] (fun i wr => ∃ k : Nat, k ≤ q ∧ i = .int .i64 (k : Int) ∧ Kp w4 wr) (fun i _ => q - (intOf i).toNat)
        case atStart => exact ⟨0, Nat.zero_le _, rfl, Kp.rfl' _⟩
        case round =>
          obtain ⟨k, hk, rfl, hkp⟩ := hrel
          have HK := Lib.hid hkp
          clear hkp
          by_cases hlt : k < q
          · obtain ⟨w5, hw5⟩ : ∃ x, x = wr := ⟨_, rfl⟩
            subst hw5
            go_wp2_with fail
            refine (rCopy_any A f q q c w5 (HM.out.keep (K4.out.trans HK.out)) n0 (by omega) (by omega)).mono ?_; rintro e w6 ⟨v, G, C, rfl, ho, k6⟩
            obtain ⟨g, gc, rfl, hg⟩ := ho.some (by rw [Mx.len_matl]; exact n0)
            rw [Mx.len_matl] at ho ⊢
            have HO := Lib.hid (show OwnM w6 w5.heap.size (.slice (some ⟨g, 0, none⟩) q gc) G C (Mx.matl q q (colTo k 0 t f)) by
              rw [show Mx.matl q q (colTo k 0 t f) = Mx.matl q q f from Mx.matl_ext fun a b _ _ => by unfold colTo; rw [if_neg (fun h => Nat.not_lt_zero a h.2)]]; exact ho)
            have K6 := Lib.hid k6
            clear ho k6
            go_wp2_with fail
            go_loopw [11] (fun i wq => ∃ m : Nat, m ≤ q ∧ i = .int .i64 (m : Int) ∧ OwnM wq w5.heap.size (.slice (some ⟨g, 0, none⟩) q gc) G C (Mx.matl q q (colTo k m t f)) ∧ Kp w5 wq) (fun i _ => q - (intOf i).toNat)
            case atStart => exact ⟨0, Nat.zero_le _, rfl, HO.out, K6.out⟩
            case round =>
              clear HO K6
              obtain ⟨m, hm, rfl, ho, hkq⟩ := hrel
              have HO := Lib.hid ho
              have HKQ := Lib.hid hkq
              by_cases hlt2 : m < q
              · have y1 := ho.weak.head hlt2
                have y2 := ho.weak.free hlt2 k
                have y4 := ho.weak.el hlt2 hlt
                have y3 := (ho.weak.lt hlt2).1
                obtain ⟨td, rfl, _, z1⟩ := (LT.out.keep (HK.out.trans hkq)).el hlt2
                have HY3 := Lib.hid y3
                have HN := Lib.hid (fun (W : World) (h : OwnM W w5.heap.size (.slice (some ⟨g, 0, none⟩) q gc) G C (Mx.matl q q (colTo k m t f))) => (show OwnM (W.setCell ⟨G m, k, none⟩ (.int .i64 ((t m).val : Int))) w5.heap.size (.slice (some ⟨g, 0, none⟩) q gc) G C (Mx.matl q q (colTo k (m + 1) t f)) from
                  (h.put hlt2 k ((t m).val : Int)).ext fun a b _ _ => colTo_next k m t f a b))
                obtain ⟨z, hz⟩ : ∃ z, z = ((t m).val : Int) := ⟨_, rfl⟩
                rw [← hz] at z1 HN
                generalize ((colTo k m t f m k).val : Int) = y5 at *
                clear ho hkq y3 hz
                go_wp2_with fail
                go_still_tail 10, (by kernel_rfl)
                change wpList _ _ _ _ _ wr.drew
                go_wp2_with fail
                go_roundw
                case rel => exact ⟨m + 1, by omega, by go_num, HN.out _ (HO.out.drewN 1), (HKQ.out.drewN 1).put (p := ⟨G m, k, none⟩) HY3.out _⟩
                case measure => simp [intOf]; omega
              · obtain rfl : m = q := by omega
                have hl := ho.liesM
                rw [colTo_all] at hl
                have HL := Lib.hid hl
                have OB := Lib.hid (fun w h => Of_sh (A := some ⟨g, 0, none⟩) (show Sh m m (Mx.setc k t f) (Mx.matl m m (Mx.setc k t f)) from ⟨rfl, n0, n5, n0, n5⟩) gc w h)
                rw [CR.out k hlt] at OB
                obtain ⟨ud, ue, hub, z1⟩ := (HXR.out.keep ((K4.out.trans HK.out).trans hkq)).el hlt
                subst ue
                have Z1 := Lib.hid z1
                have hb := times_bound x (u k)
                have hv := gval (u k)
                have MO := Lib.hid (fun w => rMod_any ((x.val : Int) * ((u k).val : Int)) w (by omega) (by omega))
                rw [← Fp.mul_val] at MO
                generalize x * u k = xu at *
                generalize ((u k).val : Int) = uv at *
                have hwm : IntKind.i64.wrap ((x.val : Int) * uv) = (x.val : Int) * uv := IntWalk.i64_in _ (by omega)
                clear ho hkq hl hb z1
                go_wp2_with fail
                refine (OB.out _ HL.out).mono ?_; rintro e w7 ⟨rfl, k7⟩
                have z1 := (k7.cell (p := ud.add k) (by rw [block_add]; exact hub)).trans Z1.out
                have K7 := Lib.hid (HK.out.trans (HKQ.out.trans k7)); clear k7
                go_wp2_with fail
                refine (MO.out w7).mono ?_; rintro e w8 ⟨rfl, rfl⟩
                go_wp2_with fail
                go_roundw
                case rel => exact ⟨k + 1, by omega, by go_num, K7.out⟩
                case measure => simp [intOf]; omega
          · obtain rfl : k = q := by omega
            go_wp2_with fail
            go_ret
            exact ⟨rfl, K4.out.trans HK.out⟩
      · have AT := Lib.hid (fun w h => (AL.out w h).mono fun e w' h' => show e = .returned (.bool false) ∧ w = w' from ⟨tells_no h'.1 hall, h'.2⟩)
        clear AL hall
        go_enter Try.func4, Try.ntmps4
        go_wp2_with fail
        refine (FA.out).mono ?_; rintro e w1 ⟨rfl, k1⟩
        have K1 := Lib.hid k1; clear k1
        go_wp2_with fail
        refine (OA.out w1 (HA.out.keep K1.out)).mono ?_; rintro e w2 ⟨rfl, k2⟩
        have K2 := Lib.hid (K1.out.trans k2); clear k2
        go_wp2_with fail
        refine (AT.out w2 (HX.out.keep K2.out)).mono ?_; rintro e w3 ⟨rfl, rfl⟩
        go_wp2_with fail
        refine (IX.out w2).mono ?_; rintro e w3 ⟨rfl, rfl⟩
        go_wp2_with fail
        go_ret
        exact ⟨rfl, K2.out⟩
    · have e0 : ((q : Int) != (n : Int)) = true := by rw [bne_iff_ne]; omega
      clear hqn
      go_enter Try.func4, Try.ntmps4
      go_wp2_with fail
      refine (FA.out).mono ?_; rintro e w1 ⟨rfl, k1⟩
      have K1 := Lib.hid k1; clear k1
      go_wp2_with fail
      refine (OA.out w1 (HA.out.keep K1.out)).mono ?_; rintro e w2 ⟨rfl, k2⟩
      have K2 := Lib.hid (K1.out.trans k2); clear k2
      go_wp2_with fail
      refine (IX.out w2).mono ?_; rintro e w3 ⟨rfl, rfl⟩
      go_wp2_with fail
      go_ret
      exact ⟨rfl, K2.out⟩
  · have BAD := Lib.hid bad
    clear hn bad
    go_enter Try.func4, Try.ntmps4
    go_wp2_with fail
    refine (FA.out).mono ?_; rintro e w1 ⟨rfl, k1⟩
    have K1 := Lib.hid k1; clear k1
    go_wp2_with fail
    refine (BAD.out w1 (HA.out.keep K1.out)).mono ?_; rintro e w2 ⟨z, rfl, k2⟩
    have K2 := Lib.hid (K1.out.trans k2); clear k2
    go_wp2_with fail
    go_ret
    exact ⟨rfl, K2.out⟩

end Go.Proofs.Ytmkjfoecofeioaa
