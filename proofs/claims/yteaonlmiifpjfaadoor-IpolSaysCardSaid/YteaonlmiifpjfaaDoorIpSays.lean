/- The law IpolSays: the program and the document's answer agree. -/
import Derived.Test.YteaonlmiifpjfaaDoorIpRef
import Derived.Test.YteaonlmiifpjfaaDoorErrK
import Derived.StillTailTactics
namespace Go.Proofs.YteaonlmiifpjfaaDoor
open Go.ChangeShapes Go.WideShapes Go.ChangeAt Go.RowKit
set_option linter.unusedVariables false

/-- Error says yes to the error that is told. -/
theorem error_says (c : Nat) (w : World) (hl : Told.Laid w) (hc : c ≤ 100) :
    Calls Tryd.prog 5 #[errOf c, .int .i64 (c : Int)] w fun e w' => e = .returned (.bool true) ∧ Kp w w' := by
  by_cases h : c = 0
  · subst h; exact errorK_nil 0 w true rfl
  · rw [errOf_ne c h]
    exact errorK_hit c c w hl (by omega) true (by simp)
theorem ints_nil (w : World) : Calls Tryd.prog 9 #[.slice none 0 0, .slice none 0 0] w fun e w' => e = .returned (.bool true) ∧ Kp w w' :=
  ints_eq' Option.none Option.none [] [] 0 0 0 0 w (Lies.empty _ _) (Lies.empty _ _) rfl rfl (by omega) rfl

set_option maxRecDepth 100000 in
set_option maxHeartbeats 3200000 in
theorem ipsays_bad (A B : Option Addr) (l m : List Int) (ca cb : Nat) (w : World) (hl : Told.Laid w) (ha : Lies w A l) (hb : Lies w B m) (lc : l.length ≤ ca) (bad : dcode l m ≠ 0) :
    Calls Tryd.prog 3 #[.slice A l.length ca, .slice B m.length cb] w fun e w' => e = .returned (.bool true) ∧ Kp w w' := by
  have HL := Lib.hid hl
  have DOT := Lib.hid (refDots_any A B l m ca cb w ha hb lc)
  have CHK := Lib.hid (fun (wx : World) (hx : Kp w wx) => ipCheck_any A B l m ca cb wx (ha.keep hx) (hb.keep hx) lc)
  have THR := Lib.hid (fun (wx : World) (hx : Kp w wx) => through_bad A B l m ca cb wx (ha.keep hx) (hb.keep hx) lc bad)
  have STP := Lib.hid (fun (wx : World) (hx : Kp w wx) => steps_bad A B l m ca cb wx (ha.keep hx) (hb.keep hx) lc bad)
  have HC := Lib.hid (show dcode l m ≤ 100 by rcases dcode_some l m with h | h | h | h | h <;> omega)
  have c0 : ((dcode l m : Int) == 0) = false := by rw [beq_eq_false_iff_ne]; omega
  unfold Fails at THR STP
  unfold SaysCode at DOT
  clear hl ha hb lc bad
  generalize dcode l m = c at *
  generalize l.length = n1 at *
  generalize m.length = n2 at *
  have ERR := Lib.hid (fun (wx : World) (hx : Kp w wx) => error_says c wx (laid_kp HL.out hx) HC.out)
  generalize errOf c = ec at *
  go_enter Tryd.func3, Tryd.ntmps3
  go_wp2_with fail
  refine (DOT.out).mono ?_; rintro e w1 ⟨rfl, hd⟩
  have K1 := Lib.hid hd.kp
  clear hd
  go_wp2_with fail
  refine (CHK.out _ K1.out).mono ?_; rintro e w' ⟨rfl, rfl⟩
  go_wp2_with fail
  refine (ERR.out _ K1.out).mono ?_; rintro e w2 ⟨rfl, hk⟩
  have K2 := Lib.hid (K1.out.trans hk)
  clear hk
  go_wp2_with fail
  refine (THR.out _ K2.out).mono ?_; rintro e w3 ⟨rfl, hk⟩
  have K3 := Lib.hid (K2.out.trans hk)
  clear hk
  go_wp2_with fail
  refine (ERR.out _ K3.out).mono ?_; rintro e w4 ⟨rfl, hk⟩
  have K4 := Lib.hid (K3.out.trans hk)
  clear hk
  go_wp2_with fail
  refine (ints_nil _).mono ?_; rintro e w5 ⟨rfl, hk⟩
  have K5 := Lib.hid (K4.out.trans hk)
  clear hk
  go_wp2_with fail
  refine (STP.out _ K5.out).mono ?_; rintro e w6 ⟨rfl, hk⟩
  have K6 := Lib.hid (K5.out.trans hk)
  clear hk
  go_wp2_with fail
  refine (ERR.out _ K6.out).mono ?_; rintro e w7 ⟨rfl, hk⟩
  have K7 := Lib.hid (K6.out.trans hk)
  clear hk
  go_wp2_with fail
  refine (ints_nil _).mono ?_; rintro e w8 ⟨rfl, hk⟩
  have K8 := Lib.hid (K7.out.trans hk)
  clear hk
  go_wp2_with fail
  go_ret
  exact ⟨rfl, K8.out⟩

theorem row_snoc (n : Nat) (g : Nat → Fp.F) : Pol.row (n + 1) g = Pol.row n g ++ [g n] := by
  unfold Pol.row; rw [List.range_succ, List.map_append]; rfl
theorem co_take (p : List Fp.F) (k i : Nat) (h : i < k) : Pol.co (p.take k) i = Pol.co p i := by
  unfold Pol.co
  rw [List.getD_eq_getElem?_getD, List.getD_eq_getElem?_getD, List.getElem?_take_of_lt h]

set_option maxRecDepth 100000 in
set_option maxHeartbeats 6400000 in
theorem ipsays_ok (A B : Option Addr) (p q : List Fp.F) (n ca cb : Nat) (w : World) (hl : Told.Laid w) (ha : Lies w A (Pol.vals p)) (hb : Lies w B (Pol.vals q)) (hp : n = p.length) (hq : n = q.length) (ln : n ≤ 6) (lc : n ≤ ca) (ld : n ≤ cb) (hX : Pol.Apart (Pol.co p) n) :
    Calls Tryd.prog 3 #[.slice A n ca, .slice B n cb] w fun e w' => e = .returned (.bool true) ∧ Kp w w' := by
  have HL := Lib.hid hl
  have HA := Lib.hid ha
  have HB := Lib.hid hb
  have HP := Lib.hid hp
  have HQ := Lib.hid hq
  have HX := Lib.hid hX
  have LC := Lib.hid lc
  have LD := Lib.hid ld
  have e0 : dcode (Pol.vals p) (Pol.vals q) = 0 := dcode_vals (by omega) (by omega) (by rw [← hp]; exact hX)
  have DOT := Lib.hid (refDots_any A B (Pol.vals p) (Pol.vals q) ca cb w ha hb (by rw [Pol.len_vals]; omega))
  have CHK := Lib.hid (fun (wx : World) (hx : Kp w wx) => ipCheck_any A B (Pol.vals p) (Pol.vals q) ca cb wx (ha.keep hx) (hb.keep hx) (by rw [Pol.len_vals]; omega))
  simp only [e0, Pol.len_vals, ← hp, ← hq, errOf_zero] at DOT CHK
  have THR := Lib.hid (fun (wx : World) (hx : Kp w wx) => through_ok A B p q n ca cb wx (ha.keep hx) (hb.keep hx) hp hq ln lc hX)
  have STP := Lib.hid (fun (wx : World) (hx : Kp w wx) => steps_ok A B p q n ca cb wx (ha.keep hx) (hb.keep hx) hp hq ln lc hX)
  have REF := Lib.hid (fun (wx : World) (hx : Kp w wx) => refThrough_any A B p q n ca cb wx (ha.keep hx) (hb.keep hx) hp hq ln hX)
  have ERR := Lib.hid (fun (wx : World) => errorK_nil 0 wx true rfl)
  have LA := Lib.hid (Pol.len_thr (Pol.co p) (Pol.co q) n (by omega))
  unfold SaysCode at DOT
  clear hl ha hb hp hq hX lc ld e0
  go_enter Tryd.func3, Tryd.ntmps3
  go_wp2_with fail
  refine (DOT.out).mono ?_; rintro e w1 ⟨rfl, hd⟩
  have K1 := Lib.hid hd.kp
  clear hd
  go_wp2_with fail
  refine (CHK.out _ K1.out).mono ?_; rintro e w' ⟨rfl, rfl⟩
  go_wp2_with fail
  refine (ERR.out _).mono ?_; rintro e w2 ⟨rfl, hk⟩
  have K2 := Lib.hid (K1.out.trans hk)
  clear hk
  go_wp2_with fail
  refine (REF.out _ K2.out).mono ?_; rintro e w3 ⟨Aw, cw, rfl, l, _, hk⟩
  have Lw := Lib.hid l
  have K3 := Lib.hid (K2.out.trans hk)
  clear l hk
  go_wp2_with fail
  go_loopw [8, 9] (fun v i wr => ∃ k : Nat, k ≤ n ∧ i = .int .i64 (k : Int) ∧ Own wr w3.heap.size v (Pol.vals (Pol.row k (stp p q))) ∧ Kp w3 wr) (fun _ i _ => n - (intOf i).toNat)
  case atStart => exact ⟨0, Nat.zero_le _, rfl, Own.none _ _, Kp.rfl' _⟩
  case round =>
    obtain ⟨k, hk, rfl, hown, hkp⟩ := hrel
    have HO := Lib.hid hown
    have HK := Lib.hid hkp
    have hsz := hkp.size
    clear hown hkp
    by_cases hlt : k < n
    · obtain ⟨ad, rfl, _, _⟩ := (HA.out.keep (K3.out.trans HK.out)) k (by rw [Pol.len_vals, ← HP.out]; exact hlt)
      obtain ⟨bd, rfl, _, _⟩ := (HB.out.keep (K3.out.trans HK.out)) k (by rw [Pol.len_vals, ← HQ.out]; exact hlt)
      have hAk : Pol.Apart (Pol.co p) (k + 1) := HX.out.le (by omega)
      obtain ⟨hA2, hT2⟩ := Pol.thr_congr (X := Pol.co p) (Y := Pol.co q) (X' := Pol.co (p.take (k + 1))) (Y' := Pol.co (q.take (k + 1))) (by omega) hAk (fun i hi => co_take p (k + 1) i hi) (fun i hi => co_take q (k + 1) i hi)
      have RT := Lib.hid (fun (wx : World) (hx : Kp wr wx) => refThrough_any (some ad) (some bd) (p.take (k + 1)) (q.take (k + 1)) (k + 1) ca cb wx
        (by rw [Pol.vals_take]; exact (HA.out.keep ((K3.out.trans HK.out).trans hx)).take _) (by rw [Pol.vals_take]; exact (HB.out.keep ((K3.out.trans HK.out).trans hx)).take _)
        (by rw [List.length_take]; have := HP.out; omega) (by rw [List.length_take]; have := HQ.out; omega) (by omega) hA2)
      rw [hT2] at RT
      have LT := Lib.hid (Pol.len_thr (Pol.co p) (Pol.co q) (k + 1) (by omega))
      have CO := Lib.hid (show Pol.co (Pol.thr (Pol.co p) (Pol.co q) (k + 1)) k = stp p q k from Pol.co_thr (by omega) hAk)
      have HROW := Lib.hid (show Pol.vals (Pol.row (k + 1) (stp p q)) = Pol.vals (Pol.row k (stp p q)) ++ [((stp p q k).val : Int)] by
        rw [row_snoc, Pol.vals_append]; rfl)
      have hlen : (Pol.vals (Pol.row k (stp p q))).length + 1 ≤ 17000000000000 := by rw [Pol.len_vals, Pol.len_row]; omega
      obtain ⟨k1, hk1⟩ : ∃ k1, k1 = k + 1 := ⟨_, rfl⟩
      have s1 : k1 ≤ ca := by have := LC.out; omega
      have s2 : k1 ≤ cb := by have := LD.out; omega
      have hw1 : IntKind.i64.wrap ((k : Int) + 1) = (k1 : Int) := by rw [IntWalk.i64_in _ (by omega)]; omega
      rw [← hk1] at RT
      have HK1 := Lib.hid hk1
      clear hAk hA2 hT2 hk1
      rw [← HK1.out] at LT CO
      generalize Pol.thr (Pol.co p) (Pol.co q) k1 = f at *
      go_wp2_with fail
      go_still_tail 8, (by kernel_rfl)
      change wpList _ _ _ _ _ wr.drew
      go_wp2_with fail
      refine (RT.out _ ((Kp.rfl' wr).drewN 1)).mono ?_; rintro e w4 ⟨Af, cf, rfl, lf, _, hk4⟩
      have K4 := Lib.hid (((Kp.rfl' wr).drewN 1).trans hk4)
      have Lf := Lib.hid lf
      clear lf hk4 RT
      obtain ⟨nf, hnf⟩ : ∃ nf, nf = f.length := ⟨_, rfl⟩
      rw [← hnf] at LT ⊢
      have hs4 : w3.heap.size ≤ w4.heap.size := Nat.le_trans hsz K4.out.size
      have hk1 := HK1.out
      clear hw1 s1 s2
      by_cases hfull : nf = k1
      · obtain ⟨fd, rfl, _, fc⟩ := Lf.out k (by rw [Pol.len_vals, ← hnf]; omega)
        rw [Pol.vals_at, CO.out] at fc
        have f1 : k < nf := by omega
        have e2 : ((nf : Int) == (k : Int) + 1) = true := by rw [beq_iff_eq]; omega
        clear hnf hk1 hfull
        generalize ((stp p q k).val : Int) = z at *
        go_wp2_with (at_builtin; refine wpList_push rfl _ _ rfl w3.heap.size _ (Pol.vals (Pol.row k (stp p q))) z w4.heap.size 1 rfl rfl ((HO.out.kp K4.out).new _) (by simp) hlen (by simp; omega) ?_; intro v' w' h1 h2 _)
        have HO' := Lib.hid (show Own w' w3.heap.size v' (Pol.vals (Pol.row (k + 1) (stp p q))) by rw [HROW.out]; exact h1)
        have HK' := Lib.hid (own_below ((HO.out.kp K4.out).new _) ((HK.out.trans K4.out).new _) (by simp; omega) h2)
        clear h1 h2
        go_wp2_with fail
        go_roundw
        case rel => exact ⟨k + 1, by omega, by go_num, HO'.out, HK'.out⟩
        case measure => simp [intOf]; omega
      · have hz : ((stp p q k).val : Int) = 0 := by
          rw [← CO.out, Pol.co_out f k (by have := LT.out; omega)]; rfl
        have HZ := Lib.hid hz
        have e2 : ((nf : Int) == (k : Int) + 1) = false := by rw [beq_eq_false_iff_ne]; omega
        clear hnf hk1 hfull hz
        go_wp2_with (at_builtin; refine wpList_push rfl _ _ rfl w3.heap.size _ (Pol.vals (Pol.row k (stp p q))) 0 w4.heap.size 1 rfl rfl ((HO.out.kp K4.out).new _) (by simp) hlen (by simp; omega) ?_; intro v' w' h1 h2 _)
        have HO' := Lib.hid (show Own w' w3.heap.size v' (Pol.vals (Pol.row (k + 1) (stp p q))) by rw [HROW.out, HZ.out]; exact h1)
        have HK' := Lib.hid (own_below ((HO.out.kp K4.out).new _) ((HK.out.trans K4.out).new _) (by simp; omega) h2)
        clear h1 h2
        go_wp2_with fail
        go_roundw
        case rel => exact ⟨k + 1, by omega, by go_num, HO'.out, HK'.out⟩
        case measure => simp [intOf]; omega
    · obtain rfl : k = n := by omega
      obtain ⟨As, cs, rfl, hls, _⟩ := HO.out.cap
      rw [Pol.len_vals, Pol.len_row]
      have LS := Lib.hid hls
      have K5 := Lib.hid (K3.out.trans HK.out)
      have EQ := Lib.hid (show stepRow p q = Pol.row k (stp p q) by rw [HP.out]; rfl)
      have LR := Lib.hid (show (stepRow p q).length = k by rw [len_stepRow, HP.out])
      clear hls
      go_wp2_with fail
      refine (THR.out _ K5.out).mono ?_; rintro e w6 ⟨At, ct, rfl, l, _, hk6⟩
      have Lt := Lib.hid l
      have K6 := Lib.hid hk6
      have T6 := Lib.hid (K5.out.trans hk6)
      clear l hk6
      go_wp2_with fail
      refine (ERR.out _).mono ?_; rintro e w7 ⟨rfl, hk7⟩
      have K7 := Lib.hid hk7
      have T7 := Lib.hid (T6.out.trans hk7)
      clear hk7
      go_wp2_with fail
      refine (ints_eq' At Aw _ _ _ _ _ _ _ (Lt.out.keep K7.out) (Lw.out.keep (HK.out.trans (K6.out.trans K7.out))) rfl rfl (by have := LA.out; omega) rfl).mono ?_
      rintro e w8 ⟨rfl, hk8⟩
      have K8 := Lib.hid (K6.out.trans (K7.out.trans hk8))
      have T8 := Lib.hid (T7.out.trans hk8)
      clear hk8
      go_wp2_with fail
      refine (STP.out _ T8.out).mono ?_; rintro e w9 ⟨Au, cu, rfl, l, _, hk9⟩
      rw [LR.out]
      have Lu := Lib.hid l
      have K9 := Lib.hid (K8.out.trans hk9)
      have T9 := Lib.hid (T8.out.trans hk9)
      clear l hk9
      go_wp2_with fail
      refine (ERR.out _).mono ?_; rintro e w10 ⟨rfl, hk10⟩
      have K10 := Lib.hid hk10
      have T10 := Lib.hid (T9.out.trans hk10)
      clear hk10
      go_wp2_with fail
      refine (ints_eq' Au As _ _ _ _ _ _ _ (Lu.out.keep K10.out) (LS.out.keep (K9.out.trans K10.out)) LR.out.symm (Pol.len_row _ _).symm (by omega) EQ.out).mono ?_
      rintro e w11 ⟨rfl, hk11⟩
      have T11 := Lib.hid (T10.out.trans hk11)
      clear hk11
      go_wp2_with fail
      go_ret
      exact ⟨rfl, T11.out⟩

theorem walk_IpolSays (A : Option Addr) (l : List Int) (ca : Nat) (B : Option Addr) (m : List Int) (cb : Nat) (w : World) (hl : Told.Laid w) (ha : Lies w A l) (lc : l.length ≤ ca) (hb : Lies w B m) (ld : m.length ≤ cb) :
    Calls Tryd.prog 3 #[.slice A l.length ca, .slice B m.length cb] w fun e w' => e = .returned (.bool true) ∧ Kp w w' := by
  by_cases h : dcode l m = 0
  · obtain ⟨p, q, rfl, rfl, h1, h2, h3⟩ := dcode_zero h
    rw [Pol.len_vals, Pol.len_vals, h2]
    rw [Pol.len_vals] at lc ld
    exact ipsays_ok A B p q p.length ca cb w hl ha hb rfl h2.symm h1 lc (by omega) h3
  · exact ipsays_bad A B l m ca cb w hl ha hb lc h

end Go.Proofs.YteaonlmiifpjfaaDoor
