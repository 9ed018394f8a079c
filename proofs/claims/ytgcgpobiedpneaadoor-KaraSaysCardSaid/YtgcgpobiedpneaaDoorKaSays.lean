/- The law KaraSays: the program and the document's answer agree. -/
import Derived.Test.YtgcgpobiedpneaaDoorKaRef
import Derived.Test.YtgcgpobiedpneaaDoorErrG
namespace Go.Proofs.YtgcgpobiedpneaaDoor
open Go.ChangeShapes Go.WideShapes Go.ChangeAt Go.RowKit
set_option linter.unusedVariables false

set_option maxRecDepth 100000 in
set_option maxHeartbeats 1600000 in
theorem kasays_bad (A B : Option Addr) (l m : List Int) (ca cb : Nat) (w : World) (hl : Told.Laid w) (ha : Lies w A l) (hb : Lies w B m) (bad : kcode l m ≠ 0) :
    Calls Tryd.prog 3 #[.slice A l.length ca, .slice B m.length cb] w fun e w' => e = .returned (.bool true) ∧ Kp w w' := by
  have HL := Lib.hid hl
  have LNG := Lib.hid (show Calls Tryd.prog 4 #[.slice A l.length ca, .slice B m.length cb] w fun e w' => e = .returned (.tuple #[.int .i64 (kcode l m : Nat), .int .i64 0]) ∧ w = w' from
    (refLong_any A B l m ca cb w ha hb).mono fun e w' ⟨h, hw⟩ => by
      rcases h with ⟨_, h⟩ | ⟨h, _⟩
      · exact ⟨h, hw⟩
      · exact absurd h bad)
  have CHK := Lib.hid (fun (wx : World) (hx : Kp w wx) => kCheck_any A B l m ca cb wx (ha.keep hx) (hb.keep hx))
  have MUL := Lib.hid (fun (wx : World) (hx : Kp w wx) => kmul_bad A B l m ca cb wx (ha.keep hx) (hb.keep hx) bad)
  have HC := Lib.hid (show kcode l m ≤ 100 by rcases kcode_some l m with h | h | h | h | h <;> omega)
  have c0 : ((kcode l m : Int) == 0) = false := by rw [beq_eq_false_iff_ne]; omega
  unfold MulFails at MUL
  clear hl ha hb bad
  generalize kcode l m = c at *
  generalize l.length = n1 at *
  generalize m.length = n2 at *
  have ERR := Lib.hid (fun (wx : World) (hx : Kp w wx) => error_says c wx (laid_kp HL.out hx) HC.out)
  generalize errOf c = ec at *
  go_enter Tryd.func3, Tryd.ntmps3
  go_wp2_with fail
  refine (LNG.out).mono ?_; rintro e w' ⟨rfl, rfl⟩
  go_wp2_with fail
  refine (CHK.out _ (Kp.rfl' w)).mono ?_; rintro e w' ⟨rfl, rfl⟩
  go_wp2_with fail
  refine (ERR.out _ (Kp.rfl' w)).mono ?_; rintro e w2 ⟨rfl, hk⟩
  have K2 := Lib.hid hk
  clear hk
  go_wp2_with fail
  refine (MUL.out _ K2.out).mono ?_; rintro e w3 ⟨rfl, hk⟩
  have K3 := Lib.hid (K2.out.trans hk)
  clear hk
  go_wp2_with fail
  refine (ERR.out _ K3.out).mono ?_; rintro e w4 ⟨rfl, hk⟩
  have K4 := Lib.hid (K3.out.trans hk)
  clear hk
  go_wp2_with fail
  refine (same_nil _).mono ?_; rintro e w5 ⟨rfl, hk⟩
  have K5 := Lib.hid (K4.out.trans hk)
  clear hk
  go_wp2_with fail
  go_ret
  exact ⟨rfl, K5.out⟩

set_option maxRecDepth 100000 in
set_option maxHeartbeats 1600000 in
theorem kasays_ok (A B : Option Addr) (l m : List Int) (n N ca cb : Nat) (w : World) (ha : Lies w A l) (hb : Lies w B m) (hl : l.length = n) (hm : m.length = n) (hP : Pow n) (hN : N + 1 = 2 * n) (lc : n ≤ ca) (ld : n ≤ cb) (bl : AllIn l (-1000) 1000) (bm : AllIn m (-1000) 1000) :
    Calls Tryd.prog 3 #[.slice A n ca, .slice B n cb] w fun e w' => e = .returned (.bool true) ∧ Kp w w' := by
  obtain ⟨t, ht, hn2, hk⟩ := pow_cnt hP
  have h0 : kcode l m = 0 := kcode_ok (by rw [hl]; exact hP) (by rw [hl, hm]) bl bm
  have LNG := Lib.hid (show Calls Tryd.prog 4 #[.slice A n ca, .slice B n cb] w fun e w' => e = .returned (.tuple #[.int .i64 0, .int .i64 (t : Int)]) ∧ w = w' from by
    have h := refLong_any A B l m ca cb w ha hb
    rw [hl, hm] at h
    refine h.mono fun e w' ⟨h, hw⟩ => ?_
    rcases h with ⟨h, _⟩ | ⟨_, t', ht', he, h⟩
    · exact absurd h0 h
    · have : t' = t := by
        rw [hl, hn2] at he
        exact ((Nat.pow_right_inj (by decide : 1 < 2)).1 he).symm
      rw [this] at h
      exact ⟨h, hw⟩)
  have CHK := Lib.hid (by
    have h := fun (wx : World) (hx : Kp w wx) => kCheck_any A B l m ca cb wx (ha.keep hx) (hb.keep hx)
    rw [h0, hl, hm, errOf_zero] at h
    exact h)
  have hn := pow_le hP
  have MUL := Lib.hid (fun (wx : World) (hx : Kp w wx) => kmul_ok A B l m n N ca cb wx (ha.keep hx) (hb.keep hx) hl hm hP hN lc ld bl bm)
  rw [hk] at MUL
  have PRO := Lib.hid (fun (wx : World) (hx : Kp w wx) => refProduct_any A B l m n N ca cb wx (ha.keep hx) (hb.keep hx) hl hm hn.1 hn.2 hN (allIn_bd bl) (allIn_bd bm))
  have LP := Lib.hid (show (Ka.prod n l m).length = N by rw [Ka.len_prod]; omega)
  have ERR := Lib.hid (fun (wx : World) => errorK_nil 0 wx true rfl)
  have hNb : N ≤ 31 := by omega
  clear ha hb hl hm hP hN lc ld bl bm hn hk hn2 h0
  generalize Ka.prod n l m = P at *
  go_enter Tryd.func3, Tryd.ntmps3
  go_wp2_with fail
  refine (LNG.out).mono ?_; rintro e w' ⟨rfl, rfl⟩
  go_wp2_with fail
  refine (CHK.out _ (Kp.rfl' w)).mono ?_; rintro e w' ⟨rfl, rfl⟩
  go_wp2_with fail
  refine (ERR.out _).mono ?_; rintro e w2 ⟨rfl, hk⟩
  have K2 := Lib.hid hk
  clear hk
  go_wp2_with fail
  refine (PRO.out _ K2.out).mono ?_; rintro e w3 ⟨Aw, cw, rfl, lw, hk⟩
  have LW := Lib.hid lw
  have K3 := Lib.hid (K2.out.trans hk)
  clear hk lw
  go_wp2_with fail
  go_loop [9, 10] (fun v i => ∃ k : Nat, k ≤ t ∧ i = .int .i64 (k : Int) ∧ v = .int .i64 ((3 ^ k : Nat) : Int)) (fun _ i => t - (intOf i).toNat)
  case atStart => exact ⟨0, Nat.zero_le _, rfl, rfl⟩
  case round =>
    obtain ⟨k, hk, rfl, rfl⟩ := hrel
    have h81 : 3 ^ k ≤ 3 ^ 4 := Nat.pow_le_pow_right (by decide) (by omega)
    have h3 : 3 ^ (k + 1) = 3 * 3 ^ k := by rw [Nat.pow_succ]; omega
    by_cases hlt : k < t
    · obtain ⟨p, hp⟩ : ∃ p, p = 3 ^ k := ⟨_, rfl⟩
      rw [← hp] at h81 h3 ⊢
      have H3 := Lib.hid h3
      have hw : IntKind.i64.wrap (3 * (p : Int)) = 3 * (p : Int) := IntWalk.i64_in _ (by omega)
      clear hp h3
      go_wp2_with fail
      go_round
      case rel => exact ⟨k + 1, by omega, by go_num, by rw [H3.out]; go_num⟩
      case measure => simp [intOf]; omega
    · obtain rfl : k = t := by omega
      clear h3 h81
      generalize 3 ^ k = p at *
      go_wp2_with fail
      refine (MUL.out _ K3.out).mono ?_; rintro e w4 ⟨At, ct, rfl, _, lt, hk⟩
      have LT := Lib.hid lt
      have K4 := Lib.hid hk
      have T4 := Lib.hid (K3.out.trans hk)
      clear hk lt
      go_wp2_with fail
      refine (ERR.out _).mono ?_; rintro e w5 ⟨rfl, hk⟩
      have K5 := Lib.hid hk
      have T5 := Lib.hid (T4.out.trans hk)
      clear hk
      go_wp2_with fail
      refine (same_eq At Aw P P N N _ _ _ (LT.out.keep K5.out) (LW.out.keep (K4.out.trans K5.out)) LP.out.symm LP.out.symm (by omega) rfl).mono ?_; rintro e w6 ⟨rfl, hk⟩
      have T6 := Lib.hid (T5.out.trans hk)
      clear hk
      have hpp : ((p : Int) == (p : Int)) = true := by simp
      go_wp2_with fail
      go_ret
      exact ⟨rfl, T6.out⟩

theorem walk_KaraSays (A : Option Addr) (l : List Int) (ca : Nat) (B : Option Addr) (m : List Int) (cb : Nat) (w : World) (hl : Told.Laid w) (ha : Lies w A l) (lc : l.length ≤ ca) (hb : Lies w B m) (ld : m.length ≤ cb) :
    Calls Tryd.prog 3 #[.slice A l.length ca, .slice B m.length cb] w fun e w' => e = .returned (.bool true) ∧ Kp w w' := by
  by_cases h : kcode l m = 0
  · obtain ⟨h1, h2, h3, h4⟩ := kcode_zero h
    have := pow_le h1
    rw [h2]
    exact kasays_ok A B l m l.length (2 * l.length - 1) ca cb w ha hb rfl h2 h1 (by omega) lc (by omega) h3 h4
  · exact kasays_bad A B l m ca cb w hl ha hb h

end Go.Proofs.YtgcgpobiedpneaaDoor
