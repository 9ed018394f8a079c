/- Contracts of the document's Apart and Heights. -/
import Derived.Test.YtolkdbijenbchaaDoorPhRef
namespace Go.Proofs.YtolkdbijenbchaaDoor
open Go.ChangeShapes Go.WideShapes Go.ChangeAt Go.RowKit
set_option linter.unusedVariables false

theorem rApart_zero (n : Nat) (t c v : List Nat) (A B D : Option Addr) (ca cb cd : Nat) (W : World) (hc : c.length = n) (hv : v.length = n) (tl : t.length = n) (h0 : v = t.take n) :
    Calls Tryd.prog 8 #[.int .i64 0, .slice A n ca, .slice B n cb, .slice D n cd] W fun e W' => e = .returned (.int .i64 (Zx.rap t 0 c v)) ∧ Kp W W' := by
  have E := Lib.hid (show Zx.rap t 0 c v = 1 by
    rw [Zx.rap_full (by omega)]
    show (if v = t then (1 : Int) else 0) = 1
    rw [if_pos (by rw [h0, ← tl, List.take_length])])
  have e0 : ((n : Int) == (n : Int)) = true := by simp
  rw [E.out]
  clear h0 hc hv tl E
  go_enter Tryd.func8, Tryd.ntmps8
  go_wp2_with fail
  go_ret
  exact ⟨rfl, Kp.rfl' _⟩
theorem rApart_down (n wd p : Nat) (hw : wd ≤ 4) (hp : wd = p + 1) (x : Int) (A B D : Option Addr) (ca cb cd : Nat) (W : World)
    (IH : Calls Tryd.prog 8 #[.int .i64 (p : Int), .slice B n cb, .slice none 0 0, .slice D n cd] W fun e W' => e = .returned (.int .i64 x) ∧ Kp W W') :
    Calls Tryd.prog 8 #[.int .i64 (wd : Int), .slice A n ca, .slice B n cb, .slice D n cd] W fun e W' => e = .returned (.int .i64 x) ∧ Kp W W' := by
  have I := Lib.hid IH
  have e0 : ((n : Int) == (n : Int)) = true := by simp
  have e1 : ((wd : Int) == 0) = false := by rw [beq_eq_false_iff_ne]; omega
  have e2 : (wd : Int) - 1 = (p : Int) := by omega
  have e3 : IntKind.i64.wrap (p : Int) = (p : Int) := IntWalk.i64_in _ (by omega)
  clear IH hp
  go_enter Tryd.func8, Tryd.ntmps8
  go_wp2_with fail
  refine (I.out).mono ?_; rintro e w1 ⟨rfl, k1⟩
  have K1 := Lib.hid k1
  clear k1
  go_wp2_with fail
  go_ret
  exact ⟨rfl, K1.out⟩
theorem rApart_any (n : Nat) (n3 : n ≤ 3) (t : List Nat) (tl : t.length = n) (t7 : Zx.L7 t) (D : Option Addr) (cd : Nat) : ∀ (wd : Nat), wd ≤ 4 → ∀ (k i : Nat), i + k = n →
    ∀ (c v : List Nat) (A B : Option Addr) (ca cb : Nat) (W : World), c.length = n → v.length = i → Zx.L7 c → Zx.L7 v → (wd = 0 → v = t.take i) → Lies W A (nz c) → Lies W B (nz v) → Lies W D (nz t) →
      Calls Tryd.prog 8 #[.int .i64 (wd : Int), .slice A n ca, .slice B i cb, .slice D n cd] W fun e W' => e = .returned (.int .i64 (Zx.rap t wd c v)) ∧ Kp W W' := by
  intro wd
  induction wd with
  | zero =>
    intro hw k
    induction k with
    | zero =>
      intro i h c v A B ca cb W hc hv c7 v7 h0 ha hb hd
      obtain rfl : i = n := by omega
      exact rApart_zero i t c v A B D ca cb cd W hc hv tl (h0 rfl)
    | succ k ih =>
      intro i h c v A B ca cb W hc hv c7 v7 h0 ha hb hd
      exact rApart_step n n3 t tl t7 D cd 0 hw i (by omega) (fun c v A B ca cb W h1 h2 h3 h4 h5 h6 h7 h8 => ih (i + 1) (by omega) c v A B ca cb W h1 h2 h3 h4 h5 h6 h7 h8) c v A B ca cb W hc hv c7 v7 h0 ha hb hd
  | succ wd ihw =>
    intro hw k
    induction k with
    | zero =>
      intro i h c v A B ca cb W hc hv c7 v7 h0 ha hb hd
      obtain rfl : i = n := by omega
      have I := ihw (by omega) i 0 (by omega) v [] B none cb 0 W hv rfl v7 Zx.L7.nil (fun _ => rfl) hb (Lies.empty _ _) hd
      have e : Zx.rap t (wd + 1) c v = Zx.rap t wd v [] := by
        rw [Zx.rap_full (by omega), Zx.rap_none]; rfl
      rw [e]
      exact rApart_down i (wd + 1) wd hw rfl _ A B D ca cb cd W I
    | succ k ih =>
      intro i h c v A B ca cb W hc hv c7 v7 h0 ha hb hd
      exact rApart_step n n3 t tl t7 D cd (wd + 1) hw i (by omega) (fun c v A B ca cb W h1 h2 h3 h4 h5 h6 h7 h8 => ih (i + 1) (by omega) c v A B ca cb W h1 h2 h3 h4 h5 h6 h7 h8) c v A B ca cb W hc hv c7 v7 h0 ha hb hd

set_option maxRecDepth 100000 in
set_option maxHeartbeats 6400000 in
theorem rHeights_in (wd : Int) (A B : Option Addr) (l m : List Int) (n c d : Nat) (w : World) (ha : Lies w A l) (hb : Lies w B m) (hn : l.length = n) (hq : m.length = n) (hw : 0 ≤ wd ∧ wd ≤ 4) (n1 : n ≠ 0) (n3 : n ≤ 3) :
    Calls Tryd.prog 5 #[.int .i64 wd, .slice A n c, .slice B n d] w fun e w' => e = .returned (.int .i64 ((if hlc (-1) l = 0 then hlc (-1) m else hlc (-1) l : Nat) : Int)) ∧ Kp w w' := by
  have I0 := Lib.hid (fun w => ref3In_any wd 0 4 w true (by rw [decide_eq_true hw.1, decide_eq_true hw.2]; rfl))
  obtain ⟨z, hz⟩ : ∃ z, z = if hlc (-1) l = 0 then hlc (-1) m else hlc (-1) l := ⟨_, rfl⟩
  rw [← hz]
  have RA := Lib.hid (show ∀ f, hlc (-1) l = f → f ≠ 0 → z = f from fun f h h0 => by rw [hz, if_neg (by rw [h]; exact h0)]; exact h)
  have RB := Lib.hid (show hlc (-1) l = 0 → ∀ f, hlc (-1) m = f → f ≠ 0 → z = f from fun h1 f h h0 => by rw [hz, if_pos h1]; exact h)
  have RC := Lib.hid (show hlc (-1) l = 0 → hlc (-1) m = 0 → z = 0 from fun h1 h2 => by rw [hz, if_pos h1]; exact h2)
  have HL := Lib.hid ha
  have HM := Lib.hid hb
  have HN := Lib.hid hn
  have HQ := Lib.hid hq
  have e0 : ((n : Int) == 0) = false := by rw [beq_eq_false_iff_ne]; omega
  have e1 : ((n : Int) != (n : Int)) = false := by simp
  clear hz ha hb hn hq hw n1
  go_enter Tryd.func5, Tryd.ntmps5
  go_wp2_with fail
  refine (I0.out _).mono ?_; rintro e w' ⟨rfl, rfl⟩
  go_wp2_with fail
  go_loopw [7] (fun i wr => ∃ k : Nat, k ≤ 2 ∧ i = .int .i64 (k : Int) ∧ (1 ≤ k → hlc (-1) l = 0) ∧ (2 ≤ k → hlc (-1) m = 0) ∧ Kp w wr) (fun i _ => 2 - (intOf i).toNat)
  case atStart => exact ⟨0, Nat.zero_le _, rfl, fun h => absurd h (by omega), fun h => absurd h (by omega), Kp.rfl' _⟩
  case round =>
    obtain ⟨k, hk, rfl, hk1, hk2, hkp⟩ := hrel
    have HK1 := Lib.hid hk1
    have HK2 := Lib.hid hk2
    have HL' := Lib.hid (HL.out.keep hkp)
    have HM' := Lib.hid (HM.out.keep hkp)
    have HKP := Lib.hid hkp
    obtain ⟨w0, hw0⟩ : ∃ x, x = wr := ⟨_, rfl⟩
    subst hw0
    clear hk1 hk2 hkp
    by_cases h2 : k < 2
    · by_cases h1 : k = 0
      · have e2 : ((k : Int) == 1) = false := by rw [beq_eq_false_iff_ne]; omega
        have hk2' : (k : Int) < 2 := by omega
        have HK0 := Lib.hid h1
        clear h1
        have DR := Lib.hid (fun (j : Nat) (last : Int) (h : j < l.length) => hlc_drop last h)
        have NIL := Lib.hid (show ∀ last, hlc last (l.drop n) = 0 from fun last => by rw [List.drop_eq_nil_of_le (by rw [HN.out]; exact Nat.le_refl _)]; rfl)
        go_wp2_with fail
        go_loopw [9] (fun i wr => ∃ (j : Nat) (y : Int), j ≤ n ∧ i = .int .i64 (j : Int) ∧ ((j = 0 ∧ y = -1) ∨ (0 < j ∧ y = l.getD (j - 1) 0)) ∧ hlc (-1) l = hlc y (l.drop j) ∧ Kp w0 wr) (fun i _ => n - (intOf i).toNat)
        case atStart => exact ⟨0, -1, Nat.zero_le _, rfl, .inl ⟨rfl, rfl⟩, rfl, Kp.rfl' _⟩
        case round =>
          obtain ⟨j, y, hj, rfl, hy, hg, hkw⟩ := hrel
          have KW := Lib.hid hkw
          clear hkw
          by_cases hlt2 : j < n
          · obtain ⟨ad, rfl, _, hc⟩ := (HL'.out.keep KW.out) j (by rw [HN.out]; exact hlt2)
            have hd := DR.out j y (by rw [HN.out]; exact hlt2)
            rw [← hg] at hd
            obtain ⟨x, hx⟩ : ∃ x, x = l.getD j 0 := ⟨_, rfl⟩
            rw [← hx] at hc hd
            have HX := Lib.hid hx
            clear hx hg
            by_cases h0 : 0 ≤ x ∧ x ≤ 6
            · have IN := Lib.hid (fun w => ref3In_any x 0 6 w true (by rw [decide_eq_true h0.1, decide_eq_true h0.2]; rfl))
              rw [if_neg (by omega)] at hd
              rcases hy with ⟨hj0, rfl⟩ | ⟨hj0, hy⟩
              · rw [if_neg (by omega)] at hd
                have E := Lib.hid hd
                have g0 : decide ((0 : Int) < (j : Int)) = false := by rw [decide_eq_false_iff_not]; omega
                have g1 : decide (0 < j) = false := by rw [decide_eq_false_iff_not]; omega
                clear hd hj0
                go_wp2_with fail
                refine (IN.out _).mono ?_; rintro e w' ⟨rfl, rfl⟩
                go_wp2_with fail
                go_quiet (fail)
                go_wp2_with fail
                go_roundw
                case rel => exact ⟨j + 1, x, by omega, by go_num, .inr ⟨by omega, by rw [Nat.add_sub_cancel]; exact HX.out⟩, E.out, KW.out.drewN _⟩
                case measure => simp [intOf]; omega
              · obtain ⟨j0, ej⟩ : ∃ j0, j = j0 + 1 := ⟨j - 1, by omega⟩
                obtain ⟨ad', e, _, hc2⟩ := (HL'.out.keep KW.out) j0 (by rw [HN.out]; omega)
                have := Option.some.inj e
                subst this
                rw [show j - 1 = j0 by omega] at hy
                rw [← hy] at hc2
                have e1 : (j : Int) - 1 = (j0 : Int) := by omega
                have e2 : IntKind.i64.wrap (j0 : Int) = (j0 : Int) := IntWalk.i64_in _ (by omega)
                have g0 : decide ((0 : Int) < (j : Int)) = true := by rw [decide_eq_true_iff]; omega
                have l0 : j0 < n := by omega
                have HJ := Lib.hid ej
                clear ej hy
                by_cases h2 : x ≤ y
                · rw [if_pos h2] at hd
                  have E := Lib.hid (RA.out 3 hd (by decide))
                  clear hd
                  go_wp2_with fail
                  refine (IN.out _).mono ?_; rintro e w' ⟨rfl, rfl⟩
                  go_wp2_with fail
                  go_quiet (fail)
                  go_wp2_with fail
                  go_ret
                  exact ⟨by rw [E.out]; rfl, (HKP.out.trans KW.out).drewN _⟩
                · rw [if_neg h2] at hd
                  have E := Lib.hid hd
                  have h3 : y < x := by omega
                  clear hd h2
                  go_wp2_with fail
                  refine (IN.out _).mono ?_; rintro e w' ⟨rfl, rfl⟩
                  go_wp2_with fail
                  go_quiet (fail)
                  go_wp2_with fail
                  go_roundw
                  case rel => exact ⟨j + 1, x, by omega, by go_num, .inr ⟨by omega, by rw [Nat.add_sub_cancel]; exact HX.out⟩, E.out, KW.out.drewN _⟩
                  case measure => simp [intOf]; omega
            · have IN := Lib.hid (fun w => ref3In_any x 0 6 w false (by
                by_cases h : 0 ≤ x
                · rw [decide_eq_true h, decide_eq_false (by omega)]; rfl
                · rw [decide_eq_false h]; rfl))
              rw [if_pos (by omega)] at hd
              have E := Lib.hid (RA.out 1 hd (by decide))
              clear hd h0 hy
              go_wp2_with fail
              refine (IN.out _).mono ?_; rintro e w' ⟨rfl, rfl⟩
              go_wp2_with fail
              go_ret
              exact ⟨by rw [E.out]; rfl, HKP.out.trans KW.out⟩
          · obtain rfl : j = n := by omega
            have E := Lib.hid (hg.trans (NIL.out y))
            clear hg hy
            go_wp2_with fail
            go_roundw
            case rel => exact ⟨k + 1, by have := HK0.out; omega, by go_num, fun _ => E.out, fun h => absurd h (by have := HK0.out; omega), HKP.out.trans KW.out⟩
            case measure => simp [intOf]; omega
      · have e2 : ((k : Int) == 1) = true := by rw [beq_iff_eq]; omega
        have hk2' : (k : Int) < 2 := by omega
        have HK0 := Lib.hid (show k = 1 by omega)
        have RB' := Lib.hid (RB.out (HK1.out (by omega)))
        clear h1
        have DR := Lib.hid (fun (j : Nat) (last : Int) (h : j < m.length) => hlc_drop last h)
        have NIL := Lib.hid (show ∀ last, hlc last (m.drop n) = 0 from fun last => by rw [List.drop_eq_nil_of_le (by rw [HQ.out]; exact Nat.le_refl _)]; rfl)
        go_wp2_with fail
        go_loopw [9] (fun i wr => ∃ (j : Nat) (y : Int), j ≤ n ∧ i = .int .i64 (j : Int) ∧ ((j = 0 ∧ y = -1) ∨ (0 < j ∧ y = m.getD (j - 1) 0)) ∧ hlc (-1) m = hlc y (m.drop j) ∧ Kp w0 wr) (fun i _ => n - (intOf i).toNat)
        case atStart => exact ⟨0, -1, Nat.zero_le _, rfl, .inl ⟨rfl, rfl⟩, rfl, Kp.rfl' _⟩
        case round =>
          obtain ⟨j, y, hj, rfl, hy, hg, hkw⟩ := hrel
          have KW := Lib.hid hkw
          clear hkw
          by_cases hlt2 : j < n
          · obtain ⟨ad, rfl, _, hc⟩ := (HM'.out.keep KW.out) j (by rw [HQ.out]; exact hlt2)
            have hd := DR.out j y (by rw [HQ.out]; exact hlt2)
            rw [← hg] at hd
            obtain ⟨x, hx⟩ : ∃ x, x = m.getD j 0 := ⟨_, rfl⟩
            rw [← hx] at hc hd
            have HX := Lib.hid hx
            clear hx hg
            by_cases h0 : 0 ≤ x ∧ x ≤ 6
            · have IN := Lib.hid (fun w => ref3In_any x 0 6 w true (by rw [decide_eq_true h0.1, decide_eq_true h0.2]; rfl))
              rw [if_neg (by omega)] at hd
              rcases hy with ⟨hj0, rfl⟩ | ⟨hj0, hy⟩
              · rw [if_neg (by omega)] at hd
                have E := Lib.hid hd
                have g0 : decide ((0 : Int) < (j : Int)) = false := by rw [decide_eq_false_iff_not]; omega
                have g1 : decide (0 < j) = false := by rw [decide_eq_false_iff_not]; omega
                clear hd hj0
                go_wp2_with fail
                refine (IN.out _).mono ?_; rintro e w' ⟨rfl, rfl⟩
                go_wp2_with fail
                go_quiet (fail)
                go_wp2_with fail
                go_roundw
                case rel => exact ⟨j + 1, x, by omega, by go_num, .inr ⟨by omega, by rw [Nat.add_sub_cancel]; exact HX.out⟩, E.out, KW.out.drewN _⟩
                case measure => simp [intOf]; omega
              · obtain ⟨j0, ej⟩ : ∃ j0, j = j0 + 1 := ⟨j - 1, by omega⟩
                obtain ⟨ad', e, _, hc2⟩ := (HM'.out.keep KW.out) j0 (by rw [HQ.out]; omega)
                have := Option.some.inj e
                subst this
                rw [show j - 1 = j0 by omega] at hy
                rw [← hy] at hc2
                have e1 : (j : Int) - 1 = (j0 : Int) := by omega
                have e2 : IntKind.i64.wrap (j0 : Int) = (j0 : Int) := IntWalk.i64_in _ (by omega)
                have g0 : decide ((0 : Int) < (j : Int)) = true := by rw [decide_eq_true_iff]; omega
                have l0 : j0 < n := by omega
                have HJ := Lib.hid ej
                clear ej hy
                by_cases h2 : x ≤ y
                · rw [if_pos h2] at hd
                  have E := Lib.hid (RB'.out 3 hd (by decide))
                  clear hd
                  go_wp2_with fail
                  refine (IN.out _).mono ?_; rintro e w' ⟨rfl, rfl⟩
                  go_wp2_with fail
                  go_quiet (fail)
                  go_wp2_with fail
                  go_ret
                  exact ⟨by rw [E.out]; rfl, (HKP.out.trans KW.out).drewN _⟩
                · rw [if_neg h2] at hd
                  have E := Lib.hid hd
                  have h3 : y < x := by omega
                  clear hd h2
                  go_wp2_with fail
                  refine (IN.out _).mono ?_; rintro e w' ⟨rfl, rfl⟩
                  go_wp2_with fail
                  go_quiet (fail)
                  go_wp2_with fail
                  go_roundw
                  case rel => exact ⟨j + 1, x, by omega, by go_num, .inr ⟨by omega, by rw [Nat.add_sub_cancel]; exact HX.out⟩, E.out, KW.out.drewN _⟩
                  case measure => simp [intOf]; omega
            · have IN := Lib.hid (fun w => ref3In_any x 0 6 w false (by
                by_cases h : 0 ≤ x
                · rw [decide_eq_true h, decide_eq_false (by omega)]; rfl
                · rw [decide_eq_false h]; rfl))
              rw [if_pos (by omega)] at hd
              have E := Lib.hid (RB'.out 1 hd (by decide))
              clear hd h0 hy
              go_wp2_with fail
              refine (IN.out _).mono ?_; rintro e w' ⟨rfl, rfl⟩
              go_wp2_with fail
              go_ret
              exact ⟨by rw [E.out]; rfl, HKP.out.trans KW.out⟩
          · obtain rfl : j = n := by omega
            have E := Lib.hid (hg.trans (NIL.out y))
            clear hg hy
            go_wp2_with fail
            go_roundw
            case rel => exact ⟨k + 1, by have := HK0.out; omega, by go_num, fun _ => HK1.out (by have := HK0.out; omega), fun _ => E.out, HKP.out.trans KW.out⟩
            case measure => simp [intOf]; omega
    · have hk2' : 2 ≤ (k : Int) := by omega
      have E := Lib.hid (RC.out (HK1.out (by omega)) (HK2.out (by omega)))
      clear h2 hk
      go_wp2_with fail
      go_ret
      exact ⟨by rw [E.out]; rfl, HKP.out⟩
end Go.Proofs.YtolkdbijenbchaaDoor
