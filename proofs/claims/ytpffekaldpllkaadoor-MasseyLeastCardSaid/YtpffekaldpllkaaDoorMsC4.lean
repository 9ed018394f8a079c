/- Contracts of package massey, fourth part: Fewest, Factors, Goes. -/
import Derived.Test.YtpffekaldpllkaaDoorMsC3
namespace Go.Proofs.YtpffekaldpllkaaDoor
open Go.ChangeShapes Go.WideShapes Go.ChangeAt Go.RowKit
set_option linter.unusedVariables false

theorem Fewest_bad (A : Option Addr) (L : List Int) (c : Nat) (w : World) (ha : Lies w A L) (h : scd L ≠ 0) :
    Calls Tryd.prog 9 #[.slice A L.length c] w fun e w' => e = .returned (.tuple #[.int .i64 0, errOf (scd L)]) ∧ Kp w w' := by
  have SH := Lib.hid (shortest_bad A L c w ha h)
  rw [errOf_ne _ h] at SH ⊢
  generalize scd L = z at *
  generalize L.length = n at *
  clear ha h
  go_enter Tryd.func9, Tryd.ntmps9
  go_wp2_with fail
  refine (SH.out).mono ?_; rintro e w' ⟨rfl, hk⟩
  go_wp2_with fail
  go_ret2
  exact ⟨rfl, hk⟩
theorem Fewest_ok (A : Option Addr) (N c l : Nat) (x : Nat → Fp.F) (w : World) (ha : Lies w A (rowF N x)) (hN : N ≤ 16) (hf : Mx.Few N l x) :
    Calls Tryd.prog 9 #[.slice A N c] w fun e w' => e = .returned (.tuple #[.int .i64 (l : Int), .nilIface]) ∧ Kp w w' := by
  have SH := Lib.hid (shortest_ok A N c x w ha hN)
  unfold GivesF at SH
  clear ha
  go_enter Tryd.func9, Tryd.ntmps9
  go_wp2_with fail
  refine (SH.out).mono ?_; rintro e w' ⟨A', l', c', f, rfl, _, hf', _, hk⟩
  obtain rfl := hf.one hf'
  clear hf hf'
  go_wp2_with fail
  go_ret2
  exact ⟨rfl, hk⟩

theorem Factors_bad (A : Option Addr) (L : List Int) (c : Nat) (w : World) (ha : Lies w A L) (h : scd L ≠ 0) :
    Calls Tryd.prog 10 #[.slice A L.length c] w fun e w' => e = .returned (.tuple #[.slice none 0 0, errOf (scd L)]) ∧ Kp w w' := by
  have SH := Lib.hid (shortest_bad A L c w ha h)
  rw [errOf_ne _ h] at SH ⊢
  generalize scd L = z at *
  generalize L.length = n at *
  clear ha h
  go_enter Tryd.func10, Tryd.ntmps10
  go_wp2_with fail
  refine (SH.out).mono ?_; rintro e w' ⟨rfl, hk⟩
  go_wp2_with fail
  go_ret2
  exact ⟨rfl, hk⟩
theorem Factors_none (A : Option Addr) (N c l : Nat) (x : Nat → Fp.F) (w : World) (ha : Lies w A (rowF N x)) (hN : N ≤ 16) (hf : Mx.Few N l x) (h2 : N < 2 * l) :
    Calls Tryd.prog 10 #[.slice A N c] w fun e w' => e = .returned (.tuple #[.slice none 0 0, errOf 5]) ∧ Kp w w' := by
  have SH := Lib.hid (shortest_ok A N c x w ha hN)
  have hl := hf.top
  have h3 : (N : Int) < 2 * (l : Int) := by omega
  have hw : IntKind.i64.wrap (2 * (l : Int)) = 2 * (l : Int) := IntWalk.i64_in _ (by omega)
  unfold GivesF at SH
  clear ha
  go_enter Tryd.func10, Tryd.ntmps10
  go_wp2_with fail
  refine (SH.out).mono ?_; rintro e w' ⟨A', l', c', f, rfl, _, hf', _, hk⟩
  obtain rfl := hf.one hf'
  clear hf hf'
  go_wp2_with fail
  go_ret2
  exact ⟨rfl, hk⟩
theorem Factors_ok (A : Option Addr) (N c l : Nat) (x : Nat → Fp.F) (w : World) (ha : Lies w A (rowF N x)) (hN : N ≤ 16) (hf : Mx.Few N l x) (h2 : 2 * l ≤ N) :
    Calls Tryd.prog 10 #[.slice A N c] w fun e w' => ∃ B d f, e = .returned (.tuple #[.slice B l d, .nilIface]) ∧ Lies w' B (rowF l f) ∧ Mx.Gn N l f x ∧ Kp w w' := by
  have SH := Lib.hid (shortest_ok A N c x w ha hN)
  have hl := hf.top
  have h3 : ¬ (N : Int) < 2 * (l : Int) := by omega
  have hw : IntKind.i64.wrap (2 * (l : Int)) = 2 * (l : Int) := IntWalk.i64_in _ (by omega)
  unfold GivesF at SH
  clear ha
  go_enter Tryd.func10, Tryd.ntmps10
  go_wp2_with fail
  refine (SH.out).mono ?_; rintro e w' ⟨A', l', c', f, rfl, hl', hf', hg, hk⟩
  have HL' := Lib.hid hl'
  have HG := Lib.hid hg
  obtain rfl := hf.one hf'
  clear hf hf' hl' hg
  go_wp2_with fail
  go_ret2
  exact ⟨A', c', f, rfl, HL'.out, HG.out, hk⟩

theorem SGoes_bad (A B : Option Addr) (L S : List Int) (c d : Nat) (w : World) (ha : Lies w A L) (h : scd L ≠ 0) :
    Calls Tryd.prog 12 #[.slice A L.length c, .slice B S.length d] w fun e w' => e = .returned (.tuple #[.bool false, errOf (scd L)]) ∧ w = w' := by
  have CK := Lib.hid (sChk_any A L c w ha)
  rw [errOf_ne _ h] at CK ⊢
  generalize scd L = z at *
  generalize L.length = n at *
  generalize S.length = n2 at *
  clear ha h
  go_enter Tryd.func12, Tryd.ntmps12
  go_wp2_with fail
  refine (CK.out).mono ?_; rintro e w' ⟨rfl, rfl⟩
  go_wp2_with fail
  go_ret2
  exact ⟨rfl, rfl⟩
theorem SGoes_bad2 (A B : Option Addr) (L S : List Int) (c d : Nat) (w : World) (ha : Lies w A L) (hb : Lies w B S) (h0 : scd L = 0) (h : scd S ≠ 0) :
    Calls Tryd.prog 12 #[.slice A L.length c, .slice B S.length d] w fun e w' => e = .returned (.tuple #[.bool false, errOf (scd S)]) ∧ w = w' := by
  have CK := Lib.hid (sChk_any A L c w ha)
  have CK2 := Lib.hid (sChk_any B S d w hb)
  rw [h0, errOf_zero] at CK
  rw [errOf_ne _ h] at CK2 ⊢
  generalize scd S = z at *
  generalize L.length = n at *
  generalize S.length = n2 at *
  clear ha hb h h0
  go_enter Tryd.func12, Tryd.ntmps12
  go_wp2_with fail
  refine (CK.out).mono ?_; rintro e w' ⟨rfl, rfl⟩
  go_wp2_with fail
  refine (CK2.out).mono ?_; rintro e w' ⟨rfl, rfl⟩
  go_wp2_with fail
  go_ret2
  exact ⟨rfl, rfl⟩

set_option maxRecDepth 100000 in
set_option maxHeartbeats 3200000 in
theorem SGoes_ok (A B : Option Addr) (N l c d : Nat) (x f : Nat → Fp.F) (w : World) (ha : Lies w A (rowF N x)) (hb : Lies w B (rowF l f)) (hN : N ≤ 16) (hl : l ≤ 16) (b : Bool) (hbt : b = true ↔ Mx.Gn N l f x) :
    Calls Tryd.prog 12 #[.slice A N c, .slice B l d] w fun e w' => e = .returned (.tuple #[.bool b, .nilIface]) ∧ w = w' := by
  have CK := Lib.hid (sChk_good (L := rowF N x) ⟨rfl, hN⟩ A c w ha)
  have CK2 := Lib.hid (sChk_good (L := rowF l f) ⟨rfl, hl⟩ B d w hb)
  have HA := Lib.hid ha
  have HB := Lib.hid hb
  have YES := Lib.hid hbt.2
  have NO := Lib.hid (fun h : ¬ Mx.Gn N l f x => show b = false by cases b; rfl; exact absurd (hbt.1 rfl) h)
  clear ha hb hbt
  go_enter Tryd.func12, Tryd.ntmps12
  go_wp2_with fail
  refine (CK.out).mono ?_; rintro e w' ⟨rfl, rfl⟩
  go_wp2_with fail
  refine (CK2.out).mono ?_; rintro e w' ⟨rfl, rfl⟩
  clear CK CK2
  go_wp2_with fail
  go_loop [8] (fun i => ∃ k : Nat, l ≤ k ∧ (k ≤ N ∨ k = l) ∧ i = .int .i64 (k : Int) ∧ Mx.Gn k l f x) (fun i => N + 16 - (intOf i).toNat)
  case atStart => exact ⟨l, Nat.le_refl _, .inr rfl, rfl, Mx.Gn.far f x (Nat.le_refl l)⟩
  case round =>
    obtain ⟨k, hlk, hk, rfl, hg⟩ := hrel
    have HG := Lib.hid hg
    clear hg
    by_cases hlt : k < N
    · have MI := Lib.hid (smiss_any A B N l k c d x f w HA.out HB.out hN hlt hlk)
      have hI : (k : Int) < (N : Int) := by omega
      by_cases h0 : Mx.dsc l f x k = 0
      · have HN := Lib.hid (HG.out.next fun _ => Mx.dsc_not h0)
        have ez : (((Mx.dsc l f x k).val : Int) != 0) = false := by rw [h0]; decide
        generalize ((Mx.dsc l f x k).val : Int) = z at *
        clear h0
        go_wp2_with fail
        refine (MI.out).mono ?_; rintro e w' ⟨rfl, rfl⟩
        go_wp2_with fail
        go_round
        case rel => exact ⟨k + 1, by omega, by omega, by go_num, HN.out⟩
        case measure => simp [intOf]; omega
      · have ez : (((Mx.dsc l f x k).val : Int) != 0) = true := by
          rw [bne_iff_ne]
          intro h
          exact h0 (Fp.val_inj (a := Mx.dsc l f x k) (b := 0) h)
        have BF := Lib.hid (NO.out fun h => h0 (Mx.dsc_zero (h k hlk hlt)))
        generalize ((Mx.dsc l f x k).val : Int) = z at *
        clear h0
        go_wp2_with fail
        refine (MI.out).mono ?_; rintro e w' ⟨rfl, rfl⟩
        go_wp2_with fail
        go_ret2
        exact ⟨by rw [BF.out]; rfl, rfl⟩
    · have hI : ¬ (k : Int) < (N : Int) := by omega
      have BT := Lib.hid (YES.out (by
        rcases hk with h | h
        · obtain rfl : k = N := by omega
          exact HG.out
        · exact Mx.Gn.far f x (by omega)))
      go_wp2_with fail
      go_ret2
      exact ⟨by rw [BT.out]; rfl, rfl⟩

end Go.Proofs.YtpffekaldpllkaaDoor
