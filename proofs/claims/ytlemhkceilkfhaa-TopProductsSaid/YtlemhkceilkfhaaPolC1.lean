/- Contracts of package poly, first part: a row of memory of the call's own, Check, checkBoth, trimmed. -/
import Derived.Test.YtlemhkceilkfhaaFld
import Derived.Test.YtlemhkceilkfhaaRowG
import Derived.Test.YtlemhkceilkfhaaPolN
import Derived.Laws.CopyOwn
namespace Go.Proofs.Ytlemhkceilkfhaa
open Go.ChangeShapes Go.WideShapes Go.ChangeAt Go.RowKit
set_option linter.unusedVariables false

theorem check_full (A : Option Addr) (l : List Int) (c : Nat) (w : World) (h : 12 < l.length) :
    Calls Try.prog 31 #[.slice A l.length c] w fun e w' => e = .returned (errOf (Pol.code l)) ∧ w = w' := by
  rw [Pol.code_full h]
  generalize l.length = n at *
  have h' : (12 : Int) < n := by omega
  go_enter Try.func31, Try.ntmps31
  go_wp2
  go_ret
  exact ⟨rfl, rfl⟩

set_option maxHeartbeats 800000 in
theorem check_few (A : Option Addr) (l : List Int) (c : Nat) (w : World) (hl : Lies w A l) (hn : ¬ 12 < l.length) :
    Calls Try.prog 31 #[.slice A l.length c] w fun e w' => e = .returned (errOf (Pol.code l)) ∧ w = w' := by
  have HL := Lib.hid hl
  have BAD := Lib.hid (fun k hk h => Pol.code_range hn (k := k) hk h)
  have OK := Lib.hid (Pol.code_ok hn)
  obtain ⟨n, hn'⟩ : ∃ n, n = l.length := ⟨_, rfl⟩
  rw [← hn'] at hn ⊢
  rw [← hn'] at BAD OK
  have HN := Lib.hid hn'
  have h' : ¬ (12 : Int) < n := by omega
  obtain ⟨v, hv⟩ : ∃ v, v = Pol.code l := ⟨_, rfl⟩
  rw [← hv] at BAD OK ⊢
  clear hl hn' hv
  go_enter Try.func31, Try.ntmps31
  go_wp2_with fail
  go_loop [11] (fun i => ∃ k : Nat, k ≤ n ∧ i = .int .i64 (k : Int) ∧ ∀ j, j < k → 0 ≤ l.getD j 0 ∧ l.getD j 0 ≤ 9972) (fun i => n - (intOf i).toNat)
  case atStart => exact ⟨0, Nat.zero_le _, rfl, fun j hj => absurd hj (by omega)⟩
  case round =>
    obtain ⟨k, hk, rfl, hg⟩ := hrel
    have HG := Lib.hid hg
    clear hg
    by_cases hlt : k < n
    · obtain ⟨ad, rfl, _, hc⟩ := HL.out k (by have := HN.out; omega)
      obtain ⟨m, hm⟩ : ∃ m, m = l.getD k 0 := ⟨_, rfl⟩
      rw [← hm] at hc
      by_cases h0 : m < 0
      · have E := Lib.hid (BAD.out k hlt (by rw [← hm]; omega))
        clear hm
        go_wp2_with fail
        go_ret
        exact ⟨by rw [E.out]; rfl, rfl⟩
      · by_cases h1 : m ≤ 9972
        · have GG := Lib.hid (show ∀ j, j < k + 1 → 0 ≤ l.getD j 0 ∧ l.getD j 0 ≤ 9972 from fun j hj => by
            by_cases e : j = k
            · subst e; rw [← hm]; omega
            · exact HG.out j (by omega))
          clear hm
          go_wp2_with fail
          go_round
          case rel => exact ⟨k + 1, by omega, by go_num, GG.out⟩
          case measure => simp [intOf]; omega
        · have E := Lib.hid (BAD.out k hlt (by rw [← hm]; omega))
          clear hm
          go_wp2_with fail
          go_ret
          exact ⟨by rw [E.out]; rfl, rfl⟩
    · have E := Lib.hid (OK.out fun j hj => HG.out j (by omega))
      go_wp2_with fail
      go_ret
      exact ⟨by rw [E.out]; rfl, rfl⟩

theorem check_any (A : Option Addr) (l : List Int) (c : Nat) (w : World) (hl : Lies w A l) :
    Calls Try.prog 31 #[.slice A l.length c] w fun e w' => e = .returned (errOf (Pol.code l)) ∧ w = w' := by
  by_cases h : 12 < l.length
  · exact check_full A l c w h
  · exact check_few A l c w hl h

theorem checkBoth_any (A B : Option Addr) (l m : List Int) (c d : Nat) (w : World) (ha : Lies w A l) (hb : Lies w B m) :
    Calls Try.prog 25 #[.slice A l.length c, .slice B m.length d] w fun e w' => e = .returned (errOf (Pol.code2 l m)) ∧ w = w' := by
  have CA := Lib.hid (check_any A l c w ha)
  have CB := Lib.hid (check_any B m d w hb)
  unfold Pol.code2
  have hs := Pol.code_some l
  generalize Pol.code l = x at *
  generalize Pol.code m = y at *
  generalize l.length = n at *
  generalize m.length = q at *
  clear ha hb
  rcases hs with rfl | rfl | rfl
  · go_enter Try.func25, Try.ntmps25
    go_wp2_with fail
    refine (CA.out).mono ?_; rintro e w' ⟨rfl, rfl⟩
    rw [show errOf 0 = .nilIface from rfl]
    go_wp2_with fail
    refine (CB.out).mono ?_; rintro e w' ⟨rfl, rfl⟩
    go_wp2_with fail
    go_ret
    exact ⟨rfl, rfl⟩
  · go_enter Try.func25, Try.ntmps25
    go_wp2_with fail
    refine (CA.out).mono ?_; rintro e w' ⟨rfl, rfl⟩
    rw [show errOf 1 = .iface 46 (.int .i64 1) from rfl]
    go_wp2_with fail
    go_ret
    exact ⟨rfl, rfl⟩
  · go_enter Try.func25, Try.ntmps25
    go_wp2_with fail
    refine (CA.out).mono ?_; rintro e w' ⟨rfl, rfl⟩
    rw [show errOf 4 = .iface 46 (.int .i64 4) from rfl]
    go_wp2_with fail
    go_ret
    exact ⟨rfl, rfl⟩

/-- How long a slice is. -/
def sliceLen : Value → Nat
  | .slice _ n _ => n
  | _ => 0

theorem trim_step0 (p : List Fp.F) (k : Nat) (hk : k < p.length) (h : Pol.co p k = 0) : Pol.trim (p.take (k + 1)) = Pol.trim (p.take k) := by
  rw [Pol.take_succ p k hk, h, Pol.trim_zero]

theorem trimmed_any (A : Option Addr) (p : List Fp.F) (c : Nat) (w : World) (hl : Lies w A (Pol.vals p)) (hc : p.length ≤ c) (hn : p.length ≤ 1000000) :
    Calls Try.prog 26 #[.slice A p.length c] w fun e w' => e = .returned (.slice A (Pol.trim p).length c) ∧ w = w' := by
  have HL := Lib.hid hl
  obtain ⟨n, hn'⟩ : ∃ n, n = p.length := ⟨_, rfl⟩
  rw [← hn'] at hn hc ⊢
  have HN := Lib.hid hn'
  clear hl hn'
  go_enter Try.func26, Try.ntmps26
  go_wp2_with fail
  go_loop [0] (fun v => ∃ k : Nat, k ≤ n ∧ v = .slice A k c ∧ Pol.trim (p.take k) = Pol.trim p) (fun v => sliceLen v)
  case atStart => exact ⟨n, Nat.le_refl _, rfl, by rw [HN.out, List.take_length]⟩
  case round =>
    obtain ⟨k, hk, rfl, ht⟩ := hrel
    have HT := Lib.hid ht
    clear ht
    cases k with
    | zero =>
      have E := Lib.hid (show Pol.trim p = [] by rw [← HT.out]; rfl)
      go_wp2_with fail
      go_ret
      exact ⟨by rw [E.out]; rfl, rfl⟩
    | succ k =>
      obtain ⟨ad, rfl, _, hcell⟩ := HL.out k (by rw [Pol.len_vals, ← HN.out]; omega)
      rw [Pol.vals_at] at hcell
      by_cases h0 : Pol.co p k = 0
      · have e0 : (((Pol.co p k).val : Int) == 0) = true := by rw [h0]; rfl
        have ST := Lib.hid (trim_step0 p k (by have := HN.out; omega) h0)
        generalize ((Pol.co p k).val : Int) = m at *
        clear h0
        go_wp2_with fail
        go_round
        case rel => exact ⟨k, by omega, rfl, by rw [← ST.out]; exact HT.out⟩
        case measure => simp [sliceLen]
      · have e0 : (((Pol.co p k).val : Int) == 0) = false := by rw [beq_eq_false_iff_ne]; intro e; exact h0 (Fp.val_inj e)
        have E := Lib.hid (show Pol.trim p = p.take (k + 1) by rw [← HT.out, Pol.take_succ p k (by have := HN.out; omega), Pol.trim_not _ _ h0])
        have E2 := Lib.hid (show (p.take (k + 1)).length = k + 1 by rw [List.length_take]; have := HN.out; omega)
        generalize ((Pol.co p k).val : Int) = m at *
        clear h0
        go_wp2_with fail
        go_ret
        exact ⟨by rw [E.out, E2.out]; rfl, rfl⟩

end Go.Proofs.Ytlemhkceilkfhaa
