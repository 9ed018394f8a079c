/- Contracts of package band, first part: elements, what is wrong with a band, Check. -/
import Derived.Test.YtbmkkcpdlakgbaaDoorSoC1
import Derived.Test.YtbmkkcpdlakgbaaDoorMatK
import Derived.StillTailTactics
namespace Go.Proofs.YtbmkkcpdlakgbaaDoor
open Go.ChangeShapes Go.WideShapes Go.ChangeAt Go.RowKit
set_option linter.unusedVariables false

set_option maxHeartbeats 800000 in
theorem elements_any (A : Option Addr) (l : List Int) (c : Nat) (w : World) (hl : Lies w A l) (hn : l.length ≤ 1000000) (b : Bool) (hb : b = true ↔ AllIn l 0 9972) :
    Calls Tryd.prog 17 #[.slice A l.length c] w fun e w' => e = .returned (.bool b) ∧ w = w' := by
  have HL := Lib.hid hl
  have BAD := Lib.hid (fun h : ¬ AllIn l 0 9972 => show b = false by cases b; rfl; exact absurd (hb.1 rfl) h)
  have OK := Lib.hid (fun h : AllIn l 0 9972 => hb.2 h)
  obtain ⟨n, hn'⟩ : ∃ n, n = l.length := ⟨_, rfl⟩
  rw [← hn'] at hn ⊢
  have HN := Lib.hid hn'
  clear hl hb hn'
  go_enter Tryd.func17, Tryd.ntmps17
  go_wp2_with fail
  go_loop [7] (fun i => ∃ k : Nat, k ≤ n ∧ i = .int .i64 (k : Int) ∧ ∀ j, j < k → 0 ≤ l.getD j 0 ∧ l.getD j 0 ≤ 9972) (fun i => n - (intOf i).toNat)
  case atStart => exact ⟨0, Nat.zero_le _, rfl, fun j hj => absurd hj (by omega)⟩
  case round =>
    obtain ⟨k, hk, rfl, hg⟩ := hrel
    have HG := Lib.hid hg
    clear hg
    by_cases hlt : k < n
    · obtain ⟨ad, rfl, _, hc⟩ := HL.out k (by have := HN.out; omega)
      obtain ⟨m, hm⟩ : ∃ m, m = l.getD k 0 := ⟨_, rfl⟩
      rw [← hm] at hc
      by_cases h0 : m < 0
      · have E := Lib.hid (BAD.out fun hh => by have := hh k (by have := HN.out; omega); rw [← hm] at this; omega)
        clear hm
        go_wp2_with fail
        go_ret
        exact ⟨by rw [E.out]; rfl, rfl⟩
      · by_cases h1 : m ≤ 9972
        · have GG := Lib.hid (show ∀ j, j < k + 1 → 0 ≤ l.getD j 0 ∧ l.getD j 0 ≤ 9972 from fun j hj => by
            by_cases e : j = k
            · subst e; rw [← hm]; omega
            · exact HG.out j (by omega))
          have h2 : ¬ 9973 ≤ m := by omega
          clear hm
          go_wp2_with fail
          go_round
          case rel => exact ⟨k + 1, by omega, by go_num, GG.out⟩
          case measure => simp [intOf]; omega
        · have E := Lib.hid (BAD.out fun hh => by have := hh k (by have := HN.out; omega); rw [← hm] at this; omega)
          have h2 : 9973 ≤ m := by omega
          clear hm h1
          go_wp2_with fail
          go_ret
          exact ⟨by rw [E.out]; rfl, rfl⟩
    · have E := Lib.hid (OK.out (fun j hj => HG.out j (by have := HN.out; omega)))
      go_wp2_with fail
      go_ret
      exact ⟨by rw [E.out]; rfl, rfl⟩

open Classical in
/-- What is wrong with a band, as a number. -/
noncomputable def bcode (M A B : List Int) : Nat :=
  if M.length = 0 then 5 else if 10 < M.length then 4 else if A.length + 1 ≠ M.length ∨ B.length + 1 ≠ M.length then 3 else if ¬ (AllIn M 0 9972 ∧ AllIn A 0 9972 ∧ AllIn B 0 9972) then 1 else 0
theorem bcode_some (M A B : List Int) : bcode M A B = 0 ∨ bcode M A B = 1 ∨ bcode M A B = 3 ∨ bcode M A B = 4 ∨ bcode M A B = 5 := by
  unfold bcode; repeat' split
  all_goals simp
theorem bcode_none {M A B : List Int} (h : M.length = 0) : bcode M A B = 5 := by unfold bcode; rw [if_pos h]
theorem bcode_full {M A B : List Int} (h : 10 < M.length) : bcode M A B = 4 := by unfold bcode; rw [if_neg (by omega), if_pos h]
theorem bcode_shape {M A B : List Int} (h0 : M.length ≠ 0) (h : ¬ 10 < M.length) (h1 : A.length + 1 ≠ M.length ∨ B.length + 1 ≠ M.length) : bcode M A B = 3 := by unfold bcode; rw [if_neg h0, if_neg h, if_pos h1]
theorem bcode_range {M A B : List Int} (h0 : M.length ≠ 0) (h : ¬ 10 < M.length) (h1 : A.length + 1 = M.length) (h2 : B.length + 1 = M.length) (h3 : ¬ (AllIn M 0 9972 ∧ AllIn A 0 9972 ∧ AllIn B 0 9972)) : bcode M A B = 1 := by
  unfold bcode; rw [if_neg h0, if_neg h, if_neg (by omega), if_pos h3]
theorem bcode_ok {M A B : List Int} (h0 : M.length ≠ 0) (h : ¬ 10 < M.length) (h1 : A.length + 1 = M.length) (h2 : B.length + 1 = M.length) (h3 : AllIn M 0 9972) (h4 : AllIn A 0 9972) (h5 : AllIn B 0 9972) : bcode M A B = 0 := by
  unfold bcode; rw [if_neg h0, if_neg h, if_neg (by omega), if_neg (fun e => e ⟨h3, h4, h5⟩)]
theorem bcode_zero {M A B : List Int} (h : bcode M A B = 0) : M.length ≠ 0 ∧ M.length ≤ 10 ∧ A.length + 1 = M.length ∧ B.length + 1 = M.length ∧ AllIn M 0 9972 ∧ AllIn A 0 9972 ∧ AllIn B 0 9972 := by
  unfold bcode at h
  split at h
  · cases h
  · split at h
    · cases h
    · split at h
      · cases h
      · rename_i h1 h2 h3
        split at h
        · cases h
        · rename_i h4
          have h5 : AllIn M 0 9972 ∧ AllIn A 0 9972 ∧ AllIn B 0 9972 := Classical.byContradiction fun e => h4 e
          exact ⟨h1, by omega, by omega, by omega, h5⟩

/-- A band: so many rows more than one, in the middle m, above it a, below it b. -/
structure Bd (q : Nat) (m a b : Nat → Fp.F) (M A B : List Int) : Prop where
  mid : M = rowF (q + 1) m
  up : A = rowF q a
  low : B = rowF q b
  le : q ≤ 9
theorem brow_of {l : List Int} (h : AllIn l 0 9972) : ∃ t : Nat → Fp.F, l = rowF l.length t := by
  refine ⟨fun j => Fp.ofInt (l.getD j 0), ?_⟩
  refine (Mx.is_row l).trans (Mx.row_ext fun k hk => ?_)
  show l.getD k 0 = ((Fp.ofInt (l.getD k 0)).val : Int)
  rw [Fp.ofInt_val]
  have := h k hk
  omega
theorem browF_in (q : Nat) (t : Nat → Fp.F) : AllIn (rowF q t) 0 9972 := fun k hk => by
  rw [Mx.len_row] at hk
  rw [Mx.row_at _ _ _ hk]
  exact gval (t k)
theorem bd_or (M A B : List Int) : (∃ q m a b, Bd q m a b M A B) ∨ bcode M A B ≠ 0 := by
  by_cases h : bcode M A B = 0
  · obtain ⟨h0, h1, h2, h3, h4, h5, h6⟩ := bcode_zero h
    obtain ⟨m, hm⟩ := brow_of h4
    obtain ⟨a, ha⟩ := brow_of h5
    obtain ⟨b, hb⟩ := brow_of h6
    refine .inl ⟨A.length, m, a, b, by rw [h2]; exact hm, ha, ?_, by omega⟩
    rw [show A.length = B.length by omega]; exact hb
  · exact .inr h
theorem Bd.code {q : Nat} {m a b : Nat → Fp.F} {M A B : List Int} (h : Bd q m a b M A B) : bcode M A B = 0 := by
  have h1 := h.le
  have e1 : M.length = q + 1 := by rw [h.mid, Mx.len_row]
  have e2 : A.length = q := by rw [h.up, Mx.len_row]
  have e3 : B.length = q := by rw [h.low, Mx.len_row]
  refine bcode_ok (by omega) (by omega) (by omega) (by omega) ?_ ?_ ?_
  · rw [h.mid]; exact browF_in _ _
  · rw [h.up]; exact browF_in _ _
  · rw [h.low]; exact browF_in _ _

theorem bChk_none (A B C : Option Addr) (L M N : List Int) (c d f : Nat) (w : World) (h : L.length = 0) :
    Calls Tryd.prog 6 #[.slice A L.length c, .slice B M.length d, .slice C N.length f] w fun e w' => e = .returned (errOf (bcode L M N)) ∧ w = w' := by
  rw [bcode_none h, h]
  generalize M.length = q at *
  generalize N.length = p at *
  clear h
  go_enter Tryd.func6, Tryd.ntmps6
  go_wp2
  go_ret
  exact ⟨rfl, rfl⟩
theorem bChk_full (A B C : Option Addr) (L M N : List Int) (c d f : Nat) (w : World) (h : 10 < L.length) :
    Calls Tryd.prog 6 #[.slice A L.length c, .slice B M.length d, .slice C N.length f] w fun e w' => e = .returned (errOf (bcode L M N)) ∧ w = w' := by
  rw [bcode_full h]
  generalize L.length = n at *
  generalize M.length = q at *
  generalize N.length = p at *
  have h' : (10 : Int) < n := by omega
  have h0 : ((n : Int) == 0) = false := by rw [beq_eq_false_iff_ne]; omega
  clear h
  go_enter Tryd.func6, Tryd.ntmps6
  go_wp2
  go_ret
  exact ⟨rfl, rfl⟩
theorem bChk_shape (A B C : Option Addr) (L M N : List Int) (c d f : Nat) (w : World) (h0 : L.length ≠ 0) (h : ¬ 10 < L.length) (h1 : M.length + 1 ≠ L.length ∨ N.length + 1 ≠ L.length) :
    Calls Tryd.prog 6 #[.slice A L.length c, .slice B M.length d, .slice C N.length f] w fun e w' => e = .returned (errOf (bcode L M N)) ∧ w = w' := by
  rw [bcode_shape h0 h h1]
  obtain ⟨n, hn⟩ : ∃ n, L.length = n + 1 := ⟨L.length - 1, by omega⟩
  rw [hn] at h0 h h1 ⊢
  generalize M.length = q at *
  generalize N.length = p at *
  have h' : ¬ (10 : Int) < ((n + 1 : Nat) : Int) := by omega
  have e0 : (((n + 1 : Nat) : Int) == 0) = false := by rw [beq_eq_false_iff_ne]; omega
  have e9 : ((n + 1 : Nat) : Int) - 1 = (n : Int) := by omega
  clear h h0 hn
  by_cases hq : q = n
  · subst hq
    have e1 : ((q : Int) != (q : Int)) = false := by simp
    have e2 : ((p : Int) != (q : Int)) = true := by rw [bne_iff_ne]; omega
    clear h1
    generalize ((q + 1 : Nat) : Int) = z at *
    go_enter Tryd.func6, Tryd.ntmps6
    go_wp2
    go_ret
    exact ⟨rfl, rfl⟩
  · have e1 : ((q : Int) != (n : Int)) = true := by rw [bne_iff_ne]; omega
    clear h1 hq
    go_enter Tryd.func6, Tryd.ntmps6
    go_wp2
    go_ret
    exact ⟨rfl, rfl⟩

set_option maxHeartbeats 1600000 in
theorem bChk_main (A B C : Option Addr) (L M N : List Int) (q c d f : Nat) (w : World) (ha : Lies w A L) (hb : Lies w B M) (hc : Lies w C N) (hl : L.length = q + 1) (hm : M.length = q) (hn : N.length = q) (hq : q ≤ 9) :
    Calls Tryd.prog 6 #[.slice A (q + 1) c, .slice B q d, .slice C q f] w fun e w' => e = .returned (errOf (bcode L M N)) ∧ w = w' := by
  have E1 : ∀ b : Bool, (b = true ↔ AllIn L 0 9972) → Calls Tryd.prog 17 #[.slice A (q + 1) c] w fun e w' => e = .returned (.bool b) ∧ w = w' := fun b hb => by
    have := elements_any A L c w ha (by omega) b hb
    rwa [hl] at this
  have E2 : ∀ b : Bool, (b = true ↔ AllIn M 0 9972) → Calls Tryd.prog 17 #[.slice B q d] w fun e w' => e = .returned (.bool b) ∧ w = w' := fun b h => by
    have := elements_any B M d w hb (by omega) b h
    rwa [hm] at this
  have E3 : ∀ b : Bool, (b = true ↔ AllIn N 0 9972) → Calls Tryd.prog 17 #[.slice C q f] w fun e w' => e = .returned (.bool b) ∧ w = w' := fun b h => by
    have := elements_any C N f w hc (by omega) b h
    rwa [hn] at this
  have RNG : ¬ (AllIn L 0 9972 ∧ AllIn M 0 9972 ∧ AllIn N 0 9972) → bcode L M N = 1 := bcode_range (by omega) (by omega) (by omega) (by omega)
  have GOOD := bcode_ok (M := L) (A := M) (B := N) (by omega) (by omega) (by omega) (by omega)
  obtain ⟨v, hv⟩ : ∃ v, v = bcode L M N := ⟨_, rfl⟩
  rw [← hv] at RNG GOOD ⊢
  clear hv ha hb hc hl hm hn
  have h10 : ¬ (10 : Int) < ((q + 1 : Nat) : Int) := by omega
  have e0 : (((q + 1 : Nat) : Int) == 0) = false := by rw [beq_eq_false_iff_ne]; omega
  have e9 : ((q + 1 : Nat) : Int) - 1 = (q : Int) := by omega
  have e1 : ((q : Int) != (q : Int)) = false := by simp
  by_cases h1 : AllIn L 0 9972
  · have E1 := Lib.hid (E1 true ⟨fun _ => h1, fun _ => rfl⟩)
    by_cases h2 : AllIn M 0 9972
    · have E2 := Lib.hid (E2 true ⟨fun _ => h2, fun _ => rfl⟩)
      by_cases h3 : AllIn N 0 9972
      · have E3 := Lib.hid (E3 true ⟨fun _ => h3, fun _ => rfl⟩)
        have R := Lib.hid (GOOD h1 h2 h3)
        clear h1 h2 h3 RNG GOOD
        generalize q + 1 = n at *
        go_enter Tryd.func6, Tryd.ntmps6
        go_wp2_with fail
        refine (E1.out).mono ?_; rintro e w' ⟨rfl, rfl⟩
        go_wp2_with fail
        refine (E2.out).mono ?_; rintro e w' ⟨rfl, rfl⟩
        go_wp2_with fail
        refine (E3.out).mono ?_; rintro e w' ⟨rfl, rfl⟩
        go_wp2_with fail
        go_ret
        exact ⟨by rw [R.out]; rfl, rfl⟩
      · have E3 := Lib.hid (E3 false ⟨fun h => (by cases h), fun h => absurd h h3⟩)
        have R := Lib.hid (RNG fun h => h3 h.2.2)
        clear h1 h2 h3 RNG GOOD
        generalize q + 1 = n at *
        go_enter Tryd.func6, Tryd.ntmps6
        go_wp2_with fail
        refine (E1.out).mono ?_; rintro e w' ⟨rfl, rfl⟩
        go_wp2_with fail
        refine (E2.out).mono ?_; rintro e w' ⟨rfl, rfl⟩
        go_wp2_with fail
        refine (E3.out).mono ?_; rintro e w' ⟨rfl, rfl⟩
        go_wp2_with fail
        go_ret
        exact ⟨by rw [R.out]; rfl, rfl⟩
    · have E2 := Lib.hid (E2 false ⟨fun h => (by cases h), fun h => absurd h h2⟩)
      have R := Lib.hid (RNG fun h => h2 h.2.1)
      clear h1 h2 RNG GOOD E3
      generalize q + 1 = n at *
      go_enter Tryd.func6, Tryd.ntmps6
      go_wp2_with fail
      refine (E1.out).mono ?_; rintro e w' ⟨rfl, rfl⟩
      go_wp2_with fail
      refine (E2.out).mono ?_; rintro e w' ⟨rfl, rfl⟩
      go_wp2_with fail
      go_ret
      exact ⟨by rw [R.out]; rfl, rfl⟩
  · have E1 := Lib.hid (E1 false ⟨fun h => (by cases h), fun h => absurd h h1⟩)
    have R := Lib.hid (RNG fun h => h1 h.1)
    clear h1 RNG GOOD E2 E3
    generalize q + 1 = n at *
    go_enter Tryd.func6, Tryd.ntmps6
    go_wp2_with fail
    refine (E1.out).mono ?_; rintro e w' ⟨rfl, rfl⟩
    go_wp2_with fail
    go_ret
    exact ⟨by rw [R.out]; rfl, rfl⟩

theorem bChk_any (A B C : Option Addr) (L M N : List Int) (c d f : Nat) (w : World) (ha : Lies w A L) (hb : Lies w B M) (hc : Lies w C N) :
    Calls Tryd.prog 6 #[.slice A L.length c, .slice B M.length d, .slice C N.length f] w fun e w' => e = .returned (errOf (bcode L M N)) ∧ w = w' := by
  by_cases h0 : L.length = 0
  · exact bChk_none A B C L M N c d f w h0
  · by_cases h1 : 10 < L.length
    · exact bChk_full A B C L M N c d f w h1
    · by_cases h2 : M.length + 1 ≠ L.length ∨ N.length + 1 ≠ L.length
      · exact bChk_shape A B C L M N c d f w h0 h1 h2
      · have e2 : N.length = M.length := by omega
        have := bChk_main A B C L M N M.length c d f w ha hb hc (by omega) rfl e2 (by omega)
        rw [e2, show L.length = M.length + 1 by omega]
        exact this

end Go.Proofs.YtbmkkcpdlakgbaaDoor
