/- Contracts of package kara, first part: whole, powerOfTwo, Check, sum. -/
import Derived.Test.YtlemhkceilkfhaaRowG
import Derived.Test.YtlemhkceilkfhaaKaM
import Derived.StillTailTactics
namespace Go.Proofs.Ytlemhkceilkfhaa
open Go.ChangeShapes Go.WideShapes Go.ChangeAt Go.RowKit
set_option linter.unusedVariables false

theorem whole_any (n : Int) (w : World) (b : Bool) (hb : (decide (-1000 ≤ n) && decide (n ≤ 1000)) = b) :
    Calls Try.prog 29 #[.int .i64 n] w fun e w' => e = .returned (.bool b) ∧ w = w' := by
  have H := Lib.hid hb
  clear hb
  by_cases h1 : -1000 ≤ n
  · go_enter Try.func29, Try.ntmps29
    go_wp2
    go_ret
    exact ⟨ret_bool (by rw [← H.out, decide_eq_true h1, Bool.true_and]), rfl⟩
  · go_enter Try.func29, Try.ntmps29
    go_wp2
    go_ret
    exact ⟨ret_bool (by rw [← H.out, decide_eq_false (show ¬ -1000 ≤ n by omega), Bool.false_and]), rfl⟩

/-- A power of two, up to 16. -/
def Pow (n : Nat) : Prop := n = 1 ∨ n = 2 ∨ n = 4 ∨ n = 8 ∨ n = 16
instance (n : Nat) : Decidable (Pow n) := by unfold Pow; infer_instance
theorem pow_ends {n : Nat} (h : Pow n) : ∃ t, t ≤ 4 ∧ n = 2 ^ t := by
  rcases h with rfl | rfl | rfl | rfl | rfl
  · exact ⟨0, by decide, rfl⟩
  · exact ⟨1, by decide, rfl⟩
  · exact ⟨2, by decide, rfl⟩
  · exact ⟨3, by decide, rfl⟩
  · exact ⟨4, by decide, rfl⟩

theorem power_any (n : Nat) (w : World) (h1 : 1 ≤ n) (h2 : n ≤ 16) :
    Calls Try.prog 28 #[.int .i64 (n : Int)] w fun e w' => e = .returned (.bool (decide (Pow n))) ∧ w = w' := by
  have hc : n = 1 ∨ n = 2 ∨ n = 3 ∨ n = 4 ∨ n = 5 ∨ n = 6 ∨ n = 7 ∨ n = 8 ∨ n = 9 ∨ n = 10 ∨ n = 11 ∨ n = 12 ∨ n = 13 ∨ n = 14 ∨ n = 15 ∨ n = 16 := by omega
  clear h1 h2
  rcases hc with rfl | rfl | rfl | rfl | rfl | rfl | rfl | rfl | rfl | rfl | rfl | rfl | rfl | rfl | rfl | rfl
  all_goals
    go_enter Try.func28, Try.ntmps28
    go_wp2
    go_ret
    exact ⟨rfl, rfl⟩

open Classical in
/-- What is wrong with two rows to be multiplied, as a number. -/
noncomputable def kcode (l m : List Int) : Nat :=
  if l.length = 0 then 5 else if 16 < l.length then 4 else if m.length ≠ l.length ∨ ¬ Pow l.length then 3 else if ¬ (AllIn l (-1000) 1000 ∧ AllIn m (-1000) 1000) then 1 else 0
theorem kcode_some (l m : List Int) : kcode l m = 0 ∨ kcode l m = 1 ∨ kcode l m = 3 ∨ kcode l m = 4 ∨ kcode l m = 5 := by
  unfold kcode; repeat' split
  all_goals simp
theorem kcode_none {l m : List Int} (h : l.length = 0) : kcode l m = 5 := by unfold kcode; rw [if_pos h]
theorem kcode_full {l m : List Int} (h : 16 < l.length) : kcode l m = 4 := by unfold kcode; rw [if_neg (by omega), if_pos h]
theorem kcode_shape {l m : List Int} (h0 : l.length ≠ 0) (h : ¬ 16 < l.length) (h1 : m.length ≠ l.length ∨ ¬ Pow l.length) : kcode l m = 3 := by unfold kcode; rw [if_neg h0, if_neg h, if_pos h1]
theorem kcode_range {l m : List Int} (h : Pow l.length) (h1 : m.length = l.length) (h2 : ¬ (AllIn l (-1000) 1000 ∧ AllIn m (-1000) 1000)) : kcode l m = 1 := by
  have := h; unfold Pow at this
  unfold kcode; rw [if_neg (by omega), if_neg (by omega), if_neg (fun e => e.elim (fun e => e h1) (fun e => e h)), if_pos h2]
theorem kcode_ok {l m : List Int} (h : Pow l.length) (h1 : m.length = l.length) (h2 : AllIn l (-1000) 1000) (h3 : AllIn m (-1000) 1000) : kcode l m = 0 := by
  have := h; unfold Pow at this
  unfold kcode; rw [if_neg (by omega), if_neg (by omega), if_neg (fun e => e.elim (fun e => e h1) (fun e => e h)), if_neg (fun e => e ⟨h2, h3⟩)]
theorem kcode_zero {l m : List Int} (h : kcode l m = 0) : Pow l.length ∧ m.length = l.length ∧ AllIn l (-1000) 1000 ∧ AllIn m (-1000) 1000 := by
  unfold kcode at h
  split at h
  · cases h
  · split at h
    · cases h
    · split at h
      · cases h
      · rename_i h3
        split at h
        · cases h
        · rename_i h4
          refine ⟨Classical.byContradiction fun e => h3 (.inr e), Classical.byContradiction fun e => h3 (.inl e), ?_, ?_⟩
          · exact (Classical.byContradiction fun e => h4 e : AllIn l (-1000) 1000 ∧ AllIn m (-1000) 1000).1
          · exact (Classical.byContradiction fun e => h4 e : AllIn l (-1000) 1000 ∧ AllIn m (-1000) 1000).2

theorem kCheck_none (A B : Option Addr) (l m : List Int) (c d : Nat) (w : World) (h : l.length = 0) :
    Calls Try.prog 23 #[.slice A l.length c, .slice B m.length d] w fun e w' => e = .returned (errOf (kcode l m)) ∧ w = w' := by
  rw [kcode_none h, h]
  generalize m.length = q at *
  clear h
  go_enter Try.func23, Try.ntmps23
  go_wp2
  go_ret
  exact ⟨rfl, rfl⟩
theorem kCheck_full (A B : Option Addr) (l m : List Int) (c d : Nat) (w : World) (h : 16 < l.length) :
    Calls Try.prog 23 #[.slice A l.length c, .slice B m.length d] w fun e w' => e = .returned (errOf (kcode l m)) ∧ w = w' := by
  rw [kcode_full h]
  generalize l.length = n at *
  generalize m.length = q at *
  have h' : (16 : Int) < n := by omega
  have h0 : ((n : Int) == 0) = false := by rw [beq_eq_false_iff_ne]; omega
  clear h
  go_enter Try.func23, Try.ntmps23
  go_wp2
  go_ret
  exact ⟨rfl, rfl⟩
theorem kCheck_shape (A B : Option Addr) (l m : List Int) (c d : Nat) (w : World) (h0 : l.length ≠ 0) (h : ¬ 16 < l.length) (h1 : m.length ≠ l.length ∨ ¬ Pow l.length) :
    Calls Try.prog 23 #[.slice A l.length c, .slice B m.length d] w fun e w' => e = .returned (errOf (kcode l m)) ∧ w = w' := by
  rw [kcode_shape h0 h h1]
  generalize l.length = n at *
  generalize m.length = q at *
  have PW := Lib.hid (power_any n w (by omega) (by omega))
  have h' : ¬ (16 : Int) < n := by omega
  have e0 : ((n : Int) == 0) = false := by rw [beq_eq_false_iff_ne]; omega
  clear h h0
  by_cases hq : q = n
  · subst hq
    have e1 : ((q : Int) != (q : Int)) = false := by simp
    have hp : decide (Pow q) = false := decide_eq_false (by rcases h1 with h1 | h1; exact absurd rfl h1; exact h1)
    rw [hp] at PW
    clear h1 hp
    go_enter Try.func23, Try.ntmps23
    go_wp2_with fail
    refine (PW.out).mono ?_; rintro e w' ⟨rfl, rfl⟩
    go_wp2
    go_ret
    exact ⟨rfl, rfl⟩
  · have e1 : ((q : Int) != (n : Int)) = true := by rw [bne_iff_ne]; omega
    clear h1 hq
    go_enter Try.func23, Try.ntmps23
    go_wp2_with fail
    go_ret
    exact ⟨rfl, rfl⟩

set_option maxHeartbeats 1600000 in
theorem kCheck_main (A B : Option Addr) (l m : List Int) (c d : Nat) (w : World) (ha : Lies w A l) (hb : Lies w B m) (h : Pow l.length) (h1 : m.length = l.length) :
    Calls Try.prog 23 #[.slice A l.length c, .slice B l.length d] w fun e w' => e = .returned (errOf (kcode l m)) ∧ w = w' := by
  have HA := Lib.hid ha
  have HB := Lib.hid hb
  have RNG := Lib.hid (fun h2 => kcode_range h h1 h2)
  have OKS := Lib.hid (fun h2 h3 => kcode_ok h h1 h2 h3)
  obtain ⟨v, hv⟩ : ∃ v, v = kcode l m := ⟨_, rfl⟩
  rw [← hv] at RNG OKS ⊢
  obtain ⟨n, hn⟩ : ∃ n, n = l.length := ⟨_, rfl⟩
  rw [← hn] at h h1 ⊢
  have HN := Lib.hid hn
  have HM := Lib.hid h1
  have h16 : n ≤ 16 := by unfold Pow at h; omega
  have h01 : 1 ≤ n := by unfold Pow at h; omega
  have PW := Lib.hid (power_any n w h01 h16)
  rw [decide_eq_true h] at PW
  have h' : ¬ (16 : Int) < n := by omega
  have e0 : ((n : Int) == 0) = false := by rw [beq_eq_false_iff_ne]; omega
  have e1 : ((n : Int) != (n : Int)) = false := by simp
  clear ha hb hv hn h1 h
  go_enter Try.func23, Try.ntmps23
  go_wp2_with fail
  refine (PW.out).mono ?_; rintro e w' ⟨rfl, rfl⟩
  go_wp2_with fail
  go_loop [28] (fun i => ∃ k : Nat, k ≤ n ∧ i = .int .i64 (k : Int) ∧ ∀ j, j < k → (-1000 ≤ l.getD j 0 ∧ l.getD j 0 ≤ 1000) ∧ (-1000 ≤ m.getD j 0 ∧ m.getD j 0 ≤ 1000)) (fun i => n - (intOf i).toNat)
  case atStart => exact ⟨0, Nat.zero_le _, rfl, fun j hj => absurd hj (by omega)⟩
  case round =>
    obtain ⟨k, hk, rfl, hg⟩ := hrel
    have HG := Lib.hid hg
    clear hg
    by_cases hlt : k < n
    · obtain ⟨ad, rfl, _, hcx⟩ := HA.out k (by have := HN.out; omega)
      obtain ⟨bd, rfl, _, hcy⟩ := HB.out k (by have := HM.out; omega)
      obtain ⟨x, hx⟩ : ∃ x, x = l.getD k 0 := ⟨_, rfl⟩
      obtain ⟨y, hy⟩ : ∃ y, y = m.getD k 0 := ⟨_, rfl⟩
      rw [← hx] at hcx
      rw [← hy] at hcy
      by_cases x1 : -1000 ≤ x ∧ x ≤ 1000
      · have EX := Lib.hid (whole_any x w true (by simp; omega))
        by_cases y1 : -1000 ≤ y ∧ y ≤ 1000
        · have EY := Lib.hid (whole_any y w true (by simp; omega))
          have GG := Lib.hid (show ∀ j, j < k + 1 → (-1000 ≤ l.getD j 0 ∧ l.getD j 0 ≤ 1000) ∧ (-1000 ≤ m.getD j 0 ∧ m.getD j 0 ≤ 1000) from fun j hj => by
            by_cases e : j = k
            · subst e; rw [← hx, ← hy]; exact ⟨x1, y1⟩
            · exact HG.out j (by omega))
          clear hx hy x1 y1
          go_wp2_with fail
          refine (EX.out).mono ?_; rintro e w' ⟨rfl, rfl⟩
          go_wp2_with fail
          refine (EY.out).mono ?_; rintro e w' ⟨rfl, rfl⟩
          go_wp2_with fail
          go_round
          case rel => exact ⟨k + 1, by omega, by go_num, GG.out⟩
          case measure => simp [intOf]; omega
        · have EY := Lib.hid (whole_any y w false (by simp; omega))
          have E := Lib.hid (RNG.out fun hh => y1 (by have := hh.2 k (by have := HM.out; omega); rw [← hy] at this; exact this))
          clear hx hy x1 y1
          go_wp2_with fail
          refine (EX.out).mono ?_; rintro e w' ⟨rfl, rfl⟩
          go_wp2_with fail
          refine (EY.out).mono ?_; rintro e w' ⟨rfl, rfl⟩
          go_wp2_with fail
          go_ret
          exact ⟨by rw [E.out]; rfl, rfl⟩
      · have EX := Lib.hid (whole_any x w false (by simp; omega))
        have E := Lib.hid (RNG.out fun hh => x1 (by have := hh.1 k (by have := HN.out; omega); rw [← hx] at this; exact this))
        clear hx hy x1
        go_wp2_with fail
        refine (EX.out).mono ?_; rintro e w' ⟨rfl, rfl⟩
        go_wp2_with fail
        go_ret
        exact ⟨by rw [E.out]; rfl, rfl⟩
    · have E := Lib.hid (OKS.out (fun j hj => (HG.out j (by have := HN.out; omega)).1) (fun j hj => (HG.out j (by have := HM.out; omega)).2))
      go_wp2_with fail
      go_ret
      exact ⟨by rw [E.out]; rfl, rfl⟩

theorem kCheck_any (A B : Option Addr) (l m : List Int) (c d : Nat) (w : World) (ha : Lies w A l) (hb : Lies w B m) :
    Calls Try.prog 23 #[.slice A l.length c, .slice B m.length d] w fun e w' => e = .returned (errOf (kcode l m)) ∧ w = w' := by
  by_cases h0 : l.length = 0
  · exact kCheck_none A B l m c d w h0
  by_cases h : 16 < l.length
  · exact kCheck_full A B l m c d w h
  by_cases h1 : m.length = l.length ∧ Pow l.length
  · have := kCheck_main A B l m c d w ha hb h1.2 h1.1
    rw [h1.1]; exact this
  · exact kCheck_shape A B l m c d w h0 h (by
      by_cases e : m.length = l.length
      · exact .inr fun p => h1 ⟨e, p⟩
      · exact .inl e)

set_option maxRecDepth 100000 in
set_option maxHeartbeats 1600000 in
/-- The sum of two rows. -/
theorem ksum_any (A B : Option Addr) (l m : List Int) (n c d M : Nat) (w : World) (ha : Lies w A l) (hb : Lies w B m) (hl : l.length = n) (hm : m.length = n) (hn : n ≤ 16) (bl : Ka.Bd M l) (bm : Ka.Bd M m) (hM : M ≤ 16000) :
    Calls Try.prog 30 #[.slice A n c, .slice B n d] w fun e w' => ∃ A' c', e = .returned (.slice A' n c') ∧ n ≤ c' ∧ Lies w' A' (Ka.plus n l m) ∧ Kp w w' := by
  have HA := Lib.hid ha
  have HB := Lib.hid hb
  have HN := Lib.hid hl
  have HM := Lib.hid hm
  have BL := Lib.hid bl
  have BM := Lib.hid bm
  have HP := Lib.hid (show Ka.plus n l m = Ka.row n (fun k => Ka.at' l k + Ka.at' m k) from rfl)
  clear ha hb hl hm bl bm
  obtain ⟨i0, hi, hz0, hz1, hz2⟩ := info_parts int_info
  go_enter Try.func30, Try.ntmps30
  go_wp2_with (at_make; refine wpList_make_full _ rfl _ _ 22 rfl w.heap.size 3 i0 (.int .i64 0) 1 Try.underlying22 hi hz0 hz1 _ _ _ _ n rfl rfl (by simp) (by simp) (by rw [hz2]; omega) (by unfold maxLen; omega) (Nat.le_refl _) ?_; intro w1 hown hgrow)
  have hrow : Row w1 w.heap.size (Ka.row n (fun k => if k < 0 then Ka.at' l k + Ka.at' m k else 0)) := by
    rw [← Ka.row_zeros n _ (fun k _ => if_neg (Nat.not_lt_zero k))]; exact row_made hown
  have hkp : Kp w w1 := (Kp.rfl' w).grown hgrow (by simp) (fun k hk => by cases hk)
  clear hown hgrow hi hz0 hz1 hz2
  obtain ⟨g, hg⟩ : ∃ g, g = w.heap.size := ⟨_, rfl⟩
  rw [← hg] at hrow ⊢
  have HG := Lib.hid hg
  clear hg
  go_loopw [12] (fun i wr => ∃ k : Nat, k ≤ n ∧ i = .int .i64 (k : Int) ∧ Row wr g (Ka.row n (fun j => if j < k then Ka.at' l j + Ka.at' m j else 0)) ∧ Kp w wr) (fun i _ => n - (intOf i).toNat)
  case atStart => exact ⟨0, Nat.zero_le _, rfl, hrow, hkp⟩
  case round =>
    clear hrow hkp
    obtain ⟨k, hk, rfl, hr, hkp⟩ := hrel
    by_cases hlt : k < n
    · obtain ⟨ad, rfl, _, hcx⟩ := (HA.out.keep hkp) k (by rw [HN.out]; exact hlt)
      obtain ⟨bd, rfl, _, hcy⟩ := (HB.out.keep hkp) k (by rw [HM.out]; exact hlt)
      have bx := BL.out k
      have b_y := BM.out k
      have hfree := hr.free k
      have hcell := hr.cell k (by rw [Ka.len_row]; exact hlt)
      generalize (Ka.row n (fun j => if j < k then Ka.at' l j + Ka.at' m j else 0)).getD k 0 = old at hcell
      have HS := Lib.hid (show (Ka.row n (fun j => if j < k then Ka.at' l j + Ka.at' m j else 0)).set k (Ka.at' l k + Ka.at' m k) = Ka.row n (fun j => if j < k + 1 then Ka.at' l j + Ka.at' m j else 0) from
        Ka.row_set _ _ _ _ _ (by rw [if_pos (by omega)]) fun j hj => by
          by_cases e : j < k
          · rw [if_pos e, if_pos (by omega)]
          · rw [if_neg e, if_neg (by omega)])
      change World.cell? _ _ = some (.int .i64 (Ka.at' l k)) at hcx
      change World.cell? _ _ = some (.int .i64 (Ka.at' m k)) at hcy
      generalize Ka.at' l k = x at *
      generalize Ka.at' m k = y at *
      have hw1 : IntKind.i64.wrap (x + y) = x + y := IntWalk.i64_in _ (by omega)
      have HR := Lib.hid hr
      have HK := Lib.hid hkp
      clear hr hkp bx b_y
      go_wp2_with fail
      go_still_tail 12, (by kernel_rfl)
      change wpList _ _ _ _ _ wr.drew
      go_wp2_with fail
      go_roundw
      case rel =>
        refine ⟨k + 1, by omega, by go_num, ?_, (HK.out.drewN 1).put (p := ⟨g, k, none⟩) (by show w.heap.size ≤ g; rw [HG.out]; exact Nat.le_refl _) _⟩
        rw [← HS.out]
        exact (HR.out.drewN 1).put _ _
      case measure => simp [intOf]; omega
    · obtain rfl : k = n := by omega
      have HR := Lib.hid (show Row wr g (Ka.plus k l m) by
        rw [HP.out, ← Ka.row_ext (g := fun j => if j < k then Ka.at' l j + Ka.at' m j else 0) fun j hj => if_pos hj]; exact hr)
      have HK := Lib.hid hkp
      clear hr hkp
      go_wp2_with fail
      go_ret
      exact ⟨_, _, rfl, Nat.le_refl _, HR.out.lies, HK.out⟩

end Go.Proofs.Ytlemhkceilkfhaa
