/- Contracts of package recur, first part: elements, Check, next, step. -/
import Derived.Test.YtpffekaldpllkaaRcM
import Derived.Test.YtpffekaldpllkaaCopP
import Derived.Test.YtpffekaldpllkaaPartF
import Derived.StillTailTactics
import Derived.Deep.Cut
import Derived.Deep.CutRange
import Derived.Deep.DeepCutAuto
import Derived.Deep.RegionHeld3
namespace Go.Proofs.Ytpffekaldpllkaa
open Go.ChangeShapes Go.WideShapes Go.ChangeAt Go.RowKit
set_option linter.unusedVariables false

set_option maxHeartbeats 800000 in
theorem relements_any (A : Option Addr) (l : List Int) (c : Nat) (w : World) (hl : Lies w A l) (hn : l.length ≤ 1000000) (b : Bool) (hb : b = true ↔ AllIn l 0 9972) :
    Calls Try.prog 32 #[.slice A l.length c] w fun e w' => e = .returned (.bool b) ∧ w = w' := by
  have HL := Lib.hid hl
  have BAD := Lib.hid (fun h : ¬ AllIn l 0 9972 => show b = false by cases b; rfl; exact absurd (hb.1 rfl) h)
  have OK := Lib.hid (fun h : AllIn l 0 9972 => hb.2 h)
  obtain ⟨n, hn'⟩ : ∃ n, n = l.length := ⟨_, rfl⟩
  rw [← hn'] at hn ⊢
  have HN := Lib.hid hn'
  clear hl hb hn'
  go_enter Try.func32, Try.ntmps32
  go_wp2_with fail
  go_loop [7] (fun i => ∃ k : Nat, k ≤ n ∧ i = .int .i64 (k : Int) ∧ ∀ j, j < k → 0 ≤ l.getD j 0 ∧ l.getD j 0 ≤ 9972) (fun i => n - (intOf i).toNat)
  case atStart => exact ⟨0, Nat.zero_le _, rfl, fun j hj => absurd hj (by omega)⟩
  case round =>
    obtain ⟨k, hk, rfl, hg⟩ := hrel
    have HG := Lib.hid hg
    clear hg
    by_cases hlt : k < n
    · obtain ⟨ad, rfl, _, hc⟩ := HL.out k (by have := HN.out; omega)
      obtain ⟨m, hm⟩ : ∃ m, m = l.getD k 0 := ⟨_, rfl⟩
      rw [← hm] at hc
      by_cases h0 : m < 0
      · have E := Lib.hid (BAD.out fun hh => by have := hh k (by have := HN.out; omega); rw [← hm] at this; omega)
        clear hm
        go_wp2_with fail
        go_ret
        exact ⟨by rw [E.out]; rfl, rfl⟩
      · by_cases h1 : m ≤ 9972
        · have GG := Lib.hid (show ∀ j, j < k + 1 → 0 ≤ l.getD j 0 ∧ l.getD j 0 ≤ 9972 from fun j hj => by
            by_cases e : j = k
            · subst e; rw [← hm]; omega
            · exact HG.out j (by omega))
          have h2 : ¬ 9973 ≤ m := by omega
          clear hm
          go_wp2_with fail
          go_round
          case rel => exact ⟨k + 1, by omega, by go_num, GG.out⟩
          case measure => simp [intOf]; omega
        · have E := Lib.hid (BAD.out fun hh => by have := hh k (by have := HN.out; omega); rw [← hm] at this; omega)
          have h2 : 9973 ≤ m := by omega
          clear hm h1
          go_wp2_with fail
          go_ret
          exact ⟨by rw [E.out]; rfl, rfl⟩
    · have E := Lib.hid (OK.out (fun j hj => HG.out j (by have := HN.out; omega)))
      go_wp2_with fail
      go_ret
      exact ⟨by rw [E.out]; rfl, rfl⟩


theorem rChk_none (A B : Option Addr) (L S : List Int) (c d : Nat) (w : World) (h : L.length = 0) :
    Calls Try.prog 19 #[.slice A L.length c, .slice B S.length d] w fun e w' => e = .returned (errOf (rcd L S)) ∧ w = w' := by
  rw [rcd_none h, h]
  generalize S.length = q at *
  clear h
  go_enter Try.func19, Try.ntmps19
  go_wp2
  go_ret
  exact ⟨rfl, rfl⟩
theorem rChk_full (A B : Option Addr) (L S : List Int) (c d : Nat) (w : World) (h : 5 < L.length) :
    Calls Try.prog 19 #[.slice A L.length c, .slice B S.length d] w fun e w' => e = .returned (errOf (rcd L S)) ∧ w = w' := by
  rw [rcd_full h]
  generalize L.length = n at *
  generalize S.length = q at *
  have h' : (5 : Int) < n := by omega
  have h0 : ((n : Int) == 0) = false := by rw [beq_eq_false_iff_ne]; omega
  clear h
  go_enter Try.func19, Try.ntmps19
  go_wp2
  go_ret
  exact ⟨rfl, rfl⟩
theorem rChk_shape (A B : Option Addr) (L S : List Int) (c d : Nat) (w : World) (h0 : L.length ≠ 0) (h : ¬ 5 < L.length) (h1 : S.length ≠ L.length) :
    Calls Try.prog 19 #[.slice A L.length c, .slice B S.length d] w fun e w' => e = .returned (errOf (rcd L S)) ∧ w = w' := by
  rw [rcd_shape h0 h h1]
  generalize L.length = n at *
  generalize S.length = q at *
  have h' : ¬ (5 : Int) < n := by omega
  have e0 : ((n : Int) == 0) = false := by rw [beq_eq_false_iff_ne]; omega
  have e1 : ((q : Int) != (n : Int)) = true := by rw [bne_iff_ne]; omega
  clear h h0 h1
  go_enter Try.func19, Try.ntmps19
  go_wp2
  go_ret
  exact ⟨rfl, rfl⟩

set_option maxHeartbeats 1600000 in
theorem rChk_main (A B : Option Addr) (L S : List Int) (n c d : Nat) (w : World) (ha : Lies w A L) (hb : Lies w B S) (hl : L.length = n) (hm : S.length = n) (h0 : n ≠ 0) (hn : n ≤ 5) :
    Calls Try.prog 19 #[.slice A n c, .slice B n d] w fun e w' => e = .returned (errOf (rcd L S)) ∧ w = w' := by
  have E1 : ∀ b : Bool, (b = true ↔ AllIn L 0 9972) → Calls Try.prog 32 #[.slice A n c] w fun e w' => e = .returned (.bool b) ∧ w = w' := fun b hb => by
    have := relements_any A L c w ha (by omega) b hb
    rwa [hl] at this
  have E2 : ∀ b : Bool, (b = true ↔ AllIn S 0 9972) → Calls Try.prog 32 #[.slice B n d] w fun e w' => e = .returned (.bool b) ∧ w = w' := fun b h => by
    have := relements_any B S d w hb (by omega) b h
    rwa [hm] at this
  have RNG : ¬ (AllIn L 0 9972 ∧ AllIn S 0 9972) → rcd L S = 1 := rcd_range (by omega) (by omega) (by omega)
  have GOOD := rcd_ok (L := L) (S := S) (by omega) (by omega) (by omega)
  obtain ⟨v, hv⟩ : ∃ v, v = rcd L S := ⟨_, rfl⟩
  rw [← hv] at RNG GOOD ⊢
  clear hv ha hb hl hm
  have h5 : ¬ (5 : Int) < (n : Int) := by omega
  have e0 : ((n : Int) == 0) = false := by rw [beq_eq_false_iff_ne]; omega
  have e1 : ((n : Int) != (n : Int)) = false := by simp
  clear h0
  by_cases h1 : AllIn L 0 9972
  · have E1 := Lib.hid (E1 true ⟨fun _ => h1, fun _ => rfl⟩)
    by_cases h2 : AllIn S 0 9972
    · have E2 := Lib.hid (E2 true ⟨fun _ => h2, fun _ => rfl⟩)
      have R := Lib.hid (GOOD h1 h2)
      clear h1 h2 RNG GOOD
      go_enter Try.func19, Try.ntmps19
      go_wp2_with fail
      refine (E1.out).mono ?_; rintro e w' ⟨rfl, rfl⟩
      go_wp2_with fail
      refine (E2.out).mono ?_; rintro e w' ⟨rfl, rfl⟩
      go_wp2_with fail
      go_ret
      exact ⟨by rw [R.out]; rfl, rfl⟩
    · have E2 := Lib.hid (E2 false ⟨fun h => (by cases h), fun h => absurd h h2⟩)
      have R := Lib.hid (RNG fun h => h2 h.2)
      clear h1 h2 RNG GOOD
      go_enter Try.func19, Try.ntmps19
      go_wp2_with fail
      refine (E1.out).mono ?_; rintro e w' ⟨rfl, rfl⟩
      go_wp2_with fail
      refine (E2.out).mono ?_; rintro e w' ⟨rfl, rfl⟩
      go_wp2_with fail
      go_ret
      exact ⟨by rw [R.out]; rfl, rfl⟩
  · have E1 := Lib.hid (E1 false ⟨fun h => (by cases h), fun h => absurd h h1⟩)
    have R := Lib.hid (RNG fun h => h1 h.1)
    clear h1 RNG GOOD E2
    go_enter Try.func19, Try.ntmps19
    go_wp2_with fail
    refine (E1.out).mono ?_; rintro e w' ⟨rfl, rfl⟩
    go_wp2_with fail
    go_ret
    exact ⟨by rw [R.out]; rfl, rfl⟩

theorem rChk_any (A B : Option Addr) (L S : List Int) (c d : Nat) (w : World) (ha : Lies w A L) (hb : Lies w B S) :
    Calls Try.prog 19 #[.slice A L.length c, .slice B S.length d] w fun e w' => e = .returned (errOf (rcd L S)) ∧ w = w' := by
  by_cases h0 : L.length = 0
  · exact rChk_none A B L S c d w h0
  · by_cases h1 : 5 < L.length
    · exact rChk_full A B L S c d w h1
    · by_cases h2 : S.length = L.length
      · have := rChk_main A B L S L.length c d w ha hb rfl h2 h0 (by omega)
        rw [h2]
        exact this
      · exact rChk_shape A B L S c d w h0 h1 h2

theorem rcval (a : Fp.F) : 0 ≤ (a.val : Int) ∧ (a.val : Int) ≤ 9972 := Fp.val_bound a
/-- A sum of products that is not yet less than the prime. -/
theorem rcprod (a b : Fp.F) : 0 ≤ (a.val : Int) * (b.val : Int) ∧ (a.val : Int) * (b.val : Int) ≤ 100000000 := by
  have h1 := rcval a
  have h2 := rcval b
  refine ⟨Int.mul_nonneg h1.1 h2.1, ?_⟩
  have := Int.mul_le_mul h1.2 h2.2 h2.1 (by omega)
  omega

set_option maxRecDepth 100000 in
set_option maxHeartbeats 1600000 in
theorem rnext_any (A B : Option Addr) (n i c d : Nat) (f x : Nat → Fp.F) (w : World) (ha : Lies w A (rowF n f)) (hb : Lies w B (rowF i x)) (h5 : n ≤ 5) (hi : n ≤ i) (hi2 : i ≤ 1001) :
    Calls Try.prog 20 #[.slice A n c, .slice B i d] w fun e w' => e = .returned (.int .i64 ((Mx.sg n fun k => f k * x (i - 1 - k)).val : Int)) ∧ w = w' := by
  have HA := Lib.hid ha
  have HB := Lib.hid hb
  clear ha hb
  go_enter Try.func20, Try.ntmps20
  go_wp2_with fail
  go_loop [5, 6, 7, 10] (fun s _ _ j => ∃ (k : Nat) (z : Int), k ≤ n ∧ j = .int .i64 (k : Int) ∧ s = .int .i64 z ∧ 0 ≤ z ∧ z ≤ 100000000 * k ∧ Fp.ofInt z = Mx.sg k fun k => f k * x (i - 1 - k)) (fun _ _ _ j => n - (intOf j).toNat)
  case atStart => exact ⟨0, 0, Nat.zero_le _, rfl, rfl, by omega, by omega, rfl⟩
  case round =>
    obtain ⟨k, z, hk, rfl, rfl, z0, z1, hz⟩ := hrel
    have HZ := Lib.hid hz
    clear hz
    by_cases hlt : k < n
    · obtain ⟨ad1, rfl, _, x1⟩ := HA.out.el hlt
      obtain ⟨j, hj⟩ : ∃ j : Nat, j = i - 1 - k := ⟨_, rfl⟩
      have hji : j < i := by omega
      obtain ⟨ad2, rfl, _, x2⟩ := HB.out.el hji
      have e1 : (i : Int) - 1 - (k : Int) = (j : Int) := by omega
      have hb := rcprod (f k) (x j)
      have HF := Lib.hid (show Fp.ofInt (z + ((f k).val : Int) * ((x j).val : Int)) = Mx.sg (k + 1) fun k => f k * x (i - 1 - k) by rw [Fp.ofInt_add, Fp.ofInt_mul, HZ.out, Fp.ofInt_self, Fp.ofInt_self, Mx.sg_succ, hj])
      clear hj
      generalize ((f k).val : Int) = a at *
      generalize ((x j).val : Int) = b at *
      have hw0 : IntKind.i64.wrap ((i : Int) - 1) = (i : Int) - 1 := IntWalk.i64_in _ (by omega)
      have hw1 : IntKind.i64.wrap ((i : Int) - 1 - (k : Int)) = (j : Int) := by rw [e1]; exact IntWalk.i64_in _ (by omega)
      have hwm : IntKind.i64.wrap (a * b) = a * b := IntWalk.i64_in _ (by omega)
      have hwa : IntKind.i64.wrap (z + a * b) = z + a * b := IntWalk.i64_in _ (by omega)
      go_wp2_with fail
      go_round
      case rel => exact ⟨k + 1, z + a * b, by omega, by go_num, rfl, by omega, by omega, HF.out⟩
      case measure => simp [intOf]; omega
    · obtain rfl : k = n := by omega
      have HM := Lib.hid (show z % 9973 = ((Mx.sg k fun t => f t * x (i - 1 - t)).val : Int) by rw [← HZ.out, Fp.ofInt_val])
      go_wp2_with fail
      go_ret
      refine ⟨?_, rfl⟩
      show Ending.returned (.int .i64 (z % 9973)) = _
      rw [HM.out]

/-- What stands in the step before its last row is written: ones beside the middle. -/
def rone (n : Nat) : Nat → Nat → Int := fun a b => if a + 1 < n ∧ b = a + 1 then 1 else 0
/-- The same, where k factors stand in the last row. -/
def rlast (n : Nat) (f : Nat → Fp.F) (k : Nat) : Nat → Nat → Int := fun a b => if a + 1 = n then (if n - 1 - b < k then ((f (n - 1 - b)).val : Int) else 0) else if b = a + 1 then 1 else 0
theorem rlast_zero {n : Nat} (f : Nat → Fp.F) {a b : Nat} (ha : a < n) : rone n a b = rlast n f 0 a b := by
  unfold rone rlast
  by_cases e : a + 1 = n
  · rw [if_pos e, if_neg (by omega), if_neg (by omega)]
  · rw [if_neg e]
    by_cases e2 : b = a + 1
    · rw [if_pos ⟨by omega, e2⟩, if_pos e2]
    · rw [if_neg (fun h => e2 h.2), if_neg e2]
theorem rlast_step {n q k j : Nat} (f : Nat → Fp.F) (hq : q + 1 = n) (hk : k < n) (hj : j = n - 1 - k) {a b : Nat} (ha : a < n) (hb : b < n) : (if a = q ∧ b = j then ((f k).val : Int) else rlast n f k a b) = rlast n f (k + 1) a b := by
  unfold rlast
  by_cases e : a = q
  · have e1 : a + 1 = n := by omega
    rw [if_pos e1, if_pos e1]
    by_cases e2 : b = j
    · have e3 : n - 1 - b < k + 1 := by omega
      rw [if_pos ⟨e, e2⟩, if_pos e3, show n - 1 - b = k by omega]
    · rw [if_neg (fun h => e2 h.2)]
      by_cases e3 : n - 1 - b < k
      · have e4 : n - 1 - b < k + 1 := by omega
        rw [if_pos e3, if_pos e4]
      · have e4 : ¬ n - 1 - b < k + 1 := by omega
        rw [if_neg e3, if_neg e4]
  · have e1 : ¬ a + 1 = n := by omega
    rw [if_neg (fun h => e h.1), if_neg e1, if_neg e1]
theorem rlast_done {n : Nat} (f : Nat → Fp.F) {a b : Nat} (hb : b < n) : rlast n f n a b = ((Mx.stp n f a b).val : Int) := by
  unfold rlast Mx.stp
  by_cases e : a + 1 = n
  · rw [if_pos e, if_pos (by omega), if_pos e]
  · rw [if_neg e, if_neg e]
    by_cases e2 : b = a + 1
    · rw [if_pos e2, if_pos e2]; rfl
    · rw [if_neg e2, if_neg e2]; rfl


end Go.Proofs.Ytpffekaldpllkaa
