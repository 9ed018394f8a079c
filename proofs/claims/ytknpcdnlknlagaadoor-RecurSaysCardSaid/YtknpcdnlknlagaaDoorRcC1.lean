/- Contracts of package recur, first part: elements, Check, next, step. -/
import Derived.Test.YtknpcdnlknlagaaDoorRcM
import Derived.Test.YtknpcdnlknlagaaDoorCopP
import Derived.Test.YtknpcdnlknlagaaDoorPartF
import Derived.StillTailTactics
import Derived.Deep.Cut
import Derived.Deep.CutRange
import Derived.Deep.DeepCutAuto
import Derived.Deep.RegionHeld3
namespace Go.Proofs.YtknpcdnlknlagaaDoor
open Go.ChangeShapes Go.WideShapes Go.ChangeAt Go.RowKit
set_option linter.unusedVariables false

set_option maxHeartbeats 800000 in
theorem relements_any (A : Option Addr) (l : List Int) (c : Nat) (w : World) (hl : Lies w A l) (hn : l.length ≤ 1000000) (b : Bool) (hb : b = true ↔ AllIn l 0 9972) :
    Calls Tryd.prog 14 #[.slice A l.length c] w fun e w' => e = .returned (.bool b) ∧ w = w' := by
  have HL := Lib.hid hl
  have BAD := Lib.hid (fun h : ¬ AllIn l 0 9972 => show b = false by cases b; rfl; exact absurd (hb.1 rfl) h)
  have OK := Lib.hid (fun h : AllIn l 0 9972 => hb.2 h)
  obtain ⟨n, hn'⟩ : ∃ n, n = l.length := ⟨_, rfl⟩
  rw [← hn'] at hn ⊢
  have HN := Lib.hid hn'
  clear hl hb hn'
  go_enter Tryd.func14, Tryd.ntmps14
  go_wp2_with fail
  go_loop [7] (fun i => ∃ k : Nat, k ≤ n ∧ i = .int .i64 (k : Int) ∧ ∀ j, j < k → 0 ≤ l.getD j 0 ∧ l.getD j 0 ≤ 9972) (fun i => n - (intOf i).toNat)
  case atStart => exact ⟨0, Nat.zero_le _, rfl, fun j hj => absurd hj (by omega)⟩
  case round =>
    obtain ⟨k, hk, rfl, hg⟩ := hrel
    have HG := Lib.hid hg
    clear hg
    by_cases hlt : k < n
    · obtain ⟨ad, rfl, _, hc⟩ := HL.out k (by have := HN.out; omega)
      obtain ⟨m, hm⟩ : ∃ m, m = l.getD k 0 := ⟨_, rfl⟩
      rw [← hm] at hc
      by_cases h0 : m < 0
      · have E := Lib.hid (BAD.out fun hh => by have := hh k (by have := HN.out; omega); rw [← hm] at this; omega)
        clear hm
        go_wp2_with fail
        go_ret
        exact ⟨by rw [E.out]; rfl, rfl⟩
      · by_cases h1 : m ≤ 9972
        · have GG := Lib.hid (show ∀ j, j < k + 1 → 0 ≤ l.getD j 0 ∧ l.getD j 0 ≤ 9972 from fun j hj => by
            by_cases e : j = k
            · subst e; rw [← hm]; omega
            · exact HG.out j (by omega))
          have h2 : ¬ 9973 ≤ m := by omega
          clear hm
          go_wp2_with fail
          go_round
          case rel => exact ⟨k + 1, by omega, by go_num, GG.out⟩
          case measure => simp [intOf]; omega
        · have E := Lib.hid (BAD.out fun hh => by have := hh k (by have := HN.out; omega); rw [← hm] at this; omega)
          have h2 : 9973 ≤ m := by omega
          clear hm h1
          go_wp2_with fail
          go_ret
          exact ⟨by rw [E.out]; rfl, rfl⟩
    · have E := Lib.hid (OK.out (fun j hj => HG.out j (by have := HN.out; omega)))
      go_wp2_with fail
      go_ret
      exact ⟨by rw [E.out]; rfl, rfl⟩


theorem rChk_none (A B : Option Addr) (L S : List Int) (c d : Nat) (w : World) (h : L.length = 0) :
    Calls Tryd.prog 6 #[.slice A L.length c, .slice B S.length d] w fun e w' => e = .returned (errOf (rcd L S)) ∧ w = w' := by
  rw [rcd_none h, h]
  generalize S.length = q at *
  clear h
  go_enter Tryd.func6, Tryd.ntmps6
  go_wp2
  go_ret
  exact ⟨rfl, rfl⟩
theorem rChk_full (A B : Option Addr) (L S : List Int) (c d : Nat) (w : World) (h : 5 < L.length) :
    Calls Tryd.prog 6 #[.slice A L.length c, .slice B S.length d] w fun e w' => e = .returned (errOf (rcd L S)) ∧ w = w' := by
  rw [rcd_full h]
  generalize L.length = n at *
  generalize S.length = q at *
  have h' : (5 : Int) < n := by omega
  have h0 : ((n : Int) == 0) = false := by rw [beq_eq_false_iff_ne]; omega
  clear h
  go_enter Tryd.func6, Tryd.ntmps6
  go_wp2
  go_ret
  exact ⟨rfl, rfl⟩
theorem rChk_shape (A B : Option Addr) (L S : List Int) (c d : Nat) (w : World) (h0 : L.length ≠ 0) (h : ¬ 5 < L.length) (h1 : S.length ≠ L.length) :
    Calls Tryd.prog 6 #[.slice A L.length c, .slice B S.length d] w fun e w' => e = .returned (errOf (rcd L S)) ∧ w = w' := by
  rw [rcd_shape h0 h h1]
  generalize L.length = n at *
  generalize S.length = q at *
  have h' : ¬ (5 : Int) < n := by omega
  have e0 : ((n : Int) == 0) = false := by rw [beq_eq_false_iff_ne]; omega
  have e1 : ((q : Int) != (n : Int)) = true := by rw [bne_iff_ne]; omega
  clear h h0 h1
  go_enter Tryd.func6, Tryd.ntmps6
  go_wp2
  go_ret
  exact ⟨rfl, rfl⟩

set_option maxHeartbeats 1600000 in
theorem rChk_main (A B : Option Addr) (L S : List Int) (n c d : Nat) (w : World) (ha : Lies w A L) (hb : Lies w B S) (hl : L.length = n) (hm : S.length = n) (h0 : n ≠ 0) (hn : n ≤ 5) :
    Calls Tryd.prog 6 #[.slice A n c, .slice B n d] w fun e w' => e = .returned (errOf (rcd L S)) ∧ w = w' := by
  have E1 : ∀ b : Bool, (b = true ↔ AllIn L 0 9972) → Calls Tryd.prog 14 #[.slice A n c] w fun e w' => e = .returned (.bool b) ∧ w = w' := fun b hb => by
    have := relements_any A L c w ha (by omega) b hb
    rwa [hl] at this
  have E2 : ∀ b : Bool, (b = true ↔ AllIn S 0 9972) → Calls Tryd.prog 14 #[.slice B n d] w fun e w' => e = .returned (.bool b) ∧ w = w' := fun b h => by
    have := relements_any B S d w hb (by omega) b h
    rwa [hm] at this
  have RNG : ¬ (AllIn L 0 9972 ∧ AllIn S 0 9972) → rcd L S = 1 := rcd_range (by omega) (by omega) (by omega)
  have GOOD := rcd_ok (L := L) (S := S) (by omega) (by omega) (by omega)
  obtain ⟨v, hv⟩ : ∃ v, v = rcd L S := ⟨_, rfl⟩
  rw [← hv] at RNG GOOD ⊢
  clear hv ha hb hl hm
  have h5 : ¬ (5 : Int) < (n : Int) := by omega
  have e0 : ((n : Int) == 0) = false := by rw [beq_eq_false_iff_ne]; omega
  have e1 : ((n : Int) != (n : Int)) = false := by simp
  clear h0
  by_cases h1 : AllIn L 0 9972
  · have E1 := Lib.hid (E1 true ⟨fun _ => h1, fun _ => rfl⟩)
    by_cases h2 : AllIn S 0 9972
    · have E2 := Lib.hid (E2 true ⟨fun _ => h2, fun _ => rfl⟩)
      have R := Lib.hid (GOOD h1 h2)
      clear h1 h2 RNG GOOD
      go_enter Tryd.func6, Tryd.ntmps6
      go_wp2_with fail
      refine (E1.out).mono ?_; rintro e w' ⟨rfl, rfl⟩
      go_wp2_with fail
      refine (E2.out).mono ?_; rintro e w' ⟨rfl, rfl⟩
      go_wp2_with fail
      go_ret
      exact ⟨by rw [R.out]; rfl, rfl⟩
    · have E2 := Lib.hid (E2 false ⟨fun h => (by cases h), fun h => absurd h h2⟩)
      have R := Lib.hid (RNG fun h => h2 h.2)
      clear h1 h2 RNG GOOD
      go_enter Tryd.func6, Tryd.ntmps6
      go_wp2_with fail
      refine (E1.out).mono ?_; rintro e w' ⟨rfl, rfl⟩
      go_wp2_with fail
      refine (E2.out).mono ?_; rintro e w' ⟨rfl, rfl⟩
      go_wp2_with fail
      go_ret
      exact ⟨by rw [R.out]; rfl, rfl⟩
  · have E1 := Lib.hid (E1 false ⟨fun h => (by cases h), fun h => absurd h h1⟩)
    have R := Lib.hid (RNG fun h => h1 h.1)
    clear h1 RNG GOOD E2
    go_enter Tryd.func6, Tryd.ntmps6
    go_wp2_with fail
    refine (E1.out).mono ?_; rintro e w' ⟨rfl, rfl⟩
    go_wp2_with fail
    go_ret
    exact ⟨by rw [R.out]; rfl, rfl⟩

theorem rChk_any (A B : Option Addr) (L S : List Int) (c d : Nat) (w : World) (ha : Lies w A L) (hb : Lies w B S) :
    Calls Tryd.prog 6 #[.slice A L.length c, .slice B S.length d] w fun e w' => e = .returned (errOf (rcd L S)) ∧ w = w' := by
  by_cases h0 : L.length = 0
  · exact rChk_none A B L S c d w h0
  · by_cases h1 : 5 < L.length
    · exact rChk_full A B L S c d w h1
    · by_cases h2 : S.length = L.length
      · have := rChk_main A B L S L.length c d w ha hb rfl h2 h0 (by omega)
        rw [h2]
        exact this
      · exact rChk_shape A B L S c d w h0 h1 h2

theorem rcval (a : Fp.F) : 0 ≤ (a.val : Int) ∧ (a.val : Int) ≤ 9972 := Fp.val_bound a
/-- A sum of products that is not yet less than the prime. -/
theorem rcprod (a b : Fp.F) : 0 ≤ (a.val : Int) * (b.val : Int) ∧ (a.val : Int) * (b.val : Int) ≤ 100000000 := by
  have h1 := rcval a
  have h2 := rcval b
  refine ⟨Int.mul_nonneg h1.1 h2.1, ?_⟩
  have := Int.mul_le_mul h1.2 h2.2 h2.1 (by omega)
  omega

set_option maxRecDepth 100000 in
set_option maxHeartbeats 1600000 in
theorem rnext_any (A B : Option Addr) (n i c d : Nat) (f x : Nat → Fp.F) (w : World) (ha : Lies w A (rowF n f)) (hb : Lies w B (rowF i x)) (h5 : n ≤ 5) (hi : n ≤ i) (hi2 : i ≤ 1001) :
    Calls Tryd.prog 16 #[.slice A n c, .slice B i d] w fun e w' => e = .returned (.int .i64 ((Mx.sg n fun k => f k * x (i - 1 - k)).val : Int)) ∧ w = w' := by
  have HA := Lib.hid ha
  have HB := Lib.hid hb
  clear ha hb
  go_enter Tryd.func16, Tryd.ntmps16
  go_wp2_with fail
  go_loop [5, 6, 7, 10] (fun s _ _ j => ∃ (k : Nat) (z : Int), k ≤ n ∧ j = .int .i64 (k : Int) ∧ s = .int .i64 z ∧ 0 ≤ z ∧ z ≤ 100000000 * k ∧ Fp.ofInt z = Mx.sg k fun k => f k * x (i - 1 - k)) (fun _ _ _ j => n - (intOf j).toNat)
  case atStart => exact ⟨0, 0, Nat.zero_le _, rfl, rfl, by omega, by omega, rfl⟩
  case round =>
    obtain ⟨k, z, hk, rfl, rfl, z0, z1, hz⟩ := hrel
    have HZ := Lib.hid hz
    clear hz
    by_cases hlt : k < n
    · obtain ⟨ad1, rfl, _, x1⟩ := HA.out.el hlt
      obtain ⟨j, hj⟩ : ∃ j : Nat, j = i - 1 - k := ⟨_, rfl⟩
      have hji : j < i := by omega
      obtain ⟨ad2, rfl, _, x2⟩ := HB.out.el hji
      have e1 : (i : Int) - 1 - (k : Int) = (j : Int) := by omega
      have hb := rcprod (f k) (x j)
      have HF := Lib.hid (show Fp.ofInt (z + ((f k).val : Int) * ((x j).val : Int)) = Mx.sg (k + 1) fun k => f k * x (i - 1 - k) by rw [Fp.ofInt_add, Fp.ofInt_mul, HZ.out, Fp.ofInt_self, Fp.ofInt_self, Mx.sg_succ, hj])
      clear hj
      generalize ((f k).val : Int) = a at *
      generalize ((x j).val : Int) = b at *
      have hw0 : IntKind.i64.wrap ((i : Int) - 1) = (i : Int) - 1 := IntWalk.i64_in _ (by omega)
      have hw1 : IntKind.i64.wrap ((i : Int) - 1 - (k : Int)) = (j : Int) := by rw [e1]; exact IntWalk.i64_in _ (by omega)
      have hwm : IntKind.i64.wrap (a * b) = a * b := IntWalk.i64_in _ (by omega)
      have hwa : IntKind.i64.wrap (z + a * b) = z + a * b := IntWalk.i64_in _ (by omega)
      go_wp2_with fail
      go_round
      case rel => exact ⟨k + 1, z + a * b, by omega, by go_num, rfl, by omega, by omega, HF.out⟩
      case measure => simp [intOf]; omega
    · obtain rfl : k = n := by omega
      have HM := Lib.hid (show z % 9973 = ((Mx.sg k fun t => f t * x (i - 1 - t)).val : Int) by rw [← HZ.out, Fp.ofInt_val])
      go_wp2_with fail
      go_ret
      refine ⟨?_, rfl⟩
      show Ending.returned (.int .i64 (z % 9973)) = _
      rw [HM.out]

/-- What stands in the step before its last row is written: ones beside the middle. -/
def rone (n : Nat) : Nat → Nat → Int := fun a b => if a + 1 < n ∧ b = a + 1 then 1 else 0
/-- The same, where k factors stand in the last row. -/
def rlast (n : Nat) (f : Nat → Fp.F) (k : Nat) : Nat → Nat → Int := fun a b => if a + 1 = n then (if n - 1 - b < k then ((f (n - 1 - b)).val : Int) else 0) else if b = a + 1 then 1 else 0
theorem rlast_zero {n : Nat} (f : Nat → Fp.F) {a b : Nat} (ha : a < n) : rone n a b = rlast n f 0 a b := by
  unfold rone rlast
  by_cases e : a + 1 = n
  · rw [if_pos e, if_neg (by omega), if_neg (by omega)]
  · rw [if_neg e]
    by_cases e2 : b = a + 1
    · rw [if_pos ⟨by omega, e2⟩, if_pos e2]
    · rw [if_neg (fun h => e2 h.2), if_neg e2]
theorem rlast_step {n q k j : Nat} (f : Nat → Fp.F) (hq : q + 1 = n) (hk : k < n) (hj : j = n - 1 - k) {a b : Nat} (ha : a < n) (hb : b < n) : (if a = q ∧ b = j then ((f k).val : Int) else rlast n f k a b) = rlast n f (k + 1) a b := by
  unfold rlast
  by_cases e : a = q
  · have e1 : a + 1 = n := by omega
    rw [if_pos e1, if_pos e1]
    by_cases e2 : b = j
    · have e3 : n - 1 - b < k + 1 := by omega
      rw [if_pos ⟨e, e2⟩, if_pos e3, show n - 1 - b = k by omega]
    · rw [if_neg (fun h => e2 h.2)]
      by_cases e3 : n - 1 - b < k
      · have e4 : n - 1 - b < k + 1 := by omega
        rw [if_pos e3, if_pos e4]
      · have e4 : ¬ n - 1 - b < k + 1 := by omega
        rw [if_neg e3, if_neg e4]
  · have e1 : ¬ a + 1 = n := by omega
    rw [if_neg (fun h => e h.1), if_neg e1, if_neg e1]
theorem rlast_done {n : Nat} (f : Nat → Fp.F) {a b : Nat} (hb : b < n) : rlast n f n a b = ((Mx.stp n f a b).val : Int) := by
  unfold rlast Mx.stp
  by_cases e : a + 1 = n
  · rw [if_pos e, if_pos (by omega), if_pos e]
  · rw [if_neg e, if_neg e]
    by_cases e2 : b = a + 1
    · rw [if_pos e2, if_pos e2]; rfl
    · rw [if_neg e2, if_neg e2]; rfl

set_option maxRecDepth 100000 in
set_option maxHeartbeats 6400000 in
theorem rstep_any (A : Option Addr) (f : Nat → Fp.F) (n d : Nat) (w : World) (ha : Lies w A (rowF n f)) (h0 : 0 < n) (hn : n ≤ 5) :
    Calls Tryd.prog 18 #[.slice A n d] w fun e w' => ∃ g, e = .returned (.slice (some ⟨g, 0, none⟩) n n) ∧ LiesM w' (some ⟨g, 0, none⟩) (Mx.matl n n (Mx.stp n f)) ∧ Kp w w' := by
  have HA := Lib.hid ha
  clear ha
  obtain ⟨i0, hi, hz0, hz1, hz2⟩ := info_parts int_info
  obtain ⟨j0, hj, hy0, hy1, hy2⟩ := info_parts ints_info
  obtain ⟨q, hq⟩ : ∃ q, q + 1 = n := ⟨n - 1, by omega⟩
  have hqn : q < n := by omega
  have e9 : (n : Int) - 1 = (q : Int) := by omega
  have HQ0 := Lib.hid hq
  clear hq
  go_enter Tryd.func18, Tryd.ntmps18
  go_wp2_with (at_make; refine wpList_make_full _ rfl _ _ 41 rfl w.heap.size 22 j0 (.slice none 0 0) 1 Tryd.underlying41 hj hy0 hy1 _ _ _ _ n rfl rfl rfl rfl (by rw [hy2]; omega) (by unfold maxLen; omega) (Nat.le_refl _) ?_; intro w1 hown hgrow)
  have hpart : PartF w1 w.heap.size (fun _ => 0) n n 0 (rone n) := PartF.start _ hown
  have hkp : Kp w w1 := (Kp.rfl' w).grown hgrow (by simp) (fun k hk => by cases hk)
  clear hown hgrow hj hy0 hy1 hy2
  obtain ⟨g, hg⟩ : ∃ g, g = w.heap.size := ⟨_, rfl⟩
  rw [← hg] at hpart ⊢
  have HG := Lib.hid hg
  clear hg
  go_loopw [4, 13] (fun _ i wr => ∃ (k : Nat) (G : Nat → Nat), k ≤ n ∧ i = .int .i64 (k : Int) ∧ PartF wr g G n n k (rone n) ∧ Kp w wr) (fun _ i _ => n - (intOf i).toNat)
  case atStart => exact ⟨0, _, Nat.zero_le _, rfl, hpart, hkp⟩
  case round =>
    clear hpart hkp
    obtain ⟨k, G, hk, rfl, hp, hkp⟩ := hrel
    by_cases hlt : k < n
    · have HP := Lib.hid hp
      have HK := Lib.hid hkp
      clear hp hkp
      obtain ⟨wo', hwo⟩ : ∃ x, x = wr := ⟨_, rfl⟩
      subst hwo
      go_upto_region 6 with (at_make; refine wpList_make_full _ rfl _ _ 22 rfl wo'.heap.size 3 i0 (.int .i64 0) 1 Tryd.underlying22 hi hz0 hz1 _ _ _ _ n rfl rfl rfl rfl (by rw [hz2]; omega) (by unfold maxLen; omega) (Nat.le_refl _) ?_; intro w2 hown hgrow; have hkp2 : Kp wo' w2 := (Kp.rfl' wo').grown hgrow (by simp) (fun k hk => by cases hk); have hcell := (HP.out.keep hkp2).cell (Nat.le_refl k) hlt; have hfree := (HP.out.keep hkp2).free k)
      have HPL := HP.out.lt
      have hpe : PartF wo' g G n n k (fun a b => if a = k then 0 else rone n a b) := HP.out.ext (fun i j hi _ => by rw [if_neg (by omega)])
      have hrow : Row (w2.setCell ⟨g, k, none⟩ (.slice (some ⟨wo'.heap.size, 0, none⟩) n n)) wo'.heap.size (Mx.row n (fun b => if k = k then 0 else rone n k b)) := by
        have h1 : Row (w2.setCell ⟨g, k, none⟩ (.slice (some ⟨wo'.heap.size, 0, none⟩) n n)) wo'.heap.size (List.replicate n 0) := (row_made hown).far (by show wo'.heap.size ≠ g; omega) _
        rw [Mx.row_rep] at h1
        rw [Mx.row_ext (g := fun b => if k = k then 0 else rone n k b) (h := fun _ => 0) (fun j hj => by rw [if_pos rfl])]
        exact h1
      have hs := hpe.step hlt hkp2 hrow (fun b _ => rfl)
      have hk2 := (HK.out.trans hkp2).put (p := ⟨g, k, none⟩) (by show w.heap.size ≤ g; rw [HG.out]; exact Nat.le_refl _) (.slice (some ⟨wo'.heap.size, 0, none⟩) n n)
      obtain ⟨ws, hws⟩ : ∃ x, x = w2.setCell ⟨g, k, none⟩ (.slice (some ⟨wo'.heap.size, 0, none⟩) n n) := ⟨_, rfl⟩
      rw [← hws] at hs hk2 ⊢
      generalize (fun i => if i = k then wo'.heap.size else G i) = GG at *
      have HS := Lib.hid hs
      have HK2 := Lib.hid hk2
      have HGG := Lib.hid (show w.heap.size ≤ GG k by have := hs.after k (Nat.lt_succ_self k); have := HG.out; omega)
      have x1 := hs.cellOf (Nat.lt_succ_self k) hlt
      clear hcell hfree hrow hpe hown hgrow hkp2 hws hk2 HPL HP HK
      by_cases hk1 : k + 1 < n
      · have x2 := hs.el (Nat.lt_succ_self k) hk1
        have x3 := hs.freeOf (Nat.lt_succ_self k) (k + 1)
        rw [if_pos rfl] at x2
        clear hs
        go_wp2_with fail
        go_roundw
        case rel => exact ⟨k + 1, GG, by omega, by go_num, (HS.out.put (Nat.lt_succ_self k) (k + 1) 1).ext (fun a b ha hb => by
            unfold rone
            by_cases e : a = k
            · subst e
              by_cases e2 : b = a + 1
              · rw [if_pos ⟨rfl, e2⟩, if_pos ⟨by omega, e2⟩]
              · rw [if_neg (fun h => e2 h.2), if_pos rfl, if_neg (fun h => e2 h.2)]
            · rw [if_neg (fun h => e h.1), if_neg e]), HK2.out.put (p := ⟨GG k, k + 1, none⟩) HGG.out _⟩
        case measure => simp [intOf]; omega
      · clear hs
        go_wp2_with fail
        go_roundw
        case rel => exact ⟨k + 1, GG, by omega, by go_num, HS.out.ext (fun a b ha hb => by
            unfold rone
            by_cases e : a = k
            · subst e
              rw [if_pos rfl, if_neg (fun h => hk1 h.1)]
            · rw [if_neg e]), HK2.out⟩
        case measure => simp [intOf]; omega
    · obtain rfl : k = n := by omega
      have hgr := hp.done.ext (fun a b ha hb => rlast_zero f ha)
      have HGr := Lib.hid hgr
      have HK := Lib.hid hkp
      have x1 := hgr.cell hqn
      have HQ := Lib.hid (show w.heap.size ≤ G q by have := hp.done.after q hqn; have := HG.out; omega)
      clear hp hkp hgr hi hz0 hz1 hz2
      obtain ⟨wo', hwo⟩ : ∃ x, x = wr := ⟨_, rfl⟩
      subst hwo
      go_wp2_with fail
      go_loopw [6, 7, 43] (fun _ _ i wq => ∃ m : Nat, m ≤ k ∧ i = .int .i64 (m : Int) ∧ Grid wq g G k k (rlast k f m) ∧ Kp w wq) (fun _ _ i _ => k - (intOf i).toNat)
      case atStart => exact ⟨0, Nat.zero_le _, rfl, HGr.out, HK.out⟩
      case round =>
        obtain ⟨m, hm, rfl, hq, hkq⟩ := hrel
        have HQG := Lib.hid hq
        have HKQ := Lib.hid hkq
        by_cases hmt : m < k
        · obtain ⟨bd, rfl, _, y1⟩ := (HA.out.keep hkq).el hmt
          obtain ⟨j, hj⟩ : ∃ j : Nat, j = k - 1 - m := ⟨_, rfl⟩
          have hjk : j < k := by omega
          have e8 : (q : Int) - (m : Int) = (j : Int) := by omega
          have hw1 : IntKind.i64.wrap ((q : Int) - (m : Int)) = (j : Int) := by rw [e8]; exact IntWalk.i64_in _ (by omega)
          have HF := Lib.hid (fun a b (ha : a < k) (hb : b < k) => rlast_step f HQ0.out hmt hj ha hb)
          have x2 := hq.el hqn hjk
          have x3 := hq.free hqn j
          clear hq hkq hj
          generalize ((f m).val : Int) = y at *
          go_wp2_with fail
          go_roundw
          case rel => exact ⟨m + 1, by omega, by go_num, (HQG.out.put hqn j y).ext HF.out, HKQ.out.put (p := ⟨G q, j, none⟩) HQ.out _⟩
          case measure => simp [intOf]; omega
        · obtain rfl : m = k := by omega
          clear hq hkq
          go_wp2_with fail
          go_ret
          exact ⟨g, rfl, (HQG.out.ext (fun a b ha hb => rlast_done f hb)).lies, HKQ.out⟩

end Go.Proofs.YtknpcdnlknlagaaDoor
