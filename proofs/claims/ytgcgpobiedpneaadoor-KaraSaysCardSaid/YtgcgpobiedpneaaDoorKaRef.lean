/- Contracts of the document's answer for package kara (package rankmereref1): Long, Product. -/
import Derived.Test.YtgcgpobiedpneaaDoorKaC3
namespace Go.Proofs.YtgcgpobiedpneaaDoor
open Go.ChangeShapes Go.WideShapes Go.ChangeAt Go.RowKit
set_option linter.unusedVariables false

/-- What Long answers. -/
def LongAns (l m : List Int) (e : Ending) : Prop :=
  (kcode l m ≠ 0 ∧ e = .returned (.tuple #[.int .i64 (kcode l m : Nat), .int .i64 0])) ∨ (kcode l m = 0 ∧ ∃ t : Nat, t ≤ 4 ∧ l.length = 2 ^ t ∧ e = .returned (.tuple #[.int .i64 0, .int .i64 (t : Int)]))

theorem refLong_none (A B : Option Addr) (l m : List Int) (c d : Nat) (w : World) (h : l.length = 0) :
    Calls Tryd.prog 4 #[.slice A l.length c, .slice B m.length d] w fun e w' => LongAns l m e ∧ w = w' := by
  have K := Lib.hid (kcode_none (m := m) h)
  rw [h]
  generalize m.length = q at *
  clear h
  go_enter Tryd.func4, Tryd.ntmps4
  go_wp2
  go_ret2
  exact ⟨.inl ⟨by rw [K.out]; decide, by rw [K.out]; rfl⟩, rfl⟩
theorem refLong_full (A B : Option Addr) (l m : List Int) (c d : Nat) (w : World) (h : 16 < l.length) :
    Calls Tryd.prog 4 #[.slice A l.length c, .slice B m.length d] w fun e w' => LongAns l m e ∧ w = w' := by
  have K := Lib.hid (kcode_full (m := m) h)
  generalize l.length = n at *
  generalize m.length = q at *
  have h' : (16 : Int) < n := by omega
  have h0 : ((n : Int) == 0) = false := by rw [beq_eq_false_iff_ne]; omega
  clear h
  go_enter Tryd.func4, Tryd.ntmps4
  go_wp2
  go_ret2
  exact ⟨.inl ⟨by rw [K.out]; decide, by rw [K.out]; rfl⟩, rfl⟩

theorem two_powers {n p k : Nat} (hp : p = 2 ^ k) (hk : k ≤ 4) (h1 : n ≤ p) (h2 : p < 2 * n) : Pow n ↔ p = n := by
  have hc : k = 0 ∨ k = 1 ∨ k = 2 ∨ k = 3 ∨ k = 4 := by omega
  unfold Pow
  rcases hc with rfl | rfl | rfl | rfl | rfl <;> simp at hp <;> omega

set_option maxRecDepth 100000 in
set_option maxHeartbeats 1600000 in
theorem refLong_main (A B : Option Addr) (l m : List Int) (c d : Nat) (w : World) (ha : Lies w A l) (hb : Lies w B m) (h0 : l.length ≠ 0) (h : ¬ 16 < l.length) (hmq : m.length ≤ 1000000 ∨ m.length ≠ l.length) :
    Calls Tryd.prog 4 #[.slice A l.length c, .slice B m.length d] w fun e w' => LongAns l m e ∧ w = w' := by
  have SHP := Lib.hid (fun h1 => kcode_shape (l := l) (m := m) h0 h h1)
  have RNG := Lib.hid (fun hP h1 h2 => kcode_range (l := l) (m := m) hP h1 h2)
  have OKS := Lib.hid (fun hP h1 h2 h3 => kcode_ok (l := l) (m := m) hP h1 h2 h3)
  have AX := Lib.hid (all_any A l c (-1000) 1000 w ha (by omega))
  have AY := Lib.hid (fun hq : m.length = l.length => all_any B m d (-1000) 1000 w hb (by omega))
  have ANS := Lib.hid (fun e => show LongAns l m e ↔ _ from Iff.rfl)
  unfold LongAns at *
  obtain ⟨v, hv⟩ : ∃ v, v = kcode l m := ⟨_, rfl⟩
  rw [← hv] at SHP RNG OKS ⊢
  clear hv ANS
  generalize l.length = n at *
  generalize m.length = q at *
  have n16 : n ≤ 16 := by omega
  have n1 : 1 ≤ n := by omega
  have h' : ¬ (16 : Int) < n := by omega
  have e0 : ((n : Int) == 0) = false := by rw [beq_eq_false_iff_ne]; omega
  clear ha hb h0 h hmq
  go_enter Tryd.func4, Tryd.ntmps4
  go_wp2_with fail
  go_loop [6, 7] (fun s i => ∃ k p : Nat, s = .int .i64 (k : Int) ∧ i = .int .i64 (p : Int) ∧ p = 2 ^ k ∧ k ≤ 4 ∧ p < 2 * n) (fun _ i => 2 * n - (intOf i).toNat)
  case atStart => exact ⟨0, 1, rfl, rfl, rfl, by omega, by omega⟩
  case round =>
    obtain ⟨k, p, rfl, rfl, hp, hk, hpn⟩ := hrel
    have HP := Lib.hid hp
    by_cases hlt : p < n
    · have k4 : k + 1 ≤ 4 := by
        have hc : k = 4 ∨ k < 4 := by omega
        rcases hc with rfl | hc
        · simp at hp; omega
        · omega
      have NP := Lib.hid (show 2 * p = 2 ^ (k + 1) by rw [Nat.pow_succ, ← hp]; omega)
      have p1 : 1 ≤ p := by rw [hp]; exact Nat.one_le_two_pow
      clear hp
      go_wp2_with fail
      go_round
      case rel => exact ⟨k + 1, 2 * p, by go_num, by go_num, NP.out, k4, by omega⟩
      case measure => simp [intOf]; omega
    · have TW := Lib.hid (two_powers hp hk (by omega) hpn)
      clear hp
      by_cases hq : q = n
      · subst hq
        have AZ := Lib.hid (AY.out rfl)
        have RN := Lib.hid (fun hP h2 => RNG.out hP rfl h2)
        have OK := Lib.hid (fun hP h2 h3 => OKS.out hP rfl h2 h3)
        clear AY RNG OKS
        have e1 : ((q : Int) != (q : Int)) = false := by simp
        by_cases hpq : p = q
        · have e2 : ((p : Int) != (q : Int)) = false := by rw [hpq]; simp
          have PW := Lib.hid (TW.out.2 hpq)
          have HPQ := Lib.hid hpq
          clear hpq hpn
          go_wp2_with fail
          refine (AX.out).mono ?_; rintro e w' ⟨hte, rfl⟩
          rcases hte with ⟨hp, rfl⟩ | ⟨hp, rfl⟩
          · have PX := Lib.hid hp
            clear hp
            go_wp2_with fail
            refine (AZ.out).mono ?_; rintro e w' ⟨hte, rfl⟩
            rcases hte with ⟨hp, rfl⟩ | ⟨hp, rfl⟩
            · have E := Lib.hid (OK.out PW.out PX.out hp)
              clear hp
              go_wp2_with fail
              go_ret2
              exact ⟨.inr ⟨E.out, k, hk, by rw [← HPQ.out, HP.out], rfl⟩, rfl⟩
            · have E := Lib.hid (RN.out PW.out (fun e => hp e.2))
              clear hp
              go_wp2_with fail
              go_ret2
              exact ⟨.inl ⟨by rw [E.out]; decide, by rw [E.out]; rfl⟩, rfl⟩
          · have E := Lib.hid (RN.out PW.out (fun e => hp e.1))
            clear hp
            go_wp2_with fail
            go_ret2
            exact ⟨.inl ⟨by rw [E.out]; decide, by rw [E.out]; rfl⟩, rfl⟩
        · have e2 : ((p : Int) != (q : Int)) = true := by rw [bne_iff_ne]; omega
          have E := Lib.hid (SHP.out (.inr fun e => hpq (TW.out.1 e)))
          clear hpq
          go_wp2_with fail
          go_ret2
          exact ⟨.inl ⟨by rw [E.out]; decide, by rw [E.out]; rfl⟩, rfl⟩
      · have e1 : ((n : Int) != (q : Int)) = true := by rw [bne_iff_ne]; omega
        have E := Lib.hid (SHP.out (.inl hq))
        clear hq
        go_wp2_with fail
        go_ret2
        exact ⟨.inl ⟨by rw [E.out]; decide, by rw [E.out]; rfl⟩, rfl⟩

theorem refLong_any (A B : Option Addr) (l m : List Int) (c d : Nat) (w : World) (ha : Lies w A l) (hb : Lies w B m) :
    Calls Tryd.prog 4 #[.slice A l.length c, .slice B m.length d] w fun e w' => LongAns l m e ∧ w = w' := by
  by_cases h0 : l.length = 0
  · exact refLong_none A B l m c d w h0
  by_cases h : 16 < l.length
  · exact refLong_full A B l m c d w h
  exact refLong_main A B l m c d w ha hb h0 h (by omega)

/-- One term of a sum of products. -/
def tm (l m : List Int) (k i : Nat) : Int := if i ≤ k then Ka.at' l i * Ka.at' m (k - i) else 0
theorem tm_all {l m : List Int} {n : Nat} (hl : l.length = n) (k : Nat) : Ka.sm n (tm l m k) = Ka.cv (Ka.at' l) (Ka.at' m) k := by
  unfold Ka.cv
  by_cases h : n ≤ k + 1
  · rw [Ka.sm_stop h fun i hi _ => by rw [Ka.at_out (by omega), Int.zero_mul]]
    exact Ka.sm_congr fun i hi => if_pos (by omega)
  · rw [Ka.sm_stop (m := k + 1) (n := n) (f := tm l m k) (by omega) fun i hi _ => by unfold tm; exact if_neg (by omega)]
    exact Ka.sm_congr fun i hi => if_pos (by omega)

set_option maxRecDepth 100000 in
set_option maxHeartbeats 1600000 in
theorem refProduct_any (A B : Option Addr) (l m : List Int) (n N c d : Nat) (w : World) (ha : Lies w A l) (hb : Lies w B m) (hl : l.length = n) (hm : m.length = n) (h1 : 1 ≤ n) (h16 : n ≤ 16) (hN : N + 1 = 2 * n) (bl : Ka.Bd 1000 l) (bm : Ka.Bd 1000 m) :
    Calls Tryd.prog 7 #[.slice A n c, .slice B n d] w fun e w' => ∃ A' c', e = .returned (.slice A' N c') ∧ Lies w' A' (Ka.prod n l m) ∧ Kp w w' := by
  have HA := Lib.hid ha
  have HB := Lib.hid hb
  have HL := Lib.hid hl
  have HM := Lib.hid hm
  have HNN := Lib.hid hN
  have BL := Lib.hid bl
  have BM := Lib.hid bm
  have PR := Lib.hid (show Ka.row N (Ka.cv (Ka.at' l) (Ka.at' m)) = Ka.prod n l m by rw [show N = 2 * n - 1 by omega]; rfl)
  have SB := Lib.hid (fun (k j : Nat) => Ka.sm_bound (n := j) (f := tm l m k) (M := 1000000) (fun i _ => by
    unfold tm
    split
    · exact Ka.mul_bounds (M := 1000) (bl i) (bm _)
    · decide))
  have hN2 : 2 * (n : Int) - 1 = (N : Int) := by omega
  have hN3 : IntKind.i64.wrap (2 * (n : Int)) = 2 * (n : Int) := IntWalk.i64_in _ (by omega)
  have hNb : N ≤ 31 := by omega
  clear ha hb hl hm hN bl bm
  go_enter Tryd.func7, Tryd.ntmps7
  go_wp2_with fail
  go_loopw [5, 6] (fun v i wr => ∃ k : Nat, k ≤ N ∧ i = .int .i64 (k : Int) ∧ Own wr w.heap.size v (Ka.row k (Ka.cv (Ka.at' l) (Ka.at' m))) ∧ Kp w wr) (fun _ i _ => N - (intOf i).toNat)
  case atStart => exact ⟨0, Nat.zero_le _, rfl, Own.none _ _, Kp.rfl' _⟩
  case round =>
    obtain ⟨k, hk, rfl, hown, hkp⟩ := hrel
    have HO := Lib.hid hown
    have HK := Lib.hid hkp
    clear hown hkp
    by_cases hlt : k < N
    · go_wp2_with fail
      go_loopw [7, 8] (fun v i wx => ∃ j : Nat, j ≤ n ∧ i = .int .i64 (j : Int) ∧ v = .int .i64 (Ka.sm j (tm l m k)) ∧ Kp wr wx) (fun _ i _ => n - (intOf i).toNat)
      case atStart => exact ⟨0, Nat.zero_le _, rfl, rfl, Kp.rfl' _⟩
      case round =>
        obtain ⟨j, hj, rfl, rfl, hkx⟩ := hrel
        have HX := Lib.hid hkx
        clear hkx
        by_cases hlt2 : j < n
        · have ST := Lib.hid (show Ka.sm (j + 1) (tm l m k) = Ka.sm j (tm l m k) + tm l m k j from rfl)
          have sb := SB.out k j
          have s16 : (j : Int) * 1000000 ≤ 16000000 := by omega
          by_cases hin : j ≤ k ∧ k - j < n
          · obtain ⟨i, hi⟩ : ∃ i, i = k - j := ⟨_, rfl⟩
            have eT := Lib.hid (show tm l m k j = Ka.at' l j * Ka.at' m i by unfold tm; rw [if_pos hin.1, hi])
            have ei : (k : Int) - (j : Int) = (i : Int) := by omega
            have iN : i < n := by omega
            obtain ⟨ad, rfl, _, xc⟩ := (HA.out.keep (HK.out.trans HX.out)) j (by rw [HL.out]; exact hlt2)
            obtain ⟨bd, rfl, _, yc⟩ := (HB.out.keep (HK.out.trans HX.out)) i (by rw [HM.out]; exact iN)
            change World.cell? _ _ = some (.int .i64 (Ka.at' l j)) at xc
            change World.cell? _ _ = some (.int .i64 (Ka.at' m i)) at yc
            have b1 := BL.out j
            have b2 := BM.out i
            have hb := Ka.mul_bounds (M := 1000) b1 b2
            have hw1 : IntKind.i64.wrap (Ka.at' l j * Ka.at' m i) = Ka.at' l j * Ka.at' m i := IntWalk.i64_in _ (by omega)
            have hw2 : IntKind.i64.wrap (Ka.sm j (tm l m k) + Ka.at' l j * Ka.at' m i) = Ka.sm j (tm l m k) + Ka.at' l j * Ka.at' m i := IntWalk.i64_in _ (by omega)
            have INY := Lib.hid (fun wx => refIn_yes (i : Int) 0 ((n : Int) - 1) wx (by omega) (by omega))
            rw [eT.out] at ST
            clear eT b1 b2 hb hi hin sb s16
            generalize Ka.at' l j = xv at *
            generalize Ka.at' m i = yv at *
            obtain ⟨z, hz⟩ : ∃ z, z = Ka.sm (j + 1) (tm l m k) := ⟨_, rfl⟩
            rw [← hz] at ST
            have HZ := Lib.hid hz
            clear hz
            generalize Ka.sm j (tm l m k) = s at *
            go_wp2_with fail
            refine (INY.out _).mono ?_; rintro e w' ⟨rfl, rfl⟩
            go_wp2_with fail
            go_quiet (fail)
            go_wp2_with fail
            go_roundw
            case rel => exact ⟨j + 1, by omega, by go_num, by rw [← HZ.out, ST.out], HX.out.drewN _⟩
            case measure => simp [intOf]; omega
          · have eT := Lib.hid (show tm l m k j = 0 by
              unfold tm
              split
              · rw [Ka.at_out (l := m) (by have := HM.out; omega), Int.mul_zero]
              · rfl)
            obtain ⟨x, hx⟩ : ∃ x, x = (k : Int) - (j : Int) := ⟨_, rfl⟩
            have hx1 : (k : Int) - (j : Int) = x := hx.symm
            have INN := Lib.hid (fun wx => refIn_no x 0 ((n : Int) - 1) wx (by omega))
            have hxb : -100 ≤ x ∧ x ≤ 100 := by omega
            rw [eT.out, Int.add_zero] at ST
            clear eT hin hx sb s16
            go_wp2_with fail
            refine (INN.out _).mono ?_; rintro e w' ⟨rfl, rfl⟩
            go_wp2_with fail
            go_roundw
            case rel => exact ⟨j + 1, by omega, by go_num, by rw [ST.out], HX.out⟩
            case measure => simp [intOf]; omega
        · obtain rfl : j = n := by omega
          have SS := Lib.hid (show Ka.row (k + 1) (Ka.cv (Ka.at' l) (Ka.at' m)) = Ka.row k (Ka.cv (Ka.at' l) (Ka.at' m)) ++ [Ka.sm j (tm l m k)] by
            rw [Ka.row_snoc, tm_all HL.out])
          have hlen : (Ka.row k (Ka.cv (Ka.at' l) (Ka.at' m))).length + 1 ≤ 17000000000000 := by rw [Ka.len_row]; omega
          have HKX := Lib.hid (HK.out.trans HX.out)
          have HOX := Lib.hid (HO.out.kp HX.out)
          have hsz := HKX.out.size
          rename_i wx
          generalize Ka.sm j (tm l m k) = z at *
          go_wp2_with (at_builtin; refine wpList_push rfl _ _ rfl w.heap.size _ (Ka.row k (Ka.cv (Ka.at' l) (Ka.at' m))) z _ 1 rfl rfl (HOX.out.new _) (by simp) hlen (by simp; omega) ?_; intro v' w' h1 h2 _)
          have HO' := Lib.hid (show Own w' w.heap.size v' (Ka.row (k + 1) (Ka.cv (Ka.at' l) (Ka.at' m))) by rw [SS.out]; exact h1)
          have HK' := Lib.hid (own_below (HOX.out.new _) (HKX.out.new _) (by simp; omega) h2)
          clear h1 h2
          go_wp2_with fail
          go_roundw
          case rel => exact ⟨k + 1, by omega, by go_num, HO'.out, HK'.out⟩
          case measure => simp [intOf]; omega
    · obtain rfl : k = N := by omega
      rw [PR.out] at HO
      obtain ⟨As, cs, rfl, hls, hcs⟩ := HO.out.cap
      rw [← PR.out, Ka.len_row]
      have LS := Lib.hid hls
      clear hls hcs
      go_wp2_with fail
      go_ret
      exact ⟨As, cs, rfl, LS.out, HK.out⟩

end Go.Proofs.YtgcgpobiedpneaaDoor
