/- The law TreeCayley. -/
import Derived.Test.YtgfhmffkdhfoeaaDoorTrFact
import Derived.Test.YtgfhmffkdhfoeaaDoorRowO
import Derived.Test.YtgfhmffkdhfoeaaDoorErrG
namespace Go.Proofs.YtgfhmffkdhfoeaaDoor
open Go.ChangeShapes Go.WideShapes Go.ChangeAt Go.RowKit
set_option linter.unusedVariables false

theorem rows_fresh {w w' : World} {B : Nat} {v : Value} {C : List (List Int)} {g : Nat} {l : List Int} (h : Rows w B v C) (hl : Lies w' (some ⟨g, 0, none⟩) l) (hg : w.heap.size ≤ g) : Off w' v (some ⟨g, 0, none⟩) l := fun k hk => by
  obtain ⟨ad, e, a, c⟩ := hl k hk
  obtain rfl := Option.some.inj e
  obtain ⟨H, h1, _⟩ := h.top
  exact ⟨_, rfl, a, fun e' => by have e' : v.ownBlock = some g := e'; have := (World.ownsRow.lt h1 g e').2; omega, c⟩
theorem rowsO_none (w : World) (B : Nat) : Rows w B (.slice none 0 0) [] := ⟨fun _ => .nilIface, hdsV_none _ _ _, fun i hi => absurd hi (by simp)⟩
theorem full_ok : ∀ n, n < 7 → 1 ≤ n → (Zx.full n).length ≤ 15 ∧ ∀ e, e ∈ Zx.full n → (e.1 < n ∧ e.2 < n) ∧ e.1 ≠ e.2 := by decide +kernel
theorem full_gr {n : Nat} (h1 : 1 ≤ n) (h6 : n ≤ 6) : Gr n (Zx.full n) ((Zx.full n).map pr2) :=
  have h := full_ok n (by omega) h1
  ⟨h1, h6, h.1, rfl, fun e he => (h.2 e he).1, fun e he => (h.2 e he).2⟩
theorem full_trn {n : Nat} (h1 : 1 ≤ n) (h6 : n ≤ 6) : trn n (Zx.full n) = n ^ (n - 2) := by
  have h := (full_gr h1 h6).det (p := n - 1) (by omega) (r := 0) (by omega)
  have h2 := Zx.full_trs n (by omega) h1
  unfold lpm at h
  rw [h2] at h
  have h3 := Int.ofNat_inj.1 h
  rw [← h3]
  split
  · rename_i e; subst e; rfl
  · rfl
/-- A power, as a name. -/
def npw (n t : Nat) : Nat := n ^ t
theorem npw_le : ∀ n, n < 7 → ∀ t, t < 6 → npw n t ≤ 7776 := by decide +kernel
theorem npw_succ (n t : Nat) : ((npw n t : Nat) : Int) * (n : Int) = ((npw n (t + 1) : Nat) : Int) := by unfold npw; rw [Nat.pow_succ]; exact (Int.natCast_mul _ _).symm
theorem full_len {i j : Nat} : ∀ j, (Zx.rowp i j).length = j
  | 0 => rfl
  | j + 1 => by show (Zx.rowp i j ++ [(i, j)]).length = j + 1; rw [List.length_append, full_len (i := i) (j := j) j]; rfl
theorem full_bd : ∀ i, (Zx.full i).length ≤ i * i
  | 0 => Nat.le_refl _
  | i + 1 => by
    show (Zx.full i ++ Zx.rowp i i).length ≤ _
    rw [List.length_append, full_len (i := i) (j := i) i]
    have := full_bd i
    have e : (i + 1) * (i + 1) = i * i + i + i + 1 := by grind
    omega

set_option maxRecDepth 100000 in
set_option maxHeartbeats 6400000 in
theorem walk_TreeCayley (n : Int) (w : World) (hl : Told.Laid w) :
    Calls Tryd.prog 4 #[.int .i64 n] w fun e w' => e = .returned (.bool true) ∧ Kp w w' := by
  have FA := Lib.hid (fun w => treeFact_any w)
  have HL := Lib.hid hl
  clear hl
  obtain ⟨t, ht⟩ : ∃ t, t = (decide (1 ≤ n) && decide (n ≤ 6)) := ⟨_, rfl⟩
  have IN := Lib.hid (fun w => law4In_any n 1 6 w t ht.symm)
  cases t
  · have h1 : trcd n [] = 1 := by
      unfold trcd
      have : ¬ (1 ≤ n ∧ n ≤ 6) := by simpa using ht.symm
      rw [if_pos (by omega)]
    have CN := Lib.hid (fun w => TCnt_no n none [] 0 0 w (LiesM.empty _ _) rfl (by rw [h1]; decide))
    rw [h1] at CN
    have EA := Lib.hid (fun w hl => error_says 1 w hl (by decide))
    clear ht h1
    go_enter Tryd.func4, Tryd.ntmps4
    go_wp2_with fail
    refine (FA.out _).mono ?_; rintro e w1 ⟨rfl, k1⟩
    have K1 := Lib.hid k1
    clear k1
    go_wp2_with fail
    refine (IN.out _).mono ?_; rintro e w2 ⟨rfl, rfl⟩
    go_wp2_with fail
    refine (CN.out _).mono ?_; rintro e w2 ⟨rfl, k2⟩
    have K2 := Lib.hid (K1.out.trans k2)
    clear k2
    go_wp2_with fail
    refine (EA.out _ (laid_kp HL.out K2.out)).mono ?_; rintro e w3 ⟨rfl, k3⟩
    have K3 := Lib.hid (K2.out.trans k3)
    clear k3
    go_wp2_with fail
    go_ret
    exact ⟨rfl, K3.out⟩
  have hn : 1 ≤ n ∧ n ≤ 6 := by simpa using ht.symm
  obtain ⟨N, rfl⟩ : ∃ N : Nat, n = N := ⟨n.toNat, by omega⟩
  have n1 : 1 ≤ N := by omega
  have n6 : N ≤ 6 := by omega
  have CN := Lib.hid (fun A d w h => TCnt_ok N _ _ (full_gr n1 n6) A (Zx.full N).length d w h (List.length_map _))
  rw [full_trn n1 n6, show N ^ (N - 2) = npw N (N - 2) from rfl] at CN
  have PW := Lib.hid (fun t (ht : t < 6) => npw_le N (by omega) t ht)
  clear ht hn
  go_enter Tryd.func4, Tryd.ntmps4
  go_wp2_with fail
  refine (FA.out _).mono ?_; rintro e w1 ⟨rfl, k1⟩
  have K1 := Lib.hid k1
  clear k1
  go_wp2_with fail
  refine (IN.out _).mono ?_; rintro e w2 ⟨rfl, rfl⟩
  go_wp2_with fail
  have R0 := Lib.hid (rowsO_none w1 w.heap.size)
  go_loopw [6, 7] (fun v i wr => ∃ t : Nat, t ≤ N ∧ i = .int .i64 (t : Int) ∧ Rows wr w.heap.size v ((Zx.full t).map pr2) ∧ Kp w wr) (fun _ i _ => N - (intOf i).toNat)
  case atStart => exact ⟨0, Nat.zero_le _, rfl, R0.out, K1.out⟩
  case round =>
    obtain ⟨t, ht, rfl, hr, hk⟩ := hrel
    clear R0 K1
    obtain ⟨wo, hwo⟩ : ∃ x, x = wr := ⟨_, rfl⟩
    subst hwo
    have RR := Lib.hid hr
    have KR := Lib.hid hk
    clear hr hk
    by_cases hlt : t < N
    · have R1 := Lib.hid (show Rows wo w.heap.size u6 ((Zx.full t ++ Zx.rowp t 0).map pr2) by show Rows _ _ _ ((Zx.full t ++ []).map pr2); rw [List.append_nil]; exact RR.out)
      go_wp2_with fail
      go_loopw [6, 8] (fun v i wq => ∃ s : Nat, s ≤ t ∧ i = .int .i64 (s : Int) ∧ Rows wq w.heap.size v ((Zx.full t ++ Zx.rowp t s).map pr2) ∧ Kp w wq) (fun _ i _ => t - (intOf i).toNat)
      case atStart => exact ⟨0, Nat.zero_le _, rfl, R1.out, KR.out⟩
      case round =>
        obtain ⟨s, hs, rfl, hr, hk⟩ := hrel
        clear R1 RR KR
        obtain ⟨w4, hw4⟩ : ∃ x, x = wr := ⟨_, rfl⟩
        subst hw4
        have RR := Lib.hid hr
        have KR := Lib.hid hk
        clear hr hk
        by_cases hlt2 : s < t
        · have EQ := Lib.hid (show (Zx.full t ++ Zx.rowp t (s + 1)).map pr2 = (Zx.full t ++ Zx.rowp t s).map pr2 ++ [pr2 (t, s)] by
            show (Zx.full t ++ (Zx.rowp t s ++ [(t, s)])).map pr2 = _
            rw [← List.append_assoc, List.map_append (l₂ := [(t, s)])]; rfl)
          have hlen : ((Zx.full t ++ Zx.rowp t s).map pr2).length + 1 ≤ 1000000 := by
            rw [List.length_map, List.length_append, full_len (i := t) (j := s) s]
            have := full_bd t
            have := Nat.mul_le_mul ht ht
            have := Nat.mul_le_mul n6 n6
            omega
          obtain ⟨C, hC⟩ : ∃ C, C = (Zx.full t ++ Zx.rowp t s).map pr2 := ⟨_, rfl⟩
          rw [← hC] at EQ hlen RR
          clear hC
          have L5 := (lies_new' w4 3 [(t : Int), (s : Int)] _ rfl).keep ((Kp.rfl' _).new (.cells #[.slice (some ⟨w4.heap.size, 0, none⟩) 2 2] 28))
          have O1 := Lib.hid (rows_fresh RR.out L5 (Nat.le_refl _))
          have R5 := Lib.hid (RR.out.keep (((Kp.rfl' _).new (.cells #[.int .i64 (t : Int), .int .i64 (s : Int)] 3)).new (.cells #[.slice (some ⟨w4.heap.size, 0, none⟩) 2 2] 28)))
          have K5 := Lib.hid ((KR.out.new (.cells #[.int .i64 (t : Int), .int .i64 (s : Int)] 3)).new (.cells #[.slice (some ⟨w4.heap.size, 0, none⟩) 2 2] 28))
          have hB5 := K5.out.size
          clear L5 RR KR
          go_wp2_with (at_builtin; refine wpList_pushR rfl _ _ rfl w.heap.size _ C (some ⟨w4.heap.size, 0, none⟩) (pr2 (t, s)) 2 2 (w4.heap.size + 1) 1 rfl (Nat.le_refl _) rfl rfl R5.out (cell_made _ _ _ _ 0 (by simp)) O1.out hlen hB5 ?_; intro v' w9 hr9 _ _ hk9)
          have R9 := Lib.hid hr9
          have K9 := Lib.hid (hk9 w (Nat.le_refl _) K5.out)
          clear hr9 hk9 R5 K5 O1
          go_wp2_with fail
          go_roundw
          case rel => exact ⟨s + 1, by omega, by go_num, by rw [EQ.out]; exact R9.out, K9.out⟩
          case measure => simp [intOf]; omega
        · obtain rfl : s = t := by omega
          go_wp2_with fail
          go_roundw
          case rel => exact ⟨s + 1, by omega, by go_num, RR.out, KR.out⟩
          case measure => simp [intOf]; omega
    · obtain rfl : t = N := by omega
      obtain ⟨A1, c1, rfl, _, hl1⟩ := RR.out.lies
      rw [List.length_map] at RR ⊢
      have L1 := Lib.hid hl1
      clear hl1
      go_wp2_with fail
      go_loop [9, 10] (fun v i => ∃ s : Nat, (s + 2 ≤ t ∨ s = 0) ∧ i = .int .i64 ((s + 2 : Nat) : Int) ∧ v = .int .i64 (npw t s : Int)) (fun _ i => t - (intOf i).toNat)
      case atStart => exact ⟨0, .inr rfl, rfl, rfl⟩
      case round =>
        obtain ⟨s, hs, rfl, rfl⟩ := hrel
        by_cases hlt3 : s + 2 < t
        · have EP := npw_succ t s
          have b1 := PW.out (s + 1) (by omega)
          have v1 : IntKind.i64.wrap ((npw t s : Int) * (t : Int)) = (npw t (s + 1) : Int) := by rw [EP]; exact IntWalk.i64_in _ (by omega)
          have i1 : ((s + 2 : Nat) : Int) < (t : Int) := by omega
          generalize npw t s = M at *
          clear EP
          go_wp2_with fail
          go_round
          case rel => exact ⟨s + 1, by omega, by go_num, by first | rfl | rw [v1]⟩
          case measure => simp [intOf]; omega
        · have hE : s = t - 2 := by omega
          have i1 : ¬ ((s + 2 : Nat) : Int) < (t : Int) := by omega
          rw [hE]
          clear PW hE hs hlt3
          generalize npw t (t - 2) = M at *
          go_wp2_with fail
          refine (CN.out _ _ _ L1.out).mono ?_; rintro e w2 ⟨rfl, k2⟩
          have K2 := Lib.hid (KR.out.trans k2)
          clear k2
          go_wp2_with fail
          go_ret
          exact ⟨rfl, K2.out⟩

end Go.Proofs.YtgfhmffkdhfoeaaDoor
