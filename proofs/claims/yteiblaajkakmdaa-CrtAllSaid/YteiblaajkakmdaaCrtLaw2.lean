/- The plain laws of package crt that make lists: CrtAll. -/
import Derived.Test.YteiblaajkakmdaaCrtLaw
import Derived.Test.YteiblaajkakmdaaSame
import Derived.Test.YteiblaajkakmdaaRefG
namespace Go.Proofs.Yteiblaajkakmdaa
open Go.ChangeShapes Go.WideShapes Go.ChangeAt Go.RowKit
set_option linter.unusedVariables false

/-- What n leaves. -/
abbrev leaves (n : Int) (ms : List Int) : List Int := ms.map fun m => n % m
theorem leaves_get (n : Int) (ms : List Int) (k : Nat) (h : k < ms.length) : (leaves n ms).getD k 0 = n % ms.getD k 0 := by
  simp [List.getD_eq_getElem?_getD, h]
theorem leaves_snoc (n : Int) (ms : List Int) (k : Nat) (h : k < ms.length) : leaves n (ms.take k) ++ [n % ms.getD k 0] = leaves n (ms.take (k + 1)) := by
  have e : ms.getD k 0 = ms[k] := by simp [List.getD_eq_getElem?_getD, h]
  rw [List.take_succ_eq_append_getElem h, e]
  show _ = (List.take k ms ++ [ms[k]]).map fun m => n % m
  rw [List.map_append]; rfl

/-- What a number leaves has an answer: the number itself leaves it. -/
theorem leaves_ans (n : Int) (ms : List Int) (c x s : Int) (h5 : ms.length ≤ 5) (hall : ∀ k, k < ms.length → 1 ≤ ms.getD k 0 ∧ ms.getD k 0 ≤ 100) (h : Ans (leaves n ms) ms c x s) :
    c = 0 ∧ CrtM.Sol (Pairs (leaves n ms) ms ms.length) x s ∧ n % s = x ∧ s ≤ 10000000000 := by
  have hm : CrtM.Meets (Pairs (leaves n ms) ms ms.length) n := by
    rintro p ⟨j, hj, rfl⟩
    exact (leaves_get n ms j hj).symm
  have hf : Fine (leaves n ms) ms := fun k hk => by
    obtain ⟨h1, h2⟩ := hall k hk
    rw [leaves_get n ms k hk]
    exact ⟨h1, h2, Int.emod_nonneg _ (by omega), Int.emod_lt_of_pos _ (by omega)⟩
  rcases h with ⟨a, rfl, rfl, rfl⟩ | ⟨a, b, rfl, rfl, rfl⟩ | ⟨a, b, f, rfl, rfl, rfl⟩ | ⟨a, b, f, no, rfl, rfl, rfl⟩ | ⟨a, b, f, hs, l, rfl⟩
  · omega
  · exact absurd (by simp) b
  · exact absurd hf f
  · exact (no n hm).elim
  · exact ⟨rfl, hs, (CrtM.sol_one _ _ _ _ _ (CrtM.least _ n s hs.1 hm) hs).1, l⟩

/-- What the loop keeps. -/
def AllRel (ms : List Int) (n : Int) (k : Nat) (P : Int) (b : Bool) : Prop :=
  1 ≤ P ∧ P ≤ (100 : Int) ^ k ∧ (b = true → CrtM.IsLcm (Pairs (leaves n ms) ms k) P)

theorem allRel_step (ms : List Int) (n : Int) (k : Nat) (P m : Int) (b b' : Bool) (h : AllRel ms n k P b) (hk : k < ms.length) (hm : m = ms.getD k 0) (m1 : 1 ≤ m) (m2 : m ≤ 100)
    (hb : b' = true → b = true ∧ (Int.gcd P m : Int) = 1) : AllRel ms n (k + 1) (P * m) b' := by
  obtain ⟨p1, p2, p3⟩ := h
  have h1 : 1 * 1 ≤ P * m := Int.mul_le_mul p1 m1 (by omega) (by omega)
  have h2 : P * m ≤ (100 : Int) ^ k * 100 := Int.mul_le_mul p2 m2 (by omega) (by omega)
  refine ⟨by omega, by rw [Int.pow_succ]; exact h2, fun hb' => ?_⟩
  obtain ⟨e1, e2⟩ := hb hb'
  have := CrtM.lcm_more _ P ((leaves n ms).getD k 0) m (p3 e1) (by omega)
  rw [e2, Int.ediv_one] at this
  refine CrtM.lcm_of _ _ (fun p => ?_) _ this
  rw [hm]
  exact pairs_succ _ _ k p

set_option maxHeartbeats 3200000 in
theorem walk_CrtAll (A : Option Addr) (ms : List Int) (ca : Nat) (n : Int) (w : World) (ha : Lies w A ms) :
    Calls Try.prog 4 #[.slice A ms.length ca, .int .i64 n] w fun e w' => e = .returned (.bool true) ∧ Kp w w' := by
  have HA := Lib.hid ha
  clear ha
  go_enter Try.func4, Try.ntmps4
  go_wp2_with fail
  refine (fact_any _).mono ?_; rintro e w1 ⟨rfl, hk1⟩
  have K1 := Lib.hid hk1
  clear hk1
  obtain ⟨N, hN⟩ : ∃ N, N = ms.length := ⟨_, rfl⟩
  rw [← hN]
  have HN := Lib.hid hN
  clear hN
  by_cases h5 : 5 < N
  · have h5' : (5 : Int) < N := by omega
    go_wp2_with fail
    go_ret
    exact ⟨rfl, K1.out⟩
  have h5' : ¬ (5 : Int) < N := by omega
  go_wp2_with fail
  rw [HN.out]
  refine (all_any A ms ca 1 100 _ (HA.out.keep K1.out) (by have := HN.out; omega)).mono ?_
  rw [← HN.out]
  rintro e w' ⟨⟨hall, rfl⟩ | ⟨hall, rfl⟩, rfl⟩
  · have HALL := Lib.hid hall
    clear hall
    by_cases hn : 0 ≤ n ∧ n ≤ 1000000
    case neg =>
      have HNn := Lib.hid hn
      go_wp2_with fail
      refine (lawIn_any n 0 1000000 _ false (by have := HNn.out; simp; omega)).mono ?_; rintro e w' ⟨rfl, rfl⟩
      go_wp2_with fail
      go_ret
      exact ⟨rfl, K1.out⟩
    obtain ⟨n0, n1⟩ := hn
    go_wp2_with fail
    refine (lawIn_any n 0 1000000 _ true (by simp; omega)).mono ?_; rintro e w' ⟨rfl, rfl⟩
    go_wp2_with fail
    go_loopw [6, 7, 8, 9] (fun v p a i wr => ∃ (k : Nat) (P : Int) (b : Bool), k ≤ N ∧ i = .int .i64 (k : Int) ∧ p = .int .i64 P ∧ a = .bool b ∧ Own wr w.heap.size v (leaves n (ms.take k)) ∧ AllRel ms n k P b ∧ Kp w wr) (fun _ _ _ i _ => N - (intOf i).toNat)
    case atStart => exact ⟨0, 1, true, Nat.zero_le _, rfl, rfl, rfl, Own.none _ _, ⟨by decide, by decide, fun _ => CrtM.lcm_none _ (pairs_none _ _)⟩, K1.out⟩
    case round =>
      obtain ⟨k, P, b, hk, rfl, rfl, rfl, hown, hrl, hkp⟩ := hrel
      have HO := Lib.hid hown
      have HR := Lib.hid hrl
      have HK := Lib.hid hkp
      have P1 := hrl.1
      clear hown hrl hkp
      by_cases hlt : k < N
      · have P2 : P ≤ 100000000 := Int.le_trans HR.out.2.1 (pow_small k (by omega))
        obtain ⟨ad, rfl, hb0, hc0⟩ := HA.out k (by have := HN.out; omega)
        have hc := (HK.out.cell (p := ad.add k) (by rw [block_add]; exact hb0)).trans hc0
        obtain ⟨m1, m2⟩ := HALL.out k (by have := HN.out; omega)
        have HS := Lib.hid (leaves_snoc n ms k (by have := HN.out; omega))
        have HST := Lib.hid (fun b' hb => allRel_step ms n k P (ms.getD k 0) b b' HR.out (by have := HN.out; omega) rfl m1 m2 hb)
        obtain ⟨m, hm⟩ : ∃ m, m = ms.getD k 0 := ⟨_, rfl⟩
        rw [← hm] at hc hc0 m1 m2 HS HST
        have HC0 := Lib.hid hc0
        clear hc0
        have hsz := HK.out.size
        have hlen : (leaves n (ms.take k)).length + 1 ≤ 17000000000000 := by rw [List.length_map, List.length_take]; omega
        have hPm : 0 ≤ P * m := Int.mul_nonneg (by omega) (by omega)
        have hPm' : P * m ≤ 100000000 * 100 := Int.mul_le_mul P2 m2 (by omega) (by omega)
        clear hm
        have HA2 := Lib.hid hb0
        clear hb0
        cases b with
        | false =>
          have GS := Lib.hid (HST.out false (fun h => absurd h (by decide)))
          clear HST
          go_wp2_with (at_builtin; refine wpList_push rfl _ _ rfl w.heap.size _ (leaves n (ms.take k)) (n % m) wr.heap.size 1 rfl rfl (HO.out.new _) (by simp) hlen (by simp; omega) ?_; intro v' w' h1 h2; have HO' := Lib.hid (show Own w' w.heap.size v' (leaves n (ms.take (k + 1))) by rw [← HS.out]; exact h1); have HK' := Lib.hid (own_below (HO.out.new _) (HK.out.new _) (Nat.le_trans hsz (by simp)) h2); have hc2 := (HK'.out.cell (p := ad.add k) (by rw [block_add]; exact HA2.out)).trans HC0.out; clear h1 h2)
          go_roundw
          case rel => exact ⟨k + 1, P * m, false, by omega, by go_num, by first | exact rfl | exact trivial, by first | exact rfl | exact trivial, HO'.out, GS.out, HK'.out⟩
          case measure => simp [intOf]; omega
        | true =>
          go_wp2_with (at_builtin; refine wpList_push rfl _ _ rfl w.heap.size _ (leaves n (ms.take k)) (n % m) wr.heap.size 1 rfl rfl (HO.out.new _) (by simp) hlen (by simp; omega) ?_; intro v' w' h1 h2; have HO' := Lib.hid (show Own w' w.heap.size v' (leaves n (ms.take (k + 1))) by rw [← HS.out]; exact h1); have HK' := Lib.hid (own_below (HO.out.new _) (HK.out.new _) (Nat.le_trans hsz (by simp)) h2); have hc2 := (HK'.out.cell (p := ad.add k) (by rw [block_add]; exact HA2.out)).trans HC0.out; clear h1 h2)
          have GS := Lib.hid (HST.out ((Int.gcd P m : Int) == 1) (fun h => ⟨trivial, by simpa using h⟩))
          clear HST
          refine (refGcd_any m.natAbs P m _ (Nat.le_refl _) (by omega) (by omega) (by omega) (by omega)).mono ?_; rintro e w2 ⟨rfl, rfl⟩
          obtain ⟨g, hg⟩ : ∃ g : Int, g = (Int.gcd P m : Int) := ⟨_, rfl⟩
          rw [← hg] at GS ⊢
          clear hg
          go_wp2_with fail
          go_roundw
          case rel => exact ⟨k + 1, P * m, (g == 1), by omega, by go_num, by first | exact rfl | exact trivial, by first | exact rfl | exact trivial, HO'.out, GS.out, HK'.out⟩
          case measure => simp [intOf]; omega
      · obtain rfl : k = N := by omega
        have hown := HO.out
        rw [List.take_of_length_le (by have := HN.out; omega)] at hown
        obtain ⟨V, cv, rfl, hv⟩ := hown.lies
        have HV := Lib.hid hv
        have hlv : (leaves n ms).length = k := by rw [List.length_map]; exact HN.out.symm
        clear hv HO hown
        rw [hlv]
        go_wp2_with fail
        have hsv := solve_any V A (leaves n ms) ms cv ca _ HV.out (HA.out.keep HK.out)
        rw [hlv, ← HN.out] at hsv
        refine hsv.mono ?_
        clear hsv hlv
        rintro e w2 ⟨⟨c, x, s, h, rfl⟩, hk2⟩
        obtain ⟨rfl, hs, hx, hs2⟩ := leaves_ans n ms c x s (by have := HN.out; omega) HALL.out h
        rw [errOf_zero]
        have s1 := hs.1.1
        have K2 := Lib.hid (HK.out.trans hk2)
        have t1 : (n % s != x) = false := by rw [hx]; simp
        have HE := Lib.hid (show b = true → s = P from fun hb => CrtM.lcm_one _ _ _ hs.1 (by have := HR.out.2.2 hb; rwa [HN.out] at this))
        clear h hs hx hk2
        cases b with
        | false =>
          go_wp2_with fail
          go_ret
          exact ⟨rfl, K2.out⟩
        | true =>
          obtain rfl := HE.out rfl
          clear HE
          go_wp2_with fail
          go_ret
          exact ⟨by simp, K2.out⟩
  · go_wp2_with fail
    go_ret
    exact ⟨rfl, K1.out⟩

end Go.Proofs.Yteiblaajkakmdaa
