/- The plain laws of package crt: the closed fact, CrtSun. -/
import Derived.Test.YteiblaajkakmdaaCrtC
namespace Go.Proofs.Yteiblaajkakmdaa
open Go.ChangeShapes Go.WideShapes Go.ChangeAt Go.RowKit
set_option linter.unusedVariables false

theorem fact_ans (c x s : Int) (h : Ans [2, 3, 2] [3, 5, 7] c x s) : c = 0 ∧ x = 23 ∧ s = 105 := by
  have hp : ∀ p, Pairs [2, 3, 2] [3, 5, 7] 3 p ↔ CrtM.More (CrtM.More (CrtM.More (Pairs [2, 3, 2] [3, 5, 7] 0) (2, 3)) (3, 5)) (2, 7) p := by
    intro p
    rw [← pairs_succ]
    show Pairs [2, 3, 2] [3, 5, 7] 2 p ∨ _ ↔ _ ∨ _
    rw [← pairs_succ]
    show (Pairs [2, 3, 2] [3, 5, 7] 1 p ∨ _) ∨ _ ↔ _
    rw [← pairs_succ]
    exact Iff.rfl
  have hl : CrtM.IsLcm (Pairs [2, 3, 2] [3, 5, 7] 3) 105 := by
    refine CrtM.lcm_of _ _ (fun p => (hp p).symm) 105 ?_
    exact CrtM.lcm_more _ 15 2 7 (CrtM.lcm_more _ 3 3 5 (CrtM.lcm_more _ 1 2 3 (CrtM.lcm_none _ (pairs_none _ _)) (by decide)) (by decide)) (by decide)
  have hs : CrtM.Sol (Pairs [2, 3, 2] [3, 5, 7] 3) 23 105 := by
    refine ⟨hl, by decide, by decide, ?_⟩
    rintro p ⟨j, hj, rfl⟩
    have : j = 0 ∨ j = 1 ∨ j = 2 := by omega
    rcases this with rfl | rfl | rfl <;> decide
  have ha : Ans [2, 3, 2] [3, 5, 7] 0 23 105 := by
    refine .inr (.inr (.inr (.inr ⟨by decide, by decide, ?_, hs, by decide, rfl⟩)))
    intro k hk
    have : k = 0 ∨ k = 1 ∨ k = 2 := by have : k < 3 := hk; omega
    rcases this with rfl | rfl | rfl <;> exact ⟨by decide, by decide, by decide, by decide⟩
  exact ans_one _ _ _ _ _ _ _ _ h ha

theorem fact_any (w : World) :
    Calls Try.prog 6 #[] w fun e w' => e = .returned (.bool true) ∧ Kp w w' := by
  go_enter Try.func6, Try.ntmps6
  go_wp2_with fail
  refine (solve_any (some ⟨w.heap.size, 0, none⟩) (some ⟨w.heap.size + 1, 0, none⟩) [2, 3, 2] [3, 5, 7] 3 3 _ ?_ ?_).mono ?_
  · exact (lies_new w _ [2, 3, 2]).keep ((Kp.rfl' _).new _)
  · exact lies_new' (w.alloc _) _ [3, 5, 7] _ (by simp)
  rintro e w' ⟨⟨c, x, s, h, rfl⟩, hk⟩
  obtain ⟨rfl, rfl, rfl⟩ := fact_ans c x s h
  clear h
  rw [errOf_zero]
  have HK := Lib.hid hk
  clear hk
  go_wp2_with fail
  go_ret
  exact ⟨rfl, (((Kp.rfl' w).new _).new _).trans HK.out⟩

/-- An answer is an error, or it is the least solution. -/
theorem ans_cases (rs ms : List Int) (c x s : Int) (h : Ans rs ms c x s) :
    (c ≠ 0 ∧ x = 0 ∧ s = 0) ∨ (c = 0 ∧ ms.length ≤ 5 ∧ rs.length = ms.length ∧ Fine rs ms ∧ CrtM.Sol (Pairs rs ms ms.length) x s ∧ s ≤ 10000000000) := by
  rcases h with ⟨a, rfl, rfl, rfl⟩ | ⟨a, b, rfl, rfl, rfl⟩ | ⟨a, b, f, rfl, rfl, rfl⟩ | ⟨a, b, f, n, rfl, rfl, rfl⟩ | ⟨a, b, f, n, l, rfl⟩
  · exact .inl ⟨by decide, rfl, rfl⟩
  · exact .inl ⟨by decide, rfl, rfl⟩
  · exact .inl ⟨by decide, rfl, rfl⟩
  · exact .inl ⟨by decide, rfl, rfl⟩
  · exact .inr ⟨rfl, a, b, f, n, l⟩

theorem lawIn_any (n a b : Int) (w : World) (t : Bool) (h : (decide (a ≤ n) && decide (n ≤ b)) = t) :
    Calls Try.prog 8 #[.int .i64 n, .int .i64 a, .int .i64 b] w fun e w' => e = .returned (.bool t) ∧ w = w' := by
  have H := Lib.hid h
  clear h
  by_cases h1 : a ≤ n
  · by_cases h2 : n ≤ b
    · go_enter Try.func8, Try.ntmps8
      go_wp2
      go_ret
      exact ⟨ret_bool (by rw [← H.out]; simp [h1, h2]), rfl⟩
    · go_enter Try.func8, Try.ntmps8
      go_wp2
      go_ret
      exact ⟨ret_bool (by rw [← H.out]; simp [h1, h2]; try omega), rfl⟩
  · go_enter Try.func8, Try.ntmps8
    go_wp2
    go_ret
    exact ⟨ret_bool (by rw [← H.out]; simp; omega), rfl⟩

/-- All rests met so far. -/
def SunRel (rs ms : List Int) (other : Int) (k : Nat) (b : Bool) : Prop := b = true → 0 ≤ other → ∀ j, j < k → other % ms.getD j 0 = rs.getD j 0

set_option maxHeartbeats 3200000 in
theorem walk_CrtSun (A : Option Addr) (rs : List Int) (ca : Nat) (B : Option Addr) (ms : List Int) (cb : Nat) (other : Int) (w : World) (ha : Lies w A rs) (hb : Lies w B ms) :
    Calls Try.prog 3 #[.slice A rs.length ca, .slice B ms.length cb, .int .i64 other] w fun e w' => e = .returned (.bool true) ∧ Kp w w' := by
  have HA := Lib.hid ha
  have HB := Lib.hid hb
  clear ha hb
  go_enter Try.func3, Try.ntmps3
  go_wp2_with fail
  refine (fact_any _).mono ?_; rintro e w1 ⟨rfl, hk1⟩
  have K1 := Lib.hid hk1
  clear hk1
  go_wp2_with fail
  refine (solve_any A B rs ms ca cb _ (HA.out.keep K1.out) (HB.out.keep K1.out)).mono ?_; rintro e w2 ⟨⟨c, x, s, h, rfl⟩, hk2⟩
  have K2 := Lib.hid (K1.out.trans hk2)
  clear hk2 K1
  rcases ans_cases rs ms c x s h with ⟨hc, rfl, rfl⟩ | ⟨rfl, h5, hl, hf, hs, hb⟩
  · clear h
    rw [errOf_ne c hc]
    clear hc
    go_wp2_with fail
    go_ret
    exact ⟨rfl, K2.out⟩
  · rw [errOf_zero, hl]
    have HL := Lib.hid hl
    have HF := Lib.hid hf
    have HS := Lib.hid hs
    have s1 := hs.1.1
    have x0 := hs.2.1
    have x1 := hs.2.2.1
    obtain ⟨n, hn⟩ : ∃ n, n = ms.length := ⟨_, rfl⟩
    rw [← hn] at h5 ⊢
    have HN := Lib.hid hn
    clear h hl hf hs hn
    go_wp2_with fail
    refine (lawIn_any x 0 (s - 1) _ true (by simp; omega)).mono ?_; rintro e w' ⟨rfl, rfl⟩
    go_wp2_with fail
    go_loopw [11, 12] (fun a i wr => ∃ (k : Nat) (b : Bool), k ≤ n ∧ i = .int .i64 (k : Int) ∧ a = .bool b ∧ SunRel rs ms other k b ∧ Kp w wr) (fun _ i _ => n - (intOf i).toNat)
    case atStart => exact ⟨0, true, Nat.zero_le _, rfl, rfl, fun _ _ j hj => absurd hj (by omega), K2.out⟩
    case round =>
      obtain ⟨k, b, hk, rfl, rfl, hrl, hkp⟩ := hrel
      have HR := Lib.hid hrl
      have HK := Lib.hid hkp
      clear hrl hkp
      by_cases hlt : k < n
      · obtain ⟨ad, rfl, _, hc⟩ := (HA.out.keep HK.out) k (by have := HN.out; have := HL.out; omega)
        obtain ⟨bd, rfl, _, hd⟩ := (HB.out.keep HK.out) k (by have := HN.out; omega)
        obtain ⟨r, hr⟩ : ∃ r, r = rs.getD k 0 := ⟨_, rfl⟩
        obtain ⟨m, hm⟩ : ∃ m, m = ms.getD k 0 := ⟨_, rfl⟩
        have hgd := HF.out k (by have := HN.out; omega)
        have hp : Pairs rs ms ms.length (r, m) := ⟨k, by have := HN.out; omega, by rw [hr, hm]⟩
        have q1 : x % m = r := HS.out.2.2.2 _ hp
        have q2 : s % m = 0 := Int.emod_eq_zero_of_dvd (HS.out.1.2.1 _ hp)
        have t1 : (x % m != r) = false := by rw [q1]; simp
        have t2 : (s % m != 0) = false := by rw [q2]; rfl
        rw [← hr] at hc hgd
        rw [← hm] at hd hgd
        obtain ⟨m1, m2, r0, r1⟩ := hgd
        have HSt := Lib.hid (show ∀ b', (b' = true → b = true ∧ (0 ≤ other → other % m = r)) → SunRel rs ms other (k + 1) b' from fun b' h1 h2 h3 j hj => by
          by_cases e : j = k
          · subst e; rw [← hr, ← hm]; exact (h1 h2).2 h3
          · exact HR.out (h1 h2).1 h3 j (by omega))
        clear hr hm hp q1 q2 HR
        have d0 : decide (m < 1) = false := by simp; omega
        go_wp2_with fail
        go_quiet (fail)
        cases b with
        | false =>
          have GS := Lib.hid (HSt.out false (fun h => absurd h (by decide)))
          clear HSt
          go_wp2_with fail
          go_quiet (fail)
          go_wp2_with fail
          go_roundw
          case rel => exact ⟨k + 1, false, by omega, by go_num, rfl, GS.out, HK.out.drewN _⟩
          case measure => simp [intOf]; omega
        | true =>
          by_cases ho : 0 ≤ other
          · have d1 : decide (0 ≤ other) = true := by simp; omega
            have GS := Lib.hid (HSt.out (other % m == r) (fun h => ⟨rfl, fun _ => by simpa using h⟩))
            clear HSt
            go_wp2_with fail
            go_quiet (fail)
            go_wp2_with fail
            go_roundw
            case rel => exact ⟨k + 1, _, by omega, by go_num, rfl, GS.out, HK.out.drewN _⟩
            case measure => simp [intOf]; omega
          · have d1 : decide (0 ≤ other) = false := by simp; omega
            have GS := Lib.hid (HSt.out false (fun h => absurd h (by decide)))
            clear HSt
            go_wp2_with fail
            go_quiet (fail)
            go_wp2_with fail
            go_roundw
            case rel => exact ⟨k + 1, false, by omega, by go_num, rfl, GS.out, HK.out.drewN _⟩
            case measure => simp [intOf]; omega
      · obtain rfl : k = n := by omega
        cases b with
        | false =>
          go_wp2_with fail
          go_ret
          exact ⟨rfl, HK.out⟩
        | true =>
          by_cases ho : other < 0
          · go_wp2_with fail
            go_ret
            exact ⟨rfl, HK.out⟩
          · have e1 : (other % s == x) = true := by
              have h1 := HR.out rfl (by omega)
              have hm : CrtM.Meets (Pairs rs ms ms.length) other := by
                rintro p ⟨j, hj, rfl⟩
                exact h1 j (by have := HN.out; omega)
              have := (CrtM.sol_one _ _ _ _ _ HS.out (CrtM.least _ other s HS.out.1 hm)).1
              rw [← this]; simp
            clear HR
            go_wp2_with fail
            go_ret
            exact ⟨rfl, HK.out⟩

end Go.Proofs.Yteiblaajkakmdaa
