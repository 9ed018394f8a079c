/- Contracts of package bareiss, first part: checkRow, Check; good matrices of whole numbers. -/
import Derived.Test.YtkebjmapdcbnaaaGrid
import Derived.Test.YtkebjmapdcbnaaaSqr
import Derived.Test.YtkebjmapdcbnaaaMatB
import Derived.StillTailTactics
namespace Go.Proofs.Ytkebjmapdcbnaaa
open Go.ChangeShapes Go.WideShapes Go.ChangeAt Go.RowKit
set_option linter.unusedVariables false

theorem qcode_is {most c : Nat} {lo hi : Int} {m : List (List Int)} (h : Mx.mcode most lo hi m = c) (hc : c ≠ 0) : qcode most lo hi m = c := by
  rw [qcode_bad (by omega), h]

/-- A square matrix of small whole numbers. -/
structure Shz (n : Nat) (x : Nat → Nat → Int) (m : List (List Int)) : Prop where
  eq : m = Mx.tab n n x
  n0 : 0 < n
  n5 : n ≤ 5
  ab : ∀ i j, i < n → j < n → -9 ≤ x i j ∧ x i j ≤ 9
theorem Shz.len {n : Nat} {x : Nat → Nat → Int} {m : List (List Int)} (h : Shz n x m) : m.length = n := by rw [h.eq, Mx.len_tab]
theorem shz_or (m : List (List Int)) {n : Nat} (hn : m.length = n) : (∃ x, Shz n x m) ∨ qcode 5 (-9) 9 m ≠ 0 := by
  by_cases h : qcode 5 (-9) 9 m = 0
  · left
    have hm : Mx.mcode 5 (-9) 9 m = 0 ∧ m.length = (m.getD 0 []).length := by
      unfold qcode at h
      by_cases h0 : Mx.mcode 5 (-9) 9 m = 0 ∧ m.length ≠ (m.getD 0 []).length
      · rw [if_pos h0] at h; cases h
      · rw [if_neg h0] at h
        exact ⟨h, Classical.byContradiction fun e => h0 ⟨h, e⟩⟩
    obtain ⟨h1, h2⟩ := hm
    unfold Mx.mcode at h1
    by_cases c1 : m.length = 0 ∨ (m.getD 0 []).length = 0
    · rw [if_pos c1] at h1; cases h1
    rw [if_neg c1] at h1
    by_cases c2 : 5 < m.length ∨ 5 < (m.getD 0 []).length
    · rw [if_pos c2] at h1; cases h1
    rw [if_neg c2] at h1
    have hr := Mx.rows_zero h1
    have hl : ∀ i, i < m.length → (m.getD i []).length = n := fun i hi => by rw [(Mx.rcode_zero (hr i hi)).1, ← h2, hn]
    refine ⟨fun i j => (m.getD i []).getD j 0, ⟨?_, by omega, by omega, fun i j hi hj => ?_⟩⟩
    · have := Mx.is_tab hl
      rw [hn] at this
      exact this
    · exact (Mx.rcode_zero (hr i (by omega))).2 j (by rw [hl i (by omega)]; exact hj)
  · exact .inr h
theorem Shz.code {n : Nat} {x : Nat → Nat → Int} {m : List (List Int)} (h : Shz n x m) : qcode 5 (-9) 9 m = 0 := by
  obtain ⟨rfl, h0, h5, hab⟩ := h
  have e0 : ((Mx.tab n n x).getD 0 []).length = n := Mx.tab_len n n x 0 h0
  have hm : Mx.mcode 5 (-9) 9 (Mx.tab n n x) = 0 := by
    unfold Mx.mcode
    rw [Mx.len_tab, e0, if_neg (by omega), if_neg (by omega)]
    refine Mx.rows_ok fun i hi => ?_
    rw [Mx.len_tab] at hi
    refine Mx.rcode_ok (Mx.tab_len n n x i hi) fun k hk => ?_
    rw [Mx.tab_len n n x i hi] at hk
    rw [Mx.tab_el n n x i k hi hk]
    exact hab i k hi hk
  unfold qcode
  rw [if_neg (fun h => h.2 (by rw [Mx.len_tab, e0])), hm]
theorem Shz.nine {n : Nat} {x : Nat → Nat → Int} {m : List (List Int)} (h : Shz n x m) : ∀ i j, i < n → j < n → Zx.ab (x i j) ≤ 9 := fun i j hi hj => by
  have := h.ab i j hi hj
  unfold Zx.ab; omega

set_option maxRecDepth 100000 in
set_option maxHeartbeats 800000 in
theorem BRow_any (A : Option Addr) (l : List Int) (n d c : Nat) (w : World) (ha : Lies w A l) (hn : l.length = n) (hb : c ≤ 1000) :
    Calls Try.prog 31 #[.slice A n d, .int .i64 (c : Int)] w fun e w' => e = .returned (errOf (Mx.rcode (-9) 9 c l)) ∧ w = w' := by
  have HA := Lib.hid ha
  have HN := Lib.hid hn
  obtain ⟨v, hv⟩ : ∃ v, v = Mx.rcode (-9) 9 c l := ⟨_, rfl⟩
  by_cases hc : n = c
  · subst hc
    have RNG := Lib.hid (fun (k : Nat) (hk : k < n) h2 => hv.trans (Mx.rcode_bad hn (k := k) (by omega) h2))
    have OKS := Lib.hid (fun h2 => hv.trans (Mx.rcode_ok (lo := -9) (hi := 9) hn h2))
    rw [← hv]
    have e1 : ((n : Int) != (n : Int)) = false := by simp
    clear ha hn hv
    go_enter Try.func31, Try.ntmps31
    go_wp2_with fail
    go_loop [14] (fun i => ∃ k : Nat, k ≤ n ∧ i = .int .i64 (k : Int) ∧ ∀ j, j < k → -9 ≤ l.getD j 0 ∧ l.getD j 0 ≤ 9) (fun i => n - (intOf i).toNat)
    case atStart => exact ⟨0, Nat.zero_le _, rfl, fun j hj => absurd hj (by omega)⟩
    case round =>
      obtain ⟨k, hk, rfl, hg⟩ := hrel
      have HG := Lib.hid hg
      clear hg
      by_cases hlt : k < n
      · obtain ⟨ad, rfl, _, hcx⟩ := HA.out k (by have := HN.out; omega)
        obtain ⟨x, hx⟩ : ∃ x, x = l.getD k 0 := ⟨_, rfl⟩
        rw [← hx] at hcx
        by_cases x0 : x < -9
        · have E := Lib.hid (RNG.out k hlt (by rw [← hx]; omega))
          clear hx
          go_wp2_with fail
          go_ret
          exact ⟨by rw [E.out]; rfl, rfl⟩
        · by_cases x1 : 9 < x
          · have E := Lib.hid (RNG.out k hlt (by rw [← hx]; omega))
            clear hx
            go_wp2_with fail
            go_ret
            exact ⟨by rw [E.out]; rfl, rfl⟩
          · have GG := Lib.hid (show ∀ j, j < k + 1 → -9 ≤ l.getD j 0 ∧ l.getD j 0 ≤ 9 from fun j hj => by
              by_cases e : j = k
              · subst e; rw [← hx]; omega
              · exact HG.out j (by omega))
            clear hx
            go_wp2_with fail
            go_round
            case rel => exact ⟨k + 1, by omega, by go_num, GG.out⟩
            case measure => simp [intOf]; omega
      · have E := Lib.hid (OKS.out (fun j hj => HG.out j (by have := HN.out; omega)))
        go_wp2_with fail
        go_ret
        exact ⟨by rw [E.out]; rfl, rfl⟩
  · have E := Lib.hid (hv.trans (Mx.rcode_len (lo := -9) (hi := 9) (by omega : l.length ≠ c)))
    rw [← hv]
    have e1 : ((n : Int) != (c : Int)) = true := by rw [bne_iff_ne]; omega
    clear ha hn hv hc
    go_enter Try.func31, Try.ntmps31
    go_wp2_with fail
    go_ret
    exact ⟨by rw [E.out]; rfl, rfl⟩

/-- The first k rows have no fault. -/
def rowsZ (lo hi : Int) (m : List (List Int)) (k : Nat) : Prop := Mx.rows lo hi (m.getD 0 []).length m = Mx.rows lo hi (m.getD 0 []).length (m.drop k)
theorem rowsZ_go {lo hi : Int} {m : List (List Int)} {k : Nat} (hk : k < m.length) (h : rowsZ lo hi m k) (h0 : Mx.rcode lo hi (m.getD 0 []).length (m.getD k []) = 0) : rowsZ lo hi m (k + 1) := by
  unfold rowsZ at *
  rw [h, Mx.rows_drop hk, if_pos h0]

set_option maxRecDepth 100000 in
set_option maxHeartbeats 1600000 in
theorem BChk_main (A : Option Addr) (m : List (List Int)) (n d q : Nat) (w : World) (ha : LiesM w A m) (hn : m.length = n) (hq : (m.getD 0 []).length = q) (h1 : 0 < n) (h2 : n ≤ 5) (h3 : 0 < q) (h4 : q ≤ 5) :
    Calls Try.prog 25 #[.slice A n d] w fun e w' => e = .returned (errOf (qcode 5 (-9) 9 m)) ∧ w = w' := by
  have hm : Mx.mcode 5 (-9) 9 m = Mx.rows (-9) 9 (m.getD 0 []).length m := by
    unfold Mx.mcode
    rw [if_neg (by omega), if_neg (by omega)]
  obtain ⟨v, hv⟩ : ∃ v, v = Mx.rows (-9) 9 (m.getD 0 []).length m := ⟨_, rfl⟩
  have QV := Lib.hid (show qcode 5 (-9) 9 m = if v = 0 ∧ n ≠ q then 3 else v by unfold qcode; rw [hm, ← hv, hn, hq])
  obtain ⟨qv, hqv⟩ : ∃ qv, qv = qcode 5 (-9) 9 m := ⟨_, rfl⟩
  rw [← hqv] at QV ⊢
  have hg0 : rowsZ (-9) 9 m 0 := by unfold rowsZ; rw [List.drop_zero]
  have RNG := Lib.hid (fun (k : Nat) (hk : k < n) (hg : rowsZ (-9) 9 m k) (h0 : Mx.rcode (-9) 9 q (m.getD k []) ≠ 0) => show v = Mx.rcode (-9) 9 q (m.getD k []) by
    unfold rowsZ at hg
    rw [hv, hg, Mx.rows_drop (by omega), hq, if_neg h0])
  have OKS := Lib.hid (fun (hg : rowsZ (-9) 9 m n) => show v = 0 by
    unfold rowsZ at hg
    rw [hv, hg, Mx.rows_end (by omega)])
  have STP := Lib.hid (fun (k : Nat) (hk : k < n) (hg : rowsZ (-9) 9 m k) (h0 : Mx.rcode (-9) 9 q (m.getD k []) = 0) => rowsZ_go (by omega) hg (by rw [hq]; exact h0))
  obtain ⟨ad, A0, d0, rfl, _, hc0, _, hr0⟩ := ha 0 (by omega)
  rw [hq] at hc0
  rw [add_zero'] at hc0
  have HA := Lib.hid ha
  have HN := Lib.hid hn
  have G0 := Lib.hid hg0
  have e0 : ((n : Int) == 0) = false := by rw [beq_eq_false_iff_ne]; omega
  have e1 : ((q : Int) == 0) = false := by rw [beq_eq_false_iff_ne]; omega
  have e2 : ¬ (5 : Int) < n := by omega
  have e3 : ¬ (5 : Int) < q := by omega
  clear ha hn hg0 hm hv hq hr0 hqv
  go_enter Try.func25, Try.ntmps25
  go_wp2_with fail
  go_loop [30] (fun i => ∃ k : Nat, k ≤ n ∧ i = .int .i64 (k : Int) ∧ rowsZ (-9) 9 m k) (fun i => n - (intOf i).toNat)
  case atStart => exact ⟨0, Nat.zero_le _, rfl, G0.out⟩
  case round =>
    obtain ⟨k, hk, rfl, hg⟩ := hrel
    have HG := Lib.hid hg
    clear hg
    by_cases hlt : k < n
    · obtain ⟨ad', A1, d1, ea, _, hc1, _, hr1⟩ := HA.out k (by have := HN.out; omega)
      obtain rfl := Option.some.inj ea
      have CR := Lib.hid (BRow_any A1 (m.getD k []) _ d1 q w hr1 rfl (by omega))
      obtain ⟨p, hp⟩ : ∃ p, p = (m.getD k []).length := ⟨_, rfl⟩
      rw [← hp] at hc1 CR
      by_cases h0 : Mx.rcode (-9) 9 q (m.getD k []) = 0
      · have ST := Lib.hid (STP.out k hlt HG.out h0)
        rw [h0] at CR
        clear hr1 hp h0
        go_wp2_with fail
        refine (CR.out).mono ?_; rintro e w' ⟨rfl, rfl⟩
        rw [errOf_zero]
        go_wp2_with fail
        go_round
        case rel => exact ⟨k + 1, by omega, by go_num, ST.out⟩
        case measure => simp [intOf]; omega
      · have E := Lib.hid (RNG.out k hlt HG.out h0)
        rw [errOf_ne _ h0] at CR
        have E2 := Lib.hid (show errOf qv = .iface 44 (.int .i64 ((Mx.rcode (-9) 9 q (m.getD k []) : Nat) : Int)) by rw [QV.out, if_neg (fun h => h0 (E.out.symm.trans h.1)), E.out, errOf_ne _ h0])
        generalize Mx.rcode (-9) 9 q (m.getD k []) = z at *
        clear hr1 hp h0
        go_wp2_with fail
        refine (CR.out).mono ?_; rintro e w' ⟨rfl, rfl⟩
        go_wp2_with fail
        go_ret
        exact ⟨by rw [E2.out]; rfl, rfl⟩
    · have E := Lib.hid (OKS.out (by have h : k = n := by omega
                                     rw [← h]; exact HG.out))
      by_cases hq : n = q
      · subst hq
        have e4 : ((n : Int) != (n : Int)) = false := by simp
        go_wp2_with fail
        go_ret
        exact ⟨by rw [QV.out, E.out, if_neg (fun h => h.2 rfl)]; rfl, rfl⟩
      · have e4 : ((n : Int) != (q : Int)) = true := by rw [bne_iff_ne]; omega
        have E3 := Lib.hid (show qv = 3 by rw [QV.out, if_pos ⟨E.out, hq⟩])
        clear hq
        go_wp2_with fail
        go_ret
        exact ⟨by rw [E3.out]; rfl, rfl⟩

set_option maxHeartbeats 800000 in
theorem BChk_any (A : Option Addr) (m : List (List Int)) (n d : Nat) (w : World) (ha : LiesM w A m) (hn : m.length = n) :
    Calls Try.prog 25 #[.slice A n d] w fun e w' => e = .returned (errOf (qcode 5 (-9) 9 m)) ∧ w = w' := by
  by_cases h1 : n = 0
  · have hm : qcode 5 (-9) 9 m = 5 := by rw [qcode_is (c := 5) (by unfold Mx.mcode; rw [if_pos (by omega)]) (by omega)]
    rw [hm]
    subst h1
    clear hm ha hn
    go_enter Try.func25, Try.ntmps25
    go_wp2
    go_ret
    exact ⟨rfl, rfl⟩
  obtain ⟨ad, A0, d0, rfl, _, hc0, _, hr0⟩ := ha 0 (by omega)
  rw [add_zero'] at hc0
  obtain ⟨q, hq⟩ : ∃ q, q = (m.getD 0 []).length := ⟨_, rfl⟩
  rw [← hq] at hc0
  have e0 : ((n : Int) == 0) = false := by rw [beq_eq_false_iff_ne]; omega
  have hn0 : (0 : Int) < n := by omega
  by_cases h2 : q = 0
  · have hm : qcode 5 (-9) 9 m = 5 := by rw [qcode_is (c := 5) (by unfold Mx.mcode; rw [if_pos (by omega)]) (by omega)]
    rw [hm]
    subst h2
    clear hm ha hn hr0 h1 hq
    go_enter Try.func25, Try.ntmps25
    go_wp2
    go_ret
    exact ⟨rfl, rfl⟩
  have e1 : ((q : Int) == 0) = false := by rw [beq_eq_false_iff_ne]; omega
  by_cases h3 : 5 < n
  · have hm : qcode 5 (-9) 9 m = 4 := by rw [qcode_is (c := 4) (by unfold Mx.mcode; rw [if_neg (by omega), if_pos (by omega)]) (by omega)]
    rw [hm]
    have e3 : (5 : Int) < n := by omega
    clear hm ha hn hr0 h1 hq h2 h3
    go_enter Try.func25, Try.ntmps25
    go_wp2
    go_ret
    exact ⟨rfl, rfl⟩
  by_cases h4 : 5 < q
  · have hm : qcode 5 (-9) 9 m = 4 := by rw [qcode_is (c := 4) (by unfold Mx.mcode; rw [if_neg (by omega), if_pos (by omega)]) (by omega)]
    rw [hm]
    have e3 : ¬ (5 : Int) < n := by omega
    have e4 : (5 : Int) < q := by omega
    clear hm ha hn hr0 h1 hq h2 h3 h4
    go_enter Try.func25, Try.ntmps25
    go_wp2
    go_ret
    exact ⟨rfl, rfl⟩
  exact BChk_main (some ad) m n d q w ha hn hq.symm (by omega) (by omega) (by omega) (by omega)

end Go.Proofs.Ytkebjmapdcbnaaa
