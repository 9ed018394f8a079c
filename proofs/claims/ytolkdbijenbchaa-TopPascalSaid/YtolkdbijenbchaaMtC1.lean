/- Contracts of package mat, first part: zero, identity, checkRow, Check, checkBoth. -/
import Derived.Test.YtolkdbijenbchaaGrid
import Derived.StillTailTactics
namespace Go.Proofs.Ytolkdbijenbchaa
open Go.ChangeShapes Go.WideShapes Go.ChangeAt Go.RowKit
set_option linter.unusedVariables false



set_option maxRecDepth 100000 in
set_option maxHeartbeats 800000 in
theorem checkRow_any (A : Option Addr) (l : List Int) (n d c : Nat) (w : World) (ha : Lies w A l) (hn : l.length = n) (hb : c ≤ 1000) :
    Calls Try.prog 28 #[.slice A n d, .int .i64 (c : Int)] w fun e w' => e = .returned (errOf (Mx.rcode 0 9972 c l)) ∧ w = w' := by
  have HA := Lib.hid ha
  have HN := Lib.hid hn
  obtain ⟨v, hv⟩ : ∃ v, v = Mx.rcode 0 9972 c l := ⟨_, rfl⟩
  by_cases hc : n = c
  · subst hc
    have RNG := Lib.hid (fun (k : Nat) (hk : k < n) h2 => hv.trans (Mx.rcode_bad hn (k := k) (by omega) h2))
    have OKS := Lib.hid (fun h2 => hv.trans (Mx.rcode_ok (lo := 0) (hi := 9972) hn h2))
    rw [← hv]
    have e1 : ((n : Int) != (n : Int)) = false := by simp
    clear ha hn hv
    go_enter Try.func28, Try.ntmps28
    go_wp2_with fail
    go_loop [14] (fun i => ∃ k : Nat, k ≤ n ∧ i = .int .i64 (k : Int) ∧ ∀ j, j < k → 0 ≤ l.getD j 0 ∧ l.getD j 0 ≤ 9972) (fun i => n - (intOf i).toNat)
    case atStart => exact ⟨0, Nat.zero_le _, rfl, fun j hj => absurd hj (by omega)⟩
    case round =>
      obtain ⟨k, hk, rfl, hg⟩ := hrel
      have HG := Lib.hid hg
      clear hg
      by_cases hlt : k < n
      · obtain ⟨ad, rfl, _, hcx⟩ := HA.out k (by have := HN.out; omega)
        obtain ⟨x, hx⟩ : ∃ x, x = l.getD k 0 := ⟨_, rfl⟩
        rw [← hx] at hcx
        by_cases x0 : x < 0
        · have E := Lib.hid (RNG.out k hlt (by rw [← hx]; omega))
          clear hx
          go_wp2_with fail
          go_ret
          exact ⟨by rw [E.out]; rfl, rfl⟩
        · by_cases x1 : 9973 ≤ x
          · have E := Lib.hid (RNG.out k hlt (by rw [← hx]; omega))
            clear hx
            go_wp2_with fail
            go_ret
            exact ⟨by rw [E.out]; rfl, rfl⟩
          · have GG := Lib.hid (show ∀ j, j < k + 1 → 0 ≤ l.getD j 0 ∧ l.getD j 0 ≤ 9972 from fun j hj => by
              by_cases e : j = k
              · subst e; rw [← hx]; omega
              · exact HG.out j (by omega))
            clear hx
            go_wp2_with fail
            go_round
            case rel => exact ⟨k + 1, by omega, by go_num, GG.out⟩
            case measure => simp [intOf]; omega
      · have E := Lib.hid (OKS.out (fun j hj => HG.out j (by have := HN.out; omega)))
        go_wp2_with fail
        go_ret
        exact ⟨by rw [E.out]; rfl, rfl⟩
  · have E := Lib.hid (hv.trans (Mx.rcode_len (lo := 0) (hi := 9972) (by omega : l.length ≠ c)))
    rw [← hv]
    have e1 : ((n : Int) != (c : Int)) = true := by rw [bne_iff_ne]; omega
    clear ha hn hv hc
    go_enter Try.func28, Try.ntmps28
    go_wp2_with fail
    go_ret
    exact ⟨by rw [E.out]; rfl, rfl⟩

/-- The first k rows have no fault. -/
def rowsGo (lo hi : Int) (m : List (List Int)) (k : Nat) : Prop := Mx.rows lo hi (m.getD 0 []).length m = Mx.rows lo hi (m.getD 0 []).length (m.drop k)
theorem rows_go {lo hi : Int} {m : List (List Int)} {k : Nat} (hk : k < m.length) (h : rowsGo lo hi m k) (h0 : Mx.rcode lo hi (m.getD 0 []).length (m.getD k []) = 0) : rowsGo lo hi m (k + 1) := by
  unfold rowsGo at *
  rw [h, Mx.rows_drop hk, if_pos h0]

set_option maxRecDepth 100000 in
set_option maxHeartbeats 1600000 in
theorem Check_main (A : Option Addr) (m : List (List Int)) (n d q : Nat) (w : World) (ha : LiesM w A m) (hn : m.length = n) (hq : (m.getD 0 []).length = q) (h1 : 0 < n) (h2 : n ≤ 5) (h3 : 0 < q) (h4 : q ≤ 5) :
    Calls Try.prog 24 #[.slice A n d] w fun e w' => e = .returned (errOf (Mx.mcode 5 0 9972 m)) ∧ w = w' := by
  have hm : Mx.mcode 5 0 9972 m = Mx.rows 0 9972 (m.getD 0 []).length m := by
    unfold Mx.mcode
    rw [if_neg (by omega), if_neg (by omega)]
  rw [hm]
  obtain ⟨v, hv⟩ : ∃ v, v = Mx.rows 0 9972 (m.getD 0 []).length m := ⟨_, rfl⟩
  have hg0 : rowsGo 0 9972 m 0 := by unfold rowsGo; rw [List.drop_zero]
  have RNG := Lib.hid (fun (k : Nat) (hk : k < n) (hg : rowsGo 0 9972 m k) (h0 : Mx.rcode 0 9972 q (m.getD k []) ≠ 0) => show v = Mx.rcode 0 9972 q (m.getD k []) by
    unfold rowsGo at hg
    rw [hv, hg, Mx.rows_drop (by omega), hq, if_neg h0])
  have OKS := Lib.hid (fun (hg : rowsGo 0 9972 m n) => show v = 0 by
    unfold rowsGo at hg
    rw [hv, hg, Mx.rows_end (by omega)])
  have STP := Lib.hid (fun (k : Nat) (hk : k < n) (hg : rowsGo 0 9972 m k) (h0 : Mx.rcode 0 9972 q (m.getD k []) = 0) => rows_go (by omega) hg (by rw [hq]; exact h0))
  rw [← hv]
  obtain ⟨ad, A0, d0, rfl, _, hc0, _, hr0⟩ := ha 0 (by omega)
  rw [hq] at hc0
  rw [add_zero'] at hc0
  have HA := Lib.hid ha
  have HN := Lib.hid hn
  have G0 := Lib.hid hg0
  have e0 : ((n : Int) == 0) = false := by rw [beq_eq_false_iff_ne]; omega
  have e1 : ((q : Int) == 0) = false := by rw [beq_eq_false_iff_ne]; omega
  have e2 : ¬ (5 : Int) < n := by omega
  have e3 : ¬ (5 : Int) < q := by omega
  clear ha hn hg0 hm hv hq hr0
  go_enter Try.func24, Try.ntmps24
  go_wp2_with fail
  go_loop [30] (fun i => ∃ k : Nat, k ≤ n ∧ i = .int .i64 (k : Int) ∧ rowsGo 0 9972 m k) (fun i => n - (intOf i).toNat)
  case atStart => exact ⟨0, Nat.zero_le _, rfl, G0.out⟩
  case round =>
    obtain ⟨k, hk, rfl, hg⟩ := hrel
    have HG := Lib.hid hg
    clear hg
    by_cases hlt : k < n
    · obtain ⟨ad', A1, d1, ea, _, hc1, _, hr1⟩ := HA.out k (by have := HN.out; omega)
      obtain rfl := Option.some.inj ea
      have CR := Lib.hid (checkRow_any A1 (m.getD k []) _ d1 q w hr1 rfl (by omega))
      obtain ⟨p, hp⟩ : ∃ p, p = (m.getD k []).length := ⟨_, rfl⟩
      rw [← hp] at hc1 CR
      by_cases h0 : Mx.rcode 0 9972 q (m.getD k []) = 0
      · have ST := Lib.hid (STP.out k hlt HG.out h0)
        rw [h0] at CR
        clear hr1 hp h0
        go_wp2_with fail
        refine (CR.out).mono ?_; rintro e w' ⟨rfl, rfl⟩
        rw [errOf_zero]
        go_wp2_with fail
        go_round
        case rel => exact ⟨k + 1, by omega, by go_num, ST.out⟩
        case measure => simp [intOf]; omega
      · have E := Lib.hid (RNG.out k hlt HG.out h0)
        rw [errOf_ne _ h0] at CR
        have E2 := Lib.hid (show errOf v = .iface 40 (.int .i64 ((Mx.rcode 0 9972 q (m.getD k []) : Nat) : Int)) by rw [E.out, errOf_ne _ h0])
        generalize Mx.rcode 0 9972 q (m.getD k []) = z at *
        clear hr1 hp h0
        go_wp2_with fail
        refine (CR.out).mono ?_; rintro e w' ⟨rfl, rfl⟩
        go_wp2_with fail
        go_ret
        exact ⟨by rw [E2.out]; rfl, rfl⟩
    · have E := Lib.hid (OKS.out (by have h : k = n := by omega
                                     rw [← h]; exact HG.out))
      go_wp2_with fail
      go_ret
      exact ⟨by rw [E.out]; rfl, rfl⟩

set_option maxHeartbeats 800000 in
theorem Check_any (A : Option Addr) (m : List (List Int)) (n d : Nat) (w : World) (ha : LiesM w A m) (hn : m.length = n) :
    Calls Try.prog 24 #[.slice A n d] w fun e w' => e = .returned (errOf (Mx.mcode 5 0 9972 m)) ∧ w = w' := by
  by_cases h1 : n = 0
  · have hm : Mx.mcode 5 0 9972 m = 5 := by unfold Mx.mcode; rw [if_pos (by omega)]
    rw [hm]
    subst h1
    clear hm ha hn
    go_enter Try.func24, Try.ntmps24
    go_wp2
    go_ret
    exact ⟨rfl, rfl⟩
  obtain ⟨ad, A0, d0, rfl, _, hc0, _, hr0⟩ := ha 0 (by omega)
  rw [add_zero'] at hc0
  obtain ⟨q, hq⟩ : ∃ q, q = (m.getD 0 []).length := ⟨_, rfl⟩
  rw [← hq] at hc0
  have e0 : ((n : Int) == 0) = false := by rw [beq_eq_false_iff_ne]; omega
  have hn0 : (0 : Int) < n := by omega
  by_cases h2 : q = 0
  · have hm : Mx.mcode 5 0 9972 m = 5 := by unfold Mx.mcode; rw [if_pos (by omega)]
    rw [hm]
    subst h2
    clear hm ha hn hr0 h1 hq
    go_enter Try.func24, Try.ntmps24
    go_wp2
    go_ret
    exact ⟨rfl, rfl⟩
  have e1 : ((q : Int) == 0) = false := by rw [beq_eq_false_iff_ne]; omega
  by_cases h3 : 5 < n
  · have hm : Mx.mcode 5 0 9972 m = 4 := by unfold Mx.mcode; rw [if_neg (by omega), if_pos (by omega)]
    rw [hm]
    have e3 : (5 : Int) < n := by omega
    clear hm ha hn hr0 h1 hq h2 h3
    go_enter Try.func24, Try.ntmps24
    go_wp2
    go_ret
    exact ⟨rfl, rfl⟩
  by_cases h4 : 5 < q
  · have hm : Mx.mcode 5 0 9972 m = 4 := by unfold Mx.mcode; rw [if_neg (by omega), if_pos (by omega)]
    rw [hm]
    have e3 : ¬ (5 : Int) < n := by omega
    have e4 : (5 : Int) < q := by omega
    clear hm ha hn hr0 h1 hq h2 h3 h4
    go_enter Try.func24, Try.ntmps24
    go_wp2
    go_ret
    exact ⟨rfl, rfl⟩
  exact Check_main (some ad) m n d q w ha hn hq.symm (by omega) (by omega) (by omega) (by omega)

/-- What is wrong with two matrices: the first one's fault, else the second one's. -/
def mcode2 (a b : List (List Int)) : Nat := if Mx.mcode 5 0 9972 a = 0 then Mx.mcode 5 0 9972 b else Mx.mcode 5 0 9972 a
theorem mcode2_zero {a b : List (List Int)} (h : mcode2 a b = 0) : Mx.mcode 5 0 9972 a = 0 ∧ Mx.mcode 5 0 9972 b = 0 := by
  unfold mcode2 at h
  by_cases h0 : Mx.mcode 5 0 9972 a = 0
  · rw [if_pos h0] at h; exact ⟨h0, h⟩
  · rw [if_neg h0] at h; exact absurd h h0

end Go.Proofs.Ytolkdbijenbchaa
