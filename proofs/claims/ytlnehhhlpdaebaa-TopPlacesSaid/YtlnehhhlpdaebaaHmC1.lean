/- Contracts of package hermite, first part: whether all numbers are small, and what is wrong with a square matrix of small whole numbers. -/
import Derived.Test.YtlnehhhlpdaebaaSqr
import Derived.Test.YtlnehhhlpdaebaaBaC1
import Derived.Test.YtlnehhhlpdaebaaOwnM
namespace Go.Proofs.Ytlnehhhlpdaebaa
open Go.ChangeShapes Go.WideShapes Go.ChangeAt Go.RowKit
set_option linter.unusedVariables false

set_option maxRecDepth 100000 in
theorem win_no (x m : Int) (P : Nat) (w : World) (hc : w.cell? ⟨P, 0, none⟩ = some (.int .i64 m)) (hm : 0 ≤ m ∧ m ≤ 1000) (h0 : -m ≤ x) (h1 : x ≤ m) : Calls Try.prog 49 #[.int .i64 x, .pointer (some ⟨P, 0, none⟩)] w fun e w' => e = .returned (.bool false) ∧ w = w' := by
  have hw : IntKind.i64.wrap (-m) = -m := IntWalk.i64_in _ (by omega)
  have h2 : decide (x < -m) = false := decide_eq_false (by omega)
  have h3 : decide (m < x) = false := decide_eq_false (by omega)
  go_enter Try.func49, Try.ntmps49
  go_wp2_with fail
  go_ret
  exact ⟨rfl, rfl⟩
set_option maxRecDepth 100000 in
theorem win_yes (x m : Int) (P : Nat) (w : World) (hc : w.cell? ⟨P, 0, none⟩ = some (.int .i64 m)) (hm : 0 ≤ m ∧ m ≤ 1000) (h : ¬ (-m ≤ x ∧ x ≤ m)) : Calls Try.prog 49 #[.int .i64 x, .pointer (some ⟨P, 0, none⟩)] w fun e w' => e = .returned (.bool true) ∧ w = w' := by
  have hw : IntKind.i64.wrap (-m) = -m := IntWalk.i64_in _ (by omega)
  by_cases h2 : x < -m
  · have h2 : decide (x < -m) = true := decide_eq_true h2
    clear h
    go_enter Try.func49, Try.ntmps49
    go_wp2_with fail
    go_ret
    exact ⟨rfl, rfl⟩
  · have h3 : decide (m < x) = true := decide_eq_true (by omega)
    have h2 : decide (x < -m) = false := decide_eq_false h2
    clear h
    go_enter Try.func49, Try.ntmps49
    go_wp2_with fail
    go_ret
    exact ⟨rfl, rfl⟩

set_option maxRecDepth 100000 in
set_option maxHeartbeats 800000 in
theorem hidx_any (A : Option Addr) (l : List Int) (n d P : Nat) (m : Int) (w : World) (hl : Lies w A l) (hn : l.length = n) (hb : n ≤ 1000) (hc : w.cell? ⟨P, 0, none⟩ = some (.int .i64 m)) (hm : 0 ≤ m ∧ m ≤ 1000) :
    Calls Try.prog 30 #[.slice A n d, .func (.func 49) #[] #[.pointer (some ⟨P, 0, none⟩)]] w fun e w' =>
      ((∃ k : Nat, ¬ AllIn l (-m) m ∧ k < n ∧ e = .returned (.int .i64 (k : Int))) ∨ (AllIn l (-m) m ∧ e = .returned (.int .i64 (-1)))) ∧ w = w' := by
  have HL := Lib.hid hl
  have HN := Lib.hid hn
  have NO := Lib.hid (fun x => win_no x m P w hc hm)
  have YES := Lib.hid (fun x => win_yes x m P w hc hm)
  clear hl hn hc hm
  go_enter Try.func30, Try.ntmps30
  go_wp2_with fail
  go_loop [8] (fun j => ∃ k : Nat, k ≤ n ∧ j = .int .i64 (k : Int) ∧ ∀ t, t < k → -m ≤ l.getD t 0 ∧ l.getD t 0 ≤ m) (fun j => n - (intOf j).toNat)
  case atStart => exact ⟨0, Nat.zero_le _, rfl, fun t ht => absurd ht (by omega)⟩
  case round =>
    obtain ⟨k, hk, rfl, hz⟩ := hrel
    have HZ := Lib.hid hz
    clear hz
    by_cases hlt : k < n
    · obtain ⟨ad, rfl, _, x1⟩ := HL.out k (by have := HN.out; omega)
      obtain ⟨x, hx⟩ : ∃ x, x = l.getD k 0 := ⟨_, rfl⟩
      rw [← hx] at x1
      have HX := Lib.hid hx
      clear hx
      by_cases h0 : -m ≤ x ∧ x ≤ m
      · have HZ2 := Lib.hid (show ∀ t, t < k + 1 → -m ≤ l.getD t 0 ∧ l.getD t 0 ≤ m from fun t ht => by
          by_cases e : t = k
          · rw [e, ← HX.out]; exact h0
          · exact HZ.out t (by omega))
        have M := Lib.hid (NO.out x h0.1 h0.2)
        clear h0
        go_wp2_with fail
        refine (M.out).mono ?_; rintro e w' ⟨rfl, rfl⟩
        go_wp2_with fail
        go_round
        case rel => exact ⟨k + 1, by omega, by go_num, HZ2.out⟩
        case measure => simp [intOf]; omega
      · have M := Lib.hid (YES.out x h0)
        have HQ := Lib.hid (show ¬ AllIn l (-m) m from fun h => h0 (by have := h k (by have := HN.out; omega); rw [← HX.out] at this; exact this))
        clear h0
        go_wp2_with fail
        refine (M.out).mono ?_; rintro e w' ⟨rfl, rfl⟩
        go_wp2_with fail
        go_ret
        exact ⟨.inl ⟨k, HQ.out, hlt, rfl⟩, rfl⟩
    · obtain rfl : k = n := by omega
      have HQ := Lib.hid (show AllIn l (-m) m from fun t ht => HZ.out t (by have := HN.out; omega))
      go_wp2_with fail
      go_ret
      exact ⟨.inr ⟨HQ.out, rfl⟩, rfl⟩
theorem hcf_yes (A : Option Addr) (l : List Int) (n d P : Nat) (m : Int) (w : World) (hl : Lies w A l) (hn : l.length = n) (hb : n ≤ 1000) (hc : w.cell? ⟨P, 0, none⟩ = some (.int .i64 m)) (hm : 0 ≤ m ∧ m ≤ 1000) (h : ¬ AllIn l (-m) m) :
    Calls Try.prog 48 #[.slice A n d, .func (.func 49) #[] #[.pointer (some ⟨P, 0, none⟩)]] w fun e w' => e = .returned (.bool true) ∧ w = w' := by
  have M := Lib.hid (hidx_any A l n d P m w hl hn hb hc hm)
  have H := Lib.hid h
  clear hl hn h hc hm
  go_enter Try.func48, Try.ntmps48
  go_wp2_with fail
  refine (M.out).mono ?_; rintro e w' ⟨⟨k, _, hk, rfl⟩ | ⟨h, _⟩, rfl⟩
  · go_wp2_with fail
    go_ret
    exact ⟨rfl, rfl⟩
  · exact absurd h H.out
theorem hcf_no (A : Option Addr) (l : List Int) (n d P : Nat) (m : Int) (w : World) (hl : Lies w A l) (hn : l.length = n) (hb : n ≤ 1000) (hc : w.cell? ⟨P, 0, none⟩ = some (.int .i64 m)) (hm : 0 ≤ m ∧ m ≤ 1000) (h : AllIn l (-m) m) :
    Calls Try.prog 48 #[.slice A n d, .func (.func 49) #[] #[.pointer (some ⟨P, 0, none⟩)]] w fun e w' => e = .returned (.bool false) ∧ w = w' := by
  have M := Lib.hid (hidx_any A l n d P m w hl hn hb hc hm)
  have H := Lib.hid h
  clear hl hn h hc hm
  go_enter Try.func48, Try.ntmps48
  go_wp2_with fail
  refine (M.out).mono ?_; rintro e w' ⟨⟨k, h, hk, rfl⟩ | ⟨_, rfl⟩, rfl⟩
  · exact absurd H.out h
  · go_wp2_with fail
    go_ret
    exact ⟨rfl, rfl⟩
theorem hwin_any (A : Option Addr) (l : List Int) (n d : Nat) (m : Int) (w : World) (b : Bool) (hl : Lies w A l) (hn : l.length = n) (hb : n ≤ 1000) (hm : 0 ≤ m ∧ m ≤ 1000) (h : b = true ↔ AllIn l (-m) m) :
    Calls Try.prog 37 #[.slice A n d, .int .i64 m] w fun e w' => e = .returned (.bool b) ∧ Kp w w' := by
  have k1 := (Kp.rfl' w).new (.cells #[.int .i64 m] 3)
  have c1 := cell_made w #[.int .i64 m] 3 w.heap.size 0 rfl
  have C := Lib.hid (show Calls Try.prog 48 #[.slice A n d, .func (.func 49) #[] #[.pointer (some ⟨w.heap.size, 0, none⟩)]] (w.alloc (.cells #[.int .i64 m] 3)) fun e w' => e = .returned (.bool (!b)) ∧ w.alloc (.cells #[.int .i64 m] 3) = w' by
    cases b with
    | true => exact hcf_no A l n d _ m _ (hl.keep k1) hn hb c1 hm (h.1 rfl)
    | false => exact hcf_yes A l n d _ m _ (hl.keep k1) hn hb c1 hm (fun h' => by have := h.2 h'; cases this))
  have K1 := Lib.hid k1
  clear hl hn h k1 c1 hm
  go_enter Try.func37, Try.ntmps37
  go_wp2_with fail
  refine (C.out).mono ?_; rintro e w' ⟨rfl, rfl⟩
  go_wp2_with fail
  go_ret
  exact ⟨by cases b <;> rfl, K1.out⟩

set_option maxRecDepth 100000 in
set_option maxHeartbeats 1600000 in
theorem HChk_main (A : Option Addr) (m : List (List Int)) (n d q : Nat) (w : World) (ha : LiesM w A m) (hn : m.length = n) (hq : (m.getD 0 []).length = q) (h1 : 0 < n) (h2 : n ≤ 3) (h3 : 0 < q) (h4 : q ≤ 3) :
    Calls Try.prog 46 #[.slice A n d] w fun e w' => e = .returned (errOf (qcode 3 (-20) 20 m)) ∧ Kp w w' := by
  have hm : Mx.mcode 3 (-20) 20 m = Mx.rows (-20) 20 (m.getD 0 []).length m := by
    unfold Mx.mcode
    rw [if_neg (by omega), if_neg (by omega)]
  obtain ⟨v, hv⟩ : ∃ v, v = Mx.rows (-20) 20 (m.getD 0 []).length m := ⟨_, rfl⟩
  have QV := Lib.hid (show qcode 3 (-20) 20 m = if v = 0 ∧ n ≠ q then 3 else v by unfold qcode; rw [hm, ← hv, hn, hq])
  obtain ⟨qv, hqv⟩ : ∃ qv, qv = qcode 3 (-20) 20 m := ⟨_, rfl⟩
  rw [← hqv] at QV ⊢
  have hg0 : rowsZ (-20) 20 m 0 := by unfold rowsZ; rw [List.drop_zero]
  have RNG := Lib.hid (fun (k : Nat) (hk : k < n) (hg : rowsZ (-20) 20 m k) (h0 : Mx.rcode (-20) 20 q (m.getD k []) ≠ 0) => show v = Mx.rcode (-20) 20 q (m.getD k []) by
    unfold rowsZ at hg
    rw [hv, hg, Mx.rows_drop (by omega), hq, if_neg h0])
  have OKS := Lib.hid (fun (hg : rowsZ (-20) 20 m n) => show v = 0 by
    unfold rowsZ at hg
    rw [hv, hg, Mx.rows_end (by omega)])
  have STP := Lib.hid (fun (k : Nat) (hk : k < n) (hg : rowsZ (-20) 20 m k) (h0 : Mx.rcode (-20) 20 q (m.getD k []) = 0) => rowsZ_go (by omega) hg (by rw [hq]; exact h0))
  obtain ⟨ad, A0, d0, rfl, hl0, hc0, _, hr0⟩ := ha 0 (by omega)
  rw [hq] at hc0
  rw [add_zero'] at hc0
  have HA := Lib.hid ha
  have HN := Lib.hid hn
  have G0 := Lib.hid hg0
  have HC := Lib.hid (fun (w' : World) (h : Kp w w') => (h.cell (p := ad) hl0).trans hc0)
  have e0 : ((n : Int) == 0) = false := by rw [beq_eq_false_iff_ne]; omega
  have e1 : ((q : Int) == 0) = false := by rw [beq_eq_false_iff_ne]; omega
  have e2 : ¬ (3 : Int) < n := by omega
  have e3 : ¬ (3 : Int) < q := by omega
  clear ha hn hg0 hm hv hq hr0 hqv hl0
  go_enter Try.func46, Try.ntmps46
  go_wp2_with fail
  clear hc0
  go_loopw [2, 29] (fun _ i wr => ∃ k : Nat, k ≤ n ∧ i = .int .i64 (k : Int) ∧ rowsZ (-20) 20 m k ∧ Kp w wr) (fun _ i _ => n - (intOf i).toNat)
  case atStart => exact ⟨0, Nat.zero_le _, rfl, G0.out, Kp.rfl' _⟩
  case round =>
    obtain ⟨k, hk, rfl, hg, hkp⟩ := hrel
    have HG := Lib.hid hg
    have HK := Lib.hid hkp
    have hc0 := HC.out wr hkp
    clear hg
    by_cases hlt : k < n
    · obtain ⟨ad', A1, d1, ea, _, hc1, _, hr1⟩ := (HA.out.keep hkp) k (by have := HN.out; omega)
      obtain rfl := Option.some.inj ea
      obtain ⟨p, hp⟩ : ∃ p, p = (m.getD k []).length := ⟨_, rfl⟩
      rw [← hp] at hc1
      clear hkp
      by_cases hpq : p = q
      · have e5 : ((p : Int) != (q : Int)) = false := by rw [hpq]; simp
        have CW := Lib.hid (fun b h => hwin_any A1 (m.getD k []) p d1 20 wr b hr1 hp.symm (by omega) (by omega) h)
        by_cases h0 : AllIn (m.getD k []) (-20) 20
        · have ST := Lib.hid (STP.out k hlt HG.out (Mx.rcode_ok (by omega) fun j hj => h0 j (by omega)))
          have CW2 := Lib.hid (CW.out true ⟨fun _ => h0, fun _ => rfl⟩)
          clear hr1 hp h0 CW hpq
          go_wp2_with fail
          refine (CW2.out).mono ?_; rintro e w' ⟨rfl, k1⟩
          have HK2 := Lib.hid (HK.out.trans k1)
          clear k1
          go_wp2_with fail
          go_roundw
          case rel => exact ⟨k + 1, by omega, by go_num, ST.out, HK2.out⟩
          case measure => simp [intOf]; omega
        · have hne : Mx.rcode (-20) 20 q (m.getD k []) = 1 := by
            obtain ⟨j, hj⟩ : ∃ j, ¬ (j < (m.getD k []).length → -20 ≤ (m.getD k []).getD j 0 ∧ (m.getD k []).getD j 0 ≤ 20) := Classical.not_forall.1 h0
            have hj1 : j < (m.getD k []).length := Classical.byContradiction fun e => hj fun e' => absurd e' e
            exact Mx.rcode_bad (by omega) (k := j) (by omega) (fun h2 => hj fun _ => h2)
          have E := Lib.hid (RNG.out k hlt HG.out (by omega))
          have E2 := Lib.hid (show errOf qv = .iface 51 (.int .i64 1) by rw [QV.out, if_neg (fun h => absurd (E.out.symm.trans h.1) (by omega)), E.out, hne]; rfl)
          have CW2 := Lib.hid (CW.out false ⟨fun h => (by cases h), fun h => absurd h h0⟩)
          clear hr1 hp h0 CW hpq hne
          go_wp2_with fail
          refine (CW2.out).mono ?_; rintro e w' ⟨rfl, k1⟩
          have HK2 := Lib.hid (HK.out.trans k1)
          clear k1
          go_wp2_with fail
          go_ret
          exact ⟨by rw [E2.out]; rfl, HK2.out⟩
      · have e5 : ((p : Int) != (q : Int)) = true := by rw [bne_iff_ne]; omega
        have hne : Mx.rcode (-20) 20 q (m.getD k []) = 3 := Mx.rcode_len (by omega)
        have E := Lib.hid (RNG.out k hlt HG.out (by omega))
        have E2 := Lib.hid (show errOf qv = .iface 51 (.int .i64 3) by rw [QV.out, if_neg (fun h => absurd (E.out.symm.trans h.1) (by omega)), E.out, hne]; rfl)
        clear hr1 hp hpq hne
        go_wp2_with fail
        go_ret
        exact ⟨by rw [E2.out]; rfl, HK.out⟩
    · have E := Lib.hid (OKS.out (by have h : k = n := by omega
                                     rw [← h]; exact HG.out))
      clear hkp
      by_cases hq : n = q
      · have e4 : ((n : Int) != (q : Int)) = false := by rw [hq]; simp
        have E3 := Lib.hid (show errOf qv = errOf 0 by rw [QV.out, E.out, if_neg (fun h => h.2 hq)])
        clear hq
        go_wp2_with fail
        go_ret
        exact ⟨by rw [E3.out]; rfl, HK.out⟩
      · have e4 : ((n : Int) != (q : Int)) = true := by rw [bne_iff_ne]; omega
        have E3 := Lib.hid (show qv = 3 by rw [QV.out, if_pos ⟨E.out, hq⟩])
        clear hq
        go_wp2_with fail
        go_ret
        exact ⟨by rw [E3.out]; rfl, HK.out⟩

set_option maxHeartbeats 800000 in
theorem HChk_any (A : Option Addr) (m : List (List Int)) (n d : Nat) (w : World) (ha : LiesM w A m) (hn : m.length = n) :
    Calls Try.prog 46 #[.slice A n d] w fun e w' => e = .returned (errOf (qcode 3 (-20) 20 m)) ∧ Kp w w' := by
  by_cases h1 : n = 0
  · have hm : qcode 3 (-20) 20 m = 5 := by rw [qcode_is (c := 5) (by unfold Mx.mcode; rw [if_pos (by omega)]) (by omega)]
    rw [hm]
    subst h1
    clear hm ha hn
    go_enter Try.func46, Try.ntmps46
    go_wp2
    go_ret
    exact ⟨rfl, Kp.rfl' _⟩
  obtain ⟨ad, A0, d0, rfl, _, hc0, _, hr0⟩ := ha 0 (by omega)
  rw [add_zero'] at hc0
  obtain ⟨q, hq⟩ : ∃ q, q = (m.getD 0 []).length := ⟨_, rfl⟩
  rw [← hq] at hc0
  have e0 : ((n : Int) == 0) = false := by rw [beq_eq_false_iff_ne]; omega
  have hn0 : (0 : Int) < n := by omega
  by_cases h2 : q = 0
  · have hm : qcode 3 (-20) 20 m = 5 := by rw [qcode_is (c := 5) (by unfold Mx.mcode; rw [if_pos (by omega)]) (by omega)]
    rw [hm]
    subst h2
    clear hm ha hn hr0 h1 hq
    go_enter Try.func46, Try.ntmps46
    go_wp2
    go_ret
    exact ⟨rfl, Kp.rfl' _⟩
  have e1 : ((q : Int) == 0) = false := by rw [beq_eq_false_iff_ne]; omega
  by_cases h3 : 3 < n
  · have hm : qcode 3 (-20) 20 m = 4 := by rw [qcode_is (c := 4) (by unfold Mx.mcode; rw [if_neg (by omega), if_pos (by omega)]) (by omega)]
    rw [hm]
    have e3 : (3 : Int) < n := by omega
    clear hm ha hn hr0 h1 hq h2 h3
    go_enter Try.func46, Try.ntmps46
    go_wp2
    go_ret
    exact ⟨rfl, Kp.rfl' _⟩
  by_cases h4 : 3 < q
  · have hm : qcode 3 (-20) 20 m = 4 := by rw [qcode_is (c := 4) (by unfold Mx.mcode; rw [if_neg (by omega), if_pos (by omega)]) (by omega)]
    rw [hm]
    have e3 : ¬ (3 : Int) < n := by omega
    have e4 : (3 : Int) < q := by omega
    clear hm ha hn hr0 h1 hq h2 h3 h4
    go_enter Try.func46, Try.ntmps46
    go_wp2
    go_ret
    exact ⟨rfl, Kp.rfl' _⟩
  exact HChk_main (some ad) m n d q w ha hn hq.symm (by omega) (by omega) (by omega) (by omega)
end Go.Proofs.Ytlnehhhlpdaebaa
