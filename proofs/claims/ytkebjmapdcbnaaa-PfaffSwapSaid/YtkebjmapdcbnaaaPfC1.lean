/- Contracts of package pfaff, first part: checkRow, isSkew, Check; what is wrong with a matrix that should be skew. -/
import Derived.Test.YtkebjmapdcbnaaaBaC1
import Derived.Test.YtkebjmapdcbnaaaPf
namespace Go.Proofs.Ytkebjmapdcbnaaa
open Go.ChangeShapes Go.WideShapes Go.ChangeAt Go.RowKit
set_option linter.unusedVariables false

/-- Each number is the one turned about, below 0. -/
def Skp (m : List (List Int)) : Prop := ∀ i, i < m.length → ∀ j, j < m.length → (m.getD i []).getD j 0 = -((m.getD j []).getD i 0)
instance (m : List (List Int)) : Decidable (Skp m) := by unfold Skp; infer_instance
/-- What is wrong with a matrix that should be skew. -/
def pfcd (m : List (List Int)) : Nat := if qcode 6 (-9) 9 m ≠ 0 then qcode 6 (-9) 9 m else if Skp m then 0 else 6
theorem pfcd_le (m : List (List Int)) : pfcd m ≤ 6 := by
  unfold pfcd
  have := qcode_le 6 (-9) 9 m
  split
  · omega
  · split <;> omega
theorem pfcd_is {m : List (List Int)} {c : Nat} (h : qcode 6 (-9) 9 m = c) (hc : c ≠ 0) : pfcd m = c := by
  unfold pfcd
  rw [if_pos (by omega), h]
/-- A skew matrix of small whole numbers. -/
structure Pz (n : Nat) (x : Nat → Nat → Int) (m : List (List Int)) : Prop where
  eq : m = Mx.tab n n x
  n0 : 0 < n
  n6 : n ≤ 6
  ab : ∀ i j, i < n → j < n → -9 ≤ x i j ∧ x i j ≤ 9
  skw : Zx.Skw x
theorem Pz.len {n : Nat} {x : Nat → Nat → Int} {m : List (List Int)} (h : Pz n x m) : m.length = n := by rw [h.eq, Mx.len_tab]
/-- A square matrix of small whole numbers. -/
theorem q6_tab {m : List (List Int)} {n : Nat} (hn : m.length = n) (h : qcode 6 (-9) 9 m = 0) :
    m = Mx.tab n n (fun i j => (m.getD i []).getD j 0) ∧ 0 < n ∧ n ≤ 6 ∧ (∀ i j, i < n → j < n → -9 ≤ (m.getD i []).getD j 0 ∧ (m.getD i []).getD j 0 ≤ 9) := by
  have hm : Mx.mcode 6 (-9) 9 m = 0 ∧ m.length = (m.getD 0 []).length := by
    unfold qcode at h
    by_cases h0 : Mx.mcode 6 (-9) 9 m = 0 ∧ m.length ≠ (m.getD 0 []).length
    · rw [if_pos h0] at h; cases h
    · rw [if_neg h0] at h
      exact ⟨h, Classical.byContradiction fun e => h0 ⟨h, e⟩⟩
  obtain ⟨h1, h2⟩ := hm
  unfold Mx.mcode at h1
  by_cases c1 : m.length = 0 ∨ (m.getD 0 []).length = 0
  · rw [if_pos c1] at h1; cases h1
  rw [if_neg c1] at h1
  by_cases c2 : 6 < m.length ∨ 6 < (m.getD 0 []).length
  · rw [if_pos c2] at h1; cases h1
  rw [if_neg c2] at h1
  have hr := Mx.rows_zero h1
  have hl : ∀ i, i < m.length → (m.getD i []).length = n := fun i hi => by rw [(Mx.rcode_zero (hr i hi)).1, ← h2, hn]
  refine ⟨?_, by omega, by omega, fun i j hi hj => (Mx.rcode_zero (hr i (by omega))).2 j (by rw [hl i (by omega)]; exact hj)⟩
  have := Mx.is_tab hl
  rw [hn] at this
  exact this
/-- A square matrix is one, or there is a number that is too large: then it is 1. -/
theorem q6_code {n : Nat} {f : Nat → Nat → Int} (h0 : 0 < n) (h6 : n ≤ 6) :
    (qcode 6 (-9) 9 (Mx.tab n n f) = 0 ∧ ∀ i j, i < n → j < n → -9 ≤ f i j ∧ f i j ≤ 9) ∨ (qcode 6 (-9) 9 (Mx.tab n n f) = 1 ∧ ¬ ∀ i j, i < n → j < n → -9 ≤ f i j ∧ f i j ≤ 9) := by
  have e0 : ((Mx.tab n n f).getD 0 []).length = n := Mx.tab_len n n f 0 h0
  have hm : Mx.mcode 6 (-9) 9 (Mx.tab n n f) = Mx.rows (-9) 9 n (Mx.tab n n f) := by
    unfold Mx.mcode
    rw [Mx.len_tab, e0, if_neg (by omega), if_neg (by omega)]
  have hq : qcode 6 (-9) 9 (Mx.tab n n f) = Mx.rows (-9) 9 n (Mx.tab n n f) := by
    unfold qcode
    rw [if_neg (fun h => h.2 (by rw [Mx.len_tab, e0])), hm]
  rw [hq]
  by_cases h : ∀ i j, i < n → j < n → -9 ≤ f i j ∧ f i j ≤ 9
  · refine .inl ⟨Mx.rows_ok fun i hi => ?_, h⟩
    rw [Mx.len_tab] at hi
    refine Mx.rcode_ok (Mx.tab_len n n f i hi) fun k hk => ?_
    rw [Mx.tab_len n n f i hi] at hk
    rw [Mx.tab_el n n f i k hi hk]
    exact h i k hi hk
  · refine .inr ⟨?_, h⟩
    have hl : ∀ l, l ∈ Mx.tab n n f → l.length = n := fun l hl => by
      obtain ⟨i, _, rfl⟩ := List.mem_map.1 hl
      exact Mx.len_row _ _
    have hne : Mx.rows (-9) 9 n (Mx.tab n n f) ≠ 0 := fun e => h fun i j hi hj => by
      have := (Mx.rcode_zero (Mx.rows_zero e i (by rw [Mx.len_tab]; exact hi))).2 j (by rw [Mx.tab_len n n f i hi]; exact hj)
      rwa [Mx.tab_el n n f i j hi hj] at this
    revert hl hne
    generalize Mx.tab n n f = M
    intro hl hne
    induction M with
    | nil => exact absurd rfl hne
    | cons l t ih =>
      have e : Mx.rows (-9) 9 n (l :: t) = if Mx.rcode (-9) 9 n l = 0 then Mx.rows (-9) 9 n t else Mx.rcode (-9) 9 n l := rfl
      rw [e] at hne ⊢
      by_cases e0 : Mx.rcode (-9) 9 n l = 0
      · rw [if_pos e0] at hne ⊢
        exact ih (fun k hk => hl k (List.mem_cons_of_mem _ hk)) hne
      · rw [if_neg e0] at hne ⊢
        have := hl l (List.mem_cons_self ..)
        unfold Mx.rcode at e0 ⊢
        rw [if_neg (by omega)] at e0 ⊢
        split at e0
        · exact absurd rfl e0
        · rename_i h5; rw [if_neg h5]
theorem skp_tab {n : Nat} {f : Nat → Nat → Int} : Skp (Mx.tab n n f) ↔ ∀ i j, i < n → j < n → f i j = -(f j i) := by
  unfold Skp
  rw [Mx.len_tab]
  constructor
  · intro h i j hi hj
    have := h i hi j hj
    rwa [Mx.tab_el n n f i j hi hj, Mx.tab_el n n f j i hj hi] at this
  · intro h i hi j hj
    rw [Mx.tab_el n n f i j hi hj, Mx.tab_el n n f j i hj hi]
    exact h i j hi hj
theorem pz_get {m : List (List Int)} {n : Nat} (hn : m.length = n) (h : qcode 6 (-9) 9 m = 0) (hs : Skp m) : Pz n (fun i j => (m.getD i []).getD j 0) m := by
  obtain ⟨h1, h2, h3, h4⟩ := q6_tab hn h
  refine ⟨h1, h2, h3, h4, fun i j => ?_⟩
  by_cases hi : i < n
  · by_cases hj : j < n
    · exact hs i (by omega) j (by omega)
    · have e1 : (m.getD i []).length = n := by rw [h1]; exact Mx.tab_len n n _ i hi
      have e2 : m.getD j [] = [] := by rw [List.getD_eq_getElem?_getD, List.getElem?_eq_none (by omega)]; rfl
      show (m.getD i []).getD j 0 = -((m.getD j []).getD i 0)
      rw [e2, List.getD_eq_getElem?_getD, List.getElem?_eq_none (by omega)]; rfl
  · have e2 : m.getD i [] = [] := by rw [List.getD_eq_getElem?_getD, List.getElem?_eq_none (by omega)]; rfl
    show (m.getD i []).getD j 0 = -((m.getD j []).getD i 0)
    rw [e2]
    by_cases hj : j < n
    · have e1 : (m.getD j []).length = n := by rw [h1]; exact Mx.tab_len n n _ j hj
      rw [List.getD_eq_getElem?_getD (l := m.getD j []), List.getElem?_eq_none (by omega)]; rfl
    · have e3 : m.getD j [] = [] := by rw [List.getD_eq_getElem?_getD, List.getElem?_eq_none (by omega)]; rfl
      rw [e3]; rfl
theorem pz_or (m : List (List Int)) {n : Nat} (hn : m.length = n) : (∃ x, Pz n x m) ∨ pfcd m ≠ 0 := by
  by_cases h : qcode 6 (-9) 9 m = 0
  · by_cases hs : Skp m
    · exact .inl ⟨_, pz_get hn h hs⟩
    · refine .inr ?_
      unfold pfcd
      rw [if_neg (by omega), if_neg hs]
      decide
  · refine .inr ?_
    unfold pfcd
    rw [if_pos h]; exact h
theorem Pz.code {n : Nat} {x : Nat → Nat → Int} {m : List (List Int)} (h : Pz n x m) : pfcd m = 0 := by
  obtain ⟨rfl, h0, h6, hab, hs⟩ := h
  unfold pfcd
  rcases q6_code (f := x) h0 h6 with ⟨h1, _⟩ | ⟨_, h1⟩
  · rw [if_neg (by omega), if_pos (skp_tab.2 fun i j _ _ => hs i j)]
  · exact absurd hab h1
/-- A skew one of any numbers: it is one, or a number is too large. -/
theorem pz_made {n : Nat} {f : Nat → Nat → Int} (h0 : 0 < n) (h6 : n ≤ 6) (hs : Zx.Skw f) : Pz n f (Mx.tab n n f) ∨ pfcd (Mx.tab n n f) = 1 := by
  rcases q6_code (f := f) h0 h6 with ⟨h1, h2⟩ | ⟨h1, _⟩
  · exact .inl ⟨rfl, h0, h6, h2, hs⟩
  · refine .inr ?_
    unfold pfcd
    rw [if_pos (by omega), h1]

set_option maxRecDepth 100000 in
set_option maxHeartbeats 800000 in
theorem PfRow_any (A : Option Addr) (l : List Int) (n d c : Nat) (w : World) (ha : Lies w A l) (hn : l.length = n) (hb : c ≤ 1000) :
    Calls Try.prog 20 #[.slice A n d, .int .i64 (c : Int)] w fun e w' => e = .returned (errOf (Mx.rcode (-9) 9 c l)) ∧ w = w' := by
  have HA := Lib.hid ha
  have HN := Lib.hid hn
  obtain ⟨v, hv⟩ : ∃ v, v = Mx.rcode (-9) 9 c l := ⟨_, rfl⟩
  by_cases hc : n = c
  · subst hc
    have RNG := Lib.hid (fun (k : Nat) (hk : k < n) h2 => hv.trans (Mx.rcode_bad hn (k := k) (by omega) h2))
    have OKS := Lib.hid (fun h2 => hv.trans (Mx.rcode_ok (lo := -9) (hi := 9) hn h2))
    rw [← hv]
    have e1 : ((n : Int) != (n : Int)) = false := by simp
    clear ha hn hv
    go_enter Try.func20, Try.ntmps20
    go_wp2_with fail
    go_loop [14] (fun i => ∃ k : Nat, k ≤ n ∧ i = .int .i64 (k : Int) ∧ ∀ j, j < k → -9 ≤ l.getD j 0 ∧ l.getD j 0 ≤ 9) (fun i => n - (intOf i).toNat)
    case atStart => exact ⟨0, Nat.zero_le _, rfl, fun j hj => absurd hj (by omega)⟩
    case round =>
      obtain ⟨k, hk, rfl, hg⟩ := hrel
      have HG := Lib.hid hg
      clear hg
      by_cases hlt : k < n
      · obtain ⟨ad, rfl, _, hcx⟩ := HA.out k (by have := HN.out; omega)
        obtain ⟨x, hx⟩ : ∃ x, x = l.getD k 0 := ⟨_, rfl⟩
        rw [← hx] at hcx
        by_cases x0 : x < -9
        · have E := Lib.hid (RNG.out k hlt (by rw [← hx]; omega))
          clear hx
          go_wp2_with fail
          go_ret
          exact ⟨by rw [E.out]; rfl, rfl⟩
        · by_cases x1 : 9 < x
          · have E := Lib.hid (RNG.out k hlt (by rw [← hx]; omega))
            clear hx
            go_wp2_with fail
            go_ret
            exact ⟨by rw [E.out]; rfl, rfl⟩
          · have GG := Lib.hid (show ∀ j, j < k + 1 → -9 ≤ l.getD j 0 ∧ l.getD j 0 ≤ 9 from fun j hj => by
              by_cases e : j = k
              · subst e; rw [← hx]; omega
              · exact HG.out j (by omega))
            clear hx
            go_wp2_with fail
            go_round
            case rel => exact ⟨k + 1, by omega, by go_num, GG.out⟩
            case measure => simp [intOf]; omega
      · have E := Lib.hid (OKS.out (fun j hj => HG.out j (by have := HN.out; omega)))
        go_wp2_with fail
        go_ret
        exact ⟨by rw [E.out]; rfl, rfl⟩
  · have E := Lib.hid (hv.trans (Mx.rcode_len (lo := -9) (hi := 9) (by omega : l.length ≠ c)))
    rw [← hv]
    have e1 : ((n : Int) != (c : Int)) = true := by rw [bne_iff_ne]; omega
    clear ha hn hv hc
    go_enter Try.func20, Try.ntmps20
    go_wp2_with fail
    go_ret
    exact ⟨by rw [E.out]; rfl, rfl⟩

set_option maxRecDepth 100000 in
set_option maxHeartbeats 1600000 in
theorem PfSkw_any (A : Option Addr) (x : Nat → Nat → Int) (n d : Nat) (w : World) (ha : LiesM w A (Mx.tab n n x)) (h6 : n ≤ 6) (hab : ∀ i j, i < n → j < n → -9 ≤ x i j ∧ x i j ≤ 9) :
    Calls Try.prog 21 #[.slice A n d] w fun e w' => e = .returned (.bool (decide (Skp (Mx.tab n n x)))) ∧ w = w' := by
  obtain ⟨b, hb⟩ : ∃ b, b = decide (Skp (Mx.tab n n x)) := ⟨_, rfl⟩
  have YES := Lib.hid (fun (h : ∀ i j, i < n → j < n → x i j = -(x j i)) => show b = true by rw [hb, decide_eq_true_eq]; exact skp_tab.2 h)
  have NO := Lib.hid (fun (i j : Nat) (hi : i < n) (hj : j < n) (h : x i j ≠ -(x j i)) => show b = false by rw [hb, decide_eq_false_iff_not]; exact fun e => h (skp_tab.1 e i j hi hj))
  rw [← hb]
  have HA := Lib.hid ha
  have AB := Lib.hid hab
  clear ha hab hb
  go_enter Try.func21, Try.ntmps21
  go_wp2_with fail
  go_loop [9] (fun i => ∃ k : Nat, k ≤ n ∧ i = .int .i64 (k : Int) ∧ ∀ i j, i < k → j < n → x i j = -(x j i)) (fun i => n - (intOf i).toNat)
  case atStart => exact ⟨0, Nat.zero_le _, rfl, fun i j hi _ => absurd hi (by omega)⟩
  case round =>
    obtain ⟨i, hi, rfl, hg⟩ := hrel
    have HG := Lib.hid hg
    clear hg
    by_cases hlt : i < n
    · obtain ⟨ad, A1, c1, rfl, _, hc1, _, hr1⟩ := HA.out.row hlt
      have HR1 := Lib.hid hr1
      clear hr1
      go_wp2_with fail
      go_loop [16] (fun j => ∃ k : Nat, k ≤ n ∧ j = .int .i64 (k : Int) ∧ ∀ j, j < k → x i j = -(x j i)) (fun j => n - (intOf j).toNat)
      case atStart => exact ⟨0, Nat.zero_le _, rfl, fun j hj => absurd hj (by omega)⟩
      case round =>
        obtain ⟨j, hj, rfl, hh⟩ := hrel
        have HH := Lib.hid hh
        clear hh
        by_cases hjt : j < n
        · obtain ⟨a1, rfl, _, y1⟩ := HR1.out.el hjt
          obtain ⟨ad', A2, c2, ea, _, hc2, _, hr2⟩ := HA.out.row hjt
          obtain rfl := Option.some.inj ea
          obtain ⟨a2, rfl, _, y2⟩ := hr2.el hlt
          have b1 := AB.out i j hlt hjt
          have b2 := AB.out j i hjt hlt
          by_cases e : x i j = -(x j i)
          · have ST := Lib.hid (show ∀ j', j' < j + 1 → x i j' = -(x j' i) from fun j' hj' => by
              by_cases e' : j' = j
              · rw [e']; exact e
              · exact HH.out j' (by omega))
            generalize x i j = p at *
            generalize x j i = q at *
            have hw : IntKind.i64.wrap (-q) = -q := IntWalk.i64_in _ (by omega)
            have e1 : (p != -q) = false := by rw [bne_eq_false_iff_eq]; exact e
            clear e hr2
            go_wp2_with fail
            go_round
            case rel => exact ⟨j + 1, by omega, by go_num, ST.out⟩
            case measure => simp [intOf]; omega
          · have E := Lib.hid (NO.out i j hlt hjt e)
            generalize x i j = p at *
            generalize x j i = q at *
            have hw : IntKind.i64.wrap (-q) = -q := IntWalk.i64_in _ (by omega)
            have e1 : (p != -q) = true := by rw [bne_iff_ne]; exact e
            clear e hr2
            go_wp2_with fail
            go_ret
            exact ⟨by rw [E.out]; rfl, rfl⟩
        · have ST := Lib.hid (show ∀ i' j, i' < i + 1 → j < n → x i' j = -(x j i') from fun i' j' h1 h2 => by
            by_cases e' : i' = i
            · rw [e']; exact HH.out j' (by omega)
            · exact HG.out i' j' (by omega) h2)
          go_wp2_with fail
          go_round
          case rel => exact ⟨i + 1, by omega, by go_num, ST.out⟩
          case measure => simp [intOf]; omega
    · have E := Lib.hid (YES.out (fun a b h1 h2 => HG.out a b (by omega) h2))
      go_wp2_with fail
      go_ret
      exact ⟨by rw [E.out]; rfl, rfl⟩
set_option maxRecDepth 100000 in
set_option maxHeartbeats 1600000 in
theorem PfChk_main (A : Option Addr) (m : List (List Int)) (n d q : Nat) (w : World) (ha : LiesM w A m) (hn : m.length = n) (hq : (m.getD 0 []).length = q) (h1 : 0 < n) (h2 : n ≤ 6) (h3 : 0 < q) (h4 : q ≤ 6) :
    Calls Try.prog 14 #[.slice A n d] w fun e w' => e = .returned (errOf (pfcd m)) ∧ w = w' := by
  have hm : Mx.mcode 6 (-9) 9 m = Mx.rows (-9) 9 (m.getD 0 []).length m := by
    unfold Mx.mcode
    rw [if_neg (by omega), if_neg (by omega)]
  obtain ⟨v, hv⟩ : ∃ v, v = Mx.rows (-9) 9 (m.getD 0 []).length m := ⟨_, rfl⟩
  have QV := Lib.hid (show qcode 6 (-9) 9 m = if v = 0 ∧ n ≠ q then 3 else v by unfold qcode; rw [hm, ← hv, hn, hq])
  obtain ⟨qv, hqv⟩ : ∃ qv, qv = qcode 6 (-9) 9 m := ⟨_, rfl⟩
  have PV := Lib.hid (show pfcd m = if qv ≠ 0 then qv else if Skp m then 0 else 6 by unfold pfcd; rw [hqv])
  have SK := Lib.hid (fun (h : qv = 0) => (show Calls Try.prog 21 #[.slice A n d] w fun e w' => e = .returned (.bool (decide (Skp m))) ∧ w = w' from by
    obtain ⟨t1, t2, t3, t4⟩ := q6_tab hn (hqv ▸ h)
    have := PfSkw_any A (fun i j => (m.getD i []).getD j 0) n d w (t1 ▸ ha) t3 t4
    rwa [← t1] at this))
  rw [← hqv] at QV
  obtain ⟨pv, hpv⟩ : ∃ pv, pv = pfcd m := ⟨_, rfl⟩
  obtain ⟨sb, hsb⟩ : ∃ sb, sb = decide (Skp m) := ⟨_, rfl⟩
  rw [← hpv] at PV ⊢
  rw [← hsb] at SK
  have PB := Lib.hid (show qv = 0 → pv = if sb then 0 else 6 from fun h => by rw [PV.out, if_neg (by omega), hsb]; simp)
  have PN := Lib.hid (show qv ≠ 0 → pv = qv from fun h => by rw [PV.out, if_pos h])
  have hg0 : rowsZ (-9) 9 m 0 := by unfold rowsZ; rw [List.drop_zero]
  have RNG := Lib.hid (fun (k : Nat) (hk : k < n) (hg : rowsZ (-9) 9 m k) (h0 : Mx.rcode (-9) 9 q (m.getD k []) ≠ 0) => show v = Mx.rcode (-9) 9 q (m.getD k []) by
    unfold rowsZ at hg
    rw [hv, hg, Mx.rows_drop (by omega), hq, if_neg h0])
  have OKS := Lib.hid (fun (hg : rowsZ (-9) 9 m n) => show v = 0 by
    unfold rowsZ at hg
    rw [hv, hg, Mx.rows_end (by omega)])
  have STP := Lib.hid (fun (k : Nat) (hk : k < n) (hg : rowsZ (-9) 9 m k) (h0 : Mx.rcode (-9) 9 q (m.getD k []) = 0) => rowsZ_go (by omega) hg (by rw [hq]; exact h0))
  obtain ⟨ad, A0, d0, rfl, _, hc0, _, hr0⟩ := ha 0 (by omega)
  rw [hq] at hc0
  rw [add_zero'] at hc0
  have HA := Lib.hid ha
  have HN := Lib.hid hn
  have G0 := Lib.hid hg0
  have e0 : ((n : Int) == 0) = false := by rw [beq_eq_false_iff_ne]; omega
  have e1 : ((q : Int) == 0) = false := by rw [beq_eq_false_iff_ne]; omega
  have e2 : ¬ (6 : Int) < n := by omega
  have e3 : ¬ (6 : Int) < q := by omega
  clear ha hn hg0 hm hv hq hr0 hqv hpv hsb PV
  go_enter Try.func14, Try.ntmps14
  go_wp2_with fail
  go_loop [30] (fun i => ∃ k : Nat, k ≤ n ∧ i = .int .i64 (k : Int) ∧ rowsZ (-9) 9 m k) (fun i => n - (intOf i).toNat)
  case atStart => exact ⟨0, Nat.zero_le _, rfl, G0.out⟩
  case round =>
    obtain ⟨k, hk, rfl, hg⟩ := hrel
    have HG := Lib.hid hg
    clear hg
    by_cases hlt : k < n
    · obtain ⟨ad', A1, d1, ea, _, hc1, _, hr1⟩ := HA.out k (by have := HN.out; omega)
      obtain rfl := Option.some.inj ea
      have CR := Lib.hid (PfRow_any A1 (m.getD k []) _ d1 q w hr1 rfl (by omega))
      obtain ⟨p, hp⟩ : ∃ p, p = (m.getD k []).length := ⟨_, rfl⟩
      rw [← hp] at hc1 CR
      by_cases h0 : Mx.rcode (-9) 9 q (m.getD k []) = 0
      · have ST := Lib.hid (STP.out k hlt HG.out h0)
        rw [h0] at CR
        clear hr1 hp h0
        go_wp2_with fail
        refine (CR.out).mono ?_; rintro e w' ⟨rfl, rfl⟩
        rw [errOf_zero]
        go_wp2_with fail
        go_round
        case rel => exact ⟨k + 1, by omega, by go_num, ST.out⟩
        case measure => simp [intOf]; omega
      · have E := Lib.hid (RNG.out k hlt HG.out h0)
        rw [errOf_ne _ h0] at CR
        have E2 := Lib.hid (show errOf pv = .iface 44 (.int .i64 ((Mx.rcode (-9) 9 q (m.getD k []) : Nat) : Int)) by rw [PN.out (by rw [QV.out, if_neg (fun h => h0 (E.out.symm.trans h.1)), E.out]; exact h0), QV.out, if_neg (fun h => h0 (E.out.symm.trans h.1)), E.out, errOf_ne _ h0])
        generalize Mx.rcode (-9) 9 q (m.getD k []) = z at *
        clear hr1 hp h0
        go_wp2_with fail
        refine (CR.out).mono ?_; rintro e w' ⟨rfl, rfl⟩
        go_wp2_with fail
        go_ret
        exact ⟨by rw [E2.out]; rfl, rfl⟩
    · have E := Lib.hid (OKS.out (by have h : k = n := by omega
                                     rw [← h]; exact HG.out))
      by_cases hq : n = q
      · subst hq
        have e4 : ((n : Int) != (n : Int)) = false := by simp
        have Q0 : qv = 0 := by rw [QV.out, E.out, if_neg (fun h => h.2 rfl)]
        have P0 := Lib.hid (PB.out Q0)
        have SK0 := Lib.hid (SK.out Q0)
        clear Q0
        cases sb with
        | true =>
          go_wp2_with fail
          refine (SK0.out).mono ?_; rintro e w' ⟨rfl, rfl⟩
          go_wp2_with fail
          go_ret
          exact ⟨by rw [P0.out]; rfl, rfl⟩
        | false =>
          go_wp2_with fail
          refine (SK0.out).mono ?_; rintro e w' ⟨rfl, rfl⟩
          go_wp2_with fail
          go_ret
          exact ⟨by rw [P0.out]; rfl, rfl⟩
      · have e4 : ((n : Int) != (q : Int)) = true := by rw [bne_iff_ne]; omega
        have E3 := Lib.hid (show pv = 3 by rw [PN.out (by rw [QV.out, if_pos ⟨E.out, hq⟩]; decide), QV.out, if_pos ⟨E.out, hq⟩])
        clear hq
        go_wp2_with fail
        go_ret
        exact ⟨by rw [E3.out]; rfl, rfl⟩

set_option maxHeartbeats 800000 in
theorem PfChk_any (A : Option Addr) (m : List (List Int)) (n d : Nat) (w : World) (ha : LiesM w A m) (hn : m.length = n) :
    Calls Try.prog 14 #[.slice A n d] w fun e w' => e = .returned (errOf (pfcd m)) ∧ w = w' := by
  by_cases h1 : n = 0
  · have hm : pfcd m = 5 := by rw [pfcd_is (by rw [qcode_is (c := 5) (by unfold Mx.mcode; rw [if_pos (by omega)]) (by omega)]) (by omega)]
    rw [hm]
    subst h1
    clear hm ha hn
    go_enter Try.func14, Try.ntmps14
    go_wp2
    go_ret
    exact ⟨rfl, rfl⟩
  obtain ⟨ad, A0, d0, rfl, _, hc0, _, hr0⟩ := ha 0 (by omega)
  rw [add_zero'] at hc0
  obtain ⟨q, hq⟩ : ∃ q, q = (m.getD 0 []).length := ⟨_, rfl⟩
  rw [← hq] at hc0
  have e0 : ((n : Int) == 0) = false := by rw [beq_eq_false_iff_ne]; omega
  have hn0 : (0 : Int) < n := by omega
  by_cases h2 : q = 0
  · have hm : pfcd m = 5 := by rw [pfcd_is (by rw [qcode_is (c := 5) (by unfold Mx.mcode; rw [if_pos (by omega)]) (by omega)]) (by omega)]
    rw [hm]
    subst h2
    clear hm ha hn hr0 h1 hq
    go_enter Try.func14, Try.ntmps14
    go_wp2
    go_ret
    exact ⟨rfl, rfl⟩
  have e1 : ((q : Int) == 0) = false := by rw [beq_eq_false_iff_ne]; omega
  by_cases h3 : 6 < n
  · have hm : pfcd m = 4 := by rw [pfcd_is (by rw [qcode_is (c := 4) (by unfold Mx.mcode; rw [if_neg (by omega), if_pos (by omega)]) (by omega)]) (by omega)]
    rw [hm]
    have e3 : (6 : Int) < n := by omega
    clear hm ha hn hr0 h1 hq h2 h3
    go_enter Try.func14, Try.ntmps14
    go_wp2
    go_ret
    exact ⟨rfl, rfl⟩
  by_cases h4 : 6 < q
  · have hm : pfcd m = 4 := by rw [pfcd_is (by rw [qcode_is (c := 4) (by unfold Mx.mcode; rw [if_neg (by omega), if_pos (by omega)]) (by omega)]) (by omega)]
    rw [hm]
    have e3 : ¬ (6 : Int) < n := by omega
    have e4 : (6 : Int) < q := by omega
    clear hm ha hn hr0 h1 hq h2 h3 h4
    go_enter Try.func14, Try.ntmps14
    go_wp2
    go_ret
    exact ⟨rfl, rfl⟩
  exact PfChk_main (some ad) m n d q w ha hn hq.symm (by omega) (by omega) (by omega) (by omega)
end Go.Proofs.Ytkebjmapdcbnaaa
