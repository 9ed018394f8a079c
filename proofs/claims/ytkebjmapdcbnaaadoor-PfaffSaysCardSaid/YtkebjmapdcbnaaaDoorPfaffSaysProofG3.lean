/- Several texts, one behind the other: PfC1, Rnd, Low, CatS, OwnM, PfD, DeM, Nz, PfM, PfC2, Clone, OwnH, DeC1, KeN, PfC3, PfLawB, MxRef, MxRef2, MxRef3, MxRef4, PfRf1, Idx, SgnRef, PfRf2, ZRef. -/
import Derived.Test.YtkebjmapdcbnaaaDoorPfaffSaysProofG2
import Derived.RangeFuncNested
import Derived.RangeFuncBound
import Derived.RangeFuncCalls
import Derived.RangeFuncLeaves
import Derived.Shelf.Abstract
import Derived.WalkKit
import Derived.OwnWalkIn
import Derived.TacticsInMore
import Derived.LoopNIn
import Derived.LoopIn
import Derived.OrdersIn
import Derived.StillTailTactics
import Derived.Test.YtkebjmapdcbnaaaDoorPfaffSaysProofG1
import Derived.Lib.AppendZerosOnto
import Derived.RangeFuncWrites
import Derived.Maps.AppendAt
import Derived.Shelf.RegionOpen
import Derived.Deep.RegionHeld3
import Derived.Deep.RegionLaw
import Derived.Deep.LoopGhost
import Derived.BigQuiet
import Derived.Deep.Cut
import Derived.Deep.CutRange
import Derived.Deep.DeepCutAuto
import Derived.Deep.QuietTactic

/- Contracts of package pfaff, first part: checkRow, isSkew, Check; what is wrong with a matrix that should be skew. -/
namespace Go.Proofs.YtkebjmapdcbnaaaDoor
open Go.ChangeShapes Go.WideShapes Go.ChangeAt Go.RowKit
set_option linter.unusedVariables false

/-- Each number is the one turned about, below 0. -/
def Skp (m : List (List Int)) : Prop := ∀ i, i < m.length → ∀ j, j < m.length → (m.getD i []).getD j 0 = -((m.getD j []).getD i 0)
instance (m : List (List Int)) : Decidable (Skp m) := by unfold Skp; infer_instance
/-- What is wrong with a matrix that should be skew. -/
def pfcd (m : List (List Int)) : Nat := if qcode 6 (-9) 9 m ≠ 0 then qcode 6 (-9) 9 m else if Skp m then 0 else 6
theorem pfcd_le (m : List (List Int)) : pfcd m ≤ 6 := by
  unfold pfcd
  have := qcode_le 6 (-9) 9 m
  split
  · omega
  · split <;> omega
theorem pfcd_is {m : List (List Int)} {c : Nat} (h : qcode 6 (-9) 9 m = c) (hc : c ≠ 0) : pfcd m = c := by
  unfold pfcd
  rw [if_pos (by omega), h]
/-- A skew matrix of small whole numbers. -/
structure Pz (n : Nat) (x : Nat → Nat → Int) (m : List (List Int)) : Prop where
  eq : m = Mx.tab n n x
  n0 : 0 < n
  n6 : n ≤ 6
  ab : ∀ i j, i < n → j < n → -9 ≤ x i j ∧ x i j ≤ 9
  skw : Zx.Skw x
theorem Pz.len {n : Nat} {x : Nat → Nat → Int} {m : List (List Int)} (h : Pz n x m) : m.length = n := by rw [h.eq, Mx.len_tab]
/-- A square matrix of small whole numbers. -/
theorem q6_tab {m : List (List Int)} {n : Nat} (hn : m.length = n) (h : qcode 6 (-9) 9 m = 0) :
    m = Mx.tab n n (fun i j => (m.getD i []).getD j 0) ∧ 0 < n ∧ n ≤ 6 ∧ (∀ i j, i < n → j < n → -9 ≤ (m.getD i []).getD j 0 ∧ (m.getD i []).getD j 0 ≤ 9) := by
  have hm : Mx.mcode 6 (-9) 9 m = 0 ∧ m.length = (m.getD 0 []).length := by
    unfold qcode at h
    by_cases h0 : Mx.mcode 6 (-9) 9 m = 0 ∧ m.length ≠ (m.getD 0 []).length
    · rw [if_pos h0] at h; cases h
    · rw [if_neg h0] at h
      exact ⟨h, Classical.byContradiction fun e => h0 ⟨h, e⟩⟩
  obtain ⟨h1, h2⟩ := hm
  unfold Mx.mcode at h1
  by_cases c1 : m.length = 0 ∨ (m.getD 0 []).length = 0
  · rw [if_pos c1] at h1; cases h1
  rw [if_neg c1] at h1
  by_cases c2 : 6 < m.length ∨ 6 < (m.getD 0 []).length
  · rw [if_pos c2] at h1; cases h1
  rw [if_neg c2] at h1
  have hr := Mx.rows_zero h1
  have hl : ∀ i, i < m.length → (m.getD i []).length = n := fun i hi => by rw [(Mx.rcode_zero (hr i hi)).1, ← h2, hn]
  refine ⟨?_, by omega, by omega, fun i j hi hj => (Mx.rcode_zero (hr i (by omega))).2 j (by rw [hl i (by omega)]; exact hj)⟩
  have := Mx.is_tab hl
  rw [hn] at this
  exact this
/-- A square matrix is one, or there is a number that is too large: then it is 1. -/
theorem q6_code {n : Nat} {f : Nat → Nat → Int} (h0 : 0 < n) (h6 : n ≤ 6) :
    (qcode 6 (-9) 9 (Mx.tab n n f) = 0 ∧ ∀ i j, i < n → j < n → -9 ≤ f i j ∧ f i j ≤ 9) ∨ (qcode 6 (-9) 9 (Mx.tab n n f) = 1 ∧ ¬ ∀ i j, i < n → j < n → -9 ≤ f i j ∧ f i j ≤ 9) := by
  have e0 : ((Mx.tab n n f).getD 0 []).length = n := Mx.tab_len n n f 0 h0
  have hm : Mx.mcode 6 (-9) 9 (Mx.tab n n f) = Mx.rows (-9) 9 n (Mx.tab n n f) := by
    unfold Mx.mcode
    rw [Mx.len_tab, e0, if_neg (by omega), if_neg (by omega)]
  have hq : qcode 6 (-9) 9 (Mx.tab n n f) = Mx.rows (-9) 9 n (Mx.tab n n f) := by
    unfold qcode
    rw [if_neg (fun h => h.2 (by rw [Mx.len_tab, e0])), hm]
  rw [hq]
  by_cases h : ∀ i j, i < n → j < n → -9 ≤ f i j ∧ f i j ≤ 9
  · refine .inl ⟨Mx.rows_ok fun i hi => ?_, h⟩
    rw [Mx.len_tab] at hi
    refine Mx.rcode_ok (Mx.tab_len n n f i hi) fun k hk => ?_
    rw [Mx.tab_len n n f i hi] at hk
    rw [Mx.tab_el n n f i k hi hk]
    exact h i k hi hk
  · refine .inr ⟨?_, h⟩
    have hl : ∀ l, l ∈ Mx.tab n n f → l.length = n := fun l hl => by
      obtain ⟨i, _, rfl⟩ := List.mem_map.1 hl
      exact Mx.len_row _ _
    have hne : Mx.rows (-9) 9 n (Mx.tab n n f) ≠ 0 := fun e => h fun i j hi hj => by
      have := (Mx.rcode_zero (Mx.rows_zero e i (by rw [Mx.len_tab]; exact hi))).2 j (by rw [Mx.tab_len n n f i hi]; exact hj)
      rwa [Mx.tab_el n n f i j hi hj] at this
    revert hl hne
    generalize Mx.tab n n f = M
    intro hl hne
    induction M with
    | nil => exact absurd rfl hne
    | cons l t ih =>
      have e : Mx.rows (-9) 9 n (l :: t) = if Mx.rcode (-9) 9 n l = 0 then Mx.rows (-9) 9 n t else Mx.rcode (-9) 9 n l := rfl
      rw [e] at hne ⊢
      by_cases e0 : Mx.rcode (-9) 9 n l = 0
      · rw [if_pos e0] at hne ⊢
        exact ih (fun k hk => hl k (List.mem_cons_of_mem _ hk)) hne
      · rw [if_neg e0] at hne ⊢
        have := hl l (List.mem_cons_self ..)
        unfold Mx.rcode at e0 ⊢
        rw [if_neg (by omega)] at e0 ⊢
        split at e0
        · exact absurd rfl e0
        · rename_i h5; rw [if_neg h5]
theorem skp_tab {n : Nat} {f : Nat → Nat → Int} : Skp (Mx.tab n n f) ↔ ∀ i j, i < n → j < n → f i j = -(f j i) := by
  unfold Skp
  rw [Mx.len_tab]
  constructor
  · intro h i j hi hj
    have := h i hi j hj
    rwa [Mx.tab_el n n f i j hi hj, Mx.tab_el n n f j i hj hi] at this
  · intro h i hi j hj
    rw [Mx.tab_el n n f i j hi hj, Mx.tab_el n n f j i hj hi]
    exact h i j hi hj
theorem pz_get {m : List (List Int)} {n : Nat} (hn : m.length = n) (h : qcode 6 (-9) 9 m = 0) (hs : Skp m) : Pz n (fun i j => (m.getD i []).getD j 0) m := by
  obtain ⟨h1, h2, h3, h4⟩ := q6_tab hn h
  refine ⟨h1, h2, h3, h4, fun i j => ?_⟩
  by_cases hi : i < n
  · by_cases hj : j < n
    · exact hs i (by omega) j (by omega)
    · have e1 : (m.getD i []).length = n := by rw [h1]; exact Mx.tab_len n n _ i hi
      have e2 : m.getD j [] = [] := by rw [List.getD_eq_getElem?_getD, List.getElem?_eq_none (by omega)]; rfl
      show (m.getD i []).getD j 0 = -((m.getD j []).getD i 0)
      rw [e2, List.getD_eq_getElem?_getD, List.getElem?_eq_none (by omega)]; rfl
  · have e2 : m.getD i [] = [] := by rw [List.getD_eq_getElem?_getD, List.getElem?_eq_none (by omega)]; rfl
    show (m.getD i []).getD j 0 = -((m.getD j []).getD i 0)
    rw [e2]
    by_cases hj : j < n
    · have e1 : (m.getD j []).length = n := by rw [h1]; exact Mx.tab_len n n _ j hj
      rw [List.getD_eq_getElem?_getD (l := m.getD j []), List.getElem?_eq_none (by omega)]; rfl
    · have e3 : m.getD j [] = [] := by rw [List.getD_eq_getElem?_getD, List.getElem?_eq_none (by omega)]; rfl
      rw [e3]; rfl
theorem pz_or (m : List (List Int)) {n : Nat} (hn : m.length = n) : (∃ x, Pz n x m) ∨ pfcd m ≠ 0 := by
  by_cases h : qcode 6 (-9) 9 m = 0
  · by_cases hs : Skp m
    · exact .inl ⟨_, pz_get hn h hs⟩
    · refine .inr ?_
      unfold pfcd
      rw [if_neg (by omega), if_neg hs]
      decide
  · refine .inr ?_
    unfold pfcd
    rw [if_pos h]; exact h
theorem Pz.code {n : Nat} {x : Nat → Nat → Int} {m : List (List Int)} (h : Pz n x m) : pfcd m = 0 := by
  obtain ⟨rfl, h0, h6, hab, hs⟩ := h
  unfold pfcd
  rcases q6_code (f := x) h0 h6 with ⟨h1, _⟩ | ⟨_, h1⟩
  · rw [if_neg (by omega), if_pos (skp_tab.2 fun i j _ _ => hs i j)]
  · exact absurd hab h1
/-- A skew one of any numbers: it is one, or a number is too large. -/
theorem pz_made {n : Nat} {f : Nat → Nat → Int} (h0 : 0 < n) (h6 : n ≤ 6) (hs : Zx.Skw f) : Pz n f (Mx.tab n n f) ∨ pfcd (Mx.tab n n f) = 1 := by
  rcases q6_code (f := f) h0 h6 with ⟨h1, h2⟩ | ⟨h1, _⟩
  · exact .inl ⟨rfl, h0, h6, h2, hs⟩
  · refine .inr ?_
    unfold pfcd
    rw [if_pos (by omega), h1]

set_option maxRecDepth 100000 in
set_option maxHeartbeats 800000 in
theorem PfRow_any (A : Option Addr) (l : List Int) (n d c : Nat) (w : World) (ha : Lies w A l) (hn : l.length = n) (hb : c ≤ 1000) :
    Calls Tryd.prog 13 #[.slice A n d, .int .i64 (c : Int)] w fun e w' => e = .returned (errOf (Mx.rcode (-9) 9 c l)) ∧ w = w' := by
  have HA := Lib.hid ha
  have HN := Lib.hid hn
  obtain ⟨v, hv⟩ : ∃ v, v = Mx.rcode (-9) 9 c l := ⟨_, rfl⟩
  by_cases hc : n = c
  · subst hc
    have RNG := Lib.hid (fun (k : Nat) (hk : k < n) h2 => hv.trans (Mx.rcode_bad hn (k := k) (by omega) h2))
    have OKS := Lib.hid (fun h2 => hv.trans (Mx.rcode_ok (lo := -9) (hi := 9) hn h2))
    rw [← hv]
    have e1 : ((n : Int) != (n : Int)) = false := by simp
    clear ha hn hv
    go_enter Tryd.func13, Tryd.ntmps13
    go_wp2_with fail
    go_loop [14] (fun i => ∃ k : Nat, k ≤ n ∧ i = .int .i64 (k : Int) ∧ ∀ j, j < k → -9 ≤ l.getD j 0 ∧ l.getD j 0 ≤ 9) (fun i => n - (intOf i).toNat)
    case atStart => exact ⟨0, Nat.zero_le _, rfl, fun j hj => absurd hj (by omega)⟩
    case round =>
      obtain ⟨k, hk, rfl, hg⟩ := hrel
      have HG := Lib.hid hg
      clear hg
      by_cases hlt : k < n
      · obtain ⟨ad, rfl, _, hcx⟩ := HA.out k (by have := HN.out; omega)
        obtain ⟨x, hx⟩ : ∃ x, x = l.getD k 0 := ⟨_, rfl⟩
        rw [← hx] at hcx
        by_cases x0 : x < -9
        · have E := Lib.hid (RNG.out k hlt (by rw [← hx]; omega))
          clear hx
          go_wp2_with fail
          go_ret
          exact ⟨by rw [E.out]; rfl, rfl⟩
        · by_cases x1 : 9 < x
          · have E := Lib.hid (RNG.out k hlt (by rw [← hx]; omega))
            clear hx
            go_wp2_with fail
            go_ret
            exact ⟨by rw [E.out]; rfl, rfl⟩
          · have GG := Lib.hid (show ∀ j, j < k + 1 → -9 ≤ l.getD j 0 ∧ l.getD j 0 ≤ 9 from fun j hj => by
              by_cases e : j = k
              · subst e; rw [← hx]; omega
              · exact HG.out j (by omega))
            clear hx
            go_wp2_with fail
            go_round
            case rel => exact ⟨k + 1, by omega, by go_num, GG.out⟩
            case measure => simp [intOf]; omega
      · have E := Lib.hid (OKS.out (fun j hj => HG.out j (by have := HN.out; omega)))
        go_wp2_with fail
        go_ret
        exact ⟨by rw [E.out]; rfl, rfl⟩
  · have E := Lib.hid (hv.trans (Mx.rcode_len (lo := -9) (hi := 9) (by omega : l.length ≠ c)))
    rw [← hv]
    have e1 : ((n : Int) != (c : Int)) = true := by rw [bne_iff_ne]; omega
    clear ha hn hv hc
    go_enter Tryd.func13, Tryd.ntmps13
    go_wp2_with fail
    go_ret
    exact ⟨by rw [E.out]; rfl, rfl⟩

set_option maxRecDepth 100000 in
set_option maxHeartbeats 1600000 in
theorem PfSkw_any (A : Option Addr) (x : Nat → Nat → Int) (n d : Nat) (w : World) (ha : LiesM w A (Mx.tab n n x)) (h6 : n ≤ 6) (hab : ∀ i j, i < n → j < n → -9 ≤ x i j ∧ x i j ≤ 9) :
    Calls Tryd.prog 14 #[.slice A n d] w fun e w' => e = .returned (.bool (decide (Skp (Mx.tab n n x)))) ∧ w = w' := by
  obtain ⟨b, hb⟩ : ∃ b, b = decide (Skp (Mx.tab n n x)) := ⟨_, rfl⟩
  have YES := Lib.hid (fun (h : ∀ i j, i < n → j < n → x i j = -(x j i)) => show b = true by rw [hb, decide_eq_true_eq]; exact skp_tab.2 h)
  have NO := Lib.hid (fun (i j : Nat) (hi : i < n) (hj : j < n) (h : x i j ≠ -(x j i)) => show b = false by rw [hb, decide_eq_false_iff_not]; exact fun e => h (skp_tab.1 e i j hi hj))
  rw [← hb]
  have HA := Lib.hid ha
  have AB := Lib.hid hab
  clear ha hab hb
  go_enter Tryd.func14, Tryd.ntmps14
  go_wp2_with fail
  go_loop [9] (fun i => ∃ k : Nat, k ≤ n ∧ i = .int .i64 (k : Int) ∧ ∀ i j, i < k → j < n → x i j = -(x j i)) (fun i => n - (intOf i).toNat)
  case atStart => exact ⟨0, Nat.zero_le _, rfl, fun i j hi _ => absurd hi (by omega)⟩
  case round =>
    obtain ⟨i, hi, rfl, hg⟩ := hrel
    have HG := Lib.hid hg
    clear hg
    by_cases hlt : i < n
    · obtain ⟨ad, A1, c1, rfl, _, hc1, _, hr1⟩ := HA.out.row hlt
      have HR1 := Lib.hid hr1
      clear hr1
      go_wp2_with fail
      go_loop [16] (fun j => ∃ k : Nat, k ≤ n ∧ j = .int .i64 (k : Int) ∧ ∀ j, j < k → x i j = -(x j i)) (fun j => n - (intOf j).toNat)
      case atStart => exact ⟨0, Nat.zero_le _, rfl, fun j hj => absurd hj (by omega)⟩
      case round =>
        obtain ⟨j, hj, rfl, hh⟩ := hrel
        have HH := Lib.hid hh
        clear hh
        by_cases hjt : j < n
        · obtain ⟨a1, rfl, _, y1⟩ := HR1.out.el hjt
          obtain ⟨ad', A2, c2, ea, _, hc2, _, hr2⟩ := HA.out.row hjt
          obtain rfl := Option.some.inj ea
          obtain ⟨a2, rfl, _, y2⟩ := hr2.el hlt
          have b1 := AB.out i j hlt hjt
          have b2 := AB.out j i hjt hlt
          by_cases e : x i j = -(x j i)
          · have ST := Lib.hid (show ∀ j', j' < j + 1 → x i j' = -(x j' i) from fun j' hj' => by
              by_cases e' : j' = j
              · rw [e']; exact e
              · exact HH.out j' (by omega))
            generalize x i j = p at *
            generalize x j i = q at *
            have hw : IntKind.i64.wrap (-q) = -q := IntWalk.i64_in _ (by omega)
            have e1 : (p != -q) = false := by rw [bne_eq_false_iff_eq]; exact e
            clear e hr2
            go_wp2_with fail
            go_round
            case rel => exact ⟨j + 1, by omega, by go_num, ST.out⟩
            case measure => simp [intOf]; omega
          · have E := Lib.hid (NO.out i j hlt hjt e)
            generalize x i j = p at *
            generalize x j i = q at *
            have hw : IntKind.i64.wrap (-q) = -q := IntWalk.i64_in _ (by omega)
            have e1 : (p != -q) = true := by rw [bne_iff_ne]; exact e
            clear e hr2
            go_wp2_with fail
            go_ret
            exact ⟨by rw [E.out]; rfl, rfl⟩
        · have ST := Lib.hid (show ∀ i' j, i' < i + 1 → j < n → x i' j = -(x j i') from fun i' j' h1 h2 => by
            by_cases e' : i' = i
            · rw [e']; exact HH.out j' (by omega)
            · exact HG.out i' j' (by omega) h2)
          go_wp2_with fail
          go_round
          case rel => exact ⟨i + 1, by omega, by go_num, ST.out⟩
          case measure => simp [intOf]; omega
    · have E := Lib.hid (YES.out (fun a b h1 h2 => HG.out a b (by omega) h2))
      go_wp2_with fail
      go_ret
      exact ⟨by rw [E.out]; rfl, rfl⟩
set_option maxRecDepth 100000 in
set_option maxHeartbeats 1600000 in
theorem PfChk_main (A : Option Addr) (m : List (List Int)) (n d q : Nat) (w : World) (ha : LiesM w A m) (hn : m.length = n) (hq : (m.getD 0 []).length = q) (h1 : 0 < n) (h2 : n ≤ 6) (h3 : 0 < q) (h4 : q ≤ 6) :
    Calls Tryd.prog 6 #[.slice A n d] w fun e w' => e = .returned (errOf (pfcd m)) ∧ w = w' := by
  have hm : Mx.mcode 6 (-9) 9 m = Mx.rows (-9) 9 (m.getD 0 []).length m := by
    unfold Mx.mcode
    rw [if_neg (by omega), if_neg (by omega)]
  obtain ⟨v, hv⟩ : ∃ v, v = Mx.rows (-9) 9 (m.getD 0 []).length m := ⟨_, rfl⟩
  have QV := Lib.hid (show qcode 6 (-9) 9 m = if v = 0 ∧ n ≠ q then 3 else v by unfold qcode; rw [hm, ← hv, hn, hq])
  obtain ⟨qv, hqv⟩ : ∃ qv, qv = qcode 6 (-9) 9 m := ⟨_, rfl⟩
  have PV := Lib.hid (show pfcd m = if qv ≠ 0 then qv else if Skp m then 0 else 6 by unfold pfcd; rw [hqv])
  have SK := Lib.hid (fun (h : qv = 0) => (show Calls Tryd.prog 14 #[.slice A n d] w fun e w' => e = .returned (.bool (decide (Skp m))) ∧ w = w' from by
    obtain ⟨t1, t2, t3, t4⟩ := q6_tab hn (hqv ▸ h)
    have := PfSkw_any A (fun i j => (m.getD i []).getD j 0) n d w (t1 ▸ ha) t3 t4
    rwa [← t1] at this))
  rw [← hqv] at QV
  obtain ⟨pv, hpv⟩ : ∃ pv, pv = pfcd m := ⟨_, rfl⟩
  obtain ⟨sb, hsb⟩ : ∃ sb, sb = decide (Skp m) := ⟨_, rfl⟩
  rw [← hpv] at PV ⊢
  rw [← hsb] at SK
  have PB := Lib.hid (show qv = 0 → pv = if sb then 0 else 6 from fun h => by rw [PV.out, if_neg (by omega), hsb]; simp)
  have PN := Lib.hid (show qv ≠ 0 → pv = qv from fun h => by rw [PV.out, if_pos h])
  have hg0 : rowsZ (-9) 9 m 0 := by unfold rowsZ; rw [List.drop_zero]
  have RNG := Lib.hid (fun (k : Nat) (hk : k < n) (hg : rowsZ (-9) 9 m k) (h0 : Mx.rcode (-9) 9 q (m.getD k []) ≠ 0) => show v = Mx.rcode (-9) 9 q (m.getD k []) by
    unfold rowsZ at hg
    rw [hv, hg, Mx.rows_drop (by omega), hq, if_neg h0])
  have OKS := Lib.hid (fun (hg : rowsZ (-9) 9 m n) => show v = 0 by
    unfold rowsZ at hg
    rw [hv, hg, Mx.rows_end (by omega)])
  have STP := Lib.hid (fun (k : Nat) (hk : k < n) (hg : rowsZ (-9) 9 m k) (h0 : Mx.rcode (-9) 9 q (m.getD k []) = 0) => rowsZ_go (by omega) hg (by rw [hq]; exact h0))
  obtain ⟨ad, A0, d0, rfl, _, hc0, _, hr0⟩ := ha 0 (by omega)
  rw [hq] at hc0
  rw [add_zero'] at hc0
  have HA := Lib.hid ha
  have HN := Lib.hid hn
  have G0 := Lib.hid hg0
  have e0 : ((n : Int) == 0) = false := by rw [beq_eq_false_iff_ne]; omega
  have e1 : ((q : Int) == 0) = false := by rw [beq_eq_false_iff_ne]; omega
  have e2 : ¬ (6 : Int) < n := by omega
  have e3 : ¬ (6 : Int) < q := by omega
  clear ha hn hg0 hm hv hq hr0 hqv hpv hsb PV
  go_enter Tryd.func6, Tryd.ntmps6
  go_wp2_with fail
  go_loop [30] (fun i => ∃ k : Nat, k ≤ n ∧ i = .int .i64 (k : Int) ∧ rowsZ (-9) 9 m k) (fun i => n - (intOf i).toNat)
  case atStart => exact ⟨0, Nat.zero_le _, rfl, G0.out⟩
  case round =>
    obtain ⟨k, hk, rfl, hg⟩ := hrel
    have HG := Lib.hid hg
    clear hg
    by_cases hlt : k < n
    · obtain ⟨ad', A1, d1, ea, _, hc1, _, hr1⟩ := HA.out k (by have := HN.out; omega)
      obtain rfl := Option.some.inj ea
      have CR := Lib.hid (PfRow_any A1 (m.getD k []) _ d1 q w hr1 rfl (by omega))
      obtain ⟨p, hp⟩ : ∃ p, p = (m.getD k []).length := ⟨_, rfl⟩
      rw [← hp] at hc1 CR
      by_cases h0 : Mx.rcode (-9) 9 q (m.getD k []) = 0
      · have ST := Lib.hid (STP.out k hlt HG.out h0)
        rw [h0] at CR
        clear hr1 hp h0
        go_wp2_with fail
        refine (CR.out).mono ?_; rintro e w' ⟨rfl, rfl⟩
        rw [errOf_zero]
        go_wp2_with fail
        go_round
        case rel => exact ⟨k + 1, by omega, by go_num, ST.out⟩
        case measure => simp [intOf]; omega
      · have E := Lib.hid (RNG.out k hlt HG.out h0)
        rw [errOf_ne _ h0] at CR
        have E2 := Lib.hid (show errOf pv = .iface 34 (.int .i64 ((Mx.rcode (-9) 9 q (m.getD k []) : Nat) : Int)) by rw [PN.out (by rw [QV.out, if_neg (fun h => h0 (E.out.symm.trans h.1)), E.out]; exact h0), QV.out, if_neg (fun h => h0 (E.out.symm.trans h.1)), E.out, errOf_ne _ h0])
        generalize Mx.rcode (-9) 9 q (m.getD k []) = z at *
        clear hr1 hp h0
        go_wp2_with fail
        refine (CR.out).mono ?_; rintro e w' ⟨rfl, rfl⟩
        go_wp2_with fail
        go_ret
        exact ⟨by rw [E2.out]; rfl, rfl⟩
    · have E := Lib.hid (OKS.out (by have h : k = n := by omega
                                     rw [← h]; exact HG.out))
      by_cases hq : n = q
      · subst hq
        have e4 : ((n : Int) != (n : Int)) = false := by simp
        have Q0 : qv = 0 := by rw [QV.out, E.out, if_neg (fun h => h.2 rfl)]
        have P0 := Lib.hid (PB.out Q0)
        have SK0 := Lib.hid (SK.out Q0)
        clear Q0
        cases sb with
        | true =>
          go_wp2_with fail
          refine (SK0.out).mono ?_; rintro e w' ⟨rfl, rfl⟩
          go_wp2_with fail
          go_ret
          exact ⟨by rw [P0.out]; rfl, rfl⟩
        | false =>
          go_wp2_with fail
          refine (SK0.out).mono ?_; rintro e w' ⟨rfl, rfl⟩
          go_wp2_with fail
          go_ret
          exact ⟨by rw [P0.out]; rfl, rfl⟩
      · have e4 : ((n : Int) != (q : Int)) = true := by rw [bne_iff_ne]; omega
        have E3 := Lib.hid (show pv = 3 by rw [PN.out (by rw [QV.out, if_pos ⟨E.out, hq⟩]; decide), QV.out, if_pos ⟨E.out, hq⟩])
        clear hq
        go_wp2_with fail
        go_ret
        exact ⟨by rw [E3.out]; rfl, rfl⟩

set_option maxHeartbeats 800000 in
theorem PfChk_any (A : Option Addr) (m : List (List Int)) (n d : Nat) (w : World) (ha : LiesM w A m) (hn : m.length = n) :
    Calls Tryd.prog 6 #[.slice A n d] w fun e w' => e = .returned (errOf (pfcd m)) ∧ w = w' := by
  by_cases h1 : n = 0
  · have hm : pfcd m = 5 := by rw [pfcd_is (by rw [qcode_is (c := 5) (by unfold Mx.mcode; rw [if_pos (by omega)]) (by omega)]) (by omega)]
    rw [hm]
    subst h1
    clear hm ha hn
    go_enter Tryd.func6, Tryd.ntmps6
    go_wp2
    go_ret
    exact ⟨rfl, rfl⟩
  obtain ⟨ad, A0, d0, rfl, _, hc0, _, hr0⟩ := ha 0 (by omega)
  rw [add_zero'] at hc0
  obtain ⟨q, hq⟩ : ∃ q, q = (m.getD 0 []).length := ⟨_, rfl⟩
  rw [← hq] at hc0
  have e0 : ((n : Int) == 0) = false := by rw [beq_eq_false_iff_ne]; omega
  have hn0 : (0 : Int) < n := by omega
  by_cases h2 : q = 0
  · have hm : pfcd m = 5 := by rw [pfcd_is (by rw [qcode_is (c := 5) (by unfold Mx.mcode; rw [if_pos (by omega)]) (by omega)]) (by omega)]
    rw [hm]
    subst h2
    clear hm ha hn hr0 h1 hq
    go_enter Tryd.func6, Tryd.ntmps6
    go_wp2
    go_ret
    exact ⟨rfl, rfl⟩
  have e1 : ((q : Int) == 0) = false := by rw [beq_eq_false_iff_ne]; omega
  by_cases h3 : 6 < n
  · have hm : pfcd m = 4 := by rw [pfcd_is (by rw [qcode_is (c := 4) (by unfold Mx.mcode; rw [if_neg (by omega), if_pos (by omega)]) (by omega)]) (by omega)]
    rw [hm]
    have e3 : (6 : Int) < n := by omega
    clear hm ha hn hr0 h1 hq h2 h3
    go_enter Tryd.func6, Tryd.ntmps6
    go_wp2
    go_ret
    exact ⟨rfl, rfl⟩
  by_cases h4 : 6 < q
  · have hm : pfcd m = 4 := by rw [pfcd_is (by rw [qcode_is (c := 4) (by unfold Mx.mcode; rw [if_neg (by omega), if_pos (by omega)]) (by omega)]) (by omega)]
    rw [hm]
    have e3 : ¬ (6 : Int) < n := by omega
    have e4 : (6 : Int) < q := by omega
    clear hm ha hn hr0 h1 hq h2 h3 h4
    go_enter Tryd.func6, Tryd.ntmps6
    go_wp2
    go_ret
    exact ⟨rfl, rfl⟩
  exact PfChk_main (some ad) m n d q w ha hn hq.symm (by omega) (by omega) (by omega) (by omega)
end Go.Proofs.YtkebjmapdcbnaaaDoor

/- The body of a range over a function: a region that draws its order and ends in one store; and the iterator 'places' of package mat. -/
namespace Go.Proofs.YtkebjmapdcbnaaaDoor
open Go.ChangeShapes Go.WideShapes Go.ChangeAt Go.RowKit Go.Shelf
set_option linter.unusedVariables false

/-- An operation that goes on, and nothing else. -/
def OnlyOn (Q : Exit → Act → World → Prop) : Exit → Act → World → Prop := fun e a w => e = .normal ∧ Q .normal a w

theorem oper_in {l n : Nat} {P : Program} {o : Oper} {a : Act} {w : World} {K K' : Act → World → Prop} {Q Q' : Exit → Act → World → Prop} (hd : ∀ c, o.op ≠ .defer c)
    (hK : ∀ a w, K a w → K' a w) (h : o.wp P a w K (OnlyOn Q)) : o.wpIn (Fence.wide.inRound l) n P a w K' Q' := by
  unfold Oper.wp at h
  unfold Oper.wpIn
  refine ⟨fun _ _ => trivial, ?_⟩
  rw [Oper.semAt_eq _ _ _ hd]
  generalize (execOp a.eval o).run P w = r at *
  cases r with
  | ok x w' =>
    cases x <;> simp only [Oper.upon, Oper.uponIn] at h ⊢
    case value => exact hK _ _ h
    case skip => exact hK _ _ h
    case defer => exact hK _ _ h
    case enter f args =>
      refine ⟨fun e => (by cases e), CallsIn.inRound l ((callsIn_wide (n := n - 1)).2 (h.mono fun e w2 he => ?_))⟩
      cases e with
      | returned v => exact hK _ _ he
      | panicked c => exact absurd he.1 (by simp)
      | outgrown => obtain ⟨_, _, h', _⟩ := he; cases h'
    case row s args =>
      refine ⟨fun e => (by cases e), fun c cs _ => ?_⟩
      obtain ⟨v, w2, h1, h2⟩ := h c cs
      exact ⟨v, w2, hK _ _ h1, stepsIn_wide.2 h2⟩
  | halt x w' =>
    cases x <;> simp only [Oper.upon, Oper.uponIn] at h ⊢
    exact absurd h.1 (by simp)

def noDefer (ops : List Oper) : Bool := ops.all fun o => match o.op with | .defer _ => false | _ => true
theorem noDefer_at {ops : List Oper} (h : noDefer ops = true) {i : Nat} {o : Oper} (hi : ops.toArray[i]? = some o) : ∀ c, o.op ≠ .defer c := fun c e => by
  have hm : o ∈ ops := by
    have : ops[i]? = some o := by simpa using hi
    exact List.mem_of_getElem? this
  have := List.all_eq_true.1 h o hm
  rw [e] at this
  cases this

theorem any_in {l n : Nat} {P : Program} {md : Region.Mode} {ops : List Oper} {Q : Exit → Act → World → Prop} (hd : noDefer ops = true) :
    ∀ (f : Nat) (listed : Array Bool) (a : Act) (w : World), wpAny P md ops.toArray (OnlyOn Q) f listed a w → wpAnyIn (Fence.wide.inRound l) n P md ops.toArray Q f listed a w
  | 0, _, _, _, h => ⟨h.1, h.2.2⟩
  | f + 1, listed, a, w, h => by
    refine ⟨fun h0 => (h.1 h0).2, fun i hi => ?_⟩
    have h2 := h.2 i hi
    unfold wpOp at h2
    unfold wpOpIn
    split
    · rename_i ho; simp only [ho] at h2; exact any_in hd f _ _ _ h2
    · rename_i o ho
      simp only [ho] at h2
      split
      · rename_i hw
        simp only [hw, if_true] at h2
        rcases h2 with h2 | ⟨_, _, _, h3, _⟩
        · exact oper_in (noDefer_at hd ho) (fun a w => any_in hd f _ a w) h2
        · cases h3
      · rename_i hw
        simp only [hw] at h2
        exact ⟨fun _ _ => trivial, any_in hd f _ _ _ h2⟩

/-- In a round: a region that draws its order and whose first k operations only read, the rest one behind the other. -/
theorem region_tail {l n : Nat} {P : Program} {id : Nat} {Q : Exit → Act → World → Prop} {a : Act} {w : World} {ops : List Oper} (k : Nat) (hm : P.follows .mixedOrders = true) (hd : noDefer ops = true)
    (hB : Region.lexTailB .any ops.toArray k = true) (h : wpStill P ops.toArray w.drew (fun a' => wpList P ops.toArray (OnlyOn Q) (ops.drop k) a' w.drew) (ops.take k) a) :
    (Code.region id ops.toArray true).wpIn (Fence.wide.inRound l) n P Q a w := by
  refine wpIn_region_any hm (any_in hd _ _ _ _ ?_)
  simp only [Region.lexTailB, Bool.and_eq_true, decide_eq_true_eq] at hB
  obtain ⟨⟨⟨⟨b1, b2⟩, b3⟩, b4⟩, b5⟩ := hB
  have hk : k < ops.length := by simpa using b2
  have ht : (ops.take k).length = k := by rw [List.length_take]; omega
  have he : (ops.drop k).length = ops.toArray.size - k := by simp
  have start : HeadInv .any ops.toArray k (Array.replicate ops.toArray.size false) :=
    { size := by simp
      closed := fun j oj _ hl => by rw [getD_replicate_false] at hl; cases hl
      tail := fun t _ hlt => getD_in (by simpa using hlt) (getD_replicate_false _ _) }
  have first := wpAnyL_lex (md := .any) (g := ops.toArray.size - k) b1 b3 b4 b2 (ops.take k) 0 _ a
    (fun j hj => by
      rw [ht] at hj
      simp [hj]) (by rw [ht, Nat.zero_add]) start (by rw [ht]; exact b5) h
  have all := wpAny_of_head (Q' := OnlyOn Q) (g := ops.toArray.size - k)
    (fun listed a' hL => by
      have s := wpAny_of_seq (md := .any) (Q' := OnlyOn Q) (ops.drop k) k listed a' w.drew (fun j => by simp [List.getElem?_drop]) (by rw [he]; exact hL.1) hL.2
      rw [he] at s
      exact s) _ _ _ first
  rw [ht, Nat.add_sub_cancel' (Nat.le_of_lt b2)] at all
  exact all

attribute [local go_sem] Oper.semAt_some

/-- Row and column of place k. -/
def rowOf (r c : Nat) (k : Nat) : Nat := k / c % r
def colOf (c : Nat) (k : Nat) : Nat := k % c
theorem rowOf_lt {r c : Nat} (k : Nat) (h : 0 < r) : rowOf r c k < r := Nat.mod_lt _ h
theorem colOf_lt {c : Nat} (k : Nat) (h : 0 < c) : colOf c k < c := Nat.mod_lt _ h
def placeOf (r c : Nat) (k : Nat) : Array Value := #[.int .i64 ((rowOf r c k : Nat) : Int), .int .i64 ((colOf c k : Nat) : Int)]
theorem placeOf_at {r c i j : Nat} (hi : i < r) (hj : j < c) : placeOf r c (i * c + j) = #[.int .i64 (i : Int), .int .i64 (j : Int)] := by
  have hc : 0 < c := by omega
  have e1 : rowOf r c (i * c + j) = i := by unfold rowOf; rw [Nat.mul_comm, Nat.mul_add_div hc, Nat.div_eq_of_lt hj, Nat.add_zero, Nat.mod_eq_of_lt hi]
  have e2 : colOf c (i * c + j) = j := by unfold colOf; rw [Nat.mul_comm, Nat.mul_add_mod, Nat.mod_eq_of_lt hj]
  unfold placeOf
  rw [e1, e2]


end Go.Proofs.YtkebjmapdcbnaaaDoor

/- A range over an iterator that writes memory of its own, by a body that always goes on: what both sides promise; the law for a loop in a function and for one within a round. For all packages; no program is named. -/
namespace Go.Proofs.YtkebjmapdcbnaaaDoor
open Go.RowKit
set_option linter.unusedVariables false

/-- All blocks but those of T lie as they lay. -/
structure Kept (T : Nat → Prop) (w w' : World) : Prop where
  os : w'.os = w.os
  tape : w'.tape = w.tape
  output : w'.output = w.output
  size : w.heap.size ≤ w'.heap.size
  block : ∀ k, k < w.heap.size → ¬ T k → w'.heap[k]? = w.heap[k]?
theorem Kept.rfl' (T : Nat → Prop) (w : World) : Kept T w w := ⟨rfl, rfl, rfl, Nat.le_refl _, fun _ _ _ => rfl⟩
theorem Kept.trans {T : Nat → Prop} {a b c : World} (h : Kept T a b) (k : Kept T b c) : Kept T a c :=
  ⟨k.os.trans h.os, k.tape.trans h.tape, k.output.trans h.output, Nat.le_trans h.size k.size, fun i hi ht => (k.block i (Nat.lt_of_lt_of_le hi h.size) ht).trans (h.block i hi ht)⟩
theorem Kept.mono {T U : Nat → Prop} {a b : World} (h : Kept T a b) (hT : ∀ k, T k → U k) : Kept U a b := ⟨h.os, h.tape, h.output, h.size, fun k hk hu => h.block k hk fun ht => hu (hT k ht)⟩
theorem Kept.of {T : Nat → Prop} {a b : World} (h : Kp a b) : Kept T a b := ⟨h.os, h.tape, h.output, h.size, fun k hk _ => h.block k hk⟩
theorem Kept.below {T : Nat → Prop} {a b : World} {B : Nat} (h : Kept T a b) (hT : ∀ k, k < B → ¬ T k) (hB : B ≤ a.heap.size) : Below B a b := ⟨h.os, h.tape, h.output, h.size, fun k hk => h.block k (Nat.lt_of_lt_of_le hk hB) (hT k hk)⟩
theorem Kept.next {T : Nat → Prop} {a b c : World} {B : Nat} (h : Kept T a b) (k : Below B b c) (hB : a.heap.size ≤ B) : Kept T a c :=
  ⟨k.os.trans h.os, k.tape.trans h.tape, k.output.trans h.output, Nat.le_trans h.size k.size, fun i hi ht => (k.block i (Nat.lt_of_lt_of_le hi hB)).trans (h.block i hi ht)⟩
theorem Kept.cell {T : Nat → Prop} {a b : World} (h : Kept T a b) {p : Addr} (hp : p.block < a.heap.size) (ht : ¬ T p.block) : b.cell? p = a.cell? p := World.cell?_of_block (w := a) (h.block p.block hp ht)
theorem Kept.frozen {T : Nat → Prop} {a b : World} (h : Kept T a b) {p : Addr} (hp : p.block < a.heap.size) (ht : ¬ T p.block) : b.frozen? p = a.frozen? p := World.frozen?_of_block (w := a) (h.block p.block hp ht)
theorem below_putObj {B : Nat} (W : World) (l : Nat) (o : Obj) (h : B ≤ l) : Below B W (W.putObj l o) := ⟨rfl, rfl, rfl, by simp, fun k hk => World.putObj_heap_other (by omega)⟩
theorem kept_putObj {T : Nat → Prop} (W : World) (l : Nat) (o : Obj) (h : T l) : Kept T W (W.putObj l o) := ⟨rfl, rfl, rfl, by simp, fun k hk ht => World.putObj_heap_other fun e => ht (e ▸ h)⟩

/-- What an iterator promises to a body that always goes on, and what it asks: the body turns blocks of T alone; what it knows of memory hangs on what lay when the iterator began. -/
def SeqLo {α : Type} (F : Fence) (n : Nat) (P : Program) (g : Nat) (lb : Array Value) (encs : α → Array Value) (Wt : α → World → Prop) (T : Nat → Prop) (S : List α → Prop) (N : Nat) (w0 : World) : Prop :=
  ∀ (l : Nat) (J : List α → World → Prop) (W : World), Kp w0 W → (∀ k, T k → k < W.heap.size) → (∀ s A B, J s A → Below W.heap.size A B → J s B) →
    (∀ pre x W1, J pre W1 → W.heap.size ≤ W1.heap.size → Wt x W1 → pre.length < N → YieldAt F (n - 1) P l (encs x) W1 fun e W' => e = .returned (.bool true) ∧ J (pre ++ [x]) W' ∧ Kept T W1 W') →
    J [] W → CallsIn F n P g (#[.func (.yield l) #[] #[]] ++ lb) W fun e W' => (∃ v, e = .returned v) ∧ ∃ xs, S xs ∧ J xs W'
theorem SeqLo.inRound {α : Type} {F : Fence} {n : Nat} {P : Program} {g : Nat} {lb : Array Value} {encs : α → Array Value} {Wt : α → World → Prop} {T : Nat → Prop} {S : List α → Prop} {N : Nat} {w0 : World} (l : Nat) (h : SeqLo F n P g lb encs Wt T S N w0) : SeqLo (F.inRound l) n P g lb encs Wt T S N w0 := h

/-- How a body is left: it goes on. -/
def lowPost {α : Type} (T : Nat → Prop) (I : List α → World → Prop) (pre : List α) (W : World) : Exit → Act → World → Prop
  | .normal, _, W' => Kept T W W' ∧ I pre W'
  | _, _, _ => False

section
variable {α : Type} {F : Fence} {n : Nat} {P : Program}
/-- What is known between two rounds: the body's own, and the loop's record. -/
def lowJ (I : List α → World → Prop) (s l : Nat) (W1 : World) (rec : Loop) (pre : List α) (W : World) : Prop :=
  I pre W ∧ W.heap[l]? = some (.loop rec) ∧ W1.heap.size ≤ W.heap.size ∧ ∀ k, s ≤ k → k < W1.heap.size → k ≠ l → W.heap[k]? = W1.heap[k]?
theorem lowJ_below {I : List α → World → Prop} {s l : Nat} {W1 : World} {rec : Loop} (hI : ∀ s' A B, I s' A → Below s A B → I s' B) (hl : l < W1.heap.size) (hs : s ≤ W1.heap.size) :
    ∀ s' A B, lowJ I s l W1 rec s' A → Below W1.heap.size A B → lowJ I s l W1 rec s' B := fun s' A B h k =>
  ⟨hI s' A B h.1 (k.mono hs), (k.block l hl).trans h.2.1, Nat.le_trans h.2.2.1 k.size, fun i h1 h2 h3 => (k.block i h2).trans (h.2.2.2 i h1 h2 h3)⟩
theorem low_round {ps : Array Tmp} {assign body : Code} {tmps : Array Value} {fn : FuncId} {defers : Nat} {encs : α → Array Value} {Wt : α → World → Prop} {T0 : Nat → Prop} {N : Nat} {I : List α → World → Prop} {s l : Nat} {W1 : World}
    (hfn : F.fn fn) (hs : s ≤ l) (hl : l < W1.heap.size) (hT : ∀ k, T0 k → k < s) (hps : ∀ x, (encs x).size = ps.size) (hI : ∀ s' A B, I s' A → Below s A B → I s' B)
    (Ax : α → Act → World → Prop) (hAx : ∀ x a' A r o, A.heap[l]? = some (.loop r) → Ax x a' A → Ax x a' (A.putObj l o))
    (hassign : ∀ pre x W (K : Act → World → Prop), l < W.heap.size → I pre W → Wt x W → (∀ a' W', Kp W W' → Ax x a' W' → K a' W') →
      assign.wpIn (F.inRound l) n P (Exit.then K (fun _ _ _ => False)) { tmps := (ps.zip (encs x)).foldl (fun t (p, v) => t.setIfInBounds p v) tmps, defers := [] } W)
    (hbody : ∀ pre x a' W, l < W.heap.size → (∃ r, W.heap[l]? = some (.loop r)) → I pre W → Ax x a' W → pre.length < N → body.wpIn (F.inRound l) n P (lowPost T0 I (pre ++ [x]) W) a' W)
    (pre : List α) (x : α) (W : World)
    (hJ : lowJ I s l W1 { state := .ready, pending := none, fn, tmps, params := ps, assign, body, defers } pre W) (hW : W1.heap.size ≤ W.heap.size) (hx : Wt x W) (hlen : pre.length < N) :
    YieldAt F n P l (encs x) W fun e W' => e = .returned (.bool true) ∧ lowJ I s l W1 { state := .ready, pending := none, fn, tmps, params := ps, assign, body, defers } (pre ++ [x]) W' ∧ Kept (fun k => T0 k ∨ k = l) W W' := by
  obtain ⟨rec, hrec⟩ : ∃ rec : LoopState → Loop, rec = fun st => { state := st, pending := none, fn, tmps, params := ps, assign, body, defers } := ⟨_, rfl⟩
  have hR : ({ state := .ready, pending := none, fn, tmps, params := ps, assign, body, defers } : Loop) = rec .ready := by rw [hrec]
  rw [hR] at hJ ⊢
  obtain ⟨hi, hl1, hsz, hsm⟩ := hJ
  have hy := run_yield (P := P) (args := encs x) hl1 (by rw [hrec]; exact hps x)
  rw [hrec] at hy
  refine ⟨fn, _, assign, body, hy, roundIn_of_wpIn hfn (hassign pre x W _ (by omega) hi hx ?_)⟩
  clear hy
  intro a' Wa hka hax
  have hla : Wa.heap[l]? = some (.loop (rec .ready)) := (hka.block l (by omega)).trans hl1
  have hlt : l < Wa.heap.size := (Array.getElem?_eq_some_iff.1 hla).1
  refine ⟨_, run_beginRound hla (by rw [hrec]), ?_⟩
  obtain ⟨W2, hW2⟩ : ∃ W2, W2 = Wa.putObj l (.loop { rec .ready with state := .busy }) := ⟨_, rfl⟩
  have hl2 : W2.heap[l]? = some (.loop { rec .ready with state := .busy }) := by rw [hW2]; exact World.putObj_heap_same hlt
  have ka2 : Kept (fun k => T0 k ∨ k = l) W W2 := by rw [hW2]; exact (Kept.of hka).trans (kept_putObj Wa l _ (.inr rfl))
  have hax2 : Ax x a' W2 := by rw [hW2]; exact hAx x a' Wa _ _ hla hax
  have hi2 : I pre W2 := by rw [hW2]; exact hI _ _ _ (hI _ _ _ hi (hka.mono (by omega))) (below_putObj Wa l _ hs)
  have hlt2 : l < W2.heap.size := (Array.getElem?_eq_some_iff.1 hl2).1
  rw [← hW2]
  clear hW2
  refine wpIn_mono (hbody pre x a' W2 hlt2 ⟨_, hl2⟩ hi2 hax2 hlen) ?_
  rintro e a3 W3 hp
  cases e with
  | normal =>
    obtain ⟨hk3, hi3⟩ := hp
    have hl3 : W3.heap[l]? = some (.loop { rec .ready with state := .busy }) := (hk3.block l hlt2 fun ht => by have := hT l ht; omega).trans hl2
    have hlt3 : l < W3.heap.size := (Array.getElem?_eq_some_iff.1 hl3).1
    have hr := run_endRound (P := P) none hl3
    have k3 : Kept (fun k => T0 k ∨ k = l) W W3 := ka2.trans (hk3.mono fun k h => .inl h)
    have k4 : Kept (fun k => T0 k ∨ k = l) W (W3.putObj l (.loop { { rec .ready with state := .busy } with state := if (none : Option Code).isNone then .ready else .done, pending := none })) := k3.trans (kept_putObj W3 l _ (.inr rfl))
    refine ⟨_, _, hr, rfl, ⟨hI _ _ _ hi3 (below_putObj W3 l _ hs), ?_, Nat.le_trans hsz k4.size, fun k h1 h2 h3 => ?_⟩, k4⟩
    · rw [World.putObj_heap_same hlt3, hrec]; rfl
    · exact (k4.block k (by omega) (by rintro (h | h); · have := hT k h; omega
                                       · exact h3 h)).trans (hsm k h1 h2 h3)
  | ret => exact hp.elim
  | exit id => exact hp.elim
  | goto t => exact hp.elim
  | panic ch => exact hp.elim
  | outgrown => exact hp.elim

/-- A loop in a function of its own. -/
theorem wpIn_rangeLow {g : Operand} {ps : Array Tmp} {assign body : Code} {Q : Exit → Act → World → Prop} {a : Act} {w : World}
    (hro : F.round = none) (h1 : 1 ≤ n) {gf : Nat} {lb : Array Value} (hg : a.eval g = .func (.func gf) #[] lb) (hFg : F.fn gf) (eg : ∀ args w, (callFunc gf args).run P w = .ok (.enter gf args) w)
    {encs : α → Array Value} {Wt : α → World → Prop} {T0 : Nat → Prop} {S : List α → Prop} {N : Nat} (hT : ∀ k, T0 k → k < w.heap.size)
    (hseq : SeqLo F (n - 1) P gf lb encs Wt (fun k => T0 k ∨ k = w.heap.size + 1) S N w) (hps : ∀ x, (encs x).size = ps.size)
    (I : List α → World → Prop) (hI : ∀ s A B, I s A → Below w.heap.size A B → I s B) (h0 : I [] w)
    (Ax : α → Act → World → Prop) (hAx : ∀ x a' A r o, A.heap[w.heap.size + 1]? = some (.loop r) → Ax x a' A → Ax x a' (A.putObj (w.heap.size + 1) o))
    (hassign : ∀ pre x W (K : Act → World → Prop), w.heap.size + 1 < W.heap.size → I pre W → Wt x W → (∀ a' W', Kp W W' → Ax x a' W' → K a' W') →
      assign.wpIn (F.inRound (w.heap.size + 1)) (n - 1 - 1) P (Exit.then K (fun _ _ _ => False)) { tmps := (ps.zip (encs x)).foldl (fun t (p, v) => t.setIfInBounds p v) a.tmps, defers := [] } W)
    (hbody : ∀ pre x a' W, w.heap.size + 1 < W.heap.size → (∃ r, W.heap[w.heap.size + 1]? = some (.loop r)) → I pre W → Ax x a' W → pre.length < N → body.wpIn (F.inRound (w.heap.size + 1)) (n - 1 - 1) P (lowPost T0 I (pre ++ [x]) W) a' W)
    (hdone : ∀ xs W, w.heap.size + 1 < W.heap.size → S xs → I xs W → W.heap[w.heap.size]? = some (.deferred (some [])) → Q .normal { a with defers := { target := .collected w.heap.size, args := #[] } :: a.defers } W) :
    (Code.rangeFunc g ps assign body).wpIn F n P Q a w := by
  refine wpIn_rangeFunc ?_
  intro fn hfn
  rw [hro]
  obtain ⟨W1, hW1⟩ : ∃ W1, (w.alloc (.deferred (some []))).alloc (.loop { state := .ready, pending := none, fn, tmps := a.tmps, params := ps, assign, body, defers := w.heap.size }) = W1 := ⟨_, rfl⟩
  have k1 : Kp w W1 := by rw [← hW1]; exact ((Kp.rfl' w).new _).new _
  have s1 : W1.heap.size = w.heap.size + 2 := by rw [← hW1]; simp
  have hL1 : W1.heap[w.heap.size + 1]? = some (.loop { state := .ready, pending := none, fn, tmps := a.tmps, params := ps, assign, body, defers := w.heap.size }) := by
    rw [← hW1]; have := World.alloc_heap_new (w.alloc (.deferred (some []))) (.loop { state := .ready, pending := none, fn, tmps := a.tmps, params := ps, assign, body, defers := w.heap.size }); rwa [World.size_alloc] at this
  have hK1 : W1.heap[w.heap.size]? = some (.deferred (some [])) := by
    rw [← hW1]; exact (Below.heap_alloc _ _ _ (by simp)).trans (World.alloc_heap_new w _)
  refine ⟨w.heap.size + 1, [{ target := .collected w.heap.size, args := #[] }], W1, { target := .fn (.func gf) lb, args := #[.func (.yield (w.heap.size + 1)) #[] #[]] }, W1, gf,
    #[.func (.yield (w.heap.size + 1)) #[] #[]] ++ lb, W1, ?_, ?_, ?_, ?_, fun _ => h1, ?_⟩
  · rw [← hW1]; exact run_enterLoop_outer _ _ _ _ _
  · simp only [resolve, hg]
    simp [go_sem]
  · intro f' hf'; simp [Target.leads] at hf'; subst hf'; exact hFg
  · simp [invoke, go_sem, eg]
  · refine (hseq (w.heap.size + 1) (lowJ I w.heap.size (w.heap.size + 1) W1 _) W1 k1 (by rintro k (h | h); · have := hT k h; omega
                                                                                         · omega) (lowJ_below hI (by omega) (by omega))
      (fun pre x W hJ hW hx hlen => low_round (n := n - 1 - 1) hfn (Nat.le_succ _) (by omega) hT hps hI Ax hAx hassign hbody pre x W hJ hW hx hlen)
      ⟨hI _ _ _ h0 k1, hL1, Nat.le_refl _, fun _ _ _ _ => rfl⟩).mono ?_
    rintro e W2 ⟨⟨v, rfl⟩, xs, hS, hi, hl, hsz, hsm⟩
    refine ⟨none, _, run_endLoop (P := P) hl (by simp), ?_⟩
    exact hdone xs _ (by simp; omega) hS (hI _ _ _ hi (below_putObj W2 _ _ (Nat.le_succ _))) ((World.putObj_heap_other (by omega)).trans ((hsm _ (Nat.le_refl _) (by omega) (by omega)).trans hK1))

/-- A loop within a round of another one. -/
theorem wpIn_rangeLowN {l₀ : Nat} {r₀ : Loop} {g : Operand} {ps : Array Tmp} {assign body : Code} {Q : Exit → Act → World → Prop} {a : Act} {w : World}
    (hro : F.round = some l₀) (hl₀ : w.heap[l₀]? = some (.loop r₀)) (h1 : 1 ≤ n) {gf : Nat} {lb : Array Value} (hg : a.eval g = .func (.func gf) #[] lb) (hFg : F.fn gf) (eg : ∀ args w, (callFunc gf args).run P w = .ok (.enter gf args) w)
    {encs : α → Array Value} {Wt : α → World → Prop} {T0 : Nat → Prop} {S : List α → Prop} {N : Nat} (hT : ∀ k, T0 k → k < w.heap.size)
    (hseq : SeqLo F (n - 1) P gf lb encs Wt (fun k => T0 k ∨ k = w.heap.size) S N w) (hps : ∀ x, (encs x).size = ps.size)
    (I : List α → World → Prop) (hI : ∀ s A B, I s A → Below w.heap.size A B → I s B) (h0 : I [] w)
    (Ax : α → Act → World → Prop) (hAx : ∀ x a' A r o, A.heap[w.heap.size]? = some (.loop r) → Ax x a' A → Ax x a' (A.putObj w.heap.size o))
    (hassign : ∀ pre x W (K : Act → World → Prop), w.heap.size < W.heap.size → I pre W → Wt x W → (∀ a' W', Kp W W' → Ax x a' W' → K a' W') →
      assign.wpIn (F.inRound w.heap.size) (n - 1 - 1) P (Exit.then K (fun _ _ _ => False)) { tmps := (ps.zip (encs x)).foldl (fun t (p, v) => t.setIfInBounds p v) a.tmps, defers := [] } W)
    (hbody : ∀ pre x a' W, w.heap.size < W.heap.size → (∃ r, W.heap[w.heap.size]? = some (.loop r)) → I pre W → Ax x a' W → pre.length < N → body.wpIn (F.inRound w.heap.size) (n - 1 - 1) P (lowPost T0 I (pre ++ [x]) W) a' W)
    (hdone : ∀ xs W, w.heap.size < W.heap.size → S xs → I xs W → Q .normal a W) :
    (Code.rangeFunc g ps assign body).wpIn F n P Q a w := by
  refine wpIn_rangeFunc ?_
  intro fn hfn
  rw [hro]
  obtain ⟨W1, hW1⟩ : ∃ W1, w.alloc (.loop { state := .ready, pending := none, fn, tmps := a.tmps, params := ps, assign, body, defers := r₀.defers }) = W1 := ⟨_, rfl⟩
  have k1 : Kp w W1 := by rw [← hW1]; exact (Kp.rfl' w).new _
  have s1 : W1.heap.size = w.heap.size + 1 := by rw [← hW1]; simp
  have hL1 : W1.heap[w.heap.size]? = some (.loop { state := .ready, pending := none, fn, tmps := a.tmps, params := ps, assign, body, defers := r₀.defers }) := by rw [← hW1]; exact World.alloc_heap_new w _
  refine ⟨w.heap.size, [], W1, { target := .fn (.func gf) lb, args := #[.func (.yield w.heap.size) #[] #[]] }, W1, gf,
    #[.func (.yield w.heap.size) #[] #[]] ++ lb, W1, ?_, ?_, ?_, ?_, fun _ => h1, ?_⟩
  · rw [← hW1]; exact run_enterLoop_inner hl₀ _ _ _ _ _
  · simp only [resolve, hg]
    simp [go_sem]
  · intro f' hf'; simp [Target.leads] at hf'; subst hf'; exact hFg
  · simp [invoke, go_sem, eg]
  · refine (hseq w.heap.size (lowJ I w.heap.size w.heap.size W1 _) W1 k1 (by rintro k (h | h); · have := hT k h; omega
                                                                             · omega) (lowJ_below hI (by omega) (by omega))
      (fun pre x W hJ hW hx hlen => low_round (n := n - 1 - 1) hfn (Nat.le_refl _) (by omega) hT hps hI Ax hAx hassign hbody pre x W hJ hW hx hlen)
      ⟨hI _ _ _ h0 k1, hL1, Nat.le_refl _, fun _ _ _ _ => rfl⟩).mono ?_
    rintro e W2 ⟨⟨v, rfl⟩, xs, hS, hi, hl, hsz, hsm⟩
    refine ⟨none, _, run_endLoop (P := P) hl (by simp), ?_⟩
    exact hdone xs _ (by simp; omega) hS (hI _ _ _ hi (below_putObj W2 _ _ (Nat.le_refl _)))
end

/-- Where no depth is asked a round may be begun from anywhere. -/
theorem roundIn_any {m m' : Nat} {P : Program} {l : Nat} {f : FuncId} {tmps : Array Value} {assign body : Code} {w : World} {R : Ending → World → Prop} (h : RoundIn Fence.wide m P l f tmps assign body w R) : RoundIn Fence.wide m' P l f tmps assign body w R :=
  ⟨h.1, fun c cs _ => h.2 c cs fun d e => by cases e⟩
theorem roundIn_deep {m m' a b : Nat} {P : Program} {l : Nat} {f : FuncId} {tmps : Array Value} {assign body : Code} {w : World} {R : Ending → World → Prop} (h : RoundIn Fence.wide m P l f tmps assign body w R) : RoundIn ((Fence.wide.inRound a).inRound b) m' P l f tmps assign body w R := roundIn_any h
theorem callsIn_deep {m a b : Nat} {P : Program} {f : FuncId} {args : Array Value} {w : World} {R : Ending → World → Prop} (h : Calls P f args w R) : CallsIn ((Fence.wide.inRound a).inRound b) m P f args w R := CallsIn.inRound b (CallsIn.inRound a (callsIn_wide.2 h))
theorem yieldAt_any {m : Nat} (m' : Nat) {P : Program} {l : Nat} {args : Array Value} {W : World} {R : Ending → World → Prop} (h : YieldAt Fence.wide m P l args W R) : YieldAt Fence.wide m' P l args W R := by
  obtain ⟨fn, tmps, assign, body, hy, hR⟩ := h
  exact ⟨fn, tmps, assign, body, hy, roundIn_any hR⟩
/-- What memory holds lies on where the blocks that may turn are others. -/
theorem LiesIn.kept {T : Nat → Prop} {w w' : World} {B : Nat} {A : Option Addr} {l : List Int} (h : LiesIn w B A l) (k : Kept T w w') (hB : B ≤ w.heap.size) (ht : ∀ ad, A = some ad → ¬ T ad.block) : LiesIn w' B A l := fun i hi => by
  obtain ⟨ad, e, hl, hc⟩ := h i hi
  exact ⟨ad, e, hl, (k.cell (p := ad.add i) (by rw [block_add]; omega) (by rw [block_add]; exact ht ad e)).trans hc⟩
/-- What memory holds lies on when a loop's record turns. -/
theorem Lies.putLoop {w : World} {A : Option Addr} {l : List Int} (h : Lies w A l) {b : Nat} {r : Loop} (hb : w.heap[b]? = some (.loop r)) (o : Obj) : Lies (w.putObj b o) A l := fun k hk => by
  obtain ⟨ad, e, h1, h2⟩ := h k hk
  exact ⟨ad, e, by simpa using h1, cell_kept h2 (grownBy_putObj' w b o) fun r' e' => by cases e'; exact ⟨_, hb, rfl⟩⟩
end Go.Proofs.YtkebjmapdcbnaaaDoor

/- slices.Grow and slices.Concat of two rows of numbers. For all packages. -/
namespace Go.Proofs.YtkebjmapdcbnaaaDoor
open Go.ChangeShapes Go.WideShapes Go.ChangeAt Go.RowKit Go.Lib
set_option linter.unusedVariables false

section
variable {ops : Array Oper} {rest : List Oper} {o : Oper} {a : Act} {w : World} {Q : Exit → Act → World → Prop}
/-- An append of noughts, whose run is known. -/
theorem wpList_zeros (hgd : o.guard = Option.none) (s x : Operand) (ho : o.op = .call { callee := .builtin .append, args := #[s, x], argTypes := #[33, 3] })
    (v nv v' : Value) (w' : World) (hs : a.eval s = v) (hx : a.eval x = nv) (hr : ∀ ty, (Builtin.append_ #[33, 3] ty #[v, nv]).run Tryd.prog w = .ok v' w')
    (h : wpList Tryd.prog ops Q rest (a.put o.dst v') w') : wpList Tryd.prog ops Q (o :: rest) a w := by
  refine wpList_plain hgd fun _ hK => ?_
  unfold Oper.wp execOp
  simp only [ho, resolve, invoke, builtin, Sem.run_bind, Sem.run_pure, Result.andThen_ok, List.map_toArray, List.map_cons, List.map_nil, hs, hx, hr]
  exact hK _ _ h
end

set_option maxRecDepth 100000 in
set_option maxHeartbeats 1600000 in
theorem grow_any (k : Nat) (w : World) (h0 : 0 < k) (hk : k ≤ 1000) :
    Calls Tryd.prog 30 #[.slice none 0 0, .int .i64 (k : Int)] w fun e w' => ∃ v, e = .returned v ∧ Own w' w.heap.size v [] ∧ Kp w w' := by
  obtain ⟨i0, hi, hz0, hz1, hz2⟩ := info_parts int_info
  have hrz : ∀ ty, (Builtin.append_ #[33, 3] ty #[.slice none 0 0, .int .i64 (k : Int)]).run Tryd.prog w = _ := fun ty =>
    Lib.run_append_grow_zeros (P := Tryd.prog) w 33 3 ty 3 i0 (.int .i64 0) .i64 .i64 Tryd.underlying33 Tryd.underlying3 hi hz0 none 0 0 [] (run_firstCells_none w.drew i0.size 0 0 0) k h0 (by rw [hz1]; decide) (by omega) (by omega) (by rw [hz2]; omega)
      (growslice_fits (by omega) (by rw [hz2]; omega))
  rw [Nat.zero_add] at hrz
  have hge : k ≤ grownCap w k 0 3 := grownCap_ge w _ _ _
  have hle : grownCap w k 0 3 ≤ maxLen := grownCap_le_maxLen w k 0 3 (by unfold maxLen; omega)
  generalize grownCap w k 0 3 = q at *
  obtain ⟨cur, hcur⟩ : ∃ cur, cur = (([] : List Value).toArray ++ Builtin.zeroCells (Value.int .i64 0).cells k ++ Builtin.zeroCells (Value.int .i64 0).cells (q - k)) := ⟨_, rfl⟩
  have hs : cur.size = q := by
    rw [hcur]
    have e1 : (Value.int IntKind.i64 0).cells.size = 1 := rfl
    rw [Array.size_append, Array.size_append, size_zeroCells, size_zeroCells, e1]
    simp
    omega
  rw [← hcur] at hrz
  clear hcur
  have HO := Lib.hid (show Own (w.drew.alloc (.cells cur 3)) w.heap.size (.slice (some ⟨w.heap.size, 0, none⟩) 0 q) [] from
    ⟨rfl, .inr ⟨w.heap.size, q, cur, rfl, Nat.le_refl _, heap_alloc_new w.drew _, Nat.zero_le _, hle, by rw [hs]; omega, by simp⟩⟩)
  have HK := Lib.hid (((Kp.rfl' w).drewN 1).new (.cells cur 3))
  have hq : q ≤ 9223372036854775807 := by unfold maxLen at hle; omega
  clear hle hs
  go_enter Tryd.func30, Tryd.ntmps30
  go_wp2_with (at_builtin; refine wpList_zeros rfl _ _ rfl _ _ _ _ rfl rfl hrz ?_)
  go_ret
  exact ⟨_, rfl, HO.out, HK.out⟩
theorem grow_none (w : World) :
    Calls Tryd.prog 30 #[.slice none 0 0, .int .i64 0] w fun e w' => e = .returned (.slice none 0 0) ∧ w = w' := by
  go_enter Tryd.func30, Tryd.ntmps30
  go_wp2
  go_ret
  exact ⟨rfl, rfl⟩
theorem grow_all (k : Nat) (w : World) (hk : k ≤ 1000) :
    Calls Tryd.prog 30 #[.slice none 0 0, .int .i64 (k : Int)] w fun e w' => ∃ v, e = .returned v ∧ Own w' w.heap.size v [] ∧ Kp w w' := by
  rcases Nat.eq_zero_or_pos k with rfl | h0
  · exact (grow_none w).mono fun e w' ⟨h1, h2⟩ => ⟨_, h1, Own.none _ _, h2 ▸ Kp.rfl' w⟩
  · exact grow_any k w h0 hk

/-- The first k of two rows, one behind the other; how many numbers they have. -/
def cat2 (l m : List Int) (k : Nat) : List Int := if k = 0 then [] else if k = 1 then l else l ++ m
def cat2n (p q : Nat) (k : Nat) : Nat := if k = 0 then 0 else if k = 1 then p else p + q

set_option maxRecDepth 100000 in
set_option maxHeartbeats 1600000 in
theorem concat_all (g p q c d : Nat) (A B : Option Addr) (l m : List Int) (w : World) (c0 : w.cell? ⟨g, 0, none⟩ = some (.slice A p c)) (c1 : w.cell? ⟨g, 1, none⟩ = some (.slice B q d))
    (hl : Lies w A l) (hm : Lies w B m) (hp : p = l.length) (hq : q = m.length) (hn : p + q ≤ 1000) :
    Calls Tryd.prog 23 #[.slice (some ⟨g, 0, none⟩) 2 2] w fun e w' => SomeRow (l ++ m) w e w' := by
  have GR := Lib.hid (fun w => grow_all (p + q) w hn)
  have HL := Lib.hid hl
  have HM := Lib.hid hm
  have HP := Lib.hid hp
  have HQ := Lib.hid hq
  have hg := cell_lt c0
  have C0 := Lib.hid c0
  have C1 := Lib.hid c1
  have hp5 : p ≤ 1000 := by omega
  have hq5 : q ≤ 1000 := by omega
  clear hl hm hp hq c0 c1
  go_enter Tryd.func23, Tryd.ntmps23
  go_wp2_with fail
  go_loop [3, 11] (fun s i => ∃ k : Nat, k ≤ 2 ∧ i = .int .i64 (k : Int) ∧ s = .int .i64 ((cat2n p q k : Nat) : Int)) (fun _ i => 2 - (intOf i).toNat)
  case atStart => exact ⟨0, Nat.zero_le _, rfl, rfl⟩
  case round =>
    obtain ⟨k, hk, rfl, rfl⟩ := hrel
    rcases (by omega : k = 0 ∨ k = 1 ∨ k = 2) with rfl | rfl | rfl
    · have c0 := C0.out
      rw [show (cat2n p q 0 : Nat) = 0 from rfl]
      have hw : IntKind.i64.wrap (p : Int) = (p : Int) := IntWalk.i64_in _ (by omega)
      go_wp2_with fail
      go_round
      case rel => exact ⟨1, by omega, rfl, by simp [cat2n]⟩
      case measure => simp [intOf]
    · have c1 := C1.out
      have e1 : (cat2n p q 1 : Nat) = p := rfl
      rw [e1]
      have hw : IntKind.i64.wrap ((p : Int) + (q : Int)) = (p : Int) + (q : Int) := IntWalk.i64_in _ (by omega)
      go_wp2_with fail
      go_round
      case rel => exact ⟨2, by omega, rfl, by simp [cat2n]⟩
      case measure => simp [intOf]
    · have e1 : (cat2n p q 2 : Nat) = p + q := rfl
      rw [e1]
      clear e1
      go_wp2_with fail
      refine (GR.out w).mono ?_; rintro e w1 ⟨v, rfl, hv, hk1⟩
      have HV := Lib.hid hv
      have HK1 := Lib.hid hk1
      clear hv hk1
      go_wp2_with fail
      go_loopw [6, 27] (fun u i wr => ∃ k : Nat, k ≤ 2 ∧ i = .int .i64 (k : Int) ∧ Own wr w.heap.size u (cat2 l m k) ∧ Kp w wr) (fun _ i _ => 2 - (intOf i).toNat)
      case atStart => exact ⟨0, Nat.zero_le _, rfl, HV.out, HK1.out⟩
      case round =>
        obtain ⟨k, hk, rfl, hu, hkw⟩ := hrel
        have HU := Lib.hid hu
        have HKW := Lib.hid hkw
        clear hu hkw HV HK1
        rcases (by omega : k = 0 ∨ k = 1 ∨ k = 2) with rfl | rfl | rfl
        · have c0 := (HKW.out.cell (p := ⟨g, 0, none⟩) hg).trans C0.out
          go_wp2_with (at_builtin; refine wpList_cat rfl _ _ rfl w.heap.size _ [] l A p c rfl rfl HP.out HU.out (HL.out.keep HKW.out) (by simp; have := HP.out; omega) HKW.out.size ?_; intro v' w' h1 h2 _)
          have HO := Lib.hid h1
          have HK' := Lib.hid (own_below HU.out HKW.out HKW.out.size h2)
          clear h1 h2
          go_roundw
          case rel => exact ⟨1, by omega, rfl, HO.out, HK'.out⟩
          case measure => simp [intOf]
        · have c1 := (HKW.out.cell (p := ⟨g, 1, none⟩) hg).trans C1.out
          go_wp2_with (at_builtin; refine wpList_cat rfl _ _ rfl w.heap.size _ l m B q d rfl rfl HQ.out HU.out (HM.out.keep HKW.out) (by have := HP.out; have := HQ.out; omega) HKW.out.size ?_; intro v' w' h1 h2 _)
          have HO := Lib.hid h1
          have HK' := Lib.hid (own_below HU.out HKW.out HKW.out.size h2)
          clear h1 h2
          go_roundw
          case rel => exact ⟨2, by omega, rfl, HO.out, HK'.out⟩
          case measure => simp [intOf]
        · go_wp2_with fail
          go_ret
          exact ⟨_, rfl, HU.out, HKW.out⟩
theorem concat_any (g p q c d : Nat) (A B : Option Addr) (l m : List Int) (w : World) (c0 : w.cell? ⟨g, 0, none⟩ = some (.slice A p c)) (c1 : w.cell? ⟨g, 1, none⟩ = some (.slice B q d))
    (hl : Lies w A l) (hm : Lies w B m) (hp : p = l.length) (hq : q = m.length) (h0 : 0 < p + q) (hn : p + q ≤ 1000) :
    Calls Tryd.prog 23 #[.slice (some ⟨g, 0, none⟩) 2 2] w fun e w' => SomeRow (l ++ m) w e w' := concat_all g p q c d A B l m w c0 c1 hl hm hp hq hn

end Go.Proofs.YtkebjmapdcbnaaaDoor

/- Matrices of the call's own, row by row: what append leaves, and stores into their rows. For all packages. -/
namespace Go.Proofs.YtkebjmapdcbnaaaDoor
open Go.ChangeShapes Go.WideShapes Go.ChangeAt Go.RowKit
set_option linter.unusedVariables false

/-- The heads of the rows of m, row i in block G i with room for C i. -/
def heads (G C : Nat → Nat) (m : List (List Int)) : List Value := (List.range m.length).map fun i => Value.slice (some ⟨G i, 0, none⟩) (m.getD i []).length (C i)
/-- The slice value v is the call's own (from block B on) and holds the rows of m, each the call's own, each apart from the others. -/
structure OwnM (w : World) (B : Nat) (v : Value) (G C : Nat → Nat) (m : List (List Int)) : Prop where
  top : w.ownsRow B 33 1 v m.length (heads G C m)
  row : ∀ i, i < m.length → Own w B (.slice (some ⟨G i, 0, none⟩) (m.getD i []).length (C i)) (m.getD i [])
  apart : ∀ i j, i < m.length → j < m.length → i ≠ j → G i ≠ G j

theorem ownM_none (w : World) (B : Nat) (G C : Nat → Nat) : OwnM w B (.slice none 0 0) G C [] :=
  ⟨World.ownsRow_nil _ _ _ _, fun i hi => absurd hi (by simp), fun i j hi => absurd hi (by simp)⟩
theorem ownsRow_kp {w w' : World} {B n : Nat} {e : TypeId} {v : Value} {xs : List Value} (h : w.ownsRow B e 1 v n xs) (hk : Kp w w') : w'.ownsRow B e 1 v n xs := by
  obtain ⟨h1, h2⟩ := h
  refine ⟨h1, ?_⟩
  rcases h2 with h2 | ⟨g, cap, cur, hv, hg, hh, r⟩
  · exact .inl h2
  · refine .inr ⟨g, cap, cur, hv, hg, ?_, r⟩
    rw [hk.block g ?_]; exact hh
    rcases Nat.lt_or_ge g w.heap.size with hlt | hge
    · exact hlt
    · rw [Array.getElem?_eq_none hge] at hh; cases hh
theorem OwnM.kp {w w' : World} {B : Nat} {v : Value} {G C : Nat → Nat} {m : List (List Int)} (h : OwnM w B v G C m) (hk : Kp w w') : OwnM w' B v G C m :=
  ⟨ownsRow_kp h.top hk, fun i hi => (h.row i hi).kp hk, h.apart⟩
theorem OwnM.lt {w : World} {B : Nat} {v : Value} {G C : Nat → Nat} {m : List (List Int)} (h : OwnM w B v G C m) {i : Nat} (hi : i < m.length) : B ≤ G i ∧ G i < w.heap.size :=
  World.ownsRow.lt (h.row i hi) (G i) rfl
/-- The block of the heads is no row's. -/
theorem top_ne {w : World} {B B' n : Nat} {v : Value} {hs : List Value} {g d c : Nat} {l : List Int} (h : w.ownsRow B 33 1 v n hs) (hr : Own w B' (.slice (some ⟨g, 0, none⟩) d c) l) : (Value.slice (some ⟨g, 0, none⟩) d c).ownBlock ≠ v.ownBlock := fun e => by
  obtain ⟨cur, hh, _⟩ := own_row hr
  rcases h.2 with ⟨rfl, _⟩ | ⟨g', cap, cur', rfl, _, hh', _⟩
  · cases e
  · have e' : g = g' := Option.some.inj e
    subst e'
    rw [hh] at hh'
    cases hh'
theorem OwnM.lies {w : World} {B : Nat} {v : Value} {G C : Nat → Nat} {m : List (List Int)} (h : OwnM w B v G C m) : ∃ A c, v = .slice A m.length c ∧ LiesM w A m ∧ m.length ≤ c := by
  rcases h.top.2 with ⟨rfl, h0⟩ | ⟨g, cap, cur, hv, hg, hh, hc, hm, hs, ht⟩
  · obtain rfl : m = [] := List.eq_nil_of_length_eq_zero h0
    exact ⟨Option.none, 0, rfl, LiesM.empty _ _, Nat.le_refl _⟩
  · refine ⟨_, cap, hv, fun k hk => ?_, hc⟩
    refine ⟨_, some ⟨G k, 0, Option.none⟩, C k, rfl, ?_, ?_, ?_, ?_⟩
    · rcases Nat.lt_or_ge g w.heap.size with h' | h'
      · exact h'
      · rw [Array.getElem?_eq_none h'] at hh; cases hh
    · have ht' : cur.toList.take m.length = heads G C m := by simpa using ht
      rw [add_at, cell_of_row _ _ k _ _ (0, 0) hh, ← Array.getElem?_toList, ← List.getElem?_take_of_lt hk, ht']
      simp [heads, hk]
    · obtain ⟨A, c, e, _, hle⟩ := (h.row k hk).cap
      cases e; exact hle
    · obtain ⟨A, c, e, hl⟩ := (h.row k hk).lies
      cases e; exact hl
theorem heads_snoc (G C : Nat → Nat) (m : List (List Int)) (l : List Int) (g c : Nat) :
    heads (fun i => if i = m.length then g else G i) (fun i => if i = m.length then c else C i) (m ++ [l]) = heads G C m ++ [Value.slice (some ⟨g, 0, none⟩) l.length c] := by
  unfold heads
  rw [List.length_append, List.length_singleton, List.range_succ, List.map_append]
  congr 1
  · refine List.map_congr_left fun i hi => ?_
    have hi' := List.mem_range.1 hi
    have e1 : i ≠ m.length := by omega
    simp [e1, List.getElem?_append_left hi']
  · simp

section
variable {ops : Array Oper} {rest : List Oper} {o : Oper} {a : Act} {w : World} {K : Act → World → Prop} {Q : Exit → Act → World → Prop}
/-- out = append(out, row). -/
theorem wp_pushM (s x : Operand) (ho : o.op = .call { callee := .builtin .append, args := #[s, x], argTypes := #[22, 22] })
    (B : Nat) (v : Value) (G C : Nat → Nat) (m : List (List Int)) (l : List Int) (g n c gb cb : Nat) (hn : l.length = n) (hs : a.eval s = v) (hx : a.eval x = .slice (some ⟨gb, 0, none⟩) 1 cb) (hown : OwnM w B v G C m)
    (hcell : w.cell? ⟨gb, 0, none⟩ = some (.slice (some ⟨g, 0, none⟩) n c)) (hrow : Own w B (.slice (some ⟨g, 0, none⟩) n c) l) (hap : ∀ i, i < m.length → G i ≠ g) (hlen : m.length + 1 ≤ 1000000) (hB : B ≤ w.heap.size)
    (h : ∀ v' w' G' C', OwnM w' B v' G' C' (m ++ [l]) → w.grownBy w' v.ownBlock → K (a.put o.dst v') w') : o.wp Tryd.prog a w K Q := by
  subst hn
  obtain ⟨i0, hi, hz0, hz1, hz2⟩ := info_parts ints_info
  obtain ⟨v', w', hrun, h1, h2, _, h3⟩ := run_append_own_at (P := Tryd.prog) w B 22 o.type 33 i0 (.slice Option.none 0 0) 1 24 Tryd.underlying22 hi hz0 hz1 hz2 rfl (by decide) v m.length (heads G C m) hown.top ⟨gb, 0, Option.none⟩ 1 cb [.slice (some ⟨g, 0, Option.none⟩) l.length c] rfl
    (fun j u hj => by
      match j, hj with
      | 0, hj => simp at hj; subst hj; rw [add_at]; exact hcell) (fun u hu => by simp at hu; subst hu; rfl) (by unfold maxLen; omega) (by omega) hB
  unfold Oper.wp execOp
  simp only [ho, resolve, invoke, builtin, Sem.run_bind, Sem.run_pure, Result.andThen_ok, List.map_toArray, List.map_cons, List.map_nil, hs, hx, hrun]
  refine (h v' w' (fun i => if i = m.length then g else G i) (fun i => if i = m.length then c else C i) ⟨?_, fun i hi => ?_, fun i j hi hj hne => ?_⟩ h2)
  · rw [heads_snoc, List.length_append]; exact h1
  · rw [List.length_append, List.length_singleton] at hi
    by_cases e : i = m.length
    · subst e
      have e2 : (m ++ [l]).getD m.length [] = l := by simp
      simp only [e2, if_true]
      exact hrow.grown h2 (.inr (top_ne hown.top hrow))
    · have hi' : i < m.length := by omega
      have e2 : (m ++ [l]).getD i [] = m.getD i [] := by simp [List.getElem?_append_left hi']
      simp only [if_neg e, e2]
      exact (hown.row i hi').grown h2 (.inr (top_ne hown.top (hown.row i hi')))
  · rw [List.length_append, List.length_singleton] at hi hj
    by_cases e : i = m.length
    · rw [if_pos e, if_neg (by omega)]
      exact fun e' => hap j (by omega) e'.symm
    · rw [if_neg e]
      by_cases e2 : j = m.length
      · rw [if_pos e2]; exact hap i (by omega)
      · rw [if_neg e2]; exact hown.apart i j (by omega) (by omega) hne
theorem wpList_pushM (hgd : o.guard = Option.none) (s x : Operand) (ho : o.op = .call { callee := .builtin .append, args := #[s, x], argTypes := #[22, 22] })
    (B : Nat) (v : Value) (G C : Nat → Nat) (m : List (List Int)) (l : List Int) (g n c gb cb : Nat) (hn : l.length = n) (hs : a.eval s = v) (hx : a.eval x = .slice (some ⟨gb, 0, none⟩) 1 cb) (hown : OwnM w B v G C m)
    (hcell : w.cell? ⟨gb, 0, none⟩ = some (.slice (some ⟨g, 0, none⟩) n c)) (hrow : Own w B (.slice (some ⟨g, 0, none⟩) n c) l) (hap : ∀ i, i < m.length → G i ≠ g) (hlen : m.length + 1 ≤ 1000000) (hB : B ≤ w.heap.size)
    (h : ∀ v' w' G' C', OwnM w' B v' G' C' (m ++ [l]) → (∀ w0 : World, w0.heap.size ≤ B → Kp w0 w → Kp w0 w') → wpList Tryd.prog ops Q rest (a.put o.dst v') w') : wpList Tryd.prog ops Q (o :: rest) a w :=
  wpList_plain hgd fun _ hK => wp_pushM s x ho B v G C m l g n c gb cb hn hs hx hown hcell hrow hap hlen hB fun v' w' G' C' h1 h2 => hK _ _ (h v' w' G' C' h1 fun w0 hw0 hk0 => Below.grown hk0 h2 hk0.size fun k hk => Nat.le_trans hw0 (World.ownsRow.lt hown.top k hk).1)
end

theorem cell_made (w : World) (cs : Array Value) (e : TypeId) (g k : Nat) (h : g = w.heap.size) : (w.alloc (.cells cs e)).cell? ⟨g, k, none⟩ = cs[k]? := by
  subst h
  exact cell_of_row _ _ k _ e (0, 0) (heap_alloc_new w _)
theorem size_set (w : World) (a : Addr) (u : Value) : w.heap.size = (w.setCell a u).heap.size := by simp [World.setCell]
theorem Own.from {w : World} {B B' : Nat} {v : Value} {l : List Int} (h : Own w B v l) (hB : B' ≤ B) : Own w B' v l :=
  ⟨h.1, h.2.imp id fun ⟨g, cap, cur, e, hg, r⟩ => ⟨g, cap, cur, e, Nat.le_trans hB hg, r⟩⟩
/-- Cells of a row of such a matrix; a store into one. -/
theorem OwnM.head {w : World} {B : Nat} {G C : Nat → Nat} {m : List (List Int)} {g n cap : Nat} (h : OwnM w B (.slice (some ⟨g, 0, none⟩) n cap) G C m) {i : Nat} (hi : i < m.length) : w.cell? ⟨g, i, none⟩ = some (.slice (some ⟨G i, 0, none⟩) (m.getD i []).length (C i)) := by
  rcases h.top.2 with ⟨e, _⟩ | ⟨g', cap', cur, hv, hg, hh, hc, hm, hs, ht⟩
  · cases e
  · cases hv
    have ht' : cur.toList.take m.length = heads G C m := by simpa using ht
    rw [cell_of_row _ _ i _ _ (0, 0) hh, ← Array.getElem?_toList, ← List.getElem?_take_of_lt hi, ht']
    simp [heads, hi]
theorem OwnM.el {w : World} {B : Nat} {v : Value} {G C : Nat → Nat} {m : List (List Int)} (h : OwnM w B v G C m) {i : Nat} (hi : i < m.length) {j : Nat} (hj : j < (m.getD i []).length) : w.cell? ⟨G i, j, none⟩ = some (.int .i64 ((m.getD i []).getD j 0)) :=
  own_cell (h.row i hi) j hj
theorem OwnM.free {w : World} {B : Nat} {v : Value} {G C : Nat → Nat} {m : List (List Int)} (h : OwnM w B v G C m) {i : Nat} (hi : i < m.length) (j : Nat) : w.frozen? ⟨G i, j, none⟩ = false :=
  own_free (h.row i hi) j
theorem own_store {w : World} {B g n c : Nat} {l : List Int} (h : Own w B (.slice (some ⟨g, 0, none⟩) n c) l) {a : Addr} (ha : g ≠ a.block) (u : Value) : Own (w.setCell a u) B (.slice (some ⟨g, 0, none⟩) n c) l := by
  rcases h.2 with ⟨h0, _⟩ | ⟨g', cap, cur, e, hg, hh, r⟩
  · cases h0
  · cases e
    exact ⟨h.1, .inr ⟨g, c, cur, rfl, hg, by rw [heap_setCell_other w a g u ha]; exact hh, r⟩⟩
theorem OwnM.put {w : World} {B : Nat} {v : Value} {G C : Nat → Nat} {r c : Nat} {f : Nat → Nat → Int} (h : OwnM w B v G C (Mx.tab r c f)) {i : Nat} (hi : i < r) (j : Nat) (x : Int) :
    OwnM (w.setCell ⟨G i, j, none⟩ (.int .i64 x)) B v G C (Mx.tab r c fun a b => if a = i ∧ b = j then x else f a b) := by
  have hl := Mx.len_tab r c f
  have hl' := Mx.len_tab r c fun a b => if a = i ∧ b = j then x else f a b
  have hri := h.row i (by rw [hl]; exact hi)
  refine ⟨?_, fun k hk => ?_, fun a b ha hb => h.apart a b (by omega) (by omega)⟩
  · have hh : heads G C (Mx.tab r c fun a b => if a = i ∧ b = j then x else f a b) = heads G C (Mx.tab r c f) := by
      unfold heads
      rw [hl, hl']
      refine List.map_congr_left fun k hk => ?_
      have := List.mem_range.1 hk
      rw [Mx.tab_len _ _ _ _ this, Mx.tab_len _ _ _ _ this]
    rw [hh, hl']
    have ht := h.top
    have hne := top_ne h.top hri
    rw [hl] at ht
    rcases ht.2 with ⟨h1, h2⟩ | ⟨g, cap, cur, e, hg, hh, rr⟩
    · exact ⟨ht.1, .inl ⟨h1, h2⟩⟩
    · refine ⟨ht.1, .inr ⟨g, cap, cur, e, hg, ?_, rr⟩⟩
      rw [heap_setCell_other w _ g _ (by
        show g ≠ G i
        intro e2
        apply hne
        rw [e]
        show some (G i) = some g
        rw [e2])]
      exact hh
  · rw [hl'] at hk
    rw [Mx.tab_at _ _ _ _ hk, Mx.len_row]
    have hk0 := h.row k (by omega)
    rw [Mx.tab_at _ _ _ _ hk, Mx.len_row] at hk0
    by_cases e : k = i
    · subst e
      have := own_put hk0 j x
      rw [Mx.row_set] at this
      rw [show (fun b => if k = k ∧ b = j then x else f k b) = fun b => if b = j then x else f k b by funext b; simp]
      exact this
    · rw [show (fun b => if k = i ∧ b = j then x else f k b) = f k by funext b; simp [e]]
      exact own_store hk0 (by show G k ≠ G i; exact h.apart k i (by omega) (by omega) e) _
theorem OwnM.ext {w : World} {B : Nat} {v : Value} {G C : Nat → Nat} {r c : Nat} {f f' : Nat → Nat → Int} (h : OwnM w B v G C (Mx.tab r c f)) (e : ∀ i j, i < r → j < c → f i j = f' i j) : OwnM w B v G C (Mx.tab r c f') := by
  rw [← Mx.tab_ext e]; exact h
theorem OwnM.drewN {w : World} {B : Nat} {v : Value} {G C : Nat → Nat} {m : List (List Int)} (h : OwnM w B v G C m) (n : Nat) : OwnM (w.drewN n) B v G C m := h.kp ((Kp.rfl' w).drewN n)
theorem OwnM.new {w : World} {B : Nat} {v : Value} {G C : Nat → Nat} {m : List (List Int)} (h : OwnM w B v G C m) (o : Obj) : OwnM (w.alloc o) B v G C m := h.kp ((Kp.rfl' w).new o)
end Go.Proofs.YtkebjmapdcbnaaaDoor

/- Plain facts on the document's Pfaffian: the sum over all ways to part rows into pairs is the one by the first row, of up to six rows. No program is named here. (Made by tools/gen_PfD.py.) -/
namespace Go.Proofs.YtkebjmapdcbnaaaDoor.Zx
set_option linter.unusedVariables false

/-- The first number from k on that is not in a list. -/
def frs (o : List Nat) : Nat → Nat → Nat
  | 0, k => k
  | u + 1, k => if o.contains k then frs o u (k + 1) else k
/-- The sign of an order by its inversions. -/
def osg (o : List Nat) : Int := (List.range o.length).foldl (fun s i => (List.range i).foldl (fun s k => if o.getD k 0 > o.getD i 0 then -s else s) s) 1
/-- The product over the pairs of an order. -/
def lead (f : Nat → Nat → Int) : Int → List Nat → Int
  | s, a :: b :: t => lead f (s * f a b) t
  | s, _ => s
/-- A sum over those that count. -/
def psm (c : Nat → Bool) (g : Nat → Int) : Nat → Int
  | 0 => 0
  | t + 1 => if c t then psm c g t + g t else psm c g t
/-- The sum over all ways to part into pairs what is not in the order yet. -/
def pfo (n : Nat) (f : Nat → Nat → Int) : Nat → List Nat → Int
  | 0, o => lead f (osg o) o
  | u + 1, o => if o.length = n then lead f (osg o) o else psm (fun j => decide (frs o n 0 < j) && !(o.contains j)) (fun j => pfo n f u (o ++ [frs o n 0, j])) n
theorem pfo_1 (f : Nat → Nat → Int) : pfo 1 f 1 [] = pf 1 f := by
  have e : pfo 1 f 1 [] = (0 : Int) := rfl
  rw [e, pf_odd 1 f rfl]
theorem pfo_2 (f : Nat → Nat → Int) : pfo 2 f 2 [] = pf 2 f := by
  have e : pfo 2 f 2 [] = ((0 : Int) + ((1 : Int) * f 0 1)) := rfl
  rw [e, pf_two]; unfold P2; grind
theorem pfo_3 (f : Nat → Nat → Int) : pfo 3 f 2 [] = pf 3 f := by
  have e : pfo 3 f 2 [] = (((0 : Int) + (0 : Int)) + (0 : Int)) := rfl
  rw [e, pf_odd 3 f rfl]; grind
theorem pfo_4 (f : Nat → Nat → Int) : pfo 4 f 3 [] = pf 4 f := by
  have e : pfo 4 f 3 [] = ((((0 : Int) + ((0 : Int) + (((1 : Int) * f 0 1) * f 2 3))) + ((0 : Int) + (((-1 : Int) * f 0 2) * f 1 3))) + ((0 : Int) + (((1 : Int) * f 0 3) * f 1 2))) := rfl
  rw [e, pf_four]; unfold P4; grind
theorem pfo_5 (f : Nat → Nat → Int) : pfo 5 f 3 [] = pf 5 f := by
  have e : pfo 5 f 3 [] = (((((0 : Int) + (((0 : Int) + (0 : Int)) + (0 : Int))) + (((0 : Int) + (0 : Int)) + (0 : Int))) + (((0 : Int) + (0 : Int)) + (0 : Int))) + (((0 : Int) + (0 : Int)) + (0 : Int))) := rfl
  rw [e, pf_odd 5 f rfl]; grind
theorem pfo_6 (f : Nat → Nat → Int) : pfo 6 f 4 [] = pf 6 f := by
  have e : pfo 6 f 4 [] = ((((((0 : Int) + ((((0 : Int) + ((0 : Int) + ((((1 : Int) * f 0 1) * f 2 3) * f 4 5))) + ((0 : Int) + ((((-1 : Int) * f 0 1) * f 2 4) * f 3 5))) + ((0 : Int) + ((((1 : Int) * f 0 1) * f 2 5) * f 3 4)))) + ((((0 : Int) + ((0 : Int) + ((((-1 : Int) * f 0 2) * f 1 3) * f 4 5))) + ((0 : Int) + ((((1 : Int) * f 0 2) * f 1 4) * f 3 5))) + ((0 : Int) + ((((-1 : Int) * f 0 2) * f 1 5) * f 3 4)))) + ((((0 : Int) + ((0 : Int) + ((((1 : Int) * f 0 3) * f 1 2) * f 4 5))) + ((0 : Int) + ((((-1 : Int) * f 0 3) * f 1 4) * f 2 5))) + ((0 : Int) + ((((1 : Int) * f 0 3) * f 1 5) * f 2 4)))) + ((((0 : Int) + ((0 : Int) + ((((-1 : Int) * f 0 4) * f 1 2) * f 3 5))) + ((0 : Int) + ((((1 : Int) * f 0 4) * f 1 3) * f 2 5))) + ((0 : Int) + ((((-1 : Int) * f 0 4) * f 1 5) * f 2 3)))) + ((((0 : Int) + ((0 : Int) + ((((1 : Int) * f 0 5) * f 1 2) * f 3 4))) + ((0 : Int) + ((((-1 : Int) * f 0 5) * f 1 3) * f 2 4))) + ((0 : Int) + ((((1 : Int) * f 0 5) * f 1 4) * f 2 3)))) := rfl
  rw [e, pf_six]; unfold P6; grind
theorem pfo_pf {n : Nat} (h1 : 1 ≤ n) (h6 : n ≤ 6) (f : Nat → Nat → Int) : pfo n f (n / 2 + 1) [] = pf n f := by
  have : n = 1 ∨ n = 2 ∨ n = 3 ∨ n = 4 ∨ n = 5 ∨ n = 6 := by omega
  rcases this with rfl | rfl | rfl | rfl | rfl | rfl
  · exact pfo_1 f
  · exact pfo_2 f
  · exact pfo_3 f
  · exact pfo_4 f
  · exact pfo_5 f
  · exact pfo_6 f
end Go.Proofs.YtkebjmapdcbnaaaDoor.Zx

/- Plain facts for package det: how many numbers are not at their places; what a value is as a sign. No program is named here. -/
namespace Go.Proofs.YtkebjmapdcbnaaaDoor.Mx
open Fp
set_option linter.unusedVariables false

/-- How many of the first n are not at their places. -/
def nf : Nat → (Nat → Int) → Nat
  | 0, _ => 0
  | n + 1, s => nf n s + if s n = (n : Int) then 0 else 1
theorem nf_le : ∀ (n : Nat) {s t : Nat → Int}, (∀ i, i < n → s i = (i : Int) → t i = (i : Int)) → nf n t ≤ nf n s
  | 0, _, _, _ => Nat.le_refl _
  | n + 1, s, t, h => by
    have h1 := nf_le n (s := s) (t := t) fun i hi => h i (by omega)
    show nf n t + (if t n = (n : Int) then 0 else 1) ≤ nf n s + if s n = (n : Int) then 0 else 1
    by_cases e : s n = (n : Int)
    · rw [if_pos e, if_pos (h n (by omega) e)]; omega
    · rw [if_neg e]; split <;> omega
theorem nf_lt : ∀ (n : Nat) {s t : Nat → Int} {m : Nat}, (∀ i, i < n → s i = (i : Int) → t i = (i : Int)) → m < n → s m ≠ (m : Int) → t m = (m : Int) → nf n t < nf n s
  | 0, _, _, m, _, hm, _, _ => absurd hm (by omega)
  | n + 1, s, t, m, h, hm, h1, h2 => by
    show nf n t + (if t n = (n : Int) then 0 else 1) < nf n s + if s n = (n : Int) then 0 else 1
    by_cases e : m = n
    · subst e
      have := nf_le m (s := s) (t := t) fun i hi => h i (by omega)
      rw [if_neg h1, if_pos h2]; omega
    · have := nf_lt n (s := s) (t := t) (m := m) (fun i hi => h i (by omega)) (by omega) h1 h2
      by_cases e : s n = (n : Int)
      · rw [if_pos e, if_pos (h n (by omega) e)]; omega
      · rw [if_neg e]; split <;> omega

theorem ofInt_neg (x : Int) : ofInt (-x) = -(ofInt x) := by
  have := ofInt_add x (-x)
  rw [show x + -x = 0 by omega, show ofInt 0 = 0 from rfl] at this
  grind
/-- x is 1, -1 or 0, and S in the field. -/
def SgnIs (S : F) (x : Int) : Prop := (x = 1 ∨ x = -1 ∨ x = 0) ∧ ofInt x = S
theorem SgnIs.one {S : F} {x y : Int} (h : SgnIs S x) (k : SgnIs S y) : x = y := by
  have e := h.2.trans k.2.symm
  have n1 : ofInt 1 ≠ ofInt (-1) := by decide
  have n2 : ofInt 1 ≠ ofInt 0 := by decide
  have n3 : ofInt (-1) ≠ ofInt 0 := by decide
  rcases h.1 with a | a | a <;> rcases k.1 with b | b | b <;> first | exact a.trans b.symm | (rw [a, b] at e; first | exact absurd e n1 | exact absurd e.symm n1 | exact absurd e n2 | exact absurd e.symm n2 | exact absurd e n3 | exact absurd e.symm n3)
theorem SgnIs.neg {S : F} {x : Int} (h : SgnIs S x) : SgnIs (-S) (-x) := by
  refine ⟨?_, by rw [ofInt_neg, h.2]⟩
  rcases h.1 with a | a | a <;> rw [a] <;> decide
theorem SgnIs.bound {S : F} {x : Int} (h : SgnIs S x) : -1 ≤ x ∧ x ≤ 1 := by rcases h.1 with a | a | a <;> omega
theorem tmod_F (x : Int) : ofInt (x.tmod 9973) = ofInt x := by
  have h := Int.mul_tdiv_add_tmod x 9973
  have h2 : ofInt x = ofInt (9973 * x.tdiv 9973 + x.tmod 9973) := by rw [h]
  rw [ofInt_add, ofInt_mul, show ofInt 9973 = 0 from rfl] at h2
  rw [h2]; grind
theorem tmod_bound (x : Int) : -9972 ≤ x.tmod 9973 ∧ x.tmod 9973 ≤ 9972 := by
  have h1 := Int.tmod_lt_of_pos x (show (0 : Int) < 9973 by omega)
  have h2 := Int.lt_tmod_of_pos x (show (0 : Int) < 9973 by omega)
  omega
/-- A remainder made an element. -/
theorem fit (x : Int) : (x.tmod 9973 + 9973).tmod 9973 = ((ofInt x).val : Int) := by
  have h := tmod_bound x
  rw [Int.tmod_eq_emod_of_nonneg (by omega), ← ofInt_val, ofInt_add, tmod_F, show ofInt 9973 = 0 from rfl]
  congr 1; congr 1; grind

/-- How many orders there may be of so many. -/
def lv : Nat → Nat
  | 0 => 1
  | m + 1 => 5 * lv m
theorem lv_le : ∀ {m : Nat}, m ≤ 5 → lv m ≤ 3125
  | 0, _ => by decide
  | 1, _ => by decide
  | 2, _ => by decide
  | 3, _ => by decide
  | 4, _ => by decide
  | 5, _ => by decide
  | m + 6, h => absurd h (by omega)

end Go.Proofs.YtkebjmapdcbnaaaDoor.Mx

/- Natural numbers as a row of whole numbers. For all packages; no program is named. -/
namespace Go.Proofs.YtkebjmapdcbnaaaDoor
set_option linter.unusedVariables false

/-- Places as whole numbers. -/
def nz (l : List Nat) : List Int := l.map fun (x : Nat) => (x : Int)
theorem nz_len (l : List Nat) : (nz l).length = l.length := List.length_map ..
theorem nz_at {l : List Nat} {k : Nat} (h : k < l.length) : (nz l).getD k 0 = ((l.getD k 0 : Nat) : Int) := by
  simp [nz, List.getD_eq_getElem?_getD, h]
theorem nz_less (l : List Nat) (k : Nat) : nz (l.take k ++ l.drop (k + 1)) = (nz l).take k ++ (nz l).drop (k + 1) := by
  unfold nz; rw [List.map_append, List.map_take, List.map_drop]
theorem Lies.num {w : World} {A : Option Addr} {l : List Nat} (h : Lies w A (nz l)) {k : Nat} (hk : k < l.length) : ∃ ad, A = some ad ∧ ad.block < w.heap.size ∧ w.cell? (ad.add k) = some (.int .i64 ((l.getD k 0 : Nat) : Int)) := by
  obtain ⟨ad, e, hl, hc⟩ := h k (by rw [nz_len]; exact hk)
  rw [nz_at hk] at hc
  exact ⟨ad, e, hl, hc⟩

end Go.Proofs.YtkebjmapdcbnaaaDoor

/- Plain facts: the program's partitions into pairs, and that their sum, each with its sign, is the Pfaffian of at most six rows. No program is named here. -/
namespace Go.Proofs.YtkebjmapdcbnaaaDoor.Zx
set_option linter.unusedVariables false

/-- The partitions that have the k-th number behind the first one beside it, given those of what is left. -/
def prk (F : List Nat → List (List Nat)) (a : Nat) (t : List Nat) (k : Nat) : List (List Nat) := (F (t.take k ++ t.drop (k + 1))).map fun r => a :: t.getD k 0 :: r
/-- Those of the first k. -/
def prt (F : List Nat → List (List Nat)) (a : Nat) (t : List Nat) : Nat → List (List Nat)
  | 0 => []
  | k + 1 => prt F a t k ++ prk F a t k
/-- All partitions of a list into pairs. -/
def prs : Nat → List Nat → List (List Nat)
  | _, [] => [[]]
  | 0, _ :: _ => []
  | u + 1, a :: t => prt (prs u) a t t.length
theorem prt_len (F : List Nat → List (List Nat)) (a : Nat) (t : List Nat) {j k : Nat} (h : j ≤ k) : (prt F a t j).length ≤ (prt F a t k).length := by
  induction k with
  | zero => rw [show j = 0 by omega]; exact Nat.le_refl _
  | succ k ih =>
    by_cases e : j = k + 1
    · rw [e]; exact Nat.le_refl _
    · have := ih (by omega)
      show _ ≤ (prt F a t k ++ prk F a t k).length
      rw [List.length_append]; omega
theorem prk_mem {F : List Nat → List (List Nat)} {a : Nat} {t : List Nat} {k : Nat} {r : List Nat} (h : r ∈ F (t.take k ++ t.drop (k + 1))) : a :: t.getD k 0 :: r ∈ prk F a t k := List.mem_map.2 ⟨r, h, rfl⟩
theorem prt_mem {F : List Nat → List (List Nat)} {a : Nat} {t : List Nat} {k : Nat} {x : List Nat} (h : x ∈ prk F a t k) {n : Nat} (hk : k < n) : x ∈ prt F a t n := by
  induction n with
  | zero => omega
  | succ n ih =>
    show x ∈ prt F a t n ++ prk F a t n
    by_cases e : k = n
    · subst e; exact List.mem_append.2 (.inr h)
    · exact List.mem_append.2 (.inl (ih (by omega)))
theorem mem_prt {F : List Nat → List (List Nat)} {a : Nat} {t : List Nat} {x : List Nat} : ∀ {n : Nat}, x ∈ prt F a t n → ∃ k, k < n ∧ x ∈ prk F a t k
  | 0, h => by cases h
  | n + 1, h => by
    rcases List.mem_append.1 h with h | h
    · obtain ⟨k, hk, hx⟩ := mem_prt h
      exact ⟨k, by omega, hx⟩
    · exact ⟨n, by omega, h⟩
theorem prs_length : ∀ (u : Nat) (l r : List Nat), r ∈ prs u l → r.length = l.length
  | 0, [], r, h => by rw [List.mem_singleton.1 h]
  | 0, _ :: _, r, h => by cases h
  | u + 1, [], r, h => by rw [List.mem_singleton.1 h]
  | u + 1, a :: t, r, h => by
    obtain ⟨k, hk, hx⟩ := mem_prt (show r ∈ prt (prs u) a t t.length from h)
    obtain ⟨r', hr, rfl⟩ := List.mem_map.1 hx
    have := prs_length u _ r' hr
    rw [List.length_append, List.length_take, List.length_drop] at this
    simp only [List.length_cons]
    omega
/-- The sum over orders. -/
def osum (F : List Nat → Int) : List (List Nat) → Int
  | [] => 0
  | o :: t => F o + osum F t
theorem osum_snoc (F : List Nat → Int) (l : List (List Nat)) (o : List Nat) : osum F (l ++ [o]) = osum F l + F o := by
  induction l with
  | nil => show F o + 0 = 0 + F o; omega
  | cons a t ih => show F a + osum F (t ++ [o]) = F a + osum F t + F o; rw [ih]; omega
/-- The product over the first k pairs. -/
def ledTo (f : Nat → Nat → Int) (o : List Nat) (s : Int) : Nat → Int
  | 0 => s
  | k + 1 => ledTo f o s k * f (o.getD (k + k) 0) (o.getD (k + k + 1) 0)
theorem ledTo_cons (f : Nat → Nat → Int) (a b : Nat) (t : List Nat) (s : Int) (k : Nat) : ledTo f (a :: b :: t) s (k + 1) = ledTo f t (s * f a b) k := by
  induction k with
  | zero => rfl
  | succ k ih =>
    show ledTo f (a :: b :: t) s (k + 1) * f ((a :: b :: t).getD (k + 1 + (k + 1)) 0) ((a :: b :: t).getD (k + 1 + (k + 1) + 1) 0) = ledTo f t (s * f a b) k * f (t.getD (k + k) 0) (t.getD (k + k + 1) 0)
    rw [ih, show k + 1 + (k + 1) = k + k + 1 + 1 by omega]
    rfl
theorem lead_to (f : Nat → Nat → Int) : ∀ (h : Nat) (o : List Nat) (s : Int), o.length / 2 = h → lead f s o = ledTo f o s h
  | 0, [], s, _ => rfl
  | 0, [a], s, _ => rfl
  | 0, a :: b :: t, s, h => by simp only [List.length_cons] at h; omega
  | h + 1, [], s, e => by simp only [List.length_nil] at e; omega
  | h + 1, [a], s, e => by simp only [List.length_cons, List.length_nil] at e; omega
  | h + 1, a :: b :: t, s, e => by
    show lead f (s * f a b) t = _
    rw [ledTo_cons, lead_to f h t (s * f a b) (by simp only [List.length_cons] at e; omega)]
/-- What one order adds. -/
def oval (f : Nat → Nat → Int) (o : List Nat) : Int := lead f (osg o) o
/-- What the partitions of the first n numbers are like. -/
def pgood (n : Nat) (o : List Nat) : Bool := decide (o.length = n ∧ n % 2 = 0 ∧ (∀ k, k < n → o.getD k 0 < n) ∧ (∀ k : Nat, k < n → ∃ i, i < n ∧ ((o.getD i 0 : Nat) : Int) = (k : Int)) ∧ Fp.ofInt (osg o) = Mx.inv n (fun i => ((o.getD i 0 : Nat) : Int)))
theorem prs_good : ∀ n, 1 ≤ n → n ≤ 6 → ∀ o, o ∈ prs n (List.range n) → pgood n o = true := by
  intro n h1 h6
  have : n = 1 ∨ n = 2 ∨ n = 3 ∨ n = 4 ∨ n = 5 ∨ n = 6 := by omega
  rcases this with rfl | rfl | rfl | rfl | rfl | rfl <;> decide +kernel
theorem prs_few : ∀ n, 1 ≤ n → n ≤ 6 → (prs n (List.range n)).length ≤ 15 := by
  intro n h1 h6
  have : n = 1 ∨ n = 2 ∨ n = 3 ∨ n = 4 ∨ n = 5 ∨ n = 6 := by omega
  rcases this with rfl | rfl | rfl | rfl | rfl | rfl <;> decide +kernel
theorem fold_pm {α : Type} (g : Int → α → Int) (hg : ∀ s a, s = 1 ∨ s = -1 → g s a = 1 ∨ g s a = -1) : ∀ (l : List α) (s : Int), s = 1 ∨ s = -1 → l.foldl g s = 1 ∨ l.foldl g s = -1
  | [], s, h => h
  | a :: t, s, h => fold_pm g hg t (g s a) (hg s a h)
theorem osg_pm (o : List Nat) : osg o = 1 ∨ osg o = -1 := by
  unfold osg
  refine fold_pm _ (fun s i h => fold_pm _ (fun s k h => ?_) _ s h) _ 1 (.inl rfl)
  by_cases e : o.getD k 0 > o.getD i 0
  · rw [if_pos e]; omega
  · rw [if_neg e]; exact h
/-- The sign of a good order is that of its inversions. -/
theorem pgood_sign {n : Nat} {o : List Nat} (h : pgood n o = true) {x : Int} (hx : Mx.SgnIs (Mx.sp n fun i => (nz o).getD i 0) x) : x = osg o := by
  obtain ⟨h1, h2, h3, h4, h5⟩ := of_decide_eq_true h
  refine hx.one ⟨?_, ?_⟩
  · rcases osg_pm o with h | h
    · exact .inl h
    · exact .inr (.inl h)
  · rw [h5, Mx.inv_sp h4]
    exact Mx.sp_congr fun i hi => (nz_at (by omega)).symm
theorem ledTo_bound {f : Nat → Nat → Int} {n : Nat} (hf : ∀ i j, i < n → j < n → -9 ≤ f i j ∧ f i j ≤ 9) {o : List Nat} (ho : ∀ k, k < n → o.getD k 0 < n) {s : Int} (hs : s = 1 ∨ s = -1) : ∀ k, k + k ≤ n → (ledTo f o s k).natAbs ≤ 9 ^ k
  | 0, _ => by show s.natAbs ≤ 1; omega
  | k + 1, hk => by
    have h1 := ledTo_bound hf ho hs k (by omega)
    have h2 := hf _ _ (ho (k + k) (by omega)) (ho (k + k + 1) (by omega))
    show (ledTo f o s k * f _ _).natAbs ≤ 9 ^ k * 9
    rw [Int.natAbs_mul]
    exact Nat.mul_le_mul h1 (by omega)
theorem oval_bound {f : Nat → Nat → Int} {n : Nat} (h6 : n ≤ 6) (hf : ∀ i j, i < n → j < n → -9 ≤ f i j ∧ f i j ≤ 9) {o : List Nat} (h : pgood n o = true) : (oval f o).natAbs ≤ 729 := by
  obtain ⟨h1, h2, h3, _, _⟩ := of_decide_eq_true h
  unfold oval
  rw [lead_to f (n / 2) o (osg o) (by rw [h1])]
  exact Nat.le_trans (ledTo_bound hf h3 (osg_pm o) (n / 2) (by omega)) (Nat.le_trans (Nat.pow_le_pow_right (by decide) (by omega : n / 2 ≤ 3)) (by decide))

theorem prs_pf1 (f : Nat → Nat → Int) : osum (oval f) (prs 1 (List.range 1)) = pf 1 f := by
  have e : osum (oval f) (prs 1 (List.range 1)) = 0 := rfl
  rw [e, pf_odd 1 f rfl]
theorem prs_pf2 (f : Nat → Nat → Int) : osum (oval f) (prs 2 (List.range 2)) = pf 2 f := by
  have e : osum (oval f) (prs 2 (List.range 2)) = (1 : Int) * f 0 1 + 0 := rfl
  rw [e, pf_two]; unfold P2; grind
theorem prs_pf3 (f : Nat → Nat → Int) : osum (oval f) (prs 3 (List.range 3)) = pf 3 f := by
  have e : osum (oval f) (prs 3 (List.range 3)) = 0 := rfl
  rw [e, pf_odd 3 f rfl]
theorem prs_pf4 (f : Nat → Nat → Int) : osum (oval f) (prs 4 (List.range 4)) = pf 4 f := by
  have e : osum (oval f) (prs 4 (List.range 4)) = ((1 : Int) * f 0 1 * f 2 3) + (((-1 : Int) * f 0 2 * f 1 3) + (((1 : Int) * f 0 3 * f 1 2) + 0)) := rfl
  rw [e, pf_four]; unfold P4; grind
theorem prs_pf5 (f : Nat → Nat → Int) : osum (oval f) (prs 5 (List.range 5)) = pf 5 f := by
  have e : osum (oval f) (prs 5 (List.range 5)) = 0 := rfl
  rw [e, pf_odd 5 f rfl]
theorem prs_pf6 (f : Nat → Nat → Int) : osum (oval f) (prs 6 (List.range 6)) = pf 6 f := by
  have e : osum (oval f) (prs 6 (List.range 6)) = (((1 : Int) * f 0 1 * f 2 3 * f 4 5) + (((-1 : Int) * f 0 1 * f 2 4 * f 3 5) + (((1 : Int) * f 0 1 * f 2 5 * f 3 4) + (((-1 : Int) * f 0 2 * f 1 3 * f 4 5) + (((1 : Int) * f 0 2 * f 1 4 * f 3 5) + (((-1 : Int) * f 0 2 * f 1 5 * f 3 4) + (((1 : Int) * f 0 3 * f 1 2 * f 4 5) + (((-1 : Int) * f 0 3 * f 1 4 * f 2 5) + (((1 : Int) * f 0 3 * f 1 5 * f 2 4) + (((-1 : Int) * f 0 4 * f 1 2 * f 3 5) + (((1 : Int) * f 0 4 * f 1 3 * f 2 5) + (((-1 : Int) * f 0 4 * f 1 5 * f 2 3) + (((1 : Int) * f 0 5 * f 1 2 * f 3 4) + (((-1 : Int) * f 0 5 * f 1 3 * f 2 4) + (((1 : Int) * f 0 5 * f 1 4 * f 2 3) + 0))))))))))))))) := rfl
  rw [e, pf_six]; unfold P6; grind
/-- The sum over the partitions is the Pfaffian. -/
theorem prs_pf {n : Nat} (h1 : 1 ≤ n) (h6 : n ≤ 6) (f : Nat → Nat → Int) : osum (oval f) (prs n (List.range n)) = pf n f := by
  have : n = 1 ∨ n = 2 ∨ n = 3 ∨ n = 4 ∨ n = 5 ∨ n = 6 := by omega
  rcases this with rfl | rfl | rfl | rfl | rfl | rfl
  · exact prs_pf1 f
  · exact prs_pf2 f
  · exact prs_pf3 f
  · exact prs_pf4 f
  · exact prs_pf5 f
  · exact prs_pf6 f
end Go.Proofs.YtkebjmapdcbnaaaDoor.Zx

/- Contract of package pfaff, second part: the iterator over all partitions into pairs: a range over an iterator in a loop of a function (a mark each round), and the iterator calls itself. -/
namespace Go.Proofs.YtkebjmapdcbnaaaDoor
open Go.ChangeShapes Go.WideShapes Go.ChangeAt Go.RowKit Go.Shelf
set_option linter.unusedVariables false
attribute [local go_sem] Oper.semAt_some

/-- Where no depth is asked an iterator's promise is one for any depth. -/
theorem SeqLo.any {α : Type} {n m : Nat} {P : Program} {g : Nat} {lb : Array Value} {encs : α → Array Value} {Wt : α → World → Prop} {T : Nat → Prop} {S : List α → Prop} {N : Nat} {w0 : World} (h : SeqLo Fence.wide n P g lb encs Wt T S N w0) : SeqLo Fence.wide m P g lb encs Wt T S N w0 :=
  fun l J W h1 h2 h3 hy h0 => callsIn_wide.2 (callsIn_wide.1 (h l J W h1 h2 h3 (fun pre x W1 a b c d => yieldAt_any _ (hy pre x W1 a b c d)) h0))
/-- A mark that a range over an iterator has left among the deferred calls. -/
def mkd (r : Nat) : Deferred := { target := .collected r, args := #[] }
structure Mkd (B : Nat) (rs : List Nat) (w : World) : Prop where
  nd : rs.Nodup
  at_ : ∀ r, r ∈ rs → B ≤ r ∧ w.heap[r]? = some (.deferred (some []))
theorem Mkd.none (B : Nat) (w : World) : Mkd B [] w := ⟨List.nodup_nil, fun r h => by cases h⟩
theorem Mkd.lt {B : Nat} {rs : List Nat} {w : World} (h : Mkd B rs w) {r : Nat} (hr : r ∈ rs) : r < w.heap.size := (Array.getElem?_eq_some_iff.1 (h.at_ r hr).2).1
theorem Mkd.kept {B : Nat} {rs : List Nat} {w w' : World} {T : Nat → Prop} (h : Mkd B rs w) (k : Kept T w w') (hT : ∀ r, T r → r < B) : Mkd B rs w' :=
  ⟨h.nd, fun r hr => ⟨(h.at_ r hr).1, (k.block r (h.lt hr) fun ht => by have := hT r ht; have := (h.at_ r hr).1; omega).trans (h.at_ r hr).2⟩⟩
theorem Mkd.below {B C : Nat} {rs : List Nat} {w w' : World} (h : Mkd B rs w) (k : Below C w w') (hC : ∀ r, r ∈ rs → r < C) : Mkd B rs w' :=
  ⟨h.nd, fun r hr => ⟨(h.at_ r hr).1, (k.block r (hC r hr)).trans (h.at_ r hr).2⟩⟩
theorem Mkd.more {B : Nat} {rs : List Nat} {w : World} {s : Nat} (h : Mkd B rs w) (hs : ∀ r, r ∈ rs → r < s) (hB : B ≤ s) (hm : w.heap[s]? = some (.deferred (some []))) : Mkd B (s :: rs) w :=
  ⟨List.nodup_cons.2 ⟨fun e => by have := hs s e; omega, h.nd⟩, fun r hr => by
    rcases List.mem_cons.1 hr with rfl | e
    · exact ⟨hB, hm⟩
    · exact h.at_ r e⟩
/-- A function that has left marks goes out: each mark is shut. -/
theorem leaves_marks {F : Fence} {n : Nat} {P : Program} {fn : Func} {tmps : Array Value} {R : Ending → World → Prop} {B : Nat} : ∀ (rs : List Nat) (w : World), Mkd B rs w →
    (∀ w', Below B w w' → LeavesInM F n P fn tmps R [] .returning w') → LeavesInM F n P fn tmps R (rs.map mkd) .returning w
  | [], w, _, h => h w (Below.refl B w)
  | r :: rs, w, hM, h => by
    have hr := hM.at_ r (List.mem_cons_self ..)
    have hnd := List.nodup_cons.1 hM.nd
    refine ⟨by simp, .inl ⟨r, _, rfl, run_takeDeferred hr.2, leaves_marks rs _ ⟨hnd.2, fun s hs => ?_⟩ fun w' k => h w' (Below.trans (below_putObj w r _ hr.1) k)⟩⟩
    have := hM.at_ s (List.mem_cons_of_mem _ hs)
    exact ⟨this.1, (World.putObj_heap_other (by intro e; subst e; exact hnd.1 hs)).trans this.2⟩

set_option maxHeartbeats 800000 in
theorem pairings_any (A : Option Addr) (n c : Nat) (w : World) :
    Calls Tryd.prog 18 #[.slice A n c] w fun e w' =>
      e = .returned (.func (.func 22) #[] #[.pointer (some ⟨w.heap.size, 0, none⟩)]) ∧ w' = w.alloc (.cells #[.slice A n c] 33) := by
  go_enter Tryd.func18, Tryd.ntmps18
  go_wp2
  go_ret
  exact ⟨rfl, rfl⟩

/-- An order: the numbers, and where they lie. -/
abbrev Orw := List Nat × Option Addr × Nat
def orEnc (x : Orw) : Array Value := #[.slice x.2.1 x.1.length x.2.2]
/-- What is known of an order when it is handed on. -/
def OrW (L : List (List Nat)) (x : Orw) (W : World) : Prop := Lies W x.2.1 (nz x.1) ∧ x.1.length ≤ x.2.2 ∧ x.1 ∈ L
theorem prs_nil (u : Nat) : Zx.prs u [] = [[]] := by cases u <;> rfl

set_option maxRecDepth 100000 in
set_option maxHeartbeats 1600000 in
theorem pairings_nil (u c : Nat) (A : Option Addr) (B0 : Nat) (T : Nat → Prop) (t0 : ¬ T B0) (w0 : World) (c0 : w0.cell? ⟨B0, 0, none⟩ = some (.slice A 0 c)) :
    SeqLo Fence.wide 12 Tryd.prog 22 #[.pointer (some ⟨B0, 0, none⟩)] orEnc (OrW (Zx.prs u [])) T (fun ys => ys.map (·.1) = Zx.prs u []) (Zx.prs u []).length w0 := by
  rw [prs_nil]
  intro yl J W hW hT hJ hY h0
  have b0 := cell_lt c0
  have x0 := (hW.cell (p := ⟨B0, 0, none⟩) b0).trans c0
  have lt0 : B0 < W.heap.size := Nat.lt_of_lt_of_le b0 hW.size
  clear c0 b0 hW
  have k1 : Kp W (W.alloc (.cells #[.func (.yield yl) #[] #[]] 45)) := (Kp.rfl' W).new _
  obtain ⟨fn, tmps, assign, body, hy, hR⟩ := hY [] ([], none, 0) (W.alloc (.cells #[.func (.yield yl) #[] #[]] 45)) (hJ _ _ _ h0 k1) (by simp) ⟨fun k hk => by simp [nz] at hk, Nat.le_refl _, by simp⟩ (by simp)
  unfold orEnc at hy
  have RR := Lib.hid hR
  dsimp only [List.length_nil] at hy
  clear hR hY hT hJ h0 k1
  refine callsIn_of_wp_marks Tryd.func22 rfl trivial ?_ rfl
  simp only [Tryd.ntmps22, List.size_toArray, List.length_cons, List.length_nil, Nat.reduceAdd, Nat.reduceSub, Array.replicate_succ, Array.replicate_zero, List.push_toArray, List.append_toArray, List.nil_append, List.cons_append]
  gi_wp2
  refine (RR.out).mono ?_
  rintro e W3 ⟨rfl, hJ3, hk3⟩
  gi_wp2
  exact ⟨_, results_none rfl _ _ _, ⟨_, rfl⟩, [([], none, 0)], rfl, hJ3⟩

/-- What a round keeps: the variables of the iterator, and the row it goes through. -/
structure Pr2 (Y B0 yl n c : Nat) (A : Option Addr) (l : List Nat) (W : World) : Prop where
  y : W.cell? ⟨Y, 0, none⟩ = some (.func (.yield yl) #[] #[])
  v : W.cell? ⟨B0, 0, none⟩ = some (.slice A n c)
  row : Lies W A (nz l)
theorem lies_kept {T : Nat → Prop} {W W' : World} {A : Option Addr} {l : List Int} (h : Lies W A l) (k : Kept T W W') (tA : ∀ ad, A = some ad → ¬ T ad.block) : Lies W' A l := fun i hi => by
  obtain ⟨ad, e, hl, hc⟩ := h i hi
  exact ⟨ad, e, Nat.lt_of_lt_of_le hl k.size, (k.cell (p := ad.add i) (by rw [block_add]; exact hl) (by rw [block_add]; exact tA ad e)).trans hc⟩
theorem Pr2.kept {Y B0 yl n c : Nat} {A : Option Addr} {l : List Nat} {T : Nat → Prop} {W W' : World} (h : Pr2 Y B0 yl n c A l W) (k : Kept T W W') (h0 : ¬ T Y) (h1 : ¬ T B0) (h2 : ∀ ad, A = some ad → ¬ T ad.block) : Pr2 Y B0 yl n c A l W' :=
  ⟨(k.cell (p := ⟨Y, 0, none⟩) (cell_lt h.y) h0).trans h.y, (k.cell (p := ⟨B0, 0, none⟩) (cell_lt h.v) h1).trans h.v, lies_kept h.row k h2⟩
theorem Pr2.keep {Y B0 yl n c : Nat} {A : Option Addr} {l : List Nat} {W W' : World} (h : Pr2 Y B0 yl n c A l W) (k : Kp W W') : Pr2 Y B0 yl n c A l W' :=
  h.kept (T := fun _ => False) (Kept.of k) id id fun _ _ => id

/-- An operation that goes on, so. -/
def Onl (R : Act → World → Prop) : Exit → Act → World → Prop
  | .normal, a, w => R a w
  | _, _, _ => False
theorem region_onl {P : Program} {c : Code} {Q : Exit → Act → World → Prop} {a : Act} {w : World} (R : Act → World → Prop) (h : c.wp P (Onl R) a w) (k : ∀ a' w', R a' w' → Q .normal a' w') : c.wpIn Fence.wide 12 P Q a w := by
  refine wpIn_wide.2 (Code.wp_mono (Q := Onl R) (fun e a' w' q => ?_) h)
  cases e with
  | normal => exact k a' w' q
  | ret => exact q.elim
  | exit id => exact q.elim
  | goto l => exact q.elim
  | panic c => exact q.elim
  | outgrown => exact q.elim
theorem roundIn_one {m m' a : Nat} {P : Program} {l : Nat} {f : FuncId} {tmps : Array Value} {assign body : Code} {w : World} {R : Ending → World → Prop} (h : RoundIn Fence.wide m P l f tmps assign body w R) : RoundIn (Fence.wide.inRound a) m' P l f tmps assign body w R := roundIn_any h
theorem Kept.ofBelow {B : Nat} {w w' : World} (h : Below B w w') : Kept (fun k => B ≤ k) w w' := ⟨h.os, h.tape, h.output, h.size, fun k _ ht => h.block k (by omega)⟩
/-- A row of two has been made, and a variable that holds it. -/
structure PairAt (w w' : World) (Pb R : Nat) (x y : Int) : Prop where
  b : w.heap.size ≤ Pb
  r : w.heap.size ≤ R
  v : w'.cell? ⟨Pb, 0, none⟩ = some (.slice (some ⟨R, 0, none⟩) 2 2)
  x0 : w'.cell? ⟨R, 0, none⟩ = some (.int .i64 x)
  x1 : w'.cell? ⟨R, 1, none⟩ = some (.int .i64 y)
  kp : Kp w w'
/-- What of it is looked at later on. -/
structure PrC (Pb R : Nat) (x y : Int) (w : World) : Prop where
  v : w.cell? ⟨Pb, 0, none⟩ = some (.slice (some ⟨R, 0, none⟩) 2 2)
  x0 : w.cell? ⟨R, 0, none⟩ = some (.int .i64 x)
  x1 : w.cell? ⟨R, 1, none⟩ = some (.int .i64 y)
theorem PrC.kept {Pb R : Nat} {x y : Int} {T : Nat → Prop} {w w' : World} (h : PrC Pb R x y w) (k : Kept T w w') (h0 : ¬ T Pb) (h1 : ¬ T R) : PrC Pb R x y w' :=
  ⟨(k.cell (p := ⟨Pb, 0, none⟩) (cell_lt h.v) h0).trans h.v, (k.cell (p := ⟨R, 0, none⟩) (cell_lt h.x0) h1).trans h.x0, (k.cell (p := ⟨R, 1, none⟩) (cell_lt h.x1) h1).trans h.x1⟩
theorem PrC.keep {Pb R : Nat} {x y : Int} {w w' : World} (h : PrC Pb R x y w) (k : Kp w w') : PrC Pb R x y w' := h.kept (T := fun _ => False) (Kept.of k) id id
theorem PrC.lies {Pb R : Nat} {x y : Nat} {w : World} (h : PrC Pb R (x : Int) (y : Int) w) : Lies w (some ⟨R, 0, none⟩) (nz [x, y]) := fun i hi => by
  refine ⟨_, rfl, cell_lt h.x0, ?_⟩
  rw [nz_len] at hi
  simp only [List.length_cons, List.length_nil] at hi
  rcases (by omega : i = 0 ∨ i = 1) with rfl | rfl
  · exact h.x0
  · exact h.x1
theorem pair_one (w : World) (x y : Int) : PairAt w ((w.alloc (.cells #[.int .i64 x, .int .i64 y] 3)).alloc (.cells #[.slice (some ⟨w.heap.size, 0, none⟩) 2 2] 33)).drew (w.heap.size + 1) w.heap.size x y := by
  have k : Kp (w.alloc (.cells #[.int .i64 x, .int .i64 y] 3)) (((w.alloc (.cells #[.int .i64 x, .int .i64 y] 3)).alloc (.cells #[.slice (some ⟨w.heap.size, 0, none⟩) 2 2] 33)).drew) := ((Kp.rfl' _).new _).drewN 1
  refine ⟨Nat.le_succ _, Nat.le_refl _, ?_, ?_, ?_, (((Kp.rfl' w).new _).new _).drewN 1⟩
  · exact (cell_made _ _ _ (w.heap.size + 1) 0 (by simp)).trans rfl
  · exact (k.cell (p := ⟨w.heap.size, 0, none⟩) (by simp)).trans ((cell_made w _ _ w.heap.size 0 rfl).trans rfl)
  · exact (k.cell (p := ⟨w.heap.size, 1, none⟩) (by simp)).trans ((cell_made w _ _ w.heap.size 1 rfl).trans rfl)
theorem pair_two (w : World) (x y : Int) : PairAt w ((w.alloc (.cells #[.slice (some ⟨w.heap.size + 1, 0, none⟩) 2 2] 33)).alloc (.cells #[.int .i64 x, .int .i64 y] 3)).drew w.heap.size (w.heap.size + 1) x y := by
  have k : Kp (w.alloc (.cells #[.slice (some ⟨w.heap.size + 1, 0, none⟩) 2 2] 33)) (((w.alloc (.cells #[.slice (some ⟨w.heap.size + 1, 0, none⟩) 2 2] 33)).alloc (.cells #[.int .i64 x, .int .i64 y] 3)).drew) := ((Kp.rfl' _).new _).drewN 1
  refine ⟨Nat.le_refl _, Nat.le_succ _, ?_, ?_, ?_, (((Kp.rfl' w).new _).new _).drewN 1⟩
  · exact (k.cell (p := ⟨w.heap.size, 0, none⟩) (by simp)).trans ((cell_made w _ _ w.heap.size 0 rfl).trans rfl)
  · exact (cell_made _ _ _ (w.heap.size + 1) 0 (by simp)).trans rfl
  · exact (cell_made _ _ _ (w.heap.size + 1) 1 (by simp)).trans rfl

set_option maxRecDepth 100000 in
set_option maxHeartbeats 6400000 in
theorem pairings_step (u : Nat) (hu : u ≤ 5)
    (ih : ∀ (l : List Nat) (n c : Nat) (A : Option Addr) (B0 : Nat) (T : Nat → Prop) (w0 : World), l.length = n → n ≤ u → n ≤ c → ¬ T B0 → (∀ ad, A = some ad → ¬ T ad.block) → Lies w0 A (nz l) → w0.cell? ⟨B0, 0, none⟩ = some (.slice A n c) →
      SeqLo Fence.wide 12 Tryd.prog 22 #[.pointer (some ⟨B0, 0, none⟩)] orEnc (OrW (Zx.prs u l)) T (fun ys => ys.map (·.1) = Zx.prs u l) (Zx.prs u l).length w0)
    (a : Nat) (t : List Nat) (p n c : Nat) (A : Option Addr) (B0 : Nat) (T : Nat → Prop) (w0 : World) (hp : t.length = p) (hn : n = p + 1) (hpu : p ≤ u) (hpc : n ≤ c) (t0 : ¬ T B0) (tA : ∀ ad, A = some ad → ¬ T ad.block) (hA : Lies w0 A (nz (a :: t))) (c0 : w0.cell? ⟨B0, 0, none⟩ = some (.slice A n c)) :
    SeqLo Fence.wide 12 Tryd.prog 22 #[.pointer (some ⟨B0, 0, none⟩)] orEnc (OrW (Zx.prs (u + 1) (a :: t))) T (fun ys => ys.map (·.1) = Zx.prs (u + 1) (a :: t)) (Zx.prs (u + 1) (a :: t)).length w0 := by
  have ePRS : Zx.prs (u + 1) (a :: t) = Zx.prt (Zx.prs u) a t p := by rw [← hp]; rfl
  rw [ePRS]
  intro yl J W hW hT hJ hY h0
  have b0 := cell_lt c0
  have x0 := (hW.cell (p := ⟨B0, 0, none⟩) b0).trans c0
  have lt0 : B0 < W.heap.size := Nat.lt_of_lt_of_le b0 hW.size
  have lA := hA.keep hW
  clear c0 b0 hW hA ePRS
  have HT := Lib.hid hT
  have HJ := Lib.hid hJ
  have HY := Lib.hid hY
  have HP := Lib.hid hp
  have PU := Lib.hid hpu
  have H0 := Lib.hid h0
  have LA := Lib.hid lA
  have TY : ¬ T W.heap.size := fun h => by have := hT _ h; omega
  clear hT hJ hY hp h0 lA
  have e0 : ((n : Int) == 0) = false := by rw [beq_eq_false_iff_ne]; omega
  have NP := Lib.hid hn
  have n7 : n ≤ 7 := by omega
  clear hn hpu
  refine callsIn_of_wp_marks Tryd.func22 rfl trivial ?_ rfl
  simp only [Tryd.ntmps22, List.size_toArray, List.length_cons, List.length_nil, Nat.reduceAdd, Nat.reduceSub, Array.replicate_succ, Array.replicate_zero, List.push_toArray, List.append_toArray, List.nil_append, List.cons_append]
  gi_wp2
  obtain ⟨W1, hW1⟩ : ∃ x, x = W.alloc (.cells #[.func (.yield yl) #[] #[]] 45) := ⟨_, rfl⟩
  rw [← hW1]
  have k1 : Kp W W1 := by rw [hW1]; exact (Kp.rfl' W).new _
  have s1 : W1.heap.size = W.heap.size + 1 := by rw [hW1]; simp
  have P1 : Pr2 W.heap.size B0 yl n c A (a :: t) W1 := ⟨by rw [hW1]; exact (cell_made W _ _ W.heap.size 0 rfl).trans rfl, (k1.cell (p := ⟨B0, 0, none⟩) lt0).trans x0, LA.out.keep k1⟩
  clear hW1 x0
  refine wpIn_loop (fun a' w' => ∃ (k j : Nat) (ys : List Orw) (rs : List Nat) (u4 u5 u11 u12 u13 u14 u15 u16 u17 u18 u19 u20 u21 u22 u23 u24 u25 u26 u27 u28 u29 u30 u31 u32 u33 u34 u35 u36 u37 u38 u39 u40 u41 u42 : Value), j = k + 1 ∧ j ≤ n ∧ a' = { tmps := #[.func (.yield yl) #[] #[], .pointer (some ⟨B0, 0, none⟩), .pointer (some ⟨W.heap.size, 0, none⟩), .int .i64 (j : Int), u4, u5, .slice A n c, .int .i64 (n : Int), .bool false, undef, undef, u11, u12, u13, u14, u15, u16, u17, u18, u19, u20, u21, u22, u23, u24, u25, u26, u27, u28, u29, u30, u31, u32, u33, u34, u35, u36, u37, u38, u39, u40, u41, u42], defers := rs.map mkd } ∧
      ys.map (·.1) = Zx.prt (Zx.prs u) a t k ∧ J ys w' ∧ Pr2 W.heap.size B0 yl n c A (a :: t) w' ∧ W.heap.size + 1 ≤ w'.heap.size ∧ Mkd W.heap.size rs w') (fun a' _ => n - (intOf (a'.tmps.getD 3 undef)).toNat) ?_ ?_
  · exact ⟨0, 1, [], [], undef, undef, undef, undef, undef, undef, undef, undef, undef, undef, undef, undef, undef, undef, undef, undef, undef, undef, undef, undef, undef, undef, undef, undef, undef, undef, undef, undef, undef, undef, undef, undef, undef, undef, rfl, by have := NP.out; omega, rfl, rfl, HJ.out _ _ _ H0.out k1, P1, by omega, Mkd.none _ _⟩
  rintro a' wr ⟨k, j, ys, rs, u4, u5, u11, u12, u13, u14, u15, u16, u17, u18, u19, u20, u21, u22, u23, u24, u25, u26, u27, u28, u29, u30, u31, u32, u33, u34, u35, u36, u37, u38, u39, u40, u41, u42, hjk, hjn, rfl, hys, hJs, hP, hsz, hM⟩
  clear k1 s1 P1 H0
  have v0 := hP.v
  have y0 := hP.y
  by_cases hlt : j < n
  · obtain ⟨ad, rfl, hla, xa⟩ := hP.row.num (k := 0) (by simp)
    rw [show (a :: t).getD 0 0 = a from rfl] at xa
    obtain ⟨ad', ea, _, xj⟩ := hP.row.num (k := j) (by have := HP.out; have := NP.out; rw [List.length_cons]; omega)
    obtain rfl := Option.some.inj ea
    obtain ⟨tk, htk⟩ : ∃ tk, tk = (a :: t).getD j 0 := ⟨_, rfl⟩
    rw [← htk] at xj
    have JK := Lib.hid hjk
    have KN := Lib.hid (show k < p by have := NP.out; omega)
    have TK := Lib.hid (show tk = t.getD k 0 by rw [htk, hjk]; rfl)
    rw [add_zero'] at xa
    have XV := Lib.hid (fun w' (q : Kp wr w') => (show (w'.cell? ⟨B0, 0, none⟩ = some (.slice (some ad) n c) ∧ w'.cell? ad = some (.int .i64 (a : Int))) ∧ w'.cell? (ad.add j) = some (.int .i64 (tk : Int)) from
      ⟨⟨(q.cell (p := ⟨B0, 0, none⟩) (cell_lt v0)).trans v0, (q.cell (p := ad) hla).trans xa⟩, (q.cell (p := ad.add j) (by rw [block_add]; exact hla)).trans xj⟩))
    have HYS := Lib.hid hys
    have HJS := Lib.hid hJs
    have HPP := Lib.hid hP
    have HMM := Lib.hid hM
    have HSZ := Lib.hid hsz
    have KK0 := Lib.hid (Kp.rfl' wr)
    clear hys hJs hP hM hsz htk hjk ea
    gi_wp2
    refine region_onl (fun a' w' => ∃ (Pb R : Nat) (u17 u18 u19 u20 u21 u22 u23 u24 : Value), a' = { tmps := #[.func (.yield yl) #[] #[], .pointer (some ⟨B0, 0, none⟩), .pointer (some ⟨W.heap.size, 0, none⟩), .int .i64 (j : Int), .pointer (some ⟨Pb, 0, none⟩), u5, .slice (some ad) n c, .int .i64 (n : Int), .bool false, undef, undef, .int .i64 (j : Int), .slice (some ad) n c, .int .i64 (n : Int), .bool true, u15, u16, u17, u18, u19, u20, u21, u22, u23, u24, u25, u26, u27, u28, u29, u30, u31, u32, u33, u34, u35, u36, u37, u38, u39, u40, u41, u42], defers := rs.map mkd } ∧ PairAt wr w' Pb R (a : Int) (tk : Int)) ?reg6 ?after6
    case reg6 =>
      have n0 : 0 < n := by omega
      have n0i : (0 : Int) < (n : Int) := by omega
      go_region_held3 (fun w' => (w'.cell? ⟨B0, 0, none⟩ = some (.slice (some ad) n c) ∧ w'.cell? ad = some (.int .i64 (a : Int))) ∧ w'.cell? (ad.add j) = some (.int .i64 (tk : Int)))
        (first
        | exact XV.out _ (Kp.rfl' _)
        | exact XV.out _ ((Kp.rfl' _).drewN 1)
        | exact XV.out _ (((Kp.rfl' _).drewN 1).new _)
        | exact XV.out _ ((((Kp.rfl' _).drewN 1).new _).new _)
        | exact XV.out _ (((((Kp.rfl' _).drewN 1).new _).new _).put (by simp) _))
        ((first
        | fail))
      all_goals
        first
        | exact ⟨_, _, _, _, _, _, _, _, _, _, rfl, pair_one wr _ _⟩
        | exact ⟨_, _, _, _, _, _, _, _, _, _, rfl, pair_two wr _ _⟩
    case after6 =>
      rintro a' w1 ⟨Pb, R, u17, u18, u19, u20, u21, u22, u23, u24, rfl, hPA⟩
      have v1 := (XV.out w1 hPA.kp).1.1
      have K1 := Lib.hid hPA.kp
      have PA := Lib.hid hPA
      have CC := Lib.hid (fun (g : Nat) (A1 A2 : Option Addr) (e1 e2 : Nat) (w' : World) (kw : Kp wr w') (h1 : 1 < j → A1 = some (ad.add 1)) (h2 : j + 1 < n → A2 = some (ad.add (j + 1)))
          (c0 : w'.cell? ⟨g, 0, none⟩ = some (.slice A1 (j - 1) e1)) (c1 : w'.cell? ⟨g, 1, none⟩ = some (.slice A2 (n - (j + 1)) e2)) =>
        (show Calls Tryd.prog 23 #[.slice (some ⟨g, 0, none⟩) 2 2] w' fun e w'' => ∃ C cc, e = .returned (.slice C (n - 2) cc) ∧ n - 2 ≤ cc ∧ Lies w'' C (nz (t.take k ++ t.drop (k + 1))) ∧ (∀ ad, C = some ad → w'.heap.size ≤ ad.block ∧ ad.block < w''.heap.size) ∧ Kp w' w'' from by
          have hrow := HPP.out.row.keep kw
          have hlen : (nz t).length = p := by rw [nz_len, HP.out]
          have hnp := NP.out
          have hjk := JK.out
          have hkp := KN.out
          refine (concat_all g (j - 1) (n - (j + 1)) e1 e2 A1 A2 ((nz t).take k) ((nz t).drop (k + 1)) w' c0 c1 (fun i hi => ?_) (fun i hi => ?_) (by rw [List.length_take]; omega) (by rw [List.length_drop]; omega) (by omega)).mono fun e w'' ⟨v, he, ho, hk'⟩ => ?_
          · rw [List.length_take] at hi
            rw [h1 (by omega)]
            exact (hrow.drop 1).take k i (by rw [List.length_take]; show i < min k (nz t).length; omega)
          · rw [List.length_drop] at hi
            rw [h2 (by omega), hjk]
            exact hrow.drop (k + 1 + 1) i (by rw [List.length_drop]; show i < (nz t).length + 1 - (k + 1 + 1); omega)
          · rw [← nz_less] at ho
            have e1 : (nz (t.take k ++ t.drop (k + 1))).length = n - 2 := by rw [nz_len, List.length_append, List.length_take, List.length_drop, HP.out]; omega
            obtain ⟨C, cc, rfl, hl, hle⟩ := ho.cap
            rw [e1] at he hle
            rcases ho.2 with ⟨hv, _⟩ | ⟨g', cap, cur, hv, hg, hgs, _⟩
            · injection hv with hv1 hv2 hv3
              subst hv1
              exact ⟨_, cc, he, hle, hl, (fun ad e => by cases e), hk'⟩
            · injection hv with hv1 hv2 hv3
              subst hv1
              exact ⟨_, cc, he, hle, hl, (fun ad e => by cases e; exact ⟨hg, (Array.getElem?_eq_some_iff.1 hgs).1⟩), hk'⟩))
      have PN := Lib.hid (fun (C : Option Addr) (cc : Nat) (w' : World) => pairings_any C (n - 2) cc w')
      clear xa xj
      gi_wp2
      refine region_onl (fun a' w' => ∃ (Bn cc : Nat) (C : Option Addr) (u25 u26 u27 u28 u29 u30 u31 u32 u33 : Value), a' = { tmps := #[.func (.yield yl) #[] #[], .pointer (some ⟨B0, 0, none⟩), .pointer (some ⟨W.heap.size, 0, none⟩), .int .i64 (j : Int), .pointer (some ⟨Pb, 0, none⟩), u5, .slice (some ad) n c, .int .i64 (n : Int), .bool false, undef, undef, .int .i64 (j : Int), .slice (some ad) n c, .int .i64 (n : Int), .bool true, u15, u16, u17, u18, u19, u20, u21, u22, u23, u24, u25, u26, u27, u28, u29, u30, u31, u32, u33, .func (.func 22) #[] #[.pointer (some ⟨Bn, 0, none⟩)], u35, u36, u37, u38, u39, u40, u41, u42], defers := rs.map mkd } ∧
        w1.heap.size ≤ Bn ∧ w'.cell? ⟨Bn, 0, none⟩ = some (.slice C (n - 2) cc) ∧ n - 2 ≤ cc ∧ Lies w' C (nz (t.take k ++ t.drop (k + 1))) ∧ (∀ ad, C = some ad → w1.heap.size ≤ ad.block ∧ ad.block < w'.heap.size) ∧ Bn < w'.heap.size ∧ Kp w1 w') ?reg7 ?after7
      case reg7 =>
        have j1 : 1 ≤ j := by have := JK.out; omega
        have ji1 : (1 : Int) ≤ (j : Int) := by omega
        have jc : j ≤ c := by omega
        have jc1 : j + 1 ≤ c := by omega
        have jn1 : j + 1 ≤ n := by omega
        have jin : (j : Int) + 1 ≤ (n : Int) := by omega
        have j0 : (0 : Int) ≤ (j : Int) + 1 := by omega
        have hw1 : IntKind.i64.wrap ((j : Int) + 1) = (j : Int) + 1 := IntWalk.i64_in _ (by omega)
        have c1 : ¬ c = 1 := by omega
        have HA1 := Lib.hid (show (some ⟨ad.block, ad.off + 1, none⟩ : Option Addr) = some (ad.add 1) by rw [Addr.add_succ'])
        have HA2 := Lib.hid (show (some ⟨ad.block, ad.off + (j + 1), none⟩ : Option Addr) = some (ad.add (j + 1)) by rw [Addr.add_succ'])
        clear PA hPA HJ HY HT ih HP PU XV HYS HJS HPP HMM HSZ KK0
        go_region_law (first
          | (go_simp; go_at_call 23; refine (CC.out w1.heap.size (some ⟨ad.block, ad.off + 1, none⟩) (if c = j + 1 then some ad else some ⟨ad.block, ad.off + (j + 1), none⟩) (c - 1) (c - (j + 1)) _ ((K1.out.new _).drewN 1) (fun _ => HA1.out) (fun h => by rw [if_neg (by omega)]; exact HA2.out) ((cell_made w1 _ _ _ 0 rfl).trans rfl) ((cell_made w1 _ _ _ 1 rfl).trans rfl)).mono ?_; rintro e w2 ⟨C, cc, rfl, hcc, hlC, hbC, hk2⟩; have HCC := Lib.hid hcc; have HLC := Lib.hid hlC; have HBC := Lib.hid hbC; have K2 := Lib.hid hk2; clear hcc hlC hbC hk2)
          | (go_simp; go_at_call 18; refine (PN.out C cc w2).mono ?_; rintro e w3 ⟨rfl, rfl⟩))
        all_goals
          have kn : Kp w2 (w2.alloc (.cells #[.slice C (n - 2) cc] 33)) := (Kp.rfl' w2).new _
          refine ⟨w2.heap.size, cc, C, _, _, _, _, _, _, _, _, _, rfl, ?_, (cell_made w2 _ _ _ 0 rfl).trans rfl, HCC.out, HLC.out.keep kn, fun ad e => ⟨Nat.le_trans (by simp) (HBC.out ad e).1, Nat.lt_of_lt_of_le (HBC.out ad e).2 (by simp)⟩, by simp, (((Kp.rfl' w1).new _).drewN 1).trans (K2.out.trans kn)⟩
          exact Nat.le_trans (by simp) K2.out.size
      case after7 =>
        rintro a' w3 ⟨Bn, cc, C, u25, u26, u27, u28, u29, u30, u31, u32, u33, rfl, hBn, xC, hcc, hlC, hCb, hBs, hk3⟩
        have hlen : (t.take k ++ t.drop (k + 1)).length = n - 2 := by
          rw [List.length_append, List.length_take, List.length_drop, HP.out]; have := NP.out; have := KN.out; omega
        have hle : n - 2 ≤ u := by have := PU.out; have := NP.out; omega
        have sz1 := K1.out.size
        have sz3 := hk3.size
        have szW := HSZ.out
        have hPb := PA.out.b
        have hRb := PA.out.r
        have hPl : Pb < w1.heap.size := cell_lt PA.out.v
        have hRl : R < w1.heap.size := cell_lt PA.out.x0
        have hTl : ∀ x, T x → x < W.heap.size := HT.out
        have hnb : ∀ x, W.heap.size ≤ x → x < w3.heap.size → ¬ (T x ∨ x = w3.heap.size + 1) := fun x h1 h2 h => by
          rcases h with h | h
          · have := hTl x h; omega
          · omega
        have hnt : ∀ x, W.heap.size ≤ x → ¬ T x := fun x h1 h => by have := hTl x h; omega
        have KW3 := Lib.hid (K1.out.trans hk3)
        obtain ⟨RL, hRL⟩ : ∃ RL, RL = Zx.prs u (t.take k ++ t.drop (k + 1)) := ⟨_, rfl⟩
        have SEQ := Lib.hid (SeqLo.any (m := 11) (ih (t.take k ++ t.drop (k + 1)) (n - 2) cc C Bn (fun x => T x ∨ x = w3.heap.size + 1) w3 hlen hle hcc (hnb Bn (by omega) hBs) (fun ad e => by
          have := hCb ad e
          exact hnb _ (by omega) (by omega)) hlC xC))
        rw [← hRL] at SEQ
        have PRK := Lib.hid (show Zx.prt (Zx.prs u) a t (k + 1) = Zx.prt (Zx.prs u) a t k ++ RL.map fun r => a :: tk :: r by rw [hRL, TK.out]; rfl)
        have MEM := Lib.hid (fun r (h : r ∈ RL) => (show a :: tk :: r ∈ Zx.prt (Zx.prs u) a t p from Zx.prt_mem (k := k) (by rw [TK.out]; exact Zx.prk_mem (hRL ▸ h)) KN.out))
        have LEN := Lib.hid (show (Zx.prt (Zx.prs u) a t k).length + RL.length ≤ (Zx.prt (Zx.prs u) a t p).length by
          have := Zx.prt_len (Zx.prs u) a t (j := k + 1) (k := p) KN.out
          rw [PRK.out, List.length_append, List.length_map] at this
          exact this)
        have YL := Lib.hid (show ys.length = (Zx.prt (Zx.prs u) a t k).length by rw [← HYS.out, List.length_map])
        have RLEN := Lib.hid (fun r (h : r ∈ RL) => (show r.length ≤ 7 by have := Zx.prs_length u _ r (hRL ▸ h); omega))
        clear hRL ih xC hlC hcc hCb hlen hle
        gi_wp2
        have hmE : ∀ x : Orw, (orEnc x).size = 1 := fun _ => rfl
        refine wpIn_rangeLow (F := Fence.wide) (n := 12) rfl (by decide) (gf := 22) (lb := #[.pointer (some ⟨Bn, 0, none⟩)]) rfl trivial (enters_of Tryd.func22 (by kernel_rfl) rfl) (T0 := T)
          (fun x h => by have := hTl x h; omega)
          SEQ.out (fun _ => rfl)
          (fun (s : List Orw) V => ∃ zs : List Orw, zs.map (·.1) = s.map (fun y => a :: tk :: y.1) ∧ J (ys ++ zs) V ∧ Pr2 W.heap.size B0 yl n c (some ad) (a :: t) V ∧ PrC Pb R (a : Int) (tk : Int) V ∧ Mkd W.heap.size rs V ∧ w3.heap.size ≤ V.heap.size)
          ?hI ?h0
          (fun x a' V => OrW RL x V ∧ a' = { tmps := #[.func (.yield yl) #[] #[], .pointer (some ⟨B0, 0, none⟩), .pointer (some ⟨W.heap.size, 0, none⟩), .int .i64 (j : Int), .pointer (some ⟨Pb, 0, none⟩), .slice x.2.1 x.1.length x.2.2, .slice (some ad) n c, .int .i64 (n : Int), .bool false, undef, undef, .int .i64 (j : Int), .slice (some ad) n c, .int .i64 (n : Int), .bool true, u15, u16, u17, u18, u19, u20, u21, u22, u23, u24, u25, u26, u27, u28, u29, u30, u31, u32, u33, .func (.func 22) #[] #[.pointer (some ⟨Bn, 0, none⟩)], .slice x.2.1 x.1.length x.2.2, u36, u37, u38, u39, u40, u41, u42], defers := [] })
          (fun x a' V r o hr ⟨h4, h5⟩ => ⟨⟨h4.1.putLoop hr o, h4.2⟩, h5⟩)
          ?assign ?body ?done
        case hI =>
          rintro s V V' ⟨zs, h1, h2, h3, h4, h5, h6⟩ q
          have qk := Kept.ofBelow q
          refine ⟨zs, h1, HJ.out _ _ _ h2 (q.mono (by omega)), h3.kept qk (by omega) (by omega) (fun ad' e => by cases e; omega), h4.kept qk (by omega) (by omega), h5.below q (fun r hr => by have := HMM.out.lt hr; omega), Nat.le_trans h6 q.size⟩
        case h0 =>
          refine ⟨[], rfl, ?_, HPP.out.keep KW3.out, ?_, HMM.out.below KW3.out (fun r hr => HMM.out.lt hr), Nat.le_refl _⟩
          · rw [List.append_nil]; exact HJ.out _ _ _ HJS.out (Below.mono KW3.out (by omega))
          · exact PrC.keep ⟨PA.out.v, PA.out.x0, PA.out.x1⟩ hk3
        case assign =>
          rintro pre x V K hlt hs hx hK
          unfold orEnc
          gi_wp2
          exact hK _ _ (Kp.rfl' _) ⟨hx, rfl⟩
        case done =>
          rintro xs V hlt hS ⟨zs, h1, h2, h3, h4, h5, h6⟩ hD
          have hw1 : IntKind.i64.wrap ((j : Int) + 1) = (j : Int) + 1 := IntWalk.i64_in _ (by omega)
          gi_wp2
          refine ⟨⟨k + 1, j + 1, ys ++ zs, w3.heap.size :: rs, _, _, _, _, _, _, _, _, _, _, _, _, _, _, _, _, _, _, _, _, _, _, _, _, _, _, _, _, _, _, _, _, _, _, by rw [JK.out], by omega, rfl, ?_, h2, h3, by omega, h5.more (fun r hr => by have := HMM.out.lt hr; omega) (by omega) hD⟩, ?_⟩
          · rw [List.map_append, HYS.out, h1, PRK.out, ← hS, List.map_map]; rfl
          · simp [intOf]; omega
        case body =>
          rintro pre x a' V hlt ⟨r, hr⟩ ⟨zs, h1, h2, h3, h4, h5, h6⟩ ⟨hx, rfl⟩ hlen
          have hxl := RLEN.out x.1 hx.2.2
          obtain ⟨O, hO⟩ : ∃ O : Obj, O = .cells #[.slice (some ⟨R, 0, none⟩) 2 2, .slice x.2.1 x.1.length x.2.2] 33 := ⟨_, rfl⟩
          have CO := Lib.hid (fun (g : Nat) (V' : World) (kv : Kp V V') (c0 : V'.cell? ⟨g, 0, none⟩ = some (.slice (some ⟨R, 0, none⟩) 2 2)) (c1 : V'.cell? ⟨g, 1, none⟩ = some (.slice x.2.1 x.1.length x.2.2)) =>
            (show Calls Tryd.prog 23 #[.slice (some ⟨g, 0, none⟩) 2 2] V' fun e V'' => ∃ D dd, e = .returned (.slice D (x.1.length + 1 + 1) dd) ∧ x.1.length + 1 + 1 ≤ dd ∧ Lies V'' D (nz (a :: tk :: x.1)) ∧ Kp V' V'' from by
              refine (concat_all g 2 x.1.length 2 x.2.2 (some ⟨R, 0, none⟩) x.2.1 (nz [a, tk]) (nz x.1) V' c0 c1 ((h4.keep kv).lies) (hx.1.keep kv) (by rw [nz_len]; rfl) (by rw [nz_len]) (by omega)).mono fun e w'' ⟨v, he, ho, hk'⟩ => ?_
              have e1 : nz [a, tk] ++ nz x.1 = nz (a :: tk :: x.1) := by unfold nz; rw [← List.map_append]; rfl
              rw [e1] at ho
              obtain ⟨D, dd, rfl, hl, hle⟩ := ho.cap
              have e2 : (nz (a :: tk :: x.1)).length = x.1.length + 1 + 1 := by rw [nz_len]; rfl
              rw [e2] at he hle
              exact ⟨D, dd, he, hle, hl, hk'⟩))
          have YV := Lib.hid (fun (V' : World) (q : Kp V V') => (show V'.cell? ⟨W.heap.size, 0, none⟩ = some (.func (.yield yl) #[] #[]) from (q.cell (p := ⟨W.heap.size, 0, none⟩) (cell_lt h3.y)).trans h3.y))
          have zl : zs.length = pre.length := by have := congrArg List.length h1; rwa [List.length_map, List.length_map] at this
          have YLD := Lib.hid (fun (V' : World) (q : Kp V V') (D : Option Addr) (dd : Nat) (hd : x.1.length + 1 + 1 ≤ dd) (hl : Lies V' D (nz (a :: tk :: x.1))) =>
            yieldAt_any 8 (HY.out (ys ++ zs) (a :: tk :: x.1, D, dd) V' (HJ.out _ _ _ h2 (Below.mono q (by omega))) (by have := q.size; omega) ⟨hl, hd, MEM.out x.1 hx.2.2⟩ (by rw [List.length_append, YL.out, zl]; have := LEN.out; omega)))
          have FIN := Lib.hid (fun (V3 V4 : World) (D : Option Addr) (dd : Nat) (q : Kp V V3) (j4 : J (ys ++ zs ++ [(a :: tk :: x.1, D, dd)]) V4) (k4 : Kept T V3 V4) =>
            (show Kept T V V4 ∧ ∃ zs' : List Orw, zs'.map (·.1) = (pre ++ [x]).map (fun y => a :: tk :: y.1) ∧ J (ys ++ zs') V4 ∧ Pr2 W.heap.size B0 yl n c (some ad) (a :: t) V4 ∧ PrC Pb R (a : Int) (tk : Int) V4 ∧ Mkd W.heap.size rs V4 ∧ w3.heap.size ≤ V4.heap.size from by
              have kk : Kept T V V4 := (Kept.of q).trans k4
              refine ⟨kk, zs ++ [(a :: tk :: x.1, D, dd)], ?_, ?_, h3.kept kk TY t0 tA, h4.kept kk (hnt _ (by omega)) (hnt _ (by omega)), h5.kept kk hTl, Nat.le_trans h6 kk.size⟩
              · rw [List.map_append, h1, List.map_append]; rfl
              · rw [← List.append_assoc]; exact j4))
          have cP : V.drew.cell? ⟨Pb, 0, none⟩ = some (.slice (some ⟨R, 0, none⟩) 2 2) := h4.v
          have cY := YV.out V.drew ((Kp.rfl' V).drewN 1)
          have cY1 := YV.out (V.drew.alloc O) (((Kp.rfl' V).drewN 1).new O)
          have cY2 := YV.out (V.alloc O).drew (((Kp.rfl' V).new O).drewN 1)
          have hmix : Tryd.prog.follows .mixedOrders = true := by kernel_rfl
          rw [hO] at cY1 cY2
          have KV1 := Lib.hid (show Kp V (V.alloc O).drew from ((Kp.rfl' V).new O).drewN 1)
          rw [hO] at KV1
          clear hO h1 h2 h3 h4 h5 h6 hx hlen hr hlt zl hxl hnb hnt hTl TY t0 tA SEQ PRK MEM LEN YL HYS HJS HPP HMM HSZ KW3 HY HJ HT XV CC PN PA
          gi_wp2
          gi_region_with_o (first
            | (refine ⟨trivial, ?_⟩; refine (CallsIn.inRound _ (callsIn_wide.2 (CO.out V.heap.size _ KV1.out ((cell_made V _ _ _ 0 rfl).trans rfl) ((cell_made V _ _ _ 1 rfl).trans rfl)))).mono ?_; rintro e V3 ⟨D, dd, rfl, hdd, hlD, k3⟩; have K3 := Lib.hid (KV1.out.trans k3); have cY3 := YV.out V3 K3.out; obtain ⟨fn, tmps, assign, body, hyy, hR⟩ := YLD.out V3 K3.out D dd hdd hlD; unfold orEnc at hyy; dsimp only [List.length_cons] at hyy; have RR := Lib.hid hR; clear hR k3 hdd hlD)
            | (refine (roundIn_one RR.out).mono ?_; rintro e V4 ⟨rfl, j4, k4⟩; have F4 := Lib.hid (FIN.out V3 V4 D dd K3.out j4 k4); clear j4 k4))
          all_goals
            gi_wp2
            exact F4.out
  · obtain rfl : j = n := by omega
    gi_wp2
    refine leaves_marks rs wr hM fun w' k' => ?_
    exact ⟨_, results_none rfl _ _ _, ⟨_, rfl⟩, ys, by rw [hys, show k = p by have := NP.out; omega], HJ.out _ _ _ hJs k'⟩

set_option maxHeartbeats 1600000 in
/-- The iterator over all partitions into pairs, of at most six numbers. -/
theorem pairings_in : ∀ (u : Nat), u ≤ 6 → ∀ (l : List Nat) (n c : Nat) (A : Option Addr) (B0 : Nat) (T : Nat → Prop) (w0 : World), l.length = n → n ≤ u → n ≤ c → ¬ T B0 → (∀ ad, A = some ad → ¬ T ad.block) → Lies w0 A (nz l) → w0.cell? ⟨B0, 0, none⟩ = some (.slice A n c) →
      SeqLo Fence.wide 12 Tryd.prog 22 #[.pointer (some ⟨B0, 0, none⟩)] orEnc (OrW (Zx.prs u l)) T (fun ys => ys.map (·.1) = Zx.prs u l) (Zx.prs u l).length w0
  | u, _, [], n, c, A, B0, T, w0, hl, _, _, t0, _, _, c0 => by
    subst hl
    exact pairings_nil u c A B0 T t0 w0 c0
  | 0, _, a :: t, n, c, A, B0, T, w0, hl, hn, _, _, _, _, _ => by
    rw [List.length_cons] at hl
    omega
  | u + 1, hu, a :: t, n, c, A, B0, T, w0, hl, hn, hc, t0, tA, hA, c0 => by
    rw [List.length_cons] at hl
    exact pairings_step u (by omega) (pairings_in u (by omega)) a t t.length n c A B0 T w0 rfl hl.symm (by omega) hc t0 tA hA c0
end Go.Proofs.YtkebjmapdcbnaaaDoor

/- slices.Clone of a row of numbers, for all packages. -/
namespace Go.Proofs.YtkebjmapdcbnaaaDoor
open Go.ChangeShapes Go.WideShapes Go.ChangeAt Go.RowKit
set_option linter.unusedVariables false

theorem sclone_any (A : Option Addr) (l : List Int) (c : Nat) (w : World) (hl : Lies w A l) (hn : l.length ≤ 1000000) :
    Calls Tryd.prog 24 #[.slice A l.length c] w fun e w' => SomeRow l w e w' := by
  have HL := Lib.hid hl
  have q22 : ∀ (w : World) (a : Option Addr) (n c n' c' : Nat), (binOp .eql 33 (.slice a n c) (.slice none n' c')).run Tryd.prog w = .ok (.bool a.isNone) w := fun w a n c n' c' => Lib.run_eql_slice_nil w _ _ a n c n' c' Tryd.underlying33
  rcases A with _ | ad
  · obtain rfl : l = [] := by
      rcases Nat.eq_zero_or_pos l.length with h0 | h0
      · exact List.eq_nil_of_length_eq_zero h0
      · obtain ⟨ad, h, _⟩ := hl 0 h0; cases h
    clear hl
    go_enter Tryd.func24, Tryd.ntmps24
    go_wp2_with fail
    go_ret
    exact ⟨_, rfl, Own.none _ _, Kp.rfl' _⟩
  · clear hl
    have hm : Own (w.alloc (.cells #[] 3)) w.heap.size (.slice (some ⟨w.heap.size, 0, none⟩) 0 0) [] := World.ownsRow_made w #[] 0 (Nat.le_refl _) (Nat.zero_le _) rfl
    have HM := Lib.hid hm
    have HK := Lib.hid ((Kp.rfl' w).new (.cells #[] 3))
    clear hm
    go_enter Tryd.func24, Tryd.ntmps24
    go_wp2_with (at_builtin; refine wpList_cat rfl _ _ rfl w.heap.size _ [] l (some ad) l.length c rfl rfl rfl HM.out (HL.out.keep HK.out) (by simp; omega) (by simp) ?_; intro v' w' h1 h2 _)
    have HO := Lib.hid h1
    have HK' := Lib.hid (own_below HM.out HK.out (by simp) h2)
    clear h1 h2
    go_wp2_with fail
    go_ret
    exact ⟨v', rfl, HO.out, HK'.out⟩

end Go.Proofs.YtkebjmapdcbnaaaDoor

/- More on matrices of the call's own: heads that change places, a row of numbers beside them, and what a store into their rows leaves. For all packages. -/
namespace Go.Proofs.YtkebjmapdcbnaaaDoor
open Go.ChangeShapes Go.WideShapes Go.ChangeAt Go.RowKit
set_option linter.unusedVariables false

/-- The heads of r rows of c numbers. -/
def hds (r c : Nat) (G C : Nat → Nat) : List Value := (List.range r).map fun i => Value.slice (some ⟨G i, 0, none⟩) c (C i)
theorem len_hds (r c : Nat) (G C : Nat → Nat) : (hds r c G C).length = r := by simp [hds]
theorem heads_tab (G C : Nat → Nat) (r c : Nat) (f : Nat → Nat → Int) : heads G C (Mx.tab r c f) = hds r c G C := by
  unfold heads hds
  rw [Mx.len_tab]
  refine List.map_congr_left fun i hi => ?_
  rw [Mx.tab_len _ _ _ _ (List.mem_range.1 hi)]
theorem hds_set (r c : Nat) (G C : Nat → Nat) (i x d : Nat) :
    (hds r c G C).set i (Value.slice (some ⟨x, 0, none⟩) c d) = hds r c (fun k => if k = i then x else G k) (fun k => if k = i then d else C k) := by
  refine List.ext_getElem (by simp [hds]) fun k h1 h2 => ?_
  simp only [hds, List.getElem_set, List.getElem_map, List.getElem_range]
  by_cases e : i = k
  · subst e; simp
  · rw [if_neg e, if_neg (fun e' => e e'.symm), if_neg (fun e' => e e'.symm)]

/-- As OwnM, but two heads may name the same row. -/
structure OwnH (w : World) (B : Nat) (v : Value) (G C : Nat → Nat) (r c : Nat) (f : Nat → Nat → Int) : Prop where
  top : w.ownsRow B 33 1 v r (hds r c G C)
  row : ∀ i, i < r → Own w B (.slice (some ⟨G i, 0, none⟩) c (C i)) (Mx.row c (f i))
theorem OwnM.weak {w : World} {B : Nat} {v : Value} {G C : Nat → Nat} {r c : Nat} {f : Nat → Nat → Int} (h : OwnM w B v G C (Mx.tab r c f)) : OwnH w B v G C r c f := by
  refine ⟨?_, fun i hi => ?_⟩
  · have := h.top
    rwa [heads_tab, Mx.len_tab] at this
  · have := h.row i (by rw [Mx.len_tab]; exact hi)
    rwa [Mx.tab_at _ _ _ _ hi, Mx.len_row] at this
theorem OwnH.strong {w : World} {B : Nat} {v : Value} {G C : Nat → Nat} {r c : Nat} {f : Nat → Nat → Int} (h : OwnH w B v G C r c f) (ha : ∀ i j, i < r → j < r → i ≠ j → G i ≠ G j) : OwnM w B v G C (Mx.tab r c f) := by
  refine ⟨?_, fun i hi => ?_, fun i j hi hj => ?_⟩
  · rw [heads_tab, Mx.len_tab]; exact h.top
  · rw [Mx.len_tab] at hi
    rw [Mx.tab_at _ _ _ _ hi, Mx.len_row]; exact h.row i hi
  · rw [Mx.len_tab] at hi hj; exact ha i j hi hj
theorem OwnH.kp {w w' : World} {B : Nat} {v : Value} {G C : Nat → Nat} {r c : Nat} {f : Nat → Nat → Int} (h : OwnH w B v G C r c f) (hk : Kp w w') : OwnH w' B v G C r c f :=
  ⟨ownsRow_kp h.top hk, fun i hi => (h.row i hi).kp hk⟩
theorem OwnH.ext {w : World} {B : Nat} {v : Value} {G C : Nat → Nat} {r c : Nat} {f f' : Nat → Nat → Int} (h : OwnH w B v G C r c f) (e : ∀ i j, i < r → j < c → f i j = f' i j) : OwnH w B v G C r c f' :=
  ⟨h.top, fun i hi => by rw [← Mx.row_ext (fun j hj => e i j hi hj)]; exact h.row i hi⟩
theorem OwnH.head {w : World} {B : Nat} {G C : Nat → Nat} {r c g n cap : Nat} {f : Nat → Nat → Int} (h : OwnH w B (.slice (some ⟨g, 0, none⟩) n cap) G C r c f) {i : Nat} (hi : i < r) :
    w.cell? ⟨g, i, none⟩ = some (.slice (some ⟨G i, 0, none⟩) c (C i)) := by
  rcases h.top.2 with ⟨e, _⟩ | ⟨g', cap', cur, hv, hg, hh, hc, hm, hs, ht⟩
  · cases e
  · cases hv
    have ht' : cur.toList.take r = hds r c G C := by simpa using ht
    rw [cell_of_row _ _ i _ _ (0, 0) hh, ← Array.getElem?_toList, ← List.getElem?_take_of_lt hi, ht']
    simp [hds, hi]
theorem OwnH.el {w : World} {B : Nat} {v : Value} {G C : Nat → Nat} {r c : Nat} {f : Nat → Nat → Int} (h : OwnH w B v G C r c f) {i j : Nat} (hi : i < r) (hj : j < c) : w.cell? ⟨G i, j, none⟩ = some (.int .i64 (f i j)) := by
  have := own_cell (h.row i hi) j (by rw [Mx.len_row]; exact hj)
  rwa [Mx.row_at _ _ _ hj] at this
theorem OwnH.free {w : World} {B : Nat} {v : Value} {G C : Nat → Nat} {r c : Nat} {f : Nat → Nat → Int} (h : OwnH w B v G C r c f) {i : Nat} (hi : i < r) (j : Nat) : w.frozen? ⟨G i, j, none⟩ = false := own_free (h.row i hi) j
theorem OwnH.topFree {w : World} {B : Nat} {G C : Nat → Nat} {r c g n cap : Nat} {f : Nat → Nat → Int} (h : OwnH w B (.slice (some ⟨g, 0, none⟩) n cap) G C r c f) (i : Nat) : w.frozen? ⟨g, i, none⟩ = false := by
  rcases h.top.2 with ⟨e, _⟩ | ⟨g', cap', cur, hv, hg, hh, hc, hm, hs, ht⟩
  · cases e
  · cases hv; exact frozen_of_row w g i _ _ hh
theorem OwnH.topLe {w : World} {B : Nat} {G C : Nat → Nat} {r c g n cap : Nat} {f : Nat → Nat → Int} (h : OwnH w B (.slice (some ⟨g, 0, none⟩) n cap) G C r c f) : B ≤ g ∧ g < w.heap.size := World.ownsRow.lt h.top g rfl
theorem OwnH.lt {w : World} {B : Nat} {v : Value} {G C : Nat → Nat} {r c : Nat} {f : Nat → Nat → Int} (h : OwnH w B v G C r c f) {i : Nat} (hi : i < r) : B ≤ G i ∧ G i < w.heap.size := World.ownsRow.lt (h.row i hi) (G i) rfl
theorem OwnH.apartTop {w : World} {B : Nat} {G C : Nat → Nat} {r c g n cap : Nat} {f : Nat → Nat → Int} (h : OwnH w B (.slice (some ⟨g, 0, none⟩) n cap) G C r c f) {i : Nat} (hi : i < r) : G i ≠ g := fun e => top_ne h.top (h.row i hi) (by show some (G i) = some g; rw [e])
/-- A head is set to another row of the call's own. -/
theorem OwnH.set {w : World} {B : Nat} {G C : Nat → Nat} {r c g n cap : Nat} {f : Nat → Nat → Int} (h : OwnH w B (.slice (some ⟨g, 0, none⟩) n cap) G C r c f) {i : Nat} (hi : i < r) {x d : Nat} {l : Nat → Int} (hx : Own w B (.slice (some ⟨x, 0, none⟩) c d) (Mx.row c l)) :
    OwnH (w.setCell ⟨g, i, none⟩ (.slice (some ⟨x, 0, none⟩) c d)) B (.slice (some ⟨g, 0, none⟩) n cap) (fun k => if k = i then x else G k) (fun k => if k = i then d else C k) r c (fun k => if k = i then l else f k) := by
  refine ⟨?_, fun k hk => ?_⟩
  · rcases h.top.2 with ⟨e, _⟩ | ⟨g', cap', cur, hv, hg, hh, hc, hm, hs, ht⟩
    · cases e
    · cases hv
      refine ⟨by rw [len_hds, Nat.mul_one], .inr ⟨g, cap, cur.setIfInBounds i (.slice (some ⟨x, 0, none⟩) c d), rfl, hg, heap_setCell_same w g i _ _ _ hh, hc, hm, by rw [Array.size_setIfInBounds]; exact hs, ?_⟩⟩
      rw [Array.toList_setIfInBounds, List.take_set, ht, hds_set]
  · by_cases e : k = i
    · subst e
      simp only [if_true]
      exact own_store hx (fun e' => top_ne h.top hx (by show some x = some g; rw [e'])) _
    · simp only [if_neg e]
      exact own_store (h.row k hk) (h.apartTop hk) _

/-- Nothing but what stands in the blocks of these rows has turned. -/
structure Only (G : Nat → Nat) (r : Nat) (w w' : World) : Prop where
  os : w'.os = w.os
  tape : w'.tape = w.tape
  output : w'.output = w.output
  size : w.heap.size ≤ w'.heap.size
  block : ∀ b, b < w.heap.size → (∀ i, i < r → b ≠ G i) → w'.heap[b]? = w.heap[b]?
theorem Only.of {G : Nat → Nat} {r : Nat} {w w' : World} (h : Kp w w') : Only G r w w' := ⟨h.os, h.tape, h.output, h.size, fun b hb _ => h.block b hb⟩
theorem Only.refl (G : Nat → Nat) (r : Nat) (w : World) : Only G r w w := Only.of (Kp.rfl' w)
theorem Only.trans {G : Nat → Nat} {r : Nat} {a b c : World} (h : Only G r a b) (k : Only G r b c) : Only G r a c :=
  ⟨k.os.trans h.os, k.tape.trans h.tape, k.output.trans h.output, Nat.le_trans h.size k.size, fun i hi hn => (k.block i (Nat.lt_of_lt_of_le hi h.size) hn).trans (h.block i hi hn)⟩
theorem Only.drewN {G : Nat → Nat} {r : Nat} {a b : World} (h : Only G r a b) (n : Nat) : Only G r a (b.drewN n) := h.trans (Only.of ((Kp.rfl' b).drewN n))
theorem Only.put {G : Nat → Nat} {r : Nat} {a b : World} (h : Only G r a b) {i : Nat} (hi : i < r) (j : Nat) (u : Value) : Only G r a (b.setCell ⟨G i, j, none⟩ u) :=
  h.trans ⟨rfl, rfl, rfl, by simp [World.setCell], fun k _ hn => Below.heap_setCell _ _ _ _ (hn i hi)⟩
theorem Only.below {G : Nat → Nat} {r B : Nat} {w0 w w' : World} (h : Only G r w w') (hb : Below B w0 w) (hB : B ≤ w.heap.size) (hG : ∀ i, i < r → B ≤ G i) : Below B w0 w' :=
  hb.trans ⟨h.os, h.tape, h.output, h.size, fun k hk => h.block k (by omega) fun i hi e => by have := hG i hi; omega⟩
theorem Own.only {G : Nat → Nat} {r B : Nat} {w w' : World} {u : Value} {l : List Int} (h : Own w B u l) (ho : Only G r w w') (hn : ∀ b, u.ownBlock = some b → ∀ i, i < r → G i ≠ b) : Own w' B u l := by
  obtain ⟨h1, h2⟩ := h
  refine ⟨h1, ?_⟩
  rcases h2 with h2 | ⟨g, cap, cur, rfl, hg, hh, r⟩
  · exact .inl h2
  · refine .inr ⟨g, cap, cur, rfl, hg, ?_, r⟩
    rw [ho.block g ?_ fun i hi e => hn g rfl i hi e.symm]; exact hh
    rcases Nat.lt_or_ge g w.heap.size with hlt | hge
    · exact hlt
    · rw [Array.getElem?_eq_none hge] at hh; cases hh
/-- A store to another block leaves a row. -/
theorem Own.far {w : World} {B : Nat} {u : Value} {l : List Int} (h : Own w B u l) {a : Addr} (ha : u.ownBlock ≠ some a.block) (x : Value) : Own (w.setCell a x) B u l := by
  obtain ⟨h1, h2⟩ := h
  refine ⟨h1, ?_⟩
  rcases h2 with h2 | ⟨g, cap, cur, rfl, hg, hh, r⟩
  · exact .inl h2
  · refine .inr ⟨g, cap, cur, rfl, hg, ?_, r⟩
    rw [heap_setCell_other w a g x (fun e => ha (by show some g = some a.block; rw [e]))]; exact hh

/-- An append to another row leaves the matrix. -/
theorem OwnM.grown {w w' : World} {B : Nat} {v u : Value} {G C : Nat → Nat} {m : List (List Int)} (h : OwnM w B v G C m) (hg : w.grownBy w' u.ownBlock) (h1 : v.ownBlock = none ∨ v.ownBlock ≠ u.ownBlock) (h2 : ∀ i, i < m.length → some (G i) ≠ u.ownBlock) : OwnM w' B v G C m :=
  ⟨World.ownsRow.kept h.top hg h1, fun i hi => (h.row i hi).grown hg (.inr (h2 i hi)), h.apart⟩

theorem OwnM.liesM {w : World} {B n cap : Nat} {A : Option Addr} {G C : Nat → Nat} {m : List (List Int)} (h : OwnM w B (.slice A n cap) G C m) : LiesM w A m := by
  obtain ⟨A', c', e, hl, _⟩ := h.lies
  cases e; exact hl

/-- A matrix of the call's own, and a row of numbers beside it. -/
structure MatRow (w : World) (B : Nat) (g cap : Nat) (G C : Nat → Nat) (r c : Nat) (f : Nat → Nat → Int) (u : Value) (l : List Int) : Prop where
  mat : OwnM w B (.slice (some ⟨g, 0, none⟩) r cap) G C (Mx.tab r c f)
  row : Own w B u l
  far : ∀ b, u.ownBlock = some b → b ≠ g
  apart : ∀ b, u.ownBlock = some b → ∀ i, i < r → G i ≠ b
theorem MatRow.kp {w w' : World} {B g cap : Nat} {G C : Nat → Nat} {r c : Nat} {f : Nat → Nat → Int} {u : Value} {l : List Int} (h : MatRow w B g cap G C r c f u l) (hk : Kp w w') : MatRow w' B g cap G C r c f u l := ⟨h.mat.kp hk, h.row.kp hk, h.far, h.apart⟩
theorem MatRow.drewN {w : World} {B g cap : Nat} {G C : Nat → Nat} {r c : Nat} {f : Nat → Nat → Int} {u : Value} {l : List Int} (h : MatRow w B g cap G C r c f u l) (n : Nat) : MatRow (w.drewN n) B g cap G C r c f u l := h.kp ((Kp.rfl' w).drewN n)
theorem MatRow.start {w : World} {B g cap : Nat} {G C : Nat → Nat} {r c : Nat} {f : Nat → Nat → Int} (h : OwnM w B (.slice (some ⟨g, 0, none⟩) r cap) G C (Mx.tab r c f)) : MatRow w B g cap G C r c f (.slice none 0 0) [] :=
  ⟨h, Own.none _ _, (fun b hb => by cases hb), (fun b hb => by cases hb)⟩
theorem MatRow.ext {w : World} {B g cap : Nat} {G C : Nat → Nat} {r c : Nat} {f f' : Nat → Nat → Int} {u : Value} {l : List Int} (h : MatRow w B g cap G C r c f u l) (e : ∀ i j, i < r → j < c → f i j = f' i j) : MatRow w B g cap G C r c f' u l := ⟨h.mat.ext e, h.row, h.far, h.apart⟩
theorem MatRow.only {w w' : World} {B g cap : Nat} {G C : Nat → Nat} {r c : Nat} {f f' : Nat → Nat → Int} {u : Value} {l : List Int} (h : MatRow w B g cap G C r c f u l) (ho : Only G r w w') (hm : OwnM w' B (.slice (some ⟨g, 0, none⟩) r cap) G C (Mx.tab r c f')) : MatRow w' B g cap G C r c f' u l :=
  ⟨hm, h.row.only ho h.apart, h.far, h.apart⟩
theorem MatRow.put {w : World} {B g cap : Nat} {G C : Nat → Nat} {r c : Nat} {f : Nat → Nat → Int} {u : Value} {l : List Int} (h : MatRow w B g cap G C r c f u l) {i : Nat} (hi : i < r) (j : Nat) (x : Int) :
    MatRow (w.setCell ⟨G i, j, none⟩ (.int .i64 x)) B g cap G C r c (fun a b => if a = i ∧ b = j then x else f a b) u l :=
  h.only ((Only.refl G r w).put hi j _) (h.mat.put hi j x)
/-- An append to the row beside it. -/
theorem MatRow.push {w w' : World} {B g cap : Nat} {G C : Nat → Nat} {r c : Nat} {f : Nat → Nat → Int} {u u' : Value} {l l' : List Int} (h : MatRow w B g cap G C r c f u l) (h1 : Own w' B u' l') (hg : w.grownBy w' u.ownBlock) (ha : At w u u') : MatRow w' B g cap G C r c f u' l' := by
  have hl := World.ownsRow.lt h.mat.top g rfl
  have hG : ∀ i, i < r → G i < w.heap.size := fun i hi => (h.mat.lt (by rw [Mx.len_tab]; exact hi)).2
  refine ⟨h.mat.grown hg ?_ fun i hi e => ?_, h1, fun b hb => ?_, fun b hb i hi => ?_⟩
  · cases hu : u.ownBlock with
    | none => exact .inr (by intro e; cases e)
    | some b => exact .inr fun e => h.far b hu (Option.some.inj e).symm
  · rw [Mx.len_tab] at hi
    exact h.apart _ e.symm i hi rfl
  · rcases ha with e | e
    · exact h.far b (by rw [← e]; exact hb)
    · rw [e] at hb; have := Option.some.inj hb; omega
  · rcases ha with e | e
    · exact h.apart b (by rw [← e]; exact hb) i hi
    · rw [e] at hb; have := Option.some.inj hb; have := hG i hi; omega
/-- Two heads change places. -/
theorem MatRow.swap {w : World} {B g cap : Nat} {G C : Nat → Nat} {r c : Nat} {f : Nat → Nat → Int} {u : Value} {l : List Int} (h : MatRow w B g cap G C r c f u l) {a b : Nat} (ha : a < r) (hb : b < r) :
    MatRow ((w.setCell ⟨g, a, none⟩ (.slice (some ⟨G b, 0, none⟩) c (C b))).setCell ⟨g, b, none⟩ (.slice (some ⟨G a, 0, none⟩) c (C a))) B g cap
      (fun i => if i = b then G a else if i = a then G b else G i) (fun i => if i = b then C a else if i = a then C b else C i) r c (fun i => if i = b then f a else if i = a then f b else f i) u l := by
  have hw := h.mat.weak
  have ap : ∀ i j, i < r → j < r → i ≠ j → G i ≠ G j := fun i j hi hj => h.mat.apart i j (by rw [Mx.len_tab]; exact hi) (by rw [Mx.len_tab]; exact hj)
  have h1 := hw.set ha (hw.row b hb)
  have ra := own_store (hw.row a ha) (a := ⟨g, a, none⟩) (hw.apartTop ha) (Value.slice (some ⟨G b, 0, none⟩) c (C b))
  have h2 := h1.set hb ra
  refine ⟨h2.strong fun i j hi hj hne => ?_, (h.row.far (a := ⟨g, a, none⟩) (fun e => h.far _ e rfl) _).far (a := ⟨g, b, none⟩) (fun e => h.far _ e rfl) _, h.far, fun k hk i hi => ?_⟩
  · split <;> split <;> (try split) <;> (try split) <;> apply ap <;> omega
  · split
    · exact h.apart k hk a ha
    · split
      · exact h.apart k hk b hb
      · exact h.apart k hk i hi

/-- Row p comes to row a's place, and a new row to row p's. -/
theorem MatRow.rehead {w w' : World} {B g cap : Nat} {G C : Nat → Nat} {r c : Nat} {f : Nat → Nat → Int} {u : Value} {l : List Int} (h : MatRow w B g cap G C r c f u l) {a p : Nat} (ha : a < r) (hp : p < r)
    (hk : Kp (w.setCell ⟨g, a, none⟩ (.slice (some ⟨G p, 0, none⟩) c (C p))) w') {go co : Nat} {h1 : Nat → Int} (ho : Own w' w.heap.size (.slice (some ⟨go, 0, none⟩) c co) (Mx.row c h1)) :
    MatRow (w'.setCell ⟨g, p, none⟩ (.slice (some ⟨go, 0, none⟩) c co)) B g cap (fun i => if i = p then go else if i = a then G p else G i) (fun i => if i = p then co else if i = a then C p else C i) r c
      (fun i => if i = p then h1 else if i = a then f p else f i) u l := by
  have hw := h.mat.weak
  have ap : ∀ i j, i < r → j < r → i ≠ j → G i ≠ G j := fun i j hi hj => h.mat.apart i j (by rw [Mx.len_tab]; exact hi) (by rw [Mx.len_tab]; exact hj)
  have hB := hw.topLe
  have hgo : w.heap.size ≤ go := (World.ownsRow.lt ho go rfl).1
  have h2 := ((hw.set ha (hw.row p hp)).kp hk).set hp (ho.from (B' := B) (by omega))
  refine ⟨h2.strong fun i j hi hj hne => ?_, ((h.row.far (a := ⟨g, a, none⟩) (fun e => h.far _ e rfl) _).kp hk).far (a := ⟨g, p, none⟩) (fun e => h.far _ e rfl) _, h.far, fun k hk' i hi => ?_⟩
  · have hG : ∀ i, i < r → G i ≠ go := fun i hi => by have := (hw.lt hi).2; omega
    split <;> split <;> (try split) <;> (try split) <;> first | omega | exact hG _ (by omega) | exact (hG _ (by omega)).symm | (apply ap <;> omega)
  · have hlt := (World.ownsRow.lt h.row k hk').2
    split
    · omega
    · split
      · exact h.apart k hk' p hp
      · exact h.apart k hk' i hi

/-- A matrix made by make is a matrix of the call's own. -/
theorem Row.own {w : World} {B g n : Nat} {l : List Int} (h : Row w g l) (hB : B ≤ g) (hn : l.length = n) (hm : n ≤ 17000000000000) : Own w B (.slice (some ⟨g, 0, none⟩) n n) l := by
  subst hn
  refine ⟨by simp, .inr ⟨g, l.length, (ints l).toArray, rfl, hB, h, Nat.le_refl _, by unfold maxLen; omega, by simp, by simp [List.take_of_length_le]⟩⟩
theorem Grid.own {w : World} {B g : Nat} {G : Nat → Nat} {r c : Nat} {f : Nat → Nat → Int} (h : Grid w g G r c f) (hB : B ≤ g) (hr : r ≤ 1000) (hc : c ≤ 1000) : OwnM w B (.slice (some ⟨g, 0, none⟩) r r) G (fun _ => c) (Mx.tab r c f) := by
  refine OwnH.strong ⟨⟨by rw [len_hds, Nat.mul_one], .inr ⟨g, r, _, rfl, hB, h.head, Nat.le_refl _, by unfold maxLen; omega, by simp, ?_⟩⟩, fun i hi => (h.row i hi).own (by have := h.after i hi; omega) (Mx.len_row _ _) (by omega)⟩ h.apart
  simp [hds, List.take_of_length_le]
end Go.Proofs.YtkebjmapdcbnaaaDoor

/- Contracts of package det, first part: ascending, Sign. -/
namespace Go.Proofs.YtkebjmapdcbnaaaDoor
open Go.ChangeShapes Go.WideShapes Go.ChangeAt Go.RowKit
set_option linter.unusedVariables false


/-- Where the sorting of an order stands: x times the sign of what is left is the order's sign; the first k are at their places. -/
structure Srt (w0 w : World) (g n c : Nat) (S : Fp.F) (k : Nat) (l : List Int) (x : Int) : Prop where
  own : Own w w0.heap.size (.slice (some ⟨g, 0, none⟩) n c) l
  len : l.length = n
  pm : x = 1 ∨ x = -1
  eq : Fp.ofInt x * Mx.sp n (fun i => l.getD i 0) = S
  fix : ∀ t, t < k → l.getD t 0 = (t : Int)
  kp : Kp w0 w
theorem Srt.next {w0 w : World} {g n c : Nat} {S : Fp.F} {k : Nat} {l : List Int} {x : Int} (h : Srt w0 w g n c S k l x) (e : l.getD k 0 = (k : Int)) : Srt w0 w g n c S (k + 1) l x :=
  ⟨h.own, h.len, h.pm, h.eq, fun t ht => by
    by_cases hk : t = k
    · rw [hk]; exact e
    · exact h.fix t (by omega), h.kp⟩
theorem getD_set2 {l : List Int} {k m : Nat} (hk : k < l.length) (hm : m < l.length) (x y : Int) (i : Nat) : ((l.set k x).set m y).getD i 0 = if i = m then y else if i = k then x else l.getD i 0 := by
  rw [List.getD_eq_getElem?_getD, List.getD_eq_getElem?_getD, List.getElem?_set, List.getElem?_set]
  by_cases h1 : i = m
  · rw [if_pos h1.symm, if_pos (by simpa using hm), if_pos h1]; rfl
  · rw [if_neg (fun e => h1 e.symm), if_neg h1]
    by_cases h2 : i = k
    · rw [if_pos h2.symm, if_pos hk, if_pos h2]; rfl
    · rw [if_neg (fun e => h2 e.symm), if_neg h2]
/-- Two numbers change places: the one that stood at place k comes home. -/
theorem Srt.swap {w0 w : World} {g n c : Nat} {S : Fp.F} {k : Nat} {l : List Int} {x : Int} (h : Srt w0 w g n c S k l x) (hk : k < n) {m : Nat} (hm : m < n) (e : l.getD k 0 = (m : Int)) (hne : m ≠ k) (h2 : l.getD m 0 ≠ (m : Int)) (hB : w0.heap.size ≤ g) :
    Srt w0 ((w.setCell ⟨g, k, none⟩ (.int .i64 (l.getD m 0))).setCell ⟨g, m, none⟩ (.int .i64 (m : Int))) g n c S k ((l.set k (l.getD m 0)).set m (m : Int)) (-x) ∧
      Mx.nf n (fun i => ((l.set k (l.getD m 0)).set m (m : Int)).getD i 0) < Mx.nf n fun i => l.getD i 0 := by
  have hg : ∀ i, ((l.set k (l.getD m 0)).set m (m : Int)).getD i 0 = l.getD (Mx.sw k m i) 0 := fun i => by
    rw [getD_set2 (by rw [h.len]; exact hk) (by rw [h.len]; exact hm)]
    by_cases h1 : i = m
    · rw [if_pos h1, h1, Mx.sw_right, e]
    · rw [if_neg h1]
      by_cases h3 : i = k
      · rw [if_pos h3, h3, Mx.sw_left]
      · rw [if_neg h3, Mx.sw_none h3 h1]
  refine ⟨⟨own_put (own_put h.own k _) m _, by rw [List.length_set, List.length_set]; exact h.len, ?_, ?_, fun t ht => ?_, (h.kp.put (p := ⟨g, k, none⟩) hB _).put (p := ⟨g, m, none⟩) hB _⟩, ?_⟩
  · rcases h.pm with a | a <;> rw [a] <;> simp
  · rw [Mx.sp_congr (t := fun i => l.getD (Mx.sw k m i) 0) fun i _ => hg i, Mx.sp_swap (fun i => l.getD i 0) hk hm (fun e => hne e.symm), Mx.ofInt_neg, ← h.eq]; grind
  · have h3 := h.fix t ht
    have : t ≠ m := fun e => by rw [e] at h3; exact h2 h3
    rw [hg, Mx.sw_none (by omega) this]; exact h3
  · refine Mx.nf_lt n (m := m) (fun i hi h3 => ?_) hm h2 ?_
    · have a1 : i ≠ m := fun e => by rw [e] at h3; exact h2 h3
      have a2 : i ≠ k := fun e2 => by rw [e2] at h3; rw [h3] at e; omega
      rw [hg, Mx.sw_none a2 a1]; exact h3
    · rw [hg, Mx.sw_right]; exact e

/-- The sign of an order comes out. -/
def Signed (S : Fp.F) (w : World) (e : Ending) (w' : World) : Prop := ∃ x, e = .returned (.int .i64 x) ∧ Mx.SgnIs S x ∧ Kp w w'
set_option maxRecDepth 100000 in
set_option maxHeartbeats 3200000 in
theorem Sign_pos (A : Option Addr) (l : List Int) (n c : Nat) (w : World) (hl : Lies w A l) (hn : l.length = n) (h0 : 0 < n) (h1 : n ≤ 1000) :
    Calls Tryd.prog 19 #[.slice A n c] w fun e w' => Signed (Mx.sp n fun i => l.getD i 0) w e w' := by
  have CL := Lib.hid (show Calls Tryd.prog 24 #[.slice A n c] w fun e w' => SomeRow l w e w' by
    rw [← hn]; exact sclone_any A l c w hl (by omega))
  obtain ⟨S, hS⟩ : ∃ S, S = Mx.sp n fun i => l.getD i 0 := ⟨_, rfl⟩
  rw [← hS]
  have HS := Lib.hid hS
  have HN := Lib.hid hn
  clear hl hS hn
  go_enter Tryd.func19, Tryd.ntmps19
  go_wp2_with fail
  refine (CL.out).mono ?_; rintro e w1 ⟨v, rfl, ho, hk⟩
  obtain ⟨g, cap, rfl, hg, hcap⟩ := own_some ho (by rw [HN.out]; exact h0)
  rw [HN.out] at ho hcap ⊢
  have ST := Lib.hid (show Srt w w1 g n cap S 0 l 1 from ⟨ho, HN.out, .inl rfl, by rw [← HS.out, show Fp.ofInt 1 = 1 from rfl]; grind, fun t ht => absurd ht (by omega), hk⟩)
  have HB := Lib.hid hg
  clear ho hk hg
  go_wp2_with fail
  go_loopw [3, 11] (fun s i wr => ∃ (k : Nat) (l : List Int) (x : Int), k ≤ n ∧ i = .int .i64 (k : Int) ∧ s = .int .i64 x ∧ Srt w wr g n cap S k l x) (fun _ i _ => n - (intOf i).toNat)
  case atStart => exact ⟨0, l, 1, Nat.zero_le _, rfl, rfl, ST.out⟩
  case round =>
    clear ST HS HN
    obtain ⟨k, l, x, hk, rfl, rfl, st⟩ := hrel
    by_cases hlt : k < n
    · have ST := Lib.hid st
      clear st
      go_wp2_with fail
      go_loopg [3] (Mx.nf n fun i => l.getD i 0) (fun q s wq => ∃ (l : List Int) (x : Int), s = .int .i64 x ∧ Srt w wq g n cap S k l x ∧ Mx.nf n (fun i => l.getD i 0) = q)
      case atStart => exact ⟨l, x, rfl, ST.out, rfl⟩
      case round =>
        clear ST
        obtain ⟨l, x, rfl, st, hq⟩ := hrel
        have ST := Lib.hid st
        have HQ := Lib.hid hq
        have c1 := own_cell st.own k (by rw [st.len]; exact hlt)
        have z1 := own_free st.own k
        have hxb : -1 ≤ x ∧ x ≤ 1 := by rcases st.pm with a | a <;> omega
        obtain ⟨y, hy⟩ : ∃ y, y = l.getD k 0 := ⟨_, rfl⟩
        rw [← hy] at c1
        have HY := Lib.hid hy
        clear st hq hy
        by_cases e : y = (k : Int)
        · have e1 : (y != (k : Int)) = false := by rw [e]; simp
          have ST2 := Lib.hid (ST.out.next (by rw [← HY.out]; exact e))
          clear e
          go_wp2_with fail
          go_roundw
          case rel => exact ⟨k + 1, l, x, by omega, by go_num, rfl, ST2.out⟩
          case measure => simp [intOf]; omega
        · have e1 : (y != (k : Int)) = true := by rw [bne_iff_ne]; exact e
          have ZERO := Lib.hid (fun h : Mx.sp n (fun i => l.getD i 0) = 0 => show Mx.SgnIs S 0 from ⟨.inr (.inr rfl), by rw [← ST.out.eq, h, show Fp.ofInt 0 = 0 from rfl]; grind⟩)
          by_cases h2 : y < 0
          · have Z := Lib.hid (ZERO.out (Mx.sp_out hlt (.inl (by rw [← HY.out]; exact h2))))
            clear e ZERO
            go_wp2_with fail
            go_ret
            exact ⟨0, rfl, Z.out, ST.out.kp⟩
          · by_cases h3 : (n : Int) ≤ y
            · have Z := Lib.hid (ZERO.out (Mx.sp_out hlt (.inr (by rw [← HY.out]; exact h3))))
              clear e ZERO
              go_wp2_with fail
              go_ret
              exact ⟨0, rfl, Z.out, ST.out.kp⟩
            · obtain ⟨m, rfl⟩ : ∃ m : Nat, y = (m : Int) := ⟨y.toNat, by omega⟩
              have hm : m < n := by omega
              have hne : m ≠ k := fun h => e (by rw [h])
              have c2 := own_cell ST.out.own m (by rw [ST.out.len]; exact hm)
              obtain ⟨z, hz⟩ : ∃ z, z = l.getD m 0 := ⟨_, rfl⟩
              rw [← hz] at c2
              have HZ := Lib.hid hz
              clear hz h2 h3 e
              by_cases e2 : z = (m : Int)
              · have e3 : (z == (m : Int)) = true := by rw [e2]; simp
                have Z := Lib.hid (ZERO.out (Mx.sp_twice hlt hm (fun h => hne h.symm) (by rw [← HY.out, ← HZ.out, e2])))
                clear ZERO e2
                go_wp2_with fail
                go_ret
                exact ⟨0, rfl, Z.out, ST.out.kp⟩
              · have e3 : (z == (m : Int)) = false := by rw [beq_eq_false_iff_ne]; exact e2
                have SW := Lib.hid (ST.out.swap hlt hm HY.out.symm hne (by rw [← HZ.out]; exact e2) HB.out)
                rw [← HZ.out] at SW
                have z3 := own_free (own_put ST.out.own k z) m
                have c3 : (wr.setCell ⟨g, k, none⟩ (.int .i64 z)).cell? ⟨g, m, none⟩ = some (.int .i64 z) := by
                  have hne' : (⟨g, k, none⟩ : Addr) ≠ ⟨g, m, none⟩ := fun e' => hne (by cases e'; rfl)
                  rw [World.cell?_setCell_other (w := wr) (v := .int .i64 z) (h := hne')]; exact c2

                have hwn : IntKind.i64.wrap (-x) = -x := IntWalk.i64_in _ (by omega)
                clear ZERO e2
                go_wp2_with fail
                go_roundg (Mx.nf n fun i => ((l.set k z).set m (m : Int)).getD i 0)
                case measure => rw [← HQ.out]; exact SW.out.2
                case rel => exact ⟨(l.set k z).set m (m : Int), -x, rfl, SW.out.1, rfl⟩
    · obtain rfl : k = n := by omega
      have Z := Lib.hid (show Mx.SgnIs S x from ⟨by rcases st.pm with a | a <;> simp [a], by
        rw [← st.eq, Mx.sp_id fun i hi => st.fix i hi]; grind⟩)
      have HK := Lib.hid st.kp
      clear st
      go_wp2_with fail
      go_ret
      exact ⟨x, rfl, Z.out, HK.out⟩

set_option maxRecDepth 100000 in
theorem Sign_zero (A : Option Addr) (c : Nat) (w : World) :
    Calls Tryd.prog 19 #[.slice A 0 c] w fun e w' => Signed 1 w e w' := by
  have CL := Lib.hid (sclone_any A [] c w (fun k hk => absurd hk (by simp)) (by simp))
  rw [List.length_nil] at CL
  go_enter Tryd.func19, Tryd.ntmps19
  go_wp2_with fail
  refine (CL.out).mono ?_; rintro e w1 ⟨v, rfl, ho, hk⟩
  obtain ⟨A1, c1, rfl, _, _⟩ := ho.cap
  rw [List.length_nil]
  have HK := Lib.hid hk
  clear ho hk
  go_wp2_with fail
  go_loopw [3, 11] (fun s i wr => i = .int .i64 0 ∧ s = .int .i64 1 ∧ wr = w1) (fun _ i _ => 0)
  case atStart => exact ⟨rfl, rfl, rfl⟩
  case round =>
    obtain ⟨rfl, rfl, rfl⟩ := hrel
    go_wp2_with fail
    go_ret
    exact ⟨1, rfl, ⟨.inl rfl, rfl⟩, HK.out⟩
theorem Sign_any (A : Option Addr) (l : List Int) (n c : Nat) (w : World) (hl : Lies w A l) (hn : l.length = n) (h1 : n ≤ 1000) :
    Calls Tryd.prog 19 #[.slice A n c] w fun e w' => Signed (Mx.sp n fun i => l.getD i 0) w e w' := by
  by_cases h0 : n = 0
  · subst h0; exact Sign_zero A c w
  · exact Sign_pos A l n c w hl hn (by omega) h1

end Go.Proofs.YtkebjmapdcbnaaaDoor

/- What the rounds over places keep: how many rows there are (for all packages). -/
namespace Go.Proofs.YtkebjmapdcbnaaaDoor
open Go.ChangeShapes Go.WideShapes Go.ChangeAt Go.RowKit Go.Shelf
set_option linter.unusedVariables false
attribute [local go_sem] Oper.semAt_some

/-- What a round keeps: how many rows there are. -/
def KeepN (Bs n : Nat) (W W' : World) : Prop := W.cell? ⟨Bs, 0, none⟩ = some (.int .i64 (n : Int)) → W'.cell? ⟨Bs, 0, none⟩ = some (.int .i64 (n : Int))
theorem keepN_t {Bs n : Nat} {a b c : World} (h : KeepN Bs n a b) (h' : KeepN Bs n b c) : KeepN Bs n a c := fun x => h' (h x)
theorem keepN_b {Bs n : Nat} (W : World) (l : Nat) (o o' : Obj) (ho : W.heap[l]? = some o) (h1 : o.isCells = false) : KeepN Bs n W (W.putObj l o') :=
  fun x => cell_kept x (grownBy_putObj' W l o') (fun r e => by cases e; exact ⟨_, ho, h1⟩)
theorem keepN_set {Bs n : Nat} (W : World) (p : Addr) (v : Value) (h : p.block ≠ Bs) : KeepN Bs n W (W.setCell p v) := fun x =>
  (World.cell?_setCell_far W p ⟨Bs, 0, none⟩ v h).trans x

theorem boxed_keptN {W W' : World} {row : Option Nat} {B : Nat} {t : TypeId} {v : Value} (h : Boxed W B t v) (hg : W.grownBy W' row)
    (hr : ∀ r, row = some r → ∃ o : Obj, W.heap[r]? = some o ∧ o.isCells = false) : Boxed W' B t v :=
  h.kept hg fun e => by
    obtain ⟨o, ho, hc⟩ := hr B e.symm
    rw [show W.heap[B]? = _ from h] at ho; cases ho; cases hc
theorem boxed_kp {W W' : World} {B : Nat} {t : TypeId} {v : Value} (h : Boxed W B t v) (hk : Kp W W') : Boxed W' B t v :=
  (hk.block B h.lt).trans h
theorem keeps_kp {W W' : World} (h : Kp W W') : KeepsOthers W W' := ⟨h.size, fun k o hk _ => (h.block k (Array.getElem?_eq_some_iff.1 hk).1).trans hk⟩
theorem boxed_far {W : World} {B : Nat} {t : TypeId} {v : Value} (h : Boxed W B t v) {p : Addr} (hp : B ≠ p.block) (u : Value) : Boxed (W.setCell p u) B t v := by
  unfold Boxed
  rw [heap_setCell_other W p B u hp]; exact h
theorem boxed_same {W : World} {B : Nat} {t : TypeId} {v : Value} (h : Boxed W B t v) : W.setCell ⟨B, 0, none⟩ v = W := by
  have hl := h.lt
  have e : (W.setCell ⟨B, 0, none⟩ v).heap = W.heap := by
    refine Array.ext (by simp [World.setCell]) fun i h1 h2 => ?_
    by_cases e : i = B
    · subst e
      have h3 := Boxed.set v h
      have h4 : W.heap[i]? = some (.cells #[v] t (0, 0)) := h
      have h5 : (W.setCell ⟨i, 0, none⟩ v).heap[i]? = some (.cells #[v] t (0, 0)) := h3
      rw [Array.getElem?_eq_getElem h1] at h5
      rw [Array.getElem?_eq_getElem h2] at h4
      exact Option.some.inj (h5.trans h4.symm)
    · have h3 := heap_setCell_other W ⟨B, 0, none⟩ i v e
      rw [Array.getElem?_eq_getElem h1, Array.getElem?_eq_getElem h2] at h3
      exact Option.some.inj h3
  show { W with heap := (W.setCell ⟨B, 0, none⟩ v).heap } = W
  rw [e]
theorem boxed_drewN {W : World} {B : Nat} {t : TypeId} {v : Value} (h : Boxed W B t v) (n : Nat) : Boxed (W.drewN n) B t v := h

end Go.Proofs.YtkebjmapdcbnaaaDoor

/- Contracts of package pfaff, third part: Of (a sum over all partitions into pairs), Det. -/
namespace Go.Proofs.YtkebjmapdcbnaaaDoor
open Go.ChangeShapes Go.WideShapes Go.ChangeAt Go.RowKit Go.Shelf
set_option linter.unusedVariables false
attribute [local go_sem] Oper.semAt_some

set_option maxRecDepth 100000 in
set_option maxHeartbeats 800000 in
theorem POf_bad (A : Option Addr) (m : List (List Int)) (n d : Nat) (w : World) (ha : LiesM w A m) (hn : m.length = n) (hz : pfcd m ≠ 0) :
    Calls Tryd.prog 9 #[.slice A n d] w fun e w' => e = .returned (.tuple #[.int .i64 0, .iface 34 (.int .i64 ((pfcd m : Nat) : Int))]) ∧ Kp w w' := by
  have k1 : Kp w (w.alloc (.cells #[.slice A n d] 22)) := (Kp.rfl' w).new _
  have CK := Lib.hid (PfChk_any A m n d _ (ha.keep k1) hn)
  rw [errOf_ne _ hz] at CK
  have K1 := Lib.hid k1
  generalize pfcd m = z at *
  clear ha hn hz k1
  go_enter Tryd.func9, Tryd.ntmps9
  go_wp2_with fail
  refine (CK.out).mono ?_; rintro e w1 ⟨rfl, rfl⟩
  go_wp2_with fail
  exact bodyPost_ret (v := .tuple #[.int .i64 0, .iface 34 (.int .i64 (z : Int))]) (by simp [results, Tryd.results9, go_sem]) rfl ⟨rfl, K1.out⟩

theorem own_snocP {w : World} {B : Nat} {v : Value} {l : List Int} {x : Int} (h : w.ownsRow B 3 1 v (l.length + 1) (ints l ++ [.int .i64 x])) : Own w B v (l ++ [x]) := by
  unfold Own
  rw [List.length_append, List.length_singleton, ints, List.map_append, List.map_singleton]
  exact h
/-- What is known between two rounds: the matrix and the sum. -/
structure OfI (w0 : World) (Bm Sb n d : Nat) (A : Option Addr) (f : Nat → Nat → Int) (pre : List Orw) (W : World) : Prop where
  m : W.cell? ⟨Bm, 0, none⟩ = some (.slice A n d)
  s : W.cell? ⟨Sb, 0, none⟩ = some (.int .i64 (Zx.osum (Zx.oval f) (pre.map (·.1))))
  fr : W.frozen? ⟨Sb, 0, none⟩ = false
  b : (Zx.osum (Zx.oval f) (pre.map (·.1))).natAbs ≤ pre.length * 729
  kp : Kp w0 W
theorem OfI.below {w0 : World} {Bm Sb n d : Nat} {A : Option Addr} {f : Nat → Nat → Int} {pre : List Orw} {W W' : World} {B : Nat} (h : OfI w0 Bm Sb n d A f pre W) (k : Below B W W') (h0 : Bm < B) (h1 : Sb < B) (h2 : w0.heap.size ≤ B) : OfI w0 Bm Sb n d A f pre W' :=
  ⟨(k.cell (p := ⟨Bm, 0, none⟩) h0).trans h.m, (k.cell (p := ⟨Sb, 0, none⟩) h1).trans h.s, (k.frozen (p := ⟨Sb, 0, none⟩) h1).trans h.fr, h.b, Below.trans h.kp (k.mono h2)⟩
theorem OfI.next {w0 : World} {Bm Sb n d : Nat} {A : Option Addr} {f : Nat → Nat → Int} {pre : List Orw} {W W' : World} {x : Orw} {z : Int} (h : OfI w0 Bm Sb n d A f pre W) (k : Kp W W') (hz : z = Zx.oval f x.1) (hb : (Zx.oval f x.1).natAbs ≤ 729) (h0 : Bm ≠ Sb) (h1 : w0.heap.size ≤ Sb) :
    OfI w0 Bm Sb n d A f (pre ++ [x]) (W'.setCell ⟨Sb, 0, none⟩ (.int .i64 (Zx.osum (Zx.oval f) (pre.map (·.1)) + z))) := by
  have e : Zx.osum (Zx.oval f) ((pre ++ [x]).map (·.1)) = Zx.osum (Zx.oval f) (pre.map (·.1)) + Zx.oval f x.1 := by rw [List.map_append, List.map_singleton, Zx.osum_snoc]
  have c1 := (k.cell (p := ⟨Bm, 0, none⟩) (cell_lt h.m)).trans h.m
  have c2 := (k.cell (p := ⟨Sb, 0, none⟩) (cell_lt h.s)).trans h.s
  have c3 := (k.frozen (p := ⟨Sb, 0, none⟩) (cell_lt h.s)).trans h.fr
  subst hz
  refine ⟨?_, ?_, ?_, ?_, (h.kp.trans k).put (p := ⟨Sb, 0, none⟩) h1 _⟩
  · rw [World.cell?_setCell_other (h := fun e => h0 (by cases e; rfl)), c1]
  · rw [e]; exact World.cell?_setCell_same _ _ _ c2
  · simp [c3]
  · rw [e, List.length_append, List.length_singleton]; have := h.b; omega

theorem kept_put {T : Nat → Prop} {W : World} (p : Addr) (v : Value) (ht : T p.block) : Kept T W (W.setCell p v) := ⟨rfl, rfl, rfl, by simp, fun k _ hn => Below.heap_setCell W p v k fun e => hn (e ▸ ht)⟩
theorem nz_range (k : Nat) : nz (List.range (k + 1)) = nz (List.range k) ++ [(k : Int)] := by unfold nz; rw [List.range_succ, List.map_append, List.map_singleton]

set_option maxRecDepth 100000 in
set_option maxHeartbeats 6400000 in
theorem POf_ok (A : Option Addr) (m : List (List Int)) (f : Nat → Nat → Int) (n d : Nat) (w : World) (s : Pz n f m) (ha : LiesM w A m) :
    Calls Tryd.prog 9 #[.slice A n d] w fun e w' => e = .returned (.tuple #[.int .i64 (Zx.pf n f), .nilIface]) ∧ Kp w w' := by
  have CK := Lib.hid (fun w' (k : Kp w w') => PfChk_any A m n d w' (ha.keep k) s.len)
  rw [s.code, errOf_zero] at CK
  have n0 := s.n0
  have n6 := s.n6
  have PF := Lib.hid (Zx.prs_pf n0 n6 f)
  have GD := Lib.hid (Zx.prs_good n n0 n6)
  have FW := Lib.hid (Zx.prs_few n n0 n6)
  have AB := Lib.hid s.ab
  rw [s.eq] at ha
  have HA := Lib.hid ha
  clear ha s
  refine (callsIn_wide (n := 12)).1 ?_
  refine callsIn_of_wp_marks Tryd.func9 rfl trivial ?_ rfl
  simp only [Tryd.ntmps9, List.size_toArray, List.length_cons, List.length_nil, Nat.reduceAdd, Nat.reduceSub, Array.replicate_succ, Array.replicate_zero, List.push_toArray, List.append_toArray, List.nil_append, List.cons_append]
  gi_wp2
  refine ⟨trivial, ?_⟩
  obtain ⟨w1, hw1⟩ : ∃ x, x = w.alloc (.cells #[.slice A n d] 22) := ⟨_, rfl⟩
  rw [← hw1]
  have k1 : Kp w w1 := by rw [hw1]; exact (Kp.rfl' w).new _
  have m1 : w1.cell? ⟨w.heap.size, 0, none⟩ = some (.slice A n d) := by rw [hw1]; exact (cell_made w _ _ w.heap.size 0 rfl).trans rfl
  have s1 : w1.heap.size = w.heap.size + 1 := by rw [hw1]; simp
  clear hw1
  refine (callsIn_wide.2 (CK.out w1 k1)).mono ?_; rintro e w2 ⟨rfl, rfl⟩
  have K1 := Lib.hid k1
  clear k1
  obtain ⟨i0, hi, hz0, hz1, hz2⟩ := info_parts int_info
  gi_wp2
  gi_loopw [5, 18] (fun v i wr => ∃ k : Nat, k ≤ n ∧ i = .int .i64 (k : Int) ∧ Own wr w1.heap.size v (nz (List.range k)) ∧ Kp w1 wr) (fun _ i _ => n - (intOf i).toNat)
  case atStart => exact ⟨0, Nat.zero_le _, rfl, Own.none _ _, Kp.rfl' _⟩
  case round =>
    obtain ⟨k, hk, rfl, hown, hkw⟩ := hrel
    have HO := Lib.hid hown
    have HK := Lib.hid hkw
    have hsq := hkw.size
    by_cases hlt : k < n
    · have NX := Lib.hid (nz_range k)
      have hlen : (nz (List.range k)).length ≤ 6 := by rw [nz_len, List.length_range]; omega
      generalize nz (List.range k) = row at *
      clear hown hkw
      gi_wp2_with (gi_at_builtin; refine wpListIn_append_own _ rfl _ _ 33 rfl w1.heap.size 3 i0 (.int .i64 0) 1 8 Tryd.underlying33 hi hz0 hz1 hz2 rfl (by decide) _ _ _ rfl (HO.out.new _) ⟨wr.heap.size, 0, none⟩ 1 1 [.int .i64 (k : Int)] rfl rfl (cell_one_new _ _ _) (by simp [Value.oneCell']) (by unfold maxLen; omega) (by omega) (by simp; omega) ?_; intro v' w' hown' hgrow _)
      have OW := Lib.hid (own_snocP hown')
      have KW := Lib.hid (show Kp w1 w' from own_below (HO.out.new _) (HK.out.new _) (Nat.le_trans hsq (by simp)) hgrow)
      clear hown' hgrow
      gi_wp2
      go_roundw
      case rel => exact ⟨k + 1, by omega, by go_num, by rw [NX.out]; exact OW.out, KW.out⟩
      case measure => simp [intOf]; omega
    · obtain rfl : k = n := by omega
      clear hlt hk
      obtain ⟨wo, hwo⟩ : ∃ x, x = wr := ⟨_, rfl⟩
      subst hwo
      obtain ⟨g, c, rfl, hg, hgc⟩ := own_some hown (by rw [nz_len, List.length_range]; omega)
      obtain ⟨A', c', hv, hl, _⟩ := hown.cap
      injection hv with hv1 hv2 hv3
      subst hv1
      rw [nz_len, List.length_range] at hgc
      have e0 : (nz (List.range k)).length = k := by rw [nz_len, List.length_range]
      rw [e0]
      have gl : g < wo.heap.size := by
        obtain ⟨ad, e, h, _⟩ := hl 0 (by rw [e0]; exact n0)
        cases e; exact h
      clear e0 hv2 hv3 HO
      obtain ⟨w3, hw3⟩ : ∃ x, x = wo.alloc (.cells #[.int .i64 0] 3) := ⟨_, rfl⟩
      have k3 : Kp wo w3 := by rw [hw3]; exact (Kp.rfl' wo).new _
      have c3 : w3.cell? ⟨wo.heap.size, 0, none⟩ = some (.int .i64 0) := by rw [hw3]; exact (cell_made wo _ _ wo.heap.size 0 rfl).trans rfl
      have f3 : w3.frozen? ⟨wo.heap.size, 0, none⟩ = false := by rw [hw3]; simp
      have s3 : w3.heap.size = wo.heap.size + 1 := by rw [hw3]; simp
      gi_wp2
      rw [← hw3]
      clear hw3
      refine ⟨trivial, ?_⟩
      refine (callsIn_wide.2 (pairings_any (some ⟨g, 0, none⟩) k c w3)).mono ?_; rintro e w4 ⟨rfl, hw4⟩
      have k4 : Kp w3 w4 := by rw [hw4]; exact (Kp.rfl' w3).new _
      have c4 : w4.cell? ⟨w3.heap.size, 0, none⟩ = some (.slice (some ⟨g, 0, none⟩) k c) := by rw [hw4]; exact (cell_made w3 _ _ w3.heap.size 0 rfl).trans rfl
      have s4 : w4.heap.size = wo.heap.size + 2 := by rw [hw4]; simp [s3]
      clear hw4
      have hl4 : Lies w4 (some ⟨g, 0, none⟩) (nz (List.range k)) := (hl.keep k3).keep k4
      have I4 : OfI w w.heap.size wo.heap.size k d A f [] w4 := ⟨((HK.out.trans k3).trans k4).cell (p := ⟨w.heap.size, 0, none⟩) (by show w.heap.size < _; omega) |>.trans m1, (k4.cell (p := ⟨wo.heap.size, 0, none⟩) (cell_lt c3)).trans c3, (k4.frozen (p := ⟨wo.heap.size, 0, none⟩) (cell_lt c3)).trans f3, by show (0 : Int).natAbs ≤ _; simp, ((K1.out.trans HK.out).trans k3).trans k4⟩
      have SEQ := Lib.hid (SeqLo.any (m := 11) (pairings_in k n6 (List.range k) k c (some ⟨g, 0, none⟩) w3.heap.size (fun b => b = wo.heap.size ∨ b = w4.heap.size + 1) w4 List.length_range (Nat.le_refl _) hgc (by omega) (fun ad e => by cases e; show ¬ (g = _ ∨ g = _); omega) hl4 c4))
      have s34 : w3.heap.size < w4.heap.size := by omega
      rw [s3]
      rw [s3] at SEQ
      clear c3 f3 k3 k4 c4 hl hl4 hown hkw m1
      gi_wp2
      refine wpIn_rangeLow (F := Fence.wide) (n := 12) rfl (by decide) (gf := 22) (lb := #[.pointer (some ⟨wo.heap.size + 1, 0, none⟩)]) rfl trivial (enters_of Tryd.func22 (by kernel_rfl) rfl) (T0 := fun b => b = wo.heap.size)
        (fun b h => by omega)
        SEQ.out (fun _ => rfl)
        (fun (pre : List Orw) V => OfI w w.heap.size wo.heap.size k d A f pre V)
        (fun s' V V' h q => h.below q (by omega) (by omega) (by omega))
        I4
        (fun x a' V => OrW (Zx.prs k (List.range k)) x V ∧ a' = { tmps := #[.slice A k d, .pointer (some ⟨w.heap.size, 0, none⟩), .int .i64 0, .nilIface, .nilIface, .slice (some ⟨g, 0, none⟩) k c, u6, .pointer (some ⟨wo.heap.size, 0, none⟩), .slice x.2.1 x.1.length x.2.2, undef, undef, .slice A k d, .nilIface, .nilIface, .bool false, undef, .slice A k d, .int .i64 (k : Int), .int .i64 (k : Int), .bool false, u20, u21, u22, u23, u24, u25, .slice (some ⟨g, 0, none⟩) k c, .func (.func 22) #[] #[.pointer (some ⟨wo.heap.size + 1, 0, none⟩)], .slice x.2.1 x.1.length x.2.2, undef, undef, undef, undef, undef, undef, undef, undef, undef, undef, undef, undef, undef, undef, undef, undef, undef, undef, undef, undef, undef, undef, undef, undef, undef, undef, undef, undef], defers := [] })
        (fun x a' V r o hr ⟨h4, h5⟩ => ⟨⟨h4.1.putLoop hr o, h4.2⟩, h5⟩)
        ?assign ?body ?done
      case assign =>
        rintro pre x V K hlt hs hx hK
        unfold orEnc
        gi_wp2
        exact hK _ _ (Kp.rfl' _) ⟨hx, rfl⟩
      case done =>
        rintro xs V hlt hS hi' hD
        have E := PF.out
        rw [← hS] at E
        have y := hi'.s
        rw [E] at y
        have KD := Lib.hid (Below.trans hi'.kp (below_putObj (B := w.heap.size) V w4.heap.size (.deferred none) (by omega)))
        have HD := Lib.hid hD
        clear hi' hS E hD I4 SEQ
        gi_wp2
        refine ⟨by simp, .inl ⟨_, _, rfl, run_takeDeferred HD.out, ?_⟩⟩
        exact ⟨.tuple #[.int .i64 (Zx.pf k f), .nilIface], by simp [results, Tryd.results9, go_sem], rfl, KD.out⟩
      case body =>
        rintro pre x a' V hlt ⟨r, hr⟩ hi' ⟨hx, rfl⟩ hlen
        obtain ⟨o, Ao, co⟩ := x
        obtain ⟨hlo, hle, hmem⟩ := hx
        dsimp only at hlo hle hmem
        have hgd := GD.out o hmem
        have hbd := Zx.oval_bound n6 AB.out hgd
        have SGN := Lib.hid (fun (y : Int) (h : Mx.SgnIs (Mx.sp k fun i => (nz o).getD i 0) y) => Zx.pgood_sign hgd h)
        obtain ⟨ol, ev, olt, _, _⟩ := of_decide_eq_true hgd
        have SG := Lib.hid (Sign_any Ao (nz o) k co V hlo (by rw [nz_len, ol]) (by omega))
        have PM := Zx.osg_pm o
        have LB := Lib.hid (fun t (ht : t + t ≤ k) => Nat.le_trans (Zx.ledTo_bound AB.out olt PM t ht) (show 9 ^ t ≤ 729 from Nat.le_trans (Nat.pow_le_pow_right (by decide) (show t ≤ 3 by omega)) (by decide)))
        have LED := Lib.hid (show Zx.oval f o = Zx.ledTo f o (Zx.osg o) (k / 2) from Zx.lead_to f (k / 2) o (Zx.osg o) (by rw [ol]))
        have hx2 := hi'.s
        have hm2 := hi'.m
        have hf2 := hi'.fr
        have SB := Lib.hid hi'.b
        have NX := Lib.hid (fun (V' : World) (z : Int) (q : Kp V V') (hz : z = Zx.oval f o) => hi'.next (x := (o, Ao, co)) q hz hbd (by omega) (by omega))
        have HM := Lib.hid (HA.out.keep hi'.kp)
        have HL := Lib.hid hlo
        have PL : pre.length ≤ 15 := by have := FW.out; omega
        have OB : (Zx.oval f o).natAbs ≤ 729 := hbd
        obtain ⟨S0, hS0⟩ : ∃ S0, S0 = Zx.osum (Zx.oval f) (pre.map (·.1)) := ⟨_, rfl⟩
        rw [← hS0] at hx2 SB NX
        have SB1 : S0.natAbs ≤ 20000 := by have := SB.out; omega
        have OL := Lib.hid ol
        have EV := Lib.hid ev
        have OLT := Lib.hid olt
        rw [ol]
        obtain ⟨sg, hsg⟩ : ∃ sg, sg = Zx.osg o := ⟨_, rfl⟩
        rw [← hsg] at SGN LB LED PM
        obtain ⟨ov, hov⟩ : ∃ ov, ov = Zx.oval f o := ⟨_, rfl⟩
        rw [← hov] at LED NX OB
        have SBb := Lib.hid SB1
        have OBb := Lib.hid OB
        clear hS0 hsg hov hi' hlo hmem hgd hbd hle ol ev olt hlen hr hlt SEQ I4 PF GD FW CK SB PL
        refine wpIn_block ?_
        gi_wp2
        refine ⟨trivial, ?_⟩
        refine (CallsIn.inRound _ (callsIn_wide.2 SG.out)).mono ?_; rintro e V1 ⟨y, rfl, hy, kv1⟩
        have ey := SGN.out y hy
        subst ey
        have KV1 := Lib.hid kv1
        clear hy kv1 SGN SG
        gi_wp2
        gi_loopw [9, 10] (fun v i wq => ∃ t q : Nat, q = t + t ∧ q ≤ k ∧ i = .int .i64 (q : Int) ∧ v = .int .i64 (Zx.ledTo f o y t) ∧ Kp V1 wq) (fun _ i _ => k - (intOf i).toNat)
        case atStart => exact ⟨0, 0, rfl, Nat.zero_le _, rfl, rfl, Kp.rfl' _⟩
        case round =>
          obtain ⟨t, q, hq, hqk, rfl, rfl, hkq⟩ := hrel
          have KQ := Lib.hid hkq
          by_cases hlt : q < k
          · obtain ⟨q1, hq1⟩ : ∃ q1 : Nat, q1 = q + 1 := ⟨_, rfl⟩
            have hk1 : q1 < k := by have := EV.out; omega
            obtain ⟨ado, rfl, _, z0⟩ := (HL.out.keep (KV1.out.trans hkq)).num (k := q) (by rw [OL.out]; exact hlt)
            obtain ⟨ado', ea, _, z1⟩ := (HL.out.keep (KV1.out.trans hkq)).num (k := q1) (by rw [OL.out]; exact hk1)
            obtain rfl := Option.some.inj ea
            have a0 := OLT.out q hlt
            have b0 := OLT.out q1 hk1
            have ST := Lib.hid (show Zx.ledTo f o y (t + 1) = Zx.ledTo f o y t * f (o.getD q 0) (o.getD q1 0) by rw [hq1, hq]; rfl)
            have B1 := LB.out t (by omega)
            have B2 := LB.out (t + 1) (by omega)
            rw [ST.out] at B2
            generalize Zx.ledTo f o y t = P at *
            generalize o.getD q 0 = a at *
            generalize o.getD q1 0 = b at *
            obtain ⟨adm, Ar, dr, rfl, _, xr, _, hR⟩ := (HM.out.keep (KV1.out.trans hkq)).row a0
            obtain ⟨adr, rfl, _, xe⟩ := hR.el b0
            have m0 := ((KV1.out.trans hkq).cell (p := ⟨w.heap.size, 0, none⟩) (cell_lt hm2)).trans hm2
            have hw1 : IntKind.i64.wrap (P * f a b) = P * f a b := IntWalk.i64_in _ (by omega)
            have hw2 : (q : Int) + 1 = (q1 : Int) := by omega
            have hw3 : IntKind.i64.wrap (q1 : Int) = (q1 : Int) := IntWalk.i64_in _ (by omega)
            have QQ := Lib.hid hq
            have hw4 : IntKind.i64.wrap ((q : Int) + 2) = (q : Int) + 2 := IntWalk.i64_in _ (by omega)
            have Q1 := Lib.hid hq1
            generalize f a b = c0 at *
            clear hq hq1 hkq hR B1 B2 ea hm2 hx2 hf2
            gi_wp2
            refine region_tail 16 (by kernel_rfl) (by kernel_rfl) (by kernel_rfl) ?_
            simp only [List.take_succ_cons, List.take_zero, List.drop_succ_cons, List.drop_zero]
            repeat still_step
            refine wpStill_nil ?_
            go_wp2_with fail
            refine ⟨rfl, ?_⟩
            gi_wp2
            go_roundw
            case rel => exact ⟨t + 1, q + 2, by rw [QQ.out]; omega, by have := Q1.out; omega, by go_num, by rw [ST.out], KQ.out.drewN 1⟩
            case measure => simp [intOf]; omega
          · have EN : y = y := rfl
            have E := Lib.hid (show Zx.ledTo f o y t = ov by rw [LED.out, show t = k / 2 by omega])
            rw [E.out]
            have u0 := ((KV1.out.trans hkq).cell (p := ⟨wo.heap.size, 0, none⟩) (cell_lt hx2)).trans hx2
            have u1 := ((KV1.out.trans hkq).frozen (p := ⟨wo.heap.size, 0, none⟩) (cell_lt hx2)).trans hf2
            have hw1 : IntKind.i64.wrap (S0 + ov) = S0 + ov := IntWalk.i64_in _ (by have := SBb.out; have := OBb.out; omega)
            have NE : w.heap.size ≠ wo.heap.size := by omega
            have NV := Lib.hid (NX.out wr ov (KV1.out.trans hkq) rfl)
            have KT := Lib.hid ((Kept.of (T := fun b => b = wo.heap.size) (KV1.out.trans hkq)).trans (kept_put ⟨wo.heap.size, 0, none⟩ (.int .i64 (S0 + ov)) rfl))
            clear hkq hx2 hm2 hf2
            gi_wp2
            exact ⟨KT.out, NV.out⟩
end Go.Proofs.YtkebjmapdcbnaaaDoor

/- How large a Pfaffian gets. -/
namespace Go.Proofs.YtkebjmapdcbnaaaDoor
set_option linter.unusedVariables false

theorem osum_bound {F : List Nat → Int} {B : Nat} : ∀ (l : List (List Nat)), (∀ o, o ∈ l → (F o).natAbs ≤ B) → (Zx.osum F l).natAbs ≤ l.length * B
  | [], _ => Nat.zero_le _
  | o :: t, h => by
    have h1 := h o (List.mem_cons_self ..)
    have h2 := osum_bound t fun x hx => h x (List.mem_cons_of_mem _ hx)
    show (F o + Zx.osum F t).natAbs ≤ (t.length + 1) * B
    rw [Nat.add_mul, Nat.one_mul]
    omega
theorem Pz.bound {n : Nat} {f : Nat → Nat → Int} {m : List (List Int)} (s : Pz n f m) : (Zx.pf n f).natAbs ≤ 10935 := by
  rw [← Zx.prs_pf s.n0 s.n6 f]
  have h1 := osum_bound (F := Zx.oval f) (B := 729) (Zx.prs n (List.range n)) fun o ho => Zx.oval_bound s.n6 s.ab (Zx.prs_good n s.n0 s.n6 o ho)
  have h2 := Zx.prs_few n s.n0 s.n6
  omega
end Go.Proofs.YtkebjmapdcbnaaaDoor

/- Contracts of the document's answer on matrices (package rankmereref1: Mod, Unit, Flip, Copy, MatMul, MatAdd, Matrix, Field). For all packages. -/
namespace Go.Proofs.YtkebjmapdcbnaaaDoor
open Go.ChangeShapes Go.WideShapes Go.ChangeAt Go.RowKit
set_option linter.unusedVariables false

theorem own_made {w : World} {base g n : Nat} (h : w.ownsRow base 3 1 (.slice (some ⟨g, 0, none⟩) n n) n (madeCells #[.int .i64 0] (n * 1)).toList) : Own w base (.slice (some ⟨g, 0, none⟩) n n) (Mx.row n fun _ => 0) := by
  unfold Own
  rw [Mx.len_row, ← Mx.row_rep]
  rw [toList_madeCells_one, Nat.mul_one] at h
  simpa [ints] using h
theorem rval (a : Fp.F) : 0 ≤ (a.val : Int) ∧ (a.val : Int) ≤ 9972 := by have := a.isLt; omega
theorem rprod (a b : Fp.F) : 0 ≤ (a.val : Int) * (b.val : Int) ∧ (a.val : Int) * (b.val : Int) ≤ 99440784 := by
  have h1 := rval a
  have h2 := rval b
  exact ⟨Int.mul_nonneg h1.1 h2.1, Int.mul_le_mul h1.2 h2.2 h2.1 (by decide)⟩
theorem rzero : ((0 : Fp.F).val : Int) = 0 := rfl


/-- A matrix that the call made. -/
def Made (r c : Nat) (f : Nat → Nat → Fp.F) (w : World) (e : Ending) (w' : World) : Prop := ∃ A d, e = .returned (.slice A r d) ∧ LiesM w' A (Mx.matl r c f) ∧ Kp w w'
/-- The same, to be written to. -/
def MadeOwn (r c : Nat) (f : Nat → Nat → Fp.F) (w : World) (e : Ending) (w' : World) : Prop := ∃ v G C, e = .returned v ∧ OwnM w' w.heap.size v G C (Mx.matl r c f) ∧ Kp w w'



end Go.Proofs.YtkebjmapdcbnaaaDoor

/- Contracts of the document's answer on matrices, second part: Copy, MatMul, MatAdd, Matrix, Field. For all packages. -/
namespace Go.Proofs.YtkebjmapdcbnaaaDoor
open Go.ChangeShapes Go.WideShapes Go.ChangeAt Go.RowKit
set_option linter.unusedVariables false

/-- Where the heads lie. -/
theorem OwnM.some {w : World} {B : Nat} {v : Value} {G C : Nat → Nat} {m : List (List Int)} (h : OwnM w B v G C m) (h0 : 0 < m.length) : ∃ g c, v = .slice (.some ⟨g, 0, .none⟩) m.length c ∧ B ≤ g := by
  rcases h.top.2 with ⟨_, h1⟩ | ⟨g, cap, cur, e, hg, _⟩
  · omega
  · exact ⟨g, cap, e, hg⟩




end Go.Proofs.YtkebjmapdcbnaaaDoor

/- Contracts of the document's answer on matrices, third part: All, Matrix, Field. For all packages. -/
namespace Go.Proofs.YtkebjmapdcbnaaaDoor
open Go.ChangeShapes Go.WideShapes Go.ChangeAt Go.RowKit
set_option linter.unusedVariables false

/-- The first k rows have no fault. -/
def rowsUp (lo hi : Int) (m : List (List Int)) (k : Nat) : Prop := Mx.rows lo hi (m.getD 0 []).length m = Mx.rows lo hi (m.getD 0 []).length (m.drop k)
theorem rowsUp_go {lo hi : Int} {m : List (List Int)} {k : Nat} (hk : k < m.length) (h : rowsUp lo hi m k) (h0 : Mx.rcode lo hi (m.getD 0 []).length (m.getD k []) = 0) : rowsUp lo hi m (k + 1) := by
  unfold rowsUp at *
  rw [h, Mx.rows_drop hk, if_pos h0]

set_option maxRecDepth 100000 in
set_option maxHeartbeats 3200000 in
theorem rMatrix_main (A : Option Addr) (m : List (List Int)) (n d q most : Nat) (lo hi : Int) (w : World) (ha : LiesM w A m) (hn : m.length = n) (hq : (m.getD 0 []).length = q) (h1 : 0 < n) (h2 : n ≤ most) (h3 : 0 < q) (h4 : q ≤ most) (hmo : most ≤ 1000) :
    Calls Tryd.prog 20 #[.slice A n d, .int .i64 (most : Int), .int .i64 lo, .int .i64 hi] w fun e w' => e = .returned (.int .i64 (Mx.mcode most lo hi m : Int)) ∧ Drew w w' := by
  have hm : Mx.mcode most lo hi m = Mx.rows lo hi (m.getD 0 []).length m := by
    unfold Mx.mcode
    rw [if_neg (by omega), if_neg (by omega)]
  rw [hm]
  obtain ⟨v, hv⟩ : ∃ v, v = Mx.rows lo hi (m.getD 0 []).length m := ⟨_, rfl⟩
  have hg0 : rowsUp lo hi m 0 := by unfold rowsUp; rw [List.drop_zero]
  have RNG := Lib.hid (fun (k : Nat) (hk : k < n) (hg : rowsUp lo hi m k) (h0 : Mx.rcode lo hi q (m.getD k []) ≠ 0) => show v = Mx.rcode lo hi q (m.getD k []) by
    unfold rowsUp at hg
    rw [hv, hg, Mx.rows_drop (by omega), hq, if_neg h0])
  have OKS := Lib.hid (fun (hg : rowsUp lo hi m n) => show v = 0 by
    unfold rowsUp at hg
    rw [hv, hg, Mx.rows_end (by omega)])
  have STP := Lib.hid (fun (k : Nat) (hk : k < n) (hg : rowsUp lo hi m k) (h0 : Mx.rcode lo hi q (m.getD k []) = 0) => rowsUp_go (by omega) hg (by rw [hq]; exact h0))
  rw [← hv]
  obtain ⟨ad, A0, d0, rfl, hlt0, hc0, _, hr0⟩ := ha 0 (by omega)
  rw [hq] at hc0
  rw [add_zero'] at hc0
  have HA := Lib.hid ha
  have HN := Lib.hid hn
  have G0 := Lib.hid hg0
  have C0 := Lib.hid hc0
  have e0 : ((n : Int) == 0) = false := by rw [beq_eq_false_iff_ne]; omega
  have e1 : ((q : Int) == 0) = false := by rw [beq_eq_false_iff_ne]; omega
  have e2 : ¬ (most : Int) < n := by omega
  have e3 : ¬ (most : Int) < q := by omega
  clear ha hn hg0 hm hv hq hr0
  go_enter Tryd.func20, Tryd.ntmps20
  go_wp2_with fail
  clear hc0
  go_loopw [9] (fun i wr => ∃ k : Nat, k ≤ n ∧ i = .int .i64 (k : Int) ∧ rowsUp lo hi m k ∧ Drew w wr) (fun i _ => n - (intOf i).toNat)
  case atStart => exact ⟨0, Nat.zero_le _, rfl, G0.out, Drew.refl _⟩
  case round =>
    obtain ⟨k, hk, rfl, hg, hdr⟩ := hrel
    have HG := Lib.hid hg
    have HD := Lib.hid hdr
    have hc0 := (hdr.kp.cell (p := ad) hlt0).trans C0.out
    by_cases hlt : k < n
    · obtain ⟨ad', A1, d1, ea, _, hc1, _, hr1⟩ := (HA.out.keep hdr.kp) k (by have := HN.out; omega)
      obtain rfl := Option.some.inj ea
      have AL := Lib.hid (fun (wx : World) (hx : Kp wr wx) (hl : (m.getD k []).length ≤ 1000000) => all_any A1 (m.getD k []) d1 lo hi wx (hr1.keep hx) hl)
      obtain ⟨p, hp⟩ : ∃ p, p = (m.getD k []).length := ⟨_, rfl⟩
      rw [← hp] at hc1 AL
      clear hg hdr hr1
      by_cases hpq : p = q
      · subst hpq
        have e4 : ((p : Int) != (p : Int)) = false := by simp
        have ALL := Lib.hid (fun (wx : World) (hx : Kp wr wx) => AL.out wx hx (by omega))
        by_cases hin : AllIn (m.getD k []) lo hi
        · have ST := Lib.hid (STP.out k hlt HG.out (Mx.rcode_ok hp.symm (fun j hj => hin j hj)))
          have IN := Lib.hid hin
          clear hin hp AL
          go_wp2_with fail
          go_quiet (fail)
          go_wp2_with fail
          refine (ALL.out _ ((Kp.rfl' wr).drewN _)).mono ?_; rintro e w' ⟨ht, rfl⟩
          obtain rfl := tells_yes ht IN.out
          go_wp2_with fail
          go_roundw
          case rel => exact ⟨k + 1, by omega, by go_num, ST.out, HD.out.more _⟩
          case measure => simp [intOf]; omega
        · have EV := Lib.hid ((RNG.out k hlt HG.out (by rw [Mx.rcode_bad' hp.symm hin]; decide)).trans (Mx.rcode_bad' hp.symm hin))
          have NIN := Lib.hid hin
          clear hin hp AL
          go_wp2_with fail
          go_quiet (fail)
          go_wp2_with fail
          refine (ALL.out _ ((Kp.rfl' wr).drewN _)).mono ?_; rintro e w' ⟨ht, rfl⟩
          obtain rfl := tells_no ht NIN.out
          go_wp2_with fail
          go_ret
          exact ⟨by rw [EV.out]; rfl, HD.out.more _⟩
      · have e4 : ((p : Int) != (q : Int)) = true := by rw [bne_iff_ne]; omega
        have hne : (m.getD k []).length ≠ q := by omega
        have EV := Lib.hid ((RNG.out k hlt HG.out (by rw [Mx.rcode_len hne]; decide)).trans (Mx.rcode_len hne))
        clear hp hpq hne AL
        go_wp2_with fail
        go_quiet (fail)
        go_wp2_with fail
        go_ret
        exact ⟨by rw [EV.out]; rfl, HD.out.more _⟩
    · have EV := Lib.hid (OKS.out (by have h : k = n := by omega
                                      rw [← h]; exact HG.out))
      clear hg hdr
      go_wp2_with fail
      go_ret
      exact ⟨by rw [EV.out]; rfl, HD.out⟩

set_option maxHeartbeats 1600000 in
theorem rMatrix_any (A : Option Addr) (m : List (List Int)) (n d most : Nat) (lo hi : Int) (w : World) (ha : LiesM w A m) (hn : m.length = n) (hmo : most ≤ 1000) :
    Calls Tryd.prog 20 #[.slice A n d, .int .i64 (most : Int), .int .i64 lo, .int .i64 hi] w fun e w' => e = .returned (.int .i64 (Mx.mcode most lo hi m : Int)) ∧ Drew w w' := by
  by_cases h1 : n = 0
  · have hm : Mx.mcode most lo hi m = 5 := by unfold Mx.mcode; rw [if_pos (by omega)]
    rw [hm]
    subst h1
    clear hm ha hn
    go_enter Tryd.func20, Tryd.ntmps20
    go_wp2
    go_ret
    exact ⟨rfl, Drew.refl _⟩
  obtain ⟨ad, A0, d0, rfl, _, hc0, _, hr0⟩ := ha 0 (by omega)
  rw [add_zero'] at hc0
  obtain ⟨q, hq⟩ : ∃ q, q = (m.getD 0 []).length := ⟨_, rfl⟩
  rw [← hq] at hc0
  have e0 : ((n : Int) == 0) = false := by rw [beq_eq_false_iff_ne]; omega
  have hn0 : (0 : Int) < n := by omega
  by_cases h2 : q = 0
  · have hm : Mx.mcode most lo hi m = 5 := by unfold Mx.mcode; rw [if_pos (by omega)]
    rw [hm]
    subst h2
    clear hm ha hn hr0 h1 hq
    go_enter Tryd.func20, Tryd.ntmps20
    go_wp2
    go_ret
    exact ⟨rfl, Drew.refl _⟩
  have e1 : ((q : Int) == 0) = false := by rw [beq_eq_false_iff_ne]; omega
  by_cases h3 : most < n
  · have hm : Mx.mcode most lo hi m = 4 := by unfold Mx.mcode; rw [if_neg (by omega), if_pos (by omega)]
    rw [hm]
    have e3 : (most : Int) < n := by omega
    clear hm ha hn hr0 h1 hq h2 h3
    go_enter Tryd.func20, Tryd.ntmps20
    go_wp2
    go_ret
    exact ⟨rfl, Drew.refl _⟩
  by_cases h4 : most < q
  · have hm : Mx.mcode most lo hi m = 4 := by unfold Mx.mcode; rw [if_neg (by omega), if_pos (by omega)]
    rw [hm]
    have e3 : ¬ (most : Int) < n := by omega
    have e4 : (most : Int) < q := by omega
    clear hm ha hn hr0 h1 hq h2 h3 h4
    go_enter Tryd.func20, Tryd.ntmps20
    go_wp2
    go_ret
    exact ⟨rfl, Drew.refl _⟩
  exact rMatrix_main (some ad) m n d q most lo hi w ha hn hq.symm (by omega) (by omega) (by omega) (by omega) hmo


end Go.Proofs.YtkebjmapdcbnaaaDoor

/- Contracts of the document's answer on matrices, fourth part: Without, DetMod, Square. For all packages. -/
namespace Go.Proofs.YtkebjmapdcbnaaaDoor
open Go.ChangeShapes Go.WideShapes Go.ChangeAt Go.RowKit
set_option linter.unusedVariables false

theorem wo_del (f : Nat → Nat → Fp.F) (j : Nat) : wo f 0 j = Mx.del j f := by
  funext a b
  unfold wo Mx.del
  congr 1

set_option maxRecDepth 100000 in
set_option maxHeartbeats 6400000 in
theorem rWithout_any (A : Option Addr) (f : Nat → Nat → Fp.F) (p a b d : Nat) (w : World) (ha : LiesM w A (Mx.matl (p + 1) (p + 1) f)) (hpa : a ≤ p) (hpb : b ≤ p) (hp : p ≤ 1000) :
    Calls Tryd.prog 17 #[.slice A ((p + 1 : Nat) : Int).toNat d, .int .i64 (a : Int), .int .i64 (b : Int)] w fun e w' => Made p p (wo f a b) w e w' := by
  rw [Int.toNat_natCast]
  have HA := Lib.hid ha
  clear ha
  obtain ⟨n, hn⟩ : ∃ n, n = p + 1 := ⟨_, rfl⟩
  rw [← hn] at HA ⊢
  have HN := Lib.hid hn
  have hn1 : n ≤ 1001 := by omega
  clear hn
  go_enter Tryd.func17, Tryd.ntmps17
  go_wp2_with fail
  go_loopw [7, 8] (fun v i wr => ∃ (k : Nat) (G C : Nat → Nat), k ≤ n ∧ i = .int .i64 (k : Int) ∧ OwnM wr w.heap.size v G C (Mx.matl (ct a k) p (wo f a b)) ∧ Kp w wr) (fun _ i _ => n - (intOf i).toNat)
  case atStart => exact ⟨0, fun _ => 0, fun _ => 0, Nat.zero_le _, rfl, by rw [ct_zero]; exact ownM_none _ _ _ _, Kp.rfl' _⟩
  case round =>
    obtain ⟨k, G, C, hk, rfl, ho, hkp⟩ := hrel
    obtain ⟨wo', hwo⟩ : ∃ x, x = wr := ⟨_, rfl⟩
    subst hwo
    have HO := Lib.hid ho
    have HK := Lib.hid hkp
    clear ho hkp
    by_cases hlt : k < n
    · by_cases hka : k = a
      · subst hka
        have e1 : ((k : Int) == (k : Int)) = true := by simp
        have HC := Lib.hid (ct_skip k)
        go_wp2_with fail
        go_roundw
        case rel => exact ⟨k + 1, G, C, by omega, by go_num, by rw [HC.out]; exact HO.out, HK.out⟩
        case measure => simp [intOf]; omega
      · have e1 : ((k : Int) == (a : Int)) = false := by rw [beq_eq_false_iff_ne]; omega
        have hp0 : 0 < p := by have := HN.out; omega
        have HC := Lib.hid (ct_next hka)
        have HSK := Lib.hid (sk_ct hka)
        have HS := Lib.hid (show Mx.matl (ct a k + 1) p (wo f a b) = Mx.matl (ct a k) p (wo f a b) ++ [Mx.row p fun j => ((f k (Mx.sk b j)).val : Int)] by
          rw [Mx.matl, Mx.tab_snoc]
          congr 2
          refine Mx.row_ext fun j _ => ?_
          show ((f (Mx.sk a (ct a k)) (Mx.sk b j)).val : Int) = _
          rw [HSK.out])
        have HCL := Lib.hid (show ct a k ≤ 2000 by have := ct_le (a := a) (p := p) (t := k) hpa (by have := HN.out; omega); omega)
        clear hka
        obtain ⟨ad, A1, d1, rfl, _, x1, _, l1⟩ := (HA.out.keep HK.out).row hlt
        have L1 := Lib.hid l1
        have X1 := Lib.hid x1
        clear l1 x1
        go_wp2_with fail
        go_loopw [9, 10] (fun u i wq => ∃ t : Nat, t ≤ n ∧ i = .int .i64 (t : Int) ∧ Own wq wo'.heap.size u (Mx.row (ct b t) fun j => ((f k (Mx.sk b j)).val : Int)) ∧ Kp wo' wq) (fun _ i _ => n - (intOf i).toNat)
        case atStart => exact ⟨0, Nat.zero_le _, rfl, by rw [ct_zero]; exact Own.none _ _, Kp.rfl' _⟩
        case round =>
          obtain ⟨t, ht, rfl, hu, hkq⟩ := hrel
          have HU := Lib.hid hu
          have HQ := Lib.hid hkq
          have x2 := (hkq.cell (p := ad.add k) (cell_lt X1.out)).trans X1.out
          by_cases hlt2 : t < n
          · by_cases htb : t = b
            · subst htb
              have e2 : ((t : Int) != (t : Int)) = false := by simp
              have HC2 := Lib.hid (ct_skip t)
              clear hu hkq
              go_wp2_with fail
              go_roundw
              case rel => exact ⟨t + 1, by omega, by go_num, by rw [HC2.out]; exact HU.out, HQ.out⟩
              case measure => simp [intOf]; omega
            · have e2 : ((t : Int) != (b : Int)) = true := by rw [bne_iff_ne]; omega
              have HC2 := Lib.hid (ct_next htb)
              have HSK2 := Lib.hid (sk_ct htb)
              obtain ⟨ad1, rfl, _, x3⟩ := (L1.out.keep hkq).el hlt2
              have hlen : (Mx.row (ct b t) fun j => ((f k (Mx.sk b j)).val : Int)).length + 1 ≤ 17000000000000 := by
                rw [Mx.len_row]; have := ct_le (a := b) (p := p) (t := t) hpb (by have := HN.out; omega); omega
              have HSN := Lib.hid (show Mx.row (ct b t + 1) (fun j => ((f k (Mx.sk b j)).val : Int)) = (Mx.row (ct b t) fun j => ((f k (Mx.sk b j)).val : Int)) ++ [((f k t).val : Int)] by
                rw [Mx.row_snoc, HSK2.out])
              have hsz := HQ.out.size
              generalize ((f k t).val : Int) = z at *
              obtain ⟨wd, hwd⟩ : ∃ x, x = wr := ⟨_, rfl⟩
              subst hwd
              clear hu hkq htb
              go_wp2_with (at_builtin; refine wpList_push rfl _ _ rfl wo'.heap.size _ (Mx.row (ct b t) fun j => ((f k (Mx.sk b j)).val : Int)) z wd.heap.size 1 rfl rfl (HU.out.new _) (by simp; done) hlen (Nat.le_trans hsz ((Kp.rfl' _).new _).size) ?_; intro v' w' h1 h2 _)
              have HU' := Lib.hid h1
              have HQ' := Lib.hid (own_below (HU.out.new _) (HQ.out.new _) (Nat.le_trans hsz ((Kp.rfl' _).new _).size) h2)
              clear h1 h2
              go_wp2_with fail
              go_roundw
              case rel => exact ⟨t + 1, by omega, by go_num, by rw [HC2.out, HSN.out]; exact HU'.out, HQ'.out⟩
              case measure => simp [intOf]; omega
          · obtain rfl : t = n := by omega
            rw [show ct b t = p by rw [HN.out]; exact ct_end hpb] at HU
            obtain ⟨g, gc, rfl, hg, hgc⟩ := own_some HU.out (by rw [Mx.len_row]; exact hp0)
            rw [Mx.len_row] at HU hgc ⊢
            clear hu hkq
            have OM := Lib.hid (HO.out.kp HQ.out)
            have HAP := Lib.hid (show ∀ i, i < (Mx.matl (ct a k) p (wo f a b)).length → G i ≠ g from fun i hi => by have := (HO.out.lt hi).2; omega)
            have HLE := Lib.hid (show (Mx.matl (ct a k) p (wo f a b)).length + 1 ≤ 1000000 by rw [Mx.len_matl]; have := HCL.out; omega)
            go_wp2_with (at_builtin; refine wpList_pushM rfl _ _ rfl w.heap.size _ G C (Mx.matl (ct a k) p (wo f a b)) _ g p gc _ 1 (Mx.len_row _ _) rfl rfl (OM.out.new _) (cell_made _ _ _ _ 0 rfl) ((HU.out.from HK.out.size).new _) HAP.out HLE.out (Nat.le_trans HK.out.size (Nat.le_trans HQ.out.size ((Kp.rfl' _).new _).size)) ?_; intro v' w' G' C' ho' hk')
            have HO' := Lib.hid ho'
            have HK' := Lib.hid (hk' w (Nat.le_refl _) ((HK.out.trans HQ.out).new _))
            clear ho' hk'
            go_wp2_with fail
            go_roundw
            case rel => exact ⟨k + 1, G', C', by omega, by go_num, by rw [HC.out, HS.out]; exact HO'.out, HK'.out⟩
            case measure => simp [intOf]; omega
    · obtain rfl : k = n := by omega
      obtain ⟨A, d2, rfl, hl, _⟩ := HO.out.lies
      rw [Mx.len_matl, show ct a k = p by rw [HN.out]; exact ct_end hpa] at *
      have HL := Lib.hid hl
      clear hl
      go_wp2_with fail
      go_ret
      exact ⟨A, d2, rfl, HL.out, HK.out⟩

/-- The sign of a place as a whole number. -/
def sgnI (j : Nat) : Int := if j % 2 = 0 then 1 else -1
theorem sgnI_some (j : Nat) : sgnI j = 1 ∨ sgnI j = -1 := by unfold sgnI; split <;> simp
theorem sgnI_succ (j : Nat) : sgnI (j + 1) = -(sgnI j) := by
  unfold sgnI
  by_cases h : j % 2 = 0
  · rw [if_pos h, if_neg (by omega)]
  · rw [if_neg h, if_pos (by omega)]; rfl
theorem sgnI_F (j : Nat) : Fp.ofInt (sgnI j) = Mx.sgn j := by
  unfold sgnI Mx.sgn
  split <;> decide
theorem det_step (s x d : Fp.F) (k : Nat) : ((s.val : Int) + sgnI k * (x.val : Int) * (d.val : Int)) % 9973 = ((s + Mx.sgn k * x * d).val : Int) := by
  rw [← Fp.ofInt_val, Fp.ofInt_add, Fp.ofInt_mul, Fp.ofInt_mul, Fp.ofInt_self, Fp.ofInt_self, Fp.ofInt_self, sgnI_F]
theorem det_bound (x d : Fp.F) (k : Nat) : (-9972 ≤ sgnI k * (x.val : Int) ∧ sgnI k * (x.val : Int) ≤ 9972) ∧ -99440784 ≤ sgnI k * (x.val : Int) * (d.val : Int) ∧ sgnI k * (x.val : Int) * (d.val : Int) ≤ 99440784 := by
  have h := rprod x d
  have hx := rval x
  rcases sgnI_some k with e | e
  · rw [e, Int.one_mul]; omega
  · rw [e, Int.neg_one_mul, Int.neg_mul]; omega


set_option maxHeartbeats 1600000 in
theorem rSquare_any (A : Option Addr) (m : List (List Int)) (n d most : Nat) (lo hi : Int) (w : World) (ha : LiesM w A m) (hn : m.length = n) (hmo : most ≤ 1000) :
    Calls Tryd.prog 11 #[.slice A n d, .int .i64 (most : Int), .int .i64 lo, .int .i64 hi] w fun e w' => e = .returned (.int .i64 (qcode most lo hi m : Int)) ∧ Drew w w' := by
  have MX := Lib.hid (rMatrix_any A m n d most lo hi w ha hn hmo)
  by_cases h0 : Mx.mcode most lo hi m = 0
  · have h0n : 0 < m.length := by
      rcases Nat.eq_zero_or_pos m.length with h | h
      · exfalso; unfold Mx.mcode at h0; rw [if_pos (.inl h)] at h0; cases h0
      · exact h
    obtain ⟨ad, A0, d0, rfl, hl0, hc0, _, _⟩ := ha 0 h0n
    rw [add_zero'] at hc0
    have HC := Lib.hid hc0
    have EV := Lib.hid (show qcode most lo hi m = if n ≠ (m.getD 0 []).length then 3 else 0 by
      unfold qcode
      rw [h0, hn]
      by_cases h : n ≠ (m.getD 0 []).length
      · rw [if_pos ⟨rfl, h⟩, if_pos h]
      · rw [if_neg (fun h' => h h'.2), if_neg h])
    rw [h0] at MX
    have hn0 : (0 : Int) < n := by omega
    generalize (m.getD 0 []).length = q at *
    generalize qcode most lo hi m = z at *
    have HN0 := Lib.hid hn0
    clear ha h0 hn h0n hc0
    by_cases hq : n = q
    · subst hq
      have E2 := Lib.hid (show z = 0 by rw [EV.out, if_neg (fun h => h rfl)])
      have e1 : ((n : Int) != (n : Int)) = false := by simp
      go_enter Tryd.func11, Tryd.ntmps11
      go_wp2_with fail
      refine (MX.out).mono ?_; rintro e w1 ⟨rfl, hd⟩
      have HD := Lib.hid hd
      have hc := (hd.kp.cell (p := ad) hl0).trans HC.out
      clear hd
      go_wp2_with fail
      go_ret
      exact ⟨by rw [E2.out]; rfl, HD.out⟩
    · have E2 := Lib.hid (show z = 3 by rw [EV.out, if_pos hq])
      have e1 : ((n : Int) != (q : Int)) = true := by rw [bne_iff_ne]; omega
      go_enter Tryd.func11, Tryd.ntmps11
      go_wp2_with fail
      refine (MX.out).mono ?_; rintro e w1 ⟨rfl, hd⟩
      have HD := Lib.hid hd
      have hc := (hd.kp.cell (p := ad) hl0).trans HC.out
      clear hd
      go_wp2_with fail
      go_ret
      exact ⟨by rw [E2.out]; rfl, HD.out⟩
  · have EV : qcode most lo hi m = Mx.mcode most lo hi m := by unfold qcode; rw [if_neg (fun h => h0 h.1)]
    rw [EV]
    have e1 : ((Mx.mcode most lo hi m : Int) == 0) = false := by rw [beq_eq_false_iff_ne]; omega
    generalize Mx.mcode most lo hi m = z at *
    clear ha hn EV h0
    go_enter Tryd.func11, Tryd.ntmps11
    go_wp2_with fail
    refine (MX.out).mono ?_; rintro e w1 ⟨rfl, hd⟩
    have HD := Lib.hid hd
    clear hd
    go_wp2_with fail
    go_ret
    exact ⟨rfl, HD.out⟩
end Go.Proofs.YtkebjmapdcbnaaaDoor

/- Contract of the document's Skew: what is wrong with a matrix that should be skew. -/
namespace Go.Proofs.YtkebjmapdcbnaaaDoor
open Go.ChangeShapes Go.WideShapes Go.ChangeAt Go.RowKit
set_option linter.unusedVariables false

set_option maxRecDepth 100000 in
set_option maxHeartbeats 3200000 in
theorem rSkew_any (A : Option Addr) (m : List (List Int)) (n d : Nat) (w : World) (ha : LiesM w A m) (hn : m.length = n) :
    Calls Tryd.prog 4 #[.slice A n d] w fun e w' => e = .returned (.int .i64 ((pfcd m : Nat) : Int)) ∧ Kp w w' := by
  have SQ := Lib.hid (rSquare_any A m n d 6 (-9) 9 w ha hn (by decide))
  by_cases hq : qcode 6 (-9) 9 m = 0
  · obtain ⟨h1, h2, h3, h4⟩ := q6_tab hn hq
    rw [hq] at SQ
    obtain ⟨x, hx⟩ : ∃ x : Nat → Nat → Int, x = fun i j => (m.getD i []).getD j 0 := ⟨_, rfl⟩
    rw [← hx] at h1
    have AB := Lib.hid (show ∀ i j, i < n → j < n → -9 ≤ x i j ∧ x i j ≤ 9 by rw [hx]; exact h4)
    obtain ⟨z, hz⟩ : ∃ z, z = pfcd m := ⟨_, rfl⟩
    have YES := Lib.hid (fun (h : ∀ i j, i < n → j < n → x i j = -(x j i)) => show z = 0 by rw [hz]; unfold pfcd; rw [if_neg (by omega), if_pos (by rw [h1]; exact skp_tab.2 h)])
    have NO := Lib.hid (fun (i j : Nat) (hi : i < n) (hj : j < n) (h : x i j ≠ -(x j i)) => show z = 6 by rw [hz]; unfold pfcd; rw [if_neg (by omega), if_neg (by rw [h1]; exact fun e => h (skp_tab.1 e i j hi hj))])
    rw [← hz]
    rw [h1] at ha
    have HA := Lib.hid ha
    have ez : (((0 : Nat) : Int) == 0) = true := rfl
    clear ha hz h1 h4 hq hx hn
    go_enter Tryd.func4, Tryd.ntmps4
    go_wp2_with fail
    refine (SQ.out).mono ?_; rintro e w1 ⟨rfl, hd1⟩
    have K1 := Lib.hid hd1.kp
    clear hd1
    go_wp2_with fail
    go_loopw [3, 4] (fun e i wr => ∃ k : Nat, k ≤ n ∧ i = .int .i64 (k : Int) ∧ Kp w wr ∧ ((e = .int .i64 0 ∧ ∀ i j, i < k → j < n → x i j = -(x j i)) ∨ (e = .int .i64 6 ∧ z = 6))) (fun _ i _ => n - (intOf i).toNat)
    case atStart => exact ⟨0, Nat.zero_le _, rfl, K1.out, .inl ⟨rfl, fun i j hi _ => absurd hi (by omega)⟩⟩
    case round =>
      obtain ⟨k, hk, rfl, hkw, hrel⟩ := hrel
      have KW := Lib.hid hkw
      rcases hrel with ⟨rfl, hg⟩ | ⟨rfl, hzz⟩
      · have HG := Lib.hid hg
        clear hg
        by_cases hlt : k < n
        · clear hkw
          go_wp2_with fail
          obtain ⟨wo, hwo⟩ : ∃ x, x = wr := ⟨_, rfl⟩
          subst hwo
          go_loopw [3, 5] (fun e j wr => ∃ t : Nat, t ≤ n ∧ j = .int .i64 (t : Int) ∧ Kp w wr ∧ ((e = .int .i64 0 ∧ ∀ j, j < t → x k j = -(x j k)) ∨ (e = .int .i64 6 ∧ z = 6))) (fun _ j _ => n - (intOf j).toNat)
          case atStart => exact ⟨0, Nat.zero_le _, rfl, KW.out, .inl ⟨rfl, fun j hj => absurd hj (by omega)⟩⟩
          case round =>
            obtain ⟨t, ht, rfl, hkq, hrel⟩ := hrel
            have KQ := Lib.hid hkq
            rcases hrel with ⟨rfl, hh⟩ | ⟨rfl, hzz⟩
            · have HH := Lib.hid hh
              clear hh
              by_cases htn : t < n
              · obtain ⟨ad, A1, c1, rfl, _, hc1, _, hr1⟩ := (HA.out.keep hkq).row hlt
                obtain ⟨a1, rfl, _, y1⟩ := hr1.el htn
                obtain ⟨ad', A2, c2, ea, _, hc2, _, hr2⟩ := (HA.out.keep hkq).row htn
                obtain rfl := Option.some.inj ea
                obtain ⟨a2, rfl, _, y2⟩ := hr2.el hlt
                have b2 := AB.out t k htn hlt
                by_cases e : x k t = -(x t k)
                · have ST := Lib.hid (show ∀ j', j' < t + 1 → x k j' = -(x j' k) from fun j' hj' => by
                    by_cases e' : j' = t
                    · rw [e']; exact e
                    · exact HH.out j' (by omega))
                  generalize x k t = p at *
                  generalize x t k = q at *
                  have hw : IntKind.i64.wrap (-q) = -q := IntWalk.i64_in _ (by omega)
                  have e1 : (p != -q) = false := by rw [bne_eq_false_iff_eq]; exact e
                  clear e hr1 hr2 hkq b2
                  go_upto_region 8 with (fail)
                  go_still_tail 15, (by kernel_rfl)
                  change wpList _ _ _ _ _ wr.drew
                  go_wp2_with fail
                  go_roundw
                  case rel => exact ⟨t + 1, by omega, by go_num, KQ.out.drewN 1, .inl ⟨rfl, ST.out⟩⟩
                  case measure => simp [intOf]; omega
                · have E := Lib.hid (NO.out k t hlt htn e)
                  generalize x k t = p at *
                  generalize x t k = q at *
                  have hw : IntKind.i64.wrap (-q) = -q := IntWalk.i64_in _ (by omega)
                  have e1 : (p != -q) = true := by rw [bne_iff_ne]; exact e
                  clear e hr1 hr2 hkq b2
                  go_upto_region 8 with (fail)
                  go_still_tail 15, (by kernel_rfl)
                  change wpList _ _ _ _ _ wr.drew
                  go_wp2_with fail
                  go_roundw
                  case rel => exact ⟨t + 1, by omega, by go_num, KQ.out.drewN 1, .inr ⟨rfl, E.out⟩⟩
                  case measure => simp [intOf]; omega
              · have ST := Lib.hid (show ∀ i' j, i' < k + 1 → j < n → x i' j = -(x j i') from fun i' j' h1 h2 => by
                  by_cases e' : i' = k
                  · rw [e']; exact HH.out j' (by omega)
                  · exact HG.out i' j' (by omega) h2)
                clear hkq
                go_wp2_with fail
                go_roundw
                case rel => exact ⟨k + 1, by omega, by go_num, KQ.out, .inl ⟨rfl, ST.out⟩⟩
                case measure => simp [intOf]; omega
            · have HZ := Lib.hid hzz
              clear hkq hzz
              by_cases htn : t < n
              all_goals
                go_wp2_with fail
                go_roundw
                case rel => exact ⟨k + 1, by omega, by go_num, KQ.out, .inr ⟨rfl, HZ.out⟩⟩
                case measure => simp [intOf]; omega
        · have E := Lib.hid (YES.out (fun a b h1 h2 => HG.out a b (by omega) h2))
          clear hkw
          go_wp2_with fail
          go_ret
          exact ⟨by rw [E.out]; rfl, KW.out⟩
      · have HZ := Lib.hid hzz
        clear hkw hzz
        by_cases hlt : k < n
        all_goals
          go_wp2_with fail
          go_ret
          exact ⟨by rw [HZ.out]; rfl, KW.out⟩
  · obtain ⟨z, hz⟩ : ∃ z, z = pfcd m := ⟨_, rfl⟩
    have hzq : z = qcode 6 (-9) 9 m := by rw [hz]; exact pfcd_is rfl hq
    rw [← hz]
    rw [← hzq] at SQ hq
    have ez : ((z : Int) == 0) = false := by rw [beq_eq_false_iff_ne]; omega
    clear hz hzq ha hn
    by_cases h0 : 0 < n
    all_goals
      go_enter Tryd.func4, Tryd.ntmps4
      go_wp2_with fail
      refine (SQ.out).mono ?_; rintro e w1 ⟨rfl, hd1⟩
      have K1 := Lib.hid hd1.kp
      clear hd1
      go_wp2_with fail
      go_loopw [3, 4] (fun e i wr => i = .int .i64 0 ∧ e = .int .i64 (z : Int) ∧ wr = w1) (fun _ _ _ => 0)
      case atStart => exact ⟨rfl, rfl, rfl⟩
      case round =>
        obtain ⟨rfl, rfl, rfl⟩ := hrel
        go_wp2_with fail
        go_ret
        exact ⟨rfl, K1.out⟩
end Go.Proofs.YtkebjmapdcbnaaaDoor

/- Contracts of slices.Index and slices.Contains at rows of integers: for all packages. -/
namespace Go.Proofs.YtkebjmapdcbnaaaDoor
open Go.ChangeShapes Go.WideShapes Go.ChangeAt Go.RowKit
set_option linter.unusedVariables false

/-- A number occurs among the first. -/
def Occurs (l : List Int) (n : Nat) (v : Int) : Prop := ∃ j, j < n ∧ l.getD j 0 = v
/-- An index where it occurs, or -1. -/
def Idx (P : Prop) (e : Ending) : Prop := (P ∧ ∃ k : Nat, e = .returned (.int .i64 (k : Int))) ∨ (¬ P ∧ e = .returned (.int .i64 (-1)))


set_option maxHeartbeats 800000 in
theorem refHas_any (A : Option Addr) (l : List Int) (n c : Nat) (v : Int) (w : World) (hl : Lies w A l) (hn : n ≤ l.length) (ln : n ≤ 1000000) :
    Calls Tryd.prog 16 #[.slice A n c, .int .i64 v] w fun e w' => Tells (Occurs l n v) e ∧ w = w' := by
  have HL := Lib.hid hl
  have HN := Lib.hid hn
  clear hl hn
  go_enter Tryd.func16, Tryd.ntmps16
  go_wp2_with fail
  go_loop [5] (fun i => ∃ k : Nat, k ≤ n ∧ i = .int .i64 (k : Int) ∧ ∀ j, j < k → l.getD j 0 ≠ v) (fun i => n - (intOf i).toNat)
  case atStart => exact ⟨0, Nat.zero_le _, rfl, fun j hj => absurd hj (by omega)⟩
  case round =>
    obtain ⟨k, hk, rfl, hg⟩ := hrel
    have HG := Lib.hid hg
    clear hg
    by_cases hlt : k < n
    · obtain ⟨ad, rfl, _, hc⟩ := HL.out k (by have := HN.out; omega)
      obtain ⟨m, hm⟩ : ∃ m, m = l.getD k 0 := ⟨_, rfl⟩
      rw [← hm] at hc
      by_cases h0 : m = v
      · have F := Lib.hid (show Occurs l n v from ⟨k, hlt, by rw [← hm, h0]⟩)
        have e0 : (m == v) = true := by rw [h0]; exact beq_self_eq_true v
        clear hm h0
        go_wp2_with fail
        go_ret
        exact ⟨.inl ⟨F.out, rfl⟩, rfl⟩
      · have GG := Lib.hid (show ∀ j, j < k + 1 → l.getD j 0 ≠ v from fun j hj => by
          by_cases e : j = k
          · subst e; rw [← hm]; exact h0
          · exact HG.out j (by omega))
        have e0 : (m == v) = false := by rw [beq_eq_false_iff_ne]; exact h0
        clear hm h0
        go_wp2_with fail
        go_round
        case rel => exact ⟨k + 1, by omega, by go_num, GG.out⟩
        case measure => simp [intOf]; omega
    · have F := Lib.hid (show ¬ Occurs l n v from fun ⟨j, h1, h2⟩ => HG.out j (by omega) h2)
      go_wp2_with fail
      go_ret
      exact ⟨.inr ⟨F.out, rfl⟩, rfl⟩
end Go.Proofs.YtkebjmapdcbnaaaDoor

/- Contract of the document's Sign: for all packages. -/
namespace Go.Proofs.YtkebjmapdcbnaaaDoor
open Go.ChangeShapes Go.WideShapes Go.ChangeAt Go.RowKit
set_option linter.unusedVariables false

set_option maxRecDepth 100000 in
set_option maxHeartbeats 3200000 in
theorem rSign_any (A : Option Addr) (l : List Int) (n c : Nat) (w : World) (hl : Lies w A l) (hn : l.length = n) (h1 : n ≤ 1000) :
    Calls Tryd.prog 15 #[.slice A n c] w fun e w' => ∃ x, e = .returned (.int .i64 x) ∧ Mx.SgnIs (Mx.sp n fun i => l.getD i 0) x ∧ Kp w w' := by
  obtain ⟨s, hs⟩ : ∃ s : Nat → Int, s = fun i => l.getD i 0 := ⟨_, rfl⟩
  rw [← hs]
  have HL := Lib.hid hl
  have HN := Lib.hid hn
  have HS := Lib.hid hs
  have HAS := Lib.hid (fun (w : World) (k : Nat) (h : Lies w A l) => refHas_any A l n c (k : Int) w h (by omega) (by omega))
  clear hl hn hs
  go_enter Tryd.func15, Tryd.ntmps15
  go_wp2_with fail
  go_loopw [3, 4] (fun o i wr => ∃ (k : Nat) (x : Int), k ≤ n ∧ i = .int .i64 (k : Int) ∧ o = .int .i64 x ∧ (x = 1 ∨ x = -1) ∧ Fp.ofInt x = Mx.inv k s ∧ (∀ t : Nat, t < k → ∃ j, j < n ∧ s j = (t : Int)) ∧ Kp w wr) (fun _ i _ => n - (intOf i).toNat)
  case atStart => exact ⟨0, 1, Nat.zero_le _, rfl, rfl, .inl rfl, rfl, fun t ht => absurd ht (by omega), Kp.rfl' _⟩
  case round =>
    obtain ⟨k, x, hk, rfl, rfl, hx, he, ht, hkp⟩ := hrel
    have HX := Lib.hid hx
    have HE := Lib.hid he
    have HT := Lib.hid ht
    have HK := Lib.hid hkp
    clear hx he ht hkp
    by_cases hlt : k < n
    · by_cases hoc : Occurs l n (k : Int)
      · have HA1 := Lib.hid (fun (w : World) (h : Lies w A l) => (HAS.out w k h).mono fun e w' h' => show e = .returned (.bool true) ∧ w = w' from ⟨tells_yes h'.1 hoc, h'.2⟩)
        have HT2 := Lib.hid (show ∀ t : Nat, t < k + 1 → ∃ j, j < n ∧ s j = (t : Int) from fun t ht => by
          by_cases e : t = k
          · obtain ⟨j, h1, h2⟩ := hoc
            exact ⟨j, h1, by rw [HS.out, e]; exact h2⟩
          · exact HT.out t (by omega))
        clear hoc
        go_wp2_with fail
        refine (HA1.out _ (HL.out.keep HK.out)).mono ?_; rintro e w1 ⟨rfl, rfl⟩
        obtain ⟨wo, hwo⟩ : ∃ y, y = wr := ⟨_, rfl⟩
        rw [← hwo] at HK ⊢
        clear hwo
        go_wp2_with fail
        go_loopw [3, 5] (fun o i wr => ∃ (t : Nat) (x : Int), t ≤ k ∧ i = .int .i64 (t : Int) ∧ o = .int .i64 x ∧ (x = 1 ∨ x = -1) ∧ Fp.ofInt x = Mx.inv k s * Mx.pr t (fun y => Mx.e2 (s y) (s k)) ∧ Kp w wr) (fun _ i _ => k - (intOf i).toNat)
        case atStart => exact ⟨0, x, Nat.zero_le _, rfl, rfl, HX.out, by rw [HE.out]; show _ = _ * 1; grind, HK.out⟩
        case round =>
          clear HX HE HK
          obtain ⟨t, x, ht, rfl, rfl, hx, he, hkp⟩ := hrel
          have HX := Lib.hid hx
          have HE := Lib.hid he
          have HK := Lib.hid hkp
          have hxb : -1 ≤ x ∧ x ≤ 1 := by rcases hx with a | a <;> omega
          clear hx he
          by_cases hlt2 : t < k
          · obtain ⟨ad, rfl, _, y1⟩ := (HL.out.keep hkp) t (by rw [HN.out]; omega)
            obtain ⟨_, e, _, y2⟩ := (HL.out.keep hkp) k (by rw [HN.out]; omega)
            cases e
            obtain ⟨u, hu⟩ : ∃ u, u = l.getD t 0 := ⟨_, rfl⟩
            obtain ⟨v, hv⟩ : ∃ v, v = l.getD k 0 := ⟨_, rfl⟩
            rw [← hu] at y1
            rw [← hv] at y2
            have HU := Lib.hid (show s t = u ∧ s k = v by rw [HS.out]; exact ⟨hu.symm, hv.symm⟩)
            have hwn : IntKind.i64.wrap (-x) = -x := IntWalk.i64_in _ (by omega)
            clear hu hv hkp
            by_cases h2 : v < u
            · have HE2 := Lib.hid (show Fp.ofInt (-x) = Mx.inv k s * Mx.pr (t + 1) (fun y => Mx.e2 (s y) (s k)) by
                rw [Mx.ofInt_neg, HE.out]
                show _ = Mx.inv k s * (Mx.pr t _ * Mx.e2 (s t) (s k))
                rw [HU.out.1, HU.out.2]
                unfold Mx.e2
                rw [if_pos h2]; grind)
              have HX2 := Lib.hid (show -x = 1 ∨ -x = -1 by rcases HX.out with a | a <;> omega)
              go_wp2_with fail
              go_quiet (fail)
              go_wp2_with fail
              go_roundw
              case rel => exact ⟨t + 1, -x, by omega, by go_num, rfl, HX2.out, HE2.out, HK.out.drewN _⟩
              case measure => simp [intOf]; omega
            · have HE2 := Lib.hid (show Fp.ofInt x = Mx.inv k s * Mx.pr (t + 1) (fun y => Mx.e2 (s y) (s k)) by
                rw [HE.out]
                show _ = Mx.inv k s * (Mx.pr t _ * Mx.e2 (s t) (s k))
                rw [HU.out.1, HU.out.2]
                unfold Mx.e2
                rw [if_neg h2]; grind)
              go_wp2_with fail
              go_quiet (fail)
              go_wp2_with fail
              go_roundw
              case rel => exact ⟨t + 1, x, by omega, by go_num, rfl, HX.out, HE2.out, HK.out.drewN _⟩
              case measure => simp [intOf]; omega
          · obtain rfl : t = k := by omega
            clear hkp
            go_wp2_with fail
            go_roundw
            case rel => exact ⟨t + 1, x, by omega, by go_num, rfl, HX.out, HE.out, HT2.out, HK.out⟩
            case measure => simp [intOf]; omega
      · have HA1 := Lib.hid (fun (w : World) (h : Lies w A l) => (HAS.out w k h).mono fun e w' h' => show e = .returned (.bool false) ∧ w = w' from ⟨tells_no h'.1 hoc, h'.2⟩)
        have Z := Lib.hid (show Mx.SgnIs (Mx.sp n s) 0 from ⟨.inr (.inr rfl), by
          rw [Mx.sp_miss hlt fun i hi e => hoc ⟨i, hi, by rw [HS.out] at e; exact e⟩]; rfl⟩)
        clear hoc
        go_wp2_with fail
        refine (HA1.out _ (HL.out.keep HK.out)).mono ?_; rintro e w1 ⟨rfl, rfl⟩
        go_wp2_with fail
        go_ret
        exact ⟨0, rfl, Z.out, HK.out⟩
    · obtain rfl : k = n := by omega
      have Z := Lib.hid (show Mx.SgnIs (Mx.sp k s) x from ⟨by rcases HX.out with a | a <;> simp [a], by rw [HE.out]; exact Mx.inv_sp HT.out⟩)
      go_wp2_with fail
      go_ret
      exact ⟨x, rfl, Z.out, HK.out⟩

end Go.Proofs.YtkebjmapdcbnaaaDoor

/- Contract of the document's Pfaff: the sum over all ways to part rows into pairs; those that are parted stand in order. -/
namespace Go.Proofs.YtkebjmapdcbnaaaDoor
open Go.ChangeShapes Go.WideShapes Go.ChangeAt Go.RowKit
set_option linter.unusedVariables false

namespace Zx
/-- The orders that the document comes by are all as they should be. -/
def pchk (n : Nat) : Nat → List Nat → Bool
  | 0, o => pgood n o
  | u + 1, o => if o.length = n then pgood n o else (decide (frs o n 0 < n ∧ (∀ k, k < frs o n 0 → o.contains k = true) ∧ o.contains (frs o n 0) = false ∧ o.length < n)) && (List.range n).all fun j => !(decide (frs o n 0 < j) && !(o.contains j)) || pchk n u (o ++ [frs o n 0, j])
theorem pchk_all : ∀ n, 1 ≤ n → n ≤ 6 → pchk n (n / 2 + 1) [] = true := by
  intro n h1 h6
  have : n = 1 ∨ n = 2 ∨ n = 3 ∨ n = 4 ∨ n = 5 ∨ n = 6 := by omega
  rcases this with rfl | rfl | rfl | rfl | rfl | rfl <;> decide +kernel
theorem pchk_full {n : Nat} : ∀ {u : Nat} {o : List Nat}, pchk n u o = true → o.length = n → pgood n o = true
  | 0, o, h, _ => h
  | u + 1, o, h, hl => by
    unfold pchk at h
    rwa [if_pos hl] at h
theorem pchk_zero {n : Nat} {o : List Nat} (h : pchk n 0 o = true) : o.length = n := (of_decide_eq_true (show pgood n o = true from h)).1
theorem pchk_next {n u : Nat} {o : List Nat} (h : pchk n (u + 1) o = true) (hl : o.length ≠ n) : frs o n 0 < n ∧ (∀ k, k < frs o n 0 → o.contains k = true) ∧ o.contains (frs o n 0) = false ∧ o.length < n ∧
    ∀ j, j < n → frs o n 0 < j → o.contains j = false → pchk n u (o ++ [frs o n 0, j]) = true := by
  unfold pchk at h
  rw [if_neg hl, Bool.and_eq_true, decide_eq_true_eq] at h
  obtain ⟨⟨h1, h2, h3, h4⟩, h5⟩ := h
  refine ⟨h1, h2, h3, h4, fun j hj h6 h7 => ?_⟩
  have := List.all_eq_true.1 h5 j (List.mem_range.2 hj)
  rw [decide_eq_true h6, h7] at this
  simpa using this
theorem psm_none {c : Nat → Bool} {g : Nat → Int} : ∀ {t : Nat}, (∀ k, k < t → c k = false) → psm c g t = 0
  | 0, _ => rfl
  | t + 1, h => by
    show (if c t then psm c g t + g t else psm c g t) = 0
    rw [h t (by omega), psm_none fun k hk => h k (by omega)]; rfl
theorem psm_bound {c : Nat → Bool} {g : Nat → Int} {B : Nat} : ∀ (t : Nat), (∀ k, k < t → c k = true → (g k).natAbs ≤ B) → (psm c g t).natAbs ≤ t * B
  | 0, _ => Nat.zero_le _
  | t + 1, h => by
    have h1 := psm_bound t fun k hk => h k (by omega)
    show (if c t then psm c g t + g t else psm c g t).natAbs ≤ (t + 1) * B
    rw [Nat.add_mul, Nat.one_mul]
    by_cases e : c t = true
    · have := h t (by omega) e
      rw [if_pos e]; omega
    · rw [if_neg e]; omega
theorem pfo_full {n u : Nat} {f : Nat → Nat → Int} {o : List Nat} (h : pchk n u o = true) (hl : o.length = n) : pfo n f u o = oval f o := by
  cases u with
  | zero => rfl
  | succ u => unfold pfo; rw [if_pos hl]; rfl
theorem pfo_bound {n : Nat} (h6 : n ≤ 6) {f : Nat → Nat → Int} (hf : ∀ i j, i < n → j < n → -9 ≤ f i j ∧ f i j ≤ 9) : ∀ (u : Nat) (o : List Nat), pchk n u o = true → (pfo n f u o).natAbs ≤ 6 ^ u * 729
  | 0, o, h => by
    have := oval_bound h6 hf (show pgood n o = true from h)
    rw [pfo_full h (pchk_zero h)]; simpa using this
  | u + 1, o, h => by
    by_cases hl : o.length = n
    · rw [pfo_full h hl]
      have := oval_bound h6 hf (pchk_full h hl)
      have h2 : 0 < 6 ^ (u + 1) := Nat.pow_pos (by decide)
      have := Nat.mul_le_mul (Nat.succ_le_of_lt h2) (Nat.le_refl 729)
      omega
    · obtain ⟨h1, h2, h3, h4, h5⟩ := pchk_next h hl
      unfold pfo
      rw [if_neg hl]
      refine Nat.le_trans (psm_bound (B := 6 ^ u * 729) n fun k hk hc => ?_) ?_
      · rw [Bool.and_eq_true, decide_eq_true_eq] at hc
        exact pfo_bound h6 hf u _ (h5 k hk hc.1 (by simpa using hc.2))
      · rw [Nat.pow_succ, Nat.mul_comm (6 ^ u) 6, Nat.mul_assoc]
        exact Nat.mul_le_mul h6 (Nat.le_refl _)
end Zx

theorem occurs_nat {o : List Nat} {v : Nat} : Occurs (nz o) o.length (v : Int) ↔ o.contains v = true := by
  rw [List.contains_iff_mem]
  constructor
  · rintro ⟨j, hj, e⟩
    rw [nz_at hj] at e
    have : o.getD j 0 = v := by omega
    rw [← this, List.getD_eq_getElem?_getD, List.getElem?_eq_getElem hj]
    exact List.getElem_mem hj
  · intro h
    obtain ⟨j, hj, e⟩ := List.getElem_of_mem h
    refine ⟨j, hj, ?_⟩
    rw [nz_at hj, List.getD_eq_getElem?_getD, List.getElem?_eq_getElem hj]
    show ((o[j] : Nat) : Int) = v
    rw [e]
theorem rHas_nat (A : Option Addr) (o : List Nat) (c v : Nat) (w : World) (hl : Lies w A (nz o)) (h : o.length ≤ 1000) :
    Calls Tryd.prog 16 #[.slice A o.length c, .int .i64 (v : Int)] w fun e w' => e = .returned (.bool (o.contains v)) ∧ w = w' :=
  (refHas_any A (nz o) o.length c (v : Int) w hl (by rw [nz_len]; exact Nat.le_refl _) (by omega)).mono fun e w' ⟨h1, h2⟩ => by
    refine ⟨?_, h2⟩
    rcases h1 with ⟨hp, he⟩ | ⟨hp, he⟩
    · rw [he, occurs_nat.1 hp]
    · rw [he]
      cases hc : o.contains v with
      | true => exact absurd (occurs_nat.2 hc) hp
      | false => rfl

set_option maxRecDepth 100000 in
set_option maxHeartbeats 6400000 in
theorem rPfaff_leaf {n : Nat} (h6 : n ≤ 6) {f : Nat → Nat → Int} (hf : ∀ i j, i < n → j < n → -9 ≤ f i j ∧ f i j ≤ 9) (A B : Option Addr) (d c : Nat) (o : List Nat) (W : World) (hg : Zx.pgood n o = true) (ha : LiesM W A (Mx.tab n n f)) (hb : Lies W B (nz o)) :
    Calls Tryd.prog 7 #[.slice A n d, .slice B n c] W fun e W' => e = .returned (.int .i64 (Zx.oval f o)) ∧ Kp W W' := by
  have HM := Lib.hid ha
  have HL := Lib.hid hb
  have SGN := Lib.hid (fun (y : Int) (h : Mx.SgnIs (Mx.sp n fun i => (nz o).getD i 0) y) => Zx.pgood_sign hg h)
  obtain ⟨ol, ev, olt, _, _⟩ := of_decide_eq_true hg
  have SG := Lib.hid (rSign_any B (nz o) n c W hb (by rw [nz_len, ol]) (by omega))
  have PM := Zx.osg_pm o
  have LB := Lib.hid (fun t (ht : t + t ≤ n) => Nat.le_trans (Zx.ledTo_bound hf olt PM t ht) (show 9 ^ t ≤ 729 from Nat.le_trans (Nat.pow_le_pow_right (by decide) (show t ≤ 3 by omega)) (by decide)))
  have LED := Lib.hid (show Zx.oval f o = Zx.ledTo f o (Zx.osg o) (n / 2) from Zx.lead_to f (n / 2) o (Zx.osg o) (by rw [ol]))
  have OL := Lib.hid ol
  have EV := Lib.hid ev
  have OLT := Lib.hid olt
  obtain ⟨sg, hsg⟩ : ∃ sg, sg = Zx.osg o := ⟨_, rfl⟩
  rw [← hsg] at SGN LB LED PM
  obtain ⟨ov, hov⟩ : ∃ ov, ov = Zx.oval f o := ⟨_, rfl⟩
  rw [← hov] at LED ⊢
  have enn : ((n : Int) == (n : Int)) = true := by simp
  clear hsg hov hg ol ev olt ha hb
  go_enter Tryd.func7, Tryd.ntmps7
  go_wp2_with fail
  refine (SG.out).mono ?_; rintro e V1 ⟨y, rfl, hy, kv1⟩
  have ey := SGN.out y hy
  subst ey
  have KV1 := Lib.hid kv1
  clear hy kv1 SGN SG
  go_wp2_with fail
  go_loopw [5, 6] (fun v i wr => ∃ t q : Nat, q = t + t ∧ q ≤ n ∧ i = .int .i64 (q : Int) ∧ v = .int .i64 (Zx.ledTo f o y t) ∧ Kp W wr) (fun _ i _ => n - (intOf i).toNat)
  case atStart => exact ⟨0, 0, rfl, Nat.zero_le _, rfl, rfl, KV1.out⟩
  case round =>
    obtain ⟨t, q, hq, hqk, rfl, rfl, hkq⟩ := hrel
    have KQ := Lib.hid hkq
    obtain ⟨q1, hq1⟩ : ∃ q1 : Nat, q1 = q + 1 := ⟨_, rfl⟩
    have hw2 : (q : Int) + 1 = (q1 : Int) := by omega
    have hw3 : IntKind.i64.wrap (q1 : Int) = (q1 : Int) := IntWalk.i64_in _ (by omega)
    by_cases hlt : q1 < n
    · obtain ⟨ado, rfl, _, z0⟩ := (HL.out.keep hkq).num (k := q) (by rw [OL.out]; omega)
      obtain ⟨ado', ea, _, z1⟩ := (HL.out.keep hkq).num (k := q1) (by rw [OL.out]; exact hlt)
      obtain rfl := Option.some.inj ea
      have qlt : q < n := by omega
      have a0 := OLT.out q qlt
      have b0 := OLT.out q1 hlt
      have ST := Lib.hid (show Zx.ledTo f o y (t + 1) = Zx.ledTo f o y t * f (o.getD q 0) (o.getD q1 0) by rw [hq1, hq]; rfl)
      have B1 := LB.out t (by omega)
      have B2 := LB.out (t + 1) (by omega)
      rw [ST.out] at B2
      generalize Zx.ledTo f o y t = P at *
      generalize o.getD q 0 = a at *
      generalize o.getD q1 0 = b at *
      obtain ⟨adm, Ar, dr, rfl, _, xr, _, hR⟩ := (HM.out.keep hkq).row a0
      obtain ⟨adr, rfl, _, xe⟩ := hR.el b0
      have hw1 : IntKind.i64.wrap (P * f a b) = P * f a b := IntWalk.i64_in _ (by omega)
      have QQ := Lib.hid hq
      have hw4 : IntKind.i64.wrap ((q : Int) + 2) = (q : Int) + 2 := IntWalk.i64_in _ (by omega)
      have Q1 := Lib.hid hq1
      generalize f a b = c0 at *
      clear hq hq1 hkq hR B1 B2 ea
      go_upto_region 6 with (fail)
      go_still_tail 16, (by kernel_rfl)
      change wpList _ _ _ _ _ wr.drew
      go_wp2_with fail
      go_roundw
      case rel => exact ⟨t + 1, q + 2, by rw [QQ.out]; omega, by have := Q1.out; omega, by go_num, by rw [ST.out], KQ.out.drewN 1⟩
      case measure => simp [intOf]; omega
    · have E := Lib.hid (show Zx.ledTo f o y t = ov by rw [LED.out, show t = n / 2 by have := EV.out; omega])
      rw [E.out]
      clear hkq hq1
      go_wp2_with fail
      go_ret
      exact ⟨rfl, KQ.out⟩

set_option maxRecDepth 100000 in
set_option maxHeartbeats 6400000 in
theorem rPfaff_step {n : Nat} (h6 : n ≤ 6) {f : Nat → Nat → Int} (hf : ∀ i j, i < n → j < n → -9 ≤ f i j ∧ f i j ≤ 9) (A B : Option Addr) (d c r u p : Nat) (hu : u ≤ 3) (o : List Nat) (W : World) (hr : o.length = r) (hrn : r ≠ n) (hp : p = Zx.frs o n 0)
    (h1 : p < n) (h2 : ∀ k, k < p → o.contains k = true) (h3 : o.contains p = false) (h5 : ∀ j, j < n → p < j → o.contains j = false → Zx.pchk n u (o ++ [p, j]) = true) (hr6 : r ≤ 6)
    (ih : ∀ (j : Nat) (B' : Option Addr) (c' : Nat) (W' : World), j < n → p < j → o.contains j = false → Kp W W' → Lies W' B' (nz (o ++ [p, j])) →
      Calls Tryd.prog 7 #[.slice A n d, .slice B' (r + 1 + 1) c'] W' fun e W'' => e = .returned (.int .i64 (Zx.pfo n f u (o ++ [p, j]))) ∧ Kp W' W'')
    (hb : Lies W B (nz o)) :
    Calls Tryd.prog 7 #[.slice A n d, .slice B r c] W fun e W' => e = .returned (.int .i64 (Zx.pfo n f (u + 1) o)) ∧ Kp W W' := by
  have HB := Lib.hid hb
  have HAS := Lib.hid (fun (v : Nat) (w' : World) (k : Kp W w') => (show Calls Tryd.prog 16 #[.slice B r c, .int .i64 (v : Int)] w' fun e w'' => e = .returned (.bool (o.contains v)) ∧ w' = w'' from hr ▸ rHas_nat B o c v w' (hb.keep k) (by omega)))
  obtain ⟨cf, hcf⟩ : ∃ cf : Nat → Bool, cf = fun j => decide (p < j) && !(o.contains j) := ⟨_, rfl⟩
  obtain ⟨G, hG⟩ : ∃ G : Nat → Int, G = fun j => Zx.pfo n f u (o ++ [p, j]) := ⟨_, rfl⟩
  have EQ := Lib.hid (show Zx.pfo n f (u + 1) o = Zx.psm cf G n by rw [hcf, hG, hp]; exact if_neg (by rw [hr]; exact hrn))
  have GB := Lib.hid (fun j (hj : j < n) (hc : cf j = true) => (show (G j).natAbs ≤ 6 ^ 3 * 729 from by
    rw [hcf, Bool.and_eq_true, decide_eq_true_eq] at hc
    rw [hG]
    exact Nat.le_trans (Zx.pfo_bound h6 hf u _ (h5 j hj hc.1 (by simpa using hc.2))) (Nat.mul_le_mul_right _ (Nat.pow_le_pow_right (by decide) hu))))
  have PB := Lib.hid (fun t (ht : t ≤ n) => (show (Zx.psm cf G t).natAbs ≤ 6 * (6 ^ 3 * 729) from Nat.le_trans (Zx.psm_bound t fun k hk hc => GB.out k (by omega) hc) (Nat.mul_le_mul_right _ (by omega))))
  have P0 := Lib.hid (show Zx.psm cf G (p + 1) = 0 from Zx.psm_none fun k hk => by rw [hcf]; show (decide (p < k) && _) = false; rw [decide_eq_false (by omega), Bool.false_and])
  have CY := Lib.hid (fun j (hj : p < j) (h : o.contains j = false) => (show cf j = true by rw [hcf]; show (decide (p < j) && !(o.contains j)) = true; rw [decide_eq_true hj, h]; rfl))
  have CN := Lib.hid (fun j (h : o.contains j = true) => (show cf j = false by rw [hcf]; show (decide (p < j) && !(o.contains j)) = false; rw [h]; simp))
  have IH := Lib.hid (fun (j : Nat) (B' : Option Addr) (c' : Nat) (W' : World) (a1 : j < n) (a2 : p < j) (a3 : o.contains j = false) (a4 : Kp W W') (a5 : Lies W' B' (nz (o ++ [p, j]))) =>
    (show Calls Tryd.prog 7 #[.slice A n d, .slice B' (r + 1 + 1) c'] W' fun e W'' => e = .returned (.int .i64 (G j)) ∧ Kp W' W'' from by rw [hG]; exact ih j B' c' W' a1 a2 a3 a4 a5))
  have H2 := Lib.hid h2
  have H3 := Lib.hid h3
  have HV := Lib.hid (show r = (nz o).length by rw [nz_len, hr])
  rw [EQ.out]
  have e0 : ((r : Int) == (n : Int)) = false := by rw [beq_eq_false_iff_ne]; omega
  clear hb ih hcf hG hp h2 h3 h5 hr hrn
  go_enter Tryd.func7, Tryd.ntmps7
  go_wp2_with fail
  go_loopw [7] (fun v wr => ∃ k : Nat, k ≤ p ∧ v = .int .i64 (k : Int) ∧ wr = W) (fun v _ => p - (intOf v).toNat)
  case atStart => exact ⟨0, Nat.zero_le _, rfl, rfl⟩
  case round =>
    obtain ⟨k, hk, rfl, rfl⟩ := hrel
    by_cases hkp : k < p
    · have HC := Lib.hid (HAS.out k wr (Kp.rfl' _))
      rw [H2.out k hkp] at HC
      go_wp2_with fail
      refine (HC.out).mono ?_; rintro e w2 ⟨rfl, rfl⟩
      go_wp2_with fail
      go_roundw
      case rel => exact ⟨k + 1, by omega, by go_num, by trivial⟩
      case measure => simp [intOf]; omega
    · have ekp : p = k := by omega
      subst ekp
      have HC := Lib.hid (HAS.out p wr (Kp.rfl' _))
      rw [H3.out] at HC
      clear hk hkp
      go_wp2_with fail
      refine (HC.out).mono ?_; rintro e w2 ⟨rfl, rfl⟩
      clear HC
      obtain ⟨V, hV⟩ : ∃ x, x = wr := ⟨_, rfl⟩
      subst hV
      go_wp2_with fail
      go_loopw [8, 9, 10] (fun s j _ wr => ∃ x : Nat, x ≤ n ∧ p < x ∧ j = .int .i64 (x : Int) ∧ s = .int .i64 (Zx.psm cf G x) ∧ Kp V wr) (fun _ j _ _ => n - (intOf j).toNat)
      case atStart => exact ⟨p + 1, by omega, by omega, by go_num, by rw [P0.out], Kp.rfl' _⟩
      case round =>
        obtain ⟨x, hx, hpx, rfl, rfl, hkw⟩ := hrel
        have HK := Lib.hid hkw
        by_cases hlt : x < n
        · have SB := PB.out x (by omega)
          have HC := Lib.hid (HAS.out x wr hkw)
          cases hcx : o.contains x with
          | true =>
            rw [hcx] at HC
            have ST := Lib.hid (show Zx.psm cf G (x + 1) = Zx.psm cf G x by show (if cf x then _ else _) = _; rw [CN.out x hcx]; rfl)
            generalize Zx.psm cf G x = s at *
            clear hcx hkw
            go_wp2_with fail
            refine (HC.out).mono ?_; rintro e w2 ⟨rfl, rfl⟩
            go_wp2_with fail
            go_roundw
            case rel => exact ⟨x + 1, by omega, by omega, by go_num, by rw [ST.out], HK.out⟩
            case measure => simp [intOf]; omega
          | false =>
            rw [hcx] at HC
            have ST := Lib.hid (show Zx.psm cf G (x + 1) = Zx.psm cf G x + G x by show (if cf x then _ else _) = _; rw [CY.out x hpx hcx]; rfl)
            have gb := GB.out x hlt (CY.out x hpx hcx)
            have I1 := Lib.hid (fun (B' : Option Addr) (c' : Nat) (W' : World) => IH.out x B' c' W' hlt hpx hcx)
            generalize Zx.psm cf G x = s at *
            generalize G x = g at *
            have e7 : IntKind.i64.wrap (s + g) = s + g := IntWalk.i64_in _ (by omega)
            have hl1 : ([] ++ nz o).length + 1 ≤ 17000000000000 := by rw [List.nil_append, ← HV.out]; omega
            have hl2 : (nz o ++ [(p : Int)]).length + 1 ≤ 17000000000000 := by rw [List.length_append, List.length_singleton, ← HV.out]; omega
            clear hcx gb SB hkw
            go_wp2_with fail
            refine (HC.out).mono ?_; rintro e w2 ⟨rfl, rfl⟩
            go_wp2_with (first
              | (at_builtin; refine wpList_cat rfl (.tmp 59) (.tmp 60) rfl V.heap.size (.slice none 0 0) [] (nz o) B r c rfl rfl HV.out (Own.none _ _) (HB.out.keep HK.out) (by have := HV.out; simp; omega) HK.out.size ?_; intro v1 w1 h1 h2 h3; have O1 := Lib.hid h1; have K1 := Lib.hid (show Kp V w1 from own_below (Own.none _ V.heap.size) HK.out HK.out.size h2); clear h1 h2 h3)
              | (at_builtin; refine wpList_push rfl (.tmp 62) (.tmp 64) rfl V.heap.size v1 ([] ++ nz o) (p : Int) w1.heap.size 1 rfl rfl (O1.out.new _) (by simp; done) hl1 (Nat.le_trans K1.out.size ((Kp.rfl' _).new _).size) ?_; intro v2 w2 h1 h2 h3; have O2 := Lib.hid (show Own w2 V.heap.size v2 (nz o ++ [(p : Int)]) from h1); have K2 := Lib.hid (show Kp V w2 from own_below (O1.out.new _) (K1.out.new _) (Nat.le_trans K1.out.size ((Kp.rfl' _).new _).size) h2); clear h1 h2 h3)
              | (at_builtin; refine wpList_push rfl (.tmp 68) (.tmp 70) rfl V.heap.size v2 (nz o ++ [(p : Int)]) (x : Int) w2.heap.size 1 rfl rfl (O2.out.new _) (by simp; done) hl2 (Nat.le_trans K2.out.size ((Kp.rfl' _).new _).size) ?_; intro v3 w3 h1 h2 h3; have O3 := Lib.hid (show Own w3 V.heap.size v3 (nz o ++ [(p : Int)] ++ [(x : Int)]) from h1); have K3 := Lib.hid (show Kp V w3 from own_below (O2.out.new _) (K2.out.new _) (Nat.le_trans K2.out.size ((Kp.rfl' _).new _).size) h2); clear h1 h2 h3))
            obtain ⟨B', c', rfl, l3, _⟩ := O3.out.cap
            have e3 : nz o ++ [(p : Int)] ++ [(x : Int)] = nz (o ++ [p, x]) := by unfold nz; rw [List.map_append, List.append_assoc]; rfl
            rw [show (nz o ++ [(p : Int)] ++ [(x : Int)]).length = r + 1 + 1 by rw [List.length_append, List.length_append, ← HV.out]; rfl]
            rw [e3] at l3
            refine (I1.out B' c' w3 K3.out l3).mono ?_; rintro e w4 ⟨rfl, k4⟩
            have K4 := Lib.hid (K3.out.trans k4)
            clear k4 l3 e3
            go_wp2_with fail
            go_roundw
            case rel => exact ⟨x + 1, by omega, by omega, by go_num, by rw [ST.out], K4.out⟩
            case measure => simp [intOf]; omega
        · have exn : n = x := by omega
          subst exn
          clear hkw hx hlt
          go_wp2_with fail
          go_ret
          exact ⟨rfl, HK.out⟩

theorem rPfaff_any {n : Nat} (h6 : n ≤ 6) {f : Nat → Nat → Int} (hf : ∀ i j, i < n → j < n → -9 ≤ f i j ∧ f i j ≤ 9) (A : Option Addr) (d : Nat) : ∀ (u : Nat), u ≤ 4 → ∀ (o : List Nat) (r : Nat) (B : Option Addr) (c : Nat) (W : World), o.length = r → Zx.pchk n u o = true → LiesM W A (Mx.tab n n f) → Lies W B (nz o) →
    Calls Tryd.prog 7 #[.slice A n d, .slice B r c] W fun e W' => e = .returned (.int .i64 (Zx.pfo n f u o)) ∧ Kp W W'
  | u, hu, o, r, B, c, W, hr, hc, ha, hb => by
    by_cases hl : o.length = n
    · rw [Zx.pfo_full hc hl]
      have : r = n := by omega
      subst this
      exact rPfaff_leaf h6 hf A B d c o W (Zx.pchk_full hc hl) ha hb
    · cases u with
      | zero => exact absurd (Zx.pchk_zero hc) hl
      | succ u =>
        obtain ⟨h1, h2, h3, h4, h5⟩ := Zx.pchk_next hc hl
        exact rPfaff_step h6 hf A B d c r u _ (by omega) o W hr (by omega) rfl h1 h2 h3 h5 (by omega) (fun j B' c' W' a1 a2 a3 a4 a5 =>
          rPfaff_any h6 hf A d u (by omega) (o ++ [Zx.frs o n 0, j]) (r + 1 + 1) B' c' W' (by rw [List.length_append, hr]; rfl) (h5 j a1 a2 a3) (ha.keep a4) a5) hb
end Go.Proofs.YtkebjmapdcbnaaaDoor

/- Contracts of the document's answer on matrices of whole numbers: Copy, Without. For all packages. -/
namespace Go.Proofs.YtkebjmapdcbnaaaDoor
open Go.ChangeShapes Go.WideShapes Go.ChangeAt Go.RowKit
set_option linter.unusedVariables false


set_option maxRecDepth 100000 in
set_option maxHeartbeats 6400000 in
theorem rWithoutZ_any (A : Option Addr) (f : Nat → Nat → Int) (p a b d : Nat) (w : World) (ha : LiesM w A (Mx.tab (p + 1) (p + 1) f)) (hpa : a ≤ p) (hpb : b ≤ p) (hp : p ≤ 1000) :
    Calls Tryd.prog 17 #[.slice A ((p + 1 : Nat) : Int).toNat d, .int .i64 (a : Int), .int .i64 (b : Int)] w fun e w' => ∃ A d, e = .returned (.slice A p d) ∧ LiesM w' A (Mx.tab p p (Zx.wo f a b)) ∧ Kp w w' := by
  rw [Int.toNat_natCast]
  have HA := Lib.hid ha
  clear ha
  obtain ⟨n, hn⟩ : ∃ n, n = p + 1 := ⟨_, rfl⟩
  rw [← hn] at HA ⊢
  have HN := Lib.hid hn
  have hn1 : n ≤ 1001 := by omega
  clear hn
  go_enter Tryd.func17, Tryd.ntmps17
  go_wp2_with fail
  go_loopw [7, 8] (fun v i wr => ∃ (k : Nat) (G C : Nat → Nat), k ≤ n ∧ i = .int .i64 (k : Int) ∧ OwnM wr w.heap.size v G C (Mx.tab (ct a k) p (Zx.wo f a b)) ∧ Kp w wr) (fun _ i _ => n - (intOf i).toNat)
  case atStart => exact ⟨0, fun _ => 0, fun _ => 0, Nat.zero_le _, rfl, by rw [ct_zero]; exact ownM_none _ _ _ _, Kp.rfl' _⟩
  case round =>
    obtain ⟨k, G, C, hk, rfl, ho, hkp⟩ := hrel
    obtain ⟨wo', hwo⟩ : ∃ x, x = wr := ⟨_, rfl⟩
    subst hwo
    have HO := Lib.hid ho
    have HK := Lib.hid hkp
    clear ho hkp
    by_cases hlt : k < n
    · by_cases hka : k = a
      · subst hka
        have e1 : ((k : Int) == (k : Int)) = true := by simp
        have HC := Lib.hid (ct_skip k)
        go_wp2_with fail
        go_roundw
        case rel => exact ⟨k + 1, G, C, by omega, by go_num, by rw [HC.out]; exact HO.out, HK.out⟩
        case measure => simp [intOf]; omega
      · have e1 : ((k : Int) == (a : Int)) = false := by rw [beq_eq_false_iff_ne]; omega
        have hp0 : 0 < p := by have := HN.out; omega
        have HC := Lib.hid (ct_next hka)
        have HSK := Lib.hid (sk_ct hka)
        have HS := Lib.hid (show Mx.tab (ct a k + 1) p (Zx.wo f a b) = Mx.tab (ct a k) p (Zx.wo f a b) ++ [Mx.row p fun j => f k (Mx.sk b j)] by
          rw [Mx.tab_snoc]
          congr 2
          refine Mx.row_ext fun j _ => ?_
          show f (Mx.sk a (ct a k)) (Mx.sk b j) = _
          rw [HSK.out])
        have HCL := Lib.hid (show ct a k ≤ 2000 by have := ct_le (a := a) (p := p) (t := k) hpa (by have := HN.out; omega); omega)
        clear hka
        obtain ⟨ad, A1, d1, rfl, _, x1, _, l1⟩ := (HA.out.keep HK.out).row hlt
        have L1 := Lib.hid l1
        have X1 := Lib.hid x1
        clear l1 x1
        go_wp2_with fail
        go_loopw [9, 10] (fun u i wq => ∃ t : Nat, t ≤ n ∧ i = .int .i64 (t : Int) ∧ Own wq wo'.heap.size u (Mx.row (ct b t) fun j => f k (Mx.sk b j)) ∧ Kp wo' wq) (fun _ i _ => n - (intOf i).toNat)
        case atStart => exact ⟨0, Nat.zero_le _, rfl, by rw [ct_zero]; exact Own.none _ _, Kp.rfl' _⟩
        case round =>
          obtain ⟨t, ht, rfl, hu, hkq⟩ := hrel
          have HU := Lib.hid hu
          have HQ := Lib.hid hkq
          have x2 := (hkq.cell (p := ad.add k) (cell_lt X1.out)).trans X1.out
          by_cases hlt2 : t < n
          · by_cases htb : t = b
            · subst htb
              have e2 : ((t : Int) != (t : Int)) = false := by simp
              have HC2 := Lib.hid (ct_skip t)
              clear hu hkq
              go_wp2_with fail
              go_roundw
              case rel => exact ⟨t + 1, by omega, by go_num, by rw [HC2.out]; exact HU.out, HQ.out⟩
              case measure => simp [intOf]; omega
            · have e2 : ((t : Int) != (b : Int)) = true := by rw [bne_iff_ne]; omega
              have HC2 := Lib.hid (ct_next htb)
              have HSK2 := Lib.hid (sk_ct htb)
              obtain ⟨ad1, rfl, _, x3⟩ := (L1.out.keep hkq).el hlt2
              have hlen : (Mx.row (ct b t) fun j => f k (Mx.sk b j)).length + 1 ≤ 17000000000000 := by
                rw [Mx.len_row]; have := ct_le (a := b) (p := p) (t := t) hpb (by have := HN.out; omega); omega
              have HSN := Lib.hid (show Mx.row (ct b t + 1) (fun j => f k (Mx.sk b j)) = (Mx.row (ct b t) fun j => f k (Mx.sk b j)) ++ [f k t] by
                rw [Mx.row_snoc, HSK2.out])
              have hsz := HQ.out.size
              generalize f k t = z at *
              obtain ⟨wd, hwd⟩ : ∃ x, x = wr := ⟨_, rfl⟩
              subst hwd
              clear hu hkq htb
              go_wp2_with (at_builtin; refine wpList_push rfl _ _ rfl wo'.heap.size _ (Mx.row (ct b t) fun j => f k (Mx.sk b j)) z wd.heap.size 1 rfl rfl (HU.out.new _) (by simp; done) hlen (Nat.le_trans hsz ((Kp.rfl' _).new _).size) ?_; intro v' w' h1 h2 _)
              have HU' := Lib.hid h1
              have HQ' := Lib.hid (own_below (HU.out.new _) (HQ.out.new _) (Nat.le_trans hsz ((Kp.rfl' _).new _).size) h2)
              clear h1 h2
              go_wp2_with fail
              go_roundw
              case rel => exact ⟨t + 1, by omega, by go_num, by rw [HC2.out, HSN.out]; exact HU'.out, HQ'.out⟩
              case measure => simp [intOf]; omega
          · obtain rfl : t = n := by omega
            rw [show ct b t = p by rw [HN.out]; exact ct_end hpb] at HU
            obtain ⟨g, gc, rfl, hg, hgc⟩ := own_some HU.out (by rw [Mx.len_row]; exact hp0)
            rw [Mx.len_row] at HU hgc ⊢
            clear hu hkq
            have OM := Lib.hid (HO.out.kp HQ.out)
            have HAP := Lib.hid (show ∀ i, i < (Mx.tab (ct a k) p (Zx.wo f a b)).length → G i ≠ g from fun i hi => by have := (HO.out.lt hi).2; omega)
            have HLE := Lib.hid (show (Mx.tab (ct a k) p (Zx.wo f a b)).length + 1 ≤ 1000000 by rw [Mx.len_tab]; have := HCL.out; omega)
            go_wp2_with (at_builtin; refine wpList_pushM rfl _ _ rfl w.heap.size _ G C (Mx.tab (ct a k) p (Zx.wo f a b)) _ g p gc _ 1 (Mx.len_row _ _) rfl rfl (OM.out.new _) (cell_made _ _ _ _ 0 rfl) ((HU.out.from HK.out.size).new _) HAP.out HLE.out (Nat.le_trans HK.out.size (Nat.le_trans HQ.out.size ((Kp.rfl' _).new _).size)) ?_; intro v' w' G' C' ho' hk')
            have HO' := Lib.hid ho'
            have HK' := Lib.hid (hk' w (Nat.le_refl _) ((HK.out.trans HQ.out).new _))
            clear ho' hk'
            go_wp2_with fail
            go_roundw
            case rel => exact ⟨k + 1, G', C', by omega, by go_num, by rw [HC.out, HS.out]; exact HO'.out, HK'.out⟩
            case measure => simp [intOf]; omega
    · obtain rfl : k = n := by omega
      obtain ⟨A, d2, rfl, hl, _⟩ := HO.out.lies
      rw [Mx.len_tab, show ct a k = p by rw [HN.out]; exact ct_end hpa] at *
      have HL := Lib.hid hl
      clear hl
      go_wp2_with fail
      go_ret
      exact ⟨A, d2, rfl, HL.out, HK.out⟩

end Go.Proofs.YtkebjmapdcbnaaaDoor
