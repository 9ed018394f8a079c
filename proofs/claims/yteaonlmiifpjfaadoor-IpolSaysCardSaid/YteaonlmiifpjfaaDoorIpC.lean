/- Contracts of package ipol: Check, Steps, Through. -/
import Derived.Test.YteaonlmiifpjfaaDoorPolRef
import Derived.Test.YteaonlmiifpjfaaDoorIpM
import Derived.Lib.SliceRun
namespace Go.Proofs.YteaonlmiifpjfaaDoor
open Go.ChangeShapes Go.WideShapes Go.ChangeAt Go.RowKit
set_option linter.unusedVariables false

theorem quiet_drew {P : Program} {f : FuncId} {args : Array Value} {w : World} {n : Nat} {v : Value} (h : Calls P f args (w.drewN n) fun e w' => e = .returned v ∧ Drew (w.drewN n) w') :
    Calls P f args (w.drewN n) fun e w'' => e = .returned v ∧ ∃ m, w'' = w.drewN m := h.mono fun _ _ ⟨he, m, hm⟩ => ⟨he, n + m, by rw [hm, World.drewN_drewN]⟩
theorem quiet_drew_more {P : Program} {f : FuncId} {args : Array Value} {w : World} {a n : Nat} {v : Value} (h : Calls P f args (w.drewN (a + n)) fun e w' => e = .returned v ∧ Drew (w.drewN (a + n)) w') :
    Calls P f args (w.drewN (a + n)) fun e w'' => e = .returned v ∧ ∃ m, w'' = w.drewN (a + m) := h.mono fun _ _ ⟨he, m, hm⟩ => ⟨he, n + m, by rw [hm, World.drewN_drewN, Nat.add_assoc]⟩

/-- A row of the call's own has an address where it is not empty. -/
theorem own_some {w : World} {B : Nat} {v : Value} {l : List Int} (h : Own w B v l) (h0 : 0 < l.length) : ∃ g c, v = .slice (some ⟨g, 0, none⟩) l.length c ∧ B ≤ g ∧ l.length ≤ c := by
  rcases h.2 with ⟨_, h1⟩ | ⟨g, cap, cur, e, hg, _, hc, _⟩
  · omega
  · exact ⟨g, cap, e, hg, hc⟩
theorem own_row {w : World} {B g n c : Nat} {l : List Int} (h : Own w B (.slice (some ⟨g, 0, none⟩) n c) l) : ∃ cur, w.heap[g]? = some (.cells cur 3 (0, 0)) ∧ cur.toList.take l.length = ints l := by
  rcases h.2 with ⟨h0, _⟩ | ⟨g', cap, cur, e, hg, hh, hc, hm, hs, ht⟩
  · cases h0
  · cases e
    exact ⟨cur, hh, by simpa using ht⟩
theorem own_cell {w : World} {B g n c : Nat} {l : List Int} (h : Own w B (.slice (some ⟨g, 0, none⟩) n c) l) (k : Nat) (hk : k < l.length) : w.cell? ⟨g, k, none⟩ = some (.int .i64 (l.getD k 0)) := by
  obtain ⟨cur, hh, ht⟩ := own_row h
  rw [cell_of_row _ _ k _ _ (0, 0) hh, ← Array.getElem?_toList, ← List.getElem?_take_of_lt hk, ht]
  simp [hk]
theorem own_free {w : World} {B g n c : Nat} {l : List Int} (h : Own w B (.slice (some ⟨g, 0, none⟩) n c) l) (k : Nat) : w.frozen? ⟨g, k, none⟩ = false := by
  obtain ⟨cur, hh, ht⟩ := own_row h
  exact frozen_of_row w g k _ _ hh
theorem own_put {w : World} {B g n c : Nat} {l : List Int} (h : Own w B (.slice (some ⟨g, 0, none⟩) n c) l) (k : Nat) (x : Int) :
    Own (w.setCell ⟨g, k, none⟩ (.int .i64 x)) B (.slice (some ⟨g, 0, none⟩) n c) (l.set k x) := by
  rcases h.2 with ⟨h0, _⟩ | ⟨g', cap, cur, e, hg, hh, hc, hm, hs, ht⟩
  · cases h0
  · cases e
    refine ⟨by simp, .inr ⟨g, c, cur.setIfInBounds k (.int .i64 x), by rw [List.length_set], hg, heap_setCell_same w g k _ _ _ hh, by rw [List.length_set]; exact hc, hm, by rw [Array.size_setIfInBounds]; exact hs, ?_⟩⟩
    rw [Array.toList_setIfInBounds, List.length_set, List.take_set, ht]
    simp [ints, List.map_set]

/-- A number occurs among the first. -/
def Occurs (l : List Int) (n : Nat) (v : Int) : Prop := ∃ j, j < n ∧ l.getD j 0 = v
/-- An index where it occurs, or -1. -/
def Idx (P : Prop) (e : Ending) : Prop := (P ∧ ∃ k : Nat, e = .returned (.int .i64 (k : Int))) ∨ (¬ P ∧ e = .returned (.int .i64 (-1)))

set_option maxHeartbeats 800000 in
theorem index_any (A : Option Addr) (l : List Int) (n c : Nat) (v : Int) (w : World) (hl : Lies w A l) (hn : n ≤ l.length) (ln : n ≤ 1000000) :
    Calls Tryd.prog 27 #[.slice A n c, .int .i64 v] w fun e w' => Idx (Occurs l n v) e ∧ w = w' := by
  have HL := Lib.hid hl
  have HN := Lib.hid hn
  clear hl hn
  go_enter Tryd.func27, Tryd.ntmps27
  go_wp2_with fail
  go_loop [8] (fun i => ∃ k : Nat, k ≤ n ∧ i = .int .i64 (k : Int) ∧ ∀ j, j < k → l.getD j 0 ≠ v) (fun i => n - (intOf i).toNat)
  case atStart => exact ⟨0, Nat.zero_le _, rfl, fun j hj => absurd hj (by omega)⟩
  case round =>
    obtain ⟨k, hk, rfl, hg⟩ := hrel
    have HG := Lib.hid hg
    clear hg
    by_cases hlt : k < n
    · obtain ⟨ad, rfl, _, hc⟩ := HL.out k (by have := HN.out; omega)
      obtain ⟨m, hm⟩ : ∃ m, m = l.getD k 0 := ⟨_, rfl⟩
      rw [← hm] at hc
      by_cases h0 : v = m
      · have F := Lib.hid (show Occurs l n v from ⟨k, hlt, by rw [← hm, h0]⟩)
        have e0 : (v == m) = true := by rw [h0]; exact beq_self_eq_true m
        clear hm h0
        go_wp2_with fail
        go_ret
        exact ⟨.inl ⟨F.out, k, rfl⟩, rfl⟩
      · have GG := Lib.hid (show ∀ j, j < k + 1 → l.getD j 0 ≠ v from fun j hj => by
          by_cases e : j = k
          · subst e; rw [← hm]; exact fun h => h0 h.symm
          · exact HG.out j (by omega))
        have e0 : (v == m) = false := by rw [beq_eq_false_iff_ne]; exact h0
        clear hm h0
        go_wp2_with fail
        go_round
        case rel => exact ⟨k + 1, by omega, by go_num, GG.out⟩
        case measure => simp [intOf]; omega
    · have F := Lib.hid (show ¬ Occurs l n v from fun ⟨j, h1, h2⟩ => HG.out j (by omega) h2)
      go_wp2_with fail
      go_ret
      exact ⟨.inr ⟨F.out, rfl⟩, rfl⟩

theorem contains_any (A : Option Addr) (l : List Int) (n c : Nat) (v : Int) (w : World) (hl : Lies w A l) (hn : n ≤ l.length) (ln : n ≤ 1000000) :
    Calls Tryd.prog 15 #[.slice A n c, .int .i64 v] w fun e w' => Tells (Occurs l n v) e ∧ w = w' := by
  have H := Lib.hid (index_any A l n c v w hl hn ln)
  clear hl hn
  go_enter Tryd.func15, Tryd.ntmps15
  go_wp2_with fail
  refine (H.out).mono ?_; rintro e w' ⟨hi, rfl⟩
  rcases hi with ⟨hp, k, rfl⟩ | ⟨hp, rfl⟩
  · have HP := Lib.hid hp
    go_wp2_with fail
    go_ret
    exact ⟨.inl ⟨HP.out, by simp⟩, rfl⟩
  · have HP := Lib.hid hp
    go_wp2_with fail
    go_ret
    exact ⟨.inr ⟨HP.out, by simp⟩, rfl⟩

theorem ipElement_any (n : Int) (w : World) (b : Bool) (hb : (decide (0 ≤ n) && decide (n ≤ 9972)) = b) :
    Calls Tryd.prog 14 #[.int .i64 n] w fun e w' => e = .returned (.bool b) ∧ w = w' := by
  have H := Lib.hid hb
  clear hb
  by_cases h1 : 0 ≤ n
  · go_enter Tryd.func14, Tryd.ntmps14
    go_wp2
    go_ret
    exact ⟨ret_bool (by rw [← H.out, decide_eq_true h1, Bool.true_and]; exact decide_eq_decide.2 (by omega)), rfl⟩
  · go_enter Tryd.func14, Tryd.ntmps14
    go_wp2
    go_ret
    exact ⟨ret_bool (by rw [← H.out, decide_eq_false (show ¬ 0 ≤ n by omega), Bool.false_and]), rfl⟩

theorem minus_el (a b : Fp.F) (w : World) :
    Calls Tryd.prog 21 #[el a, el b] w fun e w' => e = .returned (el (a - b)) ∧ w = w' := by
  have E := Lib.hid (show ((a.val : Int) - (b.val : Int) + 9973) % 9973 = ((a - b : Fp.F).val : Int) by
    rw [← Fp.ofInt_val]
    have h : Fp.ofInt ((a.val : Int) - (b.val : Int) + 9973) + b = a := by
      have := Fp.ofInt_add ((a.val : Int) - (b.val : Int) + 9973) (b.val : Int)
      rw [Fp.ofInt_self, show (a.val : Int) - (b.val : Int) + 9973 + (b.val : Int) = (a.val : Int) + 9973 by omega, Fp.ofInt_add, Fp.ofInt_self, show Fp.ofInt 9973 = 0 from rfl] at this
      rw [← this]; grind
    have : Fp.ofInt ((a.val : Int) - (b.val : Int) + 9973) = a - b := by rw [← h]; grind
    rw [this])
  have h1 := Fp.val_bound a
  have h2 := Fp.val_bound b
  unfold el
  generalize ((a - b : Fp.F).val : Int) = z at *
  generalize (a.val : Int) = x at *
  generalize (b.val : Int) = y at *
  go_enter Tryd.func21, Tryd.ntmps21
  go_wp2
  go_ret
  exact ⟨ret_int (by rw [E.out]), rfl⟩

/-- One of the first places comes twice. -/
def Twice (l : List Int) : Prop := ∃ i, i < l.length ∧ Occurs l i (l.getD i 0)
open Classical in
/-- What is wrong with points, as a number. -/
noncomputable def dcode (l m : List Int) : Nat :=
  if 6 < l.length then 4 else if m.length ≠ l.length then 3 else if ¬ (AllIn l 0 9972 ∧ AllIn m 0 9972) then 1 else if Twice l then 6 else 0
theorem dcode_some (l m : List Int) : dcode l m = 0 ∨ dcode l m = 1 ∨ dcode l m = 3 ∨ dcode l m = 4 ∨ dcode l m = 6 := by
  unfold dcode; split
  · simp
  · split
    · simp
    · split
      · simp
      · split <;> simp
theorem dcode_full {l m : List Int} (h : 6 < l.length) : dcode l m = 4 := by unfold dcode; rw [if_pos h]
theorem dcode_shape {l m : List Int} (h : ¬ 6 < l.length) (h1 : m.length ≠ l.length) : dcode l m = 3 := by unfold dcode; rw [if_neg h, if_pos h1]
theorem dcode_range {l m : List Int} (h : ¬ 6 < l.length) (h1 : m.length = l.length) (h2 : ¬ (AllIn l 0 9972 ∧ AllIn m 0 9972)) : dcode l m = 1 := by
  unfold dcode; rw [if_neg h, if_neg (fun e => e h1), if_pos h2]
theorem dcode_twice {l m : List Int} (h : ¬ 6 < l.length) (h1 : m.length = l.length) (h2 : AllIn l 0 9972) (h3 : AllIn m 0 9972) (h4 : Twice l) : dcode l m = 6 := by
  unfold dcode; rw [if_neg h, if_neg (fun e => e h1), if_neg (fun e => e ⟨h2, h3⟩), if_pos h4]
theorem dcode_ok {l m : List Int} (h : ¬ 6 < l.length) (h1 : m.length = l.length) (h2 : AllIn l 0 9972) (h3 : AllIn m 0 9972) (h4 : ¬ Twice l) : dcode l m = 0 := by
  unfold dcode; rw [if_neg h, if_neg (fun e => e h1), if_neg (fun e => e ⟨h2, h3⟩), if_neg h4]

/-- A row of numbers that are elements. -/
theorem allIn_vals {l : List Int} (h : AllIn l 0 9972) : ∃ p : List Fp.F, l = Pol.vals p := by
  refine ⟨l.map Fp.ofInt, ?_⟩
  unfold Pol.vals
  rw [List.map_map]
  conv => lhs; rw [← List.map_id l]
  refine List.map_congr_left fun n hn => ?_
  obtain ⟨k, hk, rfl⟩ := List.mem_iff_getElem.1 hn
  have := h k hk
  rw [List.getD_eq_getElem?_getD, List.getElem?_eq_getElem hk] at this
  exact (Fp.ofInt_of _ this.1 this.2).symm
theorem vals_allIn (p : List Fp.F) : AllIn (Pol.vals p) 0 9972 := fun k _ => by rw [Pol.vals_at]; exact Fp.val_bound _

theorem dcode_zero {l m : List Int} (h : dcode l m = 0) : ∃ p q : List Fp.F, l = Pol.vals p ∧ m = Pol.vals q ∧ p.length ≤ 6 ∧ q.length = p.length ∧ Pol.Apart (Pol.co p) p.length := by
  by_cases h1 : 6 < l.length
  · rw [dcode_full h1] at h; cases h
  by_cases h2 : m.length = l.length
  · by_cases h3 : AllIn l 0 9972 ∧ AllIn m 0 9972
    · by_cases h4 : Twice l
      · rw [dcode_twice h1 h2 h3.1 h3.2 h4] at h; cases h
      · obtain ⟨p, rfl⟩ := allIn_vals h3.1
        obtain ⟨q, rfl⟩ := allIn_vals h3.2
        rw [Pol.len_vals] at h1 h2
        rw [Pol.len_vals] at h2
        refine ⟨p, q, rfl, rfl, by omega, h2, fun i j hi hj e => h4 ⟨j, by rw [Pol.len_vals]; exact hj, i, hi, ?_⟩⟩
        rw [Pol.vals_at, Pol.vals_at, e]
    · rw [dcode_range h1 h2 h3] at h; cases h
  · rw [dcode_shape h1 h2] at h; cases h
theorem dcode_vals {p q : List Fp.F} (hp : p.length ≤ 6) (hq : q.length = p.length) (hX : Pol.Apart (Pol.co p) p.length) : dcode (Pol.vals p) (Pol.vals q) = 0 := by
  refine dcode_ok (by rw [Pol.len_vals]; omega) (by rw [Pol.len_vals, Pol.len_vals]; exact hq) (vals_allIn p) (vals_allIn q) fun ⟨i, hi, j, hj, e⟩ => ?_
  rw [Pol.len_vals] at hi
  rw [Pol.vals_at, Pol.vals_at] at e
  exact hX j i hj hi (Fp.val_inj e)

theorem ipCheck_full (A B : Option Addr) (l m : List Int) (c d : Nat) (w : World) (h : 6 < l.length) :
    Calls Tryd.prog 6 #[.slice A l.length c, .slice B m.length d] w fun e w' => e = .returned (errOf (dcode l m)) ∧ w = w' := by
  rw [dcode_full h]
  generalize l.length = n at *
  generalize m.length = q at *
  have h' : (6 : Int) < n := by omega
  go_enter Tryd.func6, Tryd.ntmps6
  go_wp2
  go_ret
  exact ⟨rfl, rfl⟩
theorem ipCheck_shape (A B : Option Addr) (l m : List Int) (c d : Nat) (w : World) (h : ¬ 6 < l.length) (h1 : m.length ≠ l.length) :
    Calls Tryd.prog 6 #[.slice A l.length c, .slice B m.length d] w fun e w' => e = .returned (errOf (dcode l m)) ∧ w = w' := by
  rw [dcode_shape h h1]
  generalize l.length = n at *
  generalize m.length = q at *
  have h' : ¬ (6 : Int) < n := by omega
  have h2 : ((q : Int) != (n : Int)) = true := by simp; omega
  clear h h1
  go_enter Tryd.func6, Tryd.ntmps6
  go_wp2
  go_ret
  exact ⟨rfl, rfl⟩

set_option maxHeartbeats 1600000 in
theorem ipCheck_main (A B : Option Addr) (l m : List Int) (c d : Nat) (w : World) (ha : Lies w A l) (hb : Lies w B m) (hc : l.length ≤ c) (h : ¬ 6 < l.length) (h1 : m.length = l.length) :
    Calls Tryd.prog 6 #[.slice A l.length c, .slice B l.length d] w fun e w' => e = .returned (errOf (dcode l m)) ∧ w = w' := by
  have HA := Lib.hid ha
  have HB := Lib.hid hb
  have RNG := Lib.hid (fun h2 => dcode_range h h1 h2)
  have TWI := Lib.hid (fun h2 h3 h4 => dcode_twice h h1 h2 h3 h4)
  have OKS := Lib.hid (fun h2 h3 h4 => dcode_ok h h1 h2 h3 h4)
  obtain ⟨v, hv⟩ : ∃ v, v = dcode l m := ⟨_, rfl⟩
  rw [← hv] at RNG TWI OKS ⊢
  obtain ⟨n, hn⟩ : ∃ n, n = l.length := ⟨_, rfl⟩
  rw [← hn] at h h1 hc ⊢
  have HN := Lib.hid hn
  have HM := Lib.hid h1
  have h' : ¬ (6 : Int) < n := by omega
  clear ha hb hv hn h1
  go_enter Tryd.func6, Tryd.ntmps6
  go_wp2_with fail
  go_loop [20] (fun i => ∃ k : Nat, k ≤ n ∧ i = .int .i64 (k : Int) ∧ ∀ j, j < k → (0 ≤ l.getD j 0 ∧ l.getD j 0 ≤ 9972) ∧ (0 ≤ m.getD j 0 ∧ m.getD j 0 ≤ 9972)) (fun i => n - (intOf i).toNat)
  case atStart => exact ⟨0, Nat.zero_le _, rfl, fun j hj => absurd hj (by omega)⟩
  case round =>
    obtain ⟨k, hk, rfl, hg⟩ := hrel
    have HG := Lib.hid hg
    clear hg
    by_cases hlt : k < n
    · obtain ⟨ad, rfl, _, hcx⟩ := HA.out k (by have := HN.out; omega)
      obtain ⟨bd, rfl, _, hcy⟩ := HB.out k (by have := HM.out; omega)
      obtain ⟨x, hx⟩ : ∃ x, x = l.getD k 0 := ⟨_, rfl⟩
      obtain ⟨y, hy⟩ : ∃ y, y = m.getD k 0 := ⟨_, rfl⟩
      rw [← hx] at hcx
      rw [← hy] at hcy
      by_cases x1 : 0 ≤ x ∧ x ≤ 9972
      · have EX := Lib.hid (ipElement_any x w true (by simp; omega))
        by_cases y1 : 0 ≤ y ∧ y ≤ 9972
        · have EY := Lib.hid (ipElement_any y w true (by simp; omega))
          have GG := Lib.hid (show ∀ j, j < k + 1 → (0 ≤ l.getD j 0 ∧ l.getD j 0 ≤ 9972) ∧ (0 ≤ m.getD j 0 ∧ m.getD j 0 ≤ 9972) from fun j hj => by
            by_cases e : j = k
            · subst e; rw [← hx, ← hy]; exact ⟨x1, y1⟩
            · exact HG.out j (by omega))
          clear hx hy x1 y1
          go_wp2_with fail
          refine (EX.out).mono ?_; rintro e w' ⟨rfl, rfl⟩
          go_wp2_with fail
          refine (EY.out).mono ?_; rintro e w' ⟨rfl, rfl⟩
          go_wp2_with fail
          go_round
          case rel => exact ⟨k + 1, by omega, by go_num, GG.out⟩
          case measure => simp [intOf]; omega
        · have EY := Lib.hid (ipElement_any y w false (by simp; omega))
          have E := Lib.hid (RNG.out fun hh => y1 (by have := hh.2 k (by have := HM.out; omega); rw [← hy] at this; exact this))
          clear hx hy x1 y1
          go_wp2_with fail
          refine (EX.out).mono ?_; rintro e w' ⟨rfl, rfl⟩
          go_wp2_with fail
          refine (EY.out).mono ?_; rintro e w' ⟨rfl, rfl⟩
          go_wp2_with fail
          go_ret
          exact ⟨by rw [E.out]; rfl, rfl⟩
      · have EX := Lib.hid (ipElement_any x w false (by simp; omega))
        have E := Lib.hid (RNG.out fun hh => x1 (by have := hh.1 k (by have := HN.out; omega); rw [← hx] at this; exact this))
        clear hx hy x1
        go_wp2_with fail
        refine (EX.out).mono ?_; rintro e w' ⟨rfl, rfl⟩
        go_wp2_with fail
        go_ret
        exact ⟨by rw [E.out]; rfl, rfl⟩
    · have AX := Lib.hid (show AllIn l 0 9972 from fun j hj => (HG.out j (by have := HN.out; omega)).1)
      have AY := Lib.hid (show AllIn m 0 9972 from fun j hj => (HG.out j (by have := HM.out; omega)).2)
      go_wp2_with fail
      go_loop [41] (fun i => ∃ k : Nat, k ≤ n ∧ i = .int .i64 (k : Int) ∧ ∀ j, j < k → ¬ Occurs l j (l.getD j 0)) (fun i => n - (intOf i).toNat)
      case atStart => exact ⟨0, Nat.zero_le _, rfl, fun j hj => absurd hj (by omega)⟩
      case round =>
        obtain ⟨t, ht, rfl, hg2⟩ := hrel
        have HG2 := Lib.hid hg2
        clear hg2
        by_cases hlt2 : t < n
        · have CT := Lib.hid (contains_any A l t c (l.getD t 0) w HA.out (by have := HN.out; omega) (by omega))
          obtain ⟨ad, rfl, _, hcx⟩ := HA.out t (by have := HN.out; omega)
          have tc : (t : Int) ≤ (c : Int) := by omega
          have DN := Lib.hid (fun hno : ¬ Occurs l t (l.getD t 0) => show ∀ j, j < t + 1 → ¬ Occurs l j (l.getD j 0) from fun j hj => by
            by_cases e : j = t
            · subst e; exact hno
            · exact HG2.out j (by omega))
          have DY := Lib.hid (fun hy : Occurs l t (l.getD t 0) => TWI.out AX.out AY.out ⟨t, by have := HN.out; omega, hy⟩)
          obtain ⟨x, hx⟩ : ∃ x, x = l.getD t 0 := ⟨_, rfl⟩
          rw [← hx] at hcx CT DN DY
          clear hx
          go_wp2_with fail
          refine (CT.out).mono ?_; rintro e w' ⟨hte, rfl⟩
          rcases hte with ⟨hp, rfl⟩ | ⟨hp, rfl⟩
          · have E := Lib.hid (DY.out hp)
            clear hp
            go_wp2_with fail
            go_ret
            exact ⟨by rw [E.out]; rfl, rfl⟩
          · have E := Lib.hid (DN.out hp)
            clear hp
            go_wp2_with fail
            go_round
            case rel => exact ⟨t + 1, by omega, by go_num, E.out⟩
            case measure => simp [intOf]; omega
        · have E := Lib.hid (OKS.out AX.out AY.out fun ⟨j, hj, ho⟩ => HG2.out j (by have := HN.out; omega) ho)
          go_wp2_with fail
          go_ret
          exact ⟨by rw [E.out]; rfl, rfl⟩

theorem ipCheck_any (A B : Option Addr) (l m : List Int) (c d : Nat) (w : World) (ha : Lies w A l) (hb : Lies w B m) (hc : l.length ≤ c) :
    Calls Tryd.prog 6 #[.slice A l.length c, .slice B m.length d] w fun e w' => e = .returned (errOf (dcode l m)) ∧ w = w' := by
  by_cases h : 6 < l.length
  · exact ipCheck_full A B l m c d w h
  · by_cases h1 : m.length = l.length
    · have := ipCheck_main A B l m c d w ha hb hc h h1
      rw [h1]; exact this
    · exact ipCheck_shape A B l m c d w h h1

/-- A row of the call's own that holds these numbers. -/
def SomeRow (l : List Int) (w : World) (e : Ending) (w' : World) : Prop := ∃ v, e = .returned v ∧ Own w' w.heap.size v l ∧ Kp w w'

theorem clone_any (A : Option Addr) (l : List Int) (c : Nat) (w : World) (hl : Lies w A l) (hn : l.length ≤ 1000000) :
    Calls Tryd.prog 23 #[.slice A l.length c] w fun e w' => SomeRow l w e w' := by
  have HL := Lib.hid hl
  have q22 : ∀ (w : World) (a : Option Addr) (n c n' c' : Nat), (binOp .eql 22 (.slice a n c) (.slice none n' c')).run Tryd.prog w = .ok (.bool a.isNone) w := fun w a n c n' c' => Lib.run_eql_slice_nil w _ _ a n c n' c' Tryd.underlying22
  rcases A with _ | ad
  · obtain rfl : l = [] := by
      rcases Nat.eq_zero_or_pos l.length with h0 | h0
      · exact List.eq_nil_of_length_eq_zero h0
      · obtain ⟨ad, h, _⟩ := hl 0 h0; cases h
    clear hl
    go_enter Tryd.func23, Tryd.ntmps23
    go_wp2_with fail
    go_ret
    exact ⟨_, rfl, Own.none _ _, Kp.rfl' _⟩
  · clear hl
    have hm : Own (w.alloc (.cells #[] 3)) w.heap.size (.slice (some ⟨w.heap.size, 0, none⟩) 0 0) [] := World.ownsRow_made w #[] 0 (Nat.le_refl _) (Nat.zero_le _) rfl
    have HM := Lib.hid hm
    have HK := Lib.hid ((Kp.rfl' w).new (.cells #[] 3))
    clear hm
    go_enter Tryd.func23, Tryd.ntmps23
    go_wp2_with (at_builtin; refine wpList_cat rfl _ _ rfl w.heap.size _ [] l (some ad) l.length c rfl rfl rfl HM.out (HL.out.keep HK.out) (by simp; omega) (by simp) ?_; intro v' w' h1 h2 _)
    have HO := Lib.hid h1
    have HK' := Lib.hid (own_below HM.out HK.out (by simp) h2)
    clear h1 h2
    go_wp2_with fail
    go_ret
    exact ⟨v', rfl, HO.out, HK'.out⟩

end Go.Proofs.YteaonlmiifpjfaaDoor
