/- Contracts of package band, second part: variables that hold numbers, of whatever type; rowsOf. -/
import Derived.Test.YtbmkkcpdlakgbaaDoorBdC1
import Derived.Laws.Tables
import Derived.Deep.MidRow
namespace Go.Proofs.YtbmkkcpdlakgbaaDoor
open Go.ChangeShapes Go.WideShapes Go.ChangeAt Go.RowKit
set_option linter.unusedVariables false

/-- Block g of the world is a variable that holds these numbers. -/
def Cl (ty : TypeId) (w : World) (g : Nat) (l : List Int) : Prop := w.heap[g]? = some (.cells (ints l).toArray ty (0, 0))
section
variable {ty : TypeId} {w w' : World} {g : Nat} {l m : List Int}
theorem Cl.lt (h : Cl ty w g l) : g < w.heap.size := by
  rcases Nat.lt_or_ge g w.heap.size with h' | h'
  · exact h'
  · rw [Cl, Array.getElem?_eq_none h'] at h; cases h
theorem Cl.cell (h : Cl ty w g l) (k : Nat) (hk : k < l.length) : w.cell? ⟨g, k, none⟩ = some (.int .i64 (l.getD k 0)) := by
  rw [cell_of_row _ _ k _ _ (0, 0) h]; simp [hk]
theorem Cl.free (h : Cl ty w g l) (k : Nat) : w.frozen? ⟨g, k, none⟩ = false := frozen_of_row w g k _ _ h
theorem Cl.put (h : Cl ty w g l) (k : Nat) (x : Int) : Cl ty (w.setCell ⟨g, k, none⟩ (.int .i64 x)) g (l.set k x) := by
  unfold Cl
  rw [heap_setCell_same w g k _ _ _ h]
  simp [ints, List.map_set]
theorem Cl.far (h : Cl ty w g l) {a : Addr} (ha : g ≠ a.block) (u : Value) : Cl ty (w.setCell a u) g l := by
  unfold Cl
  rw [heap_setCell_other w a g u ha]; exact h
theorem Cl.keep (h : Cl ty w g l) (hk : Kp w w') : Cl ty w' g l := by
  unfold Cl
  rw [hk.block g h.lt]; exact h
theorem Cl.new (h : Cl ty w g l) (o : Obj) : Cl ty (w.alloc o) g l := h.keep ((Kp.rfl' w).new o)
theorem Cl.lies (h : Cl ty w g l) : Lies w (some ⟨g, 0, none⟩) l := fun k hk => by
  refine ⟨_, rfl, h.lt, ?_⟩
  rw [add_at, h.cell k hk]
theorem Cl.made (w : World) (l : List Int) : Cl ty (w.alloc (.cells (ints l).toArray ty)) w.heap.size l := by
  unfold Cl
  exact heap_alloc_new w _
theorem Cl.setRow (h : Cl ty w g l) : Cl ty (w.setRow g (ints m).toArray) g m := setRow_heap w g _ _ _ (0, 0) h
theorem Cl.apart {g' : Nat} (h : Cl ty w g l) (hne : g ≠ g') (cs : Array Value) : Cl ty (w.setRow g' cs) g l := by
  unfold Cl
  rw [setRow_other w g' g cs hne]; exact h
theorem Cl.range (h : Cl ty w g l) (o n : Nat) : w.rangeAt g o (ints ((l.drop o).take n)) := fun j v hv => by
  have hj : j < (ints ((l.drop o).take n)).length := (List.getElem?_eq_some_iff.1 hv).1
  have hj' : j < n ∧ o + j < l.length := by simp at hj; omega
  rw [h.cell (o + j) hj'.2, ← hv]
  simp [hj'.1, hj'.2]
end
theorem bkp_setRow {w0 w : World} {g : Nat} (h : Kp w0 w) (hg : w0.heap.size ≤ g) (cs : Array Value) : Kp w0 (w.setRow g cs) := below_setRow h hg cs

section
variable {ops : Array Oper} {rest : List Oper} {o : Oper} {a : Act} {w : World} {Q : Exit → Act → World → Prop}
/-- A whole variable is read. -/
theorem wpList_load_cl (ty e : TypeId) (n : Nat) (hu : Tryd.prog.underlying ty = some (.array n e)) (hgd : o.guard = Option.none) (x : Operand) (ho : o.op = .load ty x) (g : Nat) (hx : a.eval x = .pointer (some ⟨g, 0, none⟩)) (l : List Int) (hc : Cl ty w g l)
    (hi : (Tryd.prog.info? ty).map (·.size) = some l.length) (h : wpList Tryd.prog ops Q rest (a.put o.dst (.agg (ints l).toArray)) w) : wpList Tryd.prog ops Q (o :: rest) a w :=
  wpList_plain hgd fun _ hK => by
    unfold Oper.wp execOp
    simp only [ho, hx, Instr.loadAt, Instr.sureAddr, Sem.run_bind, Sem.run_pure, Result.andThen_ok, run_loadVar_row w g ty ty _ (0, 0) _ hc hu rfl (by rw [hi]; simp)]
    exact hK _ _ h
/-- A whole variable is written. -/
theorem wpList_store_cl (ty : TypeId) (hgd : o.guard = Option.none) (x y : Operand) (ho : o.op = .store ty x y) (g : Nat) (hx : a.eval x = .pointer (some ⟨g, 0, none⟩)) (m : List Int) (hy : a.eval y = .agg (ints m).toArray)
    (l : List Int) (hc : Cl ty w g l) (hl : l.length = m.length) (hi : (Tryd.prog.info? ty).map (·.size) = some m.length) (h : wpList Tryd.prog ops Q rest (a.put o.dst undef) (w.setRow g (ints m).toArray)) : wpList Tryd.prog ops Q (o :: rest) a w :=
  wpList_plain hgd fun _ hK => by
    unfold Oper.wp execOp
    simp only [ho, hx, hy, Instr.storeAt, Instr.sureAddr, Sem.run_bind, Sem.run_pure, Result.andThen_ok, run_storeVar_row w g ty ty (ints l).toArray (ints m).toArray hc (by rw [hi]; simp) (by simp [hl]) (by simp [Value.oneCell'])]
    exact hK _ _ h
end
theorem results_cell' {fn : Func} {p : Tmp} {ty : TypeId} (h : fn.results = #[.cell p ty]) (tmps : Array Value) (P : Program) (w : World) :
    (results fn tmps).run P w = ((asAddr (tmps.getD p undef)).run P w).andThen fun a w₁ => (loadVar ty a).run P w₁ := by
  simp only [results, h]
  simp [Sem.run_bind, Result.andThen]
theorem results_cl (ty e : TypeId) (n : Nat) (hu : Tryd.prog.underlying ty = some (.array n e)) {fn : Func} {p : Tmp} (h : fn.results = #[.cell p ty]) (tmps : Array Value) {w : World} {g : Nat} {l : List Int} (hg : tmps.getD p undef = .pointer (some ⟨g, 0, none⟩)) (hA : Cl ty w g l)
    (hi : (Tryd.prog.info? ty).map (·.size) = some l.length) : (results fn tmps).run Tryd.prog w = .ok (.agg (ints l).toArray) w := by
  rw [results_cell' h, hg]
  show Result.andThen (.ok _ w) _ = _
  rw [Result.andThen_ok]
  exact run_loadVar_row w g ty ty _ (0, 0) _ hA hu rfl (by rw [hi]; simp)

/-- Ten rows of three as one row of numbers. -/
def flat3 (h : Nat → Nat → Fp.F) : List Int := Mx.row 30 fun p => ((h (p / 3) (p % 3)).val : Int)
theorem len_flat3 (h : Nat → Nat → Fp.F) : (flat3 h).length = 30 := Mx.len_row _ _
theorem flat3_at (h : Nat → Nat → Fp.F) {i k : Nat} (hi : i < 10) (hk : k < 3) : (flat3 h).getD (i * 3 + k) 0 = ((h i k).val : Int) := by
  rw [flat3, Mx.row_at _ _ _ (by omega), show (i * 3 + k) / 3 = i by omega, show (i * 3 + k) % 3 = k by omega]
theorem flat3_ext {h h' : Nat → Nat → Fp.F} (e : ∀ i k, i < 10 → k < 3 → h i k = h' i k) : flat3 h = flat3 h' := Mx.row_ext fun p hp => by rw [e _ _ (by omega) (by omega)]
theorem flat3_set (h : Nat → Nat → Fp.F) {i k : Nat} (hi : i < 10) (hk : k < 3) (x : Fp.F) : (flat3 h).set (i * 3 + k) (x.val : Int) = flat3 fun i' k' => if i' = i ∧ k' = k then x else h i' k' := by
  refine list_same _ _ (by rw [List.length_set, len_flat3, len_flat3]) fun p hp => ?_
  rw [List.length_set, len_flat3] at hp
  rw [flat3, flat3, Mx.row_at _ _ _ hp, List.getD_eq_getElem?_getD, List.getElem?_set]
  by_cases e : i * 3 + k = p
  · rw [if_pos e, if_pos (by rw [Mx.len_row]; omega), if_pos (by omega)]; rfl
  · rw [if_neg e, ← List.getD_eq_getElem?_getD, Mx.row_at _ _ _ hp, if_neg (by omega)]

/-- What stands around the middle: s numbers of it, t above it, u below it. -/
def ce (m a b : Nat → Fp.F) (s t u : Nat) : Nat → Nat → Fp.F := fun i k => if k = 1 then (if i < s then m i else 0) else if k = 2 then (if i < t then a i else 0) else (if 0 < i ∧ i ≤ u then b (i - 1) else 0)
theorem ce_mid (m a b : Nat → Fp.F) (s t u : Nat) (hs : s < 10) : (flat3 (ce m a b s t u)).set (s * 3 + 1) ((m s).val : Int) = flat3 (ce m a b (s + 1) t u) := by
  rw [flat3_set _ hs (by omega)]
  refine flat3_ext fun i k _ _ => ?_
  unfold ce
  by_cases e : i = s ∧ k = 1
  · rw [if_pos e, if_pos e.2, if_pos (by omega), e.1]
  · rw [if_neg e]
    by_cases h1 : k = 1
    · rw [if_pos h1, if_pos h1]
      by_cases h2 : i < s
      · rw [if_pos h2, if_pos (by omega)]
      · rw [if_neg h2, if_neg (by omega)]
    · rw [if_neg h1, if_neg h1]
theorem ce_up (m a b : Nat → Fp.F) (s t u : Nat) (hs : t < 10) : (flat3 (ce m a b s t u)).set (t * 3 + 2) ((a t).val : Int) = flat3 (ce m a b s (t + 1) u) := by
  rw [flat3_set _ hs (by omega)]
  refine flat3_ext fun i k _ _ => ?_
  unfold ce
  by_cases e : i = t ∧ k = 2
  · rw [if_pos e, if_neg (by omega), if_pos e.2, if_pos (by omega), e.1]
  · rw [if_neg e]
    by_cases h1 : k = 1
    · rw [if_pos h1, if_pos h1]
    · rw [if_neg h1, if_neg h1]
      by_cases h3 : k = 2
      · rw [if_pos h3, if_pos h3]
        by_cases h2 : i < t
        · rw [if_pos h2, if_pos (by omega)]
        · rw [if_neg h2, if_neg (by omega)]
      · rw [if_neg h3, if_neg h3]
theorem ce_low (m a b : Nat → Fp.F) (s t u : Nat) (hs : u + 1 < 10) : (flat3 (ce m a b s t u)).set ((u + 1) * 3 + 0) ((b u).val : Int) = flat3 (ce m a b s t (u + 1)) := by
  rw [flat3_set _ hs (by omega)]
  refine flat3_ext fun i k _ hk => ?_
  unfold ce
  by_cases e : i = u + 1 ∧ k = 0
  · rw [if_pos e, if_neg (by omega), if_neg (by omega), if_pos (by omega), e.1]; rfl
  · rw [if_neg e]
    by_cases h1 : k = 1
    · rw [if_pos h1, if_pos h1]
    · rw [if_neg h1, if_neg h1]
      by_cases h3 : k = 2
      · rw [if_pos h3, if_pos h3]
      · rw [if_neg h3, if_neg h3]
        by_cases h2 : 0 < i ∧ i ≤ u
        · rw [if_pos h2, if_pos (by omega)]
        · rw [if_neg h2, if_neg (by omega)]
theorem ce_zero (m a b : Nat → Fp.F) : flat3 (ce m a b 0 0 0) = List.replicate 30 0 := by
  refine list_same _ _ (by rw [len_flat3, List.length_replicate]) fun p hp => ?_
  rw [len_flat3] at hp
  rw [flat3, Mx.row_at _ _ _ hp]
  have e : ce m a b 0 0 0 (p / 3) (p % 3) = 0 := by
    unfold ce
    repeat' split
    all_goals first | rfl | omega
  rw [e, List.getD_eq_getElem?_getD, List.getElem?_replicate, if_pos hp]; rfl

theorem info_rows : (Tryd.prog.info? 49).map (·.size) = some 30 := by kernel_rfl
theorem info_row : (Tryd.prog.info? 48).map (·.size) = some 3 := by kernel_rfl

set_option maxRecDepth 100000 in
set_option maxHeartbeats 6400000 in
theorem rowsOf_any (A B C : Option Addr) (q c d f : Nat) (m a b : Nat → Fp.F) (w : World) (ha : Lies w A (rowF (q + 1) m)) (hb : Lies w B (rowF q a)) (hc : Lies w C (rowF q b)) (hq : q ≤ 9) :
    Calls Tryd.prog 20 #[.slice A (q + 1) c, .slice B q d, .slice C q f] w fun e w' => e = .returned (.agg (ints (flat3 (ce m a b (q + 1) q q))).toArray) ∧ Kp w w' := by
  have HA := Lib.hid ha
  have HB := Lib.hid hb
  have HC := Lib.hid hc
  clear ha hb hc
  obtain ⟨n, hn⟩ : ∃ n, n = q + 1 := ⟨_, rfl⟩
  rw [← hn] at HA ⊢
  have HN := Lib.hid hn
  have hn10 : n ≤ 10 := by omega
  clear hn
  go_enter Tryd.func20, Tryd.ntmps20
  go_wp2_with fail
  go_loopw [16] (fun i wr => ∃ k : Nat, k ≤ n ∧ i = .int .i64 (k : Int) ∧ Cl 49 wr w.heap.size (List.replicate 30 0) ∧ Cl 49 wr (w.heap.size + 1) (flat3 (ce m a b k 0 0)) ∧ Kp w wr) (fun i _ => n - (intOf i).toNat)
  case atStart =>
    refine ⟨0, Nat.zero_le _, rfl, ?_, ?_, ((Kp.rfl' w).new _).new _⟩
    · exact (Cl.made w (List.replicate 30 0)).new _
    · rw [ce_zero]
      have := Cl.made (ty := 49) (w.alloc (.cells (ints (List.replicate 30 0)).toArray 49)) (List.replicate 30 0)
      rwa [show (w.alloc (.cells (ints (List.replicate 30 0)).toArray 49)).heap.size = w.heap.size + 1 by simp] at this
  case round =>
    obtain ⟨k, hk, rfl, h1, h2, h3⟩ := hrel
    have H1 := Lib.hid h1
    have H2 := Lib.hid h2
    have H3 := Lib.hid h3
    by_cases hlt : k < n
    · obtain ⟨ad, rfl, _, x1⟩ := (HA.out.keep h3).el hlt
      have x2 := h2.cell (k * 3 + 1) (by rw [len_flat3]; omega)
      have x3 := h2.free (k * 3 + 1)
      have P2 := Lib.hid (show Cl 49 (wr.setCell ⟨w.heap.size + 1, k * 3 + 1, none⟩ (.int .i64 ((m k).val : Int))) (w.heap.size + 1) (flat3 (ce m a b (k + 1) 0 0)) by
        have := h2.put (k * 3 + 1) ((m k).val : Int)
        rwa [ce_mid _ _ _ _ _ _ (by omega)] at this)
      have P1 := Lib.hid (show Cl 49 (wr.setCell ⟨w.heap.size + 1, k * 3 + 1, none⟩ (.int .i64 ((m k).val : Int))) w.heap.size (List.replicate 30 0) from h1.far (by show _ ≠ w.heap.size + 1; omega) _)
      have P3 := Lib.hid (show Kp w (wr.setCell ⟨w.heap.size + 1, k * 3 + 1, none⟩ (.int .i64 ((m k).val : Int))) from h3.put (by show _ ≤ w.heap.size + 1; omega) _)
      have hk10 : (k : Int) < 10 := by omega
      clear h1 h2 h3 H1 H2 H3
      generalize ((m k).val : Int) = z at *
      generalize (flat3 (ce m a b k 0 0)).getD (k * 3 + 1) 0 = y at *
      go_wp2_with fail
      go_roundw
      case rel => exact ⟨k + 1, by omega, by go_num, P1.out, P2.out, P3.out⟩
      case measure => simp [intOf]; omega
    · obtain rfl : k = n := by omega
      obtain ⟨w1, hw1⟩ : ∃ x, x = wr := ⟨_, rfl⟩
      subst hw1
      clear h1 h2 h3
      go_wp2_with fail
      go_loopw [28] (fun i wr => ∃ j : Nat, j ≤ q ∧ i = .int .i64 (j : Int) ∧ Cl 49 wr w.heap.size (List.replicate 30 0) ∧ Cl 49 wr (w.heap.size + 1) (flat3 (ce m a b k j 0)) ∧ Kp w wr) (fun i _ => q - (intOf i).toNat)
      case atStart => exact ⟨0, Nat.zero_le _, rfl, H1.out, H2.out, H3.out⟩
      case round =>
        obtain ⟨j, hj, rfl, h1, h2, h3⟩ := hrel
        have G1 := Lib.hid h1
        have G2 := Lib.hid h2
        have G3 := Lib.hid h3
        by_cases hlt2 : j < q
        · obtain ⟨ad, rfl, _, x1⟩ := (HB.out.keep h3).el hlt2
          have x2 := h2.cell (j * 3 + 2) (by rw [len_flat3]; omega)
          have x3 := h2.free (j * 3 + 2)
          have P2 := Lib.hid (show Cl 49 (wr.setCell ⟨w.heap.size + 1, j * 3 + 2, none⟩ (.int .i64 ((a j).val : Int))) (w.heap.size + 1) (flat3 (ce m a b k (j + 1) 0)) by
            have := h2.put (j * 3 + 2) ((a j).val : Int)
            rwa [ce_up _ _ _ _ _ _ (by omega)] at this)
          have P1 := Lib.hid (show Cl 49 (wr.setCell ⟨w.heap.size + 1, j * 3 + 2, none⟩ (.int .i64 ((a j).val : Int))) w.heap.size (List.replicate 30 0) from h1.far (by show _ ≠ w.heap.size + 1; omega) _)
          have P3 := Lib.hid (show Kp w (wr.setCell ⟨w.heap.size + 1, j * 3 + 2, none⟩ (.int .i64 ((a j).val : Int))) from h3.put (by show _ ≤ w.heap.size + 1; omega) _)
          have hk10 : (j : Int) < 10 := by omega
          clear h1 h2 h3 G1 G2 G3 H1 H2 H3
          generalize ((a j).val : Int) = z at *
          generalize (flat3 (ce m a b k j 0)).getD (j * 3 + 2) 0 = y at *
          go_wp2_with fail
          go_roundw
          case rel => exact ⟨j + 1, by omega, by go_num, P1.out, P2.out, P3.out⟩
          case measure => simp [intOf]; omega
        · obtain rfl : j = q := by omega
          obtain ⟨w2, hw2⟩ : ∃ x, x = wr := ⟨_, rfl⟩
          subst hw2
          clear h1 h2 h3 H1 H2 H3
          go_wp2_with fail
          go_loopw [40] (fun i wr => ∃ p : Nat, p ≤ j ∧ i = .int .i64 (p : Int) ∧ Cl 49 wr w.heap.size (List.replicate 30 0) ∧ Cl 49 wr (w.heap.size + 1) (flat3 (ce m a b k j p)) ∧ Kp w wr) (fun i _ => j - (intOf i).toNat)
          case atStart => exact ⟨0, Nat.zero_le _, rfl, G1.out, G2.out, G3.out⟩
          case round =>
            obtain ⟨p, hp, rfl, h1, h2, h3⟩ := hrel
            have K1 := Lib.hid h1
            have K2 := Lib.hid h2
            have K3 := Lib.hid h3
            by_cases hlt3 : p < j
            · obtain ⟨ad, rfl, _, x1⟩ := (HC.out.keep h3).el hlt3
              have x2 := h2.cell ((p + 1) * 3) (by rw [len_flat3]; omega)
              have x3 := h2.free ((p + 1) * 3)
              have P2 := Lib.hid (show Cl 49 (wr.setCell ⟨w.heap.size + 1, (p + 1) * 3, none⟩ (.int .i64 ((b p).val : Int))) (w.heap.size + 1) (flat3 (ce m a b k j (p + 1))) by
                have := h2.put ((p + 1) * 3) ((b p).val : Int)
                rwa [show (p + 1) * 3 = (p + 1) * 3 + 0 from rfl, ce_low _ _ _ _ _ _ (by omega)] at this)
              have P1 := Lib.hid (show Cl 49 (wr.setCell ⟨w.heap.size + 1, (p + 1) * 3, none⟩ (.int .i64 ((b p).val : Int))) w.heap.size (List.replicate 30 0) from h1.far (by show _ ≠ w.heap.size + 1; omega) _)
              have P3 := Lib.hid (show Kp w (wr.setCell ⟨w.heap.size + 1, (p + 1) * 3, none⟩ (.int .i64 ((b p).val : Int))) from h3.put (by show _ ≤ w.heap.size + 1; omega) _)
              have hk10 : (p : Int) + 1 < 10 := by omega
              clear h1 h2 h3 G1 G2 G3 K1 K2 K3
              generalize ((b p).val : Int) = z at *
              generalize (flat3 (ce m a b k j p)).getD ((p + 1) * 3) 0 = y at *
              go_wp2_with fail
              go_roundw
              case rel => exact ⟨p + 1, by omega, by go_num, P1.out, P2.out, P3.out⟩
              case measure => simp [intOf]; omega
            · obtain rfl : p = j := by omega
              have E1 := Lib.hid (show Cl 49 (wr.setRow w.heap.size (ints (flat3 (ce m a b k p p))).toArray) w.heap.size (flat3 (ce m a b k p p)) from h1.setRow)
              have E3 := Lib.hid (show Kp w (wr.setRow w.heap.size (ints (flat3 (ce m a b k p p))).toArray) from bkp_setRow h3 (Nat.le_refl _) _)
              have E2 := HN.out
              subst E2
              go_wp2_with (first
                | refine wpList_load_cl 49 48 10 Tryd.underlying49 rfl _ rfl _ rfl (flat3 (ce m a b _ _ _)) K2.out (by rw [len_flat3]; exact info_rows) ?_
                | refine wpList_store_cl 49 rfl _ _ rfl _ rfl (flat3 (ce m a b _ _ _)) rfl (List.replicate 30 0) K1.out (by rw [len_flat3]; rfl) (by rw [len_flat3]; exact info_rows) ?_)
              exact bodyPost_ret (v := .agg (ints _).toArray) (results_cl 49 48 10 Tryd.underlying49 rfl _ rfl E1.out (by rw [len_flat3]; exact info_rows)) rfl ⟨rfl, E3.out⟩

end Go.Proofs.YtbmkkcpdlakgbaaDoor
