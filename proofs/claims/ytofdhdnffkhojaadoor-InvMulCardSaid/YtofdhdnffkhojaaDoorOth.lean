/- The iterator over a list of numbers without one place; slices.Collect of what it yields. -/
import Derived.RangeFuncWrites
import Derived.Maps.AppendAt
import Derived.Test.YtofdhdnffkhojaaDoorRnd
import Derived.Test.YtofdhdnffkhojaaDoorCt
namespace Go.Proofs.YtofdhdnffkhojaaDoor
open Go.ChangeShapes Go.WideShapes Go.ChangeAt Go.RowKit Go.Shelf
set_option linter.unusedVariables false
attribute [local go_sem] Oper.semAt_some

set_option maxHeartbeats 800000 in
theorem others_any (A : Option Addr) (n d : Nat) (k : Int) (w : World) :
    Calls Tryd.prog 74 #[.slice A n d, .int .i64 k] w fun e w' =>
      e = .returned (.func (.func 87) #[] #[.pointer (some ⟨w.heap.size, 0, none⟩), .pointer (some ⟨w.heap.size + 1, 0, none⟩)]) ∧
        w' = (w.alloc (.cells #[.slice A n d] 23)).alloc (.cells #[.int .i64 k] 3) := by
  go_enter Tryd.func74, Tryd.ntmps74
  go_wp2
  go_ret
  exact ⟨rfl, rfl⟩

def numAt (g : Nat → Int) (x : Nat) : Array Value := #[.int .i64 (g x)]

set_option maxRecDepth 100000 in
set_option maxHeartbeats 2000000 in
theorem others_in (n : Nat) (hn : 1 ≤ n) (l B0 B1 n₀ c k d : Nat) (A : Option Addr) (g : Nat → Int) (hc : c ≤ 1000) (hk : k ≤ 1000) (h1 : B1 < n₀) (J Jx : List Nat → World → Prop)
    (hY : ∀ pre x W, J pre W → pre.length < c → YieldAt Fence.wide (n - 1) Tryd.prog l (numAt g x) W fun e W' =>
      (e = .returned (.bool true) ∧ J (pre ++ [x]) W' ∧ Below n₀ W W') ∨ (e = .returned (.bool false) ∧ Jx (pre ++ [x]) W'))
    (W : World) (hB0 : W.cell? ⟨B0, 0, none⟩ = some (.slice A c d)) (hB1 : W.cell? ⟨B1, 0, none⟩ = some (.int .i64 (k : Int))) (hl : LiesIn W n₀ A (Mx.row c g)) (h0 : J [] W) :
    CallsIn Fence.wide n Tryd.prog 87 #[.func (.yield l) #[] #[], .pointer (some ⟨B0, 0, none⟩), .pointer (some ⟨B1, 0, none⟩)] W fun e W' => (∃ v, e = .returned v) ∧
      ((∃ ys, ys = kept k c ∧ J ys W') ∨ (∃ pre, True ∧ Jx pre W')) := by
  have HL := Lib.hid hl
  clear hl
  refine callsIn_of_wp Tryd.func87 rfl trivial ?_ rfl
  simp only [Tryd.ntmps87, List.size_toArray, List.length_cons, List.length_nil, Nat.reduceAdd, Nat.reduceSub, Array.replicate_succ, Array.replicate_zero, List.push_toArray, List.append_toArray, List.nil_append, List.cons_append]
  gi_wp2
  gi_loopw [4, 5, 8] (fun _ _ i wr => ∃ m : Nat, m ≤ c ∧ i = .int .i64 (m : Int) ∧ J (kept k m) wr ∧ Below n₀ W wr) (fun _ _ i _ => c - (intOf i).toNat)
  case atStart => exact ⟨0, Nat.zero_le _, rfl, by rw [kept_zero]; exact h0, Below.refl _ _⟩
  case round =>
    obtain ⟨m, hm, rfl, hJs, hnx⟩ := hrel
    by_cases hlt : m < c
    · have hx1 : wr.cell? ⟨B1, 0, none⟩ = some (.int .i64 (k : Int)) := (hnx.cell (p := ⟨B1, 0, none⟩) h1).trans hB1
      obtain ⟨ad, rfl, hbl, hcl⟩ := (HL.out.below hnx) m (by rw [Mx.len_row]; exact hlt)
      rw [Mx.row_at _ _ _ hlt] at hcl
      by_cases hmk : m = k
      · subst hmk
        have e1 : ((m : Int) != (m : Int)) = false := by simp
        have JS := Lib.hid hJs
        have NX := Lib.hid hnx
        clear hJs hnx
        gi_wp2
        refine ⟨fun _ h => (by cases h), ?_⟩
        gi_wp2
        go_roundw
        case rel => exact ⟨m + 1, by omega, by go_num, by rw [kept_skip]; exact JS.out, NX.out⟩
        case measure => simp [intOf]; omega
      · have e1 : ((m : Int) != (k : Int)) = true := by rw [bne_iff_ne]; omega
        obtain ⟨fn, tmps, assign, body, hy, hR⟩ := hY _ m _ hJs (by rw [kept_len]; exact ct_lt hlt hmk)
        unfold numAt at hy
        have KN := Lib.hid (kept_next hmk)
        have NX := Lib.hid hnx
        have RR := Lib.hid hR
        clear hJs hnx hR hmk
        gi_wp2
        refine (RR.out).mono ?_
        rintro e W3 (⟨rfl, hJ3, hk3⟩ | ⟨rfl, hJx3⟩)
        · gi_wp2
          go_roundw
          case rel => exact ⟨m + 1, by omega, by go_num, by rw [KN.out]; exact hJ3, NX.out.trans hk3⟩
          case measure => simp [intOf]; omega
        · gi_wp2
          refine bodyPost_ret (results_none rfl _ _ _) rfl ?_
          exact ⟨⟨_, rfl⟩, .inr ⟨_, trivial, hJx3⟩⟩
    · obtain rfl : m = c := by omega
      gi_wp2
      go_end0
      exact ⟨⟨_, rfl⟩, .inl ⟨_, rfl, hJs⟩⟩

theorem others_stops (n : Nat) (hn : 1 ≤ n) (B0 B1 n₀ c k d : Nat) (A : Option Addr) (g : Nat → Int) (hc : c ≤ 1000) (hk : k ≤ 1000) (h0 : B0 < n₀) (h1 : B1 < n₀) (w : World) (hn0 : n₀ ≤ w.heap.size)
    (hB0 : w.cell? ⟨B0, 0, none⟩ = some (.slice A c d)) (hB1 : w.cell? ⟨B1, 0, none⟩ = some (.int .i64 (k : Int))) (hl : LiesIn w n₀ A (Mx.row c g)) :
    SeqStopsK Fence.wide n Tryd.prog 87 #[.pointer (some ⟨B0, 0, none⟩), .pointer (some ⟨B1, 0, none⟩)] (numAt g) (Below n₀) (fun ys => ys = kept k c) (fun _ => True) c w := fun l J Jx W hW _ _ hY hj =>
  others_in n hn l B0 B1 n₀ c k d A g hc hk h1 J Jx hY W ((hW.cell (p := ⟨B0, 0, none⟩) (by show B0 < _; omega)).trans hB0) ((hW.cell (p := ⟨B1, 0, none⟩) (by show B1 < _; omega)).trans hB1) (hl.below (hW.mono hn0)) hj


theorem row_kept (g : Nat → Int) (k c : Nat) : (kept k c).map g = Mx.row (ct k c) fun j => g (Mx.sk k j) := by
  unfold kept Mx.row
  rw [List.map_map]
  rfl

set_option maxRecDepth 100000 in
set_option maxHeartbeats 2000000 in
/-- slices.AppendSeq(nil, others(row, k)). -/
theorem appendSeq_any (B0 B1 c k d : Nat) (A : Option Addr) (g : Nat → Int) (hc : c ≤ 1000) (hk : k ≤ 1000) (w : World) (hB0 : w.cell? ⟨B0, 0, none⟩ = some (.slice A c d)) (hB1 : w.cell? ⟨B1, 0, none⟩ = some (.int .i64 (k : Int))) (hl : Lies w A (Mx.row c g)) :
    Calls Tryd.prog 86 #[.slice none 0 0, .func (.func 87) #[] #[.pointer (some ⟨B0, 0, none⟩), .pointer (some ⟨B1, 0, none⟩)]] w fun e w' =>
      ∃ v, e = .returned v ∧ Own w' w.heap.size v (Mx.row (ct k c) fun j => g (Mx.sk k j)) ∧ Kp w w' := by
  obtain ⟨i0, hi, hz0, hz1, hz2⟩ := info_parts int_info
  have b0 := cell_lt hB0
  have b1 := cell_lt hB1
  have HL := Lib.hid hl.in
  clear hl
  refine callsIn_wide.1 (callsIn_of_wp_marks (F := Fence.wide) (n := 9) Tryd.func86 rfl trivial ?_ rfl)
  simp only [Tryd.ntmps86, List.size_toArray, List.length_cons, List.length_nil, Nat.reduceAdd, Nat.reduceSub, Array.replicate_succ, Array.replicate_zero, List.push_toArray, List.append_toArray, List.nil_append, List.cons_append]
  gi_wp2
  have bO := Boxed.new w 23 (.slice none 0 0)
  obtain ⟨w1, hw1⟩ : ∃ x, x = w.alloc (.cells #[.slice none 0 0] 23) := ⟨_, rfl⟩
  rw [← hw1] at bO ⊢
  have s1 : w1.heap.size = w.heap.size + 1 := by rw [hw1]; simp
  have k1 : Kp w w1 := by rw [hw1]; exact (Kp.rfl' w).new _
  clear hw1
  refine wpIn_rangeFunc_ownG rfl (Nat.le_add_left 1 8) (gf := 87) (lb := #[.pointer (some ⟨B0, 0, none⟩), .pointer (some ⟨B1, 0, none⟩)]) rfl trivial (enters_of Tryd.func87 (by kernel_rfl) rfl)
    (others_stops 8 (Nat.le_add_left 1 7) B0 B1 w.heap.size c k d A g hc hk b0 b1 w1 (by omega) ((k1.cell (p := ⟨B0, 0, none⟩) b0).trans hB0) ((k1.cell (p := ⟨B1, 0, none⟩) b1).trans hB1) (HL.out.below k1))
    belowK_t (belowK_b (by omega)) (Below.refl _ _) (fun _ => rfl)
    (fun pre W => (∃ v, Boxed W w.heap.size 23 v ∧ W.ownsRow w.heap.size 3 1 v pre.length (ints (pre.map g)) ∧ True) ∧ Below w.heap.size w W)
    (fun _ _ _ => False)
    (OwnFrom.and (Go.Own.from (holdsRow_own w.heap.size w.heap.size 23 3 1 (fun (pre : List Nat) => pre.length) (fun pre => ints (pre.map g)) (fun _ _ => True)) _) (ownFrom_below (Nat.le_refl _) (by omega)))
    (fun _ _ _ _ _ hs _ _ => hs)
    ⟨⟨_, bO, World.ownsRow_nil _ _ _ _, trivial⟩, k1⟩
    (fun x => { tmps := #[.slice none 0 0, .func (.func 87) #[] #[.pointer (some ⟨B0, 0, none⟩), .pointer (some ⟨B1, 0, none⟩)], .pointer (some ⟨w.heap.size, 0, none⟩), undef, .slice none 0 0, .int .i64 (g x), .func (.func 87) #[] #[.pointer (some ⟨B0, 0, none⟩), .pointer (some ⟨B1, 0, none⟩)], .int .i64 (g x), undef, undef, undef, undef, undef], defers := [] }) ?assign ?body ?done ?stop
  case assign =>
    intro l x W K hK
    unfold numAt
    gi_wp2
    exact hK
  case body =>
    rintro l pre x W ⟨⟨v, hv, hrow, _⟩, hB⟩ hlt
    have hcb := hv.cell
    have hlen : pre.length ≤ 1000 := by omega
    have hsn : (pre ++ [x]).map g = pre.map g ++ [g x] := by rw [List.map_append, List.map_singleton]
    gi_wp2_with (gi_at_builtin; refine wpListIn_append_own _ rfl _ _ 23 rfl w.heap.size 3 i0 (.int .i64 0) 1 8 Tryd.underlying23 hi hz0 hz1 hz2 rfl (by decide) _ _ _ rfl (hrow.alloc _) ⟨W.heap.size, 0, none⟩ 1 1 [.int .i64 (g x)] rfl rfl (cell_one_new _ _ _) (by simp [Value.oneCell']) (by unfold maxLen; omega) (by omega) (by have := hB.size; simp; omega) ?_; intro v' w2 hown' hgrow _; obtain ⟨g', cap', rfl⟩ := ownsRow_succ hown'; obtain ⟨hv1, hv2, hr2, hk2, hb2⟩ := hv.appended (by decide) hrow hB.size (Nat.le_refl _) hown' hgrow; have hc1 := hv1.cell; have hf1 := hv1.frozen)
    refine ⟨hk2.from _, hb2, ⟨_, hv2, ?_, trivial⟩, hB.trans hb2⟩
    rw [List.length_append, List.length_singleton, hsn, ints, List.map_append, List.map_singleton]
    exact hr2
  case done =>
    rintro D ys W hD rfl ⟨⟨v, hv, hrow, _⟩, hB⟩ hK
    have hcb := hv.cell
    gi_wp2
    refine ⟨by simp, .inl ⟨_, _, rfl, run_takeDeferred hK, ?_⟩⟩
    refine ⟨_, results_tmp rfl _ _ _, v, rfl, ?_, hB.trans (belowK_b (w := w) (Nat.le_refl _) W D _ _ (by omega) hK rfl rfl)⟩
    have hrow2 := ownsRow_putObj hrow (.deferred none) hK rfl
    rw [← row_kept]
    unfold Own
    rw [List.length_map]
    exact hrow2
  case stop =>
    rintro D c pre W _ _ h _
    exact h.elim

set_option maxHeartbeats 800000 in
theorem collect_any (B0 B1 c k d : Nat) (A : Option Addr) (g : Nat → Int) (hc : c ≤ 1000) (hk : k ≤ 1000) (w : World) (hB0 : w.cell? ⟨B0, 0, none⟩ = some (.slice A c d)) (hB1 : w.cell? ⟨B1, 0, none⟩ = some (.int .i64 (k : Int))) (hl : Lies w A (Mx.row c g)) :
    Calls Tryd.prog 73 #[.func (.func 87) #[] #[.pointer (some ⟨B0, 0, none⟩), .pointer (some ⟨B1, 0, none⟩)]] w fun e w' =>
      ∃ v, e = .returned v ∧ Own w' w.heap.size v (Mx.row (ct k c) fun j => g (Mx.sk k j)) ∧ Kp w w' := by
  have AP := Lib.hid (appendSeq_any B0 B1 c k d A g hc hk w hB0 hB1 hl)
  clear hl hB0 hB1
  go_enter Tryd.func73, Tryd.ntmps73
  go_wp2_with fail
  refine (AP.out).mono ?_; rintro e w1 ⟨v, rfl, ho, hk1⟩
  have HO := Lib.hid ho
  have HK := Lib.hid hk1
  clear ho hk1
  go_wp2_with fail
  go_ret
  exact ⟨v, rfl, HO.out, HK.out⟩

end Go.Proofs.YtofdhdnffkhojaaDoor
