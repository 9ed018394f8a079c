/- Contracts of package vander, first part: Check, powers, what slices.Collect makes of them. -/
import Derived.RangeFuncWrites
import Derived.Maps.AppendAt
import Derived.Test.YtldkamhknaflbaaRnd
import Derived.Test.YtldkamhknaflbaaKeN
import Derived.Test.YtldkamhknaflbaaVdM
import Derived.Deep.RegionHeld3
namespace Go.Proofs.Ytldkamhknaflbaa
open Go.ChangeShapes Go.WideShapes Go.ChangeAt Go.RowKit Go.Shelf
set_option linter.unusedVariables false
attribute [local go_sem] Oper.semAt_some

theorem vval (a : Fp.F) : 0 ≤ (a.val : Int) ∧ (a.val : Int) ≤ 9972 := Fp.val_bound a
theorem vprod (a b : Fp.F) : 0 ≤ (a.val : Int) * (b.val : Int) ∧ (a.val : Int) * (b.val : Int) ≤ 100000000 := by
  have h1 := vval a
  have h2 := vval b
  refine ⟨Int.mul_nonneg h1.1 h2.1, ?_⟩
  have := Int.mul_le_mul h1.2 h2.2 h2.1 (by omega)
  omega

theorem vChk_none (A : Option Addr) (L : List Int) (c : Nat) (w : World) (h : L.length = 0) :
    Calls Try.prog 18 #[.slice A L.length c] w fun e w' => e = .returned (errOf (vcd L)) ∧ w = w' := by
  rw [vcd_none h, h]
  clear h
  go_enter Try.func18, Try.ntmps18
  go_wp2
  go_ret
  exact ⟨rfl, rfl⟩
theorem vChk_full (A : Option Addr) (L : List Int) (c : Nat) (w : World) (h : 5 < L.length) :
    Calls Try.prog 18 #[.slice A L.length c] w fun e w' => e = .returned (errOf (vcd L)) ∧ w = w' := by
  rw [vcd_full h]
  generalize L.length = n at *
  have h' : (5 : Int) < n := by omega
  have h0 : ((n : Int) == 0) = false := by rw [beq_eq_false_iff_ne]; omega
  clear h
  go_enter Try.func18, Try.ntmps18
  go_wp2
  go_ret
  exact ⟨rfl, rfl⟩

set_option maxHeartbeats 800000 in
theorem vChk_main (A : Option Addr) (l : List Int) (c : Nat) (w : World) (hl : Lies w A l) (h0 : l.length ≠ 0) (hn : l.length ≤ 5) :
    Calls Try.prog 18 #[.slice A l.length c] w fun e w' => e = .returned (errOf (vcd l)) ∧ w = w' := by
  have HL := Lib.hid hl
  have BAD := Lib.hid (fun h : ¬ AllIn l 0 9972 => vcd_range h0 (by omega) h)
  have OK := Lib.hid (fun h : AllIn l 0 9972 => vcd_ok h0 (by omega) h)
  obtain ⟨v, hv⟩ : ∃ v, v = vcd l := ⟨_, rfl⟩
  rw [← hv] at BAD OK ⊢
  obtain ⟨n, hn'⟩ : ∃ n, n = l.length := ⟨_, rfl⟩
  rw [← hn'] at h0 hn ⊢
  have HN := Lib.hid hn'
  have h16 : ¬ (5 : Int) < (n : Int) := by omega
  have e0 : ((n : Int) == 0) = false := by rw [beq_eq_false_iff_ne]; omega
  clear hl hn' hv h0
  go_enter Try.func18, Try.ntmps18
  go_wp2_with fail
  go_loop [15] (fun i => ∃ k : Nat, k ≤ n ∧ i = .int .i64 (k : Int) ∧ ∀ j, j < k → 0 ≤ l.getD j 0 ∧ l.getD j 0 ≤ 9972) (fun i => n - (intOf i).toNat)
  case atStart => exact ⟨0, Nat.zero_le _, rfl, fun j hj => absurd hj (by omega)⟩
  case round =>
    obtain ⟨k, hk, rfl, hg⟩ := hrel
    have HG := Lib.hid hg
    clear hg
    by_cases hlt : k < n
    · obtain ⟨ad, rfl, _, hc⟩ := HL.out k (by have := HN.out; omega)
      obtain ⟨m, hm⟩ : ∃ m, m = l.getD k 0 := ⟨_, rfl⟩
      rw [← hm] at hc
      by_cases h0 : m < 0
      · have E := Lib.hid (BAD.out fun hh => by have := hh k (by have := HN.out; omega); rw [← hm] at this; omega)
        clear hm
        go_wp2_with fail
        go_ret
        exact ⟨by rw [E.out]; rfl, rfl⟩
      · by_cases h1 : m ≤ 9972
        · have GG := Lib.hid (show ∀ j, j < k + 1 → 0 ≤ l.getD j 0 ∧ l.getD j 0 ≤ 9972 from fun j hj => by
            by_cases e : j = k
            · subst e; rw [← hm]; omega
            · exact HG.out j (by omega))
          have h2 : ¬ 9973 ≤ m := by omega
          clear hm
          go_wp2_with fail
          go_round
          case rel => exact ⟨k + 1, by omega, by go_num, GG.out⟩
          case measure => simp [intOf]; omega
        · have E := Lib.hid (BAD.out fun hh => by have := hh k (by have := HN.out; omega); rw [← hm] at this; omega)
          have h2 : 9973 ≤ m := by omega
          clear hm h1
          go_wp2_with fail
          go_ret
          exact ⟨by rw [E.out]; rfl, rfl⟩
    · have E := Lib.hid (OK.out (fun j hj => HG.out j (by have := HN.out; omega)))
      go_wp2_with fail
      go_ret
      exact ⟨by rw [E.out]; rfl, rfl⟩
theorem vChk_any (A : Option Addr) (L : List Int) (c : Nat) (w : World) (ha : Lies w A L) :
    Calls Try.prog 18 #[.slice A L.length c] w fun e w' => e = .returned (errOf (vcd L)) ∧ w = w' := by
  by_cases h0 : L.length = 0
  · exact vChk_none A L c w h0
  · by_cases h : 5 < L.length
    · exact vChk_full A L c w h
    · exact vChk_main A L c w ha h0 (by omega)
theorem vChk_good {n : Nat} {X : Nat → Fp.F} {L : List Int} (s : Vd n X L) (A : Option Addr) (c : Nat) (w : World) (ha : Lies w A L) :
    Calls Try.prog 18 #[.slice A n c] w fun e w' => e = .returned .nilIface ∧ w = w' := by
  have h := vChk_any A L c w ha
  rw [s.len, s.code] at h
  exact h

set_option maxHeartbeats 800000 in
theorem powers_any (x : Int) (c : Nat) (w : World) :
    Calls Try.prog 20 #[.int .i64 x, .int .i64 (c : Int)] w fun e w' =>
      e = .returned (.func (.func 39) #[] #[.pointer (some ⟨w.heap.size + 1, 0, none⟩), .pointer (some ⟨w.heap.size, 0, none⟩)]) ∧
        w' = (w.alloc (.cells #[.int .i64 x] 3)).alloc (.cells #[.int .i64 (c : Int)] 3) := by
  go_enter Try.func20, Try.ntmps20
  go_wp2
  go_ret
  exact ⟨rfl, rfl⟩

/-- The power at a place. -/
def powAt (x : Fp.F) (k : Nat) : Array Value := #[.int .i64 ((Fp.pw x k).val : Int)]
theorem pow_next (x : Fp.F) (k : Nat) : (((Fp.pw x k).val : Int) * (x.val : Int)) % 9973 = ((Fp.pw x (k + 1)).val : Int) := by
  rw [Fp.pw_succ, Fp.mul_val]

set_option maxRecDepth 100000 in
set_option maxHeartbeats 2000000 in
theorem powers_in (n : Nat) (hn : 1 ≤ n) (l B0 B1 n₀ c : Nat) (x : Fp.F) (hc : c ≤ 1000) (h0 : B0 < n₀) (h1 : B1 < n₀) (J Jx : List Nat → World → Prop)
    (hY : ∀ pre y W, J pre W → pre.length < c → YieldAt Fence.wide (n - 1) Try.prog l (powAt x y) W fun e W' =>
      (e = .returned (.bool true) ∧ J (pre ++ [y]) W' ∧ Below n₀ W W') ∨ (e = .returned (.bool false) ∧ Jx (pre ++ [y]) W'))
    (W : World) (hB0 : W.cell? ⟨B0, 0, none⟩ = some (.int .i64 (x.val : Int))) (hB1 : W.cell? ⟨B1, 0, none⟩ = some (.int .i64 (c : Int))) (hj : J [] W) :
    CallsIn Fence.wide n Try.prog 39 #[.func (.yield l) #[] #[], .pointer (some ⟨B1, 0, none⟩), .pointer (some ⟨B0, 0, none⟩)] W fun e W' => (∃ v, e = .returned v) ∧
      ((∃ ys, ys = List.range c ∧ J ys W') ∨ (∃ pre, True ∧ Jx pre W')) := by
  refine callsIn_of_wp Try.func39 rfl trivial ?_ rfl
  simp only [Try.ntmps39, List.size_toArray, List.length_cons, List.length_nil, Nat.reduceAdd, Nat.reduceSub, Array.replicate_succ, Array.replicate_zero, List.push_toArray, List.append_toArray, List.nil_append, List.cons_append]
  gi_wp2
  gi_loopw [4, 6] (fun p i wr => ∃ m : Nat, m ≤ c ∧ p = .int .i64 ((Fp.pw x m).val : Int) ∧ i = .int .i64 (m : Int) ∧ J (List.range m) wr ∧ Below n₀ W wr) (fun _ i _ => c - (intOf i).toNat)
  case atStart => exact ⟨0, Nat.zero_le _, rfl, rfl, hj, Below.refl _ _⟩
  case round =>
    obtain ⟨m, hm, rfl, rfl, hJs, hnx⟩ := hrel
    by_cases hlt : m < c
    · have hx0 : wr.cell? ⟨B0, 0, none⟩ = some (.int .i64 (x.val : Int)) := (hnx.cell (p := ⟨B0, 0, none⟩) h0).trans hB0
      obtain ⟨fn, tmps, assign, body, hy, hR⟩ := hY _ m _ hJs (by rw [List.length_range]; exact hlt)
      unfold powAt at hy
      have NX := Lib.hid hnx
      have RR := Lib.hid hR
      have PW := Lib.hid (pow_next x m)
      have hb := vprod (Fp.pw x m) x
      have hw : IntKind.i64.wrap (((Fp.pw x m).val : Int) * (x.val : Int)) = ((Fp.pw x m).val : Int) * (x.val : Int) := IntWalk.i64_in _ (by omega)
      generalize (Fp.pw x m).val = p at *
      clear hJs hnx hR
      gi_wp2
      refine (RR.out).mono ?_
      rintro e W3 (⟨rfl, hJ3, hk3⟩ | ⟨rfl, hJx3⟩)
      · have hx3 : W3.cell? ⟨B0, 0, none⟩ = some (.int .i64 (x.val : Int)) := (hk3.cell (p := ⟨B0, 0, none⟩) h0).trans hx0
        have J3 := Lib.hid hJ3
        have K3 := Lib.hid (NX.out.trans hk3)
        clear hJ3 hk3
        gi_wp2
        go_roundw
        case rel => exact ⟨m + 1, by omega, by rw [PW.out], by go_num, by rw [List.range_succ]; exact J3.out, K3.out⟩
        case measure => simp [intOf]; omega
      · gi_wp2
        refine bodyPost_ret (results_none rfl _ _ _) rfl ?_
        exact ⟨⟨_, rfl⟩, .inr ⟨_, trivial, hJx3⟩⟩
    · obtain rfl : m = c := by omega
      gi_wp2
      go_end0
      exact ⟨⟨_, rfl⟩, .inl ⟨_, rfl, hJs⟩⟩

theorem powers_stops (n : Nat) (hn : 1 ≤ n) (B0 B1 n₀ c : Nat) (x : Fp.F) (hc : c ≤ 1000) (h0 : B0 < n₀) (h1 : B1 < n₀) (w : World) (hn0 : n₀ ≤ w.heap.size)
    (hB0 : w.cell? ⟨B0, 0, none⟩ = some (.int .i64 (x.val : Int))) (hB1 : w.cell? ⟨B1, 0, none⟩ = some (.int .i64 (c : Int))) :
    SeqStopsK Fence.wide n Try.prog 39 #[.pointer (some ⟨B1, 0, none⟩), .pointer (some ⟨B0, 0, none⟩)] (powAt x) (Below n₀) (fun ys => ys = List.range c) (fun _ => True) c w := fun l J Jx W hW _ _ hY hj =>
  powers_in n hn l B0 B1 n₀ c x hc h0 h1 J Jx hY W ((hW.cell (p := ⟨B0, 0, none⟩) (by show B0 < _; omega)).trans hB0) ((hW.cell (p := ⟨B1, 0, none⟩) (by show B1 < _; omega)).trans hB1) hj

theorem row_pows (x : Fp.F) (c : Nat) : (List.range c).map (fun k => ((Fp.pw x k).val : Int)) = Mx.row c fun k => ((Fp.pw x k).val : Int) := rfl

set_option maxRecDepth 100000 in
set_option maxHeartbeats 2000000 in
/-- slices.AppendSeq(nil, powers(x, c)). -/
theorem appendPow_any (B0 B1 c : Nat) (x : Fp.F) (hc : c ≤ 1000) (w : World) (hB0 : w.cell? ⟨B0, 0, none⟩ = some (.int .i64 (x.val : Int))) (hB1 : w.cell? ⟨B1, 0, none⟩ = some (.int .i64 (c : Int))) :
    Calls Try.prog 38 #[.slice none 0 0, .func (.func 39) #[] #[.pointer (some ⟨B1, 0, none⟩), .pointer (some ⟨B0, 0, none⟩)]] w fun e w' =>
      ∃ v, e = .returned v ∧ Own w' w.heap.size v (Mx.row c fun k => ((Fp.pw x k).val : Int)) ∧ Kp w w' := by
  obtain ⟨i0, hi, hz0, hz1, hz2⟩ := info_parts int_info
  have b0 := cell_lt hB0
  have b1 := cell_lt hB1
  refine callsIn_wide.1 (callsIn_of_wp_marks (F := Fence.wide) (n := 9) Try.func38 rfl trivial ?_ rfl)
  simp only [Try.ntmps38, List.size_toArray, List.length_cons, List.length_nil, Nat.reduceAdd, Nat.reduceSub, Array.replicate_succ, Array.replicate_zero, List.push_toArray, List.append_toArray, List.nil_append, List.cons_append]
  gi_wp2
  have bO := Boxed.new w 22 (.slice none 0 0)
  obtain ⟨w1, hw1⟩ : ∃ x, x = w.alloc (.cells #[.slice none 0 0] 22) := ⟨_, rfl⟩
  rw [← hw1] at bO ⊢
  have s1 : w1.heap.size = w.heap.size + 1 := by rw [hw1]; simp
  have k1 : Kp w w1 := by rw [hw1]; exact (Kp.rfl' w).new _
  clear hw1
  refine wpIn_rangeFunc_ownG rfl (Nat.le_add_left 1 8) (gf := 39) (lb := #[.pointer (some ⟨B1, 0, none⟩), .pointer (some ⟨B0, 0, none⟩)]) rfl trivial (enters_of Try.func39 (by kernel_rfl) rfl)
    (powers_stops 8 (Nat.le_add_left 1 7) B0 B1 w.heap.size c x hc b0 b1 w1 (by omega) ((k1.cell (p := ⟨B0, 0, none⟩) b0).trans hB0) ((k1.cell (p := ⟨B1, 0, none⟩) b1).trans hB1))
    belowK_t (belowK_b (by omega)) (Below.refl _ _) (fun _ => rfl)
    (fun pre W => (∃ v, Boxed W w.heap.size 22 v ∧ W.ownsRow w.heap.size 3 1 v pre.length (ints (pre.map fun k => ((Fp.pw x k).val : Int))) ∧ True) ∧ Below w.heap.size w W)
    (fun _ _ _ => False)
    (OwnFrom.and (Go.Own.from (holdsRow_own w.heap.size w.heap.size 22 3 1 (fun (pre : List Nat) => pre.length) (fun pre => ints (pre.map fun k => ((Fp.pw x k).val : Int))) (fun _ _ => True)) _) (ownFrom_below (Nat.le_refl _) (by omega)))
    (fun _ _ _ _ _ hs _ _ => hs)
    ⟨⟨_, bO, World.ownsRow_nil _ _ _ _, trivial⟩, k1⟩
    (fun k => { tmps := #[.slice none 0 0, .func (.func 39) #[] #[.pointer (some ⟨B1, 0, none⟩), .pointer (some ⟨B0, 0, none⟩)], .pointer (some ⟨w.heap.size, 0, none⟩), undef, .slice none 0 0, .int .i64 ((Fp.pw x k).val : Int), .func (.func 39) #[] #[.pointer (some ⟨B1, 0, none⟩), .pointer (some ⟨B0, 0, none⟩)], .int .i64 ((Fp.pw x k).val : Int), undef, undef, undef, undef, undef], defers := [] }) ?assign ?body ?done ?stop
  case assign =>
    intro l k W K hK
    unfold powAt
    gi_wp2
    exact hK
  case body =>
    rintro l pre k W ⟨⟨v, hv, hrow, _⟩, hB⟩ hlt
    have hcb := hv.cell
    have hlen : pre.length ≤ 1000 := by omega
    have hsn : (pre ++ [k]).map (fun k => ((Fp.pw x k).val : Int)) = pre.map (fun k => ((Fp.pw x k).val : Int)) ++ [((Fp.pw x k).val : Int)] := by rw [List.map_append, List.map_singleton]
    gi_wp2_with (gi_at_builtin; refine wpListIn_append_own _ rfl _ _ 22 rfl w.heap.size 3 i0 (.int .i64 0) 1 8 Try.underlying22 hi hz0 hz1 hz2 rfl (by decide) _ _ _ rfl (hrow.alloc _) ⟨W.heap.size, 0, none⟩ 1 1 [.int .i64 ((Fp.pw x k).val : Int)] rfl rfl (cell_one_new _ _ _) (by simp [Value.oneCell']) (by unfold maxLen; omega) (by omega) (by have := hB.size; simp; omega) ?_; intro v' w2 hown' hgrow _; obtain ⟨g', cap', rfl⟩ := ownsRow_succ hown'; obtain ⟨hv1, hv2, hr2, hk2, hb2⟩ := hv.appended (by decide) hrow hB.size (Nat.le_refl _) hown' hgrow; have hc1 := hv1.cell; have hf1 := hv1.frozen)
    refine ⟨hk2.from _, hb2, ⟨_, hv2, ?_, trivial⟩, hB.trans hb2⟩
    rw [List.length_append, List.length_singleton, hsn, ints, List.map_append, List.map_singleton]
    exact hr2
  case done =>
    rintro D ys W hD rfl ⟨⟨v, hv, hrow, _⟩, hB⟩ hK
    have hcb := hv.cell
    gi_wp2
    refine ⟨by simp, .inl ⟨_, _, rfl, run_takeDeferred hK, ?_⟩⟩
    refine ⟨_, results_tmp rfl _ _ _, v, rfl, ?_, hB.trans (belowK_b (w := w) (Nat.le_refl _) W D _ _ (by omega) hK rfl rfl)⟩
    have hrow2 := ownsRow_putObj hrow (.deferred none) hK rfl
    rw [← row_pows]
    unfold Own
    rw [List.length_map]
    exact hrow2
  case stop =>
    rintro D c pre W _ _ h _
    exact h.elim

set_option maxHeartbeats 800000 in
/-- slices.Collect(powers(x, c)). -/
theorem collectPow_any (B0 B1 c : Nat) (x : Fp.F) (hc : c ≤ 1000) (w : World) (hB0 : w.cell? ⟨B0, 0, none⟩ = some (.int .i64 (x.val : Int))) (hB1 : w.cell? ⟨B1, 0, none⟩ = some (.int .i64 (c : Int))) :
    Calls Try.prog 19 #[.func (.func 39) #[] #[.pointer (some ⟨B1, 0, none⟩), .pointer (some ⟨B0, 0, none⟩)]] w fun e w' =>
      ∃ v, e = .returned v ∧ Own w' w.heap.size v (Mx.row c fun k => ((Fp.pw x k).val : Int)) ∧ Kp w w' := by
  have AP := Lib.hid (appendPow_any B0 B1 c x hc w hB0 hB1)
  clear hB0 hB1
  go_enter Try.func19, Try.ntmps19
  go_wp2_with fail
  refine (AP.out).mono ?_; rintro e w1 ⟨v, rfl, ho, hk1⟩
  have HO := Lib.hid ho
  have HK := Lib.hid hk1
  clear ho hk1
  go_wp2_with fail
  go_ret
  exact ⟨v, rfl, HO.out, HK.out⟩

end Go.Proofs.Ytldkamhknaflbaa
