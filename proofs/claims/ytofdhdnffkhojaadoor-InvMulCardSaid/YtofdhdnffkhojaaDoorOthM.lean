/- The iterator over the rows of a matrix without one of them. -/
import Derived.Test.YtofdhdnffkhojaaDoorOth
namespace Go.Proofs.YtofdhdnffkhojaaDoor
open Go.ChangeShapes Go.WideShapes Go.ChangeAt Go.RowKit Go.Shelf
set_option linter.unusedVariables false
attribute [local go_sem] Oper.semAt_some

set_option maxHeartbeats 800000 in
theorem othersM_any (A : Option Addr) (n d : Nat) (k : Int) (w : World) :
    Calls Tryd.prog 72 #[.slice A n d, .int .i64 k] w fun e w' =>
      e = .returned (.func (.func 85) #[] #[.pointer (some ⟨w.heap.size, 0, none⟩), .pointer (some ⟨w.heap.size + 1, 0, none⟩)]) ∧
        w' = (w.alloc (.cells #[.slice A n d] 22)).alloc (.cells #[.int .i64 k] 3) := by
  go_enter Tryd.func72, Tryd.ntmps72
  go_wp2
  go_ret
  exact ⟨rfl, rfl⟩

/-- The head of row x. -/
def headAt (n c : Nat) (R : Nat → Option Addr) (D : Nat → Nat) (x : Nat) : Array Value := #[.slice (R (x % n)) c (D (x % n))]
/-- What a round keeps: what lay before, and the place that is left out. -/
def KeepB (n₀ B1 : Nat) (k : Int) (W W' : World) : Prop := Below n₀ W W' ∧ (W.cell? ⟨B1, 0, none⟩ = some (.int .i64 k) → W'.cell? ⟨B1, 0, none⟩ = some (.int .i64 k))
theorem keepB_t {n₀ B1 : Nat} {k : Int} {a b c : World} (h : KeepB n₀ B1 k a b) (h' : KeepB n₀ B1 k b c) : KeepB n₀ B1 k a c := ⟨h.1.trans h'.1, fun x => h'.2 (h.2 x)⟩
theorem keepB_b {w : World} {n₀ B1 : Nat} {k : Int} (hn : n₀ ≤ w.heap.size) (W : World) (l : Nat) (o o' : Obj) (hl : w.heap.size ≤ l) (ho : W.heap[l]? = some o) (h1 : o.isCells = false) (h2 : o.isWalk = false) : KeepB n₀ B1 k W (W.putObj l o') :=
  ⟨belowK_b hn W l o o' hl ho h1 h2, fun x => cell_kept x (grownBy_putObj' W l o') (fun r e => by cases e; exact ⟨_, ho, h1⟩)⟩

set_option maxRecDepth 100000 in
set_option maxHeartbeats 2000000 in
theorem othersM_in (n : Nat) (hn : 1 ≤ n) (l B0 B1 n₀ c k d : Nat) (A : Option Addr) (r : Nat) (R : Nat → Option Addr) (D : Nat → Nat) (hc : r ≤ 1000) (hk : k ≤ 1000) (J Jx : List Nat → World → Prop)
    (hY : ∀ pre x W, J pre W → pre.length < r → YieldAt Fence.wide (n - 1) Tryd.prog l (headAt r c R D x) W fun e W' =>
      (e = .returned (.bool true) ∧ J (pre ++ [x]) W' ∧ KeepB n₀ B1 k W W') ∨ (e = .returned (.bool false) ∧ Jx (pre ++ [x]) W'))
    (W : World) (hB0 : W.cell? ⟨B0, 0, none⟩ = some (.slice A r d)) (hB1 : W.cell? ⟨B1, 0, none⟩ = some (.int .i64 (k : Int))) (hl : ∀ i, i < r → ∃ ad, A = some ad ∧ ad.block < n₀ ∧ W.cell? (ad.add i) = some (.slice (R i) c (D i))) (h0 : J [] W) :
    CallsIn Fence.wide n Tryd.prog 85 #[.func (.yield l) #[] #[], .pointer (some ⟨B0, 0, none⟩), .pointer (some ⟨B1, 0, none⟩)] W fun e W' => (∃ v, e = .returned v) ∧
      ((∃ ys, ys = kept k r ∧ J ys W') ∨ (∃ pre, True ∧ Jx pre W')) := by
  have HL := Lib.hid hl
  clear hl
  refine callsIn_of_wp Tryd.func85 rfl trivial ?_ rfl
  simp only [Tryd.ntmps85, List.size_toArray, List.length_cons, List.length_nil, Nat.reduceAdd, Nat.reduceSub, Array.replicate_succ, Array.replicate_zero, List.push_toArray, List.append_toArray, List.nil_append, List.cons_append]
  gi_wp2
  gi_loopw [4, 5, 8] (fun _ _ i wr => ∃ m : Nat, m ≤ r ∧ i = .int .i64 (m : Int) ∧ J (kept k m) wr ∧ KeepB n₀ B1 k W wr) (fun _ _ i _ => r - (intOf i).toNat)
  case atStart => exact ⟨0, Nat.zero_le _, rfl, by rw [kept_zero]; exact h0, Below.refl _ _, id⟩
  case round =>
    obtain ⟨m, hm, rfl, hJs, hnx⟩ := hrel
    by_cases hlt : m < r
    · have hx1 : wr.cell? ⟨B1, 0, none⟩ = some (.int .i64 (k : Int)) := hnx.2 hB1
      obtain ⟨ad, rfl, hbl, hcl0⟩ := HL.out m hlt
      have hcl := (hnx.1.cell (p := ad.add m) (by rw [block_add]; exact hbl)).trans hcl0
      clear hcl0
      by_cases hmk : m = k
      · subst hmk
        have e1 : ((m : Int) != (m : Int)) = false := by simp
        have JS := Lib.hid hJs
        have NX := Lib.hid hnx
        clear hJs hnx
        gi_wp2
        refine ⟨fun _ h => (by cases h), ?_⟩
        gi_wp2
        go_roundw
        case rel => exact ⟨m + 1, by omega, by go_num, by rw [kept_skip]; exact JS.out, NX.out⟩
        case measure => simp [intOf]; omega
      · have e1 : ((m : Int) != (k : Int)) = true := by rw [bne_iff_ne]; omega
        obtain ⟨fn, tmps, assign, body, hy, hR⟩ := hY _ m _ hJs (by rw [kept_len]; exact ct_lt hlt hmk)
        unfold headAt at hy
        rw [Nat.mod_eq_of_lt hlt] at hy
        have KN := Lib.hid (kept_next hmk)
        have NX := Lib.hid hnx
        have RR := Lib.hid hR
        clear hJs hnx hR hmk
        gi_wp2
        refine (RR.out).mono ?_
        rintro e W3 (⟨rfl, hJ3, hk3⟩ | ⟨rfl, hJx3⟩)
        · gi_wp2
          go_roundw
          case rel => exact ⟨m + 1, by omega, by go_num, by rw [KN.out]; exact hJ3, keepB_t NX.out hk3⟩
          case measure => simp [intOf]; omega
        · gi_wp2
          refine bodyPost_ret (results_none rfl _ _ _) rfl ?_
          exact ⟨⟨_, rfl⟩, .inr ⟨_, trivial, hJx3⟩⟩
    · obtain rfl : m = r := by omega
      gi_wp2
      go_end0
      exact ⟨⟨_, rfl⟩, .inl ⟨_, rfl, hJs⟩⟩

theorem othersM_stops (n : Nat) (hn : 1 ≤ n) (B0 B1 n₀ c k d : Nat) (A : Option Addr) (r : Nat) (R : Nat → Option Addr) (D : Nat → Nat) (hc : r ≤ 1000) (hk : k ≤ 1000) (w : World) (hb0 : B0 < w.heap.size) (hb1 : B1 < w.heap.size) (hn0 : n₀ ≤ w.heap.size)
    (hB0 : w.cell? ⟨B0, 0, none⟩ = some (.slice A r d)) (hB1 : w.cell? ⟨B1, 0, none⟩ = some (.int .i64 (k : Int))) (hl : ∀ i, i < r → ∃ ad, A = some ad ∧ ad.block < n₀ ∧ w.cell? (ad.add i) = some (.slice (R i) c (D i))) :
    SeqStopsK Fence.wide n Tryd.prog 85 #[.pointer (some ⟨B0, 0, none⟩), .pointer (some ⟨B1, 0, none⟩)] (headAt r c R D) (KeepB n₀ B1 k) (fun ys => ys = kept k r) (fun _ => True) r w := fun l J Jx W hW _ _ hY hj =>
  othersM_in n hn l B0 B1 n₀ c k d A r R D hc hk J Jx hY W ((hW.cell (p := ⟨B0, 0, none⟩) hb0).trans hB0) ((hW.cell (p := ⟨B1, 0, none⟩) hb1).trans hB1) (fun i hi => by
    obtain ⟨ad, e, h1, h2⟩ := hl i hi
    exact ⟨ad, e, h1, (hW.cell (p := ad.add i) (by rw [block_add]; omega)).trans h2⟩) hj


end Go.Proofs.YtofdhdnffkhojaaDoor
