/- Contracts of package inv, first part: places, zero. -/
import Derived.Test.YtofdhdnffkhojaaDoorMtTurn
namespace Go.Proofs.YtofdhdnffkhojaaDoor
open Go.ChangeShapes Go.WideShapes Go.ChangeAt Go.RowKit Go.Shelf
set_option linter.unusedVariables false
attribute [local go_sem] Oper.semAt_some

/-- What a round keeps: how many rows there are. -/
def KeepN (Bs n : Nat) (W W' : World) : Prop := W.cell? ⟨Bs, 0, none⟩ = some (.int .i64 (n : Int)) → W'.cell? ⟨Bs, 0, none⟩ = some (.int .i64 (n : Int))
theorem keepN_t {Bs n : Nat} {a b c : World} (h : KeepN Bs n a b) (h' : KeepN Bs n b c) : KeepN Bs n a c := fun x => h' (h x)
theorem keepN_b {Bs n : Nat} (W : World) (l : Nat) (o o' : Obj) (ho : W.heap[l]? = some o) (h1 : o.isCells = false) : KeepN Bs n W (W.putObj l o') :=
  fun x => cell_kept x (grownBy_putObj' W l o') (fun r e => by cases e; exact ⟨_, ho, h1⟩)
theorem keepN_set {Bs n : Nat} (W : World) (p : Addr) (v : Value) (h : p.block ≠ Bs) : KeepN Bs n W (W.setCell p v) := fun x =>
  (World.cell?_setCell_far W p ⟨Bs, 0, none⟩ v h).trans x

set_option maxHeartbeats 800000 in
theorem iplaces_any (n : Nat) (w : World) :
    Calls Tryd.prog 31 #[.int .i64 (n : Int)] w fun e w' => e = .returned (.func (.func 56) #[] #[.pointer (some ⟨w.heap.size, 0, none⟩)]) ∧ w' = w.alloc (.cells #[.int .i64 (n : Int)] 3) := by
  go_enter Tryd.func31, Tryd.ntmps31
  go_wp2
  go_ret
  exact ⟨rfl, rfl⟩

set_option maxRecDepth 100000 in
set_option maxHeartbeats 2000000 in
theorem iplaces_in (n : Nat) (hn : 1 ≤ n) (l Bs c : Nat) (hc : c ≤ 1000) (J Jx : List Nat → World → Prop)
    (hY : ∀ pre x W, J pre W → pre.length < c * c → YieldAt Fence.wide (n - 1) Tryd.prog l (placeOf c c x) W fun e W' =>
      (e = .returned (.bool true) ∧ J (pre ++ [x]) W' ∧ KeepN Bs c W W') ∨ (e = .returned (.bool false) ∧ Jx (pre ++ [x]) W'))
    (W : World) (hBs : W.cell? ⟨Bs, 0, none⟩ = some (.int .i64 (c : Int))) (h0 : J [] W) :
    CallsIn Fence.wide n Tryd.prog 56 #[.func (.yield l) #[] #[], .pointer (some ⟨Bs, 0, none⟩)] W fun e W' => (∃ v, e = .returned v) ∧
      ((∃ ys, ys = List.range (c * c) ∧ J ys W') ∨ (∃ pre, True ∧ Jx pre W')) := by
  refine callsIn_of_wp Tryd.func56 rfl trivial ?_ rfl
  simp only [Tryd.ntmps56, List.size_toArray, List.length_cons, List.length_nil, Nat.reduceAdd, Nat.reduceSub, Array.replicate_succ, Array.replicate_zero, List.push_toArray, List.append_toArray, List.nil_append, List.cons_append]
  gi_wp2
  gi_loopw [6] (fun i wr => ∃ k : Nat, k ≤ c ∧ i = .int .i64 (k : Int) ∧ J (List.range (k * c)) wr ∧ KeepN Bs c W wr) (fun i _ => c - (intOf i).toNat)
  case atStart => exact ⟨0, Nat.zero_le _, rfl, by rw [Nat.zero_mul]; exact h0, id⟩
  case round =>
    obtain ⟨k, hk, rfl, hJs, hnx⟩ := hrel
    by_cases hlt : k < c
    · have hcx : wr.cell? ⟨Bs, 0, none⟩ = some (.int .i64 (c : Int)) := hnx hBs
      have JS := Lib.hid hJs
      have NX := Lib.hid hnx
      clear hJs hnx
      gi_wp2
      gi_loopw [10] (fun j wq => ∃ m : Nat, m ≤ c ∧ j = .int .i64 (m : Int) ∧ J (List.range (k * c + m)) wq ∧ KeepN Bs c W wq) (fun j _ => c - (intOf j).toNat)
      case atStart => exact ⟨0, Nat.zero_le _, rfl, JS.out, NX.out⟩
      case round =>
        obtain ⟨m, hm, rfl, hJq, hnq⟩ := hrel
        by_cases hmt : m < c
        · obtain ⟨fn, tmps, assign, body, hy, hR⟩ := hY _ (k * c + m) _ hJq (by rw [List.length_range]; exact Mx.place_lt hlt hmt)
          rw [placeOf_at hlt hmt] at hy
          have NQ := Lib.hid hnq
          have RR := Lib.hid hR
          clear hnq hJq hR
          gi_wp2
          refine (RR.out).mono ?_
          rintro e W3 (⟨rfl, hJ3, hk3⟩ | ⟨rfl, hJx3⟩)
          · gi_wp2
            go_roundw
            case rel => exact ⟨m + 1, by omega, by go_num, by rw [← Nat.add_assoc, List.range_succ]; exact hJ3, keepN_t NQ.out hk3⟩
            case measure => simp [intOf]; omega
          · gi_wp2
            refine bodyPost_ret (results_none rfl _ _ _) rfl ?_
            exact ⟨⟨_, rfl⟩, .inr ⟨_, trivial, hJx3⟩⟩
        · obtain rfl : m = c := by omega
          have NQ := Lib.hid hnq
          have JQ := Lib.hid hJq
          clear hnq hJq
          gi_wp2
          go_roundw
          case rel => exact ⟨k + 1, by omega, by go_num, by rw [Nat.add_mul, Nat.one_mul]; exact JQ.out, NQ.out⟩
          case measure => simp [intOf]; omega
    · obtain rfl : k = c := by omega
      gi_wp2
      go_end0
      exact ⟨⟨_, rfl⟩, .inl ⟨_, rfl, hJs⟩⟩

theorem iplaces_stops (n : Nat) (hn : 1 ≤ n) (Bs c : Nat) (hc : c ≤ 1000) (w : World) (hB : Bs < w.heap.size) (hBs : w.cell? ⟨Bs, 0, none⟩ = some (.int .i64 (c : Int))) :
    SeqStopsK Fence.wide n Tryd.prog 56 #[.pointer (some ⟨Bs, 0, none⟩)] (placeOf c c) (KeepN Bs c) (fun ys => ys = List.range (c * c)) (fun _ => True) (c * c) w := fun l J Jx W hW _ _ hY h0 =>
  iplaces_in n hn l Bs c hc J Jx hY W ((hW.cell (p := ⟨Bs, 0, none⟩) hB).trans hBs) h0

set_option maxRecDepth 100000 in
set_option maxHeartbeats 1600000 in
theorem izero_any (r : Nat) (w : World) (hr : r ≤ 1000) :
    Calls Tryd.prog 41 #[.int .i64 (r : Int)] w fun e w' =>
      ∃ G, e = .returned (.slice (some ⟨w.heap.size, 0, none⟩) r r) ∧ Grid w' w.heap.size G r r (fun _ _ => 0) ∧ Kp w w' := by
  obtain ⟨i0, hi, hz0, hz1, hz2⟩ := info_parts int_info
  obtain ⟨j0, hj, hy0, hy1, hy2⟩ := info_parts ints_info
  go_enter Tryd.func41, Tryd.ntmps41
  go_wp2_with (at_make; refine wpList_make_full _ rfl _ _ 22 rfl w.heap.size 23 j0 (.slice none 0 0) 1 Tryd.underlying22 hj hy0 hy1 _ _ _ _ r rfl rfl rfl rfl (by rw [hy2]; omega) (by unfold maxLen; omega) (Nat.le_refl _) ?_; intro w1 hown hgrow)
  have hpart : Part w1 w.heap.size (fun _ => 0) r r 0 := Part.start hown
  have hkp : Kp w w1 := (Kp.rfl' w).grown hgrow (by simp) (fun k hk => by cases hk)
  clear hown hgrow hj hy0 hy1 hy2
  obtain ⟨g, hg⟩ : ∃ g, g = w.heap.size := ⟨_, rfl⟩
  rw [← hg] at hpart ⊢
  have HG := Lib.hid hg
  clear hg
  go_loopw [4, 9] (fun _ i wr => ∃ (k : Nat) (G : Nat → Nat), k ≤ r ∧ i = .int .i64 (k : Int) ∧ Part wr g G r r k ∧ Kp w wr) (fun _ i _ => r - (intOf i).toNat)
  case atStart => exact ⟨0, _, Nat.zero_le _, rfl, hpart, hkp⟩
  case round =>
    clear hpart hkp
    obtain ⟨k, G, hk, rfl, hp, hkp⟩ := hrel
    by_cases hlt : k < r
    · have HP := Lib.hid hp
      have HK := Lib.hid hkp
      clear hp hkp
      go_wp2_with (at_make; refine wpList_make_full _ rfl _ _ 23 rfl wr.heap.size 3 i0 (.int .i64 0) 1 Tryd.underlying23 hi hz0 hz1 _ _ _ _ r rfl rfl rfl rfl (by rw [hz2]; omega) (by unfold maxLen; omega) (Nat.le_refl _) ?_; intro w2 hown hgrow; have hkp2 : Kp wr w2 := (Kp.rfl' wr).grown hgrow (by simp) (fun k hk => by cases hk); have hcell := (HP.out.keep hkp2).cell (Nat.le_refl k) hlt; have hfree := (HP.out.keep hkp2).free k)
      go_roundw
      case rel => exact ⟨k + 1, _, by omega, by go_num, HP.out.step hlt (row_made hown) hkp2, (HK.out.trans hkp2).put (p := ⟨g, k, none⟩) (by show w.heap.size ≤ g; rw [HG.out]; exact Nat.le_refl _) _⟩
      case measure => simp [intOf]; omega
    · obtain rfl : k = r := by omega
      have HP := Lib.hid hp
      have HK := Lib.hid hkp
      clear hp hkp
      obtain rfl := HG.out
      go_wp2_with fail
      go_ret
      exact ⟨rfl, ⟨_, HP.out.done⟩, HK.out⟩

end Go.Proofs.YtofdhdnffkhojaaDoor
