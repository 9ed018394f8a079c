/- Contracts of package definite, first part: places, checkPoint; slices.Min of whole numbers. -/
import Derived.Test.YtlnehhhlpdaebaaKeN
import Derived.Test.YtlnehhhlpdaebaaBaC1
import Derived.Test.YtlnehhhlpdaebaaDfM
namespace Go.Proofs.Ytlnehhhlpdaebaa
open Go.ChangeShapes Go.WideShapes Go.ChangeAt Go.RowKit Go.Shelf
set_option linter.unusedVariables false
attribute [local go_sem] Oper.semAt_some

set_option maxHeartbeats 800000 in
theorem dplaces_any (n : Nat) (w : World) :
    Calls Try.prog 35 #[.int .i64 (n : Int)] w fun e w' => e = .returned (.func (.func 45) #[] #[.pointer (some ⟨w.heap.size, 0, none⟩)]) ∧ w' = w.alloc (.cells #[.int .i64 (n : Int)] 3) := by
  go_enter Try.func35, Try.ntmps35
  go_wp2
  go_ret
  exact ⟨rfl, rfl⟩

set_option maxRecDepth 100000 in
set_option maxHeartbeats 2000000 in
theorem dplaces_in (n : Nat) (hn : 1 ≤ n) (l Bs c : Nat) (hc : c ≤ 1000) (J Jx : List Nat → World → Prop)
    (hY : ∀ pre x W, J pre W → pre.length < c * c → YieldAt Fence.wide (n - 1) Try.prog l (placeOf c c x) W fun e W' =>
      (e = .returned (.bool true) ∧ J (pre ++ [x]) W' ∧ KeepN Bs c W W') ∨ (e = .returned (.bool false) ∧ Jx (pre ++ [x]) W'))
    (W : World) (hBs : W.cell? ⟨Bs, 0, none⟩ = some (.int .i64 (c : Int))) (h0 : J [] W) :
    CallsIn Fence.wide n Try.prog 45 #[.func (.yield l) #[] #[], .pointer (some ⟨Bs, 0, none⟩)] W fun e W' => (∃ v, e = .returned v) ∧
      ((∃ ys, ys = Zx.tris c c ∧ J ys W') ∨ (∃ pre, True ∧ Jx pre W')) := by
  refine callsIn_of_wp Try.func45 rfl trivial ?_ rfl
  simp only [Try.ntmps45, List.size_toArray, List.length_cons, List.length_nil, Nat.reduceAdd, Nat.reduceSub, Array.replicate_succ, Array.replicate_zero, List.push_toArray, List.append_toArray, List.nil_append, List.cons_append]
  gi_wp2
  gi_loopw [6] (fun i wr => ∃ k : Nat, k ≤ c ∧ i = .int .i64 (k : Int) ∧ J (Zx.tris c k) wr ∧ KeepN Bs c W wr) (fun i _ => c - (intOf i).toNat)
  case atStart => exact ⟨0, Nat.zero_le _, rfl, h0, id⟩
  case round =>
    obtain ⟨k, hk, rfl, hJs, hnx⟩ := hrel
    by_cases hlt : k < c
    · have hcx : wr.cell? ⟨Bs, 0, none⟩ = some (.int .i64 (c : Int)) := hnx hBs
      have JS := Lib.hid hJs
      have NX := Lib.hid hnx
      clear hJs hnx
      gi_wp2
      gi_loopw [4] (fun j wq => ∃ m : Nat, k ≤ m ∧ m ≤ c ∧ j = .int .i64 (m : Int) ∧ J (Zx.tris c k ++ Zx.trow c k (m - k)) wq ∧ KeepN Bs c W wq) (fun j _ => c - (intOf j).toNat)
      case atStart => exact ⟨k, Nat.le_refl _, by omega, rfl, by rw [Nat.sub_self, Zx.trow_zero, List.append_nil]; exact JS.out, NX.out⟩
      case round =>
        obtain ⟨m, hm0, hm, rfl, hJq, hnq⟩ := hrel
        have hcy := hnq hBs
        by_cases hmt : m < c
        · obtain ⟨fn, tmps, assign, body, hy, hR⟩ := hY _ (k * c + m) _ hJq (by
            rw [List.length_append, Zx.len_trow]
            have h1 := Zx.len_tris c k
            have h2 := Mx.place_lt hlt hmt
            omega)
          rw [placeOf_at hlt hmt] at hy
          have NQ := Lib.hid hnq
          have RR := Lib.hid hR
          have TS := Lib.hid (show Zx.tris c k ++ Zx.trow c k (m - k) ++ [k * c + m] = Zx.tris c k ++ Zx.trow c k (m + 1 - k) by
            rw [show m + 1 - k = (m - k) + 1 by omega, Zx.trow_succ, List.append_assoc, show k + (m - k) = m by omega])
          clear hnq hJq hR
          gi_wp2
          refine (RR.out).mono ?_
          rintro e W3 (⟨rfl, hJ3, hk3⟩ | ⟨rfl, hJx3⟩)
          · gi_wp2
            go_roundw
            case rel => exact ⟨m + 1, by omega, by omega, by go_num, by rw [← TS.out]; exact hJ3, keepN_t NQ.out hk3⟩
            case measure => simp [intOf]; omega
          · gi_wp2
            refine bodyPost_ret (results_none rfl _ _ _) rfl ?_
            exact ⟨⟨_, rfl⟩, .inr ⟨_, trivial, hJx3⟩⟩
        · obtain rfl : m = c := by omega
          have NQ := Lib.hid hnq
          have JQ := Lib.hid hJq
          clear hnq hJq
          gi_wp2
          go_roundw
          case rel => exact ⟨k + 1, by omega, by go_num, JQ.out, NQ.out⟩
          case measure => simp [intOf]; omega
    · obtain rfl : k = c := by omega
      gi_wp2
      go_end0
      exact ⟨⟨_, rfl⟩, .inl ⟨_, rfl, hJs⟩⟩

theorem dplaces_stops (n : Nat) (hn : 1 ≤ n) (Bs c : Nat) (hc : c ≤ 1000) (w : World) (hB : Bs < w.heap.size) (hBs : w.cell? ⟨Bs, 0, none⟩ = some (.int .i64 (c : Int))) :
    SeqStopsK Fence.wide n Try.prog 45 #[.pointer (some ⟨Bs, 0, none⟩)] (placeOf c c) (KeepN Bs c) (fun ys => ys = Zx.tris c c) (fun _ => True) (c * c) w := fun l J Jx W hW _ _ hY h0 =>
  dplaces_in n hn l Bs c hc J Jx hY W ((hW.cell (p := ⟨Bs, 0, none⟩) hB).trans hBs) h0

/-- What is wrong with a row of numbers at which a form is asked. -/
def xcode (c : Nat) (l : List Int) : Nat := Mx.rcode (-100) 100 c l

set_option maxRecDepth 100000 in
set_option maxHeartbeats 800000 in
theorem DPt_any (A : Option Addr) (l : List Int) (n d c : Nat) (w : World) (ha : Lies w A l) (hn : l.length = n) (hb : c ≤ 1000) :
    Calls Try.prog 34 #[.slice A n d, .int .i64 (c : Int)] w fun e w' => e = .returned (errOf (xcode c l)) ∧ w = w' := by
  have HA := Lib.hid ha
  have HN := Lib.hid hn
  obtain ⟨v, hv⟩ : ∃ v, v = xcode c l := ⟨_, rfl⟩
  by_cases hc : n = c
  · subst hc
    have RNG := Lib.hid (fun (k : Nat) (hk : k < n) h2 => hv.trans (Mx.rcode_bad hn (k := k) (by omega) h2))
    have OKS := Lib.hid (fun h2 => hv.trans (Mx.rcode_ok (lo := -100) (hi := 100) hn h2))
    rw [← hv]
    have e1 : ((n : Int) != (n : Int)) = false := by simp
    clear ha hn hv
    go_enter Try.func34, Try.ntmps34
    go_wp2_with fail
    go_loop [14] (fun i => ∃ k : Nat, k ≤ n ∧ i = .int .i64 (k : Int) ∧ ∀ j, j < k → -100 ≤ l.getD j 0 ∧ l.getD j 0 ≤ 100) (fun i => n - (intOf i).toNat)
    case atStart => exact ⟨0, Nat.zero_le _, rfl, fun j hj => absurd hj (by omega)⟩
    case round =>
      obtain ⟨k, hk, rfl, hg⟩ := hrel
      have HG := Lib.hid hg
      clear hg
      by_cases hlt : k < n
      · obtain ⟨ad, rfl, _, hcx⟩ := HA.out k (by have := HN.out; omega)
        obtain ⟨x, hx⟩ : ∃ x, x = l.getD k 0 := ⟨_, rfl⟩
        rw [← hx] at hcx
        by_cases x0 : x < -100
        · have E := Lib.hid (RNG.out k hlt (by rw [← hx]; omega))
          clear hx
          go_wp2_with fail
          go_ret
          exact ⟨by rw [E.out]; rfl, rfl⟩
        · by_cases x1 : 100 < x
          · have E := Lib.hid (RNG.out k hlt (by rw [← hx]; omega))
            clear hx
            go_wp2_with fail
            go_ret
            exact ⟨by rw [E.out]; rfl, rfl⟩
          · have GG := Lib.hid (show ∀ j, j < k + 1 → -100 ≤ l.getD j 0 ∧ l.getD j 0 ≤ 100 from fun j hj => by
              by_cases e : j = k
              · subst e; rw [← hx]; omega
              · exact HG.out j (by omega))
            clear hx
            go_wp2_with fail
            go_round
            case rel => exact ⟨k + 1, by omega, by go_num, GG.out⟩
            case measure => simp [intOf]; omega
      · have E := Lib.hid (OKS.out (fun j hj => HG.out j (by have := HN.out; omega)))
        go_wp2_with fail
        go_ret
        exact ⟨by rw [E.out]; rfl, rfl⟩
  · have E := Lib.hid (hv.trans (Mx.rcode_len (lo := -100) (hi := 100) (by omega : l.length ≠ c)))
    rw [← hv]
    have e1 : ((n : Int) != (c : Int)) = true := by rw [bne_iff_ne]; omega
    clear ha hn hv hc
    go_enter Try.func34, Try.ntmps34
    go_wp2_with fail
    go_ret
    exact ⟨by rw [E.out]; rfl, rfl⟩

/-- The least of some numbers. -/
def Least (l : List Int) (k : Nat) (v : Int) : Prop := (∀ j, j < k → v ≤ l.getD j 0) ∧ ∃ j, j < k ∧ v = l.getD j 0
theorem Least.one (l : List Int) : Least l 1 (l.getD 0 0) := ⟨fun j hj => by
  obtain rfl : j = 0 := by omega
  exact Int.le_refl _, 0, by decide, rfl⟩
theorem Least.old {l : List Int} {k : Nat} {v : Int} (h : Least l k v) (h1 : v ≤ l.getD k 0) : Least l (k + 1) v :=
  ⟨fun j hj => by
    by_cases e : j = k
    · rw [e]; exact h1
    · exact h.1 j (by omega), by obtain ⟨j, hj, e⟩ := h.2; exact ⟨j, by omega, e⟩⟩
theorem Least.next {l : List Int} {k : Nat} {v : Int} (h : Least l k v) (h1 : l.getD k 0 ≤ v) : Least l (k + 1) (l.getD k 0) :=
  ⟨fun j hj => by
    by_cases e : j = k
    · rw [e]; exact Int.le_refl _
    · exact Int.le_trans h1 (h.1 j (by omega)), k, by omega, rfl⟩

set_option maxRecDepth 100000 in
set_option maxHeartbeats 800000 in
theorem smin_any (A : Option Addr) (l : List Int) (n d : Nat) (w : World) (ha : Lies w A l) (hn : l.length = n) (h0 : 1 ≤ n) (hb : n ≤ 1000) :
    Calls Try.prog 27 #[.slice A n d] w fun e w' => ∃ v, e = .returned (.int .i64 v) ∧ w = w' ∧ Least l n v := by
  have HA := Lib.hid ha
  have HN := Lib.hid hn
  obtain ⟨ad, rfl, _, hc0⟩ := ha 0 (by omega)
  have h00 : ¬ (n < 1) := by omega
  have h01 : 0 < n := by omega
  rw [add_zero'] at hc0
  have LO := Lib.hid (Least.one l)
  obtain ⟨x0, hx0⟩ : ∃ x, x = l.getD 0 0 := ⟨_, rfl⟩
  rw [← hx0] at hc0 LO
  clear ha hn hx0
  go_enter Try.func27, Try.ntmps27
  go_wp2_with fail
  go_loop [3, 4] (fun m i => ∃ (k : Nat) (v : Int), k ≤ n ∧ i = .int .i64 (k : Int) ∧ m = .int .i64 v ∧ Least l k v) (fun _ i => n - (intOf i).toNat)
  case atStart => exact ⟨1, x0, by omega, rfl, rfl, LO.out⟩
  case round =>
    obtain ⟨k, v, hk, rfl, rfl, hl⟩ := hrel
    have HL := Lib.hid hl
    clear hl
    by_cases hlt : k < n
    · obtain ⟨ad', e', _, hcx⟩ := HA.out k (by have := HN.out; omega)
      obtain rfl := Option.some.inj e'
      have h1 := Lib.hid (fun h => HL.out.old (k := k) h)
      have h2 := Lib.hid (fun h => HL.out.next (k := k) h)
      obtain ⟨x, hx⟩ : ∃ x, x = l.getD k 0 := ⟨_, rfl⟩
      rw [← hx] at hcx h1 h2
      clear hx
      by_cases hvx : v < x
      · go_wp2_with fail
        go_round
        case rel => exact ⟨k + 1, v, by omega, by go_num, rfl, h1.out (by omega)⟩
        case measure => simp [intOf]; omega
      · go_wp2_with fail
        go_round
        case rel => exact ⟨k + 1, x, by omega, by go_num, by rw [show (if x < v then x else v) = x by split <;> omega], h2.out (by omega)⟩
        case measure => simp [intOf]; omega
    · obtain rfl : k = n := by omega
      go_wp2_with fail
      go_ret
      exact ⟨v, rfl, rfl, HL.out⟩

end Go.Proofs.Ytlnehhhlpdaebaa
