/- Contracts of package smith, second part: the iterator over choices of numbers. -/
import Derived.RangeFuncWrites
import Derived.Maps.AppendAt
import Derived.Test.YtlnehhhlpdaebaaRnd
import Derived.Test.YtlnehhhlpdaebaaLow
import Derived.Test.YtlnehhhlpdaebaaSmC1
namespace Go.Proofs.Ytlnehhhlpdaebaa
open Go.ChangeShapes Go.WideShapes Go.ChangeAt Go.RowKit Go.Shelf
set_option linter.unusedVariables false
attribute [local go_sem] Oper.semAt_some

set_option maxHeartbeats 800000 in
theorem choices_any (n many : Int) (w : World) :
    Calls Try.prog 57 #[.int .i64 n, .int .i64 many] w fun e w' =>
      e = .returned (.func (.func 62) #[] #[.pointer (some ⟨w.heap.size, 0, none⟩), .pointer (some ⟨w.heap.size + 1, 0, none⟩)]) ∧
        w' = (w.alloc (.cells #[.int .i64 n] 3)).alloc (.cells #[.int .i64 many] 3) := by
  go_enter Try.func57, Try.ntmps57
  go_wp2
  go_ret
  exact ⟨rfl, rfl⟩

/-- A choice: the numbers, and where they lie. -/
abbrev Chc := List Nat × Option Addr × Nat
def chEnc (x : Chc) : Array Value := #[.slice x.2.1 x.1.length x.2.2]
/-- What is known of a choice when it is handed on. -/
def ChW (b0 c many : Nat) (x : Chc) (W : World) : Prop := Lies W x.2.1 (nz x.1) ∧ x.1.length ≤ x.2.2 ∧ Zx.Und c x.1 ∧ x.1.length = many ∧ ∀ ad, x.2.1 = some ad → b0 ≤ ad.block
theorem bit_is : ∀ t : Nat, t < 8 → ∀ k : Nat, k < 3 → (bits BinOp.and IntKind.i64 ((t : Int) / 2 ^ k) 1 == 1) = decide (t / 2 ^ k % 2 = 1) := by decide +kernel
theorem own_snoc {w : World} {B : Nat} {v : Value} {l : List Int} {x : Int} (h : w.ownsRow B 3 1 v (l.length + 1) (ints l ++ [.int .i64 x])) : Own w B v (l ++ [x]) := by
  unfold Own
  rw [List.length_append, List.length_singleton, ints, List.map_append, List.map_singleton]
  exact h
set_option maxRecDepth 100000 in
set_option maxHeartbeats 3200000 in
theorem choices_in (n : Nat) (hn : 1 ≤ n) (B0 B1 c many : Nat) (hc : c ≤ 3) (hm : many ≤ 3) (hm1 : 1 ≤ many) (T : Nat → Prop) (t0 : ¬ T B0) (t1 : ¬ T B1) (w0 : World)
    (c0 : w0.cell? ⟨B0, 0, none⟩ = some (.int .i64 (c : Int))) (c1 : w0.cell? ⟨B1, 0, none⟩ = some (.int .i64 (many : Int))) :
    SeqLo Fence.wide n Try.prog 62 #[.pointer (some ⟨B0, 0, none⟩), .pointer (some ⟨B1, 0, none⟩)] chEnc (ChW w0.heap.size c many) T (fun ys => ys.map (·.1) = Zx.chn c many) (2 ^ c) w0 := by
  intro l J W hW hT hJ hY h0
  have b0 := cell_lt c0
  have b1 := cell_lt c1
  have x0 := (hW.cell (p := ⟨B0, 0, none⟩) b0).trans c0
  have x1 := (hW.cell (p := ⟨B1, 0, none⟩) b1).trans c1
  have hsz := hW.size
  have lt0 : B0 < W.heap.size := Nat.lt_of_lt_of_le b0 hsz
  have lt1 : B1 < W.heap.size := Nat.lt_of_lt_of_le b1 hsz
  clear c0 c1 hW b0 b1
  have S0 := Lib.hid hsz
  clear hsz
  refine callsIn_of_wp Try.func62 rfl trivial ?_ rfl
  simp only [Try.ntmps62, List.size_toArray, List.length_cons, List.length_nil, Nat.reduceAdd, Nat.reduceSub, Array.replicate_succ, Array.replicate_zero, List.push_toArray, List.append_toArray, List.nil_append, List.cons_append]
  obtain ⟨N, hN⟩ : ∃ N, N = 2 ^ c := ⟨_, rfl⟩
  have hs : wrap64 (2 ^ c) = (N : Int) := by
    rw [hN]
    rcases (by omega : c = 0 ∨ c = 1 ∨ c = 2 ∨ c = 3) with rfl | rfl | rfl | rfl <;> decide +kernel
  have hN8 : N ≤ 8 := by
    rw [hN]
    rcases (by omega : c = 0 ∨ c = 1 ∨ c = 2 ∨ c = 3) with rfl | rfl | rfl | rfl <;> decide
  have ALL := Lib.hid (show Zx.chs c many N = Zx.chn c many by rw [hN]; rfl)
  rw [← hN] at hY
  have HJ := Lib.hid hJ
  have HY := Lib.hid hY
  clear hN hJ hY
  obtain ⟨i0, hi, hz0, hz1, hz2⟩ := info_parts int_info
  gi_wp2
  rw [hs]
  clear hs
  gi_loopw [4, 5, 6, 9] (fun _ _ _ i wr => ∃ (t : Nat) (ys : List Chc), t ≤ N ∧ i = .int .i64 (t : Int) ∧ ys.map (·.1) = Zx.chs c many t ∧ J ys wr ∧ W.heap.size ≤ wr.heap.size ∧ wr.cell? ⟨B0, 0, none⟩ = some (.int .i64 (c : Int)) ∧ wr.cell? ⟨B1, 0, none⟩ = some (.int .i64 (many : Int))) (fun _ _ _ i _ => N - (intOf i).toNat)
  case atStart => exact ⟨0, [], Nat.zero_le _, rfl, rfl, h0, Nat.le_refl _, x0, x1⟩
  case round =>
    clear h0 x0 x1
    obtain ⟨t, ys, ht, rfl, hys, hJs, hsz, y0, y1⟩ := hrel
    by_cases hlt : t < N
    · have JS := Lib.hid hJs
      have YS := Lib.hid hys
      have SZ := Lib.hid hsz
      have Y0 := Lib.hid y0
      have Y1 := Lib.hid y1
      clear hJs hys hsz y1
      gi_wp2
      obtain ⟨wo, hwo⟩ : ∃ x, x = wr := ⟨_, rfl⟩
      subst hwo
      gi_loopw [5, 6, 13] (fun v _ j wq => ∃ k : Nat, k ≤ c ∧ j = .int .i64 (k : Int) ∧ Own wq wo.heap.size v (nz (Zx.bits t k)) ∧ Kp wo wq) (fun _ _ j _ => c - (intOf j).toNat)
      case atStart => exact ⟨0, Nat.zero_le _, rfl, Own.none _ _, Kp.rfl' _⟩
      case round =>
        clear y0
        obtain ⟨k, hk, rfl, hown, hkq⟩ := hrel
        have HO := Lib.hid hown
        have HK := Lib.hid hkq
        have hsq := hkq.size
        have hlen : (nz (Zx.bits t k)).length ≤ 3 := by rw [nz_len]; have := Zx.bits_len t k; omega
        clear hown hkq
        by_cases hkt : k < c
        · have hb := bit_is t (by omega) k (by omega)
          by_cases hbit : t / 2 ^ k % 2 = 1
          · rw [decide_eq_true hbit] at hb
            have NX := Lib.hid (show nz (Zx.bits t (k + 1)) = nz (Zx.bits t k) ++ [(k : Int)] by
              rw [show Zx.bits t (k + 1) = Zx.bits t k ++ [k] by show (if _ then _ else _) = _; rw [if_pos hbit]]
              unfold nz; rw [List.map_append, List.map_singleton])
            clear hbit
            generalize nz (Zx.bits t k) = row at *
            gi_wp2_with (gi_at_builtin; refine wpListIn_append_own _ rfl _ _ 39 rfl wo.heap.size 3 i0 (.int .i64 0) 1 8 Try.underlying39 hi hz0 hz1 hz2 rfl (by decide) _ _ _ rfl (HO.out.new _) ⟨wr.heap.size, 0, none⟩ 1 1 [.int .i64 (k : Int)] rfl rfl (cell_one_new _ _ _) (by simp [Value.oneCell']) (by unfold maxLen; omega) (by omega) (by simp; omega) ?_; intro v' w1 hown' hgrow _)
            have OW := Lib.hid (own_snoc hown')
            have KW := Lib.hid (show Kp wo w1 from own_below (HO.out.new _) (HK.out.new _) (Nat.le_trans hsq (by simp)) hgrow)
            clear hown' hgrow
            gi_wp2
            go_roundw
            case rel => exact ⟨k + 1, by omega, by go_num, by rw [NX.out]; exact OW.out, KW.out⟩
            case measure => simp [intOf]; omega
          · rw [decide_eq_false hbit] at hb
            have NX := Lib.hid (show Zx.bits t (k + 1) = Zx.bits t k by show (if _ then _ else _) = _; rw [if_neg hbit])
            clear hbit
            gi_wp2
            go_roundw
            case rel => exact ⟨k + 1, by omega, by go_num, by rw [NX.out]; exact HO.out, HK.out⟩
            case measure => simp [intOf]; omega
        · obtain rfl : k = c := by omega
          have y1 := (HK.out.cell (p := ⟨B1, 0, none⟩) (cell_lt Y1.out)).trans Y1.out
          have y0 := (HK.out.cell (p := ⟨B0, 0, none⟩) (cell_lt Y0.out)).trans Y0.out
          have LOW := Lib.hid (fun (h1 : 0 < (nz (Zx.bits t k)).length) => own_some HO.out h1)
          obtain ⟨A, cc, rfl, hl, hle⟩ := HO.out.cap
          rw [nz_len] at hle
          have e0 : (nz (Zx.bits t k)).length = (Zx.bits t k).length := nz_len _
          rw [e0]
          have Z1 := Lib.hid (Nat.le_trans SZ.out hsq)
          have JQ := Lib.hid (HJ.out _ _ _ JS.out (HK.out.mono SZ.out))
          by_cases hbl : (Zx.bits t k).length = many
          · have CH := Lib.hid (Zx.chs_hit hbl)
            obtain ⟨fn, tmps, assign, body, hy, hR⟩ := HY.out ys (Zx.bits t k, A, cc) wr JQ.out Z1.out ⟨hl, hle, Zx.bits_und t k, hbl, fun ad ha => by
              obtain ⟨g, gc, h1, h2, _⟩ := LOW.out (by omega)
              injection h1 with h1
              have h3 : some ad = some (⟨g, 0, none⟩ : Addr) := ha.symm.trans h1
              injection h3 with h3
              subst h3
              have h4 := S0.out
              have h5 := SZ.out
              show w0.heap.size ≤ g
              omega⟩ (by
              have h1 := congrArg List.length YS.out
              rw [List.length_map] at h1
              have h2 := Zx.chs_len k many t
              omega)
            unfold chEnc at hy
            have RR := Lib.hid hR
            have Y0' := Lib.hid y0
            have Y1' := Lib.hid y1
            dsimp only at hy
            have eb : (((Zx.bits t k).length : Int) == (many : Int)) = true := by rw [beq_iff_eq, hbl]
            generalize Zx.bits t k = bt at *
            clear hR hl hle e0 hbl LOW
            gi_wp2
            refine (RR.out).mono ?_
            rintro e W3 ⟨rfl, hJ3, hk3⟩
            have z0 := (hk3.cell (p := ⟨B0, 0, none⟩) (cell_lt Y0'.out) t0).trans Y0'.out
            have z1 := (hk3.cell (p := ⟨B1, 0, none⟩) (cell_lt Y1'.out) t1).trans Y1'.out
            have J3 := Lib.hid hJ3
            have S3 := Lib.hid (Nat.le_trans Z1.out hk3.size)
            clear hJ3 hk3 hy y0 y1
            gi_wp2
            go_roundw
            case rel => exact ⟨t + 1, ys ++ [(bt, A, cc)], by omega, by go_num, by rw [List.map_append, YS.out, CH.out]; rfl, J3.out, S3.out, z0, z1⟩
            case measure => simp [intOf]; omega
          · have CH := Lib.hid (Zx.chs_miss hbl)
            have eb : (((Zx.bits t k).length : Int) == (many : Int)) = false := by rw [beq_eq_false_iff_ne]; omega
            generalize Zx.bits t k = bt at *
            clear hl hle e0 hbl LOW
            gi_wp2
            refine ⟨fun _ h => (by cases h), ?_⟩
            gi_wp2
            go_roundw
            case rel => exact ⟨t + 1, ys, by omega, by go_num, by rw [CH.out]; exact YS.out, JQ.out, Z1.out, y0, y1⟩
            case measure => simp [intOf]; omega
    · obtain rfl : t = N := by omega
      gi_wp2
      go_end0
      exact ⟨⟨_, rfl⟩, ys, by rw [hys]; exact ALL.out, hJs⟩
end Go.Proofs.Ytlnehhhlpdaebaa
