/- Contracts of package bareiss, second part: the first number that is not 0, the function that a pivot makes, and a step that calls it. -/
import Derived.Test.YtkebjmapdcbnaaaBaC1
import Derived.Test.YtkebjmapdcbnaaaOwnM
import Derived.Test.YtkebjmapdcbnaaaClone
namespace Go.Proofs.Ytkebjmapdcbnaaa
open Go.ChangeShapes Go.WideShapes Go.ChangeAt Go.RowKit
set_option linter.unusedVariables false

set_option maxRecDepth 100000 in
theorem nz_any (x : Int) (w : World) :
    Calls Try.prog 27 #[.int .i64 x] w fun e w' => e = .returned (.bool (x != 0)) ∧ w = w' := by
  go_enter Try.func27, Try.ntmps27
  go_wp2_with fail
  go_ret
  exact ⟨rfl, rfl⟩

set_option maxRecDepth 100000 in
set_option maxHeartbeats 1600000 in
/-- The first number that is not 0. -/
theorem idx_any (A : Option Addr) (l : List Int) (n d : Nat) (w : World) (hl : Lies w A l) (hn : l.length = n) (hb : n ≤ 1000) :
    Calls Try.prog 26 #[.slice A n d, .func (.func 27) #[] #[]] w fun e w' =>
      ((∃ k : Nat, k < n ∧ l.getD k 0 ≠ 0 ∧ (∀ j, j < k → l.getD j 0 = 0) ∧ e = .returned (.int .i64 (k : Int))) ∨ ((∀ j, j < n → l.getD j 0 = 0) ∧ e = .returned (.int .i64 (-1)))) ∧ w = w' := by
  have HL := Lib.hid hl
  have HN := Lib.hid hn
  clear hl hn
  go_enter Try.func26, Try.ntmps26
  go_wp2_with fail
  go_loop [8] (fun j => ∃ k : Nat, k ≤ n ∧ j = .int .i64 (k : Int) ∧ ∀ t, t < k → l.getD t 0 = 0) (fun j => n - (intOf j).toNat)
  case atStart => exact ⟨0, Nat.zero_le _, rfl, fun t ht => absurd ht (by omega)⟩
  case round =>
    obtain ⟨k, hk, rfl, hz⟩ := hrel
    have HZ := Lib.hid hz
    clear hz
    by_cases hlt : k < n
    · obtain ⟨ad, rfl, _, x1⟩ := HL.out k (by have := HN.out; omega)
      obtain ⟨x, hx⟩ : ∃ x, x = l.getD k 0 := ⟨_, rfl⟩
      rw [← hx] at x1
      have HX := Lib.hid hx
      have M := Lib.hid (fun w => nz_any x w)
      clear hx
      by_cases h0 : x = 0
      · rw [h0] at x1 M
        rw [show ((0 : Int) != 0) = false from rfl] at M
        have HZ2 := Lib.hid (show ∀ t, t < k + 1 → l.getD t 0 = 0 from fun t ht => by
          by_cases e : t = k
          · rw [e, ← HX.out]; exact h0
          · exact HZ.out t (by omega))
        clear h0
        go_wp2_with fail
        refine (M.out _).mono ?_; rintro e w' ⟨rfl, rfl⟩
        go_wp2_with fail
        go_round
        case rel => exact ⟨k + 1, by omega, by go_num, HZ2.out⟩
        case measure => simp [intOf]; omega
      · have HQ := Lib.hid (show l.getD k 0 ≠ 0 by rw [← HX.out]; exact h0)
        rw [show (x != 0) = true by rw [bne_iff_ne]; exact h0] at M
        clear h0
        go_wp2_with fail
        refine (M.out _).mono ?_; rintro e w' ⟨rfl, rfl⟩
        go_wp2_with fail
        go_ret
        exact ⟨.inl ⟨k, hlt, HQ.out, HZ.out, rfl⟩, rfl⟩
    · obtain rfl : k = n := by omega
      go_wp2_with fail
      go_ret
      exact ⟨.inr ⟨HZ.out, rfl⟩, rfl⟩

set_option maxRecDepth 100000 in
theorem elim_any (A : Option Addr) (n c : Nat) (pv last : Int) (w : World) :
    Calls Try.prog 28 #[.slice A n c, .int .i64 pv, .int .i64 last] w fun e w' =>
      ∃ P R L, e = .returned (.func (.func 32) #[] #[.pointer (some ⟨P, 0, none⟩), .pointer (some ⟨R, 0, none⟩), .pointer (some ⟨L, 0, none⟩)]) ∧
        (w.heap.size ≤ P ∧ w.heap.size ≤ R ∧ w.heap.size ≤ L) ∧ w'.cell? ⟨P, 0, none⟩ = some (.int .i64 pv) ∧ w'.cell? ⟨R, 0, none⟩ = some (.slice A n c) ∧ w'.cell? ⟨L, 0, none⟩ = some (.int .i64 last) ∧ Kp w w' := by
  go_enter Try.func28, Try.ntmps28
  go_wp2_with fail
  go_ret
  have s1 : (w.alloc (.cells #[.slice A n c] 32)).heap.size = w.heap.size + 1 := by simp
  have s2 : ((w.alloc (.cells #[.slice A n c] 32)).alloc (.cells #[.int .i64 pv] 3)).heap.size = w.heap.size + 1 + 1 := by simp
  refine ⟨w.heap.size + 1, w.heap.size, w.heap.size + 1 + 1, rfl, ⟨by omega, by omega, by omega⟩, ?_, ?_, ?_, (((Kp.rfl' w).new _).new _).new _⟩
  · have k3 : Kp ((w.alloc (.cells #[.slice A n c] 32)).alloc (.cells #[.int .i64 pv] 3)) _ := (Kp.rfl' _).new (.cells #[.int .i64 last] 3)
    exact (k3.cell (p := ⟨w.heap.size + 1, 0, none⟩) (by rw [s2]; show w.heap.size + 1 < _; omega)).trans (cell_made _ _ _ _ 0 s1.symm)
  · have k3 : Kp (w.alloc (.cells #[.slice A n c] 32)) _ := ((Kp.rfl' _).new (.cells #[.int .i64 pv] 3)).new (.cells #[.int .i64 last] 3)
    exact (k3.cell (p := ⟨w.heap.size, 0, none⟩) (by rw [s1]; show w.heap.size < _; omega)).trans (cell_made _ _ _ _ 0 rfl)
  · exact cell_made _ _ _ _ 0 s2.symm

/-- The function that a pivot made: its boxes, and the row that it stands over. -/
structure StepAt (w : World) (u : Value) (P R L Z n c pv : Nat) (last : Int) (by' : Nat → Int) : Prop where
  fn : u = .func (.func 32) #[] #[.pointer (some ⟨P, 0, none⟩), .pointer (some ⟨R, 0, none⟩), .pointer (some ⟨L, 0, none⟩)]
  piv : w.cell? ⟨P, 0, none⟩ = some (.int .i64 (pv : Int))
  row : w.cell? ⟨R, 0, none⟩ = some (.slice (some ⟨Z, 0, none⟩) n c)
  last : w.cell? ⟨L, 0, none⟩ = some (.int .i64 last)
  el : ∀ j, j < n → w.cell? ⟨Z, j, none⟩ = some (.int .i64 (by' j))

theorem mul_within (a b : Int) (ha : -7085880 ≤ a ∧ a ≤ 7085880) (hb : -7085880 ≤ b ∧ b ≤ 7085880) : -50209695374400 ≤ a * b ∧ a * b ≤ 50209695374400 := by
  have h : (a * b).natAbs ≤ 7085880 * 7085880 := by
    rw [Int.natAbs_mul]
    exact Nat.mul_le_mul (by omega) (by omega)
  omega
theorem quo_in {a b : Int} (h1 : -9000000000000000000 ≤ a) (h2 : a ≤ 9000000000000000000) : IntKind.i64.wrap (a.tdiv b) = a.tdiv b := by
  refine IntWalk.i64_in _ ?_
  have h := Int.natAbs_tdiv_le_natAbs a b
  omega

set_option maxRecDepth 100000 in
set_option maxHeartbeats 1600000 in
theorem step_any (u : Value) (P R L Z n c pv : Nat) (last : Int) (by' y : Nat → Int) (w : World) (B z cz : Nat) (hs : StepAt w u P R L Z n c pv last by') (ho : Own w B (.slice (some ⟨z, 0, none⟩) n cz) (Mx.row n y))
    (hP : P ≠ z) (hR : R ≠ z) (hL : L ≠ z) (hZ : Z ≠ z) (hpv : pv < n) (hn : n ≤ 1000) (h0 : last ≠ 0) (hy : ∀ j, j < n → -7085880 ≤ y j ∧ y j ≤ 7085880) (hb : ∀ j, j < n → -7085880 ≤ by' j ∧ by' j ≤ 7085880) :
    Calls Try.prog 32 #[.slice (some ⟨z, 0, none⟩) n cz, .pointer (some ⟨P, 0, none⟩), .pointer (some ⟨R, 0, none⟩), .pointer (some ⟨L, 0, none⟩)] w fun e w' =>
      e = .returned (.tuple #[]) ∧ Own w' B (.slice (some ⟨z, 0, none⟩) n cz) (Mx.row n fun j => (y j * by' pv - y pv * by' j).tdiv last) ∧ ∀ a : World, a.heap.size ≤ z → Kp a w → Kp a w' := by
  have HO := Lib.hid ho
  have x1 := hs.piv
  have x2 := own_cell ho pv (by rw [Mx.len_row]; exact hpv)
  rw [Mx.row_at _ _ _ hpv] at x2
  have HS := Lib.hid hs
  have HY := Lib.hid hy
  have HB := Lib.hid hb
  obtain ⟨fa, hfa⟩ : ∃ fa, fa = y pv := ⟨_, rfl⟩
  have HF := Lib.hid hfa
  rw [← hfa] at x2
  have hfb : -7085880 ≤ fa ∧ fa ≤ 7085880 := by rw [hfa]; exact hy pv hpv
  have HFB := Lib.hid hfb
  clear ho hs hy hb hfa hfb
  go_enter Try.func32, Try.ntmps32
  go_wp2_with fail
  go_loopw [14] (fun i wr => ∃ k : Nat, k ≤ n ∧ i = .int .i64 (k : Int) ∧ Own wr B (.slice (some ⟨z, 0, none⟩) n cz) (Mx.row n fun j => if j < k then (y j * by' pv - fa * by' j).tdiv last else y j) ∧ StepAt wr u P R L Z n c pv last by' ∧ ∀ a : World, a.heap.size ≤ z → Kp a w → Kp a wr) (fun i _ => n - (intOf i).toNat)
  case atStart => exact ⟨0, Nat.zero_le _, rfl, by
    rw [show (Mx.row n fun j => if j < 0 then (y j * by' pv - fa * by' j).tdiv last else y j) = Mx.row n y from Mx.row_ext fun j _ => by rw [if_neg (by omega)]]
    exact HO.out, HS.out, fun a _ h => h⟩
  case round =>
    clear x1 x2
    obtain ⟨k, hk, rfl, ho, hs, hkp⟩ := hrel
    by_cases hlt : k < n
    · have x1 := hs.piv
      have x2 := hs.row
      have x3 := hs.last
      have x4 := hs.el pv hpv
      have x5 := hs.el k hlt
      have x6 := own_cell ho k (by rw [Mx.len_row]; exact hlt)
      have x7 := own_free ho k
      rw [Mx.row_at _ _ _ hlt, if_neg (by omega)] at x6
      have hyk := HY.out k hlt
      have hbp := HB.out pv hpv
      have hbk := HB.out k hlt
      have hfb := HFB.out
      have HO2 := Lib.hid ho
      have HS2 := Lib.hid hs
      have HK2 := Lib.hid hkp
      obtain ⟨yk, hyk'⟩ : ∃ v, v = y k := ⟨_, rfl⟩
      obtain ⟨bp, hbp'⟩ : ∃ v, v = by' pv := ⟨_, rfl⟩
      obtain ⟨bk, hbk'⟩ : ∃ v, v = by' k := ⟨_, rfl⟩
      rw [← hyk'] at x6 hyk
      rw [← hbp'] at x4 hbp
      rw [← hbk'] at x5 hbk
      have p1 := mul_within yk bp hyk hbp
      have p2 := mul_within fa bk hfb hbk
      have hw1 : IntKind.i64.wrap (yk * bp) = yk * bp := IntWalk.i64_in _ (by omega)
      have hw2 : IntKind.i64.wrap (fa * bk) = fa * bk := IntWalk.i64_in _ (by omega)
      have hw3 : IntKind.i64.wrap (yk * bp - fa * bk) = yk * bp - fa * bk := IntWalk.i64_in _ (by omega)
      have hw4 : IntKind.i64.wrap ((yk * bp - fa * bk).tdiv last) = (yk * bp - fa * bk).tdiv last := quo_in (by omega) (by omega)
      have e0 : (last == 0) = false := by rw [beq_eq_false_iff_ne]; exact h0
      have HQ := Lib.hid (show (yk * bp - fa * bk).tdiv last = (y k * by' pv - fa * by' k).tdiv last by rw [hyk', hbp', hbk'])
      clear ho hs hkp p1 p2 hyk' hbp' hbk' hyk hbp hbk hfb
      go_wp2_with fail
      go_still_tail 18, (by kernel_rfl)
      change wpList _ _ _ _ _ wr.drew
      go_wp2_with fail
      go_roundw
      case rel =>
        have hd := HS2.out
        refine ⟨k + 1, by omega, by go_num, ?_, ⟨hd.fn, ?_, ?_, ?_, fun j hj => ?_⟩, fun a ha hk0 => ((HK2.out a ha hk0).drewN 1).put (p := ⟨z, k, none⟩) ha _⟩
        · have := own_put (HO2.out.drewN 1) k ((yk * bp - fa * bk).tdiv last)
          rw [Mx.row_set] at this
          rw [show (Mx.row n fun j => if j < k + 1 then (y j * by' pv - fa * by' j).tdiv last else y j) = Mx.row n fun j => if j = k then (yk * bp - fa * bk).tdiv last else if j < k then (y j * by' pv - fa * by' j).tdiv last else y j from Mx.row_ext fun j _ => by
            by_cases e : j = k
            · rw [if_pos e, if_pos (by omega), e, HQ.out]
            · rw [if_neg e]
              by_cases e2 : j < k
              · rw [if_pos e2, if_pos (by omega)]
              · rw [if_neg e2, if_neg (by omega)]]
          exact this
        · exact (World.cell?_setCell_other (w := wr.drewN 1) (v := .int .i64 ((yk * bp - fa * bk).tdiv last)) (h := fun e => hP (by cases e; rfl))).trans hd.piv
        · exact (World.cell?_setCell_other (w := wr.drewN 1) (v := .int .i64 ((yk * bp - fa * bk).tdiv last)) (h := fun e => hR (by cases e; rfl))).trans hd.row
        · exact (World.cell?_setCell_other (w := wr.drewN 1) (v := .int .i64 ((yk * bp - fa * bk).tdiv last)) (h := fun e => hL (by cases e; rfl))).trans hd.last
        · exact (World.cell?_setCell_other (w := wr.drewN 1) (v := .int .i64 ((yk * bp - fa * bk).tdiv last)) (h := fun e => hZ (by cases e; rfl))).trans (hd.el j hj)
      case measure => simp [intOf]; omega
    · obtain rfl : k = n := by omega
      have HO2 := Lib.hid (show Own wr B (.slice (some ⟨z, 0, none⟩) k cz) (Mx.row k fun j => (y j * by' pv - y pv * by' j).tdiv last) by
        rw [← HF.out]
        rw [show (Mx.row k fun j => (y j * by' pv - fa * by' j).tdiv last) = Mx.row k fun j => if j < k then (y j * by' pv - fa * by' j).tdiv last else y j from Mx.row_ext fun j hj => by rw [if_pos hj]]
        exact ho)
      have HK2 := Lib.hid hkp
      clear ho hs hkp
      go_wp2_with fail
      go_end0
      exact ⟨rfl, HO2.out, HK2.out⟩

end Go.Proofs.Ytkebjmapdcbnaaa
