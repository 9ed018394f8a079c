/- Contracts of package lu, first part: the first line that is not nought at a column, a row taken from another one. -/
import Derived.Test.YtdkdpklohfdpmaaDoorLuM
import Derived.Test.YtdkdpklohfdpmaaDoorClone
import Derived.Test.YtdkdpklohfdpmaaDoorGaC1
namespace Go.Proofs.YtdkdpklohfdpmaaDoor
open Go.ChangeShapes Go.WideShapes Go.ChangeAt Go.RowKit
set_option linter.unusedVariables false

set_option maxRecDepth 100000 in
theorem nz_any (s : Int) (y n d a ca P c : Nat) (x : Int) (w : World) (hp : w.cell? ⟨P, 0, none⟩ = some (.int .i64 (c : Int))) (hx : w.cell? ⟨y, c, none⟩ = some (.int .i64 x)) (hc : c < n) :
    Calls Tryd.prog 22 #[.agg #[.int .i64 s, .slice (some ⟨a, 0, none⟩) n ca, .slice (some ⟨y, 0, none⟩) n d], .pointer (some ⟨P, 0, none⟩)] w fun e w' => e = .returned (.bool (x != 0)) ∧ Kp w w' := by
  have k0 : Kp w (w.alloc (.cells #[.int .i64 s, .slice (some ⟨a, 0, none⟩) n ca, .slice (some ⟨y, 0, none⟩) n d] 43)) := (Kp.rfl' w).new _
  have q1 := (k0.cell (p := ⟨P, 0, none⟩) (cell_lt hp)).trans hp
  have q2 := (k0.cell (p := ⟨y, c, none⟩) (cell_lt hx)).trans hx
  clear k0
  go_enter Tryd.func22, Tryd.ntmps22
  go_wp2_with fail
  go_ret
  exact ⟨rfl, (Kp.rfl' w).new _⟩

set_option maxRecDepth 100000 in
set_option maxHeartbeats 1600000 in
/-- A row is taken from another one, so many times. -/
theorem sub_any {B z cz y cy n : Nat} {f h : Nat → Fp.F} (hzy : z ≠ y) (x : Fp.F) (w : World) (hn : n ≤ 1000)
    (hz : Own w B (.slice (some ⟨z, 0, none⟩) n cz) (Mx.row n fun j => ((f j).val : Int))) (hy : ∀ j, j < n → w.cell? ⟨y, j, none⟩ = some (.int .i64 ((h j).val : Int))) :
    Calls Tryd.prog 24 #[.slice (some ⟨z, 0, none⟩) n cz, .slice (some ⟨y, 0, none⟩) n cy, .int .i64 (x.val : Int)] w fun e w' =>
      e = .returned (.tuple #[]) ∧ Own w' B (.slice (some ⟨z, 0, none⟩) n cz) (Mx.row n fun j => ((f j - x * h j).val : Int)) ∧ Only (fun _ => z) 1 w w' := by
  have HZ := Lib.hid hz
  have HY := Lib.hid hy
  clear hz hy
  obtain ⟨xv, hxv⟩ : ∃ xv, xv = (x.val : Int) := ⟨_, rfl⟩
  rw [← hxv]
  have HX := Lib.hid hxv
  have hxb : 0 ≤ xv ∧ xv ≤ 9972 := by rw [hxv]; exact gval x
  clear hxv
  go_enter Tryd.func24, Tryd.ntmps24
  go_wp2_with fail
  go_loopw [10] (fun u wr => ∃ k : Nat, k ≤ n ∧ u = .int .i64 (k : Int) ∧ Own wr B (.slice (some ⟨z, 0, none⟩) n cz) (Mx.row n fun q => if q < k then ((f q - x * h q).val : Int) else ((f q).val : Int)) ∧ Only (fun _ => z) 1 w wr) (fun u _ => n - (intOf u).toNat)
  case atStart =>
    refine ⟨0, Nat.zero_le _, rfl, ?_, Only.refl _ _ _⟩
    rw [show (Mx.row n fun q => if q < 0 then ((f q - x * h q).val : Int) else ((f q).val : Int)) = Mx.row n fun j => ((f j).val : Int) from Mx.row_ext fun j _ => by rw [if_neg (by omega)]]
    exact HZ.out
  case round =>
    obtain ⟨k, hk, rfl, ho, hon⟩ := hrel
    by_cases hlt : k < n
    · have y2 := own_cell ho k (by rw [Mx.len_row]; exact hlt)
      rw [Mx.row_at _ _ _ hlt, if_neg (by omega)] at y2
      have y3 := own_free ho k
      have hyl := cell_lt (HY.out k hlt)
      have y1 := (World.cell?_of_block (w := w) (w' := wr) (a := ⟨y, k, none⟩) (hon.block y hyl fun _ _ e => hzy e.symm)).trans (HY.out k hlt)
      have HP := Lib.hid ho
      have HN := Lib.hid hon
      have hm := less_mod (f k) x (h k)
      have hb := less_bound x (h k)
      have hb2 := gval (f k)
      rw [← HX.out] at hm hb
      obtain ⟨v1, hv1⟩ : ∃ v, v = ((f k - x * h k).val : Int) := ⟨_, rfl⟩
      rw [← hv1] at hm
      have HV := Lib.hid hv1
      generalize ((f k).val : Int) = u0 at *
      generalize ((h k).val : Int) = v at *
      have hws : IntKind.i64.wrap (9973 - xv) = 9973 - xv := IntWalk.i64_in _ (by omega)
      have hwm : IntKind.i64.wrap ((9973 - xv) * v) = (9973 - xv) * v := IntWalk.i64_in _ (by omega)
      have hwa : IntKind.i64.wrap (u0 + (9973 - xv) * v) = u0 + (9973 - xv) * v := IntWalk.i64_in _ (by omega)
      clear ho hon hv1 hb hb2 hyl
      go_wp2_with fail
      go_roundw
      case rel =>
        refine ⟨k + 1, by omega, by go_num, ?_, HN.out.put (i := 0) (by omega) k _⟩
        have := own_put HP.out k v1
        rw [Mx.row_set] at this
        rw [show (Mx.row n fun q => if q < k + 1 then ((f q - x * h q).val : Int) else ((f q).val : Int)) = Mx.row n fun q => if q = k then v1 else if q < k then ((f q - x * h q).val : Int) else ((f q).val : Int) from Mx.row_ext fun q _ => by
          by_cases e : q = k
          · rw [if_pos e, if_pos (by omega), HV.out, e]
          · rw [if_neg e]
            by_cases e2 : q < k
            · rw [if_pos e2, if_pos (by omega)]
            · rw [if_neg e2, if_neg (by omega)]]
        exact this
      case measure => simp [intOf]; omega
    · obtain rfl : k = n := by omega
      have HP := Lib.hid ho
      have HN := Lib.hid hon
      clear ho hon
      go_wp2_with fail
      go_end0
      refine ⟨rfl, ?_, HN.out⟩
      rw [show (Mx.row k fun j => ((f j - x * h j).val : Int)) = Mx.row k fun q => if q < k then ((f q - x * h q).val : Int) else ((f q).val : Int) from Mx.row_ext fun q hq => by rw [if_pos hq]]
      exact HP.out

set_option maxRecDepth 100000 in
set_option maxHeartbeats 1600000 in
/-- The first line from line c on that is not nought at column c. -/
theorem idx_any {B g n c r P : Nat} {L C U D : Nat → Nat} {t : Mx.Tri} (w : World) (h : LinT w B g n L C U D t) (hn : n = c + r) (hb : n ≤ 1000) (hr : 0 < r) (hp : w.cell? ⟨P, 0, none⟩ = some (.int .i64 (c : Int))) :
    Calls Tryd.prog 21 #[.slice (some ⟨g, c * 3, none⟩) r r, .func (.func 22) #[] #[.pointer (some ⟨P, 0, none⟩)]] w fun e w' =>
      ((∃ k : Nat, k < r ∧ t.u (c + k) c ≠ 0 ∧ (∀ j, j < k → t.u (c + j) c = 0) ∧ e = .returned (.int .i64 (k : Int))) ∨ ((∀ j, j < r → t.u (c + j) c = 0) ∧ e = .returned (.int .i64 (-1)))) ∧ Kp w w' := by
  have H := Lib.hid h
  have HN := Lib.hid hn
  have HP := Lib.hid hp
  have hr1 : r ≤ 1000 := by omega
  clear h hn hp
  go_enter Tryd.func21, Tryd.ntmps21
  go_wp2_with fail
  go_loopw [8] (fun j wr => ∃ k : Nat, k ≤ r ∧ j = .int .i64 (k : Int) ∧ (∀ j, j < k → t.u (c + j) c = 0) ∧ Kp w wr) (fun j _ => r - (intOf j).toNat)
  case atStart => exact ⟨0, Nat.zero_le _, rfl, fun t ht => absurd ht (by omega), Kp.rfl' w⟩
  case round =>
    obtain ⟨k, hk, rfl, hz, hkp⟩ := hrel
    have HZ := Lib.hid hz
    have HK := Lib.hid hkp
    clear hz hkp
    by_cases hlt : k < r
    · have hi : c + k < n := by have := HN.out; omega
      have hl := H.out.keep HK.out
      have x0 := hl.top.cell0 hi
      have x1 := hl.top.cell1 hi
      have x2 := hl.top.cell2 hi
      have x3 := hl.uc hi (j := c) (by omega)
      have x4 := (HK.out.cell (p := ⟨P, 0, none⟩) (cell_lt HP.out)).trans HP.out
      have x5 := hl.top.lt
      unfold lnv at x0 x1 x2
      rw [show (c + k) * 3 = c * 3 + k * 3 by omega] at x0 x1 x2
      have M := Lib.hid (nz_any (t.s (c + k) : Int) (U (c + k)) n (D (c + k)) (L (c + k)) (C (c + k)) P c _ wr x4 x3 (by omega))
      generalize t.s (c + k) = s0 at *
      generalize L (c + k) = L0 at *
      generalize C (c + k) = C0 at *
      generalize U (c + k) = U0 at *
      generalize D (c + k) = D0 at *
      clear hl x3 x4
      by_cases h0 : t.u (c + k) c = 0
      · have HZ2 := Lib.hid (show ∀ j, j < k + 1 → t.u (c + j) c = 0 from fun j hj => by
          by_cases e : j = k
          · rw [e]; exact h0
          · exact HZ.out j (by omega))
        rw [h0, show ((((0 : Fp.F).val : Nat) : Int) != 0) = false from rfl] at M
        clear h0
        go_wp2_with fail
        refine (M.out).mono ?_; rintro e w' ⟨rfl, hk2⟩
        have HK2 := Lib.hid (HK.out.trans hk2)
        clear hk2
        go_wp2_with fail
        go_roundw
        case rel => exact ⟨k + 1, by omega, by go_num, HZ2.out, HK2.out⟩
        case measure => simp [intOf]; omega
      · have HQ := Lib.hid h0
        have hv := Fp.ne_val h0
        rw [show (((t.u (c + k) c).val : Int) != 0) = true by rw [bne_iff_ne]; omega] at M
        clear h0 hv
        go_wp2_with fail
        refine (M.out).mono ?_; rintro e w' ⟨rfl, hk2⟩
        have HK2 := Lib.hid (HK.out.trans hk2)
        clear hk2
        go_wp2_with fail
        go_ret
        exact ⟨.inl ⟨k, hlt, HQ.out, HZ.out, rfl⟩, HK2.out⟩
    · obtain rfl : k = r := by omega
      go_wp2_with fail
      go_ret
      exact ⟨.inr ⟨HZ.out, rfl⟩, HK.out⟩

end Go.Proofs.YtdkdpklohfdpmaaDoor
