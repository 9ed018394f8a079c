/- Families seen from the end, and with one less: what the law PathsMirror wants. -/
import Derived.Test.YtolkdbijenbchaaDoorPhC5
namespace Go.Proofs.YtolkdbijenbchaaDoor
set_option linter.unusedVariables false

/-- Heights seen from the other end. -/
def rvh (l : List Nat) : List Nat := (l.map fun x => 6 - x).reverse
theorem rvh_len (l : List Nat) : (rvh l).length = l.length := by unfold rvh; rw [List.length_reverse, List.length_map]
theorem rvh_at {l : List Nat} {i t : Nat} (h : i + t + 1 = l.length) : (rvh l).getD t 0 = 6 - l.getD i 0 := by
  unfold rvh
  rw [List.getD_eq_getElem?_getD, List.getElem?_reverse (by rw [List.length_map]; omega), List.length_map, show l.length - 1 - t = i by omega, List.getElem?_map, List.getD_eq_getElem?_getD, List.getElem?_eq_getElem (by omega)]
  rfl
/-- Those made so far. -/
def rvk (l : List Nat) (t : Nat) : List Int := Mx.row t fun j => (((rvh l).getD j 0 : Nat) : Int)
theorem rvk_next {l : List Nat} {i t : Nat} (h : i + t + 1 = l.length) (h6 : l.getD i 0 < 7) : rvk l (t + 1) = rvk l t ++ [6 - ((l.getD i 0 : Nat) : Int)] := by
  unfold rvk
  rw [Mx.row_snoc, rvh_at h, show ((6 - l.getD i 0 : Nat) : Int) = 6 - ((l.getD i 0 : Nat) : Int) by omega]
theorem rvk_all (l : List Nat) : rvk l l.length = nz (rvh l) := by
  refine list_same _ _ (by rw [rvk, Mx.len_row, nz_len, rvh_len]) fun k hk => ?_
  rw [rvk, Mx.len_row] at hk
  rw [rvk, Mx.row_at _ _ _ hk, nz_at (by rw [rvh_len]; exact hk)]
section
variable {wd : Nat} {x y : List Nat} {l m : List Int}
theorem ph_close {x y : List Nat} (hw : wd ≤ 4) (h1 : 1 ≤ x.length) (h3 : x.length ≤ 3) (hl : y.length = x.length) (hx : Zx.Ris x) (hy : Zx.Ris y) : Ph wd x y (nz x) (nz y) := ⟨hw, rfl, rfl, h1, h3, hl, hx, hy⟩
theorem ph_mirror (s : Ph wd x y l m) : Zx.ap wd (rvh y) (rvh x) = Zx.ap wd x y ∧ Ph wd (rvh y) (rvh x) (nz (rvh y)) (nz (rvh x)) := by
  have h1 := s.a1
  have h3 := s.a3
  have hl := s.len
  have rx := s.ra
  have ry := s.rb
  have lx := Zx.ris_le rx
  have ly := Zx.ris_le ry
  have hw := s.w4
  clear s
  match x, y, h1, h3, hl, rx, ry with
  | [a], [t], _, _, _, rx, ry =>
    have a7 : a < 7 := rx
    have t7 : t < 7 := ry
    exact ⟨Zx.ap1_mirror wd a7 t7, ph_close hw (by decide : 1 ≤ 1) (by decide : 1 ≤ 3) rfl (show 6 - t < 7 by omega) (show 6 - a < 7 by omega)⟩
  | [a, b], [t, u], _, _, _, rx, ry =>
    have b7 : b < 7 := rx.2
    have u7 : u < 7 := ry.2
    have ab := rx.1
    have tu := ry.1
    exact ⟨Zx.ap2_mirror wd ab b7 tu u7, ph_close hw (by decide : 1 ≤ 2) (by decide : 2 ≤ 3) rfl (show 6 - u < 6 - t ∧ 6 - t < 7 by omega) (show 6 - b < 6 - a ∧ 6 - a < 7 by omega)⟩
  | [a, b, c], [t, u, v], _, _, _, rx, ry =>
    have c7 : c < 7 := rx.2.2
    have v7 : v < 7 := ry.2.2
    have ab := rx.1
    have bc := rx.2.1
    have tu := ry.1
    have uv := ry.2.1
    exact ⟨Zx.ap3_mirror wd ab bc c7 tu uv v7, ph_close hw (by decide : 1 ≤ 3) (by decide : 3 ≤ 3) rfl (show 6 - v < 6 - u ∧ 6 - u < 6 - t ∧ 6 - t < 7 by omega) (show 6 - c < 6 - b ∧ 6 - b < 6 - a ∧ 6 - a < 7 by omega)⟩
  | _ :: _ :: _ :: _ :: _, _, _, h3, _, _, _ => exact absurd h3 (by simp)
/-- One less. -/
theorem ph_tail (s : Ph wd x y l m) (h2 : 2 ≤ x.length) : Ph wd x.tail y.tail (nz x.tail) (nz y.tail) ∧ Zx.ap wd x y ≤ Zx.ap wd x.tail y.tail * Zx.way wd (x.getD 0 0) (y.getD 0 0) := by
  have h3 := s.a3
  have hl := s.len
  have rx := s.ra
  have ry := s.rb
  have lx := Zx.ris_le rx
  have hw := s.w4
  clear s
  match x, y, h2, h3, hl, rx, ry with
  | [a, b], [t, u], _, _, _, rx, ry =>
    refine ⟨ph_close hw (by decide : 1 ≤ 1) (by decide : 1 ≤ 3) rfl rx.2 ry.2, ?_⟩
    rw [Int.mul_comm]
    exact Zx.ap_more wd rx.1 (lx 1)
  | [a, b, c], [t, u, v], _, _, _, rx, ry =>
    refine ⟨ph_close hw (by decide : 1 ≤ 2) (by decide : 2 ≤ 3) rfl rx.2 ry.2, ?_⟩
    rw [Int.mul_comm]
    exact Zx.ap_more wd rx.1 (lx 1)
  | _ :: _ :: _ :: _ :: _, _, _, h3, _, _, _ => exact absurd h3 (by simp)
/-- Past its end. -/
theorem ph_past (s : Ph wd x y l m) (h : y.getD 0 0 < x.getD 0 0) : Zx.ap wd x y = 0 := by
  have h1 := s.a1
  have h3 := s.a3
  have hl := s.len
  clear s
  match x, y, h1, h3, hl, h with
  | [a], [t], _, _, _, h => exact Zx.ap_out1 wd h
  | [a, b], [t, u], _, _, _, h => exact Zx.ap_out2 wd (.inl h)
  | [a, b, c], [t, u, v], _, _, _, h => exact Zx.ap_out3 wd (.inl h)
  | _ :: _ :: _ :: _ :: _, _, _, h3, _, _ => exact absurd h3 (by simp)
theorem ph_size (s : Ph wd x y l m) : 0 ≤ Zx.ap wd x y ∧ Zx.ap wd x y ≤ 1000000000000000 := by
  have e := Zx.fam_pad wd s.a1 s.a3 s.rb s.len
  have h1 := Zx.fam_bound (Zx.pad_h3 s.rb (by rw [s.len]; exact s.a1) (by rw [s.len]; exact s.a3)) wd (Zx.pad_h3 s.ra s.a1 s.a3)
  rw [e] at h1
  have hw := s.w4
  have h2 : (1000 : Int) ^ (wd + 1) ≤ 1000000000000000 := by
    rcases (show wd = 0 ∨ wd = 1 ∨ wd = 2 ∨ wd = 3 ∨ wd = 4 by omega) with rfl | rfl | rfl | rfl | rfl <;> decide
  omega
end
end Go.Proofs.YtolkdbijenbchaaDoor
