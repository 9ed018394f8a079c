/- Contract of package vander's Full. -/
import Derived.Test.YtldkamhknaflbaaVdC1
import Derived.Test.YtldkamhknaflbaaHdP
namespace Go.Proofs.Ytldkamhknaflbaa
open Go.ChangeShapes Go.WideShapes Go.ChangeAt Go.RowKit
set_option linter.unusedVariables false

theorem VFull_bad (A : Option Addr) (L : List Int) (c : Nat) (w : World) (ha : Lies w A L) (h : vcd L ≠ 0) :
    Calls Try.prog 7 #[.slice A L.length c] w fun e w' => e = .returned (.tuple #[.slice none 0 0, errOf (vcd L)]) ∧ w = w' := by
  have CK := Lib.hid (vChk_any A L c w ha)
  rw [errOf_ne _ h] at CK ⊢
  generalize vcd L = z at *
  generalize L.length = n at *
  clear ha h
  go_enter Try.func7, Try.ntmps7
  go_wp2_with fail
  refine (CK.out).mono ?_; rintro e w' ⟨rfl, rfl⟩
  go_wp2_with fail
  go_ret2
  exact ⟨rfl, rfl⟩

set_option maxRecDepth 100000 in
set_option maxHeartbeats 6400000 in
theorem VFull_ok (A : Option Addr) (L : List Int) (n c : Nat) (X : Nat → Fp.F) (w : World) (ha : Lies w A L) (s : Vd n X L) :
    Calls Try.prog 7 #[.slice A n c] w fun e w' => MadeM n (Mx.vm X) w e w' := by
  have CK := Lib.hid (vChk_good s A c w ha)
  have HA := Lib.hid (show Lies w A (Mx.row n fun j => ((X j).val : Int)) from by have h := ha; rw [s.row] at h; exact h)
  have hn0 := s.n0
  have hn5 := s.n5
  obtain ⟨j0, hj, hz0, hz1, hz2⟩ := info_parts ints_info
  clear ha s
  go_enter Try.func7, Try.ntmps7
  go_wp2_with fail
  refine (CK.out).mono ?_; rintro e w' ⟨rfl, rfl⟩
  go_wp2_with (first
    | (at_make; refine wpList_make_full _ rfl _ _ 24 rfl _ 22 j0 (.slice none 0 0) 1 Try.underlying24 hj hz0 hz1 _ _ _ _ n rfl rfl rfl rfl (by rw [hz2]; omega) (by unfold maxLen; omega) (Nat.le_refl _) ?_; intro w3 hown hgrow))
  have K3 : Kp w w3 := (Kp.rfl' w).grown hgrow (by simp) (fun k hk => by cases hk)
  have G2 : HdP w3 w.heap.size (fun _ => 0) (fun _ => 0) n 0 (fun i j => ((Mx.vm X i j).val : Int)) := HdP.start _ hown
  clear hown hgrow hj hz0 hz1 hz2
  obtain ⟨g2, hg2⟩ : ∃ x, x = w.heap.size := ⟨_, rfl⟩
  rw [← hg2] at G2 ⊢
  have HG := Lib.hid hg2
  have H2 := Lib.hid G2
  have H3 := Lib.hid K3
  clear G2 K3 hg2
  go_loopw [18] (fun i wr => ∃ (k : Nat) (G C : Nat → Nat), k ≤ n ∧ i = .int .i64 (k : Int) ∧ HdP wr g2 G C n k (fun i j => ((Mx.vm X i j).val : Int)) ∧ Kp w wr) (fun i _ => n - (intOf i).toNat)
  case atStart => exact ⟨0, _, _, Nat.zero_le _, rfl, H2.out, H3.out⟩
  case round =>
    obtain ⟨k, G, C, hk, rfl, h2, h3⟩ := hrel
    clear H2 H3
    by_cases hlt : k < n
    · obtain ⟨w6, hw6⟩ : ∃ x, x = wr := ⟨_, rfl⟩
      subst hw6
      obtain ⟨ad, rfl, _, hx⟩ := (HA.out.keep h3).el hlt
      have H2 := Lib.hid h2
      have H3 := Lib.hid h3
      clear h2 h3
      go_wp2_with fail
      refine (powers_any _ n w6).mono ?_; rintro e w7 ⟨rfl, hw7⟩
      have k7 : Kp w6 w7 := by rw [hw7]; exact ((Kp.rfl' w6).new _).new _
      have c0 : w7.cell? ⟨w6.heap.size, 0, none⟩ = some (.int .i64 ((X k).val : Int)) := by
        rw [hw7]; exact ((Boxed.new w6 3 (.int .i64 ((X k).val : Int))).alloc _).cell
      have c1 : w7.cell? ⟨w6.heap.size + 1, 0, none⟩ = some (.int .i64 (n : Int)) := by
        rw [hw7]
        have := (Boxed.new (w6.alloc (.cells #[.int .i64 ((X k).val : Int)] 3)) 3 (.int .i64 (n : Int))).cell
        rwa [World.size_alloc] at this
      have s7 := k7.size
      have CL := Lib.hid (show Calls Try.prog 19 #[.func (.func 39) #[] #[.pointer (some ⟨w6.heap.size + 1, 0, none⟩), .pointer (some ⟨w6.heap.size, 0, none⟩)]] w7 fun e w' => ∃ z cz, e = .returned (.slice (some ⟨z, 0, none⟩) n cz) ∧ w6.heap.size ≤ z ∧ n ≤ cz ∧ Lies w' (some ⟨z, 0, none⟩) (Mx.row n fun j => ((Mx.vm X k j).val : Int)) ∧ Kp w6 w' by
        refine (collectPow_any w6.heap.size (w6.heap.size + 1) n (X k) (by omega) w7 c0 c1).mono ?_
        rintro e w'' ⟨v, rfl, hv, hk2⟩
        obtain ⟨z, cz, rfl, hz, hcz⟩ := own_some hv (by rw [Mx.len_row]; exact hn0)
        obtain ⟨A', c', e', hl'⟩ := hv.lies
        cases e'
        rw [Mx.len_row] at hcz ⊢
        exact ⟨z, cz, rfl, by omega, hcz, hl', k7.trans hk2⟩)
      clear hw7 k7 c0 c1
      go_wp2_with fail
      refine (CL.out).mono ?_; rintro e w9 ⟨z, cz, rfl, hz, hcz, hlz, hk9⟩
      have hsz := H2.out.lt
      have M2 := H2.out.keep hk9
      have x1 := M2.cell (Nat.le_refl k) hlt
      have x2 := M2.free k
      have M2' := Lib.hid (M2.step hlt hlz hcz (by omega))
      have M3 := Lib.hid ((H3.out.trans hk9).put (p := ⟨g2, k, none⟩) (by show w.heap.size ≤ g2; exact Nat.le_of_eq HG.out.symm) (.slice (some ⟨z, 0, none⟩) n cz))
      clear M2 hlz hk9 hz CL
      go_wp2_with fail
      go_roundw
      case rel => exact ⟨k + 1, _, _, by omega, by go_num, M2'.out, M3.out⟩
      case measure => simp [intOf]; omega
    · obtain rfl : k = n := by omega
      have H2 := Lib.hid h2
      have H3 := Lib.hid h3
      clear h2 h3
      go_wp2_with fail
      go_ret2
      exact ⟨_, k, rfl, Nat.le_refl _, H2.out.lies, H3.out⟩

end Go.Proofs.Ytldkamhknaflbaa
