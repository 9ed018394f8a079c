/- Contracts of package hermite, sixth part: whether a row is a sum of rows. -/
import Derived.Test.YtlnehhhlpdaebaaHmC5
namespace Go.Proofs.Ytlnehhhlpdaebaa
open Go.ChangeShapes Go.WideShapes Go.ChangeAt Go.RowKit
set_option linter.unusedVariables false

theorem bool_of (P : Prop) : ∃ b : Bool, b = true ↔ P := by
  by_cases h : P
  · exact ⟨true, fun _ => h, fun _ => rfl⟩
  · exact ⟨false, fun h' => (by cases h'), fun h' => absurd h' h⟩
theorem Has_no (A B : Option Addr) (m : List (List Int)) (n p c d : Nat) (w : World) (ha : LiesM w A m) (hn : m.length = n) (h : hcd m ≠ 0) :
    Calls Try.prog 18 #[.slice A n c, .slice B p d] w fun e w' => e = .returned (.tuple #[.bool false, errOf (hcd m)]) ∧ Kp w w' := by
  have C := Lib.hid (Form_no A m n c w ha hn h)
  rw [errOf_ne _ h] at C ⊢
  generalize hcd m = z at *
  clear ha hn h
  go_enter Try.func18, Try.ntmps18
  go_wp2_with fail
  refine (C.out).mono ?_; rintro e w' ⟨rfl, hk⟩
  have HK := Lib.hid hk
  clear hk
  go_wp2_with fail
  go_ret2
  exact ⟨rfl, HK.out⟩
theorem Has_len {n p : Nat} {x : Nat → Nat → Int} {m : List (List Int)} (s : Hm n x m) (A B : Option Addr) (c d : Nat) (w : World) (ha : LiesM w A m) (h : p ≠ n) :
    Calls Try.prog 18 #[.slice A n c, .slice B p d] w fun e w' => e = .returned (.tuple #[.bool false, errOf 3]) ∧ Kp w w' := by
  have C := Lib.hid (Form_ok s A c w ha)
  have e0 : ((p : Int) != (n : Int)) = true := by rw [bne_iff_ne]; omega
  clear ha h s
  go_enter Try.func18, Try.ntmps18
  go_wp2_with fail
  refine (C.out).mono ?_; rintro e w1 ⟨g, cap, G, C, a, _, _, _, rfl, _, _, hk⟩
  have HK := Lib.hid hk
  clear hk
  go_wp2_with fail
  go_ret2
  exact ⟨rfl, HK.out⟩
theorem Has_range {n : Nat} {x : Nat → Nat → Int} {m : List (List Int)} (s : Hm n x m) (A B : Option Addr) (l : List Int) (c d : Nat) (w : World) (ha : LiesM w A m) (hb : Lies w B l) (hl : l.length = n) (h : ¬ AllIn l (-100) 100) :
    Calls Try.prog 18 #[.slice A n c, .slice B n d] w fun e w' => e = .returned (.tuple #[.bool false, errOf 1]) ∧ Kp w w' := by
  have C := Lib.hid (Form_ok s A c w ha)
  have h3 := s.sh.n3
  have W := Lib.hid (fun w1 (k : Kp w w1) => hwin_any B l n d 100 w1 false (hb.keep k) hl (by omega) (by omega) ⟨fun h => (by cases h), fun h' => absurd h' h⟩)
  have e0 : ((n : Int) != (n : Int)) = false := by simp
  clear ha hb hl h s
  go_enter Try.func18, Try.ntmps18
  go_wp2_with fail
  refine (C.out).mono ?_; rintro e w1 ⟨g, cap, G, C, a, _, _, _, rfl, _, _, hk⟩
  have HK := Lib.hid hk
  clear hk
  go_wp2_with fail
  refine (W.out w1 HK.out).mono ?_; rintro e w2 ⟨rfl, hk2⟩
  have HK2 := Lib.hid (HK.out.trans hk2)
  clear hk2
  go_wp2_with fail
  go_ret2
  exact ⟨rfl, HK2.out⟩

set_option maxRecDepth 100000 in
set_option maxHeartbeats 3200000 in
theorem Has_ok {n : Nat} {x : Nat → Nat → Int} {m : List (List Int)} (s : Hm n x m) (A B : Option Addr) (l : List Int) (c d : Nat) (w : World) (ha : LiesM w A m) (hb : Lies w B l) (hl : l.length = n) (h : AllIn l (-100) 100) :
    Calls Try.prog 18 #[.slice A n c, .slice B n d] w fun e w' => GotSame (Zx.Lat n x fun j => l.getD j 0) w e w' := by
  have CF := Lib.hid (Form_ok s A c w ha)
  have h3 := s.sh.n3
  have hn0 := s.sh.n0
  have W := Lib.hid (fun w1 (k : Kp w w1) => hwin_any B l n d 100 w1 true (hb.keep k) hl (by omega) (by omega) ⟨fun _ => h, fun _ => rfl⟩)
  have CL := Lib.hid (fun w1 (k : Kp w w1) => show Calls Try.prog 29 #[.slice B n d] w1 fun e w' => SomeRow l w1 e w' from by
    have := sclone_any B l d w1 (hb.keep k) (by omega)
    rwa [hl] at this)
  obtain ⟨xv, hxv⟩ : ∃ xv : Nat → Int, xv = fun j => l.getD j 0 := ⟨_, rfl⟩
  rw [← hxv]
  have XB2 := Lib.hid (show ∀ j, j < n → Zx.ab (xv j) ≤ 100 from fun j hj => by
    rw [hxv]
    dsimp only
    have := h j (by omega)
    unfold Zx.ab; omega)
  have HL := Lib.hid hl
  have RW := Lib.hid (show l = Mx.row n xv from by
    refine list_same _ _ (by rw [Mx.len_row]; exact hl) fun k hk => ?_
    rw [Mx.row_at _ _ _ (by omega), hxv])
  have e0 : ((n : Int) != (n : Int)) = false := by simp
  clear ha hb hl h s hxv
  go_enter Try.func18, Try.ntmps18
  go_wp2_with fail
  refine (CF.out).mono ?_; rintro e w1 ⟨g, cap, G, C, a, n1, l1, b1, rfl, o1, _, hk⟩
  have HN := Lib.hid n1
  have HE := Lib.hid l1
  have HB := Lib.hid b1
  have HO := Lib.hid o1
  have HK := Lib.hid hk
  clear hk n1 l1 b1 o1 CF
  go_wp2_with fail
  refine (W.out w1 HK.out).mono ?_; rintro e w2 ⟨rfl, hk2⟩
  have HK2 := Lib.hid (HK.out.trans hk2)
  have HO2 := Lib.hid (HO.out.kp hk2)
  clear hk2 HO W
  go_wp2_with fail
  refine (CL.out w2 HK2.out).mono ?_; rintro e w3 ⟨v, rfl, ho3, hk3⟩
  obtain ⟨z, zc, rfl, hz, hzc⟩ := own_some ho3 (by rw [HL.out]; exact hn0)
  rw [HL.out] at ho3 hzc ⊢
  have HZ := Lib.hid hz
  have HO3 := Lib.hid (HO2.out.kp hk3)
  have HK3 := Lib.hid (HK2.out.trans hk3)
  have HR := Lib.hid (show Own w3 w2.heap.size (.slice (some ⟨z, 0, none⟩) n zc) (Mx.row n xv) by rw [← RW.out]; exact ho3)
  have HGL := Lib.hid (show ∀ i, i < n → G i ≠ z from fun i hi e => by
    have := (HO2.out.weak.lt hi).2
    omega)
  have HGT := Lib.hid (show g ≠ z from fun e => by
    have := HO2.out.weak.topLe.2
    omega)
  have HK23 := Lib.hid hk3
  clear ho3 hz hk3 CL HL RW
  go_wp2_with fail
  go_loopw [9, 10, 33] (fun _ _ i wq => ∃ t : Nat, t ≤ n ∧ i = .int .i64 (t : Int) ∧ Own wq w2.heap.size (.slice (some ⟨z, 0, none⟩) n zc) (Mx.row n (Zx.lft a xv t)) ∧ But z w3 wq) (fun _ _ i _ => n - (intOf i).toNat)
  case atStart => exact ⟨0, Nat.zero_le _, rfl, HR.out, Only.refl _ _ _⟩
  case round =>
    clear HR
    obtain ⟨t, ht, rfl, ho, hon⟩ := hrel
    have HR := Lib.hid ho
    have HU := Lib.hid hon
    clear ho hon
    by_cases hlt : t < n
    · have y0 := HU.out.cell (HO3.out.weak.head hlt) fun _ _ => HGT.out
      have RD := Lib.hid (reduc_any (some ⟨G t, 0, none⟩) n (C t) t wr)
      have ST := Lib.hid (fun w4 (k : Kp wr w4) P R (hP : wr.heap.size ≤ P ∧ wr.heap.size ≤ R) c1 c2 =>
        red_any P R (G t) n (C t) t z zc w2.heap.size (a t) (Zx.lft a xv t) w4
          ⟨c1, c2, fun j hj => (k.cell (cell_lt (HU.out.cell (HO3.out.weak.el hlt hj) fun _ _ => HGL.out t hlt))).trans (HU.out.cell (HO3.out.weak.el hlt hj) fun _ _ => HGL.out t hlt)⟩
          (HR.out.kp k) (fun e => by have a := hP.1; have b := (World.ownsRow.lt HR.out z rfl).2; omega) (fun e => by have a := hP.2; have b := (World.ownsRow.lt HR.out z rfl).2; omega)
          (HGL.out t hlt) hlt (by omega) (HN.out.pos t hlt) (by have := (HB.out t t hlt hlt).2; omega) fun j hj => by
            have := Zx.lft_step HN.out HB.out xv XB2.out h3 hlt hj
            unfold Zx.ab at this
            omega)
      go_wp2_with fail
      refine (RD.out).mono ?_; rintro e w4 ⟨P, R, rfl, hPR, c1, c2, k1⟩
      have STE := Lib.hid (ST.out w4 k1 P R hPR c1 c2)
      have HU4 := Lib.hid (HU.out.trans (Only.of k1))
      clear hPR c1 c2 k1 y0 RD ST
      go_wp2_with fail
      refine (STE.out).mono ?_; rintro e w5 ⟨rfl, ho5, hb5⟩
      have HR5 := Lib.hid ho5
      have HU5 := Lib.hid (HU4.out.trans hb5)
      clear ho5 hb5
      go_wp2_with fail
      go_roundw
      case rel => exact ⟨t + 1, by omega, by go_num, HR5.out, HU5.out⟩
      case measure => simp [intOf]; omega
    · obtain rfl : n = t := by omega
      obtain ⟨b, hb⟩ : ∃ b : Bool, b = true ↔ AllIn (Mx.row n (Zx.lft a xv n)) (-0) 0 := bool_of _
      obtain ⟨A9, c9, e9, l9⟩ := HR.out.lies
      rw [Mx.len_row] at e9
      have W9 := Lib.hid (hwin_any (some ⟨z, 0, none⟩) _ n zc 0 wr b (by cases e9; exact l9) (Mx.len_row _ _) (by omega) (by omega) hb)
      have FI := Lib.hid (show b = true ↔ Zx.Lat n x xv by
        rw [hb, ← HE.out.lat, ← Zx.lft_iff HN.out]
        constructor
        · intro h j hj
          have := h j (by rw [Mx.len_row]; exact hj)
          rw [Mx.row_at _ _ _ hj] at this
          omega
        · intro h j hj
          rw [Mx.len_row] at hj
          rw [Mx.row_at _ _ _ hj, h j hj]
          omega)
      have HK9 := Lib.hid (show Kp w wr from by
        have hs : w.heap.size ≤ z := Nat.le_trans HK2.out.size HZ.out
        exact Only.below HU.out HK3.out HK3.out.size fun _ _ => hs)
      clear hb e9 l9 ht hlt
      go_wp2_with fail
      refine (W9.out).mono ?_; rintro e w4 ⟨rfl, hk4⟩
      have HK10 := Lib.hid (HK9.out.trans hk4)
      clear hk4
      go_wp2_with fail
      go_ret2
      exact ⟨b, FI.out, rfl, HK10.out⟩
end Go.Proofs.Ytlnehhhlpdaebaa
