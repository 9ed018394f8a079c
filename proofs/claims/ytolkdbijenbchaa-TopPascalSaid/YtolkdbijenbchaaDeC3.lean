/- Contracts of package det, third part: Check, Of. -/
import Derived.Test.YtolkdbijenbchaaDeC2
namespace Go.Proofs.Ytolkdbijenbchaa
open Go.ChangeShapes Go.WideShapes Go.ChangeAt Go.RowKit
set_option linter.unusedVariables false

set_option maxRecDepth 100000 in
set_option maxHeartbeats 1600000 in
theorem DChk_any (A : Option Addr) (m : List (List Int)) (n d : Nat) (w : World) (ha : LiesM w A m) (hn : m.length = n) :
    Calls Try.prog 17 #[.slice A n d] w fun e w' => e = .returned (errOf (qcode 5 0 9972 m)) ∧ w = w' := by
  have CK := Lib.hid (Check_any A m n d w ha hn)
  by_cases h0 : Mx.mcode 5 0 9972 m = 0
  · have h0n : 0 < m.length := by
      rcases Nat.eq_zero_or_pos m.length with h | h
      · exfalso; unfold Mx.mcode at h0; rw [if_pos (.inl h)] at h0; cases h0
      · exact h
    obtain ⟨ad, A0, d0, rfl, hl0, hc0, _, _⟩ := ha 0 h0n
    rw [add_zero'] at hc0
    have EV := Lib.hid (show qcode 5 0 9972 m = if n ≠ (m.getD 0 []).length then 3 else 0 by
      unfold qcode
      rw [h0, hn]
      by_cases h : n ≠ (m.getD 0 []).length
      · rw [if_pos ⟨rfl, h⟩, if_pos h]
      · rw [if_neg (fun h' => h h'.2), if_neg h])
    rw [h0, errOf_zero] at CK
    have hn0 : 0 < n := by omega
    generalize (m.getD 0 []).length = q at *
    generalize qcode 5 0 9972 m = z at *
    clear ha h0 hn h0n
    by_cases hq : n = q
    · subst hq
      obtain rfl : z = 0 := by rw [EV.out, if_neg (fun h => h rfl)]
      rw [errOf_zero]
      have e1 : ((n : Int) != (n : Int)) = false := by simp
      clear EV
      go_enter Try.func17, Try.ntmps17
      go_wp2_with fail
      refine (CK.out).mono ?_; rintro e w' ⟨rfl, rfl⟩
      go_wp2_with fail
      go_ret
      exact ⟨rfl, rfl⟩
    · obtain rfl : z = 3 := by rw [EV.out, if_pos hq]
      rw [errOf_ne 3 (by omega)]
      have e1 : ((n : Int) != (q : Int)) = true := by rw [bne_iff_ne]; omega
      clear EV hq
      go_enter Try.func17, Try.ntmps17
      go_wp2_with fail
      refine (CK.out).mono ?_; rintro e w' ⟨rfl, rfl⟩
      go_wp2_with fail
      go_ret
      exact ⟨rfl, rfl⟩
  · rw [qcode_bad h0]
    rw [errOf_ne _ h0] at CK ⊢
    generalize Mx.mcode 5 0 9972 m = z at *
    clear ha hn h0
    go_enter Try.func17, Try.ntmps17
    go_wp2_with fail
    refine (CK.out).mono ?_; rintro e w' ⟨rfl, rfl⟩
    go_wp2_with fail
    go_ret
    exact ⟨rfl, rfl⟩

set_option maxRecDepth 100000 in
set_option maxHeartbeats 1600000 in
theorem Of_bad (A : Option Addr) (m : List (List Int)) (n d : Nat) (w : World) (ha : LiesM w A m) (hn : m.length = n) (h : qcode 5 0 9972 m ≠ 0) :
    Calls Try.prog 12 #[.slice A n d] w fun e w' => e = .returned (.tuple #[.int .i64 0, errOf (qcode 5 0 9972 m)]) ∧ Kp w w' := by
  have CK := Lib.hid (fun w (ha : LiesM w A m) => DChk_any A m n d w ha hn)
  rw [errOf_ne _ h] at CK ⊢
  have HA := Lib.hid ha
  generalize qcode 5 0 9972 m = z at *
  clear ha hn h
  go_enter Try.func12, Try.ntmps12
  go_wp2_with fail
  refine (CK.out _ (HA.out.keep ((Kp.rfl' w).new _))).mono ?_; rintro e w' ⟨rfl, rfl⟩
  go_wp2_with fail
  go_ret2
  exact ⟨rfl, (Kp.rfl' w).new _⟩

theorem orders_top (w0 : World) (gm gs g n d : Nat) (A : Option Addr) (f : Nat → Nat → Fp.F) (w : World) (ha : LiesM w0 A (Mx.matl n n f)) (hn : n ≤ 5) (h : Vis w0 w gm gs g n d A (fun i => i) 0) :
    Calls Try.prog 18 #[.slice (some ⟨g, 0, none⟩) n n, .int .i64 0, .func (.func 20) #[] #[.pointer (some ⟨gm, 0, none⟩), .pointer (some ⟨gs, 0, none⟩)]] w fun e w' =>
      VisEnd w0 gm gs g n d A (fun i => i) 0 (Mx.dt n f) 100000000 e w' := by
  have h1 := orders_any w0 gm gs g n d A f ha hn n 0 (by omega) (fun i => i) 0 0 w (fun i hi => hi) h (by omega) (by omega) (by have := Mx.lv_le hn; omega)
  rw [Mx.part_zero (n := n) f (s := fun i => i) fun j _ => rfl] at h1
  refine h1.mono ?_
  rintro e w' ⟨he, z, hv, hz, h2, h3⟩
  have := Mx.lv_le hn
  exact ⟨he, z, hv, hz, by omega, by omega⟩
theorem vis_made {w w2 : World} {n d : Nat} {T U : TypeId} (A : Option Addr)
    (hr : Row w2 ((w.alloc (.cells #[.slice A n d] T)).alloc (.cells #[.int .i64 0] U)).heap.size (Mx.row n fun i => (i : Int)))
    (hk : Kp ((w.alloc (.cells #[.slice A n d] T)).alloc (.cells #[.int .i64 0] U)) w2) : Vis w w2 w.heap.size (w.heap.size + 1) (w.heap.size + 2) n d A (fun i => i) 0 := by
  have e1 : (w.alloc (.cells #[.slice A n d] T)).heap.size = w.heap.size + 1 := by simp
  have e2 : ((w.alloc (.cells #[.slice A n d] T)).alloc (.cells #[.int .i64 0] U)).heap.size = w.heap.size + 2 := by simp
  have c1 : (w.alloc (.cells #[.slice A n d] T)).cell? ⟨w.heap.size, 0, none⟩ = some (.slice A n d) := (cell_made w #[.slice A n d] T w.heap.size 0 rfl).trans rfl
  have c2 : ((w.alloc (.cells #[.slice A n d] T)).alloc (.cells #[.int .i64 0] U)).cell? ⟨w.heap.size + 1, 0, none⟩ = some (.int .i64 0) := (cell_made (w.alloc (.cells #[.slice A n d] T)) #[.int .i64 0] U (w.heap.size + 1) 0 e1.symm).trans rfl
  have c3 : ((w.alloc (.cells #[.slice A n d] T)).alloc (.cells #[.int .i64 0] U)).cell? ⟨w.heap.size, 0, none⟩ = some (.slice A n d) :=
    (((Kp.rfl' (w.alloc (.cells #[.slice A n d] T))).new _).cell (p := ⟨w.heap.size, 0, none⟩) (by rw [e1]; exact Nat.lt_succ_self _)).trans c1
  have z2 : ((w.alloc (.cells #[.slice A n d] T)).alloc (.cells #[.int .i64 0] U)).frozen? ⟨w.heap.size + 1, 0, none⟩ = false := by simp
  rw [e2] at hr
  exact ⟨(hk.cell (p := ⟨w.heap.size, 0, none⟩) (cell_lt c3)).trans c3, (hk.cell (p := ⟨w.heap.size + 1, 0, none⟩) (cell_lt c2)).trans c2, (hk.frozen (p := ⟨w.heap.size + 1, 0, none⟩) (cell_lt c2)).trans z2, hr,
    (((Kp.rfl' w).new _).new _).trans hk, by omega, by omega, by omega, by omega, by omega⟩

set_option maxRecDepth 100000 in
set_option maxHeartbeats 1600000 in
theorem Of_ok (A : Option Addr) (f : Nat → Nat → Fp.F) (n d : Nat) (w : World) (ha : LiesM w A (Mx.matl n n f)) (h0 : 0 < n) (hn : n ≤ 5) :
    Calls Try.prog 12 #[.slice A n d] w fun e w' => e = .returned (.tuple #[.int .i64 ((Mx.dt n f).val : Int), .nilIface]) ∧ Kp w w' := by
  have CK := Lib.hid (fun w (ha : LiesM w A (Mx.matl n n f)) => DChk_any A (Mx.matl n n f) n d w ha (Mx.len_matl _ _ _))
  rw [qcode_matl f h0 hn, errOf_zero] at CK
  have HA := Lib.hid ha
  have AS := Lib.hid (fun w => ascending_any n w (by omega))
  have OR := Lib.hid (fun gm gs g w1 h => orders_top w gm gs g n d A f w1 ha hn h)
  generalize Mx.dt n f = dd at *
  clear ha
  go_enter Try.func12, Try.ntmps12
  go_wp2_with fail
  refine (CK.out _ (HA.out.keep ((Kp.rfl' w).new _))).mono ?_; rintro e w' ⟨rfl, rfl⟩
  go_wp2_with fail
  refine (AS.out _).mono ?_; rintro e w2 ⟨rfl, hr, hk⟩
  have VS := Lib.hid (vis_made (n := n) (d := d) A hr hk)
  clear hr hk
  go_wp2_with fail
  refine (OR.out _ _ _ _ VS.out).mono ?_; rintro e w3 ⟨rfl, z, hv, hz, hz1, hz2⟩
  have y1 := hv.sb
  have HK := Lib.hid hv.kp
  have hzb : -100000000 ≤ z ∧ z ≤ 100000000 := by omega
  have HR := Lib.hid (Mx.fit z)
  rw [hz, show Fp.ofInt 0 + dd = dd by rw [show Fp.ofInt 0 = 0 from rfl]; grind] at HR
  have hb := Mx.tmod_bound z
  have hwa : IntKind.i64.wrap (z.tmod 9973 + 9973) = z.tmod 9973 + 9973 := IntWalk.i64_in _ (by omega)
  clear hv hz hz1 hz2 hb
  go_wp2_with fail
  go_ret2
  refine ⟨?_, HK.out⟩
  show Ending.returned (.tuple #[.int .i64 ((z.tmod 9973 + 9973).tmod 9973), .nilIface]) = _
  rw [HR.out]

end Go.Proofs.Ytolkdbijenbchaa
