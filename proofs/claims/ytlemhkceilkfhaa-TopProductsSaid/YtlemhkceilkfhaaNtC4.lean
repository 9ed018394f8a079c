/- Contracts of package ntt, fourth part: There, Back, Fold. -/
import Derived.Test.YtlemhkceilkfhaaNtC3
namespace Go.Proofs.Ytlemhkceilkfhaa
open Go.ChangeShapes Go.WideShapes Go.ChangeAt Go.RowKit
set_option linter.unusedVariables false

/-- The answer is a row of eight, and no error. -/
def NGives (f : Nat → Nt.G) (w : World) (e : Ending) (w' : World) : Prop :=
  ∃ g, e = .returned (.tuple #[.slice (some ⟨g, 0, none⟩) 8 8, .nilIface]) ∧ Lies w' (some ⟨g, 0, none⟩) (Nt.nt f) ∧ Kp w w'
/-- The answer is an error, and nothing else. -/
def NFails (c : Nat) (w : World) (e : Ending) (w' : World) : Prop := e = .returned (.tuple #[.slice none 0 0, errOf c]) ∧ Kp w w'

theorem nt_allIn (f : Nat → Nt.G) : AllIn (Nt.nt f) 0 256 := fun k hk => Nt.nt_in f k hk
theorem ncode_nt (f : Nat → Nt.G) : ncode (Nt.nt f) = 0 := ncode_ok (Nt.len_nt f) (nt_allIn f)
theorem nt_of_code {l : List Int} (h : ncode l = 0) : ∃ f, l = Nt.nt f := by
  obtain ⟨h1, h2⟩ := ncode_zero h
  exact ⟨_, Nt.nt_of h1 h2⟩
theorem nCheck_ok (A : Option Addr) (f : Nat → Nt.G) (c : Nat) (w : World) (hl : Lies w A (Nt.nt f)) :
    Calls Try.prog 18 #[.slice A 8 c] w fun e w' => e = .returned .nilIface ∧ w = w' := by
  have h := nCheck_any A (Nt.nt f) c w hl
  rw [ncode_nt, Nt.len_nt] at h
  exact h

theorem there_bad (A : Option Addr) (l : List Int) (c : Nat) (w : World) (hl : Lies w A l) (h : ncode l ≠ 0) :
    Calls Try.prog 8 #[.slice A l.length c] w fun e w' => NFails (ncode l) w e w' := by
  have C := Lib.hid (nCheck_any A l c w hl)
  have hs := ncode_some l
  clear hl
  generalize ncode l = x at *
  generalize l.length = n at *
  rcases hs with rfl | rfl | rfl
  · exact absurd rfl h
  · clear h
    go_enter Try.func8, Try.ntmps8
    go_wp2_with fail
    refine (C.out).mono ?_; rintro e w' ⟨rfl, rfl⟩
    rw [show errOf 1 = .iface 46 (.int .i64 1) from rfl]
    go_wp2_with fail
    go_ret2
    exact ⟨rfl, Kp.rfl' _⟩
  · clear h
    go_enter Try.func8, Try.ntmps8
    go_wp2_with fail
    refine (C.out).mono ?_; rintro e w' ⟨rfl, rfl⟩
    rw [show errOf 3 = .iface 46 (.int .i64 3) from rfl]
    go_wp2_with fail
    go_ret2
    exact ⟨rfl, Kp.rfl' _⟩

theorem nback_bad (A : Option Addr) (l : List Int) (c : Nat) (w : World) (hl : Lies w A l) (h : ncode l ≠ 0) :
    Calls Try.prog 9 #[.slice A l.length c] w fun e w' => NFails (ncode l) w e w' := by
  have C := Lib.hid (nCheck_any A l c w hl)
  have hs := ncode_some l
  clear hl
  generalize ncode l = x at *
  generalize l.length = n at *
  rcases hs with rfl | rfl | rfl
  · exact absurd rfl h
  · clear h
    go_enter Try.func9, Try.ntmps9
    go_wp2_with fail
    refine (C.out).mono ?_; rintro e w' ⟨rfl, rfl⟩
    rw [show errOf 1 = .iface 46 (.int .i64 1) from rfl]
    go_wp2_with fail
    go_ret2
    exact ⟨rfl, Kp.rfl' _⟩
  · clear h
    go_enter Try.func9, Try.ntmps9
    go_wp2_with fail
    refine (C.out).mono ?_; rintro e w' ⟨rfl, rfl⟩
    rw [show errOf 3 = .iface 46 (.int .i64 3) from rfl]
    go_wp2_with fail
    go_ret2
    exact ⟨rfl, Kp.rfl' _⟩

set_option maxRecDepth 100000 in
set_option maxHeartbeats 1600000 in
theorem there_ok (A : Option Addr) (f : Nat → Nt.G) (c : Nat) (w : World) (hl : Lies w A (Nt.nt f)) :
    Calls Try.prog 8 #[.slice A 8 c] w fun e w' => NGives (Nt.tr 64 f) w e w' := by
  have C := Lib.hid (nCheck_ok A f c w hl)
  have TRF := Lib.hid (fun wx => transform_any 64 wx)
  rw [show (((64 : Nt.G).val : Nat) : Int) = 64 from rfl] at TRF
  have ROW := Lib.hid (fun (wx : World) (k : Kp w wx) => rowOf_any A (Nt.nt f) c wx (hl.keep k) (Nt.len_nt f))
  have TRN := Lib.hid (fun gp (wx : World) (hp : Arr wx gp (Nt.nt (Nt.pw 64))) => turn_any 64 f gp wx hp)
  clear hl
  generalize ints (Nt.nt f) = L at *
  go_enter Try.func8, Try.ntmps8
  go_wp2_with fail
  refine (C.out).mono ?_; rintro e w' ⟨rfl, rfl⟩
  go_wp2_with fail
  refine (TRF.out _).mono ?_; rintro e w1 ⟨gp, rfl, ap, k1⟩
  have AP := Lib.hid ap
  have K1 := Lib.hid k1
  clear ap k1
  go_wp2_with fail
  refine (ROW.out _ K1.out).mono ?_; rintro e w2 ⟨rfl, k2⟩
  have AP2 := Lib.hid (AP.out.keep k2)
  have K2 := Lib.hid (K1.out.trans k2)
  clear k2
  go_wp2_with fail
  refine (TRN.out gp _ AP2.out).mono ?_; rintro e w3 ⟨rfl, k3⟩
  have K3 := Lib.hid (K2.out.trans k3)
  clear k3
  go_wp2_with (refine wpList_store_arr rfl _ _ rfl _ rfl (Nt.nt (Nt.tr 64 f)) rfl zs8 (Arr.made _ zs8) rfl (Nt.len_nt _) ?_)
  have ha : Arr ((w3.alloc (.cells (ints zs8).toArray 41)).setRow w3.heap.size (ints (Nt.nt (Nt.tr 64 f))).toArray) w3.heap.size (Nt.nt (Nt.tr 64 f)) := (Arr.made w3 zs8).setRow
  have hk : Kp w ((w3.alloc (.cells (ints zs8).toArray 41)).setRow w3.heap.size (ints (Nt.nt (Nt.tr 64 f))).toArray) := kp_setRow (K3.out.new _) K3.out.size _
  go_ret2
  exact ⟨_, rfl, ha.lies, hk⟩

set_option maxRecDepth 100000 in
set_option maxHeartbeats 1600000 in
theorem nback_ok (A : Option Addr) (f : Nat → Nt.G) (c : Nat) (w : World) (hl : Lies w A (Nt.nt f)) :
    Calls Try.prog 9 #[.slice A 8 c] w fun e w' => NGives (Nt.bk f) w e w' := by
  have C := Lib.hid (nCheck_ok A f c w hl)
  have ROW := Lib.hid (fun (wx : World) (k : Kp w wx) => rowOf_any A (Nt.nt f) c wx (hl.keep k) (Nt.len_nt f))
  have BCK := Lib.hid (fun (wx : World) => back_any f wx)
  clear hl
  generalize ints (Nt.nt f) = L at *
  go_enter Try.func9, Try.ntmps9
  go_wp2_with fail
  refine (C.out).mono ?_; rintro e w' ⟨rfl, rfl⟩
  go_wp2_with fail
  refine (ROW.out _ (Kp.rfl' _)).mono ?_; rintro e w2 ⟨rfl, k2⟩
  have K2 := Lib.hid k2
  clear k2
  go_wp2_with fail
  refine (BCK.out _).mono ?_; rintro e w3 ⟨rfl, k3⟩
  have K3 := Lib.hid (K2.out.trans k3)
  clear k3
  go_wp2_with (refine wpList_store_arr rfl _ _ rfl _ rfl (Nt.nt (Nt.bk f)) rfl zs8 (Arr.made _ zs8) rfl (Nt.len_nt _) ?_)
  have ha : Arr ((w3.alloc (.cells (ints zs8).toArray 41)).setRow w3.heap.size (ints (Nt.nt (Nt.bk f))).toArray) w3.heap.size (Nt.nt (Nt.bk f)) := (Arr.made w3 zs8).setRow
  have hk : Kp w ((w3.alloc (.cells (ints zs8).toArray 41)).setRow w3.heap.size (ints (Nt.nt (Nt.bk f))).toArray) := kp_setRow (K3.out.new _) K3.out.size _
  go_ret2
  exact ⟨_, rfl, ha.lies, hk⟩

end Go.Proofs.Ytlemhkceilkfhaa
