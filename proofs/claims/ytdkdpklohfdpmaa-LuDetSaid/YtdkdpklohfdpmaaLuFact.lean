/- What lu says of whatever comes in; its closed fact. -/
import Derived.Test.YtdkdpklohfdpmaaLuC4
import Derived.Test.YtdkdpklohfdpmaaDeFact
namespace Go.Proofs.Ytdkdpklohfdpmaa
open Go.ChangeShapes Go.WideShapes Go.ChangeAt Go.RowKit
set_option linter.unusedVariables false

theorem Split_or (A : Option Addr) (m : List (List Int)) (n d : Nat) (hn : m.length = n) :
    (∃ f, Sh n n f m) ∨ ∀ (w : World), LiesM w A m → Calls Try.prog 6 #[.slice A n d] w fun e w' => ∃ z : Nat, e = .returned (.tuple #[.slice none 0 0, .slice none 0 0, .slice none 0 0, .iface 46 (.int .i64 (z : Int))]) ∧ Kp w w' := by
  rcases sq_or m hn with h | h
  · exact .inl h
  · exact .inr fun w ha => ((Split_bad A m n d w ha hn h).mono fun e w' h' => ⟨qcode 5 0 9972 m, by rw [h'.1, errOf_ne _ h], h'.2⟩)
theorem Split_sh {A : Option Addr} {m : List (List Int)} {n : Nat} {f : Nat → Nat → Fp.F} (s : Sh n n f m) (d : Nat) (w : World) (ha : LiesM w A m) :
    Calls Try.prog 6 #[.slice A n d] w fun e w' => GotSplit n f w e w' := by
  rw [s.eq] at ha
  exact Split_ok A f n d w ha s.r0 s.r5

def flu : Nat → Nat → Fp.F := f22 0 1 2 4
theorem flu_mat : Mx.tab 2 2 (n22 0 1 2 4) = Mx.matl 2 2 flu := by decide +kernel
/-- As clr, with what undoes the pivot given. -/
def clrx (t : Mx.Tri) (c d : Nat) (x : Fp.F) : Mx.Tri :=
  ⟨t.s, fun i j => if c < i ∧ i < d ∧ j = c then t.u i c * x else t.l i j, fun i j => if c < i ∧ i < d then t.u i j - t.u i c * x * t.u c j else t.u i j⟩
def tlu1 : Mx.Tri := clrx ((Mx.tri0 flu).swp 0 1) 0 2 4987
def tlu : Mx.Tri := clrx (tlu1.swp 1 1) 1 2 1
theorem tlu1_is : tlu1 = (Mx.tri0 flu).step 2 0 1 := by
  have e : Fp.inv (((Mx.tri0 flu).swp 0 1).u 0 0) = 4987 := (inv_unique (by decide +kernel) (by decide +kernel)).symm
  show clrx ((Mx.tri0 flu).swp 0 1) 0 2 4987 = clrx ((Mx.tri0 flu).swp 0 1) 0 2 (Fp.inv (((Mx.tri0 flu).swp 0 1).u 0 0))
  rw [e]
theorem tlu_is : tlu = tlu1.step 2 1 1 := by
  have e : Fp.inv ((tlu1.swp 1 1).u 1 1) = 1 := (inv_unique (by decide +kernel) (by decide +kernel)).symm
  show clrx (tlu1.swp 1 1) 1 2 1 = clrx (tlu1.swp 1 1) 1 2 (Fp.inv ((tlu1.swp 1 1).u 1 1))
  rw [e]
theorem tlu_to : Mx.LuTo 2 flu 2 tlu := by
  refine ⟨tlu1, ⟨Mx.tri0 flu, rfl, .inr ⟨1, by decide, ⟨by decide, by decide, fun t h1 h2 => ?_, fun _ => by decide +kernel⟩, tlu1_is⟩⟩, .inr ⟨1, by decide, ⟨by decide, by decide, fun t h1 h2 => absurd (Nat.lt_of_le_of_lt h1 h2) (Nat.lt_irrefl _), fun _ => by decide +kernel⟩, tlu_is⟩⟩
  have : t = 0 := by omega
  subst this; decide +kernel
theorem tlu_low : Mx.matl 2 2 tlu.low = Mx.tab 2 2 (n22 1 0 0 1) := by decide +kernel
theorem tlu_up : Mx.matl 2 2 tlu.u = Mx.tab 2 2 (n22 2 4 0 1) := by decide +kernel
theorem tlu_s : Mx.row 2 (fun i => (tlu.s i : Int)) = [1, 0] := by decide +kernel

set_option maxRecDepth 100000 in
set_option maxHeartbeats 1600000 in
theorem luFact_any (w : World) : Calls Try.prog 5 #[] w fun e w' => e = .returned (.bool true) ∧ Kp w w' := by
  have A1 : LiesM (lit22 w w.heap.size 0 1 2 4) (some ⟨w.heap.size + 1 + 1, 0, none⟩) (Mx.matl 2 2 flu) := by
    rw [← flu_mat]; exact lit22_lies w _ 0 1 2 4 rfl
  have A1 := Lib.hid A1
  go_enter Try.func5, Try.ntmps5
  go_wp2_with fail
  refine (Split_ok (some ⟨w.heap.size + 1 + 1, 0, none⟩) flu 2 2 (lit22 w w.heap.size 0 1 2 4) A1.out (by decide) (by decide)).mono ?_
  rintro e w1 ⟨t, Ao, d1, Al, d2, Au, d3, ht, rfl, l1, l2, l3, k1⟩
  obtain rfl := ht.one tlu_to
  rw [tlu_s] at l1
  rw [tlu_low] at l2
  rw [tlu_up] at l3
  have L1 := Lib.hid l1
  have L2 := Lib.hid l2
  have L3 := Lib.hid l3
  have K1 := Lib.hid ((lit22_kp w w.heap.size 0 1 2 4).trans k1)
  clear l1 l2 l3 k1 ht
  go_wp2_with fail
  refine (same_eq Ao (some ⟨w1.heap.size, 0, none⟩) [1, 0] [1, 0] 2 2 d1 2 _ (L1.out.keep ((Kp.rfl' _).new _)) (lies_new w1 _ [1, 0]) rfl rfl (by decide) rfl).mono ?_
  rintro e w2 ⟨rfl, k2⟩
  have K2 := Lib.hid (((Kp.rfl' w1).new _).trans k2)
  clear k2
  go_wp2_with fail
  refine (rows_eq Al (some ⟨w2.heap.size + 1 + 1, 0, none⟩) (Mx.tab 2 2 (n22 1 0 0 1)) (Mx.tab 2 2 (n22 1 0 0 1)) 2 2 d2 2 (lit22 w2 w2.heap.size 1 0 0 1) ((L2.out.keep K2.out).keep (lit22_kp _ _ _ _ _ _)) (lit22_lies _ _ _ _ _ _ rfl) (Mx.len_tab _ _ _) (Mx.len_tab _ _ _) (modest_tab _ (by decide) (by decide)) (modest_tab _ (by decide) (by decide)) rfl).mono ?_
  rintro e w3 ⟨rfl, k3⟩
  have K3 := Lib.hid (K2.out.trans ((lit22_kp w2 w2.heap.size 1 0 0 1).trans k3))
  clear k3
  go_wp2_with fail
  refine (rows_eq Au (some ⟨w3.heap.size + 1 + 1, 0, none⟩) (Mx.tab 2 2 (n22 2 4 0 1)) (Mx.tab 2 2 (n22 2 4 0 1)) 2 2 d3 2 (lit22 w3 w3.heap.size 2 4 0 1) ((L3.out.keep K3.out).keep (lit22_kp _ _ _ _ _ _)) (lit22_lies _ _ _ _ _ _ rfl) (Mx.len_tab _ _ _) (Mx.len_tab _ _ _) (modest_tab _ (by decide) (by decide)) (modest_tab _ (by decide) (by decide)) rfl).mono ?_
  rintro e w4 ⟨rfl, k4⟩
  have K4 := Lib.hid (K1.out.trans (K3.out.trans ((lit22_kp w3 w3.heap.size 2 4 0 1).trans k4)))
  clear k4
  go_wp2_with fail
  go_ret
  exact ⟨rfl, K4.out⟩

end Go.Proofs.Ytdkdpklohfdpmaa
