/- Contracts of package rankmeresame on lists (Turned), and of rankmereref1.in and All. -/
import Derived.Test.YtapcnlbcookldaaOwn
import Derived.Test.YtapcnlbcookldaaSmall
namespace Go.Proofs.Ytapcnlbcookldaa
open Go.ChangeShapes Go.WideShapes Go.ChangeAt Go.RowKit
set_option linter.unusedVariables false

/-- An answer true or false, as P says. -/
def Tells (P : Prop) (e : Ending) : Prop := (P ∧ e = .returned (.bool true)) ∨ (¬ P ∧ e = .returned (.bool false))
theorem tells_yes {P : Prop} {e : Ending} (h : Tells P e) (hp : P) : e = .returned (.bool true) := by rcases h with ⟨_, h⟩ | ⟨h, _⟩ <;> first | exact h | exact absurd hp h

theorem list_same (l m : List Int) (h : l.length = m.length) (h2 : ∀ k, k < l.length → l.getD k 0 = m.getD k 0) : l = m := by
  refine List.ext_getElem h fun k h3 h4 => ?_
  have := h2 k h3
  rwa [List.getD_eq_getElem?_getD, List.getD_eq_getElem?_getD, List.getElem?_eq_getElem h3, List.getElem?_eq_getElem h4] at this

theorem turn_step (l : List Int) (n j : Nat) (hn : n = l.length) (h : j + 1 ≤ n) : l.reverse.take (n - j) = l.reverse.take (n - (j + 1)) ++ [l.getD j 0] := by
  subst hn
  have e : l.length - j = (l.length - (j + 1)) + 1 := by omega
  rw [e, List.take_succ_eq_append_getElem (by simp; omega)]
  congr 2
  rw [List.getElem_reverse]
  simp [List.getD_eq_getElem?_getD]
  have e2 : l.length - 1 - (l.length - (j + 1)) = j := by omega
  rw [List.getElem?_eq_getElem (by omega)]
  simp [e2]

/-- What Turned answers: a new slice that holds the list the other way round. -/
def SomeOwn (B : Nat) (l : List Int) (w : World) (e : Ending) (w' : World) : Prop := ∃ v, e = .returned v ∧ Own w' B v l ∧ Kp w w'

set_option maxHeartbeats 800000 in
theorem turned_any (A : Option Addr) (l : List Int) (c : Nat) (w : World) (hl : Lies w A l) (hn : l.length ≤ 1000000) :
    Calls Try.prog 10 #[.slice A l.length c] w fun e w' => SomeOwn w.heap.size l.reverse w e w' := by
  have HL := Lib.hid hl
  obtain ⟨n, hn'⟩ : ∃ n, n = l.length := ⟨_, rfl⟩
  rw [← hn'] at hn ⊢
  have HN := Lib.hid hn'
  clear hl hn'
  go_enter Try.func10, Try.ntmps10
  go_wp2_with fail
  go_loopw [3, 4] (fun v i wr => ∃ j : Nat, j ≤ n ∧ i = .int .i64 ((j : Int) - 1) ∧ Own wr w.heap.size v (l.reverse.take (n - j)) ∧ Kp w wr) (fun _ i _ => (intOf i + 1).toNat)
  case atStart => exact ⟨n, Nat.le_refl _, rfl, by rw [Nat.sub_self]; exact Own.none _ _, Kp.rfl' _⟩
  case round =>
    obtain ⟨j, hk, rfl, hown, hkp⟩ := hrel
    have HO := Lib.hid hown
    have HK := Lib.hid hkp
    clear hown hkp
    cases j with
    | succ j =>
      obtain ⟨ad, rfl, _, hc⟩ := (HL.out.keep HK.out) j (by have := HN.out; omega)
      have ei : ((j + 1 : Nat) : Int) - 1 = (j : Int) := by omega
      rw [ei]
      have HS := Lib.hid (turn_step l n j HN.out hk)
      obtain ⟨m, hm⟩ : ∃ m, m = l.getD j 0 := ⟨_, rfl⟩
      rw [← hm] at hc HS
      have hsz := HK.out.size
      have hlen : (l.reverse.take (n - (j + 1))).length + 1 ≤ 17000000000000 := by rw [List.length_take]; omega
      clear hm ei
      go_wp2_with (at_builtin; refine wpList_push rfl _ _ rfl w.heap.size _ (l.reverse.take (n - (j + 1))) m wr.heap.size 1 rfl rfl (HO.out.new _) (by simp) hlen (by simp; omega) ?_; intro v' w' h1 h2 _)
      have HO' := Lib.hid (show Own w' w.heap.size v' (l.reverse.take (n - j)) by rw [HS.out]; exact h1)
      have HK' := Lib.hid (own_below (HO.out.new _) (HK.out.new _) (Nat.le_trans hsz (by simp)) h2)
      clear h1 h2
      go_wp2_with fail
      go_roundw
      case rel => exact ⟨j, by omega, by go_num, HO'.out, HK'.out⟩
      case measure => simp [intOf]
    | zero =>
      have ei : ((0 : Nat) : Int) - 1 = -1 := by decide
      rw [ei]
      go_wp2_with fail
      go_ret
      refine ⟨_, rfl, ?_, HK.out⟩
      have h := HO.out
      rw [Nat.sub_zero, List.take_of_length_le (by rw [List.length_reverse, HN.out]; omega)] at h
      exact h





end Go.Proofs.Ytapcnlbcookldaa
