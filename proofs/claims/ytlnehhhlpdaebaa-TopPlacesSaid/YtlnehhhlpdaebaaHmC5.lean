/- Contracts of package hermite, fifth part: what is wrong with rows, Check, Form, Same, Has. -/
import Derived.Test.YtlnehhhlpdaebaaHmC4
import Derived.Test.YtlnehhhlpdaebaaSeq
namespace Go.Proofs.Ytlnehhhlpdaebaa
open Go.ChangeShapes Go.WideShapes Go.ChangeAt Go.RowKit
set_option linter.unusedVariables false

/-- What is wrong with rows of whole numbers. -/
def hcd (m : List (List Int)) : Nat := if qcode 3 (-20) 20 m ≠ 0 then qcode 3 (-20) 20 m else if Zx.dt m.length (fun i j => (m.getD i []).getD j 0) = 0 then 6 else 0
theorem hcd_le (m : List (List Int)) : hcd m ≤ 6 := by
  unfold hcd
  have := qcode_le 3 (-20) 20 m
  split
  · omega
  · split <;> omega
theorem Shh.hcd {n : Nat} {x : Nat → Nat → Int} {m : List (List Int)} (h : Shh n x m) : Go.Proofs.Ytlnehhhlpdaebaa.hcd m = if Zx.dt n x = 0 then 6 else 0 := by
  have c := h.code
  have e : Zx.dt m.length (fun i j => (m.getD i []).getD j 0) = Zx.dt n x := by
    rw [h.len, h.eq]
    exact Zx.dt_congr n fun i j hi hj => Mx.tab_el n n x i j hi hj
  unfold Go.Proofs.Ytlnehhhlpdaebaa.hcd
  rw [if_neg (fun h' => h' c), e]
/-- Rows that have a form. -/
structure Hm (n : Nat) (x : Nat → Nat → Int) (m : List (List Int)) : Prop where
  sh : Shh n x m
  ne : Zx.dt n x ≠ 0
theorem Hm.code {n : Nat} {x : Nat → Nat → Int} {m : List (List Int)} (h : Hm n x m) : hcd m = 0 := by rw [h.sh.hcd, if_neg h.ne]
theorem hm_or (m : List (List Int)) {n : Nat} (hn : m.length = n) : (∃ x, Hm n x m) ∨ hcd m ≠ 0 := by
  rcases shh_or m hn with ⟨x, s⟩ | h
  · by_cases d : Zx.dt n x = 0
    · right; rw [s.hcd, if_pos d]; decide
    · exact .inl ⟨x, s, d⟩
  · right
    unfold hcd
    rw [if_pos h]; exact h
theorem Form_no (A : Option Addr) (m : List (List Int)) (n d : Nat) (w : World) (ha : LiesM w A m) (hn : m.length = n) (h : hcd m ≠ 0) :
    Calls Try.prog 36 #[.slice A n d] w fun e w' => e = .returned (.tuple #[.slice none 0 0, errOf (hcd m)]) ∧ Kp w w' := by
  by_cases hq : qcode 3 (-20) 20 m = 0
  · rcases shh_or m hn with ⟨x, s⟩ | h'
    · have hd : Zx.dt n x = 0 := Classical.byContradiction fun e => h (by rw [s.hcd, if_neg e])
      rw [s.hcd, if_pos hd]
      exact (Form_main A m x n d w s ha).mono fun e w' hq => by
        rcases hq with ⟨_, h1, h2⟩ | ⟨g, cap, G, C, a, h1, h2, _⟩
        · exact ⟨h1, h2⟩
        · exact absurd hd (h1.ne h2)
    · exact absurd hq h'
  · rw [show hcd m = qcode 3 (-20) 20 m by unfold hcd; rw [if_pos hq]]
    exact Form_bad A m n d w ha hn hq
/-- The form of rows, in memory of the call's own. -/
def GotH (n : Nat) (x : Nat → Nat → Int) (w : World) (e : Ending) (w' : World) : Prop :=
  ∃ g cap G C a, Zx.Hnf n a ∧ Zx.Eql n a x ∧ (∀ i j, i < n → j < n → 0 ≤ a i j ∧ a i j ≤ 48000) ∧ e = .returned (.tuple #[.slice (some ⟨g, 0, none⟩) n cap, .nilIface]) ∧ OwnM w' w.heap.size (.slice (some ⟨g, 0, none⟩) n cap) G C (Mx.tab n n a) ∧ n ≤ cap ∧ Kp w w'
theorem Form_ok {n : Nat} {x : Nat → Nat → Int} {m : List (List Int)} (s : Hm n x m) (A : Option Addr) (d : Nat) (w : World) (ha : LiesM w A m) :
    Calls Try.prog 36 #[.slice A n d] w fun e w' => GotH n x w e w' :=
  (Form_main A m x n d w s.sh ha).mono fun e w' hq => by
    rcases hq with ⟨h1, _⟩ | ⟨g, cap, G, C, a, h1, h2, h3, h4, h5, h6⟩
    · exact absurd h1 s.ne
    · exact ⟨g, cap, G, C, a, h1, h2, fun i j hi hj => h1.le h2 (Zx.dt_twenty s.sh.n3 s.sh.small) hi hj, h3, h4, h5, h6⟩

theorem HCheck_any (A : Option Addr) (m : List (List Int)) (n d : Nat) (w : World) (ha : LiesM w A m) (hn : m.length = n) :
    Calls Try.prog 51 #[.slice A n d] w fun e w' => e = .returned (errOf (hcd m)) ∧ Kp w w' := by
  rcases hm_or m hn with ⟨x, s⟩ | h
  · rw [s.code, errOf_zero]
    have C := Lib.hid (Form_ok s A d w ha)
    clear ha hn s
    go_enter Try.func51, Try.ntmps51
    go_wp2_with fail
    refine (C.out).mono ?_; rintro e w' ⟨g, cap, G, C, a, _, _, _, rfl, _, _, hk⟩
    have HK := Lib.hid hk
    clear hk
    go_wp2_with fail
    go_ret
    exact ⟨rfl, HK.out⟩
  · have C := Lib.hid (Form_no A m n d w ha hn h)
    generalize errOf (hcd m) = z at *
    clear ha hn h
    go_enter Try.func51, Try.ntmps51
    go_wp2_with fail
    refine (C.out).mono ?_; rintro e w' ⟨rfl, hk⟩
    have HK := Lib.hid hk
    clear hk
    go_wp2_with fail
    go_ret
    exact ⟨rfl, HK.out⟩

theorem tab_eq {n : Nat} {a b : Nat → Nat → Int} : Mx.tab n n a = Mx.tab n n b ↔ Zx.Eqm n n a b := by
  constructor
  · intro h i j hi hj
    rw [← Mx.tab_el n n a i j hi hj, h, Mx.tab_el n n b i j hi hj]
  · exact fun h => Mx.tab_ext h
def GotSame (P : Prop) (w : World) (e : Ending) (w' : World) : Prop := ∃ b : Bool, (b = true ↔ P) ∧ e = .returned (.tuple #[.bool b, .nilIface]) ∧ Kp w w'
end Go.Proofs.Ytlnehhhlpdaebaa
