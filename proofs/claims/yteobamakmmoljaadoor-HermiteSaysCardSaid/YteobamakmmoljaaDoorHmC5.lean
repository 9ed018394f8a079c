/- Contracts of package hermite, fifth part: what is wrong with rows, Check, Form, Same, Has. -/
import Derived.Test.YteobamakmmoljaaDoorHmC4
import Derived.Test.YteobamakmmoljaaDoorSeq
namespace Go.Proofs.YteobamakmmoljaaDoor
open Go.ChangeShapes Go.WideShapes Go.ChangeAt Go.RowKit
set_option linter.unusedVariables false

/-- What is wrong with rows of whole numbers. -/
def hcd (m : List (List Int)) : Nat := if qcode 3 (-20) 20 m ≠ 0 then qcode 3 (-20) 20 m else if Zx.dt m.length (fun i j => (m.getD i []).getD j 0) = 0 then 6 else 0
theorem hcd_le (m : List (List Int)) : hcd m ≤ 6 := by
  unfold hcd
  have := qcode_le 3 (-20) 20 m
  split
  · omega
  · split <;> omega
theorem Shh.hcd {n : Nat} {x : Nat → Nat → Int} {m : List (List Int)} (h : Shh n x m) : Go.Proofs.YteobamakmmoljaaDoor.hcd m = if Zx.dt n x = 0 then 6 else 0 := by
  have c := h.code
  have e : Zx.dt m.length (fun i j => (m.getD i []).getD j 0) = Zx.dt n x := by
    rw [h.len, h.eq]
    exact Zx.dt_congr n fun i j hi hj => Mx.tab_el n n x i j hi hj
  unfold Go.Proofs.YteobamakmmoljaaDoor.hcd
  rw [if_neg (fun h' => h' c), e]
/-- Rows that have a form. -/
structure Hm (n : Nat) (x : Nat → Nat → Int) (m : List (List Int)) : Prop where
  sh : Shh n x m
  ne : Zx.dt n x ≠ 0
theorem Hm.code {n : Nat} {x : Nat → Nat → Int} {m : List (List Int)} (h : Hm n x m) : hcd m = 0 := by rw [h.sh.hcd, if_neg h.ne]
theorem hm_or (m : List (List Int)) {n : Nat} (hn : m.length = n) : (∃ x, Hm n x m) ∨ hcd m ≠ 0 := by
  rcases shh_or m hn with ⟨x, s⟩ | h
  · by_cases d : Zx.dt n x = 0
    · right; rw [s.hcd, if_pos d]; decide
    · exact .inl ⟨x, s, d⟩
  · right
    unfold hcd
    rw [if_pos h]; exact h
theorem Form_no (A : Option Addr) (m : List (List Int)) (n d : Nat) (w : World) (ha : LiesM w A m) (hn : m.length = n) (h : hcd m ≠ 0) :
    Calls Tryd.prog 8 #[.slice A n d] w fun e w' => e = .returned (.tuple #[.slice none 0 0, errOf (hcd m)]) ∧ Kp w w' := by
  by_cases hq : qcode 3 (-20) 20 m = 0
  · rcases shh_or m hn with ⟨x, s⟩ | h'
    · have hd : Zx.dt n x = 0 := Classical.byContradiction fun e => h (by rw [s.hcd, if_neg e])
      rw [s.hcd, if_pos hd]
      exact (Form_main A m x n d w s ha).mono fun e w' hq => by
        rcases hq with ⟨_, h1, h2⟩ | ⟨g, cap, G, C, a, h1, h2, _⟩
        · exact ⟨h1, h2⟩
        · exact absurd hd (h1.ne h2)
    · exact absurd hq h'
  · rw [show hcd m = qcode 3 (-20) 20 m by unfold hcd; rw [if_pos hq]]
    exact Form_bad A m n d w ha hn hq
/-- The form of rows, in memory of the call's own. -/
def GotH (n : Nat) (x : Nat → Nat → Int) (w : World) (e : Ending) (w' : World) : Prop :=
  ∃ g cap G C a, Zx.Hnf n a ∧ Zx.Eql n a x ∧ (∀ i j, i < n → j < n → 0 ≤ a i j ∧ a i j ≤ 48000) ∧ e = .returned (.tuple #[.slice (some ⟨g, 0, none⟩) n cap, .nilIface]) ∧ OwnM w' w.heap.size (.slice (some ⟨g, 0, none⟩) n cap) G C (Mx.tab n n a) ∧ n ≤ cap ∧ Kp w w'
theorem Form_ok {n : Nat} {x : Nat → Nat → Int} {m : List (List Int)} (s : Hm n x m) (A : Option Addr) (d : Nat) (w : World) (ha : LiesM w A m) :
    Calls Tryd.prog 8 #[.slice A n d] w fun e w' => GotH n x w e w' :=
  (Form_main A m x n d w s.sh ha).mono fun e w' hq => by
    rcases hq with ⟨h1, _⟩ | ⟨g, cap, G, C, a, h1, h2, h3, h4, h5, h6⟩
    · exact absurd h1 s.ne
    · exact ⟨g, cap, G, C, a, h1, h2, fun i j hi hj => h1.le h2 (Zx.dt_twenty s.sh.n3 s.sh.small) hi hj, h3, h4, h5, h6⟩

theorem HCheck_any (A : Option Addr) (m : List (List Int)) (n d : Nat) (w : World) (ha : LiesM w A m) (hn : m.length = n) :
    Calls Tryd.prog 6 #[.slice A n d] w fun e w' => e = .returned (errOf (hcd m)) ∧ Kp w w' := by
  rcases hm_or m hn with ⟨x, s⟩ | h
  · rw [s.code, errOf_zero]
    have C := Lib.hid (Form_ok s A d w ha)
    clear ha hn s
    go_enter Tryd.func6, Tryd.ntmps6
    go_wp2_with fail
    refine (C.out).mono ?_; rintro e w' ⟨g, cap, G, C, a, _, _, _, rfl, _, _, hk⟩
    have HK := Lib.hid hk
    clear hk
    go_wp2_with fail
    go_ret
    exact ⟨rfl, HK.out⟩
  · have C := Lib.hid (Form_no A m n d w ha hn h)
    generalize errOf (hcd m) = z at *
    clear ha hn h
    go_enter Tryd.func6, Tryd.ntmps6
    go_wp2_with fail
    refine (C.out).mono ?_; rintro e w' ⟨rfl, hk⟩
    have HK := Lib.hid hk
    clear hk
    go_wp2_with fail
    go_ret
    exact ⟨rfl, HK.out⟩

theorem Same_no (A B : Option Addr) (m l : List (List Int)) (n p c d : Nat) (w : World) (ha : LiesM w A m) (hn : m.length = n) (h : hcd m ≠ 0) :
    Calls Tryd.prog 11 #[.slice A n c, .slice B p d] w fun e w' => e = .returned (.tuple #[.bool false, errOf (hcd m)]) ∧ Kp w w' := by
  have C := Lib.hid (Form_no A m n c w ha hn h)
  rw [errOf_ne _ h] at C ⊢
  generalize hcd m = z at *
  clear ha hn h
  go_enter Tryd.func11, Tryd.ntmps11
  go_wp2_with fail
  refine (C.out).mono ?_; rintro e w' ⟨rfl, hk⟩
  have HK := Lib.hid hk
  clear hk
  go_wp2_with fail
  go_ret2
  exact ⟨rfl, HK.out⟩
theorem Same_no2 {n : Nat} {x : Nat → Nat → Int} {m : List (List Int)} (s : Hm n x m) (A B : Option Addr) (l : List (List Int)) (p c d : Nat) (w : World) (ha : LiesM w A m) (hb : LiesM w B l) (hp : l.length = p) (h : hcd l ≠ 0) :
    Calls Tryd.prog 11 #[.slice A n c, .slice B p d] w fun e w' => e = .returned (.tuple #[.bool false, errOf (hcd l)]) ∧ Kp w w' := by
  have C := Lib.hid (Form_ok s A c w ha)
  have D := Lib.hid (fun w1 (k : Kp w w1) => Form_no B l p d w1 (hb.keep k) hp h)
  rw [errOf_ne _ h] at D ⊢
  generalize hcd l = z at *
  clear ha hb hp h s
  go_enter Tryd.func11, Tryd.ntmps11
  go_wp2_with fail
  refine (C.out).mono ?_; rintro e w1 ⟨g, cap, G, C, a, _, _, _, rfl, _, _, hk⟩
  have HK := Lib.hid hk
  clear hk
  go_wp2_with fail
  refine (D.out w1 HK.out).mono ?_; rintro e w2 ⟨rfl, hk2⟩
  have HK2 := Lib.hid (HK.out.trans hk2)
  clear hk2
  go_wp2_with fail
  go_ret2
  exact ⟨rfl, HK2.out⟩
theorem Same_len {n p : Nat} {x y : Nat → Nat → Int} {m l : List (List Int)} (s : Hm n x m) (t : Hm p y l) (A B : Option Addr) (c d : Nat) (w : World) (ha : LiesM w A m) (hb : LiesM w B l) (h : n ≠ p) :
    Calls Tryd.prog 11 #[.slice A n c, .slice B p d] w fun e w' => e = .returned (.tuple #[.bool false, errOf 3]) ∧ Kp w w' := by
  have C := Lib.hid (Form_ok s A c w ha)
  have D := Lib.hid (fun w1 (k : Kp w w1) => Form_ok t B d w1 (hb.keep k))
  have e0 : ((n : Int) != (p : Int)) = true := by rw [bne_iff_ne]; omega
  clear ha hb h s t
  go_enter Tryd.func11, Tryd.ntmps11
  go_wp2_with fail
  refine (C.out).mono ?_; rintro e w1 ⟨g, cap, G, C, a, _, _, _, rfl, _, _, hk⟩
  have HK := Lib.hid hk
  clear hk
  go_wp2_with fail
  refine (D.out w1 HK.out).mono ?_; rintro e w2 ⟨g', cap', G', C', a', _, _, _, rfl, _, _, hk2⟩
  have HK2 := Lib.hid (HK.out.trans hk2)
  clear hk2
  go_wp2_with fail
  go_ret2
  exact ⟨rfl, HK2.out⟩
theorem tab_eq {n : Nat} {a b : Nat → Nat → Int} : Mx.tab n n a = Mx.tab n n b ↔ Zx.Eqm n n a b := by
  constructor
  · intro h i j hi hj
    rw [← Mx.tab_el n n a i j hi hj, h, Mx.tab_el n n b i j hi hj]
  · exact fun h => Mx.tab_ext h
/-- Two matrices have the same form just if their rows have the same sums. -/
theorem form_iff {n : Nat} {a b x y : Nat → Nat → Int} (ha : Zx.Hnf n a) (hb : Zx.Hnf n b) (hx : Zx.Eql n a x) (hy : Zx.Eql n b y) : Mx.tab n n a = Mx.tab n n b ↔ Zx.Eql n x y := by
  rw [tab_eq]
  constructor
  · intro h
    have e : Zx.Eql n a b := ⟨fun i hi => ((Zx.Lat.row b hi).congr fun j hj => (h i j hi hj).symm), fun i hi => ((Zx.Lat.row a hi).congr fun j hj => h i j hi hj)⟩
    exact hx.symm.trans (e.trans hy)
  · exact fun h => ha.one hb (hx.trans (h.trans hy.symm))
def GotSame (P : Prop) (w : World) (e : Ending) (w' : World) : Prop := ∃ b : Bool, (b = true ↔ P) ∧ e = .returned (.tuple #[.bool b, .nilIface]) ∧ Kp w w'
theorem tells_bool {P : Prop} {e : Ending} (h : Tells P e) : ∃ b : Bool, (b = true ↔ P) ∧ e = .returned (.bool b) := by
  rcases h with ⟨h1, h2⟩ | ⟨h1, h2⟩
  · exact ⟨true, ⟨fun _ => h1, fun _ => rfl⟩, h2⟩
  · exact ⟨false, ⟨fun h => (by cases h), fun h => absurd h h1⟩, h2⟩
set_option maxHeartbeats 800000 in
theorem Same_ok {n : Nat} {x y : Nat → Nat → Int} {m l : List (List Int)} (s : Hm n x m) (t : Hm n y l) (A B : Option Addr) (c d : Nat) (w : World) (ha : LiesM w A m) (hb : LiesM w B l) :
    Calls Tryd.prog 11 #[.slice A n c, .slice B n d] w fun e w' => GotSame (Zx.Eql n x y) w e w' := by
  have C := Lib.hid (Form_ok s A c w ha)
  have D := Lib.hid (fun w1 (k : Kp w w1) => Form_ok t B d w1 (hb.keep k))
  have h3 := s.sh.n3
  have e0 : ((n : Int) != (n : Int)) = false := by simp
  clear ha hb s t
  go_enter Tryd.func11, Tryd.ntmps11
  go_wp2_with fail
  refine (C.out).mono ?_; rintro e w1 ⟨g, cap, G, C, a, n1, l1, _, rfl, o1, _, hk⟩
  have HK := Lib.hid hk
  have HO := Lib.hid o1
  clear hk o1
  go_wp2_with fail
  refine (D.out w1 HK.out).mono ?_; rintro e w2 ⟨g', cap', G', C', b, n2, l2, _, rfl, o2, _, hk2⟩
  have HK2 := Lib.hid (HK.out.trans hk2)
  have EQ := Lib.hid (seqf_any (some ⟨g, 0, none⟩) (some ⟨g', 0, none⟩) (Mx.tab n n a) (Mx.tab n n b) n n cap cap' w2 (HO.out.kp hk2).liesM o2.liesM (Mx.len_tab _ _ _) (Mx.len_tab _ _ _) (modest_tab a (by omega) (by omega)) (modest_tab b (by omega) (by omega)))
  have FI := Lib.hid (form_iff n1 n2 l1 l2)
  clear hk2 o2 n1 n2 l1 l2
  go_wp2_with fail
  refine (EQ.out).mono ?_; rintro e w3 ⟨ht, hd⟩
  obtain ⟨r, hr, rfl⟩ := tells_bool ht
  have HR := Lib.hid (hr.trans FI.out)
  have HK3 := Lib.hid (HK2.out.trans hd.kp)
  clear ht hr hd
  go_wp2_with fail
  go_ret2
  exact ⟨r, HR.out, rfl, HK3.out⟩
end Go.Proofs.YteobamakmmoljaaDoor
