/- Good matrices, and what gauss says of whatever comes in: for seats without package mat's products. -/
import Derived.Test.YtcgpommgldecfaaDoorGaC3
import Derived.Test.YtcgpommgldecfaaDoorRowsG
namespace Go.Proofs.YtcgpommgldecfaaDoor
open Go.ChangeShapes Go.WideShapes Go.ChangeAt Go.RowKit
set_option linter.unusedVariables false

def f22 (a b c d : Fp.F) : Nat → Nat → Fp.F := fun i j => if i = 0 then (if j = 0 then a else b) else (if j = 0 then c else d)
/-- A matrix of r rows and c columns, as package mat wants it. -/
structure Sh (r c : Nat) (f : Nat → Nat → Fp.F) (m : List (List Int)) : Prop where
  eq : m = Mx.matl r c f
  r0 : 0 < r
  r5 : r ≤ 5
  c0 : 0 < c
  c5 : c ≤ 5
theorem Sh.len {r c : Nat} {f : Nat → Nat → Fp.F} {m : List (List Int)} (h : Sh r c f m) : m.length = r := by rw [h.eq, Mx.len_matl]
theorem Sh.mat {r c : Nat} {f : Nat → Nat → Fp.F} {m : List (List Int)} (h : Sh r c f m) : Sh r c f (Mx.matl r c f) := ⟨rfl, h.r0, h.r5, h.c0, h.c5⟩
theorem sh_or (m : List (List Int)) : (Mx.mcode 5 0 9972 m = 0 ∧ ∃ r c f, Sh r c f m) ∨ Mx.mcode 5 0 9972 m ≠ 0 := by
  by_cases h : Mx.mcode 5 0 9972 m = 0
  · obtain ⟨r, c, f, e, h1, h2, h3, h4⟩ := Mx.mcode_zero h
    exact .inl ⟨h, r, c, f, ⟨e, h1, h2, h3, h4⟩⟩
  · exact .inr h
theorem Sh.code {r c : Nat} {f : Nat → Nat → Fp.F} {m : List (List Int)} (h : Sh r c f m) : Mx.mcode 5 0 9972 m = 0 := by
  rw [h.eq]; exact Mx.mcode_matl f h.r0 h.r5 h.c0 h.c5

theorem Sh.modest {r q : Nat} {f : Nat → Nat → Fp.F} {a : List (List Int)} (sa : Sh r q f a) : Modest a := by
  rw [sa.eq]; exact modest_tab _ (Nat.le_trans sa.r5 (by decide)) (Nat.le_trans sa.c5 (by decide))

theorem Sh.flip {r q : Nat} {f : Nat → Nat → Fp.F} {a : List (List Int)} (sa : Sh r q f a) : Sh q r (Mx.flip f) (Mx.matl q r (Mx.flip f)) := ⟨rfl, sa.c0, sa.c5, sa.r0, sa.r5⟩

theorem Rank_or (A : Option Addr) (m : List (List Int)) (n d : Nat) (hn : m.length = n) :
    (∃ r c f, Sh r c f m) ∨ ∀ (w : World), LiesM w A m → Calls Tryd.prog 15 #[.slice A n d] w fun e w' => ∃ z : Nat, e = .returned (.tuple #[.int .i64 0, .iface 51 (.int .i64 (z : Int))]) ∧ Kp w w' := by
  rcases sh_or m with ⟨_, h⟩ | h
  · exact .inl h
  · exact .inr fun w ha => ((Rank_bad A m n d w ha hn h).mono fun e w' h' => ⟨Mx.mcode 5 0 9972 m, by rw [h'.1, errOf_ne _ h], h'.2⟩)
theorem Rank_sh {A : Option Addr} {m : List (List Int)} {r c : Nat} {f : Nat → Nat → Fp.F} (s : Sh r c f m) (d : Nat) (w : World) (ha : LiesM w A m) :
    Calls Tryd.prog 15 #[.slice A r d] w fun e w' => GotRank r c f w e w' := by
  rw [s.eq] at ha
  exact Rank_ok A f r c d w ha s.r0 s.r5 s.c0 s.c5
theorem Steps_or (A : Option Addr) (m : List (List Int)) (n d : Nat) (hn : m.length = n) :
    (∃ r c f, Sh r c f m) ∨ ∀ (w : World), LiesM w A m → Calls Tryd.prog 22 #[.slice A n d] w fun e w' => ∃ z : Nat, e = .returned (.tuple #[.slice none 0 0, .slice none 0 0, .iface 51 (.int .i64 (z : Int))]) ∧ Kp w w' := by
  rcases sh_or m with ⟨_, h⟩ | h
  · exact .inl h
  · exact .inr fun w ha => ((Steps_bad A m n d w ha hn h).mono fun e w' h' => ⟨Mx.mcode 5 0 9972 m, by rw [h'.1, errOf_ne _ h], h'.2⟩)
theorem Steps_sh {A : Option Addr} {m : List (List Int)} {r c : Nat} {f : Nat → Nat → Fp.F} (s : Sh r c f m) (d : Nat) (w : World) (ha : LiesM w A m) :
    Calls Tryd.prog 22 #[.slice A r d] w fun e w' => GotSteps r c f w e w' := by
  rw [s.eq] at ha
  exact Steps_ok A f r c d w ha s.r0 s.r5 s.c0 s.c5
end Go.Proofs.YtcgpommgldecfaaDoor
