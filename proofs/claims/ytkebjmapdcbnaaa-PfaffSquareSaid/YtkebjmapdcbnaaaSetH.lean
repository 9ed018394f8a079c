/- A head of a matrix is written: another row in the place of one. For all packages. -/
import Derived.Test.YtkebjmapdcbnaaaGrid
import Derived.Test.YtkebjmapdcbnaaaMatH
import Derived.Deep.RegionHeld3
namespace Go.Proofs.Ytkebjmapdcbnaaa
open Go.ChangeShapes Go.WideShapes Go.ChangeAt Go.RowKit
set_option linter.unusedVariables false

theorem cell_awayH {w : World} {a b : Addr} {v : Value} (x : Value) (hc : w.cell? b = some v) (hne : a ≠ b) : (w.setCell a x).cell? b = some v := by
  rw [World.cell?_setCell_other (w := w) (v := x) (h := hne)]; exact hc
theorem LiesM.rowSet {w : World} {g i c1 : Nat} {m : List (List Int)} {A1 : Option Addr} {l : List Int} (h : LiesM w (some ⟨g, 0, none⟩) m) (hi : i < m.length) (hl : Lies w A1 l) (hc : l.length ≤ c1) :
    LiesM (w.setCell ⟨g, i, none⟩ (.slice A1 l.length c1)) (some ⟨g, 0, none⟩) (m.set i l) := by
  obtain ⟨ad, A0, c0, e, hlt, hx, _, _⟩ := h i hi
  cases e
  rw [add_at] at hx
  have far : ∀ (A' : Option Addr) (l' : List Int), Lies w A' l' → Lies (w.setCell ⟨g, i, none⟩ (.slice A1 l.length c1)) A' l' := fun A' l' hl' k hk => by
    obtain ⟨ad', e', hlt', hx'⟩ := hl' k hk
    refine ⟨ad', e', by simpa [World.setCell] using hlt', cell_awayH _ hx' fun e2 => ?_⟩
    rw [← e2, hx] at hx'
    cases hx'
  intro k hk
  rw [List.length_set] at hk
  by_cases hki : k = i
  · subst hki
    have hg : (m.set k l).getD k [] = l := by rw [List.getD_eq_getElem?_getD, List.getElem?_set, if_pos rfl, if_pos hk]; rfl
    rw [hg]
    exact ⟨_, A1, c1, rfl, by simpa [World.setCell] using hlt, by rw [add_at]; exact World.cell?_setCell_same _ _ _ hx, hc, far _ _ hl⟩
  · have hg : (m.set i l).getD k [] = m.getD k [] := by rw [List.getD_eq_getElem?_getD, List.getElem?_set, if_neg (fun e => hki e.symm), List.getD_eq_getElem?_getD]
    rw [hg]
    obtain ⟨ad2, A2, c2, e2, hlt2, hx2, hc2, hl2⟩ := h k hk
    cases e2
    rw [add_at] at hx2
    refine ⟨_, A2, c2, rfl, by simpa [World.setCell] using hlt2, ?_, hc2, far _ _ hl2⟩
    rw [add_at]
    exact cell_awayH _ hx2 fun e3 => hki (by cases e3; rfl)
theorem tab_setr (r c : Nat) (f : Nat → Nat → Int) (i : Nat) (u : Nat → Int) : (Mx.tab r c f).set i (Mx.row c u) = Mx.tab r c (Zx.setr i u f) := by
  unfold Mx.tab
  refine List.ext_getElem (by simp) fun k h1 h2 => ?_
  rw [List.getElem_set]
  by_cases h : i = k
  · rw [if_pos h]
    simp only [List.getElem_map, List.getElem_range]
    refine Mx.row_ext fun j _ => ?_
    show u j = if k = i then u j else f k j
    rw [if_pos h.symm]
  · rw [if_neg h]
    simp only [List.getElem_map, List.getElem_range]
    refine Mx.row_ext fun j _ => ?_
    show f k j = if k = i then u j else f k j
    rw [if_neg (fun e => h e.symm)]
end Go.Proofs.Ytkebjmapdcbnaaa
