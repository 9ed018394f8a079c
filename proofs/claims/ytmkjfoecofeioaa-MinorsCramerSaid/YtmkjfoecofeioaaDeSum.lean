/- The law DetSum. -/
import Derived.Test.YtmkjfoecofeioaaDeFact
import Derived.Test.YtmkjfoecofeioaaLawIn
import Derived.Test.YtmkjfoecofeioaaMxRef2
namespace Go.Proofs.Ytmkjfoecofeioaa
open Go.ChangeShapes Go.WideShapes Go.ChangeAt Go.RowKit
set_option linter.unusedVariables false

theorem in_el (x : Fp.F) : (decide ((0 : Int) ≤ (x.val : Int)) && decide ((x.val : Int) ≤ 9972)) = true := by
  have := gval x
  simp; omega
/-- Numbers of the field as a row. -/
theorem row_F {l : List Int} {n : Nat} (hl : l.length = n) (h : AllIn l 0 9972) : ∃ u : Nat → Fp.F, l = Mx.row n fun j => ((u j).val : Int) := by
  refine ⟨fun j => Fp.ofInt (l.getD j 0), ?_⟩
  rw [← hl]
  refine (Mx.is_row l).trans (Mx.row_ext fun k hk => ?_)
  rw [Fp.ofInt_val]
  have := h k hk
  omega
/-- Another row in the place of row i: its head is written. -/
theorem LiesM.setHead {w : World} {g i c1 : Nat} {m : List (List Int)} {A1 : Option Addr} {l : List Int} (h : LiesM w (some ⟨g, 0, none⟩) m) (hi : i < m.length) (hl : Lies w A1 l) (hc : l.length ≤ c1) :
    LiesM (w.setCell ⟨g, i, none⟩ (.slice A1 l.length c1)) (some ⟨g, 0, none⟩) (m.set i l) := by
  obtain ⟨ad, A0, c0, e, hlt, hx, _, _⟩ := h i hi
  cases e
  rw [add_at] at hx
  have far : ∀ (A' : Option Addr) (l' : List Int), Lies w A' l' → Lies (w.setCell ⟨g, i, none⟩ (.slice A1 l.length c1)) A' l' := fun A' l' hl' k hk => by
    obtain ⟨ad', e', hlt', hx'⟩ := hl' k hk
    refine ⟨ad', e', by simpa [World.setCell] using hlt', cell_far _ hx' fun e2 => ?_⟩
    rw [← e2, hx] at hx'
    cases hx'
  intro k hk
  rw [List.length_set] at hk
  by_cases hki : k = i
  · subst hki
    have hg : (m.set k l).getD k [] = l := by rw [List.getD_eq_getElem?_getD, List.getElem?_set, if_pos rfl, if_pos hk]; rfl
    rw [hg]
    exact ⟨_, A1, c1, rfl, by simpa [World.setCell] using hlt, by rw [add_at]; exact World.cell?_setCell_same _ _ _ hx, hc, far _ _ hl⟩
  · have hg : (m.set i l).getD k [] = m.getD k [] := by rw [List.getD_eq_getElem?_getD, List.getElem?_set, if_neg (fun e => hki e.symm), List.getD_eq_getElem?_getD]
    rw [hg]
    obtain ⟨ad2, A2, c2, e2, hlt2, hx2, hc2, hl2⟩ := h k hk
    cases e2
    rw [add_at] at hx2
    refine ⟨_, A2, c2, rfl, by simpa [World.setCell] using hlt2, ?_, hc2, far _ _ hl2⟩
    rw [add_at]
    exact cell_far _ hx2 fun e3 => hki (by cases e3; rfl)
theorem matl_setr (r c : Nat) (f : Nat → Nat → Fp.F) (i : Nat) (u : Nat → Fp.F) : (Mx.matl r c f).set i (Mx.row c fun j => ((u j).val : Int)) = Mx.matl r c (Mx.setr i u f) := by
  unfold Mx.matl Mx.tab
  refine List.ext_getElem (by simp) fun k h1 h2 => ?_
  rw [List.getElem_set]
  by_cases h : i = k
  · rw [if_pos h]
    simp only [List.getElem_map, List.getElem_range]
    refine Mx.row_ext fun j _ => ?_
    show _ = (((if k = i then u j else f k j) : Fp.F).val : Int)
    rw [if_pos h.symm]
  · rw [if_neg h]
    simp only [List.getElem_map, List.getElem_range]
    refine Mx.row_ext fun j _ => ?_
    show _ = (((if k = i then u j else f k j) : Fp.F).val : Int)
    rw [if_neg (fun e => h e.symm)]
theorem ownM_topFree {w : World} {B : Nat} {G C : Nat → Nat} {r c g n cap : Nat} {f : Nat → Nat → Int} (h : OwnM w B (.slice (some ⟨g, 0, none⟩) n cap) G C (Mx.tab r c f)) (i : Nat) : w.frozen? ⟨g, i, none⟩ = false := h.weak.topFree i


end Go.Proofs.Ytmkjfoecofeioaa
