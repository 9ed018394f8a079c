/- A matrix of the call's own whose last row grows. For all packages. -/
import Derived.Test.YtcgpommgldecfaaDoorOwnH
namespace Go.Proofs.YtcgpommgldecfaaDoor
open Go.ChangeShapes Go.WideShapes Go.ChangeAt Go.RowKit
set_option linter.unusedVariables false

theorem heads_last (G C : Nat → Nat) (m : List (List Int)) (l : List Int) : heads G C (m ++ [l]) = heads G C m ++ [Value.slice (some ⟨G m.length, 0, none⟩) l.length (C m.length)] := by
  have h := heads_snoc G C m l (G m.length) (C m.length)
  rw [← h]
  congr 1 <;> funext i <;> split <;> rename_i e <;> first | rw [e] | rfl
/-- The last row of a matrix of the call's own has grown, its head is set anew. -/
theorem ownM_regrow {w w' : World} {B g cap x d n : Nat} {G C : Nat → Nat} {m : List (List Int)} {l l' : List Int} (h : OwnM w B (.slice (some ⟨g, 0, none⟩) n cap) G C (m ++ [l])) (hn : l'.length = d)
    (hg : w.grownBy w' (some (G m.length))) {e : Nat} (h1 : Own w' B (.slice (some ⟨x, 0, none⟩) d e) l') (hx : x = G m.length ∨ x = w.heap.size) :
    w'.frozen? ⟨g, m.length, none⟩ = false ∧ OwnM (w'.setCell ⟨g, m.length, none⟩ (.slice (some ⟨x, 0, none⟩) d e)) B (.slice (some ⟨g, 0, none⟩) n cap) (fun i => if i = m.length then x else G i) (fun i => if i = m.length then e else C i) (m ++ [l']) := by
  subst hn
  have hlen : (m ++ [l']).length = (m ++ [l]).length := by simp
  have hk : m.length < (m ++ [l]).length := by simp
  have hgl := World.ownsRow.lt h.top g rfl
  have hne : ∀ i, i < (m ++ [l]).length → G i ≠ g := fun i hi e => top_ne h.top (h.row i hi) (by show some (G i) = some g; rw [e])
  have htop := World.ownsRow.kept h.top hg (.inr (by show some g ≠ some (G m.length); exact fun e => hne _ hk (Option.some.inj e).symm))
  have hxg : x ≠ g := by
    rcases hx with e | e
    · rw [e]; exact hne _ hk
    · omega
  rcases htop.2 with ⟨e, _⟩ | ⟨g', cap', cur, hv, hg2, hh, hc, hm, hs, ht⟩
  · cases e
  · cases hv
    refine ⟨frozen_of_row w' g _ _ _ hh, ⟨?_, fun i hi => ?_, fun i j hi hj hij => ?_⟩⟩
    · refine ⟨by simp [heads], .inr ⟨g, cap, cur.setIfInBounds m.length (.slice (some ⟨x, 0, none⟩) l'.length e), by rw [hlen], hg2, heap_setCell_same w' g _ _ _ _ hh, by rw [hlen]; exact hc, hm, by rw [Array.size_setIfInBounds]; exact hs, ?_⟩⟩
      rw [Array.toList_setIfInBounds, hlen, List.take_set, ht, heads_last, heads_snoc]
      have : (heads G C m).length = m.length := by simp [heads]
      rw [← this]
      simp
    · rw [hlen] at hi
      by_cases e' : i = m.length
      · subst e'
        simp only [if_true]
        have : (m ++ [l']).getD m.length [] = l' := by simp
        rw [this]
        exact own_store h1 hxg _
      · simp only [if_neg e']
        have hi2 : i < m.length := by simp at hi; omega
        have e1 : (m ++ [l']).getD i [] = (m ++ [l]).getD i [] := by simp [List.getElem?_append_left hi2]
        rw [e1]
        refine own_store ((h.row i hi).grown (u := Value.slice (some ⟨G m.length, 0, none⟩) 0 0) hg (.inr ?_)) (hne i hi) _
        show some (G i) ≠ some (G m.length)
        exact fun e2 => h.apart i m.length hi hk e' (Option.some.inj e2)
    · rw [hlen] at hi hj
      have hne2 : ∀ i, i < (m ++ [l]).length → i ≠ m.length → G i ≠ x := fun i hi hi2 e2 => by
        rcases hx with e | e
        · exact h.apart i m.length hi hk hi2 (by rw [e2, e])
        · have := (h.lt hi).2; omega
      by_cases e1 : i = m.length
      · rw [if_pos e1, if_neg (by omega)]; exact fun e2 => hne2 j hj (by omega) e2.symm
      · rw [if_neg e1]
        by_cases e2 : j = m.length
        · rw [if_pos e2]; exact hne2 i hi e1
        · rw [if_neg e2]; exact h.apart i j hi hj hij

end Go.Proofs.YtcgpommgldecfaaDoor
