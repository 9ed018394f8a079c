/- Contracts of package solve, second part: a way less (slices.Delete), move, satisfy. -/
import Derived.Test.YtfjajcfcbjmbpaaSoC1
import Derived.Deep.RegionLaw
import Derived.Lib.SliceRun
namespace Go.Proofs.Ytfjajcfcbjmbpaa
open Go.ChangeShapes Go.WideShapes Go.ChangeAt Go.RowKit
set_option linter.unusedVariables false

theorem own_at {w : World} {B n d : Nat} {A : Option Addr} {l : List Int} (h : Own w B (.slice A n d) l) : Lies w A l := by
  obtain ⟨A', c', e, hl⟩ := h.lies
  cases e; exact hl
theorem ownM_some {w : World} {B : Nat} {v : Value} {G C : Nat → Nat} {m : List (List Int)} (h : OwnM w B v G C m) (h0 : 0 < m.length) : ∃ g cap, v = .slice (some ⟨g, 0, none⟩) m.length cap ∧ m.length ≤ cap ∧ cap ≤ maxLen ∧ B ≤ g := by
  rcases h.top.2 with ⟨_, h1⟩ | ⟨g, cap, cur, e, hg, _, hc, hm, _⟩
  · omega
  · exact ⟨g, cap, e, hc, hm, hg⟩
/-- A row of such a matrix has turned, and nothing else. -/
theorem OwnM.turned {w w' : World} {B n c g cap : Nat} {G C : Nat → Nat} {F : Nat → Nat → Int} {t : Nat} {h1 : Nat → Int} (h : OwnM w B (.slice (some ⟨g, 0, none⟩) n cap) G C (Mx.tab n c F)) (ht : t < n)
    (ho : Own w' B (.slice (some ⟨G t, 0, none⟩) c (C t)) (Mx.row c h1)) (hs : Save (fun b => b = G t) w w') : OwnM w' B (.slice (some ⟨g, 0, none⟩) n cap) G C (Mx.tab n c fun s => if s = t then h1 else F s) := by
  have hw := h.weak
  have ap : ∀ i j, i < n → j < n → i ≠ j → G i ≠ G j := fun i j hi hj => h.apart i j (by rw [Mx.len_tab]; exact hi) (by rw [Mx.len_tab]; exact hj)
  refine OwnH.strong ⟨ownsRow_save hw.top hs fun b hb e => ?_, fun i hi => ?_⟩ ap
  · have : g = b := Option.some.inj hb
    exact hw.apartTop ht (by rw [← e, this])
  · by_cases e : i = t
    · subst e; rw [if_pos rfl]; exact ho
    · rw [if_neg e]
      exact (hw.row i hi).save hs fun b hb e2 => ap i t hi ht e (by rw [← e2]; exact Option.some.inj hb)

theorem save_setCells (g : Nat) : ∀ (vs : List Value) (o : Nat) (w : World), Save (fun b => b = g) w (w.setCells g o vs)
  | [], _, w => Save.refl _ w
  | v :: r, o, w => by
    rw [World.setCells]
    exact Save.trans (S := fun b => b = g) ((Save.refl (fun b => b = g) w).put (p := ⟨g, o, none⟩) rfl v) (save_setCells g r (o + 1) _)
theorem heap_setCells (g : Nat) (e : TypeId) : ∀ (vs : List Value) (o : Nat) (w : World) (cur : Array Value), w.heap[g]? = some (.cells cur e (0, 0)) →
    ∃ cur', (w.setCells g o vs).heap[g]? = some (.cells cur' e (0, 0)) ∧ cur'.size = cur.size ∧ ∀ j, j < cur.size → cur'[j]? = if o ≤ j ∧ j < o + vs.length then vs[j - o]? else cur[j]?
  | [], o, w, cur, h => ⟨cur, h, rfl, fun j _ => by simp; omega⟩
  | v :: r, o, w, cur, h => by
    rw [World.setCells]
    obtain ⟨cur', h1, h2, h3⟩ := heap_setCells g e r (o + 1) (w.setCell ⟨g, o, none⟩ v) _ (heap_setCell_same w g o _ _ v h)
    refine ⟨cur', h1, by rw [h2]; simp, fun j hj => ?_⟩
    rw [h3 j (by simpa using hj)]
    by_cases e1 : j = o
    · subst e1
      rw [if_neg (by omega), if_pos ⟨Nat.le_refl _, by simp⟩]
      simp [hj]
    · by_cases e2 : o + 1 ≤ j ∧ j < o + 1 + r.length
      · rw [if_pos e2, if_pos ⟨by omega, by simp; omega⟩]
        obtain ⟨t, rfl⟩ : ∃ t, j = o + 1 + t := ⟨j - (o + 1), by omega⟩
        rw [show o + 1 + t - (o + 1) = t by omega, show o + 1 + t - o = t + 1 by omega, List.getElem?_cons_succ]
      · rw [if_neg e2, if_neg (by simp; omega), Array.getElem?_setIfInBounds_ne (by omega)]


end Go.Proofs.Ytfjajcfcbjmbpaa
