/- Plain facts for the law TreeCut: the pairs without one of them, and with its points made one, pair by pair. -/
import Derived.Test.YtgfhmffkdhfoeaaTrC3
namespace Go.Proofs.Ytgfhmffkdhfoeaa
open Go.ChangeShapes Go.WideShapes Go.ChangeAt Go.RowKit
set_option linter.unusedVariables false

/-- The first pairs, but the one at k. -/
def lfp (l : List (Nat × Nat)) (k : Nat) : Nat → List (Nat × Nat)
  | 0 => []
  | j + 1 => if j = k then lfp l k j else lfp l k j ++ [l.getD j (0, 0)]
/-- The same, their points told otherwise, and no pair of one point. -/
def jnp (f : Nat → Nat) (l : List (Nat × Nat)) (k : Nat) : Nat → List (Nat × Nat)
  | 0 => []
  | j + 1 => if j = k then jnp f l k j else if f (l.getD j (0, 0)).1 ≠ f (l.getD j (0, 0)).2 then jnp f l k j ++ [(f (l.getD j (0, 0)).1, f (l.getD j (0, 0)).2)] else jnp f l k j
theorem lfp_skip (l : List (Nat × Nat)) (k : Nat) : lfp l k (k + 1) = lfp l k k := if_pos rfl
theorem lfp_more (l : List (Nat × Nat)) {k j : Nat} (h : j ≠ k) : lfp l k (j + 1) = lfp l k j ++ [l.getD j (0, 0)] := if_neg h
theorem jnp_skip (f : Nat → Nat) (l : List (Nat × Nat)) (k : Nat) : jnp f l k (k + 1) = jnp f l k k := if_pos rfl
theorem jnp_more (f : Nat → Nat) (l : List (Nat × Nat)) {k j : Nat} (h : j ≠ k) (h2 : f (l.getD j (0, 0)).1 ≠ f (l.getD j (0, 0)).2) : jnp f l k (j + 1) = jnp f l k j ++ [(f (l.getD j (0, 0)).1, f (l.getD j (0, 0)).2)] := (if_neg h).trans (if_pos h2)
theorem jnp_same (f : Nat → Nat) (l : List (Nat × Nat)) {k j : Nat} (h : j ≠ k) (h2 : f (l.getD j (0, 0)).1 = f (l.getD j (0, 0)).2) : jnp f l k (j + 1) = jnp f l k j := (if_neg h).trans (if_neg fun y => y h2)
theorem jnp_lfp (f : Nat → Nat) (l : List (Nat × Nat)) (k : Nat) : ∀ j, jnp f l k j = (Zx.rel f (lfp l k j)).filter fun x => decide (x.1 ≠ x.2)
  | 0 => rfl
  | j + 1 => by
    have ih := jnp_lfp f l k j
    by_cases h : j = k
    · subst h; rw [jnp_skip, lfp_skip, ih]
    · rw [lfp_more l h]
      unfold Zx.rel at ih ⊢
      rw [List.map_append, List.filter_append, ← ih]
      by_cases h2 : f (l.getD j (0, 0)).1 = f (l.getD j (0, 0)).2
      · rw [jnp_same f l h h2, List.map_singleton, List.filter_cons_of_neg (by simpa using h2)]; simp
      · rw [jnp_more f l h h2, List.map_singleton, List.filter_cons_of_pos (by simpa using h2)]; rfl
theorem lfp_low (l : List (Nat × Nat)) (k : Nat) : ∀ j, j ≤ k → j ≤ l.length → lfp l k j = l.take j
  | 0, _, _ => rfl
  | j + 1, h, h2 => by rw [lfp_more l (by omega), lfp_low l k j (by omega) (by omega), take_more (0, 0) (by omega)]
theorem lfp_high (l : List (Nat × Nat)) (k : Nat) : ∀ t, k + 1 + t ≤ l.length → lfp l k (k + 1 + t) = l.take k ++ (l.drop (k + 1)).take t
  | 0, h => by show lfp l k (k + 1) = _; rw [lfp_skip, lfp_low l k k (Nat.le_refl _) (by omega)]; simp
  | t + 1, h => by
    show lfp l k (k + 1 + t + 1) = _
    rw [lfp_more l (by omega), lfp_high l k t (by omega), take_more (0, 0) (by rw [List.length_drop]; omega), List.append_assoc]
    congr 3
    rw [List.getD_eq_getElem?_getD, List.getD_eq_getElem?_getD, List.getElem?_drop]
theorem lfp_all {l : List (Nat × Nat)} {k : Nat} (hk : k < l.length) : lfp l k l.length = l.take k ++ l.drop (k + 1) := by
  have := lfp_high l k (l.length - (k + 1)) (by omega)
  rw [show k + 1 + (l.length - (k + 1)) = l.length by omega] at this
  rw [this, List.take_of_length_le (l := l.drop (k + 1)) (by rw [List.length_drop]; omega)]
theorem at_split {l : List (Nat × Nat)} {k : Nat} (hk : k < l.length) : l = l.take k ++ l.getD k (0, 0) :: l.drop (k + 1) := by
  have h := take_more (0, 0) hk
  have e : l = l.take (k + 1) ++ l.drop (k + 1) := (List.take_append_drop _ _).symm
  rw [h, List.append_assoc] at e
  exact e
theorem lfp_len (l : List (Nat × Nat)) (k : Nat) : ∀ j, (lfp l k j).length ≤ j
  | 0 => Nat.le_refl _
  | j + 1 => by
    have := lfp_len l k j
    by_cases h : j = k
    · subst h; rw [lfp_skip]; omega
    · rw [lfp_more l h, List.length_append, List.length_singleton]; omega
theorem jnp_len (f : Nat → Nat) (l : List (Nat × Nat)) (k j : Nat) : (jnp f l k j).length ≤ j := by
  rw [jnp_lfp]
  refine Nat.le_trans (List.length_filter_le _ _) ?_
  unfold Zx.rel
  rw [List.length_map]
  exact lfp_len l k j
/-- Both are graphs, and together they have as many trees. -/
theorem Gr.cut {n p : Nat} {l : List (Nat × Nat)} {m : List (List Int)} (s : Gr n l m) (hn : n = p + 2) {k : Nat} (hk : k < l.length) {a b : Nat} (ha : (l.getD k (0, 0)).1 = a) (hb : (l.getD k (0, 0)).2 = b) :
    Gr n (lfp l k l.length) ((lfp l k l.length).map pr2) ∧ Gr (p + 1) (jnp (Zx.sqz n a b) l k l.length) ((jnp (Zx.sqz n a b) l k l.length).map pr2) ∧
      trn n l = trn n (lfp l k l.length) + trn (p + 1) (jnp (Zx.sqz n a b) l k l.length) := by
  have e := at_split hk
  have hm := s.mem hk
  rw [ha, hb] at hm
  have n6 := s.n6
  have few := s.few
  have ok := s.ok
  have ne := s.ne
  have sub : ∀ x, x ∈ lfp l k l.length → x ∈ l := fun x hx => by
    rw [lfp_all hk] at hx
    rcases List.mem_append.1 hx with h | h
    · exact List.mem_of_mem_take h
    · exact List.mem_of_mem_drop h
  have g1 : Gr n (lfp l k l.length) ((lfp l k l.length).map pr2) := ⟨s.n1, n6, Nat.le_trans (lfp_len l k _) few, rfl, fun x hx => ok x (sub x hx), fun x hx => ne x (sub x hx)⟩
  refine ⟨g1, ⟨by omega, by omega, Nat.le_trans (jnp_len _ l k _) few, rfl, fun x hx => ?_, fun x hx => ?_⟩, ?_⟩
  · rw [jnp_lfp] at hx
    have h1 := (List.mem_filter.1 hx).1
    unfold Zx.rel at h1
    obtain ⟨y, hy, rfl⟩ := List.mem_map.1 h1
    have := ok y (sub y hy)
    rw [hn] at hm this ⊢
    exact ⟨Zx.sqz_lt hm.1 hm.2.1 hm.2.2 this.1, Zx.sqz_lt hm.1 hm.2.1 hm.2.2 this.2⟩
  · rw [jnp_lfp] at hx
    have h1 := (List.mem_filter.1 hx).2
    simpa using h1
  · have c := Zx.trs_cut (p := p) (a := l.take k) (b := l.drop (k + 1)) (e := l.getD k (0, 0)) (by rw [← e, ← hn]; exact ok) (by rw [ha, hb]; exact hm.2.2)
    rw [← e, ha, hb, ← hn, ← lfp_all hk, ← jnp_lfp] at c
    unfold trn
    rw [hn] at c ⊢
    exact c

end Go.Proofs.Ytgfhmffkdhfoeaa
