/- Plain facts on the document's chain: where the row changes its sign the turns fall; rows of odd power have a place. No program is named here. -/
import Derived.Test.YtbdpcpodmmhjaaaStH
namespace Go.Proofs.Ytbdpcpodmmhjaaa.Stu
set_option linter.unusedVariables false

theorem sq_ne {t : Rat} (h : t ≠ 0) : sq t ≠ 0 := by
  rcases sq_cases t with ⟨_, e⟩ | ⟨_, e⟩ | ⟨e, _⟩
  · rw [e]; decide
  · rw [e]; decide
  · exact absurd e h
theorem sq_nil {t : Rat} (h : sq t = 0) : t = 0 := Classical.byContradiction fun e => sq_ne e h
theorem sq_mul (s t : Rat) : sq (s * t) = sq s * sq t := by
  rcases sq_cases s with ⟨h1, e1⟩ | ⟨h1, e1⟩ | ⟨h1, e1⟩ <;> rcases sq_cases t with ⟨h2, e2⟩ | ⟨h2, e2⟩ | ⟨h2, e2⟩ <;> rw [e1, e2]
  · rw [sq_pos (Rat.mul_pos h1 h2)]; rfl
  · rw [sq_neg (by have := Rat.mul_pos h1 (show 0 < -t by grind); grind)]; rfl
  · rw [h2, show s * 0 = 0 by grind, sq_zero]; rfl
  · rw [sq_neg (by have := Rat.mul_pos (show 0 < -s by grind) h2; grind)]; rfl
  · rw [sq_pos (by have := Rat.mul_pos (show 0 < -s by grind) (show 0 < -t by grind); grind)]; rfl
  · rw [h2, show s * 0 = 0 by grind, sq_zero]; rfl
  · rw [h1, show 0 * t = 0 by grind, sq_zero]; rfl
  · rw [h1, show 0 * t = 0 by grind, sq_zero]; rfl
  · rw [h1, show 0 * t = 0 by grind, sq_zero]; rfl
section
variable {f h b : List Int} {l : List (List Int)}
theorem Cn.drop (c : Cn h b l) {x y : Rat} (hxy : x ≤ y) (h1 : iv h x ≠ 0) (h2 : sq (iv h y) ≠ sq (iv h x)) : vs (h :: b :: l) y < vs (h :: b :: l) x := by
  obtain ⟨a, ha, hs⟩ := c.slope
  rw [vs_vr, vs_vr]
  exact c.ch.turn ha hs hxy ⟨sq_ne h1, h2⟩
theorem Cn.drop0 (c : Cn h b l) {x y : Rat} (hxy : x ≤ y) (h1 : iv h x ≠ 0) (h2 : iv h y = 0) : vs (h :: b :: l) y < vs (h :: b :: l) x := by
  refine c.drop hxy h1 ?_
  rw [h2, sq_zero]
  exact fun e => sq_ne h1 e.symm
/-- Odd powers. -/
theorem odd_ends (h2 : 2 ≤ f.length) (h4 : f.length ≤ 4) (t : Tp f) (ho : f.length % 2 = 0) : 1 ≤ ends (chain f) := by
  have hf : f ≠ [] := fun e => by rw [e] at h2; simp at h2
  have S := sturm_of hf h4 t
  obtain ⟨_, _, P⟩ := S.parts hf
  obtain ⟨h, b, l, e, c, g, le, fm, _⟩ := chain_all h2 h4 t
  have zero : ∀ u z, u < z → iv h u ≠ 0 → iv h z = 0 → 1 ≤ ends (chain f) := fun u z huz hu hz => by
    have h1 := P u z (by grind)
    have h3 := c.drop0 (x := u) (y := z) (by grind) hu hz
    rw [e] at h1 ⊢
    omega
  cases fm with
  | one k hk e1 =>
    obtain ⟨B, hB, hv⟩ := far_both (c := [f]) (fun g hg => by rw [List.mem_singleton.1 hg]; exact ⟨hf, t⟩)
    obtain ⟨B1, p1, v1⟩ := far [f] (fun g hg => by rw [List.mem_singleton.1 hg]; exact ⟨hf, t⟩)
    obtain ⟨B2, p2, v2⟩ := far [od false f] (fun g hg => by
      rw [List.mem_singleton.1 hg]
      exact od_good (c := [f]) (fun g hg => by rw [List.mem_singleton.1 hg]; exact ⟨hf, t⟩) _ (by simp))
    have a1 := v1 (B1 + B2) (by grind)
    have a2 := v2 (B1 + B2) (by grind)
    simp only [List.map_cons, List.map_nil, List.cons.injEq, and_true] at a1 a2
    rw [od_iv, od_tp hf, if_pos ho] at a2
    have tf := t hf
    have s1 : sgz (tp f) ≠ 0 ∧ sgz (-(tp f)) = -(sgz (tp f)) := by unfold sgz; split <;> (try split) <;> (try split) <;> (try split) <;> omega
    have eh : ∀ x, sq (iv h x) = sq (iv f x) := fun x => by rw [e1 x, sq_mul, sq_pos hk, Int.one_mul]
    have h1 := P (-(B1 + B2)) (B1 + B2) (by grind)
    have h3 := c.drop (x := -(B1 + B2)) (y := B1 + B2) (by grind) (fun e0 => by
      have := eh (-(B1 + B2))
      rw [e0, sq_zero, a2] at this
      omega) (by rw [eh, eh, a1, a2]; omega)
    rw [e] at h1 ⊢
    omega
  | two z k c' hk hc e1 e2 => exact zero (z - 1) z (by grind) (by rw [e2]; grind) (by rw [e2]; grind)
  | three z k c' hk hc e1 e2 => exact zero (z - 1) z (by grind) (by rw [e2]; grind) (by rw [e2]; grind)
  | four z v k c' ne hk hc e1 e2 =>
    by_cases hv : v = z - 1
    · exact zero (z - 2) z (by grind) (by rw [e2, hv]; grind) (by rw [e2]; grind)
    · exact zero (z - 1) z (by grind) (fun e0 => by
        rw [e2] at e0
        rcases Rat.mul_eq_zero.1 e0 with h | h
        · exact hc h
        · rcases Rat.mul_eq_zero.1 h with h | h <;> grind) (by rw [e2]; grind)
/-- Where the row changes its sign. -/
theorem change_drop (h2 : 2 ≤ f.length) (h4 : f.length ≤ 4) (t : Tp f) {x y : Rat} (hxy : x ≤ y) (hs : sq (iv f x) * sq (iv f y) < 0) : vs (chain f) y < vs (chain f) x := by
  obtain ⟨h, b, l, e, c, g, le, fm, _⟩ := chain_all h2 h4 t
  have hf : f ≠ [] := fun e => by rw [e] at h2; simp at h2
  have S := sturm_of hf h4 t
  rw [e]
  have hx : sq (iv f x) ≠ 0 := fun e => by rw [e] at hs; simp at hs
  have hxy2 : sq (iv f y) ≠ sq (iv f x) := fun e => by
    rw [e] at hs
    rcases sq_some (iv f x) with h | h | h <;> rw [h] at hs <;> exact absurd hs (by decide)
  cases fm with
  | one k hk e1 =>
    have eh : ∀ x, sq (iv h x) = sq (iv f x) := fun x => by rw [e1 x, sq_mul, sq_pos hk, Int.one_mul]
    exact c.drop hxy (fun e0 => hx (by rw [← eh, e0, sq_zero])) (by rw [eh, eh]; exact hxy2)
  | two z k c' hk hc e1 e2 =>
    exfalso
    rw [e1, e1, sq_mul, sq_mul, sq_mul, sq_mul] at hs
    have a1 := sq_some k
    have a2 := sq_some (x - z)
    have a3 := sq_some (y - z)
    rcases a1 with a | a | a <;> rcases a2 with a' | a' | a' <;> rcases a3 with a'' | a'' | a'' <;> rw [a, a', a''] at hs <;> exact absurd hs (by decide)
  | three z k c' hk hc e1 e2 =>
    have : sq (iv h y) ≠ sq (iv h x) ∧ sq (iv h x) ≠ 0 := by
      rw [e2, e2, sq_mul, sq_mul]
      rw [e1, e1, sq_mul, sq_mul, sq_mul, sq_mul, sq_mul, sq_mul] at hs
      have a0 := sq_ne hc
      rcases sq_some c' with b | b | b
      rotate_left 2
      · exact absurd b a0
      all_goals
        rw [b]
        rcases sq_some k with a | a | a <;> rcases sq_some (x - z) with a' | a' | a' <;> rcases sq_some (y - z) with a'' | a'' | a'' <;> rw [a, a', a''] at hs <;> rw [a', a''] <;> first | exact absurd hs (by decide) | decide
    exact c.drop hxy (fun e0 => this.2 (by rw [e0, sq_zero])) this.1
  | four z v k c' ne hk hc e1 e2 =>
    have hk' := sq_ne hk
    have hxz : x ≠ z := fun e => by apply hx; rw [e1, e, show k * ((z - z) * (z - z) * (z - v)) = 0 by grind, sq_zero]
    have hxv : x ≠ v := fun e => by apply hx; rw [e1, e, show k * ((v - z) * (v - z) * (v - v)) = 0 by grind, sq_zero]
    have hv : x ≤ v ∧ v ≤ y := by
      rw [e1, e1, sq_mul, sq_mul, sq_mul, sq_mul, sq_mul, sq_mul] at hs
      rcases sq_cases (x - v) with ⟨p1, q1⟩ | ⟨p1, q1⟩ | ⟨p1, q1⟩
      · exfalso
        have p2 : 0 < y - v := by grind
        rw [q1, sq_pos p2] at hs
        rcases sq_some k with a | a | a <;> rcases sq_some (x - z) with a' | a' | a' <;> rcases sq_some (y - z) with a'' | a'' | a'' <;> rw [a, a', a''] at hs <;> exact absurd hs (by decide)
      · rcases sq_cases (y - v) with ⟨p2, q2⟩ | ⟨p2, q2⟩ | ⟨p2, q2⟩
        · exact ⟨by grind, by grind⟩
        · exfalso
          rw [q1, q2] at hs
          rcases sq_some k with a | a | a <;> rcases sq_some (x - z) with a' | a' | a' <;> rcases sq_some (y - z) with a'' | a'' | a'' <;> rw [a, a', a''] at hs <;> exact absurd hs (by decide)
        · exact ⟨by grind, by grind⟩
      · exact absurd (by grind) hxv
    have h3 := c.drop0 (x := x) (y := v) hv.1 (fun e0 => by
      rw [e2] at e0
      rcases Rat.mul_eq_zero.1 e0 with h | h
      · exact hc h
      · rcases Rat.mul_eq_zero.1 h with h | h <;> grind) (by rw [e2]; grind)
    have h5 := S.mono v y hv.2
    rw [e] at h5
    omega
end

end Go.Proofs.Ytbdpcpodmmhjaaa.Stu
