/- Plain facts on the document's chain: rows of three factors by what is under their root. No program is named here. -/
import Derived.Test.YtbdpcpodmmhjaaaStL
namespace Go.Proofs.Ytbdpcpodmmhjaaa.Stu
set_option linter.unusedVariables false

/-- x x + p x + q: two places where p p - 4 q is above 0, one where it is 0. -/
theorem square_ends (q p : Int) : (0 < p * p - 4 * q → ends (chain [q, p, 1]) = 2) ∧ (p * p - 4 * q = 0 → ends (chain [q, p, 1]) = 1) := by
  have t : Tp [q, p, 1] := fun _ => by show (1 : Int) ≠ 0; decide
  have S := sturm_of (f := [q, p, 1]) (by simp) (by simp) t
  obtain ⟨P1, P2, P3⟩ := S.parts (by simp)
  have P2' : ends (chain [q, p, 1]) < 3 := P2
  obtain ⟨h, b, l, e, c, g, le, fm, last⟩ := chain_all (f := [q, p, 1]) (by simp) (by simp) t
  have iv' : ∀ x, iv [q, p, 1] x = q + x * p + x * x := fun x => by
    rw [iv3, show ((1 : Int) : Rat) = 1 from rfl]; grind
  obtain ⟨h2, hh⟩ : ∃ h2 : Rat, h2 + h2 = 1 := ⟨1 / 2, by grind⟩
  constructor
  · intro hd
    have hd' : (0 : Rat) < p * p - 4 * q := by
      have := Rat.intCast_pos.2 hd
      rw [Rat.intCast_sub, Rat.intCast_mul, Rat.intCast_mul] at this
      exact this
    -- below 0 in the middle, above 0 far out
    have low : ∀ x : Rat, x = -(h2 * p) → iv [q, p, 1] x < 0 := fun x hx => by
      rw [iv', hx]
      have : 4 * ((q : Rat) + -(h2 * p) * p + -(h2 * p) * -(h2 * p)) = -(p * p - 4 * q) := by grind
      grind
    obtain ⟨B, hB, hf⟩ := far [[q, p, 1]] (fun g hg => by rw [List.mem_singleton.1 hg]; exact ⟨by simp, t⟩)
    obtain ⟨B2, hB2, hf2⟩ := far [od false [q, p, 1]] (od_good (c := [[q, p, 1]]) (fun g hg => by rw [List.mem_singleton.1 hg]; exact ⟨by simp, t⟩))
    obtain ⟨m, hm, bm⟩ := bd_self (h2 * p)
    unfold Bd at bm
    have u1 := hf (B + B2 + m + 1) (by grind)
    have u2 := hf2 (B + B2 + m + 1) (by grind)
    simp only [List.map_cons, List.map_nil, List.cons.injEq, and_true] at u1 u2
    rw [od_iv] at u2
    have s1 : sgz (tp [q, p, 1]) = 1 := rfl
    have s2 : sgz (tp (od false [q, p, 1])) = 1 := rfl
    rw [s1] at u1
    rw [s2] at u2
    have lo' := sq_neg (low _ rfl)
    cases fm with
    | one k hk ek =>
      have eh : ∀ x, sq (iv h x) = sq (iv [q, p, 1] x) := fun x => by rw [ek x, sq_mul, sq_pos hk, Int.one_mul]
      have nz : ∀ x, sq (iv [q, p, 1] x) ≠ 0 → iv h x ≠ 0 := fun x hx e0 => hx (by rw [← eh, e0, sq_zero])
      have d1 := c.drop (x := -(B + B2 + m + 1)) (y := -(h2 * p)) (by grind) (nz _ (by rw [u2]; decide)) (by rw [eh, eh, u2, lo']; decide)
      have d2 := c.drop (x := -(h2 * p)) (y := B + B2 + m + 1) (by grind) (nz _ (by rw [lo']; decide)) (by rw [eh, eh, u1, lo']; decide)
      have := P3 (-(B + B2 + m + 1)) (B + B2 + m + 1) (by grind)
      rw [e] at this P2' ⊢
      omega
    | two z k c' hk hc e1 e2 =>
      exfalso
      rw [e1, sq_mul, sq_mul] at u1 lo'
      rcases sq_some k with a | a | a <;> rcases sq_some (B + B2 + m + 1 - z) with a1 | a1 | a1 <;> rcases sq_some (-(h2 * p) - z) with a2 | a2 | a2 <;> rw [a, a1] at u1 <;> rw [a, a2] at lo' <;> first | exact absurd u1 (by decide) | exact absurd lo' (by decide)
    | three z k c' hk hc e1 e2 =>
      exfalso
      have := (co3 (p := q + k * (z * z * z)) (q := p - 3 * k * (z * z)) (r := 1 + 3 * k * z) (s := -k) fun x => by
        have := e1 x
        rw [iv'] at this
        grind).2.2.2
      exact hk (by grind)
    | four z v k c' ne hk hc e1 e2 =>
      exfalso
      have := (co3 (p := q + k * (z * z * v)) (q := p - k * (z * z + 2 * (z * v))) (r := 1 + k * (2 * z + v)) (s := -k) fun x => by
        have := e1 x
        rw [iv'] at this
        grind).2.2.2
      exact hk (by grind)
  · intro hd
    have hd' : (p : Rat) * p - 4 * q = 0 := by
      have : ((p * p - 4 * q : Int) : Rat) = 0 := by rw [hd]; rfl
      rw [Rat.intCast_sub, Rat.intCast_mul, Rat.intCast_mul] at this
      exact this
    have sq' : ∀ x, iv [q, p, 1] x = 1 * ((x - -(h2 * p)) * (x - -(h2 * p))) := fun x => by
      rw [iv']
      have : 4 * (q : Rat) = p * p := by grind
      grind
    rcases last with ⟨k, hk, ek⟩ | hlt
    · exact absurd (c.no2 (k⁻¹ * 1) (-(h2 * p)) fun x => by rw [div_of hk (ek x), sq']; grind) id
    · have up : ends (chain [q, p, 1]) ≤ 1 := by
        obtain ⟨B, hB, hv⟩ := S.far
        have := hv B Rat.le_refl
        have v1 := vs_le (chain [q, p, 1]) (-B)
        simp at hlt
        omega
      have hz : ∀ z c' : Rat, c' ≠ 0 → (∀ x, iv h x = c' * (x - z)) → 1 ≤ ends (chain [q, p, 1]) := fun z c' hc' e0 => by
        have d := c.drop0 (x := z - 1) (y := z) (by grind) (by rw [e0]; grind) (by rw [e0]; grind)
        have := P3 (z - 1) z (by grind)
        rw [e] at this ⊢
        omega
      cases fm with
      | one k hk ek => exact absurd (c.no2 (k⁻¹ * 1) (-(h2 * p)) fun x => by rw [div_of hk (ek x), sq']; grind) id
      | two z k c' hk hc e1 e2 => have := hz z c' hc e2; omega
      | three z k c' hk hc e1 e2 => have := hz z c' hc e2; omega
      | four z v k c' ne hk hc e1 e2 =>
        exfalso
        have := (co3 (p := q + k * (z * z * v)) (q := p - k * (z * z + 2 * (z * v))) (r := 1 + k * (2 * z + v)) (s := -k) fun x => by
          have := e1 x
          rw [iv'] at this
          grind).2.2.2
        exact hk (by grind)

end Go.Proofs.Ytbdpcpodmmhjaaa.Stu
