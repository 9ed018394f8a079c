/- Plain facts on the document's chain: the row turned about has as many places; turns of signs of the factors (Descartes); squares plus a number. No program is named here. -/
import Derived.Test.YtbdpcpodmmhjaaaDoorStJ
namespace Go.Proofs.YtbdpcpodmmhjaaaDoor.Stu
set_option linter.unusedVariables false

/-- The first one of a chain comes to 0 at no place twice. -/
theorem Cn.no {h b : List Int} {l : List (List Int)} (c : Cn h b l) (r : Rat) (h0 : iv h r = 0) (h1 : rd (rl h) r = 0) : False := by
  obtain ⟨a, ha, hs⟩ := c.slope
  obtain ⟨b0, hb0, hb⟩ := bd_self r
  obtain ⟨d, hd, hv⟩ := c.ch.apart b0 hb0
  have := hv r hb
  rw [hs r, h1, rl_val, h0] at this
  have z : ab 0 = 0 := by unfold ab; rw [if_pos (by grind)]
  have z2 : a * 0 = 0 := by grind
  rw [z2, z] at this
  grind
theorem Cn.no2 {h b : List Int} {l : List (List Int)} (c : Cn h b l) (k r : Rat) (hv : ∀ x, iv h x = k * ((x - r) * (x - r))) : False := by
  have hs := rd_same (l := rl h) (m := [k * (r * r), -(2 * k * r), k]) (fun x => by
    rw [rl_val, hv]
    show _ = k * (r * r) + x * (-(2 * k * r) + x * (k + x * 0))
    grind) r
  refine c.no r (by rw [hv]; grind) (hs.trans ?_)
  show (-(2 * k * r) + r * (k + r * 0)) + r * ((k + r * 0) + r * (0 + r * 0)) = 0
  grind
theorem Cn.no3 {h b : List Int} {l : List (List Int)} (c : Cn h b l) (k r s : Rat) (hv : ∀ x, iv h x = k * ((x - r) * (x - r) * (x - s))) : False := by
  have hs := rd_same (l := rl h) (m := [-(k * (r * r * s)), k * (r * r + 2 * (r * s)), -(k * (2 * r + s)), k]) (fun x => by
    rw [rl_val, hv]
    show _ = -(k * (r * r * s)) + x * (k * (r * r + 2 * (r * s)) + x * (-(k * (2 * r + s)) + x * (k + x * 0)))
    grind) r
  refine c.no r (by rw [hv]; grind) (hs.trans ?_)
  show (k * (r * r + 2 * (r * s)) + r * (-(k * (2 * r + s)) + r * (k + r * 0))) + r * ((-(k * (2 * r + s)) + r * (k + r * 0)) + r * ((k + r * 0) + r * (0 + r * 0))) = 0
  grind
theorem div_of {k y p : Rat} (hk : 0 < k) (h : p = k * y) : y = k⁻¹ * p := by
  have := Rat.mul_inv_cancel k (by grind)
  rw [h]
  generalize k⁻¹ = i at *
  grind
theorem inv_ne' {k : Rat} (hk : 0 < k) : k⁻¹ ≠ 0 := by have := Rat.inv_pos.2 hk; grind
/-- The first ones of the chains of a row and of the row turned about. -/
theorem flip_head {F : Rat → Rat} {h b h' b' : List Int} {l l' : List (List Int)} (c : Cn h b l) (c' : Cn h' b' l') (fm : Form F (iv h)) (fm' : Form (fun x => F (-x)) (iv h')) : ∃ k : Rat, k ≠ 0 ∧ ∀ x, iv h' (-x) = k * iv h x := by
  cases fm with
  | one k hk e =>
    have eh : ∀ x, iv h x = k⁻¹ * F x := fun x => div_of hk (e x)
    cases fm' with
    | one k' hk' e' =>
      refine ⟨k * k'⁻¹, fun e0 => ?_, fun x => ?_⟩
      · rcases Rat.mul_eq_zero.1 e0 with h | h
        · grind
        · exact inv_ne' hk' h
      · have := div_of hk' (e' (-x))
        rw [show - -x = x by grind, e x] at this
        rw [this]; grind
    | two t k' c0 hk' hc e1 e2 => exact absurd (c.no2 (k⁻¹ * k') (-t) fun x => by have := e1 (-x); rw [show - -x = x by grind] at this; rw [eh, this]; grind) id
    | three t k' c0 hk' hc e1 e2 => exact absurd (c.no3 (-(k⁻¹ * k')) (-t) (-t) fun x => by have := e1 (-x); rw [show - -x = x by grind] at this; rw [eh, this]; grind) id
    | four t v k' c0 ne hk' hc e1 e2 => exact absurd (c.no3 (-(k⁻¹ * k')) (-t) (-v) fun x => by have := e1 (-x); rw [show - -x = x by grind] at this; rw [eh, this]; grind) id
  | two t k c0 hk hc e1 e2 =>
    cases fm' with
    | one k' hk' e' => exact absurd (c'.no2 (k'⁻¹ * k) (-t) fun x => by rw [div_of hk' (e' x), e1]; grind) id
    | two t' k' c0' hk' hc' e1' e2' =>
      have ht : t' = -t := by
        have := e1' t'
        rw [e1] at this
        have h0 : k * ((-t' - t) * (-t' - t)) = 0 := by rw [this]; grind
        rcases Rat.mul_eq_zero.1 h0 with h | h
        · exact absurd h hk
        · rcases Rat.mul_eq_zero.1 h with h | h <;> grind
      have hi := Rat.mul_inv_cancel c0 hc
      refine ⟨-(c0' * c0⁻¹), fun e0 => ?_, fun x => ?_⟩
      · have : c0' * c0⁻¹ = 0 := by grind
        rcases Rat.mul_eq_zero.1 this with h | h
        · exact hc' h
        · rw [h] at hi; grind
      · rw [e2', e2, ht]
        generalize c0⁻¹ = i at *
        grind
    | three t' k' c0' hk' hc' e1' e2' =>
      have := (co3 (p := k * (t * t) + k' * (t' * t' * t')) (q := 2 * k * t - 3 * k' * (t' * t')) (r := k + 3 * k' * t') (s := -k') fun x => by
        have := e1' x
        rw [e1] at this
        grind).2.2.2
      exact absurd (by grind) hk'
    | four t' v' k' c0' ne' hk' hc' e1' e2' =>
      have := (co3 (p := k * (t * t) + k' * (t' * t' * v')) (q := 2 * k * t - k' * (t' * t' + 2 * (t' * v'))) (r := k + k' * (2 * t' + v')) (s := -k') fun x => by
        have := e1' x
        rw [e1] at this
        grind).2.2.2
      exact absurd (by grind) hk'
  | three t k c0 hk hc e1 e2 =>
    have zt : ∀ x, F (-x) = 0 → x = -t := fun x hx => by
      rw [e1] at hx
      rcases Rat.mul_eq_zero.1 hx with h | h
      · exact absurd h hk
      · rcases Rat.mul_eq_zero.1 h with h | h
        · rcases Rat.mul_eq_zero.1 h with h | h <;> grind
        · grind
    cases fm' with
    | one k' hk' e' => exact absurd (c'.no3 (-(k'⁻¹ * k)) (-t) (-t) fun x => by rw [div_of hk' (e' x), e1]; grind) id
    | two t' k' c0' hk' hc' e1' e2' =>
      have := (co3 (p := -(k * (t * t * t)) - k' * (t' * t')) (q := -(3 * k * (t * t)) + 2 * k' * t') (r := -(3 * k * t) - k') (s := -k) fun x => by
        have := e1' x
        rw [e1] at this
        grind).2.2.2
      exact absurd (by grind) hk
    | three t' k' c0' hk' hc' e1' e2' =>
      have ht : t' = -t := zt t' (by rw [e1']; grind)
      have hi := Rat.mul_inv_cancel c0 hc
      refine ⟨-(c0' * c0⁻¹), fun e0 => ?_, fun x => ?_⟩
      · have : c0' * c0⁻¹ = 0 := by grind
        rcases Rat.mul_eq_zero.1 this with h | h
        · exact hc' h
        · rw [h] at hi; grind
      · rw [e2', e2, ht]
        generalize c0⁻¹ = i at *
        grind
    | four t' v' k' c0' ne' hk' hc' e1' e2' =>
      exact absurd ((zt t' (by rw [e1']; grind)).trans (zt v' (by rw [e1']; grind)).symm) ne'
  | four t v k c0 ne hk hc e1 e2 =>
    cases fm' with
    | one k' hk' e' => exact absurd (c'.no3 (-(k'⁻¹ * k)) (-t) (-v) fun x => by rw [div_of hk' (e' x), e1]; grind) id
    | two t' k' c0' hk' hc' e1' e2' =>
      have := (co3 (p := -(k * (t * t * v)) - k' * (t' * t')) (q := -(k * (t * t + 2 * (t * v))) + 2 * k' * t') (r := -(k * (2 * t + v)) - k') (s := -k) fun x => by
        have := e1' x
        rw [e1] at this
        grind).2.2.2
      exact absurd (by grind) hk
    | three t' k' c0' hk' hc' e1' e2' =>
      have zt : ∀ x, F x = 0 → -x = t' := fun x hx => by
        have := e1' (-x)
        rw [show - -x = x by grind, hx] at this
        rcases Rat.mul_eq_zero.1 this.symm with h | h
        · exact absurd h hk'
        · rcases Rat.mul_eq_zero.1 h with h | h
          · rcases Rat.mul_eq_zero.1 h with h | h <;> grind
          · grind
      have := (zt t (by rw [e1]; grind)).trans (zt v (by rw [e1]; grind)).symm
      exact absurd (by grind) ne
    | four t' v' k' c0' ne' hk' hc' e1' e2' =>
      have zt : ∀ x, F (-x) = 0 → x = -t ∨ x = -v := fun x hx => by
        rw [e1] at hx
        rcases Rat.mul_eq_zero.1 hx with h | h
        · exact absurd h hk
        · rcases Rat.mul_eq_zero.1 h with h | h
          · rcases Rat.mul_eq_zero.1 h with h | h <;> (left; grind)
          · right; grind
      have hi := Rat.mul_inv_cancel c0 hc
      refine ⟨c0' * c0⁻¹, fun e0 => ?_, fun x => ?_⟩
      · rcases Rat.mul_eq_zero.1 e0 with h | h
        · exact hc' h
        · rw [h] at hi; grind
      · rw [e2', e2]
        rcases zt t' (by rw [e1']; grind) with h1 | h1 <;> rcases zt v' (by rw [e1']; grind) with h2 | h2
        · exact absurd (h1.trans h2.symm) ne'
        · rw [h1, h2]; generalize c0⁻¹ = i at *; grind
        · rw [h1, h2]; generalize c0⁻¹ = i at *; grind
        · exact absurd (h1.trans h2.symm) ne'

/-- Between both chains. -/
theorem flip_const {h b h' b' : List Int} {l l' : List (List Int)} (c : Cn h b l) (c' : Cn h' b' l') {k : Rat} (hk : k ≠ 0) (e : ∀ x, iv h' (-x) = k * iv h x) {x y : Rat} (hxy : x ≤ y) :
    vs (h :: b :: l) x + vs (h' :: b' :: l') (-x) + (if iv h x = 0 then 1 else 0) = vs (h :: b :: l) y + vs (h' :: b' :: l') (-y) + (if iv h y = 0 then 1 else 0) := by
  obtain ⟨a1, p1, s1⟩ := c.slope
  obtain ⟨a2, p2, s2⟩ := c'.slope
  obtain ⟨B, hB, hb⟩ := bd_in x y
  obtain ⟨g1, q1, f1⟩ := c.ch.falls p1 s1 B hB
  obtain ⟨g2, q2, f2⟩ := c'.ch.falls p2 s2 B hB
  obtain ⟨m, hm, m1, m2⟩ := two_min q1 q2
  refine grid hm (fun u w => vs (h :: b :: l) u + vs (h' :: b' :: l') (-u) + (if iv h u = 0 then 1 else 0) = vs (h :: b :: l) w + vs (h' :: b' :: l') (-w) + (if iv h w = 0 then 1 else 0)) (fun _ => rfl) (lo := x) (hi := y) (fun u v w r1 r2 r3 r4 r5 r6 => r6.trans ?_) x y Rat.le_refl hxy Rat.le_refl
  have bv := hb v (Rat.le_trans r1 r2) (by grind)
  have bw := hb w (by grind) r4
  have t1 := f1 v w bv bw r3 (Rat.le_trans r5 m1)
  have t2 := f2 (-w) (-v) bw.neg bv.neg (by grind) (by grind)
  rw [← vs_vr, ← vs_vr] at t1 t2
  unfold Turn at t1 t2
  rw [rl_val, rl_val] at t1 t2
  rw [e, e, sq_mul, sq_mul] at t2
  have hkk := sq_ne hk
  have zz : ∀ q : Rat, (if q = 0 then 1 else 0 : Nat) = if sq q = 0 then 1 else 0 := fun q => by
    by_cases hq : q = 0
    · rw [if_pos hq, hq, sq_zero]; rfl
    · rw [if_neg hq, if_neg (sq_ne hq)]
  rw [zz, zz]
  rcases sq_some k with a | a | a
  rotate_left 2
  · exact absurd a hkk
  all_goals
    rw [a] at t2
    rcases sq_some (iv h v) with b1 | b1 | b1 <;> rcases sq_some (iv h w) with b2 | b2 | b2 <;> rw [b1, b2] at t1 t2 <;> rw [b1, b2] <;> simp at t1 t2 ⊢ <;> omega
/-- The row turned about has as many places. -/
theorem flip_ends {f : List Int} (h0 : f ≠ []) (h4 : f.length ≤ 4) (t : Tp f) : ends (chain (od false f)) = ends (chain f) := by
  have lg := od_len f false
  have hg := od_good (c := [f]) (fun g hg => by rw [List.mem_singleton.1 hg]; exact ⟨h0, t⟩) (od false f) (by simp)
  have S := sturm_of h0 h4 t
  have S' := sturm_of hg.1 (by omega) hg.2
  have h1 := List.length_pos_iff.2 h0
  by_cases hl : f.length = 1
  · rw [(sturm_one hl t).2.1, (sturm_one (by omega) hg.2).2.1]
  · obtain ⟨h, b, l, e, c, g, _, fm, _⟩ := chain_all (by omega) h4 t
    obtain ⟨h', b', l', e', c', g', _, fm', _⟩ := chain_all (f := od false f) (by omega) (by omega) hg.2
    have ef : iv (od false f) = fun x => iv f (-x) := funext fun x => od_iv f x
    rw [ef] at fm'
    obtain ⟨k, hk, hv⟩ := flip_head c c' fm fm'
    obtain ⟨B1, p1, v1⟩ := S.far
    obtain ⟨B2, p2, v2⟩ := S'.far
    have gh : h ≠ [] ∧ Tp h := g h (by rw [e]; simp)
    obtain ⟨B3, p3, v3⟩ := far [h] (fun g hg => by rw [List.mem_singleton.1 hg]; exact gh)
    obtain ⟨B4, p4, v4⟩ := far [od false h] (od_good (c := [h]) (fun g hg => by rw [List.mem_singleton.1 hg]; exact gh))
    have go := od_good (c := [h]) (fun g hg => by rw [List.mem_singleton.1 hg]; exact gh) (od false h) (by simp)
    have nz : ∀ z : Int, z ≠ 0 → sgz z ≠ 0 := fun z hz => by unfold sgz; split <;> (try split) <;> omega
    have w1 := v1 (B1 + B2 + B3 + B4) (by grind)
    have w2 := v2 (B1 + B2 + B3 + B4) (by grind)
    have w3 := v3 (B1 + B2 + B3 + B4) (by grind)
    have w4 := v4 (B1 + B2 + B3 + B4) (by grind)
    simp only [List.map_cons, List.map_nil, List.cons.injEq, and_true] at w3 w4
    rw [od_iv] at w4
    have n1 : iv h (B1 + B2 + B3 + B4) ≠ 0 := fun e0 => by rw [e0, sq_zero] at w3; exact nz _ (gh.2 gh.1) w3.symm
    have n2 : iv h (-(B1 + B2 + B3 + B4)) ≠ 0 := fun e0 => by rw [e0, sq_zero] at w4; exact nz _ (go.2 go.1) w4.symm
    have key := flip_const c c' hk hv (x := -(B1 + B2 + B3 + B4)) (y := B1 + B2 + B3 + B4) (by grind)
    rw [if_neg n1, if_neg n2, ← e, ← e', show - -(B1 + B2 + B3 + B4) = B1 + B2 + B3 + B4 by grind] at key
    omega

end Go.Proofs.YtbdpcpodmmhjaaaDoor.Stu
