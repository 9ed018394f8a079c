/- Plain facts on the document's chain of a row of two to four whole factors: what comes to 0 more than once. No program is named here. -/
import Derived.Test.YtbdpcpodmmhjaaaStE
namespace Go.Proofs.Ytbdpcpodmmhjaaa.Stu
set_option linter.unusedVariables false

theorem co3 {p q r s : Rat} (h : ∀ x : Rat, p + q * x + r * (x * x) + s * (x * x * x) = 0) : p = 0 ∧ q = 0 ∧ r = 0 ∧ s = 0 := by
  have h0 := h 0
  have h1 := h 1
  have h2 := h (-1)
  have h3 := h 2
  clear h
  refine ⟨by grind, by grind, by grind, by grind⟩
theorem root_of {q0 q1 : Int} (h : q1 ≠ 0) : ∃ t : Rat, (q0 : Rat) = -(t * q1) := by
  have h1 : (q1 : Rat) ≠ 0 := fun e => h (Rat.intCast_eq_zero_iff.1 e)
  refine ⟨-((q0 : Rat) * (q1 : Rat)⁻¹), ?_⟩
  have e : (q1 : Rat) * (q1 : Rat)⁻¹ = 1 := Rat.mul_inv_cancel _ h1
  generalize (q1 : Rat)⁻¹ = i at *
  generalize (q1 : Rat) = a at *
  grind
theorem cancel {a b c : Rat} (ha : a ≠ 0) (h : a * b = a * c) : b = c := by
  have h1 : a * (b - c) = 0 := by grind
  rcases Rat.mul_eq_zero.1 h1 with h2 | h2
  · exact absurd h2 ha
  · grind
theorem iv2 (a b : Int) (x : Rat) : iv [a, b] x = a + x * b := by rw [iv_cons, iv_cons, iv_nil]; grind
theorem iv3 (a b c : Int) (x : Rat) : iv [a, b, c] x = a + x * b + x * x * c := by rw [iv_cons, iv_cons, iv_cons, iv_nil]; grind
theorem iv4 (a b c d : Int) (x : Rat) : iv [a, b, c, d] x = a + x * b + x * x * c + x * x * x * d := by rw [iv_cons, iv_cons, iv_cons, iv_cons, iv_nil]; grind
theorem rd3 (a b c : Int) (x : Rat) : rd (rl [a, b, c]) x = b + 2 * (x * c) := by
  show ((b : Rat) + x * ((c : Rat) + x * 0)) + x * (((c : Rat) + x * 0) + x * (0 + x * 0)) = _
  grind
theorem rd4 (a b c d : Int) (x : Rat) : rd (rl [a, b, c, d]) x = b + 2 * (x * c) + 3 * (x * x * d) := by
  show ((b : Rat) + x * ((c : Rat) + x * ((d : Rat) + x * 0))) + x * (((c : Rat) + x * ((d : Rat) + x * 0)) + x * (((d : Rat) + x * 0) + x * (0 + x * 0))) = _
  grind
theorem len2 {l : List Int} (h : l.length = 2) : ∃ a b, l = [a, b] := by
  match l, h with
  | [a, b], _ => exact ⟨a, b, rfl⟩
theorem len3 {l : List Int} (h : l.length = 3) : ∃ a b c, l = [a, b, c] := by
  match l, h with
  | [a, b, c], _ => exact ⟨a, b, c, rfl⟩
theorem len4 {l : List Int} (h : l.length = 4) : ∃ a b c d, l = [a, b, c, d] := by
  match l, h with
  | [a, b, c, d], _ => exact ⟨a, b, c, d, rfl⟩
theorem castne {z : Int} (h : z ≠ 0) : (z : Rat) ≠ 0 := fun e => h (Rat.intCast_eq_zero_iff.1 e)

/-- One of power 2 that its slope divides. -/
theorem sq2 {a b : List Int} (la : a.length = 3) (ta : Tp a) (lb : b.length = 2) (tb : Tp b) (hs : ∃ k : Rat, 0 < k ∧ ∀ x, iv b x = k * rd (rl a) x) (h0 : dr a b = []) :
    ∃ t k : Rat, ∃ q0 q1 : Int, dq a b = [q0, q1] ∧ q1 ≠ 0 ∧ k ≠ 0 ∧ (q0 : Rat) = -(t * q1) ∧ ∀ x, iv a x = k * ((x - t) * (x - t)) := by
  obtain ⟨A0, A1, A2, rfl⟩ := len3 la
  have hA2 : A2 ≠ 0 := ta (by simp)
  have hb : b ≠ [] := fun e => by rw [e] at lb; simp at lb
  obtain ⟨_, _, _, tq', c, u, e, hc, hu, he, hv⟩ := split_val [A0, A1, A2] b hb tb (by simp)
  have lq := dq_len [A0, A1, A2] b hb tb ta (by rw [lb]; simp) (by simp)
  rw [lb] at lq
  obtain ⟨q0, q1, hq⟩ := len2 lq
  rw [hq] at tq' hv
  have hq1 : q1 ≠ 0 := tq' (by simp)
  obtain ⟨k, hk, hsl⟩ := hs
  obtain ⟨t, ht⟩ := root_of (q0 := q0) hq1
  refine ⟨t, A2, q0, q1, hq, hq1, castne hA2, ht, ?_⟩
  have h2 := castne hA2
  have h3 := castne hq1
  have key := co3 (p := c * A0 - u * k * q0 * A1) (q := c * A1 - u * k * (q1 * A1 + 2 * (q0 * A2))) (r := c * A2 - u * k * 2 * (q1 * A2)) (s := 0) fun x => by
    have := hv x
    rw [h0, iv_nil, hsl x, iv3, iv2, rd3] at this
    grind
  obtain ⟨k0, k1, k2, _⟩ := key
  have hw : u * k ≠ 0 := by have := Rat.mul_pos hu hk; grind
  suffices goal : ∀ x : Rat, (A0 : Rat) + x * A1 + x * x * A2 = A2 * ((x - t) * (x - t)) from fun x => (iv3 A0 A1 A2 x).trans (goal x)
  clear hv hsl
  generalize (A0 : Rat) = a0 at *
  generalize (A1 : Rat) = a1 at *
  generalize (A2 : Rat) = a2 at *
  generalize (q0 : Rat) = p0 at *
  generalize (q1 : Rat) = p1 at *
  generalize u * k = w at *
  have c1 : c = w * (2 * p1) := cancel h2 (by grind)
  subst ht
  have c2 : a1 = -(2 * t * a2) := cancel (a := w * p1) (fun e => by rcases Rat.mul_eq_zero.1 e with h | h; exact hw h; exact h3 h) (by grind)
  have c3 : a0 = t * t * a2 := cancel (a := 2 * w * p1) (fun e => by
    rcases Rat.mul_eq_zero.1 e with h | h
    · rcases Rat.mul_eq_zero.1 h with h | h
      · exact absurd h (by decide)
      · exact hw h
    · exact h3 h) (by grind)
  intro x
  rw [c2, c3]
  grind
/-- One of power 3 that its slope divides. -/
theorem sq3 {a b : List Int} (la : a.length = 4) (ta : Tp a) (lb : b.length = 3) (tb : Tp b) (hs : ∃ k : Rat, 0 < k ∧ ∀ x, iv b x = k * rd (rl a) x) (h0 : dr a b = []) :
    ∃ t k : Rat, ∃ q0 q1 : Int, dq a b = [q0, q1] ∧ q1 ≠ 0 ∧ k ≠ 0 ∧ (q0 : Rat) = -(t * q1) ∧ ∀ x, iv a x = k * ((x - t) * (x - t) * (x - t)) := by
  obtain ⟨A0, A1, A2, A3, rfl⟩ := len4 la
  have hA3 : A3 ≠ 0 := ta (by simp)
  have hb : b ≠ [] := fun e => by rw [e] at lb; simp at lb
  obtain ⟨_, _, _, tq', c, u, e, hc, hu, he, hv⟩ := split_val [A0, A1, A2, A3] b hb tb (by simp)
  have lq := dq_len [A0, A1, A2, A3] b hb tb ta (by rw [lb]; simp) (by simp)
  rw [lb] at lq
  obtain ⟨q0, q1, hq⟩ := len2 lq
  rw [hq] at tq' hv
  have hq1 : q1 ≠ 0 := tq' (by simp)
  obtain ⟨k, hk, hsl⟩ := hs
  obtain ⟨t, ht⟩ := root_of (q0 := q0) hq1
  refine ⟨t, A3, q0, q1, hq, hq1, castne hA3, ht, ?_⟩
  have h2 := castne hA3
  have h3 := castne hq1
  have key := co3 (p := c * A0 - u * k * q0 * A1) (q := c * A1 - u * k * (q1 * A1 + 2 * (q0 * A2))) (r := c * A2 - u * k * (2 * (q1 * A2) + 3 * (q0 * A3))) (s := c * A3 - u * k * 3 * (q1 * A3)) fun x => by
    have := hv x
    rw [h0, iv_nil, hsl x, iv4, iv2, rd4] at this
    grind
  obtain ⟨k0, k1, k2, k3⟩ := key
  have hw : u * k ≠ 0 := by have := Rat.mul_pos hu hk; grind
  suffices goal : ∀ x : Rat, (A0 : Rat) + x * A1 + x * x * A2 + x * x * x * A3 = A3 * ((x - t) * (x - t) * (x - t)) from fun x => (iv4 A0 A1 A2 A3 x).trans (goal x)
  clear hv hsl
  generalize (A0 : Rat) = a0 at *
  generalize (A1 : Rat) = a1 at *
  generalize (A2 : Rat) = a2 at *
  generalize (A3 : Rat) = a3 at *
  generalize (q0 : Rat) = p0 at *
  generalize (q1 : Rat) = p1 at *
  generalize u * k = w at *
  have c1 : c = w * (3 * p1) := cancel h2 (by grind)
  subst ht
  have hwp : w * p1 ≠ 0 := fun e => by rcases Rat.mul_eq_zero.1 e with h | h; exact hw h; exact h3 h
  have c2 : a2 = -(3 * t * a3) := cancel hwp (by grind)
  have c3 : a1 = 3 * t * t * a3 := cancel hwp (by grind)
  have c4 : a0 = -(t * t * t * a3) := cancel hwp (by grind)
  intro x
  rw [c2, c3, c4]
  grind
/-- One of power 3 that has a row of two in common with its slope, and not the slope. -/
theorem sq4 {a b r : List Int} (la : a.length = 4) (ta : Tp a) (lb : b.length = 3) (tb : Tp b) (hs : ∃ k : Rat, 0 < k ∧ ∀ x, iv b x = k * rd (rl a) x) (hr : r = (dr a b).map (- ·)) (lr : r.length = 2) (tr : Tp r) (h0 : dr b r = []) :
    ∃ t v k : Rat, ∃ q0 q1 q2 : Int, dq a r = [q0, q1, q2] ∧ q2 ≠ 0 ∧ t ≠ v ∧ k ≠ 0 ∧ (∀ x, iv a x = k * ((x - t) * (x - t) * (x - v))) ∧ ∀ x, iv [q0, q1, q2] x = q2 * ((x - t) * (x - v)) := by
  obtain ⟨A0, A1, A2, A3, rfl⟩ := len4 la
  have hA3 : A3 ≠ 0 := ta (by simp)
  have hb : b ≠ [] := fun e => by rw [e] at lb; simp at lb
  have hrn : r ≠ [] := fun e => by rw [e] at lr; simp at lr
  obtain ⟨r0, r1, hre⟩ := len2 lr
  have hr1 : r1 ≠ 0 := by have := tr hrn; rw [hre] at this; exact this
  obtain ⟨t, ht⟩ := root_of (q0 := r0) hr1
  have ir : ∀ x, iv r x = r1 * (x - t) := fun x => by rw [hre, iv2, ht]; grind
  obtain ⟨k, hk, hsl⟩ := hs
  -- the slope comes to 0 there
  obtain ⟨_, _, _, _, c2, u2, e2, hc2, hu2, he2, hv2⟩ := split_val b r hrn tr (by omega)
  have bt : iv b t = 0 := by
    have := hv2 t
    rw [h0, iv_nil, ir] at this
    exact cancel (a := c2) (by grind) (by grind)
  obtain ⟨_, _, _, tq', c, u, e, hc, hu, he, hv⟩ := split_val [A0, A1, A2, A3] b hb tb (by simp)
  have idr : ∀ x, iv (dr [A0, A1, A2, A3] b) x = -(r1 * (x - t)) := fun x => by
    have := ir x
    rw [hr, iv_neg] at this
    grind
  have at0 : iv [A0, A1, A2, A3] t = 0 := by
    have := hv t
    rw [bt, idr] at this
    exact cancel (a := c) (by grind) (by grind)
  have sl0 : rd (rl [A0, A1, A2, A3]) t = 0 := by
    have := hsl t
    rw [bt] at this
    exact cancel (a := k) (by grind) (by grind)
  rw [iv4] at at0
  rw [rd4] at sl0
  have h2 := castne hA3
  -- the other place
  obtain ⟨v, hv0⟩ : ∃ v : Rat, (A2 : Rat) + 2 * t * A3 = -(v * A3) := by
    refine ⟨-(((A2 : Rat) + 2 * t * A3) * (A3 : Rat)⁻¹), ?_⟩
    have e := Rat.mul_inv_cancel _ h2
    generalize (A3 : Rat)⁻¹ = i at *
    clear hv hv2 hsl ir idr at0 sl0
    grind
  have fa : ∀ x, iv [A0, A1, A2, A3] x = A3 * ((x - t) * (x - t) * (x - v)) := fun x => by
    rw [iv4]
    have e2 : (A2 : Rat) = -(v * A3) - 2 * t * A3 := by grind
    have e1 : (A1 : Rat) = -(2 * (t * A2)) - 3 * (t * t * A3) := by grind
    have e0 : (A0 : Rat) = -(t * A1) - t * t * A2 - t * t * t * A3 := by grind
    rw [e0, e1, e2]
    clear hv hv2 hsl ir idr at0 sl0 hv0 e0 e1 e2
    grind
  -- how often the row of two goes
  obtain ⟨z1, _, z3, tz, c3, u3, e3, hc3, hu3, he3, hv3⟩ := split_val [A0, A1, A2, A3] r hrn tr (by simp)
  have d0 : ∀ x, iv (dr [A0, A1, A2, A3] r) x = 0 := by
    have h1 : iv (dr [A0, A1, A2, A3] r) t = 0 := by
      have := hv3 t
      rw [fa, ir] at this
      exact cancel (a := e3) (by grind) (by grind)
    rw [lr] at z1
    match hd : dr [A0, A1, A2, A3] r, z1 with
    | [], _ => exact fun x => rfl
    | [z], _ =>
      rw [hd, iv_cons, iv_nil] at h1
      exact fun x => by rw [iv_cons, iv_nil]; grind
  have lq := dq_len [A0, A1, A2, A3] r hrn tr ta (by rw [lr]; simp) (by simp)
  rw [lr] at lq
  obtain ⟨q0, q1, q2, hq⟩ := len3 lq
  rw [hq] at tz
  have hq2 : q2 ≠ 0 := tz (by simp)
  have hr1' := castne hr1
  have hq2' := castne hq2
  have key := co3 (p := c3 * A3 * -(t * t * v) - u3 * r1 * -(t * q0)) (q := c3 * A3 * (t * t + 2 * (t * v)) - u3 * r1 * (q0 - t * q1)) (r := c3 * A3 * -(2 * t + v) - u3 * r1 * (q1 - t * q2)) (s := c3 * A3 - u3 * r1 * q2) fun x => by
    have := hv3 x
    rw [d0, fa, ir, hq, iv3] at this
    grind
  obtain ⟨k0, k1, k2, k3⟩ := key
  have hw : u3 * (r1 : Rat) ≠ 0 := fun e => by rcases Rat.mul_eq_zero.1 e with h | h; grind; exact hr1' h
  have hne : t ≠ v := fun etv => by
    subst etv
    -- then the slope divides
    have lq2 := dq_len [A0, A1, A2, A3] b hb tb ta (by rw [lb]; simp) (by simp)
    rw [lb] at lq2
    obtain ⟨p0, p1, hp⟩ := len2 lq2
    have sb : ∀ x, iv b x = 3 * k * A3 * ((x - t) * (x - t)) := fun x => by
      rw [hsl x, rd4]
      have e2 : (A2 : Rat) = -(3 * t * A3) := by grind
      have e1 : (A1 : Rat) = 3 * (t * t * A3) := by grind
      rw [e1, e2]
      clear hv hv2 hv3 hsl ir idr at0 sl0 hv0 e1 e2 fa d0
      grind
    have key2 := co3 (p := 0) (q := e * r1) (r := -(3 * u * k * A3 * (p0 + p1 * t))) (s := c * A3 - 3 * u * k * A3 * p1) fun x => by
      have := hv (t + x)
      rw [idr, sb, fa, hp, iv2] at this
      clear hv hv2 hv3 hsl ir idr at0 sl0 hv0 fa d0 sb
      grind
    have := key2.2.1
    rcases Rat.mul_eq_zero.1 this with h | h
    · grind
    · exact hr1' h
  refine ⟨t, v, A3, q0, q1, q2, hq, hq2, hne, h2, fa, ?_⟩
  suffices goal : ∀ x : Rat, (q0 : Rat) + x * q1 + x * x * q2 = q2 * ((x - t) * (x - v)) from fun x => (iv3 q0 q1 q2 x).trans (goal x)
  clear hv hv2 hv3 hsl ir idr at0 sl0 hv0 fa d0 hne
  generalize u3 * (r1 : Rat) = w at *
  generalize c3 * (A3 : Rat) = m at *
  generalize (q0 : Rat) = p0 at *
  generalize (q1 : Rat) = p1 at *
  generalize (q2 : Rat) = p2 at *
  have g1 : p1 = -(p2 * (t + v)) := cancel hw (by grind)
  have g0 : p0 = p2 * (t * v) := cancel hw (by grind)
  intro x
  rw [g0, g1]
  grind

end Go.Proofs.Ytbdpcpodmmhjaaa.Stu
