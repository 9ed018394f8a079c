/- Plain facts on the document's chain of a row of two to four whole factors: it is a chain of what the row is, or of what comes to 0 once where the row does so more than once. No program is named here. -/
import Derived.Test.YtbdpcpodmmhjaaaStF
namespace Go.Proofs.Ytbdpcpodmmhjaaa.Stu
set_option linter.unusedVariables false

/-- What the first one of a chain has to do with the row. -/
inductive Form (f h : Rat → Rat) : Prop
  | one (k : Rat) (hk : 0 < k) (e : ∀ x, f x = k * h x)
  | two (t k c : Rat) (hk : k ≠ 0) (hc : c ≠ 0) (e : ∀ x, f x = k * ((x - t) * (x - t))) (e' : ∀ x, h x = c * (x - t))
  | three (t k c : Rat) (hk : k ≠ 0) (hc : c ≠ 0) (e : ∀ x, f x = k * ((x - t) * (x - t) * (x - t))) (e' : ∀ x, h x = c * (x - t))
  | four (t v k c : Rat) (ne : t ≠ v) (hk : k ≠ 0) (hc : c ≠ 0) (e : ∀ x, f x = k * ((x - t) * (x - t) * (x - v))) (e' : ∀ x, h x = c * ((x - t) * (x - v)))

theorem lst_a {a b : List Int} (h : dr a b = []) : lst (a :: b :: tl 8 a b) = b := by
  rw [tl, if_pos h]; rfl
theorem lst_b {a b : List Int} (h : dr a b ≠ []) (h2 : dr b ((dr a b).map (- ·)) = []) : lst (a :: b :: tl 8 a b) = (dr a b).map (- ·) := by
  rw [tl, if_neg h, tl, if_pos h2]; rfl
theorem lst_c {a b r : List Int} (h : dr a b ≠ []) (hr : r = (dr a b).map (- ·)) (h2 : dr b r ≠ []) (h3 : dr r ((dr b r).map (- ·)) = []) : lst (a :: b :: tl 8 a b) = (dr b r).map (- ·) := by
  rw [tl, if_neg h, ← hr, tl, if_neg h2, tl, if_pos h3]; rfl
theorem dr_one {a b : List Int} (hb : b.length = 1) (tb : Tp b) (ha : a.length ≤ 8) : dr a b = [] := by
  have := (split_val a b (fun e => by rw [e] at hb; cases hb) tb ha).1
  exact List.eq_nil_of_length_eq_zero (by omega)
theorem neg_len (l : List Int) : (l.map (- ·)).length = l.length := List.length_map ..
theorem rst_eq {f : List Int} (h : 2 ≤ f.length) (t : Tp f) : rst f = pl f :: pl (slp f) :: tl 8 (pl f) (pl (slp f)) := by
  unfold rst
  rw [if_neg fun e => by have := (pl_slope h t).2.2.1; rw [e] at this; simp at this; omega]
/-- Power 1. -/
theorem rst_two {f : List Int} (h : f.length = 2) (t : Tp f) : (lst (rst f)).length < 2 := by
  obtain ⟨l1, t1, l2, t2, _, _⟩ := pl_slope (by omega) t
  rw [rst_eq (by omega) t, lst_a (dr_one (by omega) t2 (by omega))]
  omega
/-- Power 2: a chain, or a square. -/
theorem rst_three {f : List Int} (h : f.length = 3) (t : Tp f) : (lst (rst f)).length < 2 ∨ dr (pl f) (pl (slp f)) = [] ∧ lst (rst f) = pl (slp f) := by
  obtain ⟨l1, t1, l2, t2, _, _⟩ := pl_slope (by omega) t
  have hb : pl (slp f) ≠ [] := fun e => by rw [e] at l2; simp at l2; omega
  rw [rst_eq (by omega) t]
  by_cases h0 : dr (pl f) (pl (slp f)) = []
  · exact .inr ⟨h0, lst_a h0⟩
  · left
    obtain ⟨h1, _, h3, _⟩ := split_val (pl f) (pl (slp f)) hb t2 (by omega)
    have h4 := List.length_pos_iff.2 h0
    rw [lst_b h0 (dr_one (by rw [neg_len]; omega) h3.neg (by omega)), neg_len]
    omega
/-- What comes of a row of two. -/
theorem rst_line {q0 q1 : Int} (h : q1 ≠ 0) : ∃ b l, rst [q0, q1] = pl [q0, q1] :: b :: l ∧ Cn (pl [q0, q1]) b l ∧ ∃ k : Rat, 0 < k ∧ ∀ x, iv [q0, q1] x = k * iv (pl [q0, q1]) x := by
  have t : Tp [q0, q1] := fun _ => h
  obtain ⟨e, c⟩ := rst_cn (f := [q0, q1]) (by simp) (by simp) t (rst_two (by simp) t)
  exact ⟨_, _, e, c, (pl_slope (by simp) t).2.2.2.2.1⟩

theorem chain_form {f : List Int} (h2 : 2 ≤ f.length) (h4 : f.length ≤ 4) (t : Tp f) : ∃ h b l, chain f = h :: b :: l ∧ Cn h b l ∧ Form (iv f) (iv h) := by
  obtain ⟨l1, t1, l2, t2, ⟨k0, hk0, hv0⟩, hs⟩ := pl_slope h2 t
  have hb : pl (slp f) ≠ [] := fun e => by rw [e] at l2; simp at l2; omega
  have simple : (lst (rst f)).length < 2 → ∃ h b l, chain f = h :: b :: l ∧ Cn h b l ∧ Form (iv f) (iv h) := fun h => by
    obtain ⟨e, c⟩ := rst_cn h2 (by omega) t h
    exact ⟨_, _, _, by unfold chain; rw [if_pos h]; exact e, c, .one k0 hk0 hv0⟩
  rcases show f.length = 2 ∨ f.length = 3 ∨ f.length = 4 by omega with h | h | h
  · exact simple (rst_two h t)
  · rcases rst_three h t with h' | ⟨h0, hl⟩
    · exact simple h'
    · obtain ⟨z, k, q0, q1, hq, hq1, hk, hr, hv⟩ := sq2 (by omega) t1 (by omega) t2 hs h0
      obtain ⟨b, l, e1, e2, m, hm, e3⟩ := rst_line hq1 (q0 := q0)
      refine ⟨_, b, l, ?_, e2, .two z (k0 * k) ((q1 : Rat) * m⁻¹) (fun e => by rcases Rat.mul_eq_zero.1 e with e | e; grind; exact hk e) (fun e => by
        rcases Rat.mul_eq_zero.1 e with e | e
        · exact castne hq1 e
        · have := Rat.inv_pos.2 hm; grind) (fun x => by rw [hv0, hv]; grind) fun x => ?_⟩
      · unfold chain
        rw [if_neg (by rw [hl]; omega), hl, hq]
        exact e1
      · have := e3 x
        rw [iv2, hr] at this
        have e : m * m⁻¹ = 1 := Rat.mul_inv_cancel _ (by grind)
        generalize m⁻¹ = i at *
        generalize iv (pl [q0, q1]) x = y at *
        clear e3 hv hv0 hs
        grind
  · -- power 3
    by_cases h0 : dr (pl f) (pl (slp f)) = []
    · obtain ⟨z, k, q0, q1, hq, hq1, hk, hr, hv⟩ := sq3 (by omega) t1 (by omega) t2 hs h0
      obtain ⟨b, l, e1, e2, m, hm, e3⟩ := rst_line hq1 (q0 := q0)
      have hl : lst (rst f) = pl (slp f) := by rw [rst_eq h2 t, lst_a h0]
      refine ⟨_, b, l, ?_, e2, .three z (k0 * k) ((q1 : Rat) * m⁻¹) (fun e => by rcases Rat.mul_eq_zero.1 e with e | e; grind; exact hk e) (fun e => by
        rcases Rat.mul_eq_zero.1 e with e | e
        · exact castne hq1 e
        · have := Rat.inv_pos.2 hm; grind) (fun x => by rw [hv0, hv]; grind) fun x => ?_⟩
      · unfold chain
        rw [if_neg (by rw [hl]; omega), hl, hq]
        exact e1
      · have := e3 x
        rw [iv2, hr] at this
        have e : m * m⁻¹ = 1 := Rat.mul_inv_cancel _ (by grind)
        generalize m⁻¹ = i at *
        generalize iv (pl [q0, q1]) x = y at *
        clear e3 hv hv0 hs
        grind
    · obtain ⟨z1, _, z3, _⟩ := split_val (pl f) (pl (slp f)) hb t2 (by omega)
      have z4 := List.length_pos_iff.2 h0
      obtain ⟨r, hr⟩ : ∃ r, r = (dr (pl f) (pl (slp f))).map (- ·) := ⟨_, rfl⟩
      have lr : r.length = (dr (pl f) (pl (slp f))).length := by rw [hr, neg_len]
      have tr : Tp r := by rw [hr]; exact z3.neg
      have hrn : r ≠ [] := fun e => by rw [e] at lr; simp at lr; omega
      by_cases hr1 : r.length = 1
      · exact simple (by rw [rst_eq h2 t, lst_b h0 (by rw [← hr]; exact dr_one hr1 tr (by omega)), ← hr]; omega)
      · by_cases h1 : dr (pl (slp f)) r = []
        · have hl : lst (rst f) = r := by rw [rst_eq h2 t, lst_b h0 (by rw [← hr]; exact h1), ← hr]
          obtain ⟨z, v, k, q0, q1, q2, hq, hq2, ne, hk, hv, hv2⟩ := sq4 (by omega) t1 (by omega) t2 hs hr (by omega) tr h1
          have tq : Tp [q0, q1, q2] := fun _ => hq2
          obtain ⟨m1, m2, m3, m4, ⟨m, hm, e3⟩, m6⟩ := pl_slope (f := [q0, q1, q2]) (by simp) tq
          have hs2 : (lst (rst [q0, q1, q2])).length < 2 := by
            rcases rst_three (by simp) tq with h' | ⟨h', _⟩
            · exact h'
            · exfalso
              obtain ⟨y, k', _, _, _, _, hk', _, hv'⟩ := sq2 (by rw [m1]; rfl) m2 (by rw [m3]; rfl) m4 m6 h'
              have key := co3 (p := q2 * (z * v) - m * k' * (y * y)) (q := q2 * -(z + v) + m * k' * (2 * y)) (r := q2 - m * k') (s := 0) fun x => by
                have e1 := hv2 x
                rw [e3 x, hv' x] at e1
                grind
              obtain ⟨a0, a1, a2, _⟩ := key
              have hq2' := castne hq2
              have b1 : z + v = 2 * y := cancel hq2' (by grind)
              have b0 : z * v = y * y := cancel hq2' (by grind)
              have : (z - v) * (z - v) = 0 := by grind
              rcases Rat.mul_eq_zero.1 this with h | h <;> exact ne (by grind)
          obtain ⟨e, c⟩ := rst_cn (by simp) (by simp) tq hs2
          refine ⟨_, _, _, ?_, c, .four z v (k0 * k) ((q2 : Rat) * m⁻¹) ne (fun e => by rcases Rat.mul_eq_zero.1 e with e | e; grind; exact hk e) (fun e => by
            rcases Rat.mul_eq_zero.1 e with e | e
            · exact castne hq2 e
            · have := Rat.inv_pos.2 hm; grind) (fun x => by rw [hv0, hv]; grind) fun x => ?_⟩
          · unfold chain
            rw [if_neg (by rw [hl]; omega), hl, hq]
            exact e
          · have := e3 x
            rw [hv2] at this
            have e : m * m⁻¹ = 1 := Rat.mul_inv_cancel _ (by grind)
            generalize m⁻¹ = i at *
            generalize iv (pl [q0, q1, q2]) x = y at *
            clear e3 hv hv0 hs hv2
            grind
        · obtain ⟨y1, _, y3, _⟩ := split_val (pl (slp f)) r hrn tr (by omega)
          have y4 := List.length_pos_iff.2 h1
          exact simple (by
            rw [rst_eq h2 t, lst_c h0 hr h1 (dr_one (by rw [neg_len]; omega) y3.neg (by omega)), neg_len]
            omega)

end Go.Proofs.Ytbdpcpodmmhjaaa.Stu
