/- Plain facts on the document's chain: no more places above 0 than signs of the factors turn (Descartes), for at most four factors. No program is named here. -/
import Derived.Test.YtbdpcpodmmhjaaaStK
namespace Go.Proofs.Ytbdpcpodmmhjaaa.Stu
set_option linter.unusedVariables false

/-- How often the signs of the factors turn. -/
def trn (f : List Int) : Nat := tr 0 (f.map sgz)
theorem tr_end : ∀ (l : List Int) (s : Int), tr s (l ++ [0]) = tr s l
  | [], s => by rw [List.nil_append, tr_nought]
  | t :: l, s => by
    rw [List.cons_append]
    by_cases h : t = 0
    · subst h; rw [tr_nought, tr_nought, tr_end l]
    · rw [tr_cons _ _ h, tr_cons _ _ h, tr_end l]
theorem trn_four {f : List Int} (h : f.length ≤ 4) : trn f = tr 0 [sgz (f.getD 0 0), sgz (f.getD 1 0), sgz (f.getD 2 0), sgz (f.getD 3 0)] := by
  have z : sgz 0 = 0 := rfl
  match f, h with
  | [], _ => rfl
  | [a], _ => exact ((tr_end ([sgz a] ++ [0] ++ [0]) 0).trans ((tr_end ([sgz a] ++ [0]) 0).trans (tr_end [sgz a] 0))).symm
  | [a, b], _ => exact ((tr_end ([sgz a, sgz b] ++ [0]) 0).trans (tr_end [sgz a, sgz b] 0)).symm
  | [a, b, c], _ => exact (tr_end [sgz a, sgz b, sgz c] 0).symm
  | [a, b, c, d], _ => rfl
theorem iv_four {f : List Int} (h : f.length ≤ 4) (x : Rat) : iv f x = (f.getD 0 0 : Int) + x * (f.getD 1 0 : Int) + x * x * (f.getD 2 0 : Int) + x * x * x * (f.getD 3 0 : Int) := by
  have z : ((0 : Int) : Rat) = 0 := rfl
  match f, h with
  | [], _ => show (0 : Rat) = ((0 : Int) : Rat) + x * ((0 : Int) : Rat) + x * x * ((0 : Int) : Rat) + x * x * x * ((0 : Int) : Rat); rw [z]; grind
  | [a], _ => show (a : Rat) + x * 0 = (a : Rat) + x * ((0 : Int) : Rat) + x * x * ((0 : Int) : Rat) + x * x * x * ((0 : Int) : Rat); rw [z]; grind
  | [a, b], _ => show (a : Rat) + x * (b + x * 0) = (a : Rat) + x * b + x * x * ((0 : Int) : Rat) + x * x * x * ((0 : Int) : Rat); rw [z]; grind
  | [a, b, c], _ => show (a : Rat) + x * (b + x * (c + x * 0)) = (a : Rat) + x * b + x * x * c + x * x * x * ((0 : Int) : Rat); rw [z]; grind
  | [a, b, c, d], _ => rw [iv4]; rfl
theorem sgz_some (z : Int) : (sgz z = 1 ∧ 0 < z) ∨ (sgz z = -1 ∧ z < 0) ∨ (sgz z = 0 ∧ z = 0) := by unfold sgz; split <;> (try split) <;> omega

theorem lt_prod {p q : Rat} (hp : 0 < p) (h : 0 < p * q) : 0 < q := by
  refine Classical.byContradiction fun hn => ?_
  have := Rat.mul_nonneg (a := p) (b := -q) (by grind) (by grind)
  grind
/-- Growth, where the first factors are not above 0 and the others not below 0. -/
theorem grow {p0 p1 p2 p3 x y : Rat} (hx : 0 < x) (hxy : x < y) (hv : 0 ≤ p0 + x * p1 + x * x * p2 + x * x * x * p3)
    (h : (p0 ≤ 0 ∧ 0 ≤ p1 ∧ 0 ≤ p2 ∧ 0 ≤ p3 ∧ (0 < p1 ∨ 0 < p2 ∨ 0 < p3)) ∨ (p0 ≤ 0 ∧ p1 ≤ 0 ∧ 0 ≤ p2 ∧ 0 ≤ p3 ∧ (0 < p2 ∨ 0 < p3)) ∨ (p0 ≤ 0 ∧ p1 ≤ 0 ∧ p2 ≤ 0 ∧ 0 < p3)) :
    0 < p0 + y * p1 + y * y * p2 + y * y * y * p3 := by
  have hy : 0 < y := by grind
  have d1 : 0 < y - x := by grind
  have xy := Rat.mul_pos hx hy
  have d2 : 0 < (y - x) * (x + y) := Rat.mul_pos d1 (by grind)
  have xx := Rat.mul_pos hx hx
  have yy := Rat.mul_pos hy hy
  have d3 : 0 < (y - x) * (x * x + x * y + y * y) := Rat.mul_pos d1 (by grind)
  rcases h with ⟨a0, a1, a2, a3, s⟩ | ⟨a0, a1, a2, a3, s⟩ | ⟨a0, a1, a2, a3⟩
  · have e1 := Rat.mul_nonneg a1 (show 0 ≤ y - x by grind)
    have e2 := Rat.mul_nonneg a2 (show 0 ≤ (y - x) * (x + y) by grind)
    have e3 := Rat.mul_nonneg a3 (show 0 ≤ (y - x) * (x * x + x * y + y * y) by grind)
    rcases s with s | s | s
    · have := Rat.mul_pos s d1; grind
    · have := Rat.mul_pos s d2; grind
    · have := Rat.mul_pos s d3; grind
  · have e0 := Rat.mul_nonneg (show 0 ≤ -p0 by grind) (show 0 ≤ y - x by grind)
    have f2 := Rat.mul_pos xy d1
    have f3 := Rat.mul_pos xy d2
    have e2 := Rat.mul_nonneg a2 (show 0 ≤ x * y * (y - x) by grind)
    have e3 := Rat.mul_nonneg a3 (show 0 ≤ x * y * ((y - x) * (x + y)) by grind)
    have ev := Rat.mul_nonneg hv (show 0 ≤ y by grind)
    refine lt_prod hx ?_
    rcases s with s | s
    · have := Rat.mul_pos s f2; grind
    · have := Rat.mul_pos s f3; grind
  · have e0 := Rat.mul_nonneg (show 0 ≤ -p0 by grind) (show 0 ≤ (y - x) * (x + y) by grind)
    have f1 := Rat.mul_pos xy d1
    have e1 := Rat.mul_nonneg (show 0 ≤ -p1 by grind) (show 0 ≤ x * y * (y - x) by grind)
    have f3 := Rat.mul_pos a3 (Rat.mul_pos (Rat.mul_pos xy xy) d1)
    have ev := Rat.mul_nonneg hv (show 0 ≤ y * y by grind)
    refine lt_prod xx ?_
    grind
theorem pos_all {p0 p1 p2 p3 x : Rat} (hx : 0 < x) (a0 : 0 ≤ p0) (a1 : 0 ≤ p1) (a2 : 0 ≤ p2) (a3 : 0 ≤ p3) (h : 0 < p0 ∨ 0 < p1 ∨ 0 < p2 ∨ 0 < p3) : 0 < p0 + x * p1 + x * x * p2 + x * x * x * p3 := by
  have xx := Rat.mul_pos hx hx
  have xxx := Rat.mul_pos xx hx
  have e1 := Rat.mul_nonneg (show 0 ≤ x by grind) a1
  have e2 := Rat.mul_nonneg (show 0 ≤ x * x by grind) a2
  have e3 := Rat.mul_nonneg (show 0 ≤ x * x * x by grind) a3
  rcases h with s | s | s | s
  · grind
  · have := Rat.mul_pos hx s; grind
  · have := Rat.mul_pos xx s; grind
  · have := Rat.mul_pos xxx s; grind
theorem cast_nn {z : Int} (h : 0 ≤ z) : (0 : Rat) ≤ z := Rat.intCast_le_intCast.2 h
theorem cast_np {z : Int} (h : z ≤ 0) : (z : Rat) ≤ 0 := Rat.intCast_le_intCast.2 h
theorem cast_p {z : Int} (h : 0 < z) : (0 : Rat) < z := Rat.intCast_pos.2 h

/-- None of the factors against another one: no place above 0. -/
theorem same_sign {f : List Int} (h0 : f ≠ []) (h4 : f.length ≤ 4) (t : Tp f) (hT : trn f = 0) : ∃ s : Rat, (s = 1 ∨ s = -1) ∧ 0 ≤ s * iv f 0 ∧ ∀ x, 0 < x → 0 < s * iv f x := by
  have hl := t h0
  unfold tp at hl
  have l1 := List.length_pos_iff.2 h0
  rw [trn_four h4] at hT
  have v := iv_four h4
  have nz : f.getD 0 0 ≠ 0 ∨ f.getD 1 0 ≠ 0 ∨ f.getD 2 0 ≠ 0 ∨ f.getD 3 0 ≠ 0 := by
    rcases show f.length - 1 = 0 ∨ f.length - 1 = 1 ∨ f.length - 1 = 2 ∨ f.length - 1 = 3 by omega with h | h | h | h <;> rw [h] at hl
    · exact .inl hl
    · exact .inr (.inl hl)
    · exact .inr (.inr (.inl hl))
    · exact .inr (.inr (.inr hl))
  generalize f.getD 0 0 = c0 at *
  generalize f.getD 1 0 = c1 at *
  generalize f.getD 2 0 = c2 at *
  generalize f.getD 3 0 = c3 at *
  have key : (0 ≤ c0 ∧ 0 ≤ c1 ∧ 0 ≤ c2 ∧ 0 ≤ c3) ∨ (c0 ≤ 0 ∧ c1 ≤ 0 ∧ c2 ≤ 0 ∧ c3 ≤ 0) := by
    rcases sgz_some c0 with ⟨a, a'⟩ | ⟨a, a'⟩ | ⟨a, a'⟩ <;> rcases sgz_some c1 with ⟨b, b'⟩ | ⟨b, b'⟩ | ⟨b, b'⟩ <;> rcases sgz_some c2 with ⟨c, c'⟩ | ⟨c, c'⟩ | ⟨c, c'⟩ <;> rcases sgz_some c3 with ⟨d, d'⟩ | ⟨d, d'⟩ | ⟨d, d'⟩ <;> rw [a, b, c, d] at hT <;>
      first
      | exact absurd hT (by decide)
      | (left; omega)
      | (right; omega)
  rcases key with ⟨a0, a1, a2, a3⟩ | ⟨a0, a1, a2, a3⟩
  · refine ⟨1, .inl rfl, by rw [v]; have := cast_nn a0; grind, fun x hx => ?_⟩
    rw [v]
    have := pos_all hx (cast_nn a0) (cast_nn a1) (cast_nn a2) (cast_nn a3) (by
      rcases nz with h | h | h | h
      · exact .inl (cast_p (by omega))
      · exact .inr (.inl (cast_p (by omega)))
      · exact .inr (.inr (.inl (cast_p (by omega))))
      · exact .inr (.inr (.inr (cast_p (by omega)))))
    grind
  · refine ⟨-1, .inr rfl, by rw [v]; have := cast_np a0; grind, fun x hx => ?_⟩
    rw [v]
    have b0 := cast_nn (z := -c0) (by omega)
    have b1 := cast_nn (z := -c1) (by omega)
    have b2 := cast_nn (z := -c2) (by omega)
    have b3 := cast_nn (z := -c3) (by omega)
    have := pos_all hx b0 b1 b2 b3 (by
      rcases nz with h | h | h | h
      · exact .inl (cast_p (by omega))
      · exact .inr (.inl (cast_p (by omega)))
      · exact .inr (.inr (.inl (cast_p (by omega))))
      · exact .inr (.inr (.inr (cast_p (by omega)))))
    rw [Rat.intCast_neg, Rat.intCast_neg, Rat.intCast_neg, Rat.intCast_neg] at this
    grind
/-- One turn: from the first place on one sign. -/
theorem one_turn {f : List Int} (h4 : f.length ≤ 4) (hT : trn f = 1) : ∃ s : Rat, (s = 1 ∨ s = -1) ∧ s * iv f 0 ≤ 0 ∧ ∀ x y, 0 < x → x < y → 0 ≤ s * iv f x → 0 < s * iv f y := by
  rw [trn_four h4] at hT
  have v := iv_four h4
  generalize f.getD 0 0 = c0 at *
  generalize f.getD 1 0 = c1 at *
  generalize f.getD 2 0 = c2 at *
  generalize f.getD 3 0 = c3 at *
  have key : ∃ s : Int, (s = 1 ∨ s = -1) ∧ ((s * c0 ≤ 0 ∧ 0 ≤ s * c1 ∧ 0 ≤ s * c2 ∧ 0 ≤ s * c3 ∧ (0 < s * c1 ∨ 0 < s * c2 ∨ 0 < s * c3)) ∨ (s * c0 ≤ 0 ∧ s * c1 ≤ 0 ∧ 0 ≤ s * c2 ∧ 0 ≤ s * c3 ∧ (0 < s * c2 ∨ 0 < s * c3)) ∨ (s * c0 ≤ 0 ∧ s * c1 ≤ 0 ∧ s * c2 ≤ 0 ∧ 0 < s * c3)) := by
    rcases sgz_some c0 with ⟨a, a'⟩ | ⟨a, a'⟩ | ⟨a, a'⟩ <;> rcases sgz_some c1 with ⟨b, b'⟩ | ⟨b, b'⟩ | ⟨b, b'⟩ <;> rcases sgz_some c2 with ⟨c, c'⟩ | ⟨c, c'⟩ | ⟨c, c'⟩ <;> rcases sgz_some c3 with ⟨d, d'⟩ | ⟨d, d'⟩ | ⟨d, d'⟩ <;> rw [a, b, c, d] at hT <;>
      first
      | exact absurd hT (by decide)
      | exact ⟨1, .inl rfl, by omega⟩
      | exact ⟨-1, .inr rfl, by omega⟩
  obtain ⟨s, hs, hk⟩ := key
  have cs : ∀ z : Int, ((s * z : Int) : Rat) = (s : Rat) * z := fun z => Rat.intCast_mul s z
  refine ⟨(s : Rat), by rcases hs with rfl | rfl; exact .inl rfl; exact .inr rfl, ?_, fun x y hx hxy hv => ?_⟩
  · rw [v]
    have : s * c0 ≤ 0 := by rcases hk with h | h | h <;> exact h.1
    have := cast_np this
    rw [cs] at this
    grind
  · rw [v] at hv ⊢
    have g := grow (p0 := (s * c0 : Int)) (p1 := (s * c1 : Int)) (p2 := (s * c2 : Int)) (p3 := (s * c3 : Int)) hx hxy (by rw [cs, cs, cs, cs]; grind) (by
      rcases hk with ⟨a0, a1, a2, a3, h⟩ | ⟨a0, a1, a2, a3, h⟩ | ⟨a0, a1, a2, a3⟩
      · exact .inl ⟨cast_np a0, cast_nn a1, cast_nn a2, cast_nn a3, by rcases h with h | h | h; exact .inl (cast_p h); exact .inr (.inl (cast_p h)); exact .inr (.inr (cast_p h))⟩
      · exact .inr (.inl ⟨cast_np a0, cast_np a1, cast_nn a2, cast_nn a3, by rcases h with h | h; exact .inl (cast_p h); exact .inr (cast_p h)⟩)
      · exact .inr (.inr ⟨cast_np a0, cast_np a1, cast_np a2, cast_p a3⟩))
    rw [cs, cs, cs, cs] at g
    grind

section
variable {f h b : List Int} {l : List (List Int)}
/-- Where signs of the first one turn, the row has a place or another sign. -/
theorem event (fm : Form (iv f) (iv h)) {u w : Rat} (huw : u < w) (ht : Turn (rl h) u w) : (sq (iv f u) ≠ 0 ∧ sq (iv f w) ≠ sq (iv f u)) ∨ ∃ z, u < z ∧ z ≤ w ∧ iv f z = 0 := by
  unfold Turn at ht
  rw [rl_val, rl_val] at ht
  have same : ∀ z, ¬ (u < z ∧ z ≤ w) → u ≠ z → sq (w - z) = sq (u - z) := fun z hz hne => by
    by_cases h : z < u
    · rw [sq_pos (show 0 < w - z by grind), sq_pos (show 0 < u - z by grind)]
    · rw [sq_neg (show w - z < 0 by grind), sq_neg (show u - z < 0 by grind)]
  have line : ∀ z c : Rat, (∀ x, iv h x = c * (x - z)) → u < z ∧ z ≤ w := fun z c e => Classical.byContradiction fun hn => by
    rw [e, e, sq_mul, sq_mul] at ht
    have hne : u ≠ z := fun e => by
      rw [e, show z - z = 0 by grind, sq_zero, Int.mul_zero] at ht
      exact ht.1 rfl
    exact ht.2 (by rw [same z hn hne])
  cases fm with
  | one k hk e =>
    left
    rw [e, e, sq_mul, sq_mul, sq_pos hk, Int.one_mul, Int.one_mul]
    exact ht
  | two z k c hk hc e e' => exact .inr ⟨z, (line z c e').1, (line z c e').2, by rw [e]; grind⟩
  | three z k c hk hc e e' => exact .inr ⟨z, (line z c e').1, (line z c e').2, by rw [e]; grind⟩
  | four z v k c ne hk hc e e' =>
    right
    by_cases h1 : u < z ∧ z ≤ w
    · exact ⟨z, h1.1, h1.2, by rw [e]; grind⟩
    · by_cases h2 : u < v ∧ v ≤ w
      · exact ⟨v, h2.1, h2.2, by rw [e]; grind⟩
      · exfalso
        rw [e', e', sq_mul, sq_mul, sq_mul, sq_mul] at ht
        have n1 : u ≠ z := fun e => by
          rw [e, show z - z = 0 by grind, sq_zero, Int.zero_mul, Int.mul_zero] at ht
          exact ht.1 rfl
        have n2 : u ≠ v := fun e => by
          rw [e, show v - v = 0 by grind, sq_zero, Int.mul_zero, Int.mul_zero] at ht
          exact ht.1 rfl
        exact ht.2 (by rw [same z h1 n1, same v h2 n2])
theorem Cn.some (c : Cn h b l) {x y : Rat} (hxy : x ≤ y) (hv : vs (h :: b :: l) y < vs (h :: b :: l) x) : ∃ u w, x ≤ u ∧ u < w ∧ w ≤ y ∧ Turn (rl h) u w := by
  obtain ⟨a, ha, hs⟩ := c.slope
  rw [vs_vr, vs_vr] at hv
  exact c.ch.turned ha hs hxy hv
/-- They fall step by step. -/
theorem Cn.mid (c : Cn h b l) {x y : Rat} (hxy : x ≤ y) (hv : vs (h :: b :: l) y + 2 ≤ vs (h :: b :: l) x) : ∃ z, x ≤ z ∧ z ≤ y ∧ vs (h :: b :: l) y < vs (h :: b :: l) z ∧ vs (h :: b :: l) z < vs (h :: b :: l) x := by
  refine Classical.byContradiction fun hn => ?_
  obtain ⟨a, ha, hs⟩ := c.slope
  obtain ⟨B, hB, hb⟩ := bd_in x y
  obtain ⟨h0, hh, H⟩ := c.ch.falls ha hs B hB
  have mono : ∀ p q : Rat, p ≤ q → vs (h :: b :: l) q ≤ vs (h :: b :: l) p := fun p q hpq => by rw [vs_vr, vs_vr]; exact c.ch.mono ha hs hpq
  have key := grid hh (fun u w => vs (h :: b :: l) u = vs (h :: b :: l) x → vs (h :: b :: l) w = vs (h :: b :: l) x) (fun _ e => e) (lo := x) (hi := y) (fun u v w q1 q2 q3 q4 q5 q6 q7 => by
    have e1 := q6 q7
    have st := H v w (hb v (Rat.le_trans q1 q2) (by grind)) (hb w (by grind) q4) q3 q5
    rw [← vs_vr, ← vs_vr] at st
    have m1 := mono w y q4
    have m2 := mono x w (by grind)
    have : vs (h :: b :: l) v ≤ vs (h :: b :: l) w + 1 := by
      by_cases ht : Turn (rl h) v w
      · rw [st.1 ht]; omega
      · rw [st.2 ht]; omega
    refine Classical.byContradiction fun hne => hn ⟨w, by grind, q4, ?_, ?_⟩
    · omega
    · omega) x y Rat.le_refl hxy Rat.le_refl rfl
  omega
end

/-- DESCARTES: no more places above 0 than turns. -/
theorem descartes {f : List Int} (h0 : f ≠ []) (h4 : f.length ≤ 4) (t : Tp f) {x y : Rat} (hx : 0 ≤ x) (hxy : x ≤ y) : vs (chain f) x ≤ vs (chain f) y + trn f := by
  have S := sturm_of h0 h4 t
  have l1 := List.length_pos_iff.2 h0
  by_cases hl : f.length = 1
  · rw [(sturm_one hl t).1, (sturm_one hl t).1]; omega
  obtain ⟨h, b, l, e, c, g, le, fm, last⟩ := chain_all (by omega) h4 t
  refine Classical.byContradiction fun hn => ?_
  rw [e] at hn
  -- one turn at least
  have T0 : trn f ≠ 0 := fun hT => by
    obtain ⟨s, hs, s0, sp⟩ := same_sign h0 h4 t hT
    obtain ⟨u, w, q1, q2, q3, ht⟩ := c.some hxy (by omega)
    rcases event fm q2 ht with ⟨a1, a2⟩ | ⟨z, a1, a2, a3⟩
    · have hw := sp w (by grind)
      have hu : 0 < s * iv f u := by
        by_cases hu0 : u = 0
        · rw [hu0] at a1 ⊢
          have : iv f 0 ≠ 0 := fun e => a1 (by rw [e, sq_zero])
          rcases hs with rfl | rfl <;> grind
        · exact sp u (by grind)
      rcases hs with rfl | rfl
      · exact a2 (by rw [sq_pos (show 0 < iv f w by grind), sq_pos (show 0 < iv f u by grind)])
      · exact a2 (by rw [sq_neg (show iv f w < 0 by grind), sq_neg (show iv f u < 0 by grind)])
    · have := sp z (by grind)
      rw [a3] at this
      grind
  have T1 : trn f ≠ 1 := fun hT => by
    obtain ⟨s, hs, s0, sp⟩ := one_turn h4 hT
    obtain ⟨m, m1, m2, m3, m4⟩ := c.mid hxy (by omega)
    obtain ⟨u, w, q1, q2, q3, ht⟩ := c.some m1 m4
    obtain ⟨u', w', q1', q2', q3', ht'⟩ := c.some m2 m3
    -- a place from which on the sign is s
    obtain ⟨z, z1, z2, z3⟩ : ∃ z, 0 < z ∧ z ≤ w ∧ 0 ≤ s * iv f z := by
      rcases event fm q2 ht with ⟨a1, a2⟩ | ⟨z, a1, a2, a3⟩
      · refine ⟨w, by grind, Rat.le_refl, Classical.byContradiction fun hneg => ?_⟩
        have hu : 0 < s * iv f u := by
          have nz : iv f u ≠ 0 := fun e => a1 (by rw [e, sq_zero])
          refine Classical.byContradiction fun hnu => a2 ?_
          rcases hs with rfl | rfl
          · rw [sq_neg (show iv f w < 0 by grind), sq_neg (show iv f u < 0 by grind)]
          · rw [sq_pos (show 0 < iv f w by grind), sq_pos (show 0 < iv f u by grind)]
        by_cases hu0 : u = 0
        · rw [hu0] at hu; grind
        · have := sp u w (by grind) q2 (by grind)
          grind
      · exact ⟨z, by grind, a2, by rw [a3]; grind⟩
    have after : ∀ v, z < v → 0 < s * iv f v := fun v hv => sp z v z1 hv z3
    rcases event fm q2' ht' with ⟨a1, a2⟩ | ⟨v, a1, a2, a3⟩
    · have hw := after w' (by grind)
      have nz : iv f u' ≠ 0 := fun e => a1 (by rw [e, sq_zero])
      have hu : 0 < s * iv f u' := by
        by_cases hu0 : u' = z
        · rw [hu0] at nz ⊢
          rcases hs with rfl | rfl <;> grind
        · exact after u' (by grind)
      rcases hs with rfl | rfl
      · exact a2 (by rw [sq_pos (show 0 < iv f w' by grind), sq_pos (show 0 < iv f u' by grind)])
      · exact a2 (by rw [sq_neg (show iv f w' < 0 by grind), sq_neg (show iv f u' < 0 by grind)])
    · have := after v (by grind)
      rw [a3] at this
      grind
  -- three places: an odd number of turns
  have le3 := S.le x
  rw [e] at le3
  have hT2 : trn f = 2 := by omega
  have v3 : vs (h :: b :: l) x = 3 := by omega
  have len4 : f.length = 4 := by omega
  have hch : ¬ (chain f).length < f.length := fun hlt => by
    have := vs_le (chain f) x
    rw [e] at this hlt
    omega
  rcases last with ⟨k, hk, hv⟩ | hlt
  · obtain ⟨B, hB, far'⟩ := Stu.far [od false f] (od_good (c := [f]) (fun g hg => by rw [List.mem_singleton.1 hg]; exact ⟨h0, t⟩))
    obtain ⟨m, hm, bm⟩ := bd_self x
    unfold Bd at bm
    have w1 := far' (B + m) (by grind)
    simp only [List.map_cons, List.map_nil, List.cons.injEq, and_true] at w1
    rw [od_iv, od_tp h0, len4, if_pos rfl] at w1
    have m1 := S.mono (-(B + m)) 0 (by grind)
    have m2 := S.mono 0 x hx
    have m3 := S.le (-(B + m))
    rw [e] at m1 m2 m3
    have eh : ∀ x, sq (iv h x) = sq (iv f x) := fun x => by rw [hv x, sq_mul, sq_pos hk, Int.one_mul]
    have tf := t h0
    have nz : iv h (-(B + m)) ≠ 0 := fun e0 => by
      have := eh (-(B + m))
      rw [e0, sq_zero, w1] at this
      rcases sgz_some (-(tp f)) with ⟨a, _⟩ | ⟨a, _⟩ | ⟨_, a⟩ <;> omega
    have s0 : sq (iv h 0) = sq (iv h (-(B + m))) := Classical.byContradiction fun hne => by
      have := c.drop (x := -(B + m)) (y := 0) (by grind) nz hne
      omega
    rw [eh, eh, w1, iv_four h4, show ((f.getD 0 0 : Int) : Rat) + 0 * (f.getD 1 0 : Int) + 0 * 0 * (f.getD 2 0 : Int) + 0 * 0 * 0 * (f.getD 3 0 : Int) = (f.getD 0 0 : Int) by grind, sq_cast] at s0
    unfold tp at s0 tf
    rw [len4] at s0 tf
    rw [trn_four h4] at hT2
    generalize f.getD 0 0 = c0 at *
    generalize f.getD 1 0 = c1 at *
    generalize f.getD 2 0 = c2 at *
    have e3 : f.getD (4 - 1) 0 = f.getD 3 0 := rfl
    rw [e3] at s0 tf
    generalize f.getD 3 0 = c3 at *
    rcases sgz_some c3 with ⟨d, d'⟩ | ⟨d, d'⟩ | ⟨d, d'⟩
    · have : sgz (-c3) = -1 := by unfold sgz; split <;> (try split) <;> omega
      rw [this] at s0
      rcases sgz_some c1 with ⟨b', _⟩ | ⟨b', _⟩ | ⟨b', _⟩ <;> rcases sgz_some c2 with ⟨c', _⟩ | ⟨c', _⟩ | ⟨c', _⟩ <;> rw [s0, b', c', d] at hT2 <;> exact absurd hT2 (by decide)
    · have : sgz (-c3) = 1 := by unfold sgz; split <;> (try split) <;> omega
      rw [this] at s0
      rcases sgz_some c1 with ⟨b', _⟩ | ⟨b', _⟩ | ⟨b', _⟩ <;> rcases sgz_some c2 with ⟨c', _⟩ | ⟨c', _⟩ | ⟨c', _⟩ <;> rw [s0, b', c', d] at hT2 <;> exact absurd hT2 (by decide)
    · exact absurd d' tf
  · exact hch hlt
/-- Fewer turns than factors, of the row and of the row turned about together. -/
theorem turns_both {f : List Int} (h0 : f ≠ []) (h4 : f.length ≤ 4) (t : Tp f) : trn f + trn (od false f) < f.length := by
  have hl := t h0
  have ng : ∀ z : Int, sgz (-z) = -(sgz z) := fun z => by unfold sgz; split <;> (try split) <;> (try split) <;> (try split) <;> omega
  match f, h0, h4, hl with
  | [a], _, _, _ => 
    have z : ∀ s : Int, tr 0 [s] = 0 := fun s => by have := tr_zero [s]; simpa using this
    show tr 0 [sgz a] + tr 0 [sgz a] < 1
    rw [z]; omega
  | [a, b], _, _, hl =>
    show tr 0 [sgz a, sgz b] + tr 0 [sgz a, sgz (-b)] < 2
    rw [ng]
    rcases sgz_some a with ⟨a', _⟩ | ⟨a', _⟩ | ⟨a', _⟩ <;> rcases sgz_some b with ⟨b', _⟩ | ⟨b', _⟩ | ⟨b', z⟩ <;> first | exact absurd z hl | (rw [a', b']; decide)
  | [a, b, c], _, _, hl =>
    show tr 0 [sgz a, sgz b, sgz c] + tr 0 [sgz a, sgz (-b), sgz c] < 3
    rw [ng]
    rcases sgz_some a with ⟨a', _⟩ | ⟨a', _⟩ | ⟨a', _⟩ <;> rcases sgz_some b with ⟨b', _⟩ | ⟨b', _⟩ | ⟨b', _⟩ <;> rcases sgz_some c with ⟨c', _⟩ | ⟨c', _⟩ | ⟨c', z⟩ <;> first | exact absurd z hl | (rw [a', b', c']; decide)
  | [a, b, c, d], _, _, hl =>
    show tr 0 [sgz a, sgz b, sgz c, sgz d] + tr 0 [sgz a, sgz (-b), sgz c, sgz (-d)] < 4
    rw [ng, ng]
    rcases sgz_some a with ⟨a', _⟩ | ⟨a', _⟩ | ⟨a', _⟩ <;> rcases sgz_some b with ⟨b', _⟩ | ⟨b', _⟩ | ⟨b', _⟩ <;> rcases sgz_some c with ⟨c', _⟩ | ⟨c', _⟩ | ⟨c', _⟩ <;> rcases sgz_some d with ⟨d', _⟩ | ⟨d', _⟩ | ⟨d', z⟩ <;> first | exact absurd z hl | (rw [a', b', c', d']; decide)
theorem trn_lt {f : List Int} (h0 : f ≠ []) : trn f < f.length := by
  have := tr_zero (f.map sgz)
  rw [List.length_map] at this
  have l1 := List.length_pos_iff.2 h0
  unfold trn; omega

end Go.Proofs.Ytbdpcpodmmhjaaa.Stu
