/- Plain facts on the document's chain of a row of two to four whole factors: it is a chain in which the second one is the slope of the first one; what the first one has to do with the row. No program is named here. -/
import Derived.Test.YtbdpcpodmmhjaaaStD
namespace Go.Proofs.Ytbdpcpodmmhjaaa.Stu
set_option linter.unusedVariables false

/-- How long the number of times is. -/
theorem tm_len {l : List Int} : ∀ {n : Nat}, n < l.length → l.getD n 0 ≠ 0 → (∀ j, n < j → l.getD j 0 = 0) → (tm l).length = n + 1 := by
  induction l using tm_ind with
  | h0 => intro n h; exact absurd h (by simp)
  | hz l ih =>
    intro n h h1 h2
    rw [tm_zero]
    have hn : n < l.length := by
      rcases Nat.lt_or_ge n l.length with h' | h'
      · exact h'
      · exfalso; apply h1
        have : n = l.length := by simp at h; omega
        subst this; simp
    refine ih hn ?_ fun j hj => ?_
    · intro e; apply h1
      rw [← e]; simp [List.getElem?_append, hn]
    · by_cases hj2 : j < l.length
      · rw [← h2 j hj]; simp [List.getElem?_append, hj2]
      · simp [List.getElem?_eq_none (show l.length ≤ j by omega)]
  | hn l a ha =>
    intro n h h1 h2
    rw [tm_not l ha]
    rcases Nat.lt_or_ge n l.length with h' | h'
    · exfalso
      have := h2 l.length h'
      simp at this
      exact ha this
    · simp at h ⊢; omega
theorem spl_keep : ∀ (k : Nat) (g f Q : List Int), tp g ≠ 0 → ∃ m : Int, 0 < m ∧ ∀ j, f.length < g.length + j → (spl k g f Q).1.getD j 0 = m * Q.getD j 0
  | 0, g, f, Q, _ => ⟨1, by decide, fun j _ => by show Q.getD j 0 = _; omega⟩
  | k + 1, g, f, Q, ht => by
    rw [spl]
    by_cases h : g.length ≤ f.length
    · rw [if_pos h]
      obtain ⟨m, hm, hv⟩ := spl_keep k g (nx f g) (qn Q f g) ht
      refine ⟨m * az (tp g), Int.mul_pos hm (az_pos ht), fun j hj => ?_⟩
      rw [hv j (by rw [nx_len]; omega)]
      have : (qn Q f g).getD j 0 = Q.getD j 0 * az (tp g) := by
        unfold qn
        rw [List.getD_eq_getElem?_getD, List.getElem?_set_ne (by omega), List.getElem?_map, List.getD_eq_getElem?_getD]
        rcases Q[j]? with _ | z <;> simp
      rw [this, Int.mul_assoc, Int.mul_comm (Q.getD j 0)]
    · rw [if_neg h]
      exact ⟨1, by decide, fun j _ => by show Q.getD j 0 = _; omega⟩
theorem dq_len (f g : List Int) (hg : g ≠ []) (tg : Tp g) (tf : Tp f) (h : g.length ≤ f.length) (h8 : f.length ≤ 8) : (dq f g).length = f.length - g.length + 1 := by
  have g0 := List.length_pos_iff.2 hg
  have hf : f ≠ [] := fun e => by rw [e, List.length_nil] at h; omega
  obtain ⟨n, hn⟩ : ∃ n, f.length = n + 1 := ⟨f.length - 1, by omega⟩
  unfold dq
  rw [pl_len, hn, spl, if_pos h]
  obtain ⟨m, hm, hv⟩ := spl_keep n g (nx f g) (qn (List.replicate 8 0) f g) (tg hg)
  have hl := (spl_val n g (nx f g) (qn (List.replicate 8 0) f g) hg (tg hg) (by rw [nx_len]; omega) (by rw [nx_len, qn_len]; simp; omega)).2.2.2
  rw [qn_len, List.length_replicate] at hl
  have hz : ∀ j, ((List.replicate 8 (0 : Int)).map (· * az (tp g))).getD j 0 = 0 := fun j => by
    rw [List.map_replicate, Int.zero_mul, List.getD_eq_getElem?_getD, List.getElem?_replicate]; split <;> rfl
  have hq : ∀ j, j < 8 → (qn (List.replicate 8 0) f g).getD j 0 = if j = f.length - g.length then tq f g else 0 := fun j hj => by
    unfold qn
    rw [hz, Int.zero_add, List.getD_eq_getElem?_getD, List.getElem?_set]
    by_cases e : j = f.length - g.length
    · rw [if_pos e.symm, if_pos e, if_pos (by rw [List.length_map, List.length_replicate]; omega)]; rfl
    · rw [if_neg fun e' => e e'.symm, if_neg e, ← List.getD_eq_getElem?_getD, hz]
  have ht : tq f g ≠ 0 := by
    have := tf hf
    unfold tq; split <;> omega
  rw [hn] at hq
  refine tm_len (n := n + 1 - g.length) (by rw [hl]; omega) ?_ fun j hj => ?_
  · rw [hv _ (by rw [nx_len]; omega), hq _ (by omega), if_pos rfl]
    exact Int.mul_ne_zero (by omega) ht
  · by_cases hj8 : j < 8
    · rw [hv _ (by rw [nx_len]; omega), hq _ hj8, if_neg (by omega), Int.mul_zero]
    · rw [List.getD_eq_getElem?_getD, List.getElem?_eq_none (by rw [hl]; omega)]; rfl

/-- The slope. -/
def slp (f : List Int) : List Int := (List.range (f.length - 1)).map fun i : Nat => ((i : Int) + 1) * f.getD (i + 1) 0
theorem slp_len (f : List Int) : (slp f).length = f.length - 1 := by unfold slp; rw [List.length_map, List.length_range]
theorem rd_sum : ∀ (l : List Int) (x : Rat), rd (rl l) x = sm (l.length - 1) fun i => (((i : Int) + 1 : Int) : Rat) * (l.getD (i + 1) 0 : Int) * px x i
  | [], x => rfl
  | a :: l, x => by
    have ih := rd_sum l x
    show rv (rl l) x + x * rd (rl l) x = _
    rw [rl_val, ih, iv_sum, List.length_cons, Nat.add_sub_cancel]
    have e1 : (sm l.length fun i => (((i : Int) + 1 : Int) : Rat) * (((a :: l).getD (i + 1) 0 : Int) : Rat) * px x i) = (sm l.length fun i => ((l.getD i 0 : Int) : Rat) * px x i) + sm l.length fun i => (i : Rat) * ((l.getD i 0 : Int) : Rat) * px x i := by
      rw [← sm_add]
      refine sm_congr fun i _ => ?_
      rw [show ((a :: l).getD (i + 1) 0 : Int) = l.getD i 0 by simp]
      have : (((i : Int) + 1 : Int) : Rat) = (i : Rat) + 1 := by
        rw [Rat.intCast_add]; rfl
      rw [this]; grind
    rw [e1]
    congr 1
    match h : l.length with
    | 0 => show x * 0 = 0; grind
    | n + 1 =>
      rw [sm_first, Nat.add_sub_cancel, ← sm_times]
      have e2 : (sm n fun i => ((i + 1 : Nat) : Rat) * ((l.getD (i + 1) 0 : Int) : Rat) * px x (i + 1)) = sm n fun i => x * ((((i : Int) + 1 : Int) : Rat) * (l.getD (i + 1) 0 : Int) * px x i) := sm_congr fun i _ => by
        have : (((i : Int) + 1 : Int) : Rat) = ((i + 1 : Nat) : Rat) := rfl
        rw [this]
        show _ * _ * (px x i * x) = _
        grind
      rw [e2]
      have e3 : (((0 : Nat) : Rat)) = 0 := rfl
      rw [e3]
      grind
theorem slp_val (f : List Int) (x : Rat) : iv (slp f) x = rd (rl f) x := by
  rw [rd_sum]
  unfold slp
  rw [iv_row]
  exact sm_congr fun i _ => by rw [Rat.intCast_mul]
theorem slp_tp {f : List Int} (h : 2 ≤ f.length) (t : Tp f) : Tp (slp f) ∧ slp f ≠ [] := by
  have l := slp_len f
  refine ⟨fun _ => ?_, fun e => by rw [e] at l; simp at l; omega⟩
  unfold tp
  rw [l]
  unfold slp
  rw [show ((List.range (f.length - 1)).map fun i : Nat => ((i : Int) + 1) * f.getD (i + 1) 0).getD (f.length - 1 - 1) 0 = (((f.length - 1 - 1 : Nat) : Int) + 1) * f.getD (f.length - 1 - 1 + 1) 0 by
    rw [List.getD_eq_getElem?_getD, List.getElem?_map, List.getElem?_range (by omega)]; rfl, show f.length - 1 - 1 + 1 = f.length - 1 by omega]
  exact Int.mul_ne_zero (by omega) (t fun e => by rw [e] at h; simp at h)
theorem rd_scale (c : Int) : ∀ (l : List Int) (x : Rat), rd (rl (l.map (· * c))) x = c * rd (rl l) x
  | [], x => by show (0 : Rat) = c * 0; grind
  | a :: l, x => by
    have ih := rd_scale c l x
    have h := iv_scale c l x
    show rv (rl (l.map (· * c))) x + x * rd (rl (l.map (· * c))) x = c * (rv (rl l) x + x * rd (rl l) x)
    rw [ih, rl_val, rl_val, h]; grind
/-- One without what divides all, and its slope without what divides all: the second one is the slope of the first one, times a number above 0. -/
theorem pl_slope {f : List Int} (h : 2 ≤ f.length) (t : Tp f) : (pl f).length = f.length ∧ Tp (pl f) ∧ (pl (slp f)).length = f.length - 1 ∧ Tp (pl (slp f)) ∧ (∃ k : Rat, 0 < k ∧ ∀ x, iv f x = k * iv (pl f) x) ∧ ∃ a : Rat, 0 < a ∧ ∀ x, iv (pl (slp f)) x = a * rd (rl (pl f)) x := by
  have hf : f ≠ [] := fun e => by rw [e] at h; simp at h
  obtain ⟨t2, n2⟩ := slp_tp h t
  have e1 := tm_tp t
  have e2 := tm_tp t2
  obtain ⟨g1, g2, g3⟩ := pl_val f (by rw [e1]; exact hf)
  obtain ⟨k1, k2, k3⟩ := pl_val (slp f) (by rw [e2]; exact n2)
  rw [e1] at g1 g3
  rw [e2] at k1 k3
  refine ⟨by rw [pl_len, e1], g2, by rw [pl_len, e2, slp_len], k2, ⟨gcl f, Rat.intCast_pos.2 g1, g3⟩, (gcl f : Rat) * (gcl (slp f) : Rat)⁻¹, Rat.mul_pos (Rat.intCast_pos.2 g1) (Rat.inv_pos.2 (Rat.intCast_pos.2 k1)), fun x => ?_⟩
  have h1 := k3 x
  rw [slp_val] at h1
  have h2 : (pl f).map (· * gcl f) = f := by
    unfold pl
    rw [e1]
    exact map_cancel f (gcl f) fun x hx => gcl_dvd f hx
  have h3 := rd_scale (gcl f) (pl f) x
  rw [h2] at h3
  rw [h3] at h1
  have k0 : (gcl (slp f) : Rat) ≠ 0 := by
    have := Rat.intCast_pos.2 k1
    grind
  clear h2 h3 g3 k3
  generalize (gcl (slp f) : Rat) = u at *
  generalize (gcl f : Rat) = v at *
  grind

/-- The chain of one and its slope. -/
def rst (f : List Int) : List (List Int) := if pl (slp f) = [] then [pl f] else pl f :: pl (slp f) :: tl 8 (pl f) (pl (slp f))
/-- The document's chain. -/
def lst (l : List (List Int)) : List Int := l.getLast?.getD []
def chain (f : List Int) : List (List Int) := if (lst (rst f)).length < 2 then rst f else rst (dq (pl f) (lst (rst f)))

/-- A chain of whole rows in which the second one is the slope of the first one. -/
structure Cn (h b : List Int) (t : List (List Int)) : Prop where
  ch : Ch (rl h) (rl b) (t.map rl)
  slope : ∃ a : Rat, 0 < a ∧ ∀ x, rv (rl b) x = a * rd (rl h) x
theorem rst_cn {f : List Int} (h : 2 ≤ f.length) (h8 : f.length ≤ 8) (t : Tp f) (hl : (lst (rst f)).length < 2) : rst f = pl f :: pl (slp f) :: tl 8 (pl f) (pl (slp f)) ∧ Cn (pl f) (pl (slp f)) (tl 8 (pl f) (pl (slp f))) := by
  obtain ⟨l1, t1, l2, t2, _, hs⟩ := pl_slope h t
  have hb : pl (slp f) ≠ [] := fun e => by rw [e] at l2; simp at l2; omega
  unfold rst lst at *
  rw [if_neg hb] at hl ⊢
  refine ⟨rfl, tl_ch 8 _ _ hb t2 (by omega) (by omega) (by omega) ?_, hs⟩
  rw [List.getLast?_cons_cons] at hl
  have hne : ∀ (k : Nat) (a b : List Int), b ≠ [] → ((b :: tl k a b).getLast?.getD []) ≠ [] := fun k => by
    induction k with
    | zero => intro a b hb; simpa [tl] using hb
    | succ k ih =>
      intro a b hb
      rw [tl]
      by_cases h0 : dr a b = []
      · rw [if_pos h0]; simpa using hb
      · rw [if_neg h0, List.getLast?_cons_cons]
        exact ih b _ (by simpa using h0)
  have := List.length_pos_iff.2 (hne 8 (pl f) (pl (slp f)) hb)
  omega

end Go.Proofs.Ytbdpcpodmmhjaaa.Stu
