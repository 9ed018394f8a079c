/- Plain facts on the document's chain of a row of at most four whole factors: how often its signs turn, far below, far above, and between; what the turns tell of the row. No program is named here. -/
import Derived.Test.YtbdpcpodmmhjaaaStG
namespace Go.Proofs.Ytbdpcpodmmhjaaa.Stu
set_option linter.unusedVariables false

/-- The sign of a whole number. -/
def sgz (n : Int) : Int := if 0 < n then 1 else if n < 0 then -1 else 0
theorem sq_cast (z : Int) : sq (z : Rat) = sgz z := by
  unfold sgz
  by_cases h : 0 < z
  · rw [if_pos h, sq_pos (Rat.intCast_pos.2 h)]
  · rw [if_neg h]
    by_cases h2 : z < 0
    · have h3 : (z : Rat) < 0 := by
        have := (Rat.intCast_lt_intCast (a := z) (b := 0)).2 h2
        exact this
      rw [if_pos h2, sq_neg h3]
    · rw [if_neg h2, show z = 0 by omega]; exact sq_zero
/-- How often the signs of a chain turn at x. -/
def vs (c : List (List Int)) (x : Rat) : Nat := tr 0 (c.map fun g => sq (iv g x))
theorem vs_vr (h b : List Int) (l : List (List Int)) (x : Rat) : vs (h :: b :: l) x = vr (rl h) (rl b) (l.map rl) x := by
  unfold vs vr sgs
  rw [List.map_cons, List.map_cons, List.map_cons, List.map_cons, List.map_map]; rfl
theorem tr_le : ∀ (l : List Int) (s : Int), tr s l ≤ l.length
  | [], s => Nat.le_refl _
  | t :: l, s => by
    have h1 := tr_le l s
    have h2 := tr_le l t
    rw [tr, List.length_cons]; split
    · omega
    · split <;> omega
theorem tr_zero : ∀ (l : List Int), tr 0 l ≤ l.length - 1
  | [] => Nat.le_refl _
  | t :: l => by
    by_cases h : t = 0
    · subst h; rw [tr_nought]; have := tr_zero l; simp; omega
    · rw [tr_start t l h]; have := tr_le l t; simpa using this
theorem vs_le (c : List (List Int)) (x : Rat) : vs c x ≤ c.length - 1 := by
  have := tr_zero (c.map fun g => sq (iv g x))
  rw [List.length_map] at this
  exact this
/-- Rows that do not end with a nought. -/
def Good (c : List (List Int)) : Prop := ∀ g ∈ c, g ≠ [] ∧ Tp g
theorem tl_good : ∀ (k : Nat) (a b : List Int), b ≠ [] → Tp b → a.length ≤ 8 → b.length ≤ 8 → Good (tl k a b) ∧ (tl k a b).length + 1 ≤ b.length ∧ ∀ g ∈ tl k a b, g.length ≤ b.length
  | 0, a, b, hb, _, _, _ => ⟨fun g hg => (by cases hg), List.length_pos_iff.2 hb, fun g hg => (by cases hg)⟩
  | k + 1, a, b, hb, tb, la, lb => by
    rw [tl]
    obtain ⟨h1, h2, h3, _⟩ := split_val a b hb tb la
    by_cases h0 : dr a b = []
    · rw [if_pos h0]; exact ⟨fun g hg => (by cases hg), List.length_pos_iff.2 hb, fun g hg => (by cases hg)⟩
    · rw [if_neg h0]
      have hn : (dr a b).map (- ·) ≠ [] := by simpa using h0
      obtain ⟨i1, i2, i3⟩ := tl_good k b ((dr a b).map (- ·)) hn h3.neg lb (by rw [neg_len]; omega)
      rw [neg_len] at i2 i3
      refine ⟨fun g hg => ?_, by rw [List.length_cons]; omega, fun g hg => ?_⟩
      · rcases List.mem_cons.1 hg with rfl | hg
        · exact ⟨hn, h3.neg⟩
        · exact i1 g hg
      · rcases List.mem_cons.1 hg with rfl | hg
        · rw [neg_len]; omega
        · have := i3 g hg; omega
theorem rst_good {f : List Int} (h : 2 ≤ f.length) (h8 : f.length ≤ 8) (t : Tp f) : Good (rst f) ∧ (rst f).length ≤ f.length ∧ ∃ d, lst (rst f) = d ∧ d ≠ [] ∧ Tp d ∧ d.length < f.length := by
  obtain ⟨l1, t1, l2, t2, _, _⟩ := pl_slope h t
  have hb : pl (slp f) ≠ [] := fun e => by rw [e] at l2; simp at l2; omega
  have ha : pl f ≠ [] := fun e => by rw [e] at l1; simp at l1; omega
  obtain ⟨g1, g2, g3⟩ := tl_good 8 (pl f) (pl (slp f)) hb t2 (by omega) (by omega)
  rw [rst_eq h t]
  refine ⟨fun g hg => ?_, by rw [List.length_cons, List.length_cons]; omega, _, rfl, ?_⟩
  · rcases List.mem_cons.1 hg with rfl | hg
    · exact ⟨ha, t1⟩
    · rcases List.mem_cons.1 hg with rfl | hg
      · exact ⟨hb, t2⟩
      · exact g1 g hg
  · unfold lst
    rw [List.getLast?_cons_cons]
    have hm : ((pl (slp f) :: tl 8 (pl f) (pl (slp f))).getLast?.getD []) ∈ (pl (slp f) :: tl 8 (pl f) (pl (slp f))) := by
      rw [List.getLast?_eq_some_getLast (List.cons_ne_nil _ _)]
      exact List.getLast_mem _
    rcases List.mem_cons.1 hm with e | e
    · rw [e]; exact ⟨hb, t2, by omega⟩
    · have := g3 _ e
      exact ⟨(g1 _ e).1, (g1 _ e).2, by omega⟩
theorem chain_good {f : List Int} (h2 : 2 ≤ f.length) (h4 : f.length ≤ 4) (t : Tp f) : Good (chain f) ∧ (chain f).length ≤ f.length ∧ (¬ (lst (rst f)).length < 2 → (chain f).length < f.length) := by
  obtain ⟨g1, g2, d, hd, dn, td, dl⟩ := rst_good h2 (by omega) t
  unfold chain
  by_cases h : (lst (rst f)).length < 2
  · rw [if_pos h]; exact ⟨g1, g2, fun h' => absurd h h'⟩
  · rw [if_neg h, hd]
    obtain ⟨l1, t1, _⟩ := pl_slope h2 t
    rw [hd] at h
    have lq := dq_len (pl f) d dn td t1 (by omega) (by omega)
    have tq := (split_val (pl f) d dn td (by omega)).2.2.2.1
    obtain ⟨g3, g4, _⟩ := rst_good (f := dq (pl f) d) (by omega) (by omega) tq
    exact ⟨g3, by omega, fun _ => by omega⟩
/-- All that there is to know of the document's chain. -/
theorem chain_all {f : List Int} (h2 : 2 ≤ f.length) (h4 : f.length ≤ 4) (t : Tp f) : ∃ h b l, chain f = h :: b :: l ∧ Cn h b l ∧ Good (chain f) ∧ (chain f).length ≤ f.length ∧ Form (iv f) (iv h) ∧
    ((∃ k : Rat, 0 < k ∧ ∀ x, iv f x = k * iv h x) ∨ (chain f).length < f.length) := by
  obtain ⟨g1, g2, g3⟩ := chain_good h2 h4 t
  by_cases hs : (lst (rst f)).length < 2
  · obtain ⟨e, c⟩ := rst_cn h2 (by omega) t hs
    obtain ⟨k, hk, hv⟩ := (pl_slope h2 t).2.2.2.2.1
    refine ⟨_, _, _, ?_, c, g1, g2, .one k hk hv, .inl ⟨k, hk, hv⟩⟩
    unfold chain; rw [if_pos hs]; exact e
  · obtain ⟨h, b, l, e, c, fm⟩ := chain_form h2 h4 t
    exact ⟨h, b, l, e, c, g1, g2, fm, .inr (g3 hs)⟩

/-- Far above. -/
theorem far : ∀ (c : List (List Int)), Good c → ∃ B : Rat, 0 < B ∧ ∀ x, B ≤ x → (c.map fun g => sq (iv g x)) = c.map fun g => sgz (tp g)
  | [], _ => ⟨1, by decide, fun _ _ => rfl⟩
  | g :: c, hg => by
    obtain ⟨B1, p1, h1⟩ := far c fun g' h' => hg g' (List.mem_cons_of_mem _ h')
    obtain ⟨n, t⟩ := hg g (by simp)
    rcases snoc_or g with rfl | ⟨m, a, rfl⟩
    · exact absurd rfl n
    · have ha := t n
      rw [tp_snoc] at ha
      obtain ⟨B2, p2, h2⟩ := sq_high (rl m) (castne ha)
      have e : rl (m ++ [a]) = rl m ++ [(a : Rat)] := by unfold rl; rw [List.map_append]; rfl
      refine ⟨B1 + B2, by grind, fun x hx => ?_⟩
      rw [List.map_cons, List.map_cons, h1 x (by grind), tp_snoc, ← sq_cast, ← h2 x (by grind), ← e]; rfl
/-- With the signs of odd powers turned. -/
def od : Bool → List Int → List Int
  | _, [] => []
  | b, a :: l => (if b then -a else a) :: od (!b) l
theorem od_len : ∀ (l : List Int) (b : Bool), (od b l).length = l.length
  | [], _ => rfl
  | a :: l, b => by show (od (!b) l).length + 1 = _; rw [od_len l, List.length_cons]
theorem od_rl : ∀ (l : List Int) (b : Bool), rl (od b l) = odd b (rl l)
  | [], _ => rfl
  | a :: l, b => by
    show ((if b then -a else a : Int) : Rat) :: rl (od (!b) l) = (if b then -(a : Rat) else a) :: odd (!b) (rl l)
    rw [od_rl l]
    cases b
    · rfl
    · show ((-a : Int) : Rat) :: _ = -(a : Rat) :: _
      rw [Rat.intCast_neg]
theorem od_iv (l : List Int) (x : Rat) : iv (od false l) x = iv l (-x) := by
  rw [← rl_val, od_rl]
  exact (rv_odd (rl l) x).1
theorem od_snoc : ∀ (l : List Int) (b : Bool) (a : Int), od b (l ++ [a]) = od b l ++ [if b = (l.length % 2 == 0) then -a else a]
  | [], b, a => by cases b <;> rfl
  | c :: l, b, a => by
    show (if b then -c else c) :: od (!b) (l ++ [a]) = (if b then -c else c) :: (od (!b) l ++ _)
    rw [od_snoc l, List.length_cons]
    congr 2
    have : ((l.length + 1) % 2 == 0) = !(l.length % 2 == 0) := by
      rcases Nat.mod_two_eq_zero_or_one l.length with h | h
      · rw [h, show (l.length + 1) % 2 = 1 by omega]; rfl
      · rw [h, show (l.length + 1) % 2 = 0 by omega]; rfl
    rw [this]
    cases b <;> cases (l.length % 2 == 0) <;> rfl
theorem od_tp {l : List Int} (h : l ≠ []) : tp (od false l) = if l.length % 2 = 0 then -(tp l) else tp l := by
  rcases snoc_or l with rfl | ⟨m, a, rfl⟩
  · exact absurd rfl h
  · rw [od_snoc, tp_snoc, tp_snoc, List.length_append, List.length_singleton]
    rcases Nat.mod_two_eq_zero_or_one m.length with h | h
    · rw [h, if_neg (show ¬ (m.length + 1) % 2 = 0 by omega)]; rfl
    · rw [h, if_pos (show (m.length + 1) % 2 = 0 by omega)]; rfl
theorem od_good {c : List (List Int)} (h : Good c) : Good (c.map (od false)) := fun g hg => by
  obtain ⟨g', h', rfl⟩ := List.mem_map.1 hg
  obtain ⟨n, t⟩ := h g' h'
  have l := od_len g' false
  refine ⟨fun e => n (List.eq_nil_of_length_eq_zero (by rw [← l, e]; rfl)), fun _ => ?_⟩
  rw [od_tp n]
  have := t n
  split <;> omega
/-- The signs far above and far below. -/
def hi (c : List (List Int)) : List Int := c.map fun g => sgz (tp g)
def lo (c : List (List Int)) : List Int := c.map fun g => sgz (if g.length % 2 = 0 then -(tp g) else tp g)
def ends (c : List (List Int)) : Int := (tr 0 (lo c) : Int) - tr 0 (hi c)
theorem far_both {c : List (List Int)} (h : Good c) : ∃ B : Rat, 0 < B ∧ ∀ x, B ≤ x → vs c x = tr 0 (hi c) ∧ vs c (-x) = tr 0 (lo c) := by
  obtain ⟨B1, p1, h1⟩ := far c h
  obtain ⟨B2, p2, h2⟩ := far _ (od_good h)
  refine ⟨B1 + B2, by grind, fun x hx => ⟨?_, ?_⟩⟩
  · unfold vs hi; rw [h1 x (by grind)]
  · unfold vs lo
    have := h2 x (by grind)
    rw [List.map_map, List.map_map] at this
    have e : (c.map fun g => sq (iv g (-x))) = c.map ((fun g => sq (iv g x)) ∘ od false) := List.map_congr_left fun g _ => by
      show _ = sq (iv (od false g) x); rw [od_iv]
    rw [e, this]
    congr 1
    exact List.map_congr_left fun g hg => by show sgz (tp (od false g)) = _; rw [od_tp (h g hg).1]

/-- What the laws want of a row of at least two factors: its chain. -/
structure Sturm (f : List Int) : Prop where
  mono : ∀ x y : Rat, x ≤ y → vs (chain f) y ≤ vs (chain f) x
  le : ∀ x, vs (chain f) x ≤ f.length - 1
  far : ∃ B : Rat, 0 < B ∧ ∀ x, B ≤ x → (vs (chain f) (-x) : Int) - vs (chain f) x = ends (chain f)
theorem sturm_one {f : List Int} (h : f.length = 1) (t : Tp f) : (∀ x, vs (chain f) x = 0) ∧ ends (chain f) = 0 ∧ chain f = [pl f] := by
  obtain ⟨a, rfl⟩ : ∃ a, f = [a] := by
    match f, h with
    | [a], _ => exact ⟨a, rfl⟩
  have e : pl (slp [a]) = [] := rfl
  have e2 : rst [a] = [pl [a]] := by unfold rst; rw [if_pos e]
  have e3 : (lst (rst [a])).length < 2 := by
    rw [e2]
    show (pl [a]).length < 2
    rw [pl_len]
    have := (tm_facts [a]).2.1
    simp at this; omega
  have e4 : chain [a] = [pl [a]] := by unfold chain; rw [if_pos e3, e2]
  have z : ∀ s : Int, tr 0 [s] = 0 := fun s => by have := tr_zero [s]; simpa using this
  refine ⟨fun x => by rw [e4]; exact z _, ?_, e4⟩
  rw [e4]
  unfold ends lo hi
  rw [List.map_cons, List.map_nil, List.map_cons, List.map_nil, z, z]; rfl
theorem sturm_of {f : List Int} (h0 : f ≠ []) (h4 : f.length ≤ 4) (t : Tp f) : Sturm f := by
  have h1 := List.length_pos_iff.2 h0
  by_cases h : f.length = 1
  · obtain ⟨a, b, _⟩ := sturm_one h t
    exact ⟨fun x y _ => by rw [a, a]; exact Nat.le_refl _, fun x => by rw [a]; omega, 1, by decide, fun x _ => by rw [a, a, b]; rfl⟩
  · obtain ⟨h, b, l, e, c, g, le, _, _⟩ := chain_all (by omega) h4 t
    obtain ⟨a, ha, hs⟩ := c.slope
    refine ⟨fun x y hxy => ?_, fun x => ?_, ?_⟩
    · rw [e, vs_vr, vs_vr]; exact c.ch.mono ha hs hxy
    · have := vs_le (chain f) x; omega
    · obtain ⟨B, hB, hv⟩ := far_both g
      exact ⟨B, hB, fun x hx => by obtain ⟨a1, a2⟩ := hv x hx; unfold ends; rw [a1, a2]⟩
/-- Counts are not negative, and none is more than the count of all; those of all are fewer than the factors. -/
theorem Sturm.parts {f : List Int} (s : Sturm f) (h0 : f ≠ []) : 0 ≤ ends (chain f) ∧ ends (chain f) < f.length ∧ ∀ x y : Rat, x ≤ y → (vs (chain f) x : Int) - vs (chain f) y ≤ ends (chain f) := by
  obtain ⟨B, hB, h⟩ := s.far
  have h1 := List.length_pos_iff.2 h0
  refine ⟨?_, ?_, fun x y hxy => ?_⟩
  · have := h B (by grind)
    have := s.mono (-B) B (by grind)
    omega
  · have := h B (by grind)
    have := s.le (-B)
    omega
  · obtain ⟨m1, p1, b1⟩ := bd_self x
    obtain ⟨m2, p2, b2⟩ := bd_self y
    unfold Bd at b1 b2
    have e := h (B + m1 + m2) (by grind)
    have h3 := s.mono (-(B + m1 + m2)) x (by grind)
    have h4 := s.mono y (B + m1 + m2) (by grind)
    omega

end Go.Proofs.Ytbdpcpodmmhjaaa.Stu
