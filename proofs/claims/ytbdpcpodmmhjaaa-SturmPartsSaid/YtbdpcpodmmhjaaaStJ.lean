/- Plain facts on the document's chain of a row that is a product of what comes to 0 at whole numbers: it counts each of them once. No program is named here. -/
import Derived.Test.YtbdpcpodmmhjaaaStI
namespace Go.Proofs.Ytbdpcpodmmhjaaa.Stu
set_option linter.unusedVariables false

/-- The product of x less each. -/
def Pr : List Int → Rat → Rat
  | [], _ => 1
  | r :: l, x => (x - r) * Pr l x
theorem Pr_zero : ∀ (l : List Int) (x : Rat), Pr l x = 0 ↔ ∃ r ∈ l, x = (r : Rat)
  | [], x => ⟨fun h => absurd h (by show (1 : Rat) ≠ 0; decide), fun ⟨r, h, _⟩ => (by cases h)⟩
  | r :: l, x => by
    have ih := Pr_zero l x
    constructor
    · intro h
      rcases Rat.mul_eq_zero.1 (show (x - r) * Pr l x = 0 from h) with h | h
      · exact ⟨r, by simp, by grind⟩
      · obtain ⟨s, h1, h2⟩ := ih.1 h
        exact ⟨s, List.mem_cons_of_mem _ h1, h2⟩
    · rintro ⟨s, h1, h2⟩
      show (x - r) * Pr l x = 0
      rcases List.mem_cons.1 h1 with rfl | h1
      · rw [h2]; grind
      · rw [ih.2 ⟨s, h1, h2⟩]; grind
/-- How many of them are above x and at most y. -/
def cn : List Int → Rat → Rat → Nat
  | [], _, _ => 0
  | r :: l, x, y => (if x < (r : Rat) ∧ (r : Rat) ≤ y then 1 else 0) + cn l x y
theorem cn_self : ∀ (l : List Int) (x : Rat), cn l x x = 0
  | [], _ => rfl
  | r :: l, x => by rw [cn, if_neg (by rintro ⟨a, b⟩; grind), cn_self l]
theorem cn_add : ∀ (l : List Int) (x y z : Rat), x ≤ y → y ≤ z → cn l x z = cn l x y + cn l y z
  | [], _, _, _, _, _ => rfl
  | r :: l, x, y, z, h1, h2 => by
    rw [cn, cn, cn, cn_add l x y z h1 h2]
    by_cases a : x < (r : Rat) ∧ (r : Rat) ≤ z
    · rw [if_pos a]
      by_cases b : (r : Rat) ≤ y
      · rw [if_pos ⟨a.1, b⟩, if_neg (by rintro ⟨c, _⟩; grind)]; omega
      · rw [if_neg (by rintro ⟨_, c⟩; exact b c), if_pos ⟨by grind, a.2⟩]; omega
    · rw [if_neg a, if_neg (by rintro ⟨c, d⟩; exact a ⟨c, by grind⟩), if_neg (by rintro ⟨c, d⟩; exact a ⟨by grind, d⟩)]; omega
theorem cn_none : ∀ (l : List Int) (x y : Rat), (∀ r ∈ l, ¬ (x < (r : Rat) ∧ (r : Rat) ≤ y)) → cn l x y = 0
  | [], _, _, _ => rfl
  | r :: l, x, y, h => by rw [cn, if_neg (h r (by simp)), cn_none l x y fun s hs => h s (List.mem_cons_of_mem _ hs)]
theorem cn_all : ∀ (l : List Int) (x y : Rat), (∀ r ∈ l, x < (r : Rat) ∧ (r : Rat) ≤ y) → cn l x y = l.length
  | [], _, _, _ => rfl
  | r :: l, x, y, h => by rw [cn, if_pos (h r (by simp)), cn_all l x y fun s hs => h s (List.mem_cons_of_mem _ hs), List.length_cons]; omega
theorem Pr_same : ∀ (l : List Int) (x y : Rat), x ≤ y → (∀ r ∈ l, (r : Rat) < x ∨ y < (r : Rat)) → sq (Pr l y) = sq (Pr l x) ∧ sq (Pr l x) ≠ 0
  | [], x, y, _, _ => ⟨rfl, sq_ne (by show (1 : Rat) ≠ 0; decide)⟩
  | r :: l, x, y, hxy, h => by
    obtain ⟨h1, h2⟩ := Pr_same l x y hxy fun s hs => h s (List.mem_cons_of_mem _ hs)
    show sq ((y - r) * Pr l y) = sq ((x - r) * Pr l x) ∧ sq ((x - r) * Pr l x) ≠ 0
    rw [sq_mul, sq_mul, h1]
    rcases h r (by simp) with h3 | h3
    · rw [sq_pos (show 0 < y - r by grind), sq_pos (show 0 < x - r by grind)]
      exact ⟨rfl, by omega⟩
    · rw [sq_neg (show y - r < 0 by grind), sq_neg (show x - r < 0 by grind)]
      exact ⟨rfl, by omega⟩
theorem far_one {r s : Int} (h : r ≠ s) : (r : Rat) + 1 ≤ s ∨ (s : Rat) + 1 ≤ r := by
  rcases Int.lt_or_gt_of_ne h with h1 | h1
  · left
    have := (Rat.intCast_le_intCast (a := r + 1) (b := s)).2 (by omega)
    rw [Rat.intCast_add] at this
    exact this
  · right
    have := (Rat.intCast_le_intCast (a := s + 1) (b := r)).2 (by omega)
    rw [Rat.intCast_add] at this
    exact this
theorem Pr_turn : ∀ (l : List Int) (x y : Rat), l.Nodup → x < y → y - x ≤ 1 / 2 →
    ((sq (Pr l x) ≠ 0 ∧ sq (Pr l y) ≠ sq (Pr l x)) → cn l x y = 1) ∧ (¬ (sq (Pr l x) ≠ 0 ∧ sq (Pr l y) ≠ sq (Pr l x)) → cn l x y = 0)
  | [], x, y, _, _, _ => ⟨fun h => absurd rfl h.2, fun _ => rfl⟩
  | r :: l, x, y, hn, hxy, hk => by
    obtain ⟨n1, n2⟩ := List.nodup_cons.1 hn
    obtain ⟨i1, i2⟩ := Pr_turn l x y n2 hxy hk
    have ne : ∀ s ∈ l, s ≠ r := fun s hs e => n1 (e ▸ hs)
    have e1 : sq (Pr (r :: l) x) = sq (x - r) * sq (Pr l x) := sq_mul _ _
    have e2 : sq (Pr (r :: l) y) = sq (y - r) * sq (Pr l y) := sq_mul _ _
    rw [e1, e2, cn]
    by_cases h1 : x < (r : Rat) ∧ (r : Rat) ≤ y
    · have away : ∀ s ∈ l, (s : Rat) < x ∨ y < (s : Rat) := fun s hs => by
        rcases far_one (ne s hs) with h | h
        · left; grind
        · right; grind
      obtain ⟨p1, p2⟩ := Pr_same l x y (by grind) away
      have c0 : cn l x y = 0 := cn_none l x y fun s hs hh => by rcases away s hs with h | h <;> grind
      rw [if_pos h1, c0, p1, sq_neg (show x - r < 0 by grind)]
      have : ∀ σ : Int, σ ≠ -1 → σ * sq (Pr l x) ≠ -1 * sq (Pr l x) := fun σ hσ e => by
        rcases sq_some (Pr l x) with h | h | h
        · rw [h] at e; omega
        · rw [h] at e; omega
        · exact p2 h
      constructor
      · intro _; rfl
      · intro hh
        exfalso
        apply hh
        refine ⟨by omega, ?_⟩
        rcases sq_cases (y - r) with ⟨_, e⟩ | ⟨h, _⟩ | ⟨_, e⟩
        · rw [e]; exact this 1 (by decide)
        · grind
        · rw [e]; exact this 0 (by decide)
    · rw [if_neg h1, Nat.zero_add]
      by_cases h2 : x = (r : Rat)
      · have c0 : cn l x y = 0 := cn_none l x y fun s hs hh => by
          rcases far_one (ne s hs) with h | h <;> grind
        rw [h2, show (r : Rat) - r = 0 by grind, sq_zero, Int.zero_mul]
        rw [h2] at c0
        exact ⟨fun hh => absurd rfl hh.1, fun _ => c0⟩
      · have : sq (x - r) = sq (y - r) ∧ (sq (y - r) = 1 ∨ sq (y - r) = -1) := by
          by_cases h3 : (r : Rat) < x
          · rw [sq_pos (show 0 < x - r by grind), sq_pos (show 0 < y - r by grind)]; exact ⟨rfl, .inl rfl⟩
          · rw [sq_neg (show x - r < 0 by grind), sq_neg (show y - r < 0 by grind)]; exact ⟨rfl, .inr rfl⟩
        rw [this.1]
        rcases this.2 with e | e <;> rw [e]
        · rw [Int.one_mul, Int.one_mul]; exact ⟨i1, i2⟩
        · constructor
          · rintro ⟨a, b⟩; exact i1 ⟨by omega, by omega⟩
          · intro hh; exact i2 fun ⟨a, b⟩ => hh ⟨by omega, by omega⟩
/-- A chain of such a product. -/
theorem Cn.told {h b : List Int} {l : List (List Int)} (c : Cn h b l) {k : Rat} {D : List Int} (hk : k ≠ 0) (hD : D.Nodup) (e : ∀ x, iv h x = k * Pr D x) {x y : Rat} (hxy : x ≤ y) : vs (h :: b :: l) x = vs (h :: b :: l) y + cn D x y := by
  obtain ⟨a, ha, hs⟩ := c.slope
  rw [vs_vr, vs_vr]
  refine c.ch.count ha hs (cn D) (cn_self D) (cn_add D) (k := 1 / 2) (by grind) (fun u w huw hh => ?_) hxy
  obtain ⟨p1, p2⟩ := Pr_turn D u w hD huw hh
  have ek : Turn (rl h) u w ↔ (sq (Pr D u) ≠ 0 ∧ sq (Pr D w) ≠ sq (Pr D u)) := by
    unfold Turn
    rw [rl_val, rl_val, e, e, sq_mul, sq_mul]
    rcases sq_some k with h | h | h
    · rw [h, Int.one_mul, Int.one_mul]
    · rw [h]; constructor <;> rintro ⟨a, b⟩ <;> exact ⟨by omega, by omega⟩
    · exact absurd h (sq_ne hk)
  exact ⟨fun ht => p1 (ek.1 ht), fun ht => p2 fun h' => ht (ek.2 h')⟩

/-- Each once: the first of each. -/
def ddr : List Int → List Int
  | [] => []
  | r :: l => if r ∈ l then ddr l else ddr l ++ [r]
def dd (l : List Int) : List Int := ddr l.reverse
theorem dd_nil : dd [] = [] := rfl
theorem dd_snoc (l : List Int) (r : Int) : dd (l ++ [r]) = if r ∈ l then dd l else dd l ++ [r] := by
  unfold dd
  rw [List.reverse_append, List.reverse_cons, List.reverse_nil, List.nil_append, List.singleton_append, ddr]
  by_cases h : r ∈ l
  · rw [if_pos (List.mem_reverse.2 h), if_pos h]
  · rw [if_neg (fun e => h (List.mem_reverse.1 e)), if_neg h]
theorem ddr_mem : ∀ (l : List Int) (s : Int), s ∈ ddr l ↔ s ∈ l
  | [], s => Iff.rfl
  | r :: l, s => by
    rw [ddr]
    have ih := ddr_mem l s
    by_cases h : r ∈ l
    · rw [if_pos h, ih, List.mem_cons]
      exact ⟨.inr, fun h' => h'.elim (fun e => e ▸ h) id⟩
    · rw [if_neg h, List.mem_append, ih, List.mem_singleton, List.mem_cons]
      exact Or.comm
theorem dd_mem (l : List Int) (s : Int) : s ∈ dd l ↔ s ∈ l := by unfold dd; rw [ddr_mem, List.mem_reverse]
theorem ddr_nodup : ∀ (l : List Int), (ddr l).Nodup
  | [] => List.nodup_nil
  | r :: l => by
    rw [ddr]
    by_cases h : r ∈ l
    · rw [if_pos h]; exact ddr_nodup l
    · rw [if_neg h]
      refine List.nodup_append.2 ⟨ddr_nodup l, by simp, fun a ha b hb e => ?_⟩
      rw [List.mem_singleton.1 hb] at e
      exact h ((ddr_mem l r).1 (e ▸ ha))
theorem dd_nodup (l : List Int) : (dd l).Nodup := ddr_nodup _
theorem ddr_same : ∀ (l : List Int), l.Nodup → ddr l = l.reverse
  | [], _ => rfl
  | r :: l, h => by
    obtain ⟨h1, h2⟩ := List.nodup_cons.1 h
    rw [ddr, if_neg h1, ddr_same l h2, List.reverse_cons]
theorem dd_same {l : List Int} (h : l.Nodup) : dd l = l := by
  unfold dd
  rw [ddr_same _ (List.pairwise_reverse.2 (List.Pairwise.imp (fun h' e => h' e.symm) h)), List.reverse_reverse]
theorem one_of {D : List Int} {a : Int} (h : D.Nodup) (m : ∀ s, s ∈ D ↔ s = a) : D = [a] := by
  match D, h, m with
  | [], _, m => exact absurd ((m a).2 rfl) (by simp)
  | [x], _, m => rw [(m x).1 (by simp)]
  | x :: y :: l, h, m =>
    have h1 := (m x).1 (by simp)
    have h2 := (m y).1 (by simp)
    have := (List.nodup_cons.1 h).1
    rw [h1, h2] at this
    exact absurd (by simp) this
theorem two_of {D : List Int} {a b : Int} (hab : a ≠ b) (h : D.Nodup) (m : ∀ s, s ∈ D ↔ s = a ∨ s = b) : D = [a, b] ∨ D = [b, a] := by
  match D, h, m with
  | [], _, m => exact absurd ((m a).2 (.inl rfl)) (by simp)
  | [x], _, m =>
    have h1 := (m a).2 (.inl rfl)
    have h2 := (m b).2 (.inr rfl)
    rw [List.mem_singleton] at h1 h2
    exact absurd (h1.trans h2.symm) hab
  | [x, y], h, m =>
    have h0 := (List.nodup_cons.1 h).1
    have hxy : x ≠ y := fun e => h0 (by rw [e]; simp)
    rcases (m x).1 (by simp) with h1 | h1 <;> rcases (m y).1 (by simp) with h2 | h2
    · exact absurd (h1.trans h2.symm) hxy
    · left; rw [h1, h2]
    · right; rw [h1, h2]
    · exact absurd (h1.trans h2.symm) hxy
  | x :: y :: z :: l, h, m =>
    exfalso
    obtain ⟨h0, h'⟩ := List.nodup_cons.1 h
    obtain ⟨h00, _⟩ := List.nodup_cons.1 h'
    have hxy : x ≠ y := fun e => h0 (by rw [e]; simp)
    have hxz : x ≠ z := fun e => h0 (by rw [e]; simp)
    have hyz : y ≠ z := fun e => h00 (by rw [e]; simp)
    rcases (m x).1 (by simp) with h1 | h1 <;> rcases (m y).1 (by simp) with h2 | h2 <;> rcases (m z).1 (by simp) with h3 | h3 <;> omega

/-- Rows with the same values have the same slope. -/
theorem rd_same {l m : List Rat} (h : ∀ x, rv l x = rv m x) (x : Rat) : rd l x = rd m x := by
  obtain ⟨b, hb, hx⟩ := bd_self x
  obtain ⟨k1, p1, n1⟩ := rv_near l (b + 1) (by grind)
  obtain ⟨k2, p2, n2⟩ := rv_near m (b + 1) (by grind)
  refine Classical.byContradiction fun hne => ?_
  have hr : 0 < ab (rd l x - rd m x) := by
    unfold ab; split <;> grind
  obtain ⟨h0, hh, hs⟩ := small_of (p := k1 + k2) (r := ab (rd l x - rd m x)) (by grind) hr
  obtain ⟨d, hd, d1, d2⟩ := two_min hh (show (0 : Rat) < 1 by decide)
  have hsd := hs d (by grind) d1
  unfold Bd at hx
  have bx : Bd (b + 1) x := by unfold Bd; grind
  have b_y : Bd (b + 1) (x + d) := by unfold Bd; grind
  have e1 := n1 x (x + d) bx b_y
  have e2 := n2 x (x + d) bx b_y
  rw [h, h] at e1
  unfold Bd at e1 e2
  rw [show x + d - x = d by grind] at e1 e2
  have e3 : ab (rd l x - rd m x) * d ≤ (k1 + k2) * (d * d) := by
    unfold ab; split <;> grind
  have e4 : (k1 + k2) * (d * d) < ab (rd l x - rd m x) * d := by
    have := Rat.mul_lt_mul_of_pos_right hsd hd
    grind
  grind
/-- No number comes twice where the first one of a chain is the product. -/
theorem Cn.once {h b : List Int} {l : List (List Int)} (c : Cn h b l) {k : Rat} {rs : List Int} (hk : k ≠ 0) (hl : rs.length ≤ 3) (e : ∀ x, iv h x = k * Pr rs x) : rs.Nodup := by
  have key : ∀ r : Rat, iv h r = 0 → rd (rl h) r = 0 → False := fun r h0 h1 => by
    obtain ⟨a, ha, hs⟩ := c.slope
    obtain ⟨b0, hb0, hb⟩ := bd_self r
    obtain ⟨d, hd, hv⟩ := c.ch.apart b0 hb0
    have := hv r hb
    rw [hs r, h1, rl_val, h0] at this
    have z : ab 0 = 0 := by unfold ab; rw [if_pos (by grind)]
    have z2 : a * 0 = 0 := by grind
    rw [z2, z] at this
    grind
  have two : ∀ r : Rat, (∀ x, iv h x = k * ((x - r) * (x - r))) → False := fun r hv => by
    have hs := rd_same (l := rl h) (m := [k * (r * r), -(2 * k * r), k]) (fun x => by
      rw [rl_val, hv]
      show _ = k * (r * r) + x * (-(2 * k * r) + x * (k + x * 0))
      grind) r
    refine key r (by rw [hv]; grind) (hs.trans ?_)
    show (-(2 * k * r) + r * (k + r * 0)) + r * ((k + r * 0) + r * (0 + r * 0)) = 0
    grind
  have three : ∀ r s : Rat, (∀ x, iv h x = k * ((x - r) * (x - r) * (x - s))) → False := fun r s hv => by
    have hs := rd_same (l := rl h) (m := [-(k * (r * r * s)), k * (r * r + 2 * (r * s)), -(k * (2 * r + s)), k]) (fun x => by
      rw [rl_val, hv]
      show _ = -(k * (r * r * s)) + x * (k * (r * r + 2 * (r * s)) + x * (-(k * (2 * r + s)) + x * (k + x * 0)))
      grind) r
    refine key r (by rw [hv]; grind) (hs.trans ?_)
    show (k * (r * r + 2 * (r * s)) + r * (-(k * (2 * r + s)) + r * (k + r * 0))) + r * ((-(k * (2 * r + s)) + r * (k + r * 0)) + r * ((k + r * 0) + r * (0 + r * 0))) = 0
    grind
  match rs, hl, e with
  | [], _, _ => exact List.nodup_nil
  | [a], _, _ => simp
  | [a, b], _, e =>
    have : a ≠ b := fun hab => two a fun x => by
      rw [e, hab]
      show k * ((x - b) * ((x - b) * 1)) = _
      grind
    simp [this]
  | [a, b, c'], _, e =>
    have h1 : a ≠ b := fun hab => three a c' fun x => by
      rw [e, hab]
      show k * ((x - b) * ((x - b) * ((x - c') * 1))) = _
      grind
    have h2 : a ≠ c' := fun hab => three a b fun x => by
      rw [e, hab]
      show k * ((x - c') * ((x - b) * ((x - c') * 1))) = _
      grind
    have h3 : b ≠ c' := fun hab => three b a fun x => by
      rw [e, hab]
      show k * ((x - a) * ((x - c') * ((x - c') * 1))) = _
      grind
    simp [h1, h2, h3]

/-- The law of roots that are told. -/
theorem roots_told {f : List Int} (t : Tp f) {rs : List Int} (hl : rs.length ≤ 3) (hf : f.length = rs.length + 1) {k : Rat} (hk : k ≠ 0) (e : ∀ x, iv f x = k * Pr rs x) :
    (∀ x y : Rat, x ≤ y → (vs (chain f) x : Int) - vs (chain f) y = cn (dd rs) x y) ∧ ends (chain f) = (dd rs).length := by
  have h0 : f ≠ [] := fun e => by rw [e] at hf; simp at hf
  have S := sturm_of h0 (by omega) t
  have main : ∀ x y : Rat, x ≤ y → (vs (chain f) x : Int) - vs (chain f) y = cn (dd rs) x y := by
    by_cases h1 : rs.length = 0
    · obtain ⟨a, _, _⟩ := sturm_one (by omega) t
      obtain rfl := List.eq_nil_of_length_eq_zero h1
      intro x y _
      rw [a, a]; rfl
    · obtain ⟨h, b, l, e1, c, g, le, fm, _⟩ := chain_all (by omega) (by omega) t
      have mem : ∀ z : Rat, iv f z = 0 ↔ ∃ r ∈ dd rs, z = (r : Rat) := fun z => by
        rw [e z]
        constructor
        · intro hz
          rcases Rat.mul_eq_zero.1 hz with h | h
          · exact absurd h hk
          · obtain ⟨r, h1, h2⟩ := (Pr_zero rs z).1 h
            exact ⟨r, (dd_mem rs r).2 h1, h2⟩
        · rintro ⟨r, h1, h2⟩
          rw [(Pr_zero rs z).2 ⟨r, (dd_mem rs r).1 h1, h2⟩]; grind
      suffices hs : ∃ k' : Rat, k' ≠ 0 ∧ ∀ x, iv h x = k' * Pr (dd rs) x by
        obtain ⟨k', hk', e'⟩ := hs
        intro x y hxy
        rw [e1]
        have := c.told hk' (dd_nodup rs) e' hxy
        omega
      have line : ∀ (z c' : Rat), c' ≠ 0 → (∀ x, iv f x = 0 ↔ x = z) → (∀ x, iv h x = c' * (x - z)) → ∃ k' : Rat, k' ≠ 0 ∧ ∀ x, iv h x = k' * Pr (dd rs) x := fun z c' hc' hz hh => by
        obtain ⟨r, hr, rfl⟩ := (mem z).1 ((hz z).2 rfl)
        have hD := one_of (dd_nodup rs) (a := r) fun s => ⟨fun hs => by
          have := (hz s).1 ((mem s).2 ⟨s, hs, rfl⟩)
          exact Rat.intCast_inj.1 this, fun hs => hs ▸ hr⟩
        refine ⟨c', hc', fun x => ?_⟩
        rw [hD, hh]
        show _ = c' * ((x - r) * 1)
        grind
      cases fm with
      | one k0 hk0 e2 =>
        have k0' : k0 ≠ 0 := by grind
        have e3 : ∀ x, iv h x = (k * k0⁻¹) * Pr rs x := fun x => by
          have h1 := e x
          rw [e2 x] at h1
          have h2 := Rat.mul_inv_cancel k0 k0'
          generalize k0⁻¹ = i at *
          generalize iv h x = y at *
          generalize Pr rs x = p at *
          clear e e2 mem
          have : i * (k0 * y) = i * (k * p) := by rw [h1]
          grind
        have hki : k * k0⁻¹ ≠ 0 := fun e0 => by
          rcases Rat.mul_eq_zero.1 e0 with h | h
          · exact hk h
          · have := Rat.inv_pos.2 hk0; grind
        have hn := c.once hki hl e3
        exact ⟨_, hki, fun x => by rw [dd_same hn]; exact e3 x⟩
      | two z k1 c' hk1 hc e2 e3 =>
        exact line z c' hc (fun x => by
          rw [e2]
          constructor
          · intro h
            rcases Rat.mul_eq_zero.1 h with h | h
            · exact absurd h hk1
            · rcases Rat.mul_eq_zero.1 h with h | h <;> grind
          · rintro rfl; grind) e3
      | three z k1 c' hk1 hc e2 e3 =>
        exact line z c' hc (fun x => by
          rw [e2]
          constructor
          · intro h
            rcases Rat.mul_eq_zero.1 h with h | h
            · exact absurd h hk1
            · rcases Rat.mul_eq_zero.1 h with h | h
              · rcases Rat.mul_eq_zero.1 h with h | h <;> grind
              · grind
          · rintro rfl; grind) e3
      | four z v k1 c' ne hk1 hc e2 e3 =>
        have hz : ∀ x, iv f x = 0 ↔ x = z ∨ x = v := fun x => by
          rw [e2]
          constructor
          · intro h
            rcases Rat.mul_eq_zero.1 h with h | h
            · exact absurd h hk1
            · rcases Rat.mul_eq_zero.1 h with h | h
              · rcases Rat.mul_eq_zero.1 h with h | h <;> (left; grind)
              · right; grind
          · rintro (rfl | rfl) <;> grind
        obtain ⟨r, hr, er⟩ := (mem z).1 ((hz z).2 (.inl rfl))
        obtain ⟨s, hs, es⟩ := (mem v).1 ((hz v).2 (.inr rfl))
        subst er es
        have hrs : r ≠ s := fun e => ne (by rw [e])
        have hD := two_of hrs (dd_nodup rs) fun u => ⟨fun hu => by
          rcases (hz u).1 ((mem u).2 ⟨u, hu, rfl⟩) with h | h
          · exact .inl (Rat.intCast_inj.1 h)
          · exact .inr (Rat.intCast_inj.1 h), fun hu => by rcases hu with rfl | rfl; exact hr; exact hs⟩
        refine ⟨c', hc, fun x => ?_⟩
        rw [e3]
        rcases hD with h | h <;> rw [h]
        · show _ = c' * ((x - r) * ((x - s) * 1)); grind
        · show _ = c' * ((x - s) * ((x - r) * 1)); grind
  refine ⟨main, ?_⟩
  obtain ⟨B, hB, hv⟩ := S.far
  have bound : ∀ D : List Int, ∃ m : Rat, 0 < m ∧ ∀ r ∈ D, -m < (r : Rat) ∧ (r : Rat) ≤ m := fun D => by
    induction D with
    | nil => exact ⟨1, by decide, fun r h => (by cases h)⟩
    | cons a D ih =>
      obtain ⟨m, hm, h1⟩ := ih
      obtain ⟨n, hn, h2⟩ := bd_self (a : Rat)
      unfold Bd at h2
      refine ⟨m + n, by grind, fun r hr => ?_⟩
      rcases List.mem_cons.1 hr with rfl | hr
      · constructor <;> grind
      · have := h1 r hr
        constructor <;> grind
  obtain ⟨m, hm, h1⟩ := bound (dd rs)
  have e1 := hv (B + m) (by grind)
  have e2 := main (-(B + m)) (B + m) (by grind)
  rw [cn_all (dd rs) _ _ fun r hr => by have := h1 r hr; constructor <;> grind] at e2
  omega

end Go.Proofs.Ytbdpcpodmmhjaaa.Stu
