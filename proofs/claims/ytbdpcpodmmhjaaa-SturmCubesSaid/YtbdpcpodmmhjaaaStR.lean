/- The undivided chain counts what the document's chain counts, between two whole numbers and in all. No program is named here. -/
import Derived.Test.YtbdpcpodmmhjaaaStQ
namespace Go.Proofs.Ytbdpcpodmmhjaaa.Stu
set_option linter.unusedVariables false

theorem move (s : Rat) {u w : Rat} (h : u < w) : (u < s ∧ s ≤ w ∧ sq (u - s) = -1 ∧ (sq (w - s) = 0 ∨ sq (w - s) = 1)) ∨ (¬ (u < s ∧ s ≤ w) ∧ (sq (u - s) = 1 ∨ sq (u - s) = -1) ∧ sq (w - s) = sq (u - s)) ∨ (u = s ∧ ¬ (u < s ∧ s ≤ w) ∧ sq (u - s) = 0) := by
  rcases sq_line s u with ⟨p, e⟩ | ⟨p, e⟩ | ⟨p, e⟩
  · rcases sq_line s w with ⟨p2, e2⟩ | ⟨p2, e2⟩ | ⟨p2, e2⟩
    · exact .inr (.inl ⟨by grind, .inr e, by rw [e, e2]⟩)
    · exact .inl ⟨p, by grind, e, .inl e2⟩
    · exact .inl ⟨p, by grind, e, .inr e2⟩
  · exact .inr (.inr ⟨p, by grind, e⟩)
  · exact .inr (.inl ⟨by grind, .inl e, by rw [e]; exact sq_pos (by grind)⟩)
theorem gap_two {t v d u w : Rat} (hg : t + d < v ∨ v + d < t) (h : w - u ≤ d) (a1 : u < t) (a2 : t ≤ w) (b1 : u < v) (b2 : v ≤ w) : False := by
  rcases hg with hg | hg <;> grind
theorem gap_at {t v d u w : Rat} (hd : 0 < d) (hg : t + d < v ∨ v + d < t) (h : w - u ≤ d) (a1 : u < t) (a2 : t ≤ w) (b : u = v) : False := by
  rcases hg with hg | hg <;> grind
/-- A chain whose first row is a product of two lines. -/
theorem Cn.lines {h b : List Int} {l : List (List Int)} (c : Cn h b l) {k t v : Rat} (hk : k ≠ 0) (ne : t ≠ v) (e : ∀ x, iv h x = k * ((x - t) * (x - v))) {x y : Rat} (hxy : x ≤ y) :
    vs (h :: b :: l) x + (be t y + be v y) = vs (h :: b :: l) y + (be t x + be v x) := by
  obtain ⟨a, ha, hs⟩ := c.slope
  have hkk := sq_ne hk
  have one : ∀ s u v w : Rat, u ≤ v → v ≤ w → (if u < s ∧ s ≤ w then 1 else 0 : Nat) = (if u < s ∧ s ≤ v then 1 else 0) + if v < s ∧ s ≤ w then 1 else 0 := fun s u v w h1 h2 => by
    by_cases p : u < s ∧ s ≤ v
    · rw [if_pos p, if_pos (by grind), if_neg (by grind)]
    · by_cases q : v < s ∧ s ≤ w
      · rw [if_neg p, if_pos q, if_pos (by grind)]
      · rw [if_neg p, if_neg q, if_neg (by grind)]
  have gap : ∃ d : Rat, 0 < d ∧ (t + d < v ∨ v + d < t) := by
    by_cases h : t < v
    · exact ⟨(v - t) / 2, by grind, .inl (by grind)⟩
    · exact ⟨(t - v) / 2, by grind, .inr (by grind)⟩
  obtain ⟨d, hd, hg⟩ := gap
  have key := c.ch.count ha hs (fun u w => (if u < t ∧ t ≤ w then 1 else 0) + if u < v ∧ v ≤ w then 1 else 0) (fun u => by rw [if_neg (by grind), if_neg (by grind)]) (fun u v' w h1 h2 => by
    show (_ : Nat) + _ = _
    rw [one t u v' w h1 h2, one v u v' w h1 h2]; omega) (k := d) hd (fun u w h1 h2 => by
    have tt : (Turn (rl h) u w → (u < t ∧ t ≤ w) ∨ (u < v ∧ v ≤ w)) ∧ ((u < t ∧ t ≤ w) ∨ (u < v ∧ v ≤ w) → Turn (rl h) u w) := by
      have T : Turn (rl h) u w ↔ (sq k * (sq (u - t) * sq (u - v)) ≠ 0 ∧ sq k * (sq (w - t) * sq (w - v)) ≠ sq k * (sq (u - t) * sq (u - v))) := by
        unfold Turn
        rw [rl_val, rl_val, e, e, sq_mul, sq_mul, sq_mul, sq_mul]
      have kk : sq k = 1 ∨ sq k = -1 := by
        rcases sq_some k with a | a | a
        · exact .inl a
        · exact .inr a
        · exact absurd a hkk
      rw [T]
      have m1 := move t h1
      have m2 := move v h1
      clear T e hs one hkk c
      rcases m1 with ⟨a1, a2, a3, a4⟩ | ⟨a1, a3, a4⟩ | ⟨a0, a1, a3⟩
      · rcases m2 with ⟨b1, b2, b3, b4⟩ | ⟨b1, b3, b4⟩ | ⟨b0, b1, b3⟩
        · exact (gap_two hg h2 a1 a2 b1 b2).elim
        · refine ⟨fun _ => .inl ⟨a1, a2⟩, fun _ => ?_⟩
          rw [a3, b4]
          rcases kk with k1 | k1 <;> rcases a4 with k2 | k2 <;> rcases b3 with k3 | k3 <;> rw [k1, k2, k3] <;> decide
        · exact (gap_at hd hg h2 a1 a2 b0).elim
      · rcases m2 with ⟨b1, b2, b3, b4⟩ | ⟨b1, b3, b4⟩ | ⟨b0, b1, b3⟩
        · refine ⟨fun _ => .inr ⟨b1, b2⟩, fun _ => ?_⟩
          rw [b3, a4]
          rcases kk with k1 | k1 <;> rcases b4 with k2 | k2 <;> rcases a3 with k3 | k3 <;> rw [k1, k2, k3] <;> decide
        · refine ⟨fun hh => ?_, fun hh => hh.elim (fun q => absurd q a1) fun q => absurd q b1⟩
          rw [a4, b4] at hh
          exact absurd rfl hh.2
        · refine ⟨fun hh => ?_, fun hh => hh.elim (fun q => absurd q a1) fun q => absurd q b1⟩
          rw [b3, Int.mul_zero, Int.mul_zero] at hh
          exact absurd rfl hh.1
      · refine ⟨fun hh => ?_, fun hh => hh.elim (fun q => absurd q a1) fun q => ?_⟩
        · rw [a3, Int.zero_mul, Int.mul_zero] at hh
          exact absurd rfl hh.1
        · exact (gap_at hd hg.symm h2 q.1 q.2 a0).elim
    by_cases ht : u < t ∧ t ≤ w
    · have nv : ¬ (u < v ∧ v ≤ w) := fun q => gap_two hg h2 ht.1 ht.2 q.1 q.2
      rw [if_pos ht, if_neg nv]
      exact ⟨fun _ => rfl, fun hn => absurd (tt.2 (.inl ht)) hn⟩
    · by_cases hv : u < v ∧ v ≤ w
      · rw [if_neg ht, if_pos hv]; exact ⟨fun _ => rfl, fun hn => absurd (tt.2 (.inr hv)) hn⟩
      · rw [if_neg ht, if_neg hv]; exact ⟨fun hh => (tt.1 hh).elim (fun q => absurd q ht) fun q => absurd q hv, fun _ => rfl⟩) hxy
  rw [vs_vr, vs_vr, key]
  have one : ∀ s : Rat, (if x < s ∧ s ≤ y then 1 else 0 : Nat) + be s y = be s x := fun s => by
    unfold be
    by_cases h1 : x < s
    · by_cases h2 : y < s
      · rw [if_pos h1, if_pos h2, if_neg (by grind)]
      · rw [if_pos h1, if_neg h2, if_pos (by grind)]
    · rw [if_neg h1, if_neg (show ¬ y < s by grind), if_neg (by grind)]
  have a1 := one t
  have a2 := one v
  omega
/-- What a chain counts to the right of a place, if its last row is no number: N, which goes as the document's chain does. -/
structure Told (f : List Int) (N : Rat → Nat) : Prop where
  right : ∀ x : Rat, ∃ h0 : Rat, 0 < h0 ∧ ∀ y : Rat, x < y → y ≤ x + h0 → N y = N x
  doc : ∀ x y : Rat, x ≤ y → vs (chain f) x + N y = vs (chain f) y + N x
  here : ∀ x : Rat, (∀ g ∈ rst f, iv g x ≠ 0) → vs (rst f) x = N x
theorem one_told {f : List Int} {q0 q1 : Int} {t : Rat} (hq1 : q1 ≠ 0) (hr : (q0 : Rat) = -(t * q1)) (hn : ¬ (lst (rst f)).length < 2) (hq : dq (pl f) (lst (rst f)) = [q0, q1])
    (here : ∀ x : Rat, (∀ g ∈ rst f, iv g x ≠ 0) → vs (rst f) x = be t x) : Told f (be t) := by
  obtain ⟨b, l, e1, e2, m, hm, e3⟩ := rst_line hq1 (q0 := q0)
  refine ⟨fun x => ?_, fun x y hxy => ?_, here⟩
  · obtain ⟨h0, p0, h⟩ := be_right t x
    exact ⟨h0, p0, fun y h1 h2 => (h y h1 h2).1⟩
  · have ec : chain f = pl [q0, q1] :: b :: l := by unfold chain; rw [if_neg hn, hq]; exact e1
    rw [ec]
    refine e2.line (k := m⁻¹ * q1) (fun e => ?_) (fun z => ?_) hxy
    · rcases Rat.mul_eq_zero.1 e with e | e
      · exact inv_ne' hm e
      · exact castne hq1 e
    · rw [div_of hm (e3 z), iv2, hr]; grind
theorem tr2 (a b : Int) (ha : a ≠ 0) (hb : b ≠ 0) : tr 0 [a, b] = if a = -b then 1 else 0 := by
  rw [tr_start _ _ ha, tr_cons _ _ hb]
  show _ + 0 = _
  split <;> rfl
theorem be_sq (t x : Rat) : be t x = if sq (x - t) = -1 then 1 else 0 := by
  unfold be
  rcases sq_line t x with ⟨p, e⟩ | ⟨p, e⟩ | ⟨p, e⟩ <;> rw [e]
  · rw [if_pos p]; rfl
  · rw [if_neg (by grind)]; rfl
  · rw [if_neg (by grind)]; rfl
theorem three_turns {a s u m : Int} (ha : a = 1 ∨ a = -1) (hs : s = 1 ∨ s = -1) (hu : u = 1 ∨ u = -1) (hm : m = 1 ∨ m = -1) (h : s = u → m = s) :
    tr (a * (s * s * u)) [a * (s * m), a * s] = (if s = -1 then 1 else 0) + if u = -1 then 1 else 0 := by
  rcases ha with rfl | rfl <;> rcases hs with rfl | rfl <;> rcases hu with rfl | rfl <;> rcases hm with rfl | rfl <;> first | rfl | exact absurd (h rfl) (by decide)
theorem same_side (z v x : Rat) : sq (x - z) = sq (x - v) → sq (x - (2 * v + z) / 3) = sq (x - z) := by
  rcases sq_line z x with ⟨p, e⟩ | ⟨p, e⟩ | ⟨p, e⟩ <;> rcases sq_line v x with ⟨p2, e2⟩ | ⟨p2, e2⟩ | ⟨p2, e2⟩ <;> rw [e, e2] <;> intro h
  · exact sq_neg (by clear e e2 h; grind)
  · exact absurd h (by decide)
  · exact absurd h (by decide)
  · exact absurd h (by decide)
  · rw [show x - (2 * v + z) / 3 = 0 by clear e e2 h; grind, sq_zero]
  · exact absurd h (by decide)
  · exact absurd h (by decide)
  · exact absurd h (by decide)
  · exact sq_pos (by clear e e2 h; grind)
theorem rst_told {f : List Int} (h2 : 2 ≤ f.length) (h4 : f.length ≤ 4) (t : Tp f) (hn : ¬ (lst (rst f)).length < 2) : ∃ N, Told f N := by
  obtain ⟨l1, t1, l2, t2, _, hs⟩ := pl_slope h2 t
  obtain ⟨al, hal, hsl⟩ := hs
  have hb : pl (slp f) ≠ [] := fun e => by rw [e] at l2; simp at l2; omega
  have er := rst_eq h2 t
  rcases show f.length = 2 ∨ f.length = 3 ∨ f.length = 4 by omega with h | h | h
  · exact absurd (rst_two h t) hn
  · rcases rst_three h t with h' | ⟨h0, hl⟩
    · exact absurd h' hn
    · obtain ⟨z, k, q0, q1, hq, hq1, hk, hr, hv⟩ := sq2 (by omega) t1 (by omega) t2 ⟨al, hal, hsl⟩ h0
      refine ⟨_, one_told hq1 hr hn (by rw [hl]; exact hq) fun x hx => ?_⟩
      have e3 : rst f = [pl f, pl (slp f)] := by rw [er, tl, if_pos h0]
      rw [e3] at hx ⊢
      have n1 := hx (pl f) (by simp)
      have n2 := hx (pl (slp f)) (by simp)
      have vb : iv (pl (slp f)) x = al * (k * (2 * (x - z))) := by
        rw [hsl, rd_same (m := [k * (z * z), -(2 * k * z), k]) (fun y => by rw [rl_val, hv]; show _ = k * (z * z) + y * (-(2 * k * z) + y * (k + y * 0)); grind) x]
        show al * (-(2 * k * z) + x * (k + x * 0) + x * (k + x * 0 + x * (0 + x * 0))) = _
        grind
      have va := hv x
      show tr 0 [sq (iv (pl f) x), sq (iv (pl (slp f)) x)] = _
      rw [tr2 _ _ (sq_ne n1) (sq_ne n2)]
      rw [va] at n1 ⊢
      rw [vb] at n2 ⊢
      rw [sq_mul, sq_mul, sq_mul, sq_mul, sq_mul, sq_pos hal, sq_pos (show (0 : Rat) < 2 by decide)]
      have hkk := sq_ne hk
      have hz : x ≠ z := fun e => n1 (by rw [e]; grind)
      unfold be
      rcases sq_some k with a | a | a
      rotate_left 2
      · exact absurd a hkk
      all_goals
        rw [a]
        rcases sq_line z x with ⟨p1, q1⟩ | ⟨p1, q1⟩ | ⟨p1, q1⟩ <;> rw [q1]
        · rw [if_pos p1]; rfl
        · exact absurd p1 hz
        · rw [if_neg (show ¬ x < z by grind)]; rfl
  · by_cases h0 : dr (pl f) (pl (slp f)) = []
    · obtain ⟨z, k, q0, q1, hq, hq1, hk, hr, hv⟩ := sq3 (by omega) t1 (by omega) t2 ⟨al, hal, hsl⟩ h0
      have hl : lst (rst f) = pl (slp f) := by rw [rst_eq h2 t, lst_a h0]
      refine ⟨_, one_told hq1 hr hn (by rw [hl]; exact hq) fun x hx => ?_⟩
      have e3 : rst f = [pl f, pl (slp f)] := by rw [er, tl, if_pos h0]
      rw [e3] at hx ⊢
      have n1 := hx (pl f) (by simp)
      have n2 := hx (pl (slp f)) (by simp)
      have vb : iv (pl (slp f)) x = al * (k * (3 * ((x - z) * (x - z)))) := by
        rw [hsl, rd_same (m := [-(k * (z * z * z)), 3 * k * (z * z), -(3 * k * z), k]) (fun y => by rw [rl_val, hv]; show _ = -(k * (z * z * z)) + y * (3 * k * (z * z) + y * (-(3 * k * z) + y * (k + y * 0))); grind) x]
        show al * (3 * k * (z * z) + x * (-(3 * k * z) + x * (k + x * 0)) + x * (-(3 * k * z) + x * (k + x * 0) + x * (k + x * 0 + x * (0 + x * 0)))) = _
        grind
      have va := hv x
      show tr 0 [sq (iv (pl f) x), sq (iv (pl (slp f)) x)] = _
      rw [tr2 _ _ (sq_ne n1) (sq_ne n2)]
      rw [va] at n1 ⊢
      rw [vb] at n2 ⊢
      rw [sq_mul, sq_mul, sq_mul, sq_mul, sq_mul, sq_mul, sq_mul, sq_pos hal, sq_pos (show (0 : Rat) < 3 by decide)]
      have hkk := sq_ne hk
      have hz : x ≠ z := fun e => n1 (by rw [e]; grind)
      unfold be
      rcases sq_some k with a | a | a
      rotate_left 2
      · exact absurd a hkk
      all_goals
        rw [a]
        rcases sq_line z x with ⟨p1, q1⟩ | ⟨p1, q1⟩ | ⟨p1, q1⟩ <;> rw [q1]
        · rw [if_pos p1]; rfl
        · exact absurd p1 hz
        · rw [if_neg (show ¬ x < z by grind)]; rfl
    · obtain ⟨z1, _, z3, _, cc, u, ee, hcc, hu, hee, hv1⟩ := split_val (pl f) (pl (slp f)) hb t2 (by omega)
      have z4 := List.length_pos_iff.2 h0
      obtain ⟨r, hr⟩ : ∃ r, r = (dr (pl f) (pl (slp f))).map (- ·) := ⟨_, rfl⟩
      have lr : r.length = (dr (pl f) (pl (slp f))).length := by rw [hr, neg_len]
      have tr' : Tp r := by rw [hr]; exact z3.neg
      have hrn : r ≠ [] := fun e => by rw [e] at lr; simp at lr; omega
      by_cases hr1 : r.length = 1
      · exact absurd (by rw [rst_eq h2 t, lst_b h0 (by rw [← hr]; exact dr_one hr1 tr' (by omega)), ← hr]; omega) hn
      · by_cases h1 : dr (pl (slp f)) r = []
        · have hl : lst (rst f) = r := by rw [rst_eq h2 t, lst_b h0 (by rw [← hr]; exact h1), ← hr]
          obtain ⟨z, v, k, q0, q1, q2, hq, hq2, ne, hk, hv, hv2⟩ := sq4 (by omega) t1 (by omega) t2 ⟨al, hal, hsl⟩ hr (by omega) tr' h1
          have e3 : rst f = [pl f, pl (slp f), r] := by rw [er, tl, if_neg h0, ← hr, tl, if_pos h1]
          have tq : Tp [q0, q1, q2] := fun _ => hq2
          obtain ⟨m1, m2, m3, m4, ⟨m, hm, e4⟩, m6⟩ := pl_slope (f := [q0, q1, q2]) (by simp) tq
          have hk0 : ((m⁻¹ : Rat) * q2) ≠ 0 := fun e => by
            rcases Rat.mul_eq_zero.1 e with e | e
            · exact inv_ne' hm e
            · exact castne hq2 e
          have ev : ∀ x, iv (pl [q0, q1, q2]) x = m⁻¹ * q2 * ((x - z) * (x - v)) := fun x => by rw [div_of hm (e4 x), hv2]; grind
          have hs2 : (lst (rst [q0, q1, q2])).length < 2 := by
            rcases rst_three (by simp) tq with h' | ⟨h', _⟩
            · exact h'
            · exfalso
              obtain ⟨y, k', _, _, _, _, hk', _, hv'⟩ := sq2 (by rw [m1]; rfl) m2 (by rw [m3]; rfl) m4 m6 h'
              have a1 := (hv' z).symm.trans (ev z)
              have a2 := (hv' v).symm.trans (ev v)
              have b1 : k' * ((z - y) * (z - y)) = 0 := by rw [a1]; grind
              have b2 : k' * ((v - y) * (v - y)) = 0 := by rw [a2]; grind
              have c1 : z = y := by
                rcases Rat.mul_eq_zero.1 b1 with h | h
                · exact absurd h hk'
                · rcases Rat.mul_eq_zero.1 h with h | h <;> grind
              have c2 : v = y := by
                rcases Rat.mul_eq_zero.1 b2 with h | h
                · exact absurd h hk'
                · rcases Rat.mul_eq_zero.1 h with h | h <;> grind
              exact ne (c1.trans c2.symm)
          obtain ⟨e, c⟩ := rst_cn (by simp) (by simp) tq hs2
          have ec : chain f = pl [q0, q1, q2] :: pl (slp [q0, q1, q2]) :: tl 8 (pl [q0, q1, q2]) (pl (slp [q0, q1, q2])) := by
            unfold chain; rw [if_neg hn, hl, hq]; exact e
          have vb : ∀ x, iv (pl (slp f)) x = al * (k * ((x - z) * (3 * x - 2 * v - z))) := fun x => by
            rw [hsl, rd_same (m := [-(k * (z * z * v)), k * (z * z + 2 * (z * v)), -(k * (2 * z + v)), k]) (fun y => by rw [rl_val, hv]; show _ = -(k * (z * z * v)) + y * (k * (z * z + 2 * (z * v)) + y * (-(k * (2 * z + v)) + y * (k + y * 0))); grind) x]
            show al * (k * (z * z + 2 * (z * v)) + x * (-(k * (2 * z + v)) + x * (k + x * 0)) + x * (-(k * (2 * z + v)) + x * (k + x * 0) + x * (k + x * 0 + x * (0 + x * 0)))) = _
            grind
          -- the last row comes to 0 at z, and its slope has k's sign
          obtain ⟨r0, r1, hre⟩ := len2 (show r.length = 2 by omega)
          have hr1' : r1 ≠ 0 := by have := tr' hrn; rw [hre] at this; exact this
          obtain ⟨y, hy⟩ := root_of (q0 := r0) hr1'
          have vr' : ∀ x, iv r x = r1 * (x - y) := fun x => by rw [hre, iv2, hy]; grind
          have eq1 : ∀ x, cc * iv (pl f) x = u * iv (dq (pl f) (pl (slp f))) x * iv (pl (slp f)) x - ee * iv r x := fun x => by
            have : iv r x = -(iv (dr (pl f) (pl (slp f))) x) := by rw [hr, iv_neg]
            rw [this, hv1 x]; grind
          have yz : y = z := by
            obtain ⟨_, _, _, _, c', u', e', hc', hu', he', hv3⟩ := split_val (pl (slp f)) r hrn tr' (by omega)
            have ir : iv r y = 0 := by rw [vr']; grind
            have hby : iv (pl (slp f)) y = 0 := by
              have := hv3 y
              rw [h1, iv_nil, ir] at this
              exact cancel (a := c') (by grind) (by grind)
            have ay : iv (pl f) y = 0 := by
              have := eq1 y
              rw [hby, ir] at this
              exact cancel (a := cc) (by grind) (by grind)
            rw [hv] at ay
            rcases Rat.mul_eq_zero.1 ay with h | h
            · exact absurd h hk
            · rcases Rat.mul_eq_zero.1 h with h | h
              · rcases Rat.mul_eq_zero.1 h with h | h <;> grind
              · exfalso
                have yv : y = v := by grind
                rw [yv, vb] at hby
                rcases Rat.mul_eq_zero.1 hby with h | h
                · grind
                · rcases Rat.mul_eq_zero.1 h with h | h
                  · exact hk h
                  · rcases Rat.mul_eq_zero.1 h with h | h <;> exact ne (by grind)
          have sr : sq (r1 : Rat) = sq k := by
            have := eq1 ((2 * v + z) / 3)
            rw [vb, vr', hv, yz] at this
            have e5 : 3 * ((2 * v + z) / 3) - 2 * v - z = 0 := by grind
            rw [e5] at this
            have d1 : (2 * v + z) / 3 - z = 2 / 3 * (v - z) := by grind
            have d2 : (2 * v + z) / 3 - v = -(1 / 3 * (v - z)) := by grind
            rw [d1, d2] at this
            have e6 : ee * (r1 : Rat) = cc * k * (2 / 9 * ((v - z) * (v - z))) := cancel (a := 2 / 3 * (v - z)) (by intro h; exact ne (by grind)) (by grind)
            have hp : 0 < (v - z) * (v - z) := by
              by_cases h : v < z
              · have := Rat.mul_pos (show 0 < z - v by grind) (show 0 < z - v by grind); grind
              · exact Rat.mul_pos (show 0 < v - z by grind) (show 0 < v - z by grind)
            have e7 := congrArg sq e6
            rw [sq_mul, sq_mul, sq_mul, sq_mul, sq_pos hee, sq_pos hcc, sq_pos hp, sq_pos (show (0 : Rat) < 2 / 9 by grind)] at e7
            omega
          refine ⟨fun x => be z x + be v x, fun x => ?_, fun x y hxy => ?_, fun x hx => ?_⟩
          · obtain ⟨h0, p0, h⟩ := be_right z x
            obtain ⟨h0', p0', h'⟩ := be_right v x
            obtain ⟨d, hd, d1, d2⟩ := two_min p0 p0'
            exact ⟨d, hd, fun y h1 h2 => by show be z y + be v y = be z x + be v x; rw [(h y h1 (by grind)).1, (h' y h1 (by grind)).1]⟩
          · rw [ec]
            exact c.lines hk0 ne ev hxy
          · rw [e3] at hx ⊢
            have n1 := hx (pl f) (by simp)
            have n2 := hx (pl (slp f)) (by simp)
            have n3 := hx r (by simp)
            show tr 0 [sq (iv (pl f) x), sq (iv (pl (slp f)) x), sq (iv r x)] = _
            rw [tr_start _ _ (sq_ne n1)]
            rw [hv] at n1 ⊢
            rw [vb] at n2 ⊢
            rw [vr', yz] at n3 ⊢
            rw [show 3 * x - 2 * v - z = 3 * (x - (2 * v + z) / 3) by grind] at n2 ⊢
            rw [sq_mul, sq_mul, sq_mul, sq_mul, sq_mul, sq_mul, sq_mul, sq_mul, sr, sq_pos hal, sq_pos (show (0 : Rat) < 3 by decide), Int.one_mul, Int.one_mul]
            have hz : x ≠ z := fun e => n1 (by rw [e]; grind)
            have hv' : x ≠ v := fun e => n1 (by rw [e]; grind)
            have hw : x ≠ (2 * v + z) / 3 := fun e => n2 (by rw [← e]; grind)
            rw [be_sq, be_sq]
            have some : ∀ q : Rat, q ≠ 0 → sq q = 1 ∨ sq q = -1 := fun q hq => by
              rcases sq_some q with a | a | a
              · exact .inl a
              · exact .inr a
              · exact absurd a (sq_ne hq)
            exact three_turns (some k hk) (some _ (by grind)) (some _ (by grind)) (some _ (by grind)) (same_side z v x)
        · obtain ⟨y1, _, y3, _⟩ := split_val (pl (slp f)) r hrn tr' (by omega)
          have y4 := List.length_pos_iff.2 h1
          exact absurd (by
            rw [rst_eq h2 t, lst_c h0 hr h1 (dr_one (by rw [neg_len]; omega) y3.neg (by omega)), neg_len]
            omega) hn

end Go.Proofs.Ytbdpcpodmmhjaaa.Stu
