/- Several texts, one behind the other: StR, StB, StN, StS, SuC1, Fp, MatM, Grid, OwnM, SuC2, StT, SuC3, HdsV, SuC4, Bz, SuC5, StM, SuFact, Sqr, MatR. -/
import Derived.Test.YtbdpcpodmmhjaaaTopRealProofG1
import Derived.BigQuiet
import Derived.KernelRfl
import Derived.StillTailTactics
import Derived.Deep.Cut
import Derived.Deep.CutRange
import Derived.Deep.DeepCutAuto

/- The undivided chain counts what the document's chain counts, between two whole numbers and in all. No program is named here. -/
namespace Go.Proofs.Ytbdpcpodmmhjaaa.Stu
set_option linter.unusedVariables false

theorem move (s : Rat) {u w : Rat} (h : u < w) : (u < s ∧ s ≤ w ∧ sq (u - s) = -1 ∧ (sq (w - s) = 0 ∨ sq (w - s) = 1)) ∨ (¬ (u < s ∧ s ≤ w) ∧ (sq (u - s) = 1 ∨ sq (u - s) = -1) ∧ sq (w - s) = sq (u - s)) ∨ (u = s ∧ ¬ (u < s ∧ s ≤ w) ∧ sq (u - s) = 0) := by
  rcases sq_line s u with ⟨p, e⟩ | ⟨p, e⟩ | ⟨p, e⟩
  · rcases sq_line s w with ⟨p2, e2⟩ | ⟨p2, e2⟩ | ⟨p2, e2⟩
    · exact .inr (.inl ⟨by grind, .inr e, by rw [e, e2]⟩)
    · exact .inl ⟨p, by grind, e, .inl e2⟩
    · exact .inl ⟨p, by grind, e, .inr e2⟩
  · exact .inr (.inr ⟨p, by grind, e⟩)
  · exact .inr (.inl ⟨by grind, .inl e, by rw [e]; exact sq_pos (by grind)⟩)
theorem gap_two {t v d u w : Rat} (hg : t + d < v ∨ v + d < t) (h : w - u ≤ d) (a1 : u < t) (a2 : t ≤ w) (b1 : u < v) (b2 : v ≤ w) : False := by
  rcases hg with hg | hg <;> grind
theorem gap_at {t v d u w : Rat} (hd : 0 < d) (hg : t + d < v ∨ v + d < t) (h : w - u ≤ d) (a1 : u < t) (a2 : t ≤ w) (b : u = v) : False := by
  rcases hg with hg | hg <;> grind
/-- A chain whose first row is a product of two lines. -/
theorem Cn.lines {h b : List Int} {l : List (List Int)} (c : Cn h b l) {k t v : Rat} (hk : k ≠ 0) (ne : t ≠ v) (e : ∀ x, iv h x = k * ((x - t) * (x - v))) {x y : Rat} (hxy : x ≤ y) :
    vs (h :: b :: l) x + (be t y + be v y) = vs (h :: b :: l) y + (be t x + be v x) := by
  obtain ⟨a, ha, hs⟩ := c.slope
  have hkk := sq_ne hk
  have one : ∀ s u v w : Rat, u ≤ v → v ≤ w → (if u < s ∧ s ≤ w then 1 else 0 : Nat) = (if u < s ∧ s ≤ v then 1 else 0) + if v < s ∧ s ≤ w then 1 else 0 := fun s u v w h1 h2 => by
    by_cases p : u < s ∧ s ≤ v
    · rw [if_pos p, if_pos (by grind), if_neg (by grind)]
    · by_cases q : v < s ∧ s ≤ w
      · rw [if_neg p, if_pos q, if_pos (by grind)]
      · rw [if_neg p, if_neg q, if_neg (by grind)]
  have gap : ∃ d : Rat, 0 < d ∧ (t + d < v ∨ v + d < t) := by
    by_cases h : t < v
    · exact ⟨(v - t) / 2, by grind, .inl (by grind)⟩
    · exact ⟨(t - v) / 2, by grind, .inr (by grind)⟩
  obtain ⟨d, hd, hg⟩ := gap
  have key := c.ch.count ha hs (fun u w => (if u < t ∧ t ≤ w then 1 else 0) + if u < v ∧ v ≤ w then 1 else 0) (fun u => by rw [if_neg (by grind), if_neg (by grind)]) (fun u v' w h1 h2 => by
    show (_ : Nat) + _ = _
    rw [one t u v' w h1 h2, one v u v' w h1 h2]; omega) (k := d) hd (fun u w h1 h2 => by
    have tt : (Turn (rl h) u w → (u < t ∧ t ≤ w) ∨ (u < v ∧ v ≤ w)) ∧ ((u < t ∧ t ≤ w) ∨ (u < v ∧ v ≤ w) → Turn (rl h) u w) := by
      have T : Turn (rl h) u w ↔ (sq k * (sq (u - t) * sq (u - v)) ≠ 0 ∧ sq k * (sq (w - t) * sq (w - v)) ≠ sq k * (sq (u - t) * sq (u - v))) := by
        unfold Turn
        rw [rl_val, rl_val, e, e, sq_mul, sq_mul, sq_mul, sq_mul]
      have kk : sq k = 1 ∨ sq k = -1 := by
        rcases sq_some k with a | a | a
        · exact .inl a
        · exact .inr a
        · exact absurd a hkk
      rw [T]
      have m1 := move t h1
      have m2 := move v h1
      clear T e hs one hkk c
      rcases m1 with ⟨a1, a2, a3, a4⟩ | ⟨a1, a3, a4⟩ | ⟨a0, a1, a3⟩
      · rcases m2 with ⟨b1, b2, b3, b4⟩ | ⟨b1, b3, b4⟩ | ⟨b0, b1, b3⟩
        · exact (gap_two hg h2 a1 a2 b1 b2).elim
        · refine ⟨fun _ => .inl ⟨a1, a2⟩, fun _ => ?_⟩
          rw [a3, b4]
          rcases kk with k1 | k1 <;> rcases a4 with k2 | k2 <;> rcases b3 with k3 | k3 <;> rw [k1, k2, k3] <;> decide
        · exact (gap_at hd hg h2 a1 a2 b0).elim
      · rcases m2 with ⟨b1, b2, b3, b4⟩ | ⟨b1, b3, b4⟩ | ⟨b0, b1, b3⟩
        · refine ⟨fun _ => .inr ⟨b1, b2⟩, fun _ => ?_⟩
          rw [b3, a4]
          rcases kk with k1 | k1 <;> rcases b4 with k2 | k2 <;> rcases a3 with k3 | k3 <;> rw [k1, k2, k3] <;> decide
        · refine ⟨fun hh => ?_, fun hh => hh.elim (fun q => absurd q a1) fun q => absurd q b1⟩
          rw [a4, b4] at hh
          exact absurd rfl hh.2
        · refine ⟨fun hh => ?_, fun hh => hh.elim (fun q => absurd q a1) fun q => absurd q b1⟩
          rw [b3, Int.mul_zero, Int.mul_zero] at hh
          exact absurd rfl hh.1
      · refine ⟨fun hh => ?_, fun hh => hh.elim (fun q => absurd q a1) fun q => ?_⟩
        · rw [a3, Int.zero_mul, Int.mul_zero] at hh
          exact absurd rfl hh.1
        · exact (gap_at hd hg.symm h2 q.1 q.2 a0).elim
    by_cases ht : u < t ∧ t ≤ w
    · have nv : ¬ (u < v ∧ v ≤ w) := fun q => gap_two hg h2 ht.1 ht.2 q.1 q.2
      rw [if_pos ht, if_neg nv]
      exact ⟨fun _ => rfl, fun hn => absurd (tt.2 (.inl ht)) hn⟩
    · by_cases hv : u < v ∧ v ≤ w
      · rw [if_neg ht, if_pos hv]; exact ⟨fun _ => rfl, fun hn => absurd (tt.2 (.inr hv)) hn⟩
      · rw [if_neg ht, if_neg hv]; exact ⟨fun hh => (tt.1 hh).elim (fun q => absurd q ht) fun q => absurd q hv, fun _ => rfl⟩) hxy
  rw [vs_vr, vs_vr, key]
  have one : ∀ s : Rat, (if x < s ∧ s ≤ y then 1 else 0 : Nat) + be s y = be s x := fun s => by
    unfold be
    by_cases h1 : x < s
    · by_cases h2 : y < s
      · rw [if_pos h1, if_pos h2, if_neg (by grind)]
      · rw [if_pos h1, if_neg h2, if_pos (by grind)]
    · rw [if_neg h1, if_neg (show ¬ y < s by grind), if_neg (by grind)]
  have a1 := one t
  have a2 := one v
  omega
/-- What a chain counts to the right of a place, if its last row is no number: N, which goes as the document's chain does. -/
structure Told (f : List Int) (N : Rat → Nat) : Prop where
  right : ∀ x : Rat, ∃ h0 : Rat, 0 < h0 ∧ ∀ y : Rat, x < y → y ≤ x + h0 → N y = N x
  doc : ∀ x y : Rat, x ≤ y → vs (chain f) x + N y = vs (chain f) y + N x
  here : ∀ x : Rat, (∀ g ∈ rst f, iv g x ≠ 0) → vs (rst f) x = N x
theorem one_told {f : List Int} {q0 q1 : Int} {t : Rat} (hq1 : q1 ≠ 0) (hr : (q0 : Rat) = -(t * q1)) (hn : ¬ (lst (rst f)).length < 2) (hq : dq (pl f) (lst (rst f)) = [q0, q1])
    (here : ∀ x : Rat, (∀ g ∈ rst f, iv g x ≠ 0) → vs (rst f) x = be t x) : Told f (be t) := by
  obtain ⟨b, l, e1, e2, m, hm, e3⟩ := rst_line hq1 (q0 := q0)
  refine ⟨fun x => ?_, fun x y hxy => ?_, here⟩
  · obtain ⟨h0, p0, h⟩ := be_right t x
    exact ⟨h0, p0, fun y h1 h2 => (h y h1 h2).1⟩
  · have ec : chain f = pl [q0, q1] :: b :: l := by unfold chain; rw [if_neg hn, hq]; exact e1
    rw [ec]
    refine e2.line (k := m⁻¹ * q1) (fun e => ?_) (fun z => ?_) hxy
    · rcases Rat.mul_eq_zero.1 e with e | e
      · exact inv_ne' hm e
      · exact castne hq1 e
    · rw [div_of hm (e3 z), iv2, hr]; grind
theorem tr2 (a b : Int) (ha : a ≠ 0) (hb : b ≠ 0) : tr 0 [a, b] = if a = -b then 1 else 0 := by
  rw [tr_start _ _ ha, tr_cons _ _ hb]
  show _ + 0 = _
  split <;> rfl
theorem be_sq (t x : Rat) : be t x = if sq (x - t) = -1 then 1 else 0 := by
  unfold be
  rcases sq_line t x with ⟨p, e⟩ | ⟨p, e⟩ | ⟨p, e⟩ <;> rw [e]
  · rw [if_pos p]; rfl
  · rw [if_neg (by grind)]; rfl
  · rw [if_neg (by grind)]; rfl
theorem three_turns {a s u m : Int} (ha : a = 1 ∨ a = -1) (hs : s = 1 ∨ s = -1) (hu : u = 1 ∨ u = -1) (hm : m = 1 ∨ m = -1) (h : s = u → m = s) :
    tr (a * (s * s * u)) [a * (s * m), a * s] = (if s = -1 then 1 else 0) + if u = -1 then 1 else 0 := by
  rcases ha with rfl | rfl <;> rcases hs with rfl | rfl <;> rcases hu with rfl | rfl <;> rcases hm with rfl | rfl <;> first | rfl | exact absurd (h rfl) (by decide)
theorem same_side (z v x : Rat) : sq (x - z) = sq (x - v) → sq (x - (2 * v + z) / 3) = sq (x - z) := by
  rcases sq_line z x with ⟨p, e⟩ | ⟨p, e⟩ | ⟨p, e⟩ <;> rcases sq_line v x with ⟨p2, e2⟩ | ⟨p2, e2⟩ | ⟨p2, e2⟩ <;> rw [e, e2] <;> intro h
  · exact sq_neg (by clear e e2 h; grind)
  · exact absurd h (by decide)
  · exact absurd h (by decide)
  · exact absurd h (by decide)
  · rw [show x - (2 * v + z) / 3 = 0 by clear e e2 h; grind, sq_zero]
  · exact absurd h (by decide)
  · exact absurd h (by decide)
  · exact absurd h (by decide)
  · exact sq_pos (by clear e e2 h; grind)
theorem rst_told {f : List Int} (h2 : 2 ≤ f.length) (h4 : f.length ≤ 4) (t : Tp f) (hn : ¬ (lst (rst f)).length < 2) : ∃ N, Told f N := by
  obtain ⟨l1, t1, l2, t2, _, hs⟩ := pl_slope h2 t
  obtain ⟨al, hal, hsl⟩ := hs
  have hb : pl (slp f) ≠ [] := fun e => by rw [e] at l2; simp at l2; omega
  have er := rst_eq h2 t
  rcases show f.length = 2 ∨ f.length = 3 ∨ f.length = 4 by omega with h | h | h
  · exact absurd (rst_two h t) hn
  · rcases rst_three h t with h' | ⟨h0, hl⟩
    · exact absurd h' hn
    · obtain ⟨z, k, q0, q1, hq, hq1, hk, hr, hv⟩ := sq2 (by omega) t1 (by omega) t2 ⟨al, hal, hsl⟩ h0
      refine ⟨_, one_told hq1 hr hn (by rw [hl]; exact hq) fun x hx => ?_⟩
      have e3 : rst f = [pl f, pl (slp f)] := by rw [er, tl, if_pos h0]
      rw [e3] at hx ⊢
      have n1 := hx (pl f) (by simp)
      have n2 := hx (pl (slp f)) (by simp)
      have vb : iv (pl (slp f)) x = al * (k * (2 * (x - z))) := by
        rw [hsl, rd_same (m := [k * (z * z), -(2 * k * z), k]) (fun y => by rw [rl_val, hv]; show _ = k * (z * z) + y * (-(2 * k * z) + y * (k + y * 0)); grind) x]
        show al * (-(2 * k * z) + x * (k + x * 0) + x * (k + x * 0 + x * (0 + x * 0))) = _
        grind
      have va := hv x
      show tr 0 [sq (iv (pl f) x), sq (iv (pl (slp f)) x)] = _
      rw [tr2 _ _ (sq_ne n1) (sq_ne n2)]
      rw [va] at n1 ⊢
      rw [vb] at n2 ⊢
      rw [sq_mul, sq_mul, sq_mul, sq_mul, sq_mul, sq_pos hal, sq_pos (show (0 : Rat) < 2 by decide)]
      have hkk := sq_ne hk
      have hz : x ≠ z := fun e => n1 (by rw [e]; grind)
      unfold be
      rcases sq_some k with a | a | a
      rotate_left 2
      · exact absurd a hkk
      all_goals
        rw [a]
        rcases sq_line z x with ⟨p1, q1⟩ | ⟨p1, q1⟩ | ⟨p1, q1⟩ <;> rw [q1]
        · rw [if_pos p1]; rfl
        · exact absurd p1 hz
        · rw [if_neg (show ¬ x < z by grind)]; rfl
  · by_cases h0 : dr (pl f) (pl (slp f)) = []
    · obtain ⟨z, k, q0, q1, hq, hq1, hk, hr, hv⟩ := sq3 (by omega) t1 (by omega) t2 ⟨al, hal, hsl⟩ h0
      have hl : lst (rst f) = pl (slp f) := by rw [rst_eq h2 t, lst_a h0]
      refine ⟨_, one_told hq1 hr hn (by rw [hl]; exact hq) fun x hx => ?_⟩
      have e3 : rst f = [pl f, pl (slp f)] := by rw [er, tl, if_pos h0]
      rw [e3] at hx ⊢
      have n1 := hx (pl f) (by simp)
      have n2 := hx (pl (slp f)) (by simp)
      have vb : iv (pl (slp f)) x = al * (k * (3 * ((x - z) * (x - z)))) := by
        rw [hsl, rd_same (m := [-(k * (z * z * z)), 3 * k * (z * z), -(3 * k * z), k]) (fun y => by rw [rl_val, hv]; show _ = -(k * (z * z * z)) + y * (3 * k * (z * z) + y * (-(3 * k * z) + y * (k + y * 0))); grind) x]
        show al * (3 * k * (z * z) + x * (-(3 * k * z) + x * (k + x * 0)) + x * (-(3 * k * z) + x * (k + x * 0) + x * (k + x * 0 + x * (0 + x * 0)))) = _
        grind
      have va := hv x
      show tr 0 [sq (iv (pl f) x), sq (iv (pl (slp f)) x)] = _
      rw [tr2 _ _ (sq_ne n1) (sq_ne n2)]
      rw [va] at n1 ⊢
      rw [vb] at n2 ⊢
      rw [sq_mul, sq_mul, sq_mul, sq_mul, sq_mul, sq_mul, sq_mul, sq_pos hal, sq_pos (show (0 : Rat) < 3 by decide)]
      have hkk := sq_ne hk
      have hz : x ≠ z := fun e => n1 (by rw [e]; grind)
      unfold be
      rcases sq_some k with a | a | a
      rotate_left 2
      · exact absurd a hkk
      all_goals
        rw [a]
        rcases sq_line z x with ⟨p1, q1⟩ | ⟨p1, q1⟩ | ⟨p1, q1⟩ <;> rw [q1]
        · rw [if_pos p1]; rfl
        · exact absurd p1 hz
        · rw [if_neg (show ¬ x < z by grind)]; rfl
    · obtain ⟨z1, _, z3, _, cc, u, ee, hcc, hu, hee, hv1⟩ := split_val (pl f) (pl (slp f)) hb t2 (by omega)
      have z4 := List.length_pos_iff.2 h0
      obtain ⟨r, hr⟩ : ∃ r, r = (dr (pl f) (pl (slp f))).map (- ·) := ⟨_, rfl⟩
      have lr : r.length = (dr (pl f) (pl (slp f))).length := by rw [hr, neg_len]
      have tr' : Tp r := by rw [hr]; exact z3.neg
      have hrn : r ≠ [] := fun e => by rw [e] at lr; simp at lr; omega
      by_cases hr1 : r.length = 1
      · exact absurd (by rw [rst_eq h2 t, lst_b h0 (by rw [← hr]; exact dr_one hr1 tr' (by omega)), ← hr]; omega) hn
      · by_cases h1 : dr (pl (slp f)) r = []
        · have hl : lst (rst f) = r := by rw [rst_eq h2 t, lst_b h0 (by rw [← hr]; exact h1), ← hr]
          obtain ⟨z, v, k, q0, q1, q2, hq, hq2, ne, hk, hv, hv2⟩ := sq4 (by omega) t1 (by omega) t2 ⟨al, hal, hsl⟩ hr (by omega) tr' h1
          have e3 : rst f = [pl f, pl (slp f), r] := by rw [er, tl, if_neg h0, ← hr, tl, if_pos h1]
          have tq : Tp [q0, q1, q2] := fun _ => hq2
          obtain ⟨m1, m2, m3, m4, ⟨m, hm, e4⟩, m6⟩ := pl_slope (f := [q0, q1, q2]) (by simp) tq
          have hk0 : ((m⁻¹ : Rat) * q2) ≠ 0 := fun e => by
            rcases Rat.mul_eq_zero.1 e with e | e
            · exact inv_ne' hm e
            · exact castne hq2 e
          have ev : ∀ x, iv (pl [q0, q1, q2]) x = m⁻¹ * q2 * ((x - z) * (x - v)) := fun x => by rw [div_of hm (e4 x), hv2]; grind
          have hs2 : (lst (rst [q0, q1, q2])).length < 2 := by
            rcases rst_three (by simp) tq with h' | ⟨h', _⟩
            · exact h'
            · exfalso
              obtain ⟨y, k', _, _, _, _, hk', _, hv'⟩ := sq2 (by rw [m1]; rfl) m2 (by rw [m3]; rfl) m4 m6 h'
              have a1 := (hv' z).symm.trans (ev z)
              have a2 := (hv' v).symm.trans (ev v)
              have b1 : k' * ((z - y) * (z - y)) = 0 := by rw [a1]; grind
              have b2 : k' * ((v - y) * (v - y)) = 0 := by rw [a2]; grind
              have c1 : z = y := by
                rcases Rat.mul_eq_zero.1 b1 with h | h
                · exact absurd h hk'
                · rcases Rat.mul_eq_zero.1 h with h | h <;> grind
              have c2 : v = y := by
                rcases Rat.mul_eq_zero.1 b2 with h | h
                · exact absurd h hk'
                · rcases Rat.mul_eq_zero.1 h with h | h <;> grind
              exact ne (c1.trans c2.symm)
          obtain ⟨e, c⟩ := rst_cn (by simp) (by simp) tq hs2
          have ec : chain f = pl [q0, q1, q2] :: pl (slp [q0, q1, q2]) :: tl 8 (pl [q0, q1, q2]) (pl (slp [q0, q1, q2])) := by
            unfold chain; rw [if_neg hn, hl, hq]; exact e
          have vb : ∀ x, iv (pl (slp f)) x = al * (k * ((x - z) * (3 * x - 2 * v - z))) := fun x => by
            rw [hsl, rd_same (m := [-(k * (z * z * v)), k * (z * z + 2 * (z * v)), -(k * (2 * z + v)), k]) (fun y => by rw [rl_val, hv]; show _ = -(k * (z * z * v)) + y * (k * (z * z + 2 * (z * v)) + y * (-(k * (2 * z + v)) + y * (k + y * 0))); grind) x]
            show al * (k * (z * z + 2 * (z * v)) + x * (-(k * (2 * z + v)) + x * (k + x * 0)) + x * (-(k * (2 * z + v)) + x * (k + x * 0) + x * (k + x * 0 + x * (0 + x * 0)))) = _
            grind
          -- the last row comes to 0 at z, and its slope has k's sign
          obtain ⟨r0, r1, hre⟩ := len2 (show r.length = 2 by omega)
          have hr1' : r1 ≠ 0 := by have := tr' hrn; rw [hre] at this; exact this
          obtain ⟨y, hy⟩ := root_of (q0 := r0) hr1'
          have vr' : ∀ x, iv r x = r1 * (x - y) := fun x => by rw [hre, iv2, hy]; grind
          have eq1 : ∀ x, cc * iv (pl f) x = u * iv (dq (pl f) (pl (slp f))) x * iv (pl (slp f)) x - ee * iv r x := fun x => by
            have : iv r x = -(iv (dr (pl f) (pl (slp f))) x) := by rw [hr, iv_neg]
            rw [this, hv1 x]; grind
          have yz : y = z := by
            obtain ⟨_, _, _, _, c', u', e', hc', hu', he', hv3⟩ := split_val (pl (slp f)) r hrn tr' (by omega)
            have ir : iv r y = 0 := by rw [vr']; grind
            have hby : iv (pl (slp f)) y = 0 := by
              have := hv3 y
              rw [h1, iv_nil, ir] at this
              exact cancel (a := c') (by grind) (by grind)
            have ay : iv (pl f) y = 0 := by
              have := eq1 y
              rw [hby, ir] at this
              exact cancel (a := cc) (by grind) (by grind)
            rw [hv] at ay
            rcases Rat.mul_eq_zero.1 ay with h | h
            · exact absurd h hk
            · rcases Rat.mul_eq_zero.1 h with h | h
              · rcases Rat.mul_eq_zero.1 h with h | h <;> grind
              · exfalso
                have yv : y = v := by grind
                rw [yv, vb] at hby
                rcases Rat.mul_eq_zero.1 hby with h | h
                · grind
                · rcases Rat.mul_eq_zero.1 h with h | h
                  · exact hk h
                  · rcases Rat.mul_eq_zero.1 h with h | h <;> exact ne (by grind)
          have sr : sq (r1 : Rat) = sq k := by
            have := eq1 ((2 * v + z) / 3)
            rw [vb, vr', hv, yz] at this
            have e5 : 3 * ((2 * v + z) / 3) - 2 * v - z = 0 := by grind
            rw [e5] at this
            have d1 : (2 * v + z) / 3 - z = 2 / 3 * (v - z) := by grind
            have d2 : (2 * v + z) / 3 - v = -(1 / 3 * (v - z)) := by grind
            rw [d1, d2] at this
            have e6 : ee * (r1 : Rat) = cc * k * (2 / 9 * ((v - z) * (v - z))) := cancel (a := 2 / 3 * (v - z)) (by intro h; exact ne (by grind)) (by grind)
            have hp : 0 < (v - z) * (v - z) := by
              by_cases h : v < z
              · have := Rat.mul_pos (show 0 < z - v by grind) (show 0 < z - v by grind); grind
              · exact Rat.mul_pos (show 0 < v - z by grind) (show 0 < v - z by grind)
            have e7 := congrArg sq e6
            rw [sq_mul, sq_mul, sq_mul, sq_mul, sq_pos hee, sq_pos hcc, sq_pos hp, sq_pos (show (0 : Rat) < 2 / 9 by grind)] at e7
            omega
          refine ⟨fun x => be z x + be v x, fun x => ?_, fun x y hxy => ?_, fun x hx => ?_⟩
          · obtain ⟨h0, p0, h⟩ := be_right z x
            obtain ⟨h0', p0', h'⟩ := be_right v x
            obtain ⟨d, hd, d1, d2⟩ := two_min p0 p0'
            exact ⟨d, hd, fun y h1 h2 => by show be z y + be v y = be z x + be v x; rw [(h y h1 (by grind)).1, (h' y h1 (by grind)).1]⟩
          · rw [ec]
            exact c.lines hk0 ne ev hxy
          · rw [e3] at hx ⊢
            have n1 := hx (pl f) (by simp)
            have n2 := hx (pl (slp f)) (by simp)
            have n3 := hx r (by simp)
            show tr 0 [sq (iv (pl f) x), sq (iv (pl (slp f)) x), sq (iv r x)] = _
            rw [tr_start _ _ (sq_ne n1)]
            rw [hv] at n1 ⊢
            rw [vb] at n2 ⊢
            rw [vr', yz] at n3 ⊢
            rw [show 3 * x - 2 * v - z = 3 * (x - (2 * v + z) / 3) by grind] at n2 ⊢
            rw [sq_mul, sq_mul, sq_mul, sq_mul, sq_mul, sq_mul, sq_mul, sq_mul, sr, sq_pos hal, sq_pos (show (0 : Rat) < 3 by decide), Int.one_mul, Int.one_mul]
            have hz : x ≠ z := fun e => n1 (by rw [e]; grind)
            have hv' : x ≠ v := fun e => n1 (by rw [e]; grind)
            have hw : x ≠ (2 * v + z) / 3 := fun e => n2 (by rw [← e]; grind)
            rw [be_sq, be_sq]
            have some : ∀ q : Rat, q ≠ 0 → sq q = 1 ∨ sq q = -1 := fun q hq => by
              rcases sq_some q with a | a | a
              · exact .inl a
              · exact .inr a
              · exact absurd a (sq_ne hq)
            exact three_turns (some k hk) (some _ (by grind)) (some _ (by grind)) (some _ (by grind)) (same_side z v x)
        · obtain ⟨y1, _, y3, _⟩ := split_val (pl (slp f)) r hrn tr' (by omega)
          have y4 := List.length_pos_iff.2 h1
          exact absurd (by
            rw [rst_eq h2 t, lst_c h0 hr h1 (dr_one (by rw [neg_len]; omega) y3.neg (by omega)), neg_len]
            omega) hn

end Go.Proofs.Ytbdpcpodmmhjaaa.Stu

/- Plain facts on the document's chain of a row of at most four factors from -20 to 20: how large its numbers get. No program is named here. -/
namespace Go.Proofs.Ytbdpcpodmmhjaaa.Stu
set_option linter.unusedVariables false

/-- From -m to m, all of them. -/
def Bn (m : Int) (l : List Int) : Prop := ∀ x ∈ l, -m ≤ x ∧ x ≤ m
theorem Bn.le {m n : Int} {l : List Int} (h : Bn m l) (hn : m ≤ n) : Bn n l := fun x hx => by have := h x hx; omega
theorem Bn.at {m : Int} {l : List Int} (h : Bn m l) (h0 : 0 ≤ m) (k : Nat) : -m ≤ l.getD k 0 ∧ l.getD k 0 ≤ m := by
  rw [List.getD_eq_getElem?_getD]
  rcases hk : l[k]? with _ | z
  · simp; omega
  · exact h z (List.mem_of_getElem? hk)
theorem Bn.neg {m : Int} {l : List Int} (h : Bn m l) : Bn m (l.map (- ·)) := fun x hx => by
  obtain ⟨y, hy, rfl⟩ := List.mem_map.1 hx
  have := h y hy
  omega
theorem prod_bd {a b X Y : Int} (ha : -X ≤ a ∧ a ≤ X) (hb : -Y ≤ b ∧ b ≤ Y) : -(X * Y) ≤ a * b ∧ a * b ≤ X * Y := by
  have h1 := Int.mul_nonneg (show 0 ≤ X - a by omega) (show 0 ≤ Y + b by omega)
  have h2 := Int.mul_nonneg (show 0 ≤ X + a by omega) (show 0 ≤ Y - b by omega)
  have h3 := Int.mul_nonneg (show 0 ≤ X - a by omega) (show 0 ≤ Y - b by omega)
  have h4 := Int.mul_nonneg (show 0 ≤ X + a by omega) (show 0 ≤ Y + b by omega)
  rw [Int.sub_mul, Int.mul_add, Int.mul_add] at h1
  rw [Int.add_mul, Int.mul_sub, Int.mul_sub] at h2
  rw [Int.sub_mul, Int.mul_sub, Int.mul_sub] at h3
  rw [Int.add_mul, Int.mul_add, Int.mul_add] at h4
  constructor <;> omega
theorem az_bd {z Y : Int} (h : -Y ≤ z ∧ z ≤ Y) : 0 ≤ az z ∧ az z ≤ Y := by unfold az; split <;> omega
theorem tq_bd {f g : List Int} {X : Int} (h0 : 0 ≤ X) (h : Bn X f) : -X ≤ tq f g ∧ tq f g ≤ X := by
  have := h.at h0 (f.length - 1)
  unfold tq tp; split <;> omega
/-- One step. -/
theorem nx_bn {f g : List Int} {X Y : Int} (h0 : 0 ≤ X) (h1 : 0 ≤ Y) (hf : Bn X f) (hg : Bn Y g) : Bn (2 * (X * Y)) (nx f g) := fun z hz => by
  unfold nx at hz
  obtain ⟨i, _, rfl⟩ := List.mem_map.1 hz
  have a1 := az_bd (hg.at h1 (g.length - 1))
  have p1 := prod_bd (hf.at h0 i) (show -Y ≤ az (tp g) ∧ az (tp g) ≤ Y by unfold tp; omega)
  have p2 := prod_bd (tq_bd (g := g) h0 hf) (hg.at h1 (i - (f.length - 1 - (g.length - 1))))
  have xy := Int.mul_nonneg h0 h1
  split <;> omega
theorem qn_bn {Q f g : List Int} {X Y M : Int} (h0 : 0 ≤ X) (h1 : 0 ≤ Y) (hm : 0 ≤ M) (hf : Bn X f) (hg : Bn Y g) (hq : Bn M Q) : Bn (M * Y + X) (qn Q f g) := by
  have a1 := az_bd (hg.at h1 (g.length - 1))
  have mp : Bn (M * Y) (Q.map (· * az (tp g))) := fun z hz => by
    obtain ⟨y, hy, rfl⟩ := List.mem_map.1 hz
    exact prod_bd (hq y hy) (show -Y ≤ az (tp g) ∧ az (tp g) ≤ Y by unfold tp; omega)
  have my := Int.mul_nonneg hm h1
  intro z hz
  unfold qn at hz
  rcases List.mem_or_eq_of_mem_set hz with h | h
  · have := mp z h; omega
  · have b1 := mp.at my (f.length - g.length)
    have b2 := tq_bd (g := g) h0 hf
    rw [h]; omega
theorem bn_zeros (n : Nat) (m : Int) (h : 0 ≤ m) : Bn m (List.replicate n 0) := fun x hx => by rw [(List.mem_replicate.1 hx).2]; omega
theorem tdiv_bd {x g m : Int} (h : -m ≤ x ∧ x ≤ m) (hg : 0 < g) (hd : g ∣ x) : -m ≤ x.tdiv g ∧ x.tdiv g ≤ m := by
  obtain ⟨c, rfl⟩ := hd
  rw [Int.mul_tdiv_cancel_left _ (by omega)]
  rcases Int.le_total 0 c with hc | hc
  · have := Int.mul_le_mul_of_nonneg_right (show 1 ≤ g by omega) hc
    omega
  · have := Int.mul_le_mul_of_nonneg_right (show 1 ≤ g by omega) (show 0 ≤ -c by omega)
    have e : g * -c = -(g * c) := Int.mul_neg ..
    omega
theorem tm_sub (l : List Int) : ∀ x ∈ tm l, x ∈ l := by
  induction l using tm_ind with
  | h0 => exact fun x h => h
  | hz l ih => rw [tm_zero]; exact fun x h => List.mem_append_left _ (ih x h)
  | hn l a ha => rw [tm_not l ha]; exact fun x h => h
theorem pl_bn {l : List Int} {m : Int} (h : Bn m l) : Bn m (pl l) := fun z hz => by
  have ht : tm l ≠ [] := fun e => by rw [pl_nil.2 e] at hz; cases hz
  unfold pl at hz
  obtain ⟨y, hy, rfl⟩ := List.mem_map.1 hz
  exact tdiv_bd (h y (tm_sub l y hy)) (gcl_pos ht (tm_facts l).1) (gcl_dvd _ hy)
theorem slp_bn {f : List Int} {m : Int} (h0 : 0 ≤ m) (h : Bn m f) (h4 : f.length ≤ 4) : Bn (3 * m) (slp f) := fun z hz => by
  unfold slp at hz
  obtain ⟨i, hi, rfl⟩ := List.mem_map.1 hz
  have hi := List.mem_range.1 hi
  have := h.at h0 (i + 1)
  have p := prod_bd (a := (i : Int) + 1) (X := 3) (show -3 ≤ (i : Int) + 1 ∧ (i : Int) + 1 ≤ 3 by omega) this
  exact p
theorem dr_bn1 {f g : List Int} {X Y : Int} (h0 : 0 ≤ X) (h1 : 0 ≤ Y) (hf : Bn X f) (hg : Bn Y g) (hl : f.length = g.length + 1) (g0 : 0 < g.length) :
    Bn (4 * (X * Y * Y)) (dr f g) ∧ Bn (3 * (X * Y) + X) (dq f g) := by
  have xy := Int.mul_nonneg h0 h1
  have n1 := nx_bn h0 h1 hf hg
  have n2 := nx_bn (by omega) h1 n1 hg
  have q1 := qn_bn (Q := List.replicate 8 0) (M := 0) h0 h1 (by omega) hf hg (bn_zeros 8 0 (by omega))
  have q2 := qn_bn (by omega) h1 (by omega) n1 hg q1
  have e : spl f.length g f (List.replicate 8 0) = (qn (qn (List.replicate 8 0) f g) (nx f g) g, nx (nx f g) g) := by
    obtain ⟨m, hm⟩ : ∃ m, f.length = m + 2 := ⟨f.length - 2, by omega⟩
    rw [hm, spl, if_pos (by omega), spl, if_pos (by rw [nx_len]; omega)]
    cases m with
    | zero => rfl
    | succ m => rw [spl, if_neg (by rw [nx_len, nx_len]; omega)]
  unfold dr dq
  rw [e]
  constructor
  · refine pl_bn (n2.le ?_)
    rw [show 2 * (2 * (X * Y) * Y) = 4 * (X * Y * Y) by rw [Int.mul_assoc 2 (X * Y) Y]; omega]
    exact Int.le_refl _
  · refine pl_bn (q2.le ?_)
    rw [Int.zero_mul, Int.zero_add]
    omega
/-- By a row of two, a row of four: how often it goes. -/
theorem dq_bn2 {f g : List Int} {X Y : Int} (h0 : 0 ≤ X) (h1 : 0 ≤ Y) (hf : Bn X f) (hg : Bn Y g) (hl : f.length = g.length + 2) (g0 : 0 < g.length) :
    Bn ((X * Y + 2 * (X * Y)) * Y + 2 * (2 * (X * Y) * Y)) (dq f g) := by
  have xy := Int.mul_nonneg h0 h1
  have xyy := Int.mul_nonneg xy h1
  have n1 := nx_bn h0 h1 hf hg
  have n2 := nx_bn (by omega) h1 n1 hg
  have q1 := qn_bn (Q := List.replicate 8 0) (M := 0) h0 h1 (by omega) hf hg (bn_zeros 8 0 (by omega))
  have q2 := qn_bn (by omega) h1 (by omega) n1 hg q1
  have e4 : 2 * (2 * (X * Y) * Y) = 4 * (X * Y * Y) := by rw [Int.mul_assoc 2 (X * Y) Y]; omega
  have q3 := qn_bn (by rw [e4]; omega) h1 (by rw [Int.zero_mul, Int.zero_add]; omega) n2 hg q2
  have e : spl f.length g f (List.replicate 8 0) = (qn (qn (qn (List.replicate 8 0) f g) (nx f g) g) (nx (nx f g) g) g, nx (nx (nx f g) g) g) := by
    obtain ⟨m, hm⟩ : ∃ m, f.length = m + 3 := ⟨f.length - 3, by omega⟩
    rw [hm, spl, if_pos (by omega), spl, if_pos (by rw [nx_len]; omega), spl, if_pos (by rw [nx_len, nx_len]; omega)]
    cases m with
    | zero => rfl
    | succ m => rw [spl, if_neg (by rw [nx_len, nx_len, nx_len]; omega)]
  unfold dq
  rw [e]
  refine pl_bn (q3.le ?_)
  rw [Int.zero_mul, Int.zero_add]
  exact Int.le_refl _
/-- A row of one without what divides all is 1 or -1. -/
theorem pl_one {l : List Int} (h : (pl l).length = 1) : pl l = [1] ∨ pl l = [-1] := by
  have hl : (tm l).length = 1 := by rw [← pl_len]; exact h
  have t := (tm_facts l).1
  unfold pl
  match hm : tm l, hl with
  | [z], _ =>
    rw [hm] at t
    have hz : z ≠ 0 := t (by simp)
    have hg : gcl [z] = az z := by
      show ((Int.gcd 0 z : Nat) : Int) = _
      rw [Int.gcd_zero_left]
      unfold az; split <;> omega
    show [z.tdiv (gcl [z])] = [1] ∨ [z.tdiv (gcl [z])] = [-1]
    rw [hg]
    unfold az
    split
    · right; rw [Int.tdiv_neg, Int.tdiv_self hz]
    · left; rw [Int.tdiv_self hz]

/-- What a division of two rows wants, so that no number leaves the machine's ints: after every step the numbers are below this. -/
def Fit (a b : List Int) : Prop := ∃ X Y : Int, 0 ≤ X ∧ 1 ≤ Y ∧ Bn X a ∧ Bn Y b ∧ X ≤ 1000000000000 ∧ Y ≤ 1000000 ∧
  (a.length ≤ b.length ∨ (a.length = b.length + 1 ∧ 4 * (X * Y * Y) ≤ 4000000000000000000) ∨ (Y = 1 ∧ a.length ≤ 4) ∨ (a.length = b.length + 2 ∧ X ≤ 20 ∧ Y ≤ 20))
/-- The same of all divisions of a chain. -/
inductive Fits : List Int → List Int → Prop
  | mk {a b : List Int} (h : Fit a b) (t : dr a b ≠ [] → Fits b ((dr a b).map (- ·))) : Fits a b
theorem one_bn {a b : List Int} (h : (dr a b).length = 1) : Bn 1 ((dr a b).map (- ·)) := by
  unfold dr at *
  rcases pl_one h with e | e <;> rw [e] <;> exact fun x hx => by simp at hx; omega
theorem fits_one {a b : List Int} {X : Int} (hX : 0 ≤ X) (hX2 : X ≤ 1000000000000) (ha : Bn X a) (hb : Bn 1 b) (lb : b.length = 1) (tb : Tp b) (la : a.length ≤ 4) : Fits a b :=
  .mk ⟨X, 1, hX, by decide, ha, hb, hX2, by decide, .inr (.inr (.inl ⟨rfl, la⟩))⟩ fun h => absurd (dr_one lb tb (by omega)) h
theorem dr_len1 {a b : List Int} (hb : b ≠ []) (tb : Tp b) (la : a.length ≤ 8) (lb : b.length = 2) (h : dr a b ≠ []) : (dr a b).length = 1 ∧ Tp (dr a b) := by
  obtain ⟨h1, _, h3, _⟩ := split_val a b hb tb la
  have := List.length_pos_iff.2 h
  exact ⟨by omega, h3⟩
/-- Two rows, one of them longer by one, the shorter one of two. -/
theorem fits_two {a b : List Int} {X Y : Int} (hX : 0 ≤ X) (hY : 1 ≤ Y) (hX2 : X ≤ 1000000000000) (hY2 : Y ≤ 1000000) (h : 4 * (X * Y * Y) ≤ 4000000000000000000) (ha : Bn X a) (hb : Bn Y b) (la : a.length = 3) (lb : b.length = 2) (tb : Tp b) : Fits a b :=
  .mk ⟨X, Y, hX, hY, ha, hb, hX2, hY2, .inr (.inl ⟨by omega, h⟩)⟩ fun h0 => by
    obtain ⟨l1, t1⟩ := dr_len1 (fun e => by rw [e] at lb; cases lb) tb (by omega) lb h0
    exact fits_one (by omega) (by omega) hb (one_bn l1) (by rw [neg_len]; exact l1) t1.neg (by omega)
/-- The chain of a row of two or three. -/
theorem fits_small {f : List Int} {M : Int} (hM : 1 ≤ M) (hM2 : M ≤ 300000) (h : Bn M f) (h2 : 2 ≤ f.length) (h3 : f.length ≤ 3) (t : Tp f) (hc : 4 * (M * (3 * M) * (3 * M)) ≤ 4000000000000000000) : Fits (pl f) (pl (slp f)) := by
  obtain ⟨l1, t1, l2, t2, _⟩ := pl_slope h2 t
  have b1 := pl_bn h
  have b2 := pl_bn (slp_bn (by omega) h (by omega))
  rcases show f.length = 2 ∨ f.length = 3 by omega with e | e
  · have l3 : (pl (slp f)).length = 1 := by omega
    refine fits_one (X := M) (by omega) (by omega) b1 ?_ l3 t2 (by omega)
    rcases pl_one l3 with e' | e' <;> rw [e'] <;> exact fun x hx => by simp at hx; omega
  · exact fits_two (by omega) (by omega) (by omega) (by omega) hc b1 b2 (by omega) (by omega) t2
/-- The chain of a row of four from -20 to 20. -/
theorem fits_four {f : List Int} (h : Bn 20 f) (h4 : f.length = 4) (t : Tp f) : Fits (pl f) (pl (slp f)) := by
  obtain ⟨l1, t1, l2, t2, _⟩ := pl_slope (by omega) t
  have b1 := pl_bn h
  have b2 := pl_bn (slp_bn (by omega) h (by omega))
  have hb : pl (slp f) ≠ [] := fun e => by rw [e] at l2; simp at l2; omega
  refine .mk ⟨20, 60, by omega, by omega, b1, b2, by omega, by omega, .inr (.inl ⟨by omega, by omega⟩)⟩ fun h0 => ?_
  obtain ⟨z1, _, z3, _⟩ := split_val (pl f) (pl (slp f)) hb t2 (by omega)
  have z4 := List.length_pos_iff.2 h0
  have rb := (dr_bn1 (X := 20) (Y := 60) (by omega) (by omega) b1 b2 (by omega) (by omega)).1
  rcases show (dr (pl f) (pl (slp f))).length = 1 ∨ (dr (pl f) (pl (slp f))).length = 2 by omega with e | e
  · exact fits_one (X := 60) (by omega) (by omega) b2 (one_bn e) (by rw [neg_len]; exact e) z3.neg (by omega)
  · exact fits_two (X := 60) (Y := 288000) (by omega) (by omega) (by omega) (by omega) (by omega) b2 (rb.neg.le (by omega)) (by omega) (by rw [neg_len]; exact e) z3.neg

theorem cop {a b c : Int} (h : Int.gcd a b = 1) (hd : a ∣ b * c) : a ∣ c := by
  have h1 : Nat.Coprime a.natAbs b.natAbs := h
  have h2 := Int.natAbs_dvd_natAbs.2 hd
  rw [Int.natAbs_mul] at h2
  exact Int.natAbs_dvd_natAbs.1 (h1.dvd_of_dvd_mul_left h2)
theorem small_dvd {a b : Int} {m : Int} (h : a ∣ b) (hb : b ≠ 0) (hm : -m ≤ b ∧ b ≤ m) : -m ≤ a ∧ a ≤ m := by
  obtain ⟨c, rfl⟩ := h
  have hc : c ≠ 0 := fun e => hb (by rw [e, Int.mul_zero])
  rcases Int.le_total 0 a with ha | ha <;> rcases Int.lt_or_gt_of_ne hc with h1 | h1
  · have := Int.mul_le_mul_of_nonneg_left (show 1 ≤ -c by omega) ha
    have e : a * -c = -(a * c) := Int.mul_neg ..
    omega
  · have := Int.mul_le_mul_of_nonneg_left (show 1 ≤ c by omega) ha
    omega
  · have := Int.mul_le_mul_of_nonneg_left (show 1 ≤ -c by omega) (show 0 ≤ -a by omega)
    have e : -a * -c = a * c := Int.neg_mul_neg ..
    omega
  · have := Int.mul_le_mul_of_nonneg_left (show 1 ≤ c by omega) (show 0 ≤ -a by omega)
    have e : -a * c = -(a * c) := Int.neg_mul ..
    omega
/-- A row of two without what divides both, that goes into a row of four: its numbers divide the others' (Gauss). -/
theorem line_bd {a0 a1 a2 a3 r0 r1 m : Int} (hg : Int.gcd r0 r1 = 1) (hm : 0 ≤ m) (h3 : a3 ≠ 0) (b0 : -m ≤ a0 ∧ a0 ≤ m) (b1 : -m ≤ a1 ∧ a1 ≤ m) (b2 : -m ≤ a2 ∧ a2 ≤ m) (b3 : -m ≤ a3 ∧ a3 ≤ m)
    (e : a3 * (r0 * r0 * r0) - a2 * (r0 * r0 * r1) + a1 * (r0 * (r1 * r1)) - a0 * (r1 * r1 * r1) = 0) : (-m ≤ r0 ∧ r0 ≤ m) ∧ (-m ≤ r1 ∧ r1 ≤ m) := by
  have hg' : Int.gcd r1 r0 = 1 := by rw [Int.gcd_comm]; exact hg
  constructor
  · by_cases z0 : a0 = 0
    · by_cases zr : r0 = 0
      · omega
      subst z0
      have e1 : r0 * (a3 * (r0 * r0) - a2 * (r0 * r1) + a1 * (r1 * r1)) = 0 := by grind
      have e2 := (Int.mul_eq_zero.1 e1).resolve_left zr
      by_cases z1 : a1 = 0
      · subst z1
        have e3 : r0 * (a3 * r0 - a2 * r1) = 0 := by grind
        have e4 := (Int.mul_eq_zero.1 e3).resolve_left zr
        by_cases z2 : a2 = 0
        · subst z2
          have : a3 * r0 = 0 := by grind
          rcases Int.mul_eq_zero.1 this with h | h
          · exact absurd h h3
          · exact absurd h zr
        · exact small_dvd (cop hg (c := a2) ⟨a3, by grind⟩) z2 b2
      · exact small_dvd (cop hg (c := a1) (cop hg (c := r1 * a1) ⟨a2 * r1 - a3 * r0, by grind⟩)) z1 b1
    · exact small_dvd (cop hg (c := a0) (cop hg (c := r1 * a0) (cop hg (c := r1 * (r1 * a0)) ⟨a3 * (r0 * r0) - a2 * (r0 * r1) + a1 * (r1 * r1), by grind⟩))) z0 b0
  · exact small_dvd (cop hg' (c := a3) (cop hg' (c := r0 * a3) (cop hg' (c := r0 * (r0 * a3)) ⟨a2 * (r0 * r0) - a1 * (r0 * r1) + a0 * (r1 * r1), by grind⟩))) h3 b3
/-- What is left without what divides all has no common divisor. -/
theorem gcl_greatest : ∀ (l : List Int) (g d : Int), d ∣ g → (∀ x ∈ l, d ∣ x) → d ∣ l.foldl (fun g x => (Int.gcd g x : Int)) g
  | [], _, _, h, _ => h
  | a :: l, g, d, h, h2 => gcl_greatest l (Int.gcd g a : Int) d (Int.dvd_coe_gcd h (h2 a (by simp))) fun x hx => h2 x (List.mem_cons_of_mem _ hx)
theorem pl_gcl {l : List Int} (h : pl l ≠ []) : gcl (pl l) = 1 := by
  have ht : tm l ≠ [] := fun e => h (pl_nil.2 e)
  have hp := gcl_pos ht (tm_facts l).1
  have hc := map_cancel (tm l) (gcl (tm l)) fun x hx => gcl_dvd _ hx
  have h1 : gcl (pl l) * gcl (tm l) ∣ gcl (tm l) := by
    refine gcl_greatest (tm l) 0 _ (Int.dvd_zero _) fun x hx => ?_
    rw [← hc] at hx
    obtain ⟨y, hy, rfl⟩ := List.mem_map.1 hx
    exact Int.mul_dvd_mul (gcl_dvd (pl l) hy) (Int.dvd_refl _)
  have h2 := gcl_nn (pl l)
  have h3 := Int.le_of_dvd hp h1
  have h0 : gcl (pl l) ≠ 0 := fun e => by
    rw [e, Int.zero_mul] at h1
    have := Int.zero_dvd.1 h1
    omega
  refine Classical.byContradiction fun hn => ?_
  have := Int.mul_le_mul_of_nonneg_right (show 2 ≤ gcl (pl l) by omega) (show 0 ≤ gcl (tm l) by omega)
  omega

end Go.Proofs.Ytbdpcpodmmhjaaa.Stu

/- Plain facts on the document's chain of a row of at most four factors from -20 to 20: all its divisions fit. No program is named here. -/
namespace Go.Proofs.Ytbdpcpodmmhjaaa.Stu
set_option linter.unusedVariables false

/-- What comes behind the first chain, where its last row is no number. -/
structure Again (f : List Int) : Prop where
  ne : lst (rst f) ≠ []
  tp : Tp (lst (rst f))
  fit : Fit (pl f) (lst (rst f))
  lo : 2 ≤ (dq (pl f) (lst (rst f))).length
  hi : (dq (pl f) (lst (rst f))).length ≤ 3
  tq : Tp (dq (pl f) (lst (rst f)))
  bn : Bn 56000 (dq (pl f) (lst (rst f)))
  fits : Fits (pl (dq (pl f) (lst (rst f)))) (pl (slp (dq (pl f) (lst (rst f)))))
theorem chain_fits {f : List Int} (hB : Bn 20 f) (h2 : 2 ≤ f.length) (h4 : f.length ≤ 4) (t : Tp f) : Fits (pl f) (pl (slp f)) ∧ (¬ (lst (rst f)).length < 2 → Again f) := by
  obtain ⟨l1, t1, l2, t2, _, hs⟩ := pl_slope h2 t
  have hb : pl (slp f) ≠ [] := fun e => by rw [e] at l2; simp at l2; omega
  have b1 := pl_bn hB
  have b2 := pl_bn (slp_bn (by omega) hB h4)
  have mk : ∀ d, lst (rst f) = d → d ≠ [] → Tp d → Fit (pl f) d → 2 ≤ f.length - d.length + 1 → f.length - d.length + 1 ≤ 3 → d.length ≤ f.length → Bn 56000 (dq (pl f) d) → Again f := fun d hd hn td hf hlo hhi hle hbn => by
    have lq := dq_len (pl f) d hn td t1 (by omega) (by omega)
    have tq := (split_val (pl f) d hn td (by omega)).2.2.2.1
    rw [l1] at lq
    refine ⟨by rw [hd]; exact hn, by rw [hd]; exact td, by rw [hd]; exact hf, by rw [hd]; omega, by rw [hd]; omega, by rw [hd]; exact tq, by rw [hd]; exact hbn, ?_⟩
    rw [hd]
    exact fits_small (M := 56000) (by omega) (by omega) hbn (by omega) (by omega) tq (by omega)
  rcases show f.length = 2 ∨ f.length = 3 ∨ f.length = 4 by omega with h | h | h
  · exact ⟨fits_small (M := 20) (by omega) (by omega) hB (by omega) (by omega) t (by omega), fun hn => absurd (rst_two h t) hn⟩
  · refine ⟨fits_small (M := 20) (by omega) (by omega) hB (by omega) (by omega) t (by omega), fun hn => ?_⟩
    rcases rst_three h t with h' | ⟨h0, hl⟩
    · exact absurd h' hn
    · exact mk _ hl hb t2 ⟨20, 60, by omega, by omega, b1, b2, by omega, by omega, .inr (.inl ⟨by omega, by omega⟩)⟩ (by omega) (by omega) (by omega) ((dr_bn1 (X := 20) (Y := 60) (by omega) (by omega) b1 b2 (by omega) (by omega)).2.le (by omega))
  · refine ⟨fits_four hB h t, fun hn => ?_⟩
    by_cases h0 : dr (pl f) (pl (slp f)) = []
    · have hl : lst (rst f) = pl (slp f) := by rw [rst_eq h2 t, lst_a h0]
      exact mk _ hl hb t2 ⟨20, 60, by omega, by omega, b1, b2, by omega, by omega, .inr (.inl ⟨by omega, by omega⟩)⟩ (by omega) (by omega) (by omega) ((dr_bn1 (X := 20) (Y := 60) (by omega) (by omega) b1 b2 (by omega) (by omega)).2.le (by omega))
    · obtain ⟨z1, _, z3, _⟩ := split_val (pl f) (pl (slp f)) hb t2 (by omega)
      have z4 := List.length_pos_iff.2 h0
      obtain ⟨r, hr⟩ : ∃ r, r = (dr (pl f) (pl (slp f))).map (- ·) := ⟨_, rfl⟩
      have lr : r.length = (dr (pl f) (pl (slp f))).length := by rw [hr, neg_len]
      have tr : Tp r := by rw [hr]; exact z3.neg
      have hrn : r ≠ [] := fun e => by rw [e] at lr; simp at lr; omega
      by_cases hr1 : r.length = 1
      · exact absurd (by rw [rst_eq h2 t, lst_b h0 (by rw [← hr]; exact dr_one hr1 tr (by omega)), ← hr]; omega) hn
      · by_cases h1 : dr (pl (slp f)) r = []
        · have hl : lst (rst f) = r := by rw [rst_eq h2 t, lst_b h0 (by rw [← hr]; exact h1), ← hr]
          obtain ⟨r0, r1, hre⟩ := len2 (show r.length = 2 by omega)
          obtain ⟨c0, c1, c2, c3, hf⟩ := len4 (show (pl f).length = 4 by omega)
          -- no common divisor
          have hg : Int.gcd r0 r1 = 1 := by
            have hd : dr (pl f) (pl (slp f)) = [-r0, -r1] := by
              have : (r.map (- ·)) = dr (pl f) (pl (slp f)) := by
                rw [hr, List.map_map]
                conv => rhs; rw [← List.map_id (dr (pl f) (pl (slp f)))]
                exact List.map_congr_left fun x _ => Int.neg_neg x
              rw [← this, hre]; rfl
            have g1 : gcl (dr (pl f) (pl (slp f))) = 1 := by
              unfold dr at h0 ⊢
              exact pl_gcl h0
            rw [hd] at g1
            have g2 : ((Int.gcd ((Int.gcd 0 (-r0) : Nat) : Int) (-r1) : Nat) : Int) = 1 := g1
            rw [Int.gcd_zero_left, Int.gcd_neg] at g2
            have : Int.gcd ((-r0).natAbs : Int) r1 = Int.gcd r0 r1 := by
              unfold Int.gcd
              rw [Int.natAbs_natCast, Int.natAbs_neg]
            rw [this] at g2
            omega
          -- it goes into the row
          obtain ⟨z, v, k, _, _, _, _, _, _, _, hv, _⟩ := sq4 (by omega) t1 (by omega) t2 hs hr (by omega) tr h1
          have hr1' : r1 ≠ 0 := by have := tr hrn; rw [hre] at this; exact this
          obtain ⟨y, hy⟩ := root_of (q0 := r0) hr1'
          -- the row comes to 0 there
          have ay : iv (pl f) y = 0 := by
            obtain ⟨_, _, _, _, c, u, e, hc, hu, he, hv1⟩ := split_val (pl f) (pl (slp f)) hb t2 (by omega)
            obtain ⟨_, _, _, _, c', u', e', hc', hu', he', hv2⟩ := split_val (pl (slp f)) r hrn tr (by omega)
            have ir : iv r y = 0 := by rw [hre, iv2, hy]; grind
            have hby : iv (pl (slp f)) y = 0 := by
              have := hv2 y
              rw [h1, iv_nil, ir] at this
              exact cancel (a := c') (by grind) (by grind)
            have hdy : iv (dr (pl f) (pl (slp f))) y = 0 := by
              have : iv r y = -(iv (dr (pl f) (pl (slp f))) y) := by rw [hr, iv_neg]
              rw [ir] at this
              grind
            have := hv1 y
            rw [hby, hdy] at this
            exact cancel (a := c) (by grind) (by grind)
          have id : c3 * (r0 * r0 * r0) - c2 * (r0 * r0 * r1) + c1 * (r0 * (r1 * r1)) - c0 * (r1 * r1 * r1) = 0 := by
            refine Rat.intCast_inj.1 ?_
            rw [hf, iv4] at ay
            have : ((c3 * (r0 * r0 * r0) - c2 * (r0 * r0 * r1) + c1 * (r0 * (r1 * r1)) - c0 * (r1 * r1 * r1) : Int) : Rat) = -((r1 : Rat) * r1 * r1 * ((c0 : Rat) + y * c1 + y * y * c2 + y * y * y * c3)) := by
              rw [Rat.intCast_sub, Rat.intCast_add, Rat.intCast_sub, Rat.intCast_mul, Rat.intCast_mul, Rat.intCast_mul, Rat.intCast_mul, Rat.intCast_mul, Rat.intCast_mul, Rat.intCast_mul, Rat.intCast_mul, Rat.intCast_mul, Rat.intCast_mul, Rat.intCast_mul, Rat.intCast_mul, hy]
              clear ay hv
              grind
            rw [this, ay]
            show _ = (0 : Rat)
            grind
          have hc3 : c3 ≠ 0 := by have := t1 (fun e => by rw [e] at l1; simp at l1; omega); rw [hf] at this; exact this
          have b1' := b1
          rw [hf] at b1'
          have lb := line_bd hg (m := 20) (by omega) hc3 (b1' c0 (by simp)) (b1' c1 (by simp)) (b1' c2 (by simp)) (b1' c3 (by simp)) id
          have rb : Bn 20 r := by
            rw [hre]
            intro w hw
            rcases List.mem_cons.1 hw with rfl | hw
            · exact lb.1
            · rw [List.mem_singleton.1 hw]; exact lb.2
          exact mk _ hl hrn tr ⟨20, 20, by omega, by omega, b1, rb, by omega, by omega, .inr (.inr (.inr ⟨by omega, by omega, by omega⟩))⟩ (by omega) (by omega) (by omega) ((dq_bn2 (X := 20) (Y := 20) (by omega) (by omega) b1 rb (by omega) (by omega)).le (by omega))
        · obtain ⟨y1, _, y3, _⟩ := split_val (pl (slp f)) r hrn tr (by omega)
          have y4 := List.length_pos_iff.2 h1
          exact absurd (by
            rw [rst_eq h2 t, lst_c h0 hr h1 (dr_one (by rw [neg_len]; omega) y3.neg (by omega)), neg_len]
            omega) hn

end Go.Proofs.Ytbdpcpodmmhjaaa.Stu

/- The undivided chain's counts are the document's; beyond 21 there is no place; how large the undivided chain's numbers get. No program is named here. -/
namespace Go.Proofs.Ytbdpcpodmmhjaaa.Stu
set_option linter.unusedVariables false

theorem Al.len4 {P C : List (List Int)} (a : Al P C) (h : ∀ g ∈ C, g.length ≤ 4) : ∀ g ∈ P, g.length ≤ 4 := by
  induction a with
  | nil => exact fun _ hg => absurd hg (by simp)
  | @cons g k P C hk t ih =>
    intro g' hg'
    rcases List.mem_cons.1 hg' with rfl | hm
    · rw [List.length_map]; exact h g (by simp)
    · exact ih (fun g'' h'' => h g'' (List.mem_cons_of_mem _ h'')) g' hm
theorem Al.ne {P C : List (List Int)} (a : Al P C) (x : Rat) (h : ∀ g ∈ P, iv g x ≠ 0) : ∀ g ∈ C, iv g x ≠ 0 := by
  induction a with
  | nil => exact fun _ hg => absurd hg (by simp)
  | @cons g k P C hk t ih =>
    intro g' hg'
    rcases List.mem_cons.1 hg' with rfl | hm
    · intro e
      refine h (g'.map (· * k)) (by simp) ?_
      rw [iv_scale, e]; grind
    · exact ih (fun g'' h'' => h g'' (List.mem_cons_of_mem _ h'')) g' hm
theorem rst_len4 {f : List Int} (h2 : 2 ≤ f.length) (h4 : f.length ≤ 4) (t : Tp f) : ∀ g ∈ rst f, g.length ≤ 4 := by
  obtain ⟨l1, t1, l2, t2, _, _⟩ := pl_slope h2 t
  have hb : pl (slp f) ≠ [] := fun e => by rw [e] at l2; simp at l2; omega
  rw [rst_eq h2 t]
  intro g hg
  rcases List.mem_cons.1 hg with rfl | hg
  · omega
  · rcases List.mem_cons.1 hg with rfl | hg
    · omega
    · have := (tl_good 8 (pl f) (pl (slp f)) hb t2 (by omega) (by omega)).2.2 g hg
      omega
/-- Between two whole numbers. -/
theorem count_told {f : List Int} (h2 : 2 ≤ f.length) (h4 : f.length ≤ 4) (t : Tp f) {x y : Int} (hxy : x ≤ y) : (va (pch f) x : Int) - va (pch f) y = vs (chain f) x - vs (chain f) y := by
  have h0 : f ≠ [] := fun e => by rw [e] at h2; simp at h2
  have A := pch_al h0 t
  obtain ⟨g1, _, _⟩ := rst_good h2 (by omega) t
  have GP := A.good g1
  have L := A.len4 (rst_len4 h2 h4 t)
  have hxy' : (x : Rat) ≤ y := Rat.intCast_le_intCast.2 hxy
  have near : ∀ z : Int, ∃ h0 : Rat, 0 < h0 ∧ ∀ y : Rat, z < y → y ≤ z + h0 → va (pch f) z = vs (rst f) y ∧ ∀ g ∈ rst f, iv g y ≠ 0 := fun z => by
    obtain ⟨e, he, H⟩ := va_near (pch f) z GP L
    refine ⟨e, he, fun y h1 h2 => ?_⟩
    obtain ⟨a, b⟩ := H y h1 h2
    refine ⟨?_, A.ne y b⟩
    rw [← A.vs]
    unfold va vs
    rw [a]
  by_cases hl : (lst (rst f)).length < 2
  · obtain ⟨h, b, l, e, c, _, _, _, _⟩ := chain_all h2 h4 t
    have er : rst f = h :: b :: l := by rw [← e]; unfold chain; rw [if_pos hl]
    have one : ∀ z : Int, va (pch f) z = vs (chain f) z := fun z => by
      obtain ⟨d1, p1, H1⟩ := near z
      obtain ⟨d2, p2, H2⟩ := c.right z
      obtain ⟨d, hd, m1, m2⟩ := two_min p1 p2
      rw [(H1 (z + d) (by grind) (by grind)).1, er, e, H2 (z + d) (by grind) (by grind)]
    rw [one, one]
  · obtain ⟨N, T⟩ := rst_told h2 h4 t hl
    have one : ∀ z : Int, va (pch f) z = N z := fun z => by
      obtain ⟨d1, p1, H1⟩ := near z
      obtain ⟨d2, p2, H2⟩ := T.right z
      obtain ⟨d, hd, m1, m2⟩ := two_min p1 p2
      have a := H1 (z + d) (by grind) (by grind)
      rw [a.1, T.here _ a.2, H2 (z + d) (by grind) (by grind)]
    have := T.doc x y hxy'
    rw [one, one]
    omega
/-- Far enough out a row has its last factor's sign. -/
theorem beyond_pos : ∀ (f : List Int), f ≠ [] → (∀ z ∈ f, -20 ≤ z) → 0 < tp f → ∀ x : Rat, 21 ≤ x → 1 ≤ iv f x
  | [], h, _, _, _, _ => absurd rfl h
  | [a], _, _, ht, x, _ => by
    have ha : 1 ≤ a := ht
    have := Rat.intCast_le_intCast.2 ha
    show (1 : Rat) ≤ a + x * 0
    have e : ((1 : Int) : Rat) = 1 := rfl
    grind
  | a :: b :: l, _, hb, ht, x, hx => by
    have ih := beyond_pos (b :: l) (by simp) (fun z hz => hb z (List.mem_cons_of_mem _ hz)) (by
      have : tp (a :: b :: l) = tp (b :: l) := by unfold tp; simp
      rwa [this] at ht) x hx
    have := Rat.intCast_le_intCast.2 (hb a (by simp))
    have e : ((-20 : Int) : Rat) = -20 := rfl
    rw [iv_cons]
    generalize iv (b :: l) x = v at *
    have h1 := Rat.mul_le_mul_of_nonneg_left ih (show 0 ≤ x by grind)
    grind
theorem beyond {f : List Int} (h0 : f ≠ []) (t : Tp f) (hB : Bn 20 f) : ∀ x : Rat, 21 ≤ x → sq (iv f x) = sgz (tp f) ∧ sgz (tp f) ≠ 0 := fun x hx => by
  have ht := t h0
  by_cases hp : 0 < tp f
  · have := beyond_pos f h0 (fun z hz => (hB z hz).1) hp x hx
    rw [sq_pos (by grind)]
    unfold sgz
    rw [if_pos hp]; exact ⟨rfl, by decide⟩
  · have hn : tp f < 0 := by omega
    have := beyond_pos (f.map (- ·)) (by simpa using h0) (fun z hz => (hB.neg z hz).1) (by rw [tp_neg]; omega) x hx
    rw [iv_neg] at this
    rw [sq_neg (by grind)]
    unfold sgz
    rw [if_neg hp, if_pos hn]; exact ⟨rfl, by decide⟩
theorem od_bn {f : List Int} {m : Int} (h : Bn m f) : ∀ b, Bn m (od b f) := by
  induction f with
  | nil => intro b x hx; exact absurd hx (by simp [od])
  | cons a l ih =>
    intro b x hx
    have ha := h a (by simp)
    rcases List.mem_cons.1 (show x ∈ (if b then -a else a) :: od (!b) l from hx) with rfl | hx
    · cases b <;> simp <;> omega
    · exact ih (fun z hz => h z (List.mem_cons_of_mem _ hz)) _ x hx
theorem all_told {f : List Int} (h0 : f ≠ []) (h4 : f.length ≤ 4) (t : Tp f) (hB : Bn 20 f) : (va (pch f) (-21) : Int) - va (pch f) 21 = ends (chain f) := by
  have l1 := List.length_pos_iff.2 h0
  by_cases h1 : f.length = 1
  · rw [(sturm_one h1 t).2.1]
    have e : pch f = [f] := by
      unfold pch
      rw [if_pos (List.eq_nil_of_length_eq_zero (by rw [slp_len]; omega))]
    have z : ∀ s : Int, tr 0 [s] = 0 := fun s => by have := tr_zero [s]; simpa using this
    rw [e]
    unfold va
    rw [List.map_cons, List.map_nil, List.map_cons, List.map_nil, z, z]; rfl
  · have h2 : 2 ≤ f.length := by omega
    rw [count_told h2 h4 t (by omega)]
    obtain ⟨h, b, l, e, c, _, _, fm, _⟩ := chain_all h2 h4 t
    have S := sturm_of h0 h4 t
    obtain ⟨B, hB0, far⟩ := S.far
    have Bf := beyond h0 t hB
    have go := od_good (c := [f]) (fun g hg => by rw [List.mem_singleton.1 hg]; exact ⟨h0, t⟩) (od false f) (by simp)
    have Bo := beyond go.1 go.2 (od_bn hB false)
    have up : ∀ x y : Rat, 21 ≤ x → x ≤ y → vs (chain f) x = vs (chain f) y := fun x y hx hy => by
      rcases Nat.lt_or_ge (vs (chain f) y) (vs (chain f) x) with hlt | hge
      · exfalso
        rw [e] at hlt
        obtain ⟨u, w, q1, q2, q3, ht⟩ := c.some hy hlt
        have hu := Bf u (by grind)
        rcases event fm q2 ht with ⟨_, h3⟩ | ⟨z, z1, z2, z3⟩
        · have hw := Bf w (by grind)
          exact h3 (hw.1.trans hu.1.symm)
        · have hz := Bf z (by grind)
          rw [z3, sq_zero] at hz
          exact hz.2 hz.1.symm
      · exact Nat.le_antisymm hge (S.mono x y hy)
    have down : ∀ x y : Rat, x ≤ y → y ≤ -21 → vs (chain f) x = vs (chain f) y := fun x y hx hy => by
      rcases Nat.lt_or_ge (vs (chain f) y) (vs (chain f) x) with hlt | hge
      · exfalso
        rw [e] at hlt
        obtain ⟨u, w, q1, q2, q3, ht⟩ := c.some hx hlt
        have hu := Bo (-u) (by grind)
        rw [od_iv, show - -u = u by grind] at hu
        rcases event fm q2 ht with ⟨_, h3⟩ | ⟨z, z1, z2, z3⟩
        · have hw := Bo (-w) (by grind)
          rw [od_iv, show - -w = w by grind] at hw
          exact h3 (hw.1.trans hu.1.symm)
        · have hz := Bo (-z) (by grind)
          rw [od_iv, show - -z = z by grind, z3, sq_zero] at hz
          exact hz.2 hz.1.symm
      · exact Nat.le_antisymm hge (S.mono x y hx)
    have k := far (B + 21) (by grind)
    rw [← up 21 (B + 21) Rat.le_refl (by grind), down (-(B + 21)) (-21) (by grind) Rat.le_refl] at k
    exact k

/-- After s steps of a division. -/
theorem pow_le (Y : Int) (hY : 1 ≤ Y) : ∀ s : Nat, 1 ≤ (2 * Y) ^ s
  | 0 => by simp
  | s + 1 => by
    rw [Int.pow_succ]
    have := pow_le Y hY s
    have := Int.mul_le_mul_of_nonneg_left (show 1 ≤ 2 * Y by omega) (show 0 ≤ (2 * Y) ^ s by omega)
    omega
theorem spl_bn : ∀ (s n : Nat) (g f Q : List Int) (X Y : Int), 0 ≤ X → 1 ≤ Y → Bn X f → Bn Y g → g ≠ [] → f.length + 1 - g.length = s → Bn (X * (2 * Y) ^ s) (spl n g f Q).2
  | 0, n, g, f, Q, X, Y, hX, hY, hf, hg, hn, hs => by
    rw [Int.pow_zero, Int.mul_one]
    cases n with
    | zero => exact hf
    | succ n => rw [spl, if_neg (by omega)]; exact hf
  | s + 1, n, g, f, Q, X, Y, hX, hY, hf, hg, hn, hs => by
    have hp := pow_le Y hY (s + 1)
    have h1 := Int.mul_le_mul_of_nonneg_left hp hX
    cases n with
    | zero => exact hf.le (by omega)
    | succ n =>
      rw [spl, if_pos (by omega)]
      have b := nx_bn hX (show 0 ≤ Y by omega) hf hg
      have g0 := List.length_pos_iff.2 hn
      have := spl_bn s n g (nx f g) (qn Q f g) (2 * (X * Y)) Y (by have := Int.mul_nonneg hX (show 0 ≤ Y by omega); omega) hY b hg hn (by rw [nx_len]; omega)
      refine this.le ?_
      rw [Int.pow_succ]
      have e : X * ((2 * Y) ^ s * (2 * Y)) = 2 * (X * Y) * (2 * Y) ^ s := by grind
      omega
theorem nr_bn {f g : List Int} {X Y : Int} (hX : 0 ≤ X) (hY : 1 ≤ Y) (hf : Bn X f) (hg : Bn Y g) (hn : g ≠ []) : Bn (X * (2 * Y) ^ (f.length + 1 - g.length)) (nr f g) := fun z hz =>
  (spl_bn _ f.length g f [] X Y hX hY hf hg hn rfl).neg z (tm_sub _ z hz)
theorem nr_len {f g : List Int} (hg : g ≠ []) (t : Tp g) : (nr f g).length < g.length ∧ Tp (nr f g) := by
  have h := (spl_val f.length g f (List.replicate f.length 0) hg (t hg) (Nat.le_refl _) (by simp)).2.1
  obtain ⟨K, _, e⟩ := spl_scale f.length g f (List.replicate f.length 0) [] 1 1 (by omega) (by omega)
  rw [map_one, map_one] at e
  have h2 := (tm_facts ((spl f.length g f []).2.map (- ·))).2.1
  refine ⟨?_, (tm_facts _).1⟩
  unfold nr
  rw [List.length_map, e, List.length_map] at h2
  rw [e]
  exact Nat.lt_of_le_of_lt h2 h
/-- A row whose values from -100 to 100, and its slopes', fit. -/
def Sz (g : List Int) : Prop := g.length ≤ 4 ∧ ∃ B : Int, 0 ≤ B ∧ Bn B g ∧ B * 200 ^ g.length ≤ 4000000000000000000
/-- What the divisions of the undivided chain want behind two rows. -/
inductive Goo : List Int → List Int → Prop
  | one {a b : List Int} (h : b.length = 1) : Goo a b
  | more {a b : List Int} (h : 2 ≤ b.length) (X Y : Int) (hX : 0 ≤ X) (hY : 1 ≤ Y) (la : a.length ≤ 4) (ba : Bn X a) (bb : Bn Y b) (tb : Tp b) (fit : X * (2 * Y) ^ (a.length + 1 - b.length) ≤ 4000000000000000000) (cap : X ≤ 4000000000000000000 ∧ Y ≤ 4000000000000000000) (pa : 1 ≤ a.length) (lb : b.length ≤ 4)
    (sz : Sz (nr a b)) (t : nr a b ≠ [] → Goo b (nr a b)) : Goo a b
theorem goo_three {a b : List Int} {X Y : Int} (hX : 0 ≤ X) (hY : 1 ≤ Y) (cap : X ≤ 4000000000000000000 ∧ Y ≤ 4000000000000000000) (ba : Bn X a) (bb : Bn Y b) (la : a.length = 3) (lb : b.length = 2) (tb : Tp b) (h : X * (2 * Y) * (2 * Y) ≤ 20000000000000000) : Goo a b := by
  have hb : b ≠ [] := fun e => by rw [e] at lb; cases lb
  obtain ⟨n1, n2⟩ := nr_len (f := a) hb tb
  have bn := nr_bn hX hY ba bb hb
  have e : X * (2 * Y) ^ (a.length + 1 - b.length) = X * (2 * Y) * (2 * Y) := by
    rw [la, lb]
    show X * (2 * Y) ^ 2 = _
    rw [Int.pow_succ, Int.pow_succ, Int.pow_zero]; grind
  rw [e] at bn
  have h0 : 0 ≤ X * (2 * Y) * (2 * Y) := Int.mul_nonneg (Int.mul_nonneg hX (by omega)) (by omega)
  refine .more (by omega) X Y hX hY (by omega) ba bb tb (by rw [e]; omega) cap (by omega) (by omega) ⟨by omega, _, h0, bn, ?_⟩ fun hn => .one ?_
  · rcases show (nr a b).length = 0 ∨ (nr a b).length = 1 by omega with q | q <;> rw [q]
    · rw [Int.pow_zero]; omega
    · rw [show (200 : Int) ^ 1 = 200 from rfl]; omega
  · have := List.length_pos_iff.2 hn; omega
theorem sz_of {g : List Int} {B : Int} (h4 : g.length ≤ 4) (h : Bn B g) (h0 : 0 ≤ B) (hB : B * 200 ^ g.length ≤ 4000000000000000000) : Sz g := ⟨h4, B, h0, h, hB⟩
theorem row_goo {f : List Int} (h2 : 2 ≤ f.length) (h4 : f.length ≤ 4) (t : Tp f) (hB : Bn 20 f) : Sz f ∧ Sz (slp f) ∧ Goo f (slp f) := by
  obtain ⟨ts, ns⟩ := slp_tp h2 t
  have ls := slp_len f
  have bs := slp_bn (show (0 : Int) ≤ 20 by omega) hB h4
  have p : ∀ n : Nat, n ≤ 4 → (200 : Int) ^ n ≤ 1600000000 := fun n hn => by
    rcases show n = 0 ∨ n = 1 ∨ n = 2 ∨ n = 3 ∨ n = 4 by omega with rfl | rfl | rfl | rfl | rfl <;> decide
  refine ⟨sz_of h4 hB (by omega) (by have := p f.length h4; omega), sz_of (by omega) bs (by omega) (by have := p (slp f).length (by omega); omega), ?_⟩
  rcases show f.length = 2 ∨ f.length = 3 ∨ f.length = 4 by omega with h | h | h
  · exact .one (by omega)
  · exact goo_three (X := 20) (Y := 60) (by omega) (by omega) (by omega) hB bs h (by omega) ts (by omega)
  · obtain ⟨n1, n2⟩ := nr_len (f := f) ns ts
    have bn := nr_bn (X := 20) (Y := 60) (by omega) (by omega) hB bs ns
    have e : (20 : Int) * (2 * 60) ^ (f.length + 1 - (slp f).length) = 288000 := by
      rw [show f.length + 1 - (slp f).length = 2 by omega]; rfl
    have bs' : Bn 60 (slp f) := bs
    have bn' := bn
    rw [e] at bn
    refine .more (by omega) 20 60 (by omega) (by omega) (by omega) hB bs' ts (by rw [e]; omega) (by omega) (by omega) (by omega) (sz_of (by omega) bn (by omega) ?_) fun hn => ?_
    · rcases show (nr f (slp f)).length = 0 ∨ (nr f (slp f)).length = 1 ∨ (nr f (slp f)).length = 2 by omega with q | q | q <;> rw [q] <;> decide
    · have := List.length_pos_iff.2 hn
      rcases show (nr f (slp f)).length = 1 ∨ (nr f (slp f)).length = 2 by omega with q | q
      · exact .one q
      · exact goo_three (X := 60) (Y := 288000) (by omega) (by omega) (by omega) bs' bn (by omega) q n2 (by omega)
theorem nr_one {a b : List Int} (h : b.length = 1) (t : Tp b) : nr a b = [] := by
  have := (nr_len (f := a) (fun e => by rw [e] at h; cases h) t).1
  exact List.eq_nil_of_length_eq_zero (by omega)
theorem ptl_one {a b : List Int} (h : b.length = 1) (t : Tp b) (n : Nat) : ptl n a b = [] := by
  cases n with
  | zero => rfl
  | succ n => rw [ptl, if_pos (nr_one h t)]
theorem ptl_len : ∀ (n : Nat) (a b : List Int), (ptl n a b).length ≤ n
  | 0, _, _ => Nat.le_refl _
  | n + 1, a, b => by
    rw [ptl]
    split
    · exact Nat.zero_le _
    · rw [List.length_cons]; have := ptl_len n b (nr a b); omega
theorem goo_sz {a b : List Int} (h : Goo a b) (t : Tp b) (ne : b ≠ []) : ∀ n, ∀ g ∈ ptl n a b, Sz g := by
  induction h with
  | one h => intro n g hg; rw [ptl_one h t] at hg; exact absurd hg (by simp)
  | @more a b h X Y hX hY la ba bb tb fit cap pa lb sz t' ih =>
    intro n
    cases n with
    | zero => intro g hg; exact absurd hg (by simp [ptl])
    | succ n =>
      intro g hg
      rw [ptl] at hg
      by_cases h0 : nr a b = []
      · rw [if_pos h0] at hg; exact absurd hg (by simp)
      · rw [if_neg h0] at hg
        rcases List.mem_cons.1 hg with rfl | hg
        · exact sz
        · exact ih h0 (nr_len ne tb).2 h0 n g hg
theorem pch_sz {f : List Int} (h0 : f ≠ []) (h4 : f.length ≤ 4) (t : Tp f) (hB : Bn 20 f) : ∀ g ∈ pch f, Sz g := by
  have l1 := List.length_pos_iff.2 h0
  unfold pch
  by_cases h : f.length = 1
  · rw [if_pos (List.eq_nil_of_length_eq_zero (by rw [slp_len]; omega))]
    intro g hg
    rw [List.mem_singleton.1 hg]
    exact sz_of h4 hB (by omega) (by rw [h]; decide)
  · obtain ⟨ts, ns⟩ := slp_tp (show 2 ≤ f.length by omega) t
    obtain ⟨a, b, c⟩ := row_goo (show 2 ≤ f.length by omega) h4 t hB
    rw [if_neg ns]
    intro g hg
    rcases List.mem_cons.1 hg with rfl | hg
    · exact a
    · rcases List.mem_cons.1 hg with rfl | hg
      · exact b
      · exact goo_sz c ts ns 8 g hg
theorem pch_len (f : List Int) : (pch f).length ≤ 10 := by
  unfold pch
  split
  · simp
  · have := ptl_len 8 f (slp f)
    rw [List.length_cons, List.length_cons]; omega

end Go.Proofs.Ytbdpcpodmmhjaaa.Stu

/- Contracts of package sturm, first part: value, turns, derivative, after. -/
namespace Go.Proofs.Ytbdpcpodmmhjaaa
open Go.ChangeShapes Go.WideShapes Go.ChangeAt Go.RowKit
set_option linter.unusedVariables false

theorem hv_drop (x : Int) : ∀ (l : List Int) (k : Nat), k < l.length → Stu.hv (l.drop k) x = Stu.hv (l.drop (k + 1)) x * x + l.getD k 0
  | [], k, h => absurd h (by simp)
  | a :: l, 0, _ => rfl
  | a :: l, k + 1, h => by
    rw [List.drop_succ_cons, List.drop_succ_cons, hv_drop x l k (by simpa using h)]
    rfl
theorem hv_end (x : Int) {l : List Int} {k : Nat} (h : l.length ≤ k) : Stu.hv (l.drop k) x = 0 := by
  rw [List.drop_eq_nil_of_le h]; rfl
theorem pow200 : ∀ n : Nat, (1 : Int) ≤ 200 ^ n
  | 0 => by simp
  | n + 1 => by rw [Int.pow_succ]; have := pow200 n; omega
theorem pow200_le {n m : Nat} (h : n ≤ m) : (200 : Int) ^ n ≤ 200 ^ m := by
  obtain ⟨d, rfl⟩ : ∃ d, m = n + d := ⟨m - n, by omega⟩
  rw [Int.pow_add]
  have := Int.mul_le_mul_of_nonneg_left (pow200 d) (show (0 : Int) ≤ 200 ^ n by have := pow200 n; omega)
  omega
theorem bn_at {l : List Int} {B : Int} (h : Stu.Bn B l) {k : Nat} (hk : k < l.length) : -B ≤ l.getD k 0 ∧ l.getD k 0 ≤ B := by
  refine h _ ?_
  rw [List.getD_eq_getElem?_getD, List.getElem?_eq_getElem hk]
  exact List.getElem_mem hk
/-- How large a value is. -/
theorem hv_bd {x B : Int} (hx : -100 ≤ x ∧ x ≤ 100) (hB : 0 ≤ B) : ∀ (l : List Int), Stu.Bn B l → -(B * 200 ^ l.length) ≤ Stu.hv l x * 2 ∧ Stu.hv l x * 2 ≤ B * 200 ^ l.length
  | [], _ => by
    show -(B * 200 ^ 0) ≤ 0 * 2 ∧ 0 * 2 ≤ B * 200 ^ 0
    rw [Int.pow_zero]; omega
  | a :: l, h => by
    obtain ⟨h1, h2⟩ := hv_bd hx hB l fun z hz => h z (List.mem_cons_of_mem _ hz)
    have ha := h a (by simp)
    show -(B * 200 ^ (l.length + 1)) ≤ (Stu.hv l x * x + a) * 2 ∧ (Stu.hv l x * x + a) * 2 ≤ B * 200 ^ (l.length + 1)
    rw [Int.pow_succ]
    have p := pow200 l.length
    have q := Int.mul_le_mul_of_nonneg_left p hB
    rw [show B * (200 ^ l.length * 200) = B * 200 ^ l.length * 200 by rw [Int.mul_assoc]]
    generalize B * 200 ^ l.length = M at *
    generalize Stu.hv l x = v at *
    obtain ⟨x1, x2⟩ := hx
    have m := Stu.prod_bd (a := v * 2) (b := x) (X := M) (Y := 100) ⟨h1, h2⟩ ⟨x1, x2⟩
    rw [show (v * x + a) * 2 = v * 2 * x + a * 2 by grind]
    generalize v * 2 * x = u at *
    omega
theorem hv_step {x B : Int} (hx : -100 ≤ x ∧ x ≤ 100) (hB : 0 ≤ B) (l : List Int) (h : Stu.Bn B l) (k : Nat) (hk : k < l.length) (hS : B * 200 ^ l.length ≤ 4000000000000000000) :
    IntKind.i64.wrap (Stu.hv (l.drop (k + 1)) x * x) = Stu.hv (l.drop (k + 1)) x * x ∧ IntKind.i64.wrap (Stu.hv (l.drop (k + 1)) x * x + l.getD k 0) = Stu.hv (l.drop k) x := by
  have b := fun j : Nat => hv_bd hx hB (l.drop j) fun z hz => h z (List.mem_of_mem_drop hz)
  have b0 := b (k + 1)
  have b1 := b k
  have e := hv_drop x l k hk
  have a := bn_at h hk
  have mono : ∀ j : Nat, B * 200 ^ (l.drop j).length ≤ B * 200 ^ l.length := fun j => by
    refine Int.mul_le_mul_of_nonneg_left ?_ hB
    rw [List.length_drop]
    exact pow200_le (by omega)
  have m0 := mono (k + 1)
  have m1 := mono k
  have p := pow200 l.length
  have q := Int.mul_le_mul_of_nonneg_left p hB
  rw [← e]
  generalize l.getD k 0 = c at *
  generalize Stu.hv (l.drop (k + 1)) x * x = u at *
  generalize Stu.hv (l.drop k) x = v at *
  exact ⟨IntWalk.i64_in _ (by omega), IntWalk.i64_in _ (by omega)⟩

set_option maxHeartbeats 800000 in
theorem uval_any (A : Option Addr) (l : List Int) (n c : Nat) (x : Int) (w : World) (hl : Lies w A l) (hn : l.length = n) (sz : Stu.Sz l) (hx : -100 ≤ x ∧ x ≤ 100) :
    Calls Try.prog 34 #[.slice A n c, .int .i64 x] w fun e w' => e = .returned (.int .i64 (Stu.hv l x)) ∧ w = w' := by
  obtain ⟨h4, B, hB, hb, hS⟩ := sz
  have HL := Lib.hid hl
  have HN := Lib.hid hn
  have ST := Lib.hid (fun k hk => hv_step hx hB l hb k hk hS)
  have END := Lib.hid (show Stu.hv (l.drop n) x = 0 from hv_end x (by omega))
  have n4 : n ≤ 4 := by omega
  clear hl hn hb hS h4 hx
  go_enter Try.func34, Try.ntmps34
  go_wp2_with fail
  go_loop [5, 6] (fun s i => ∃ (k : Nat) (j z : Int), k ≤ n ∧ j + 1 = (k : Int) ∧ i = .int .i64 j ∧ s = .int .i64 z ∧ z = Stu.hv (l.drop k) x) (fun _ i => (intOf i + 1).toNat)
  case atStart => exact ⟨n, _, _, Nat.le_refl _, by omega, rfl, rfl, END.out.symm⟩
  case round =>
    obtain ⟨k, j, z, hk, hj, rfl, rfl, hz⟩ := hrel
    cases k with
    | zero =>
      have jn : ¬ 0 ≤ j := by omega
      have E := Lib.hid (show z = Stu.hv l x by rw [hz]; rfl)
      clear hz hj
      go_wp2_with fail
      go_ret
      exact ⟨by rw [E.out]; rfl, rfl⟩
    | succ k =>
      obtain rfl : j = (k : Int) := by omega
      obtain ⟨ad, rfl, _, x1⟩ := HL.out k (by have := HN.out; omega)
      obtain ⟨w1, w2⟩ := ST.out k (by have := HN.out; omega)
      rw [← hz] at w1 w2
      generalize l.getD k 0 = a at *
      have W2 := Lib.hid w2
      obtain ⟨u, hu⟩ : ∃ u, u = IntKind.i64.wrap (z * x + a) := ⟨_, rfl⟩
      have hu' := hu.symm
      rw [← hu] at w2
      have U := Lib.hid w2
      clear hz hj hu w2
      go_wp2_with fail
      go_round
      case rel => exact ⟨k, _, _, by omega, by omega, rfl, rfl, U.out⟩
      case measure => simp [intOf]

theorem sgz_z : Stu.sgz 0 = 0 := rfl
theorem sgz_p {z : Int} (h : 0 < z) : Stu.sgz z = 1 := if_pos h
theorem sgz_n {z : Int} (h : z < 0) : Stu.sgz z = -1 := by unfold Stu.sgz; rw [if_neg (by omega), if_pos h]
/-- Turns behind a last number that is not 0, or behind none. -/
theorem tr_step {z m : Int} (hm : m ≠ 0) (L : List Int) : Stu.tr (Stu.sgz z) (Stu.sgz m :: L) = (if z ≠ 0 ∧ (m < 0 ↔ ¬ z < 0) then 1 else 0) + Stu.tr (Stu.sgz m) L := by
  have h1 : Stu.sgz m ≠ 0 := by unfold Stu.sgz; split <;> (try split) <;> omega
  rw [Stu.tr_cons _ _ h1]
  congr 1
  rcases Stu.sgz_some z with ⟨a, b⟩ | ⟨a, b⟩ | ⟨a, b⟩ <;> rcases Stu.sgz_some m with ⟨c, d⟩ | ⟨c, d⟩ | ⟨c, d⟩ <;> rw [a, c] <;> first | (exfalso; omega) | (rw [if_pos (by omega), if_pos (by omega)]) | (rw [if_neg (by omega), if_neg (by omega)])
theorem map_drop {l : List Int} {k : Nat} (h : k < l.length) : (l.drop k).map Stu.sgz = Stu.sgz (l.getD k 0) :: (l.drop (k + 1)).map Stu.sgz := by
  rw [← List.map_cons]
  congr 1
  rw [List.getD_eq_getElem?_getD, List.getElem?_eq_getElem h]
  exact List.drop_eq_getElem_cons h

set_option maxHeartbeats 1600000 in
theorem uturns_any (A : Option Addr) (l : List Int) (n c : Nat) (w : World) (hl : Lies w A l) (hn : l.length = n) (hb : n ≤ 1000000) :
    Calls Try.prog 23 #[.slice A n c] w fun e w' => e = .returned (.int .i64 ((Stu.trn l : Nat) : Int)) ∧ w = w' := by
  have HL := Lib.hid hl
  have HN := Lib.hid hn
  obtain ⟨T, hT⟩ : ∃ T, T = Stu.trn l := ⟨_, rfl⟩
  rw [← hT]
  have HT := Lib.hid hT
  clear hl hn hT
  go_enter Try.func23, Try.ntmps23
  go_wp2_with fail
  go_loop [3, 4, 9] (fun s v i => ∃ (k q : Nat) (z : Int), k ≤ n ∧ q ≤ k ∧ i = .int .i64 (k : Int) ∧ s = .int .i64 (q : Int) ∧ v = .int .i64 z ∧ T = q + Stu.tr (Stu.sgz z) ((l.drop k).map Stu.sgz)) (fun _ _ i => n - (intOf i).toNat)
  case atStart => exact ⟨0, 0, 0, Nat.zero_le _, Nat.le_refl _, rfl, rfl, rfl, by rw [HT.out, Nat.zero_add]; rfl⟩
  case round =>
    obtain ⟨k, q, z, hk, hq, rfl, rfl, rfl, ht⟩ := hrel
    have HQ := Lib.hid ht
    clear ht
    by_cases hlt : k < n
    · obtain ⟨ad, rfl, _, x1⟩ := HL.out k (by have := HN.out; omega)
      have MD := Lib.hid (map_drop (l := l) (k := k) (by have := HN.out; omega))
      obtain ⟨m, hm⟩ : ∃ m, m = l.getD k 0 := ⟨_, rfl⟩
      rw [← hm] at x1 MD
      clear hm
      by_cases h0 : m = 0
      · subst h0
        have R := Lib.hid (show T = q + Stu.tr (Stu.sgz z) ((l.drop (k + 1)).map Stu.sgz) by rw [HQ.out, MD.out, sgz_z, Stu.tr_nought])
        go_wp2_with fail
        go_round
        case rel => exact ⟨k + 1, q, z, by omega, by omega, by go_num, rfl, rfl, R.out⟩
        case measure => simp [intOf]; omega
      · have e0 : (m == 0) = false := by rw [beq_eq_false_iff_ne]; exact h0
        have R := Lib.hid (show T = (q + if z ≠ 0 ∧ (m < 0 ↔ ¬ z < 0) then 1 else 0) + Stu.tr (Stu.sgz m) ((l.drop (k + 1)).map Stu.sgz) by rw [HQ.out, MD.out, tr_step h0]; omega)
        rcases Int.lt_trichotomy m 0 with h1 | h1 | h1
        rotate_left
        · exact absurd h1 h0
        all_goals
          rcases Int.lt_trichotomy z 0 with h2 | h2 | h2
          rotate_left
          · have R2 := Lib.hid (show T = q + Stu.tr (Stu.sgz m) ((l.drop (k + 1)).map Stu.sgz) by rw [R.out, if_neg (by omega), Nat.add_zero])
            subst h2
            clear h0
            go_wp2_with fail
            go_round
            case rel => exact ⟨k + 1, q, m, by omega, by omega, by go_num, rfl, rfl, R2.out⟩
            case measure => simp [intOf]; omega
          all_goals
            have e2 : ¬ z = 0 := by omega
            first
              | (have hh : z ≠ 0 ∧ (m < 0 ↔ ¬ z < 0) := by omega
                 have R2 := Lib.hid (show T = (q + 1) + Stu.tr (Stu.sgz m) ((l.drop (k + 1)).map Stu.sgz) by rw [R.out, if_pos hh])
                 have m1 : ¬ (m < 0 ∧ z < 0) := by omega
                 by_cases a1 : m < 0
                 · have a2 : ¬ z < 0 := by omega
                   clear h0 h1 h2 hh m1
                   go_wp2_with fail
                   go_round
                   case rel => exact ⟨k + 1, q + 1, m, by omega, by omega, by go_num, by go_num, rfl, R2.out⟩
                   case measure => simp [intOf]; omega
                 · have a2 : z < 0 := by omega
                   clear h0 h1 h2 hh m1
                   go_wp2_with fail
                   go_round
                   case rel => exact ⟨k + 1, q + 1, m, by omega, by omega, by go_num, by go_num, rfl, R2.out⟩
                   case measure => simp [intOf]; omega)
              | (have hh : ¬ (z ≠ 0 ∧ (m < 0 ↔ ¬ z < 0)) := by omega
                 have R2 := Lib.hid (show T = q + Stu.tr (Stu.sgz m) ((l.drop (k + 1)).map Stu.sgz) by rw [R.out, if_neg hh, Nat.add_zero])
                 by_cases a1 : m < 0
                 · have a2 : z < 0 := by omega
                   clear h0 h1 h2 hh
                   go_wp2_with fail
                   go_round
                   case rel => exact ⟨k + 1, q, m, by omega, by omega, by go_num, rfl, rfl, R2.out⟩
                   case measure => simp [intOf]; omega
                 · have a2 : ¬ z < 0 := by omega
                   clear h0 h1 h2 hh
                   go_wp2_with fail
                   go_round
                   case rel => exact ⟨k + 1, q, m, by omega, by omega, by go_num, rfl, rfl, R2.out⟩
                   case measure => simp [intOf]; omega)
    · obtain rfl : k = n := by omega
      have E := Lib.hid (show T = q by rw [HQ.out, List.drop_eq_nil_of_le (by have := HN.out; omega)]; rfl)
      go_wp2_with fail
      go_ret
      exact ⟨by rw [E.out]; rfl, rfl⟩

end Go.Proofs.Ytbdpcpodmmhjaaa

/- Plain facts on the field of the numbers below 9973: that it is prime, powers, Fermat, roots. No program is named here. -/
namespace Go.Proofs.Ytbdpcpodmmhjaaa.Fp

/-- The field of the document: the numbers below 9973. -/
abbrev F := Fin 9973

/-- Does p hold of all numbers below n? -/
def below (p : Nat → Bool) : Nat → Bool
  | 0 => true
  | n + 1 => p n && below p n

theorem below_all (p : Nat → Bool) (n : Nat) (h : below p n = true) : ∀ k, k < n → p k = true := by
  induction n with
  | zero => intro k hk; omega
  | succ n ih =>
    intro k hk
    have h' : (p n && below p n) = true := h
    rw [Bool.and_eq_true] at h'
    by_cases e : k = n
    · subst e; exact h'.1
    · exact ih h'.2 k (by omega)

theorem small_no : ∀ k, k < 100 → 2 ≤ k → ¬ k ∣ 9973 := by
  have h : below (fun k => decide (k < 2) || (9973 % k != 0)) 100 = true := by decide +kernel
  intro k hk h2 hd
  have := below_all _ _ h k hk
  have e := Nat.mod_eq_zero_of_dvd hd
  simp [e] at this
  omega

theorem prime (g : Nat) (h : g ∣ 9973) : g = 1 ∨ g = 9973 := by
  obtain ⟨k, hk⟩ := h
  have hg : 0 < g := Nat.pos_of_ne_zero fun e => by subst e; omega
  by_cases h1 : g < 100
  · by_cases h2 : g = 1
    · exact Or.inl h2
    · exact absurd ⟨k, hk⟩ (small_no g h1 (by omega))
  · have hk1 : k < 100 := by
      refine Nat.lt_of_not_le fun hc => ?_
      have := Nat.mul_le_mul (Nat.le_of_not_lt h1) hc
      omega
    by_cases h2 : k = 1
    · subst h2; right; omega
    · by_cases h3 : k = 0
      · subst h3; omega
      · exact absurd ⟨g, by rw [Nat.mul_comm]; exact hk⟩ (small_no k hk1 (by omega))

theorem coprime (b : Nat) (h0 : b ≠ 0) (h1 : b < 9973) : Nat.gcd b 9973 = 1 := by
  rcases prime _ (Nat.gcd_dvd_right b 9973) with h | h
  · exact h
  · have := Nat.le_of_dvd (by omega) (Nat.gcd_dvd_left b 9973)
    omega

theorem val_zero : ((0 : F)).val = 0 := rfl
theorem val_one : ((1 : F)).val = 1 := rfl
theorem ne_val {b : F} (h : b ≠ 0) : b.val ≠ 0 := fun e => h (Fin.ext e)
theorem val_mul (a b : F) : (a * b).val = a.val * b.val % 9973 := Fin.val_mul a b
theorem val_add (a b : F) : (a + b).val = (a.val + b.val) % 9973 := Fin.val_add a b

theorem mul_zero_or {a b : F} (h : a * b = 0) : a = 0 ∨ b = 0 := by
  by_cases hb : b = 0
  · exact Or.inr hb
  · refine Or.inl (Fin.ext ?_)
    have e : a.val * b.val % 9973 = 0 := by rw [← val_mul, h]; rfl
    have d : 9973 ∣ a.val * b.val := Nat.dvd_of_mod_eq_zero e
    have c : Nat.Coprime 9973 b.val := by
      have := coprime b.val (ne_val hb) b.isLt
      rw [Nat.gcd_comm] at this; exact this
    have d' : 9973 ∣ a.val := Nat.Coprime.dvd_of_dvd_mul_right c d
    have := a.isLt
    show a.val = 0
    refine Nat.eq_zero_of_not_pos fun hp => ?_
    have := Nat.le_of_dvd hp d'
    omega

theorem one_ne : (1 : F) ≠ 0 := by decide
theorem mul_cancel {a b c : F} (hc : c ≠ 0) (h : a * c = b * c) : a = b := by
  have e : (a - b) * c = 0 := by grind
  rcases mul_zero_or e with h | h
  · grind
  · exact absurd h hc

/-- Powers. -/
def pw (a : F) : Nat → F
  | 0 => 1
  | n + 1 => pw a n * a

theorem pw_zero (a : F) : pw a 0 = 1 := rfl
theorem pw_succ (a : F) (n : Nat) : pw a (n + 1) = pw a n * a := rfl
theorem pw_one (a : F) : pw a 1 = a := by rw [pw_succ, pw_zero]; grind
theorem pw_add (a : F) (n m : Nat) : pw a (n + m) = pw a n * pw a m := by
  induction m with
  | zero => rw [Nat.add_zero, pw_zero]; grind
  | succ m ih => rw [← Nat.add_assoc, pw_succ, pw_succ, ih]; grind
theorem pw_mul (a : F) (n m : Nat) : pw a (n * m) = pw (pw a n) m := by
  induction m with
  | zero => rw [Nat.mul_zero, pw_zero, pw_zero]
  | succ m ih => rw [Nat.mul_succ, pw_add, ih, pw_succ]
theorem pw_times (a b : F) (n : Nat) : pw (a * b) n = pw a n * pw b n := by
  induction n with
  | zero => rw [pw_zero, pw_zero, pw_zero]; grind
  | succ n ih => rw [pw_succ, pw_succ, pw_succ, ih]; grind
theorem pw_zero_base (n : Nat) (h : n ≠ 0) : pw 0 n = 0 := by
  obtain ⟨m, rfl⟩ := Nat.exists_eq_succ_of_ne_zero h
  rw [Nat.succ_eq_add_one, pw_succ]; grind
theorem pw_one_base (n : Nat) : pw 1 n = 1 := by
  induction n with
  | zero => rfl
  | succ n ih => rw [pw_succ, ih]; grind

/-- One round of the quick way. -/
theorem pw_half (a : F) (n : Nat) : pw a n = pw (a * a) (n / 2) * (if n % 2 = 1 then a else 1) := by
  have e : pw (a * a) (n / 2) = pw a (2 * (n / 2)) := by rw [pw_mul, pw_succ, pw_one]
  rw [e]
  by_cases h : n % 2 = 1
  · rw [if_pos h]
    have : n = 2 * (n / 2) + 1 := by omega
    conv => lhs; rw [this]
    rw [pw_succ]
  · rw [if_neg h]
    have : n = 2 * (n / 2) := by omega
    conv => lhs; rw [this]
    grind

/-- Powers in the naturals, quickly: what a closed fact is asked of. -/
def q (a : Nat) : List Bool → Nat → Nat
  | [], r => r
  | b :: bs, r => q a bs (if b then r * r % 9973 * a % 9973 else r * r % 9973)

theorem q_val (a : F) (bs : List Bool) (r : F) (n : Nat) (hr : r = pw a n) :
    q a.val bs r.val = (pw a (bs.foldl (fun m b => 2 * m + (if b then 1 else 0)) n)).val := by
  induction bs generalizing r n with
  | nil => rw [q, List.foldl_nil, hr]
  | cons b bs ih =>
    rw [q, List.foldl_cons]
    have e2 : pw a (2 * n) = r * r := by
      have : 2 * n = n + n := by omega
      rw [this, pw_add, hr]
    cases b with
    | true =>
      have e : r.val * r.val % 9973 * a.val % 9973 = ((r * r) * a).val := by rw [val_mul, val_mul]
      rw [if_pos rfl, e, ih (r * r * a) (2 * n + 1) (by rw [pw_succ, e2])]
      rfl
    | false =>
      have e : r.val * r.val % 9973 = (r * r).val := by rw [val_mul]
      rw [if_neg (by decide), e, ih (r * r) (2 * n) (by rw [e2])]
      rfl

/-- FERMAT, by trying all. 9972 in binary: 10011011110100. -/
def bitsP : List Bool := [true, false, false, true, true, false, true, true, true, true, false, true, false, false]
theorem all_one : below (fun j => below (fun i => decide (9973 ≤ 100 * j + i + 1) || (q (100 * j + i + 1) bitsP 1 == 1)) 100) 100 = true := by decide +kernel

theorem fermat (a : F) (h : a ≠ 0) : pw a 9972 = 1 := by
  have e := q_val a bitsP 1 0 rfl
  have e2 : bitsP.foldl (fun m b => 2 * m + (if b then 1 else 0)) 0 = 9972 := by decide
  rw [e2] at e
  have hv := ne_val h
  have hl := a.isLt
  have h1 := below_all _ _ all_one ((a.val - 1) / 100) (by omega)
  have h2 := below_all _ _ h1 ((a.val - 1) % 100) (by omega)
  have e3 : 100 * ((a.val - 1) / 100) + (a.val - 1) % 100 + 1 = a.val := by omega
  rw [e3] at h2
  refine Fin.ext ?_
  rw [← e]
  have h3 : decide (9973 ≤ a.val) = false := decide_eq_false (by omega)
  rw [h3, Bool.false_or, beq_iff_eq] at h2
  exact h2

theorem square_one {x : F} (h : x * x = 1) : x = 1 ∨ x = -1 := by
  have e : (x - 1) * (x + 1) = 0 := by grind
  rcases mul_zero_or e with h | h
  · left; grind
  · right; grind

theorem half (a : F) (h : a ≠ 0) : pw a 4986 = 1 ∨ pw a 4986 = -1 := by
  refine square_one ?_
  rw [← pw_add]
  exact fermat a h

theorem half_square (a : F) (h : a ≠ 0) : pw (a * a) 4986 = 1 := by
  rw [pw_times, ← pw_add]
  exact fermat a h

theorem roots (a b : F) : b * b = a * a ↔ b = a ∨ b = -a := by
  constructor
  · intro h
    have e : (b - a) * (b + a) = 0 := by grind
    rcases mul_zero_or e with h | h
    · left; grind
    · right; grind
  · rintro (h | h) <;> subst h <;> grind

theorem val_neg (a : F) (h : a ≠ 0) : (-a).val = 9973 - a.val := by
  have hl := a.isLt
  have hv := ne_val h
  rw [Fin.val_neg]
  split
  · exact absurd ‹_› h
  · rfl

/-- What undoes: by the power 9971. -/
def inv (a : F) : F := pw a 9971
theorem inv_mul {a : F} (h : a ≠ 0) : inv a * a = 1 := by
  rw [inv, ← pw_succ]; exact fermat a h
theorem mul_inv {a : F} (h : a ≠ 0) : a * inv a = 1 := by rw [Fin.mul_comm]; exact inv_mul h

theorem mul_add (a b c : F) : a * (b + c) = a * b + a * c := by grind

/-- Of an integer its element. -/
def ofInt (n : Int) : F := ⟨(n % 9973).toNat, by omega⟩
theorem ofInt_val (n : Int) : ((ofInt n).val : Int) = n % 9973 := by
  show (((n % 9973).toNat : Nat) : Int) = n % 9973
  omega
theorem ofInt_of (n : Int) (h1 : 0 ≤ n) (h2 : n ≤ 9972) : ((ofInt n).val : Int) = n := by rw [ofInt_val]; omega
theorem ofInt_self (a : F) : ofInt (a.val : Int) = a := by
  refine Fin.ext ?_
  have := ofInt_val (a.val : Int)
  have := a.isLt
  omega
theorem mul_val (a b : F) : ((a * b).val : Int) = (a.val : Int) * (b.val : Int) % 9973 := by rw [val_mul]; simp
theorem add_val (a b : F) : ((a + b).val : Int) = ((a.val : Int) + (b.val : Int)) % 9973 := by rw [val_add]; simp
theorem ofInt_mul (a b : Int) : ofInt (a * b) = ofInt a * ofInt b := by
  refine Fin.ext (Int.ofNat.inj ?_)
  show ((ofInt (a * b)).val : Int) = ((ofInt a * ofInt b).val : Int)
  rw [mul_val, ofInt_val, ofInt_val, ofInt_val, ← Int.mul_emod]
theorem ofInt_add (a b : Int) : ofInt (a + b) = ofInt a + ofInt b := by
  refine Fin.ext (Int.ofNat.inj ?_)
  show ((ofInt (a + b)).val : Int) = ((ofInt a + ofInt b).val : Int)
  rw [add_val, ofInt_val, ofInt_val, ofInt_val, ← Int.add_emod]
theorem val_inj {a b : F} (h : (a.val : Int) = (b.val : Int)) : a = b := Fin.ext (Int.ofNat.inj h)
theorem val_eq (a b : F) : ((a.val : Int) = (b.val : Int)) ↔ a = b := ⟨val_inj, fun h => by rw [h]⟩
theorem val_bound (a : F) : 0 ≤ (a.val : Int) ∧ (a.val : Int) ≤ 9972 := by have := a.isLt; omega

end Go.Proofs.Ytbdpcpodmmhjaaa.Fp

/- Plain facts on matrices: tables from a rule, sums in the field, products, powers, turned. No program is named here. -/
namespace Go.Proofs.Ytbdpcpodmmhjaaa.Mx
open Fp
set_option linter.unusedVariables false

/-- A row from a rule. -/
def row (n : Nat) (g : Nat → Int) : List Int := (List.range n).map g
theorem len_row (n : Nat) (g : Nat → Int) : (row n g).length = n := by simp [row]
theorem row_at (n : Nat) (g : Nat → Int) (k : Nat) (h : k < n) : (row n g).getD k 0 = g k := by simp [row, h]
theorem row_out (n : Nat) (g : Nat → Int) (k : Nat) (h : n ≤ k) : (row n g).getD k 0 = 0 := by simp [row, h]
theorem row_ext {n : Nat} {g h : Nat → Int} (e : ∀ k, k < n → g k = h k) : row n g = row n h := List.map_congr_left fun k hk => e k (List.mem_range.1 hk)
theorem row_snoc (n : Nat) (g : Nat → Int) : row (n + 1) g = row n g ++ [g n] := by simp [row, List.range_succ]
theorem is_row (l : List Int) : l = row l.length fun j => l.getD j 0 := by
  refine List.ext_getElem (len_row _ _).symm fun k h1 h2 => ?_
  simp [row, h1]
theorem row_set (n : Nat) (g : Nat → Int) (k : Nat) (x : Int) : (row n g).set k x = row n fun j => if j = k then x else g j := by
  refine List.ext_getElem (by simp [row]) fun j h1 h2 => ?_
  simp only [row, List.getElem_set, List.getElem_map, List.getElem_range]
  by_cases e : k = j
  · subst e; simp
  · rw [if_neg e, if_neg (fun e' => e e'.symm)]
theorem row_inj {n m : Nat} {g h : Nat → Int} (e : row n g = row m h) : n = m ∧ ∀ k, k < n → g k = h k := by
  have hl : n = m := by have := congrArg List.length e; rwa [len_row, len_row] at this
  refine ⟨hl, fun k hk => ?_⟩
  have := congrArg (fun l => l.getD k 0) e
  rwa [row_at _ _ _ hk, row_at _ _ _ (by omega)] at this
theorem row_rep (n : Nat) (x : Int) : List.replicate n x = row n fun _ => x := by
  refine List.ext_getElem (by simp [row]) fun j h1 h2 => ?_
  simp [row]

/-- A matrix from a rule. -/
def tab (r c : Nat) (g : Nat → Nat → Int) : List (List Int) := (List.range r).map fun i => row c (g i)
theorem len_tab (r c : Nat) (g : Nat → Nat → Int) : (tab r c g).length = r := by simp [tab]
theorem tab_at (r c : Nat) (g : Nat → Nat → Int) (i : Nat) (h : i < r) : (tab r c g).getD i [] = row c (g i) := by simp [tab, h]
theorem tab_len (r c : Nat) (g : Nat → Nat → Int) (i : Nat) (h : i < r) : ((tab r c g).getD i []).length = c := by rw [tab_at r c g i h, len_row]
theorem tab_el (r c : Nat) (g : Nat → Nat → Int) (i j : Nat) (h : i < r) (hj : j < c) : ((tab r c g).getD i []).getD j 0 = g i j := by rw [tab_at r c g i h, row_at _ _ _ hj]
theorem tab_ext {r c : Nat} {g h : Nat → Nat → Int} (e : ∀ i j, i < r → j < c → g i j = h i j) : tab r c g = tab r c h :=
  List.map_congr_left fun i hi => row_ext fun j hj => e i j (List.mem_range.1 hi) hj
theorem tab_snoc (r c : Nat) (g : Nat → Nat → Int) : tab (r + 1) c g = tab r c g ++ [row c (g r)] := by simp [tab, List.range_succ]
theorem tab_zero (c : Nat) (g : Nat → Nat → Int) : tab 0 c g = [] := rfl
theorem tab_inj {r c r' c' : Nat} {g h : Nat → Nat → Int} (hr : 0 < r) (e : tab r c g = tab r' c' h) : r = r' ∧ c = c' ∧ ∀ i j, i < r → j < c → g i j = h i j := by
  have hl : r = r' := by have := congrArg List.length e; rwa [len_tab, len_tab] at this
  subst hl
  have hrow : ∀ i, i < r → row c (g i) = row c' (h i) := fun i hi => by
    have := congrArg (fun l => l.getD i []) e
    rwa [tab_at _ _ _ _ hi, tab_at _ _ _ _ hi] at this
  exact ⟨rfl, (row_inj (hrow 0 hr)).1, fun i j hi hj => (row_inj (hrow i hi)).2 j hj⟩
theorem tab_set (r c : Nat) (g : Nat → Nat → Int) (i j : Nat) (hi : i < r) (x : Int) :
    (tab r c g).set i (((tab r c g).getD i []).set j x) = tab r c fun a b => if a = i ∧ b = j then x else g a b := by
  rw [tab_at _ _ _ _ hi, row_set]
  refine List.ext_getElem (by simp [tab]) fun k h1 h2 => ?_
  simp only [tab, List.getElem_set, List.getElem_map, List.getElem_range]
  by_cases e : i = k
  · subst e; simp
  · rw [if_neg e]
    exact row_ext fun b _ => by rw [if_neg (fun h => e h.1.symm)]
theorem tab_rep (r c : Nat) (x : Int) : List.replicate r (List.replicate c x) = tab r c fun _ _ => x := by
  rw [row_rep]
  refine List.ext_getElem (by simp [tab]) fun j h1 h2 => ?_
  simp [tab]
theorem is_tab {m : List (List Int)} {c : Nat} (h : ∀ i, i < m.length → (m.getD i []).length = c) : m = tab m.length c fun i j => (m.getD i []).getD j 0 := by
  refine List.ext_getElem (by rw [len_tab]) fun i h1 h2 => ?_
  have e := h i h1
  simp only [tab, List.getElem_map, List.getElem_range]
  have e' : m.getD i [] = m[i] := by simp [h1]
  rw [e'] at e ⊢
  rw [← e]
  exact is_row _

/-- What is wrong with one row that should be so long. -/
def rcode (lo hi : Int) (c : Nat) (l : List Int) : Nat := if l.length ≠ c then 3 else if ∀ n ∈ l, lo ≤ n ∧ n ≤ hi then 0 else 1
/-- What is wrong with the first wrong row. -/
def rows (lo hi : Int) (c : Nat) : List (List Int) → Nat
  | [] => 0
  | l :: t => if rcode lo hi c l = 0 then rows lo hi c t else rcode lo hi c l
/-- What is wrong with a matrix. -/
def mcode (most : Nat) (lo hi : Int) (m : List (List Int)) : Nat :=
  if m.length = 0 ∨ (m.getD 0 []).length = 0 then 5 else if most < m.length ∨ most < (m.getD 0 []).length then 4 else rows lo hi (m.getD 0 []).length m

theorem mem_getD {l : List Int} {p : Int → Prop} : (∀ n ∈ l, p n) ↔ ∀ k, k < l.length → p (l.getD k 0) := by
  constructor
  · intro h k hk
    have : l.getD k 0 = l[k] := by simp [hk]
    rw [this]; exact h _ (List.getElem_mem _)
  · intro h n hn
    obtain ⟨k, hk, rfl⟩ := List.mem_iff_getElem.1 hn
    have := h k hk
    simpa [hk] using this
theorem rcode_ok {lo hi : Int} {c : Nat} {l : List Int} (h1 : l.length = c) (h2 : ∀ k, k < l.length → lo ≤ l.getD k 0 ∧ l.getD k 0 ≤ hi) : rcode lo hi c l = 0 := by
  unfold rcode; rw [if_neg (by omega), if_pos (mem_getD.2 h2)]
theorem rcode_len {lo hi : Int} {c : Nat} {l : List Int} (h1 : l.length ≠ c) : rcode lo hi c l = 3 := by unfold rcode; rw [if_pos h1]
theorem rcode_bad {lo hi : Int} {c : Nat} {l : List Int} (h1 : l.length = c) {k : Nat} (hk : k < l.length) (h2 : ¬ (lo ≤ l.getD k 0 ∧ l.getD k 0 ≤ hi)) : rcode lo hi c l = 1 := by
  unfold rcode; rw [if_neg (by omega), if_neg fun h => h2 (mem_getD.1 h k hk)]
theorem rcode_bad' {lo hi : Int} {c : Nat} {l : List Int} (h1 : l.length = c) (h2 : ¬ ∀ k, k < l.length → lo ≤ l.getD k 0 ∧ l.getD k 0 ≤ hi) : rcode lo hi c l = 1 := by
  unfold rcode; rw [if_neg (by omega), if_neg fun h => h2 (mem_getD.1 h)]
theorem rcode_zero {lo hi : Int} {c : Nat} {l : List Int} (h : rcode lo hi c l = 0) : l.length = c ∧ ∀ k, k < l.length → lo ≤ l.getD k 0 ∧ l.getD k 0 ≤ hi := by
  unfold rcode at h
  by_cases h1 : l.length ≠ c
  · rw [if_pos h1] at h; cases h
  · rw [if_neg h1] at h
    by_cases h2 : ∀ n ∈ l, lo ≤ n ∧ n ≤ hi
    · exact ⟨by omega, mem_getD.1 h2⟩
    · rw [if_neg h2] at h; cases h
theorem rows_drop {lo hi : Int} {c : Nat} {m : List (List Int)} {k : Nat} (hk : k < m.length) :
    rows lo hi c (m.drop k) = if rcode lo hi c (m.getD k []) = 0 then rows lo hi c (m.drop (k + 1)) else rcode lo hi c (m.getD k []) := by
  have e : m.getD k [] = m[k] := by simp [hk]
  rw [List.drop_eq_getElem_cons hk, e]; rfl
theorem rows_end {lo hi : Int} {c : Nat} {m : List (List Int)} {k : Nat} (hk : m.length ≤ k) : rows lo hi c (m.drop k) = 0 := by rw [List.drop_eq_nil_of_le hk]; rfl
theorem rows_zero {lo hi : Int} {c : Nat} {m : List (List Int)} (h : rows lo hi c m = 0) : ∀ i, i < m.length → rcode lo hi c (m.getD i []) = 0 := by
  induction m with
  | nil => intro i hi; simp at hi
  | cons l t ih =>
    have h' : (if rcode lo hi c l = 0 then rows lo hi c t else rcode lo hi c l) = 0 := h
    by_cases h0 : rcode lo hi c l = 0
    · rw [if_pos h0] at h'
      intro i hi
      cases i with
      | zero => simpa using h0
      | succ i => simpa using ih h' i (by simpa using hi)
    · rw [if_neg h0] at h'; exact absurd h' h0
theorem rows_ok {lo hi : Int} {c : Nat} {m : List (List Int)} (h : ∀ i, i < m.length → rcode lo hi c (m.getD i []) = 0) : rows lo hi c m = 0 := by
  induction m with
  | nil => rfl
  | cons l t ih =>
    have h0 : rcode lo hi c l = 0 := by simpa using h 0 (by simp)
    show (if rcode lo hi c l = 0 then rows lo hi c t else rcode lo hi c l) = 0
    rw [if_pos h0]
    exact ih fun i hi => by simpa using h (i + 1) (by simpa using hi)
theorem rcode_some (lo hi : Int) (c : Nat) (l : List Int) : rcode lo hi c l = 0 ∨ rcode lo hi c l = 1 ∨ rcode lo hi c l = 3 := by
  unfold rcode; split
  · simp
  · split <;> simp
theorem rows_some (lo hi : Int) (c : Nat) (m : List (List Int)) : rows lo hi c m = 0 ∨ rows lo hi c m = 1 ∨ rows lo hi c m = 3 := by
  induction m with
  | nil => exact .inl rfl
  | cons l t ih =>
    show (if rcode lo hi c l = 0 then rows lo hi c t else rcode lo hi c l) = 0 ∨ (if rcode lo hi c l = 0 then rows lo hi c t else rcode lo hi c l) = 1 ∨ (if rcode lo hi c l = 0 then rows lo hi c t else rcode lo hi c l) = 3
    by_cases h0 : rcode lo hi c l = 0
    · rw [if_pos h0]; exact ih
    · rw [if_neg h0]; exact rcode_some _ _ _ _
theorem mcode_le (most : Nat) (lo hi : Int) (m : List (List Int)) : mcode most lo hi m ≤ 5 := by
  unfold mcode
  split
  · omega
  · split
    · omega
    · have := rows_some lo hi (m.getD 0 []).length m; omega

/-- The matrix of numbers of the field. -/
def matl (r c : Nat) (f : Nat → Nat → F) : List (List Int) := tab r c fun i j => ((f i j).val : Int)
theorem len_matl (r c : Nat) (f : Nat → Nat → F) : (matl r c f).length = r := len_tab _ _ _
theorem matl_ext {r c : Nat} {f g : Nat → Nat → F} (h : ∀ i j, i < r → j < c → f i j = g i j) : matl r c f = matl r c g := tab_ext fun i j hi hj => by rw [h i j hi hj]
theorem matl_inj {r c r' c' : Nat} {f g : Nat → Nat → F} (hr : 0 < r) (e : matl r c f = matl r' c' g) : r = r' ∧ c = c' ∧ ∀ i j, i < r → j < c → f i j = g i j := by
  obtain ⟨h1, h2, h3⟩ := tab_inj hr e
  exact ⟨h1, h2, fun i j hi hj => Fin.ext (by have := h3 i j hi hj; omega)⟩
theorem mcode_zero {most : Nat} {m : List (List Int)} (h : mcode most 0 9972 m = 0) :
    ∃ r c f, m = matl r c f ∧ 0 < r ∧ r ≤ most ∧ 0 < c ∧ c ≤ most := by
  unfold mcode at h
  by_cases h1 : m.length = 0 ∨ (m.getD 0 []).length = 0
  · rw [if_pos h1] at h; cases h
  · rw [if_neg h1] at h
    by_cases h2 : most < m.length ∨ most < (m.getD 0 []).length
    · rw [if_pos h2] at h; cases h
    · rw [if_neg h2] at h
      have hr := rows_zero h
      refine ⟨m.length, (m.getD 0 []).length, fun i j => ofInt ((m.getD i []).getD j 0), ?_, by omega, by omega, by omega, by omega⟩
      conv => lhs; rw [is_tab fun i hi => (rcode_zero (hr i hi)).1]
      refine tab_ext fun i j hi hj => ?_
      obtain ⟨e1, e2⟩ := rcode_zero (hr i hi)
      have := e2 j (by omega)
      exact (ofInt_of _ this.1 (by omega)).symm
theorem mcode_matl {most r c : Nat} (f : Nat → Nat → F) (h1 : 0 < r) (h2 : r ≤ most) (h3 : 0 < c) (h4 : c ≤ most) : mcode most 0 9972 (matl r c f) = 0 := by
  unfold mcode
  rw [matl, tab_len _ _ _ _ h1, len_tab, if_neg (by omega), if_neg (by omega)]
  refine rows_ok fun i hi => ?_
  rw [len_tab] at hi
  refine rcode_ok (tab_len _ _ _ _ hi) fun k hk => ?_
  rw [tab_len _ _ _ _ hi] at hk
  rw [tab_el _ _ _ _ _ hi hk]
  have := (f i k).isLt
  omega

/-- The sum of the first n values. -/
def sg : Nat → (Nat → F) → F
  | 0, _ => 0
  | n + 1, f => sg n f + f n
theorem sg_zero (f : Nat → F) : sg 0 f = 0 := rfl
theorem sg_succ (n : Nat) (f : Nat → F) : sg (n + 1) f = sg n f + f n := rfl
theorem sg_congr {n : Nat} {f g : Nat → F} (h : ∀ i, i < n → f i = g i) : sg n f = sg n g := by
  induction n with
  | zero => rfl
  | succ n ih => rw [sg, sg, ih fun i hi => h i (by omega), h n (by omega)]
theorem sg_none (n : Nat) : sg n (fun _ => 0) = 0 := by
  induction n with
  | zero => rfl
  | succ n ih => rw [sg, ih]; grind
theorem sg_add (n : Nat) (f g : Nat → F) : sg n (fun i => f i + g i) = sg n f + sg n g := by
  induction n with
  | zero => simp only [sg]; grind
  | succ n ih => rw [sg, sg, sg, ih]; grind
theorem sg_times (n : Nat) (a : F) (f : Nat → F) : sg n (fun i => a * f i) = a * sg n f := by
  induction n with
  | zero => simp only [sg]; grind
  | succ n ih => rw [sg, sg, ih]; grind
theorem sg_by (n : Nat) (a : F) (f : Nat → F) : sg n (fun i => f i * a) = sg n f * a := by
  induction n with
  | zero => simp only [sg]; grind
  | succ n ih => rw [sg, sg, ih]; grind
theorem sg_swap (n m : Nat) (f : Nat → Nat → F) : sg n (fun i => sg m (f i)) = sg m (fun j => sg n (fun i => f i j)) := by
  induction n with
  | zero => simp only [sg]; exact (sg_none m).symm
  | succ n ih => rw [sg, ih, ← sg_add]; rfl
/-- A sum in which one term alone is not nought. -/
theorem sg_one {n : Nat} {f : Nat → F} {k : Nat} (hk : k < n) (h : ∀ i, i < n → i ≠ k → f i = 0) : sg n f = f k := by
  induction n with
  | zero => omega
  | succ n ih =>
    rw [sg]
    by_cases e : k = n
    · subst e
      rw [sg_congr (g := fun _ => 0) fun i hi => h i (by omega) (by omega), sg_none]; grind
    · rw [ih (by omega) fun i hi => h i (by omega), h n (by omega) (fun e' => e e'.symm)]; grind
theorem zero_sum (a b : F) : 0 + a * b = a * b := by grind

/-- Products, the one that changes nothing, powers, turned. -/
def mul (k : Nat) (f g : Nat → Nat → F) : Nat → Nat → F := fun i j => sg k fun x => f i x * g x j
def plus (f g : Nat → Nat → F) : Nat → Nat → F := fun i j => f i j + g i j
def one : Nat → Nat → F := fun i j => if i = j then 1 else 0
def flip (f : Nat → Nat → F) : Nat → Nat → F := fun i j => f j i
/-- Powers. -/
def pwm (n : Nat) (f : Nat → Nat → F) : Nat → Nat → Nat → F
  | 0 => one
  | k + 1 => mul n f (pwm n f k)

/-- Alike on the first rows and columns. -/
def Eqm (r c : Nat) (f g : Nat → Nat → F) : Prop := ∀ i j, i < r → j < c → f i j = g i j
theorem Eqm.rfl' (r c : Nat) (f : Nat → Nat → F) : Eqm r c f f := fun _ _ _ _ => rfl
theorem Eqm.symm {r c : Nat} {f g : Nat → Nat → F} (h : Eqm r c f g) : Eqm r c g f := fun i j hi hj => (h i j hi hj).symm
theorem Eqm.trans {r c : Nat} {f g k : Nat → Nat → F} (h : Eqm r c f g) (h' : Eqm r c g k) : Eqm r c f k := fun i j hi hj => (h i j hi hj).trans (h' i j hi hj)
theorem Eqm.mat {r c : Nat} {f g : Nat → Nat → F} (h : Eqm r c f g) : matl r c f = matl r c g := matl_ext h
theorem Eqm.of {r c : Nat} {f g : Nat → Nat → F} (hr : 0 < r) (h : matl r c f = matl r c g) : Eqm r c f g := (matl_inj hr h).2.2
theorem Eqm.mul {r k c : Nat} {f f' g g' : Nat → Nat → F} (h : Eqm r k f f') (h' : Eqm k c g g') : Eqm r c (Mx.mul k f g) (Mx.mul k f' g') := fun i j hi hj =>
  sg_congr fun x hx => by rw [h i x hi hx, h' x j hx hj]
theorem Eqm.plus {r c : Nat} {f f' g g' : Nat → Nat → F} (h : Eqm r c f f') (h' : Eqm r c g g') : Eqm r c (Mx.plus f g) (Mx.plus f' g') := fun i j hi hj => by
  show f i j + g i j = f' i j + g' i j
  rw [h i j hi hj, h' i j hi hj]

theorem mul_assoc (m n : Nat) (f g h : Nat → Nat → F) : mul n (mul m f g) h = mul m f (mul n g h) := by
  funext i j
  show sg n (fun y => sg m (fun x => f i x * g x y) * h y j) = sg m fun x => f i x * sg n fun y => g x y * h y j
  have e1 : (fun y => sg m (fun x => f i x * g x y) * h y j) = fun y => sg m fun x => f i x * (g x y * h y j) := by
    funext y
    rw [← sg_by]
    exact sg_congr fun x _ => by grind
  have e2 : (fun x => f i x * sg n fun y => g x y * h y j) = fun x => sg n fun y => f i x * (g x y * h y j) := by
    funext x
    rw [← sg_times]
  rw [e1, e2, sg_swap]
theorem mul_plus (n : Nat) (f g h : Nat → Nat → F) : mul n f (plus g h) = plus (mul n f g) (mul n f h) := by
  funext i j
  show sg n (fun x => f i x * (g x j + h x j)) = sg n (fun x => f i x * g x j) + sg n fun x => f i x * h x j
  rw [← sg_add]
  exact sg_congr fun x _ => by grind
theorem plus_mul (n : Nat) (f g h : Nat → Nat → F) : mul n (plus f g) h = plus (mul n f h) (mul n g h) := by
  funext i j
  show sg n (fun x => (f i x + g i x) * h x j) = sg n (fun x => f i x * h x j) + sg n fun x => g i x * h x j
  rw [← sg_add]
  exact sg_congr fun x _ => by grind
theorem one_mul (r c : Nat) (f : Nat → Nat → F) : Eqm r c (mul r one f) f := fun i j hi hj => by
  show sg r (fun x => (if i = x then (1 : F) else 0) * f x j) = f i j
  rw [sg_one hi fun x _ hne => by rw [if_neg fun e => hne e.symm]; grind]
  rw [if_pos rfl]; grind
theorem mul_one (r c : Nat) (f : Nat → Nat → F) : Eqm r c (mul c f one) f := fun i j hi hj => by
  show sg c (fun x => f i x * (if x = j then (1 : F) else 0)) = f i j
  rw [sg_one hj fun x _ hne => by rw [if_neg hne]; grind]
  rw [if_pos rfl]; grind
theorem flip_mul (k : Nat) (f g : Nat → Nat → F) : flip (mul k f g) = mul k (flip g) (flip f) := by
  funext i j
  exact sg_congr fun x _ => by show f j x * g x i = g x i * f j x; grind
theorem flip_flip (f : Nat → Nat → F) : flip (flip f) = f := rfl

theorem Eqm.pwm {n : Nat} {f g : Nat → Nat → F} (h : Eqm n n f g) (k : Nat) : Eqm n n (Mx.pwm n f k) (Mx.pwm n g k) := by
  induction k with
  | zero => exact Eqm.rfl' _ _ _
  | succ k ih => exact h.mul ih
theorem pwm_add (n : Nat) (f : Nat → Nat → F) (a b : Nat) : Eqm n n (mul n (pwm n f a) (pwm n f b)) (pwm n f (a + b)) := by
  induction a with
  | zero => rw [Nat.zero_add]; exact one_mul n n _
  | succ a ih =>
    rw [show a + 1 + b = (a + b) + 1 by omega]
    show Eqm n n (mul n (mul n f (pwm n f a)) (pwm n f b)) (mul n f (pwm n f (a + b)))
    rw [mul_assoc]
    exact (Eqm.rfl' _ _ _).mul ih
theorem pwm_one (n : Nat) (f : Nat → Nat → F) : Eqm n n (pwm n f 1) f := mul_one n n f
theorem pwm_snoc (n : Nat) (f : Nat → Nat → F) (k : Nat) : Eqm n n (mul n (pwm n f k) f) (pwm n f (k + 1)) :=
  ((Eqm.rfl' n n _).mul (pwm_one n f).symm).trans (pwm_add n f k 1)
theorem pwm_mul (n : Nat) (f : Nat → Nat → F) (a b : Nat) : Eqm n n (pwm n (pwm n f a) b) (pwm n f (a * b)) := by
  induction b with
  | zero => exact Eqm.rfl' _ _ _
  | succ b ih =>
    rw [show a * (b + 1) = a + a * b by rw [Nat.mul_succ, Nat.add_comm]]
    exact ((Eqm.rfl' n n _).mul ih).trans (pwm_add n f a (a * b))
/-- One round of the quick way. -/
theorem pwm_half (n : Nat) (f p : Nat → Nat → F) (k : Nat) : Eqm n n (mul n (if k % 2 = 1 then mul n p f else p) (pwm n (mul n f f) (k / 2))) (mul n p (pwm n f k)) := by
  have e2 : Eqm n n (pwm n (mul n f f) (k / 2)) (pwm n f (2 * (k / 2))) :=
    (Eqm.pwm (((Eqm.rfl' n n f).mul (pwm_one n f).symm).trans (Eqm.rfl' n n (pwm n f 2))) (k / 2)).trans (pwm_mul n f 2 (k / 2))
  by_cases h : k % 2 = 1
  · rw [if_pos h, mul_assoc]
    refine (Eqm.rfl' n n p).mul (((Eqm.rfl' n n f).mul e2).trans ?_)
    have : k = 2 * (k / 2) + 1 := by omega
    conv => rhs; rw [this]
    exact Eqm.rfl' _ _ _
  · rw [if_neg h]
    have : k = 2 * (k / 2) := by omega
    conv => rhs; rw [this]
    exact (Eqm.rfl' n n p).mul e2

/-- What comes of the places that were gone to, one behind the other: each adds its share. -/
def acc (r c : Nat) (g : Nat → Nat → F) : List Nat → Nat → Nat → F
  | [], _, _ => 0
  | k :: t, a, b => (if a = k / c % r ∧ b = k % c then g a b else 0) + acc r c g t a b
theorem acc_snoc (r c : Nat) (g : Nat → Nat → F) (l : List Nat) (k a b : Nat) : acc r c g (l ++ [k]) a b = acc r c g l a b + if a = k / c % r ∧ b = k % c then g a b else 0 := by
  induction l with
  | nil => simp only [List.nil_append, acc]; grind
  | cons x l ih => rw [List.cons_append, acc, acc, ih]; grind
theorem place {r c k a b : Nat} (hr : k < r * c) (hb : b < c) : (a = k / c % r ∧ b = k % c) ↔ k = a * c + b := by
  have hc : 0 < c := by omega
  have h1 : k / c < r := (Nat.div_lt_iff_lt_mul hc).2 hr
  rw [Nat.mod_eq_of_lt h1]
  constructor
  · rintro ⟨rfl, rfl⟩
    have := Nat.div_add_mod k c
    rw [Nat.mul_comm] at this
    exact this.symm
  · rintro rfl
    rw [Nat.mul_comm a c, Nat.mul_add_div hc, Nat.div_eq_of_lt hb, Nat.mul_add_mod, Nat.mod_eq_of_lt hb]
    exact ⟨rfl, rfl⟩
theorem acc_range (r c : Nat) (g : Nat → Nat → F) (n a b : Nat) (hn : n ≤ r * c) (hb : b < c) : acc r c g (List.range n) a b = if a * c + b < n then g a b else 0 := by
  induction n with
  | zero => rfl
  | succ n ih =>
    rw [List.range_succ, acc_snoc, ih (by omega)]
    have hp := place (r := r) (c := c) (k := n) (a := a) (b := b) (by omega) hb
    by_cases h : n = a * c + b
    · rw [if_pos (hp.2 h), if_neg (by omega), if_pos (by omega)]; grind
    · rw [if_neg fun e => h (hp.1 e)]
      by_cases h2 : a * c + b < n
      · rw [if_pos h2, if_pos (by omega)]; grind
      · rw [if_neg h2, if_neg (by omega)]; grind
theorem place_lt {r c a b : Nat} (ha : a < r) (hb : b < c) : a * c + b < r * c := by
  have := Nat.mul_le_mul_right c (show a + 1 ≤ r by omega)
  rw [Nat.add_mul] at this
  omega
theorem acc_all (r c : Nat) (g : Nat → Nat → F) : Eqm r c (acc r c g (List.range (r * c))) g := fun a b ha hb => by
  rw [acc_range r c g _ a b (Nat.le_refl _) hb, if_pos (place_lt ha hb)]

/-- The same where each place is set. -/
def setl (r c : Nat) (g : Nat → Nat → F) : List Nat → Nat → Nat → F
  | [], _, _ => 0
  | k :: t, a, b => if a = k / c % r ∧ b = k % c then g a b else setl r c g t a b
theorem setl_snoc (r c : Nat) (g : Nat → Nat → F) (l : List Nat) (k a b : Nat) : setl r c g (l ++ [k]) a b = if a = k / c % r ∧ b = k % c then g a b else setl r c g l a b := by
  induction l with
  | nil => rfl
  | cons x l ih =>
    rw [List.cons_append, setl, setl, ih]
    by_cases h1 : a = x / c % r ∧ b = x % c
    · rw [if_pos h1, if_pos h1]; split <;> rfl
    · rw [if_neg h1, if_neg h1]
theorem setl_range (r c : Nat) (g : Nat → Nat → F) (n a b : Nat) (hn : n ≤ r * c) (hb : b < c) : setl r c g (List.range n) a b = if a * c + b < n then g a b else 0 := by
  induction n with
  | zero => rfl
  | succ n ih =>
    rw [List.range_succ, setl_snoc, ih (by omega)]
    have hp := place (r := r) (c := c) (k := n) (a := a) (b := b) (by omega) hb
    by_cases h : n = a * c + b
    · rw [if_pos (hp.2 h), if_pos (by omega)]
    · rw [if_neg fun e => h (hp.1 e)]
      by_cases h2 : a * c + b < n
      · rw [if_pos h2, if_pos (by omega)]
      · rw [if_neg h2, if_neg (by omega)]
theorem setl_all (r c : Nat) (g : Nat → Nat → F) : Eqm r c (setl r c g (List.range (r * c))) g := fun a b ha hb => by
  rw [setl_range r c g _ a b (Nat.le_refl _) hb, if_pos (place_lt ha hb)]

theorem val_plus (a b : F) : ((a.val : Int) + (b.val : Int)) % 9973 = ((a + b).val : Int) := by rw [val_add]; omega
theorem val_more (s a b : F) : ((s.val : Int) + (a.val : Int) * (b.val : Int)) % 9973 = ((s + a * b).val : Int) := by
  rw [val_add, val_mul, ← Int.natCast_mul]; omega
end Go.Proofs.Ytbdpcpodmmhjaaa.Mx

/- Matrices in memory: a slice of rows that lies, and one of the call's own whose rows stand apart. For all packages. -/
namespace Go.Proofs.Ytbdpcpodmmhjaaa
open Go.ChangeShapes Go.WideShapes Go.ChangeAt Go.RowKit
set_option linter.unusedVariables false

theorem ints_info : (Try.prog.info? 22).map (fun i => (i.zero, i.size, i.bytes)) = some (some (.slice none 0 0), 1, 24) := by kernel_rfl

/-- From address A on lie the rows of m. -/
def LiesM (w : World) (A : Option Addr) (m : List (List Int)) : Prop :=
  ∀ k, k < m.length → ∃ ad A' c, A = some ad ∧ ad.block < w.heap.size ∧ w.cell? (ad.add k) = some (.slice A' (m.getD k []).length c) ∧ (m.getD k []).length ≤ c ∧ Lies w A' (m.getD k [])
theorem LiesM.empty (w : World) (A : Option Addr) : LiesM w A [] := fun k h => absurd h (by simp)
theorem LiesM.keep {w w' : World} {A : Option Addr} {m : List (List Int)} (h : LiesM w A m) (hb : Kp w w') : LiesM w' A m := fun k hk => by
  obtain ⟨ad, A', c, e, hl, hc, hle, hr⟩ := h k hk
  exact ⟨ad, A', c, e, Nat.lt_of_lt_of_le hl hb.size, (hb.cell (p := ad.add k) (by rw [block_add]; omega)).trans hc, hle, hr.keep hb⟩
theorem LiesM.drewN {w : World} {A : Option Addr} {m : List (List Int)} (h : LiesM w A m) (n : Nat) : LiesM (w.drewN n) A m := h.keep ((Kp.rfl' w).drewN n)
/-- Row i of a matrix from a rule. -/
theorem LiesM.row {w : World} {A : Option Addr} {r c : Nat} {g : Nat → Nat → Int} (h : LiesM w A (Mx.tab r c g)) {i : Nat} (hi : i < r) :
    ∃ ad A' cap, A = some ad ∧ ad.block < w.heap.size ∧ w.cell? (ad.add i) = some (.slice A' c cap) ∧ c ≤ cap ∧ Lies w A' (Mx.row c (g i)) := by
  obtain ⟨ad, A', cap, e, hl, hc, hle, hr⟩ := h i (by rw [Mx.len_tab]; exact hi)
  rw [Mx.tab_len _ _ _ _ hi] at hc hle
  rw [Mx.tab_at _ _ _ _ hi] at hr
  exact ⟨ad, A', cap, e, hl, hc, hle, hr⟩
theorem Lies.el {w : World} {A : Option Addr} {c : Nat} {g : Nat → Int} (h : Lies w A (Mx.row c g)) {j : Nat} (hj : j < c) : ∃ ad, A = some ad ∧ ad.block < w.heap.size ∧ w.cell? (ad.add j) = some (.int .i64 (g j)) := by
  obtain ⟨ad, e, hl, hc⟩ := h j (by rw [Mx.len_row]; exact hj)
  rw [Mx.row_at _ _ _ hj] at hc
  exact ⟨ad, e, hl, hc⟩

/-- Block g holds the heads of r rows of c numbers each, row i in block G i, each apart from the others, and all behind g. -/
structure Grid (w : World) (g : Nat) (G : Nat → Nat) (r c : Nat) (f : Nat → Nat → Int) : Prop where
  head : w.heap[g]? = some (.cells ((List.range r).map fun i => Value.slice (some ⟨G i, 0, none⟩) c c).toArray 22 (0, 0))
  row : ∀ i, i < r → Row w (G i) (Mx.row c (f i))
  after : ∀ i, i < r → g < G i
  apart : ∀ i j, i < r → j < r → i ≠ j → G i ≠ G j
theorem Grid.lt {w : World} {g : Nat} {G : Nat → Nat} {r c : Nat} {f : Nat → Nat → Int} (h : Grid w g G r c f) : g < w.heap.size := by
  rcases Nat.lt_or_ge g w.heap.size with h' | h'
  · exact h'
  · have := h.head; rw [Array.getElem?_eq_none h'] at this; cases this
theorem Grid.cell {w : World} {g : Nat} {G : Nat → Nat} {r c : Nat} {f : Nat → Nat → Int} (h : Grid w g G r c f) {i : Nat} (hi : i < r) : w.cell? ⟨g, i, none⟩ = some (.slice (some ⟨G i, 0, none⟩) c c) := by
  rw [cell_of_row _ _ i _ _ (0, 0) h.head]; simp [hi]
theorem Grid.el {w : World} {g : Nat} {G : Nat → Nat} {r c : Nat} {f : Nat → Nat → Int} (h : Grid w g G r c f) {i j : Nat} (hi : i < r) (hj : j < c) : w.cell? ⟨G i, j, none⟩ = some (.int .i64 (f i j)) := by
  rw [(h.row i hi).cell j (by rw [Mx.len_row]; exact hj), Mx.row_at _ _ _ hj]
theorem Grid.free {w : World} {g : Nat} {G : Nat → Nat} {r c : Nat} {f : Nat → Nat → Int} (h : Grid w g G r c f) {i : Nat} (hi : i < r) (j : Nat) : w.frozen? ⟨G i, j, none⟩ = false := (h.row i hi).free j
theorem Grid.keep {w w' : World} {g : Nat} {G : Nat → Nat} {r c : Nat} {f : Nat → Nat → Int} (h : Grid w g G r c f) (hk : Kp w w') : Grid w' g G r c f :=
  ⟨by rw [hk.block g h.lt]; exact h.head, fun i hi => (h.row i hi).keep hk, h.after, h.apart⟩
theorem Grid.drewN {w : World} {g : Nat} {G : Nat → Nat} {r c : Nat} {f : Nat → Nat → Int} (h : Grid w g G r c f) (n : Nat) : Grid (w.drewN n) g G r c f := h.keep ((Kp.rfl' w).drewN n)
theorem Grid.new {w : World} {g : Nat} {G : Nat → Nat} {r c : Nat} {f : Nat → Nat → Int} (h : Grid w g G r c f) (o : Obj) : Grid (w.alloc o) g G r c f := h.keep ((Kp.rfl' w).new o)
theorem Grid.ext {w : World} {g : Nat} {G : Nat → Nat} {r c : Nat} {f f' : Nat → Nat → Int} (h : Grid w g G r c f) (e : ∀ i j, i < r → j < c → f i j = f' i j) : Grid w g G r c f' :=
  ⟨h.head, fun i hi => by rw [← Mx.row_ext (fun j hj => e i j hi hj)]; exact h.row i hi, h.after, h.apart⟩
theorem Grid.put {w : World} {g : Nat} {G : Nat → Nat} {r c : Nat} {f : Nat → Nat → Int} (h : Grid w g G r c f) {i : Nat} (hi : i < r) (j : Nat) (x : Int) :
    Grid (w.setCell ⟨G i, j, none⟩ (.int .i64 x)) g G r c (fun a b => if a = i ∧ b = j then x else f a b) := by
  refine ⟨?_, fun a ha => ?_, h.after, h.apart⟩
  · rw [heap_setCell_other w _ g _ (by show g ≠ G i; have := h.after i hi; omega)]; exact h.head
  · by_cases e : a = i
    · subst e
      have := (h.row a ha).put j x
      rw [Mx.row_set] at this
      rw [show (fun b => if a = a ∧ b = j then x else f a b) = fun b => if b = j then x else f a b by funext b; simp]
      exact this
    · rw [show (fun b => if a = i ∧ b = j then x else f a b) = f a by funext b; simp [e]]
      exact (h.row a ha).far (by show G a ≠ G i; exact h.apart a i ha hi e) _
theorem Grid.lies {w : World} {g : Nat} {G : Nat → Nat} {r c : Nat} {f : Nat → Nat → Int} (h : Grid w g G r c f) : LiesM w (some ⟨g, 0, none⟩) (Mx.tab r c f) := fun i hi => by
  rw [Mx.len_tab] at hi
  refine ⟨_, some ⟨G i, 0, none⟩, c, rfl, h.lt, ?_, ?_, ?_⟩
  · rw [add_at, Mx.tab_len _ _ _ _ hi]; exact h.cell hi
  · rw [Mx.tab_len _ _ _ _ hi]; exact Nat.le_refl _
  · rw [Mx.tab_at _ _ _ _ hi]; exact (h.row i hi).lies

/-- The same, where the first k rows alone are made, all of noughts. -/
structure Part (w : World) (g : Nat) (G : Nat → Nat) (r c k : Nat) : Prop where
  head : w.heap[g]? = some (.cells ((List.range r).map fun i => if i < k then Value.slice (some ⟨G i, 0, none⟩) c c else .slice none 0 0).toArray 22 (0, 0))
  row : ∀ i, i < k → Row w (G i) (List.replicate c 0)
  after : ∀ i, i < k → g < G i
  apart : ∀ i j, i < k → j < k → i ≠ j → G i ≠ G j
theorem Part.lt {w : World} {g : Nat} {G : Nat → Nat} {r c k : Nat} (h : Part w g G r c k) : g < w.heap.size := by
  rcases Nat.lt_or_ge g w.heap.size with h' | h'
  · exact h'
  · have := h.head; rw [Array.getElem?_eq_none h'] at this; cases this
theorem Part.keep {w w' : World} {g : Nat} {G : Nat → Nat} {r c k : Nat} (h : Part w g G r c k) (hk : Kp w w') : Part w' g G r c k :=
  ⟨by rw [hk.block g h.lt]; exact h.head, fun i hi => (h.row i hi).keep hk, h.after, h.apart⟩
theorem Part.cell {w : World} {g : Nat} {G : Nat → Nat} {r c k : Nat} (h : Part w g G r c k) {i : Nat} (hi : k ≤ i) (hr : i < r) : w.cell? ⟨g, i, none⟩ = some (.slice none 0 0) := by
  rw [cell_of_row _ _ i _ _ (0, 0) h.head]; simp [hr]; omega
theorem Part.free {w : World} {g : Nat} {G : Nat → Nat} {r c k : Nat} (h : Part w g G r c k) (i : Nat) : w.frozen? ⟨g, i, none⟩ = false := frozen_of_row w g i _ _ h.head
theorem Part.start {w : World} {base g r c : Nat} (h : w.ownsRow base 22 1 (.slice (some ⟨g, 0, none⟩) r r) r (madeCells #[.slice none 0 0] (r * 1)).toList) : Part w g (fun _ => 0) r c 0 := by
  refine ⟨?_, fun i hi => absurd hi (by omega), fun i hi => absurd hi (by omega), fun i j hi => absurd hi (by omega)⟩
  rcases h.2 with ⟨h', _⟩ | ⟨g', cap, cur, h', _, hg, _, _, hs, ht⟩
  · simp at h'
  · simp only [Value.slice.injEq, Option.some.injEq, Addr.mk.injEq, and_true, true_and] at h'
    obtain ⟨rfl, rfl⟩ := h'
    rw [hg]
    congr 2
    apply Array.toList_inj.1
    rw [toList_madeCells_one] at ht
    rw [List.take_of_length_le (by rw [Array.length_toList, hs]; exact Nat.le_refl _)] at ht
    rw [ht]
    refine List.ext_getElem (by simp) fun j h1 h2 => ?_
    simp
theorem Part.step {w w1 : World} {g : Nat} {G : Nat → Nat} {r c k : Nat} (h : Part w g G r c k) (hk : k < r) (hr : Row w1 w.heap.size (List.replicate c 0)) (hkp : Kp w w1) :
    Part (w1.setCell ⟨g, k, none⟩ (.slice (some ⟨w.heap.size, 0, none⟩) c c)) g (fun i => if i = k then w.heap.size else G i) r c (k + 1) := by
  have hlt := h.lt
  have h1 := h.keep hkp
  refine ⟨?_, fun i hi => ?_, fun i hi => ?_, fun i j hi hj hne => ?_⟩
  · rw [heap_setCell_same w1 g k _ _ _ h1.head]
    congr 2
    refine Array.toList_inj.1 (List.ext_getElem (by simp) fun i h2 h3 => ?_)
    simp only [Array.toList_setIfInBounds, List.getElem_set, List.getElem_map, List.getElem_range]
    rcases Nat.lt_trichotomy i k with e | e | e
    · simp [show ¬ k = i by omega, show i < k from e, show i < k + 1 by omega, show ¬ i = k by omega]
    · subst e; simp
    · simp [show ¬ k = i by omega, show ¬ i < k by omega, show ¬ i < k + 1 by omega]
  · by_cases e : i = k
    · subst e
      rw [if_pos rfl]
      exact hr.far (by show w.heap.size ≠ g; omega) _
    · rw [if_neg e]
      exact (h1.row i (by omega)).far (by show G i ≠ g; have := h.after i (by omega); omega) _
  · by_cases e : i = k
    · rw [if_pos e]; exact hlt
    · rw [if_neg e]; exact h.after i (by omega)
  · have hG : ∀ a, a < k → G a < w.heap.size := fun a ha => (h.row a ha).lt
    by_cases e : i = k
    · rw [if_pos e, if_neg (by omega)]
      have := hG j (by omega); omega
    · rw [if_neg e]
      by_cases e2 : j = k
      · rw [if_pos e2]; have := hG i (by omega); omega
      · rw [if_neg e2]; exact h.apart i j (by omega) (by omega) hne
theorem Part.done {w : World} {g : Nat} {G : Nat → Nat} {r c : Nat} (h : Part w g G r c r) : Grid w g G r c (fun _ _ => 0) := by
  refine ⟨?_, fun i hi => by rw [← Mx.row_rep]; exact h.row i hi, h.after, h.apart⟩
  rw [h.head]
  congr 2
  refine Array.toList_inj.1 (List.ext_getElem (by simp) fun i h2 h3 => ?_)
  simp only [List.getElem_map, List.getElem_range]
  rw [if_pos (by simpa using h3)]

end Go.Proofs.Ytbdpcpodmmhjaaa

/- Matrices of the call's own, row by row: what append leaves, and stores into their rows. For all packages. -/
namespace Go.Proofs.Ytbdpcpodmmhjaaa
open Go.ChangeShapes Go.WideShapes Go.ChangeAt Go.RowKit
set_option linter.unusedVariables false

/-- The heads of the rows of m, row i in block G i with room for C i. -/
def heads (G C : Nat → Nat) (m : List (List Int)) : List Value := (List.range m.length).map fun i => Value.slice (some ⟨G i, 0, none⟩) (m.getD i []).length (C i)
/-- The slice value v is the call's own (from block B on) and holds the rows of m, each the call's own, each apart from the others. -/
structure OwnM (w : World) (B : Nat) (v : Value) (G C : Nat → Nat) (m : List (List Int)) : Prop where
  top : w.ownsRow B 22 1 v m.length (heads G C m)
  row : ∀ i, i < m.length → Own w B (.slice (some ⟨G i, 0, none⟩) (m.getD i []).length (C i)) (m.getD i [])
  apart : ∀ i j, i < m.length → j < m.length → i ≠ j → G i ≠ G j

theorem ownM_none (w : World) (B : Nat) (G C : Nat → Nat) : OwnM w B (.slice none 0 0) G C [] :=
  ⟨World.ownsRow_nil _ _ _ _, fun i hi => absurd hi (by simp), fun i j hi => absurd hi (by simp)⟩
theorem ownsRow_kp {w w' : World} {B n : Nat} {e : TypeId} {v : Value} {xs : List Value} (h : w.ownsRow B e 1 v n xs) (hk : Kp w w') : w'.ownsRow B e 1 v n xs := by
  obtain ⟨h1, h2⟩ := h
  refine ⟨h1, ?_⟩
  rcases h2 with h2 | ⟨g, cap, cur, hv, hg, hh, r⟩
  · exact .inl h2
  · refine .inr ⟨g, cap, cur, hv, hg, ?_, r⟩
    rw [hk.block g ?_]; exact hh
    rcases Nat.lt_or_ge g w.heap.size with hlt | hge
    · exact hlt
    · rw [Array.getElem?_eq_none hge] at hh; cases hh
theorem OwnM.kp {w w' : World} {B : Nat} {v : Value} {G C : Nat → Nat} {m : List (List Int)} (h : OwnM w B v G C m) (hk : Kp w w') : OwnM w' B v G C m :=
  ⟨ownsRow_kp h.top hk, fun i hi => (h.row i hi).kp hk, h.apart⟩
theorem OwnM.lt {w : World} {B : Nat} {v : Value} {G C : Nat → Nat} {m : List (List Int)} (h : OwnM w B v G C m) {i : Nat} (hi : i < m.length) : B ≤ G i ∧ G i < w.heap.size :=
  World.ownsRow.lt (h.row i hi) (G i) rfl
/-- The block of the heads is no row's. -/
theorem top_ne {w : World} {B B' n : Nat} {v : Value} {hs : List Value} {g d c : Nat} {l : List Int} (h : w.ownsRow B 22 1 v n hs) (hr : Own w B' (.slice (some ⟨g, 0, none⟩) d c) l) : (Value.slice (some ⟨g, 0, none⟩) d c).ownBlock ≠ v.ownBlock := fun e => by
  obtain ⟨cur, hh, _⟩ := own_row hr
  rcases h.2 with ⟨rfl, _⟩ | ⟨g', cap, cur', rfl, _, hh', _⟩
  · cases e
  · have e' : g = g' := Option.some.inj e
    subst e'
    rw [hh] at hh'
    cases hh'
theorem OwnM.lies {w : World} {B : Nat} {v : Value} {G C : Nat → Nat} {m : List (List Int)} (h : OwnM w B v G C m) : ∃ A c, v = .slice A m.length c ∧ LiesM w A m ∧ m.length ≤ c := by
  rcases h.top.2 with ⟨rfl, h0⟩ | ⟨g, cap, cur, hv, hg, hh, hc, hm, hs, ht⟩
  · obtain rfl : m = [] := List.eq_nil_of_length_eq_zero h0
    exact ⟨Option.none, 0, rfl, LiesM.empty _ _, Nat.le_refl _⟩
  · refine ⟨_, cap, hv, fun k hk => ?_, hc⟩
    refine ⟨_, some ⟨G k, 0, Option.none⟩, C k, rfl, ?_, ?_, ?_, ?_⟩
    · rcases Nat.lt_or_ge g w.heap.size with h' | h'
      · exact h'
      · rw [Array.getElem?_eq_none h'] at hh; cases hh
    · have ht' : cur.toList.take m.length = heads G C m := by simpa using ht
      rw [add_at, cell_of_row _ _ k _ _ (0, 0) hh, ← Array.getElem?_toList, ← List.getElem?_take_of_lt hk, ht']
      simp [heads, hk]
    · obtain ⟨A, c, e, _, hle⟩ := (h.row k hk).cap
      cases e; exact hle
    · obtain ⟨A, c, e, hl⟩ := (h.row k hk).lies
      cases e; exact hl
theorem heads_snoc (G C : Nat → Nat) (m : List (List Int)) (l : List Int) (g c : Nat) :
    heads (fun i => if i = m.length then g else G i) (fun i => if i = m.length then c else C i) (m ++ [l]) = heads G C m ++ [Value.slice (some ⟨g, 0, none⟩) l.length c] := by
  unfold heads
  rw [List.length_append, List.length_singleton, List.range_succ, List.map_append]
  congr 1
  · refine List.map_congr_left fun i hi => ?_
    have hi' := List.mem_range.1 hi
    have e1 : i ≠ m.length := by omega
    simp [e1, List.getElem?_append_left hi']
  · simp

section
variable {ops : Array Oper} {rest : List Oper} {o : Oper} {a : Act} {w : World} {K : Act → World → Prop} {Q : Exit → Act → World → Prop}
/-- out = append(out, row). -/
theorem wp_pushM (s x : Operand) (ho : o.op = .call { callee := .builtin .append, args := #[s, x], argTypes := #[37, 37] })
    (B : Nat) (v : Value) (G C : Nat → Nat) (m : List (List Int)) (l : List Int) (g n c gb cb : Nat) (hn : l.length = n) (hs : a.eval s = v) (hx : a.eval x = .slice (some ⟨gb, 0, none⟩) 1 cb) (hown : OwnM w B v G C m)
    (hcell : w.cell? ⟨gb, 0, none⟩ = some (.slice (some ⟨g, 0, none⟩) n c)) (hrow : Own w B (.slice (some ⟨g, 0, none⟩) n c) l) (hap : ∀ i, i < m.length → G i ≠ g) (hlen : m.length + 1 ≤ 1000000) (hB : B ≤ w.heap.size)
    (h : ∀ v' w' G' C', OwnM w' B v' G' C' (m ++ [l]) → w.grownBy w' v.ownBlock → K (a.put o.dst v') w') : o.wp Try.prog a w K Q := by
  subst hn
  obtain ⟨i0, hi, hz0, hz1, hz2⟩ := info_parts ints_info
  obtain ⟨v', w', hrun, h1, h2, _, h3⟩ := run_append_own_at (P := Try.prog) w B 37 o.type 22 i0 (.slice Option.none 0 0) 1 24 Try.underlying37 hi hz0 hz1 hz2 rfl (by decide) v m.length (heads G C m) hown.top ⟨gb, 0, Option.none⟩ 1 cb [.slice (some ⟨g, 0, Option.none⟩) l.length c] rfl
    (fun j u hj => by
      match j, hj with
      | 0, hj => simp at hj; subst hj; rw [add_at]; exact hcell) (fun u hu => by simp at hu; subst hu; rfl) (by unfold maxLen; omega) (by omega) hB
  unfold Oper.wp execOp
  simp only [ho, resolve, invoke, builtin, Sem.run_bind, Sem.run_pure, Result.andThen_ok, List.map_toArray, List.map_cons, List.map_nil, hs, hx, hrun]
  refine (h v' w' (fun i => if i = m.length then g else G i) (fun i => if i = m.length then c else C i) ⟨?_, fun i hi => ?_, fun i j hi hj hne => ?_⟩ h2)
  · rw [heads_snoc, List.length_append]; exact h1
  · rw [List.length_append, List.length_singleton] at hi
    by_cases e : i = m.length
    · subst e
      have e2 : (m ++ [l]).getD m.length [] = l := by simp
      simp only [e2, if_true]
      exact hrow.grown h2 (.inr (top_ne hown.top hrow))
    · have hi' : i < m.length := by omega
      have e2 : (m ++ [l]).getD i [] = m.getD i [] := by simp [List.getElem?_append_left hi']
      simp only [if_neg e, e2]
      exact (hown.row i hi').grown h2 (.inr (top_ne hown.top (hown.row i hi')))
  · rw [List.length_append, List.length_singleton] at hi hj
    by_cases e : i = m.length
    · rw [if_pos e, if_neg (by omega)]
      exact fun e' => hap j (by omega) e'.symm
    · rw [if_neg e]
      by_cases e2 : j = m.length
      · rw [if_pos e2]; exact hap i (by omega)
      · rw [if_neg e2]; exact hown.apart i j (by omega) (by omega) hne
theorem wpList_pushM (hgd : o.guard = Option.none) (s x : Operand) (ho : o.op = .call { callee := .builtin .append, args := #[s, x], argTypes := #[37, 37] })
    (B : Nat) (v : Value) (G C : Nat → Nat) (m : List (List Int)) (l : List Int) (g n c gb cb : Nat) (hn : l.length = n) (hs : a.eval s = v) (hx : a.eval x = .slice (some ⟨gb, 0, none⟩) 1 cb) (hown : OwnM w B v G C m)
    (hcell : w.cell? ⟨gb, 0, none⟩ = some (.slice (some ⟨g, 0, none⟩) n c)) (hrow : Own w B (.slice (some ⟨g, 0, none⟩) n c) l) (hap : ∀ i, i < m.length → G i ≠ g) (hlen : m.length + 1 ≤ 1000000) (hB : B ≤ w.heap.size)
    (h : ∀ v' w' G' C', OwnM w' B v' G' C' (m ++ [l]) → (∀ w0 : World, w0.heap.size ≤ B → Kp w0 w → Kp w0 w') → wpList Try.prog ops Q rest (a.put o.dst v') w') : wpList Try.prog ops Q (o :: rest) a w :=
  wpList_plain hgd fun _ hK => wp_pushM s x ho B v G C m l g n c gb cb hn hs hx hown hcell hrow hap hlen hB fun v' w' G' C' h1 h2 => hK _ _ (h v' w' G' C' h1 fun w0 hw0 hk0 => Below.grown hk0 h2 hk0.size fun k hk => Nat.le_trans hw0 (World.ownsRow.lt hown.top k hk).1)
end

theorem cell_made (w : World) (cs : Array Value) (e : TypeId) (g k : Nat) (h : g = w.heap.size) : (w.alloc (.cells cs e)).cell? ⟨g, k, none⟩ = cs[k]? := by
  subst h
  exact cell_of_row _ _ k _ e (0, 0) (heap_alloc_new w _)
theorem size_set (w : World) (a : Addr) (u : Value) : w.heap.size = (w.setCell a u).heap.size := by simp [World.setCell]
theorem Own.from {w : World} {B B' : Nat} {v : Value} {l : List Int} (h : Own w B v l) (hB : B' ≤ B) : Own w B' v l :=
  ⟨h.1, h.2.imp id fun ⟨g, cap, cur, e, hg, r⟩ => ⟨g, cap, cur, e, Nat.le_trans hB hg, r⟩⟩
/-- Cells of a row of such a matrix; a store into one. -/
theorem OwnM.head {w : World} {B : Nat} {G C : Nat → Nat} {m : List (List Int)} {g n cap : Nat} (h : OwnM w B (.slice (some ⟨g, 0, none⟩) n cap) G C m) {i : Nat} (hi : i < m.length) : w.cell? ⟨g, i, none⟩ = some (.slice (some ⟨G i, 0, none⟩) (m.getD i []).length (C i)) := by
  rcases h.top.2 with ⟨e, _⟩ | ⟨g', cap', cur, hv, hg, hh, hc, hm, hs, ht⟩
  · cases e
  · cases hv
    have ht' : cur.toList.take m.length = heads G C m := by simpa using ht
    rw [cell_of_row _ _ i _ _ (0, 0) hh, ← Array.getElem?_toList, ← List.getElem?_take_of_lt hi, ht']
    simp [heads, hi]
theorem OwnM.el {w : World} {B : Nat} {v : Value} {G C : Nat → Nat} {m : List (List Int)} (h : OwnM w B v G C m) {i : Nat} (hi : i < m.length) {j : Nat} (hj : j < (m.getD i []).length) : w.cell? ⟨G i, j, none⟩ = some (.int .i64 ((m.getD i []).getD j 0)) :=
  own_cell (h.row i hi) j hj
theorem OwnM.free {w : World} {B : Nat} {v : Value} {G C : Nat → Nat} {m : List (List Int)} (h : OwnM w B v G C m) {i : Nat} (hi : i < m.length) (j : Nat) : w.frozen? ⟨G i, j, none⟩ = false :=
  own_free (h.row i hi) j
theorem own_store {w : World} {B g n c : Nat} {l : List Int} (h : Own w B (.slice (some ⟨g, 0, none⟩) n c) l) {a : Addr} (ha : g ≠ a.block) (u : Value) : Own (w.setCell a u) B (.slice (some ⟨g, 0, none⟩) n c) l := by
  rcases h.2 with ⟨h0, _⟩ | ⟨g', cap, cur, e, hg, hh, r⟩
  · cases h0
  · cases e
    exact ⟨h.1, .inr ⟨g, c, cur, rfl, hg, by rw [heap_setCell_other w a g u ha]; exact hh, r⟩⟩
theorem OwnM.put {w : World} {B : Nat} {v : Value} {G C : Nat → Nat} {r c : Nat} {f : Nat → Nat → Int} (h : OwnM w B v G C (Mx.tab r c f)) {i : Nat} (hi : i < r) (j : Nat) (x : Int) :
    OwnM (w.setCell ⟨G i, j, none⟩ (.int .i64 x)) B v G C (Mx.tab r c fun a b => if a = i ∧ b = j then x else f a b) := by
  have hl := Mx.len_tab r c f
  have hl' := Mx.len_tab r c fun a b => if a = i ∧ b = j then x else f a b
  have hri := h.row i (by rw [hl]; exact hi)
  refine ⟨?_, fun k hk => ?_, fun a b ha hb => h.apart a b (by omega) (by omega)⟩
  · have hh : heads G C (Mx.tab r c fun a b => if a = i ∧ b = j then x else f a b) = heads G C (Mx.tab r c f) := by
      unfold heads
      rw [hl, hl']
      refine List.map_congr_left fun k hk => ?_
      have := List.mem_range.1 hk
      rw [Mx.tab_len _ _ _ _ this, Mx.tab_len _ _ _ _ this]
    rw [hh, hl']
    have ht := h.top
    have hne := top_ne h.top hri
    rw [hl] at ht
    rcases ht.2 with ⟨h1, h2⟩ | ⟨g, cap, cur, e, hg, hh, rr⟩
    · exact ⟨ht.1, .inl ⟨h1, h2⟩⟩
    · refine ⟨ht.1, .inr ⟨g, cap, cur, e, hg, ?_, rr⟩⟩
      rw [heap_setCell_other w _ g _ (by
        show g ≠ G i
        intro e2
        apply hne
        rw [e]
        show some (G i) = some g
        rw [e2])]
      exact hh
  · rw [hl'] at hk
    rw [Mx.tab_at _ _ _ _ hk, Mx.len_row]
    have hk0 := h.row k (by omega)
    rw [Mx.tab_at _ _ _ _ hk, Mx.len_row] at hk0
    by_cases e : k = i
    · subst e
      have := own_put hk0 j x
      rw [Mx.row_set] at this
      rw [show (fun b => if k = k ∧ b = j then x else f k b) = fun b => if b = j then x else f k b by funext b; simp]
      exact this
    · rw [show (fun b => if k = i ∧ b = j then x else f k b) = f k by funext b; simp [e]]
      exact own_store hk0 (by show G k ≠ G i; exact h.apart k i (by omega) (by omega) e) _
theorem OwnM.ext {w : World} {B : Nat} {v : Value} {G C : Nat → Nat} {r c : Nat} {f f' : Nat → Nat → Int} (h : OwnM w B v G C (Mx.tab r c f)) (e : ∀ i j, i < r → j < c → f i j = f' i j) : OwnM w B v G C (Mx.tab r c f') := by
  rw [← Mx.tab_ext e]; exact h
theorem OwnM.drewN {w : World} {B : Nat} {v : Value} {G C : Nat → Nat} {m : List (List Int)} (h : OwnM w B v G C m) (n : Nat) : OwnM (w.drewN n) B v G C m := h.kp ((Kp.rfl' w).drewN n)
theorem OwnM.new {w : World} {B : Nat} {v : Value} {G C : Nat → Nat} {m : List (List Int)} (h : OwnM w B v G C m) (o : Obj) : OwnM (w.alloc o) B v G C m := h.kp ((Kp.rfl' w).new o)
end Go.Proofs.Ytbdpcpodmmhjaaa

/- Contracts of package sturm, second part: derivative, after, Check. -/
namespace Go.Proofs.Ytbdpcpodmmhjaaa
open Go.ChangeShapes Go.WideShapes Go.ChangeAt Go.RowKit
set_option linter.unusedVariables false

/-- The first k factors of a slope. -/
def slk (l : List Int) (k : Nat) : List Int := (List.range k).map fun i : Nat => ((i : Int) + 1) * l.getD (i + 1) 0
theorem slk_len (l : List Int) (k : Nat) : (slk l k).length = k := by simp [slk]
theorem slk_snoc (l : List Int) (k : Nat) : slk l (k + 1) = slk l k ++ [((k : Int) + 1) * l.getD (k + 1) 0] := by
  unfold slk; rw [List.range_succ, List.map_append]; rfl
theorem slk_all (l : List Int) : slk l (l.length - 1) = Stu.slp l := rfl
theorem Sz.slope {g : List Int} (h : Stu.Sz g) (h0 : 0 < g.length) : Stu.Sz (Stu.slp g) := by
  obtain ⟨h4, B, hB, hb, hS⟩ := h
  have b := Stu.slp_bn hB hb h4
  refine ⟨by rw [Stu.slp_len]; omega, 3 * B, by omega, b, ?_⟩
  rw [Stu.slp_len]
  obtain ⟨n, hn⟩ : ∃ n, g.length = n + 1 := ⟨g.length - 1, by omega⟩
  rw [hn] at hS ⊢
  rw [Nat.add_sub_cancel]
  rw [Int.pow_succ, ← Int.mul_assoc] at hS
  have p := Int.mul_nonneg hB (show (0 : Int) ≤ 200 ^ n by have := pow200 n; omega)
  rw [show 3 * B * 200 ^ n = 3 * (B * 200 ^ n) by rw [Int.mul_assoc]]
  omega
theorem slope_fit {g : List Int} (h : Stu.Sz g) {k : Nat} (hk : k + 1 < g.length) : IntKind.i64.wrap (((k : Int) + 1) * g.getD (k + 1) 0) = ((k : Int) + 1) * g.getD (k + 1) 0 := by
  obtain ⟨h4, B, hB, hb, hS⟩ := h
  have a := bn_at hb hk
  have p := pow200 g.length
  have q := Int.mul_le_mul_of_nonneg_left (pow200_le (show 1 ≤ g.length by omega)) hB
  rw [show (200 : Int) ^ 1 = 200 from rfl] at q
  refine IntWalk.i64_in _ ?_
  generalize g.getD (k + 1) 0 = z at *
  rcases show k = 0 ∨ k = 1 ∨ k = 2 by omega with rfl | rfl | rfl <;> omega

theorem add_one_at (ad : Addr) (k : Nat) : (ad.add 1).add k = ⟨ad.block, ad.off + 1 + k, none⟩ := by
  have h1 : ad.add 1 = ⟨ad.block, ad.off + 1, none⟩ := rfl
  rw [h1]
  unfold Addr.add
  by_cases h : k = 0
  · subst h; rfl
  · rw [if_neg h]

set_option maxHeartbeats 1600000 in
theorem uder_more (A : Option Addr) (l : List Int) (m c : Nat) (w : World) (hl : Lies w A l) (hn : l.length = m + 1) (hc1 : ¬ c = 1) (hc : m + 1 ≤ c) (sz : Stu.Sz l) :
    Calls Try.prog 25 #[.slice A (m + 1) c] w fun e w' => SomeRow (Stu.slp l) w e w' := by
  obtain ⟨ad, rfl, _, _⟩ := hl 0 (by omega)
  have m4 : m ≤ 3 := by have := sz.1; omega
  have HD := Lib.hid (hl.drop 1)
  have HN := Lib.hid hn
  have FIT := Lib.hid (fun k (hk : k < m) => slope_fit sz (k := k) (by omega))
  have EQ := Lib.hid (show slk l m = Stu.slp l by rw [← slk_all, hn]; rfl)
  clear hl hn sz
  go_enter Try.func25, Try.ntmps25
  go_wp2_with fail
  go_loopw [3, 9] (fun v j wr => ∃ k : Nat, k ≤ m ∧ j = .int .i64 (k : Int) ∧ Own wr w.heap.size v (slk l k) ∧ Kp w wr) (fun _ j _ => m - (intOf j).toNat)
  case atStart => exact ⟨0, Nat.zero_le _, rfl, Own.none _ _, Kp.rfl' _⟩
  case round =>
    obtain ⟨k, hk, rfl, ho, hkp⟩ := hrel
    have HO := Lib.hid ho
    have HK := Lib.hid hkp
    clear ho hkp
    by_cases hlt : k < m
    · obtain ⟨ad', e', _, x1⟩ := (HD.out.keep HK.out) k (by rw [List.length_drop, HN.out]; omega)
      obtain rfl := Option.some.inj e'
      have e2 : (l.drop 1).getD k 0 = l.getD (k + 1) 0 := by rw [List.getD_eq_getElem?_getD, List.getD_eq_getElem?_getD, List.getElem?_drop, Nat.add_comm]
      have ea := add_one_at ad k
      rw [e2, ea] at x1
      have hwm := FIT.out k hlt
      have SN := Lib.hid (slk_snoc l k)
      have hlen : (slk l k).length + 1 ≤ 17000000000000 := by rw [slk_len]; omega
      have HSZ := HK.out.size
      generalize l.getD (k + 1) 0 = a at *
      clear e2 e' ea
      go_wp2_with (at_builtin; refine wpList_push rfl _ _ rfl w.heap.size _ (slk l k) (((k : Int) + 1) * a) wr.heap.size 1 rfl rfl (HO.out.new _) (cell_made _ _ _ _ 0 rfl) hlen (Nat.le_trans HSZ ((Kp.rfl' _).new _).size) ?_; intro v' w' h1 h2 _; have HO' := Lib.hid h1; have HK' := Lib.hid (show Kp w w' from own_below (HO.out.new _) (HK.out.new _) (Nat.le_trans HSZ ((Kp.rfl' _).new _).size) h2); clear h1 h2)
      go_roundw
      case rel => exact ⟨k + 1, by omega, by go_num, by rw [SN.out]; exact HO'.out, HK'.out⟩
      case measure => simp [intOf]; omega
    · obtain rfl : k = m := by omega
      go_wp2_with fail
      go_ret
      exact ⟨_, rfl, by rw [← EQ.out]; exact HO.out, HK.out⟩

set_option maxHeartbeats 1600000 in
theorem uder_one (A : Option Addr) (l : List Int) (c : Nat) (w : World) (hl : Lies w A l) (hn : l.length = 1) (hc : c = 1) :
    Calls Try.prog 25 #[.slice A 1 c] w fun e w' => SomeRow (Stu.slp l) w e w' := by
  obtain ⟨ad, rfl, _, _⟩ := hl 0 (by omega)
  have EQ := Lib.hid (show Stu.slp l = [] from List.eq_nil_of_length_eq_zero (by rw [Stu.slp_len]; omega))
  subst hc
  clear hl hn
  go_enter Try.func25, Try.ntmps25
  go_wp2_with fail
  go_loopw [3, 9] (fun v j wr => j = .int .i64 0 ∧ v = .slice none 0 0 ∧ wr = w) (fun _ _ _ => 0)
  case atStart => exact ⟨rfl, rfl, rfl⟩
  case round =>
    obtain ⟨rfl, rfl, rfl⟩ := hrel
    go_wp2_with fail
    go_ret
    exact ⟨_, rfl, by rw [EQ.out]; exact Own.none _ _, Kp.rfl' _⟩
theorem uder_any (A : Option Addr) (l : List Int) (n c : Nat) (w : World) (hl : Lies w A l) (hn : l.length = n) (h0 : 0 < n) (hc : n ≤ c) (sz : Stu.Sz l) :
    Calls Try.prog 25 #[.slice A n c] w fun e w' => SomeRow (Stu.slp l) w e w' := by
  by_cases h : c = 1
  · obtain rfl : n = 1 := by omega
    exact uder_one A l c w hl hn h
  · obtain ⟨m, rfl⟩ : ∃ m, n = m + 1 := ⟨n - 1, by omega⟩
    exact uder_more A l m c w hl hn h hc sz

def lenOf : Value → Nat
  | .slice _ n _ => n
  | _ => 0
theorem aft_nil (x : Int) : Stu.aft ([] : List Int).length [] x = 0 := rfl
theorem aft_here {g : List Int} {m : Nat} {x : Int} (h : g.length = m + 1) (h0 : Stu.hv g x ≠ 0) : Stu.aft g.length g x = Stu.hv g x := by
  rw [h, Stu.aft, if_neg (fun e => by rw [e] at h; simp at h), if_neg h0]
theorem aft_on {g : List Int} {m : Nat} {x : Int} (h : g.length = m + 1) (h0 : Stu.hv g x = 0) : Stu.aft g.length g x = Stu.aft (Stu.slp g).length (Stu.slp g) x := by
  rw [h, Stu.aft, if_neg (fun e => by rw [e] at h; simp at h), if_pos h0, Stu.slp_len, h]; rfl

set_option maxHeartbeats 1600000 in
theorem uaft_any (A : Option Addr) (l : List Int) (n c : Nat) (x : Int) (w : World) (hl : Lies w A l) (hn : l.length = n) (hc : n ≤ c) (sz : Stu.Sz l) (hx : -100 ≤ x ∧ x ≤ 100) :
    Calls Try.prog 27 #[.slice A n c, .int .i64 x] w fun e w' => e = .returned (.int .i64 (Stu.aft l.length l x)) ∧ Kp w w' := by
  obtain ⟨T, hT⟩ : ∃ T, T = Stu.aft l.length l x := ⟨_, rfl⟩
  rw [← hT]
  have ST := Lib.hid (show ∃ g : List Int, g.length = n ∧ Lies w A g ∧ Stu.Sz g ∧ T = Stu.aft g.length g x from ⟨l, hn, hl, sz, hT⟩)
  have HX := Lib.hid hx
  clear hl hn sz hT hx
  go_enter Try.func27, Try.ntmps27
  go_wp2_with fail
  go_loopw [0] (fun v wr => ∃ (A' : Option Addr) (m c' : Nat), v = .slice A' m c' ∧ m ≤ c' ∧ (∃ g : List Int, g.length = m ∧ Lies wr A' g ∧ Stu.Sz g ∧ T = Stu.aft g.length g x) ∧ Kp w wr) (fun v _ => lenOf v)
  case atStart => exact ⟨A, n, c, rfl, hc, ST.out, Kp.rfl' _⟩
  case round =>
    obtain ⟨A', m, c', rfl, hmc, ⟨g, hg, hlies, hsz, ht⟩, hkp⟩ := hrel
    have HK := Lib.hid hkp
    by_cases h0 : m = 0
    · subst h0
      have E := Lib.hid (show T = 0 by rw [ht, List.eq_nil_of_length_eq_zero hg]; rfl)
      clear hlies hsz ht hkp hg hmc
      go_wp2_with fail
      go_ret
      exact ⟨by rw [E.out]; rfl, HK.out⟩
    · have hm0 : (0 : Int) < (m : Int) := by omega
      have VAL := Lib.hid (uval_any A' g m c' x wr hlies hg hsz HX.out)
      have DER := Lib.hid (uder_any A' g m c' wr hlies hg (by omega) hmc hsz)
      have SZ2 := Lib.hid (Sz.slope hsz (by omega))
      have SL := Lib.hid (Stu.slp_len g)
      have HG := Lib.hid hg
      by_cases hv0 : Stu.hv g x = 0
      · have E := Lib.hid (show T = Stu.aft (Stu.slp g).length (Stu.slp g) x by rw [ht, aft_on (m := m - 1) (by omega) hv0])
        rw [hv0] at VAL
        clear hlies hsz ht hkp hg hv0
        go_wp2_with fail
        refine (VAL.out).mono ?_; rintro e w1 ⟨rfl, rfl⟩
        go_wp2_with fail
        refine (DER.out).mono ?_; rintro e w1 ⟨v, rfl, ho, k1⟩
        obtain ⟨A2, c2, rfl, l2, hc2⟩ := ho.cap
        have L2 := Lib.hid l2
        have K2 := Lib.hid (HK.out.trans k1)
        clear ho k1 l2
        go_wp2_with fail
        go_roundw
        case rel => exact ⟨A2, _, c2, rfl, hc2, ⟨Stu.slp g, rfl, L2.out, SZ2.out, E.out⟩, K2.out⟩
        case measure => simp [lenOf]; rw [SL.out, HG.out]; omega
      · have E := Lib.hid (show T = Stu.hv g x by rw [ht, aft_here (m := m - 1) (by omega) hv0])
        generalize Stu.hv g x = u at *
        clear hlies hsz ht hkp hg
        go_wp2_with fail
        refine (VAL.out).mono ?_; rintro e w1 ⟨rfl, rfl⟩
        go_wp2_with fail
        go_ret
        exact ⟨by rw [E.out]; rfl, HK.out⟩

/-- What is wrong with a row of whole factors. -/
noncomputable def ucd (L : List Int) : Nat := open Classical in if L.length = 0 then 5 else if 4 < L.length then 4 else if ¬ AllIn L (-20) 20 then 1 else if L.getD (L.length - 1) 0 = 0 then 3 else 0
theorem ucd_none {L : List Int} (h : L.length = 0) : ucd L = 5 := by unfold ucd; rw [if_pos h]
theorem ucd_full {L : List Int} (h : 4 < L.length) : ucd L = 4 := by unfold ucd; rw [if_neg (by omega), if_pos h]
theorem ucd_range {L : List Int} (h0 : ¬ L.length = 0) (h : ¬ 4 < L.length) (h2 : ¬ AllIn L (-20) 20) : ucd L = 1 := by unfold ucd; rw [if_neg h0, if_neg h, if_pos h2]
theorem ucd_shape {L : List Int} (h0 : ¬ L.length = 0) (h : ¬ 4 < L.length) (h2 : AllIn L (-20) 20) (h3 : L.getD (L.length - 1) 0 = 0) : ucd L = 3 := by unfold ucd; rw [if_neg h0, if_neg h, if_neg (fun e => e h2), if_pos h3]
theorem ucd_ok {L : List Int} (h0 : ¬ L.length = 0) (h : ¬ 4 < L.length) (h2 : AllIn L (-20) 20) (h3 : ¬ L.getD (L.length - 1) 0 = 0) : ucd L = 0 := by unfold ucd; rw [if_neg h0, if_neg h, if_neg (fun e => e h2), if_neg h3]
/-- A row that the laws take. -/
structure Whl (n : Nat) (L : List Int) : Prop where
  len : L.length = n
  n0 : 0 < n
  n4 : n ≤ 4
  bn : Stu.Bn 20 L
  tp : Stu.Tp L
theorem Whl.ne {n : Nat} {L : List Int} (h : Whl n L) : L ≠ [] := fun e => by have := h.len; have := h.n0; rw [e] at *; simp at *; omega
theorem bn_allIn {L : List Int} {a : Int} : Stu.Bn a L ↔ AllIn L (-a) a := by
  constructor
  · intro h k hk; exact bn_at h hk
  · intro h z hz
    obtain ⟨k, hk, rfl⟩ := List.getElem_of_mem hz
    have := h k hk
    rwa [List.getD_eq_getElem?_getD, List.getElem?_eq_getElem hk] at this
theorem Whl.code {n : Nat} {L : List Int} (h : Whl n L) : ucd L = 0 :=
  ucd_ok (by rw [h.len]; have := h.n0; omega) (by rw [h.len]; have := h.n4; omega) (bn_allIn.1 h.bn) (h.tp h.ne)
theorem whl_or (L : List Int) : Whl L.length L ∨ ucd L ≠ 0 := by
  by_cases h0 : L.length = 0
  · right; rw [ucd_none h0]; decide
  · by_cases h1 : 4 < L.length
    · right; rw [ucd_full h1]; decide
    · by_cases h2 : AllIn L (-20) 20
      · by_cases h3 : L.getD (L.length - 1) 0 = 0
        · right; rw [ucd_shape h0 h1 h2 h3]; decide
        · exact .inl ⟨rfl, by omega, by omega, bn_allIn.2 h2, fun _ => h3⟩
      · right; rw [ucd_range h0 h1 h2]; decide

theorem uChk_none (A : Option Addr) (L : List Int) (c : Nat) (w : World) (h : L.length = 0) :
    Calls Try.prog 20 #[.slice A L.length c] w fun e w' => e = .returned (errOf (ucd L)) ∧ w = w' := by
  rw [ucd_none h, h]
  clear h
  go_enter Try.func20, Try.ntmps20
  go_wp2
  go_ret
  exact ⟨rfl, rfl⟩
theorem uChk_full (A : Option Addr) (L : List Int) (c : Nat) (w : World) (h : 4 < L.length) :
    Calls Try.prog 20 #[.slice A L.length c] w fun e w' => e = .returned (errOf (ucd L)) ∧ w = w' := by
  rw [ucd_full h]
  generalize L.length = n at *
  have e0 : ((n : Int) == 0) = false := by rw [beq_eq_false_iff_ne]; omega
  have h' : (4 : Int) < n := by omega
  clear h
  go_enter Try.func20, Try.ntmps20
  go_wp2
  go_ret
  exact ⟨rfl, rfl⟩

set_option maxHeartbeats 1600000 in
theorem uChk_main (A : Option Addr) (l : List Int) (c : Nat) (w : World) (hl : Lies w A l) (h0 : ¬ l.length = 0) (h4 : ¬ 4 < l.length) :
    Calls Try.prog 20 #[.slice A l.length c] w fun e w' => e = .returned (errOf (ucd l)) ∧ w = w' := by
  have HL := Lib.hid hl
  have BAD := Lib.hid (fun h : ¬ AllIn l (-20) 20 => ucd_range h0 h4 h)
  have SHP := Lib.hid (fun (h : AllIn l (-20) 20) => ucd_shape h0 h4 h)
  have OK := Lib.hid (fun (h : AllIn l (-20) 20) => ucd_ok h0 h4 h)
  obtain ⟨v, hv⟩ : ∃ v, v = ucd l := ⟨_, rfl⟩
  rw [← hv] at BAD OK SHP ⊢
  obtain ⟨q, hq⟩ : ∃ q, l.length = q + 1 := ⟨l.length - 1, by omega⟩
  obtain ⟨n, hn'⟩ : ∃ n, n = l.length := ⟨_, rfl⟩
  obtain ⟨ad, rfl, _, y1⟩ := hl q (by omega)
  rw [show l.length - 1 = q by omega] at SHP OK
  obtain ⟨z, hz⟩ : ∃ z, z = l.getD q 0 := ⟨_, rfl⟩
  rw [← hz] at SHP OK y1
  rw [← hn'] at h0 h4 ⊢
  have HN := Lib.hid hn'
  have eq1 : (n : Int) - 1 = (q : Int) := by omega
  have qn : q < n := by omega
  have e0 : ((n : Int) == 0) = false := by rw [beq_eq_false_iff_ne]; omega
  have h16 : ¬ (4 : Int) < (n : Int) := by omega
  have EQ := Lib.hid eq1
  clear hl hn' hv hz hq h0 h4 eq1
  go_enter Try.func20, Try.ntmps20
  go_wp2_with fail
  go_loop [15] (fun i => ∃ k : Nat, k ≤ n ∧ i = .int .i64 (k : Int) ∧ ∀ j, j < k → -20 ≤ l.getD j 0 ∧ l.getD j 0 ≤ 20) (fun i => n - (intOf i).toNat)
  case atStart => exact ⟨0, Nat.zero_le _, rfl, fun j hj => absurd hj (by omega)⟩
  case round =>
    obtain ⟨k, hk, rfl, hg⟩ := hrel
    have HG := Lib.hid hg
    clear hg
    by_cases hlt : k < n
    · obtain ⟨ad', e', _, hc⟩ := HL.out k (by have := HN.out; omega)
      obtain rfl := Option.some.inj e'
      obtain ⟨m, hm⟩ : ∃ m, m = l.getD k 0 := ⟨_, rfl⟩
      rw [← hm] at hc
      by_cases h0 : m < -20
      · have E := Lib.hid (BAD.out fun hh => by have := hh k (by have := HN.out; omega); rw [← hm] at this; omega)
        clear hm e' y1
        go_wp2_with fail
        go_ret
        exact ⟨by rw [E.out]; rfl, rfl⟩
      · by_cases h1 : m ≤ 20
        · have GG := Lib.hid (show ∀ j, j < k + 1 → -20 ≤ l.getD j 0 ∧ l.getD j 0 ≤ 20 from fun j hj => by
            by_cases e : j = k
            · subst e; rw [← hm]; omega
            · exact HG.out j (by omega))
          have h2 : ¬ 20 < m := by omega
          clear hm e' y1
          go_wp2_with fail
          go_round
          case rel => exact ⟨k + 1, by omega, by go_num, GG.out⟩
          case measure => simp [intOf]; omega
        · have E := Lib.hid (BAD.out fun hh => by have := hh k (by have := HN.out; omega); rw [← hm] at this; omega)
          have h2 : 20 < m := by omega
          clear hm h1 e' y1
          go_wp2_with fail
          go_ret
          exact ⟨by rw [E.out]; rfl, rfl⟩
    · have all := Lib.hid (show AllIn l (-20) 20 from fun j hj => HG.out j (by have := HN.out; omega))
      have hw : IntKind.i64.wrap ((n : Int) - 1) = (q : Int) := by rw [EQ.out]; exact IntWalk.i64_in _ (by omega)
      by_cases hz : z = 0
      · subst hz
        have E := Lib.hid (SHP.out all.out rfl)
        have eq1 := EQ.out
        go_wp2_with fail
        go_ret
        exact ⟨by rw [E.out]; rfl, rfl⟩
      · have ez : (z == 0) = false := by rw [beq_eq_false_iff_ne]; exact hz
        have E := Lib.hid (OK.out all.out hz)
        have eq1 := EQ.out
        clear hz
        go_wp2_with fail
        go_ret
        exact ⟨by rw [E.out]; rfl, rfl⟩
theorem uChk_any (A : Option Addr) (l : List Int) (c : Nat) (w : World) (hl : Lies w A l) :
    Calls Try.prog 20 #[.slice A l.length c] w fun e w' => e = .returned (errOf (ucd l)) ∧ w = w' := by
  by_cases h0 : l.length = 0
  · exact uChk_none A l c w h0
  · by_cases h : 4 < l.length
    · exact uChk_full A l c w h
    · exact uChk_main A l c w hl h0 h

end Go.Proofs.Ytbdpcpodmmhjaaa

/- Plain facts on a division in one row: what stands in it after each step, and what is left in the end. No program is named here. -/
namespace Go.Proofs.Ytbdpcpodmmhjaaa.Stu
set_option linter.unusedVariables false

/-- After s steps. -/
def nxs : Nat → List Int → List Int → List Int
  | 0, f, _ => f
  | s + 1, f, g => nxs s (nx f g) g
theorem nxs_succ : ∀ (s : Nat) (f g : List Int), nxs (s + 1) f g = nx (nxs s f g) g
  | 0, _, _ => rfl
  | s + 1, f, g => nxs_succ s (nx f g) g
theorem nxs_len : ∀ (s : Nat) (f g : List Int), (nxs s f g).length = f.length - s
  | 0, _, _ => rfl
  | s + 1, f, g => by rw [nxs, nxs_len s, nx_len]; omega
theorem spl_nxs : ∀ (n s : Nat) (g f Q : List Int), f.length + 1 - g.length = s → f.length ≤ n → 0 < g.length → (spl n g f Q).2 = nxs s f g
  | 0, s, g, f, Q, hs, hn, h0 => by
    obtain rfl : s = 0 := by omega
    rfl
  | n + 1, 0, g, f, Q, hs, hn, h0 => by rw [spl, if_neg (by omega)]; rfl
  | n + 1, s + 1, g, f, Q, hs, hn, h0 => by
    rw [spl, if_pos (by omega)]
    exact spl_nxs n s g (nx f g) _ (by rw [nx_len]; omega) (by rw [nx_len]; omega) h0
theorem neg_is (f : List Int) : f.map (- ·) = f.map (· * (-1 : Int)) := List.map_congr_left fun x _ => by omega
theorem nx_neg (f g : List Int) : nx (f.map (- ·)) g = (nx f g).map (- ·) := by
  have := nx_scale f g (-1) (m := 1) (by omega)
  rw [map_one, ← neg_is] at this
  rw [this, neg_is]
  exact List.map_congr_left fun x _ => by omega
theorem nxs_neg : ∀ (s : Nat) (f g : List Int), nxs s (f.map (- ·)) g = (nxs s f g).map (- ·)
  | 0, _, _ => rfl
  | s + 1, f, g => by rw [nxs, nxs, nx_neg, nxs_neg s]
theorem nr_nxs (f g : List Int) (h0 : 0 < g.length) : nr f g = tm (nxs (f.length + 1 - g.length) (f.map (- ·)) g) := by
  unfold nr
  rw [spl_nxs f.length _ g f [] rfl (Nat.le_refl _) h0, nxs_neg]
theorem getD_over {l : List Int} {i : Nat} (h : l.length ≤ i) : l.getD i 0 = 0 := by
  rw [List.getD_eq_getElem?_getD, List.getElem?_eq_none h]; rfl
/-- One step, number by number. -/
theorem nx_at (f g : List Int) (h0 : 0 < g.length) (h : g.length ≤ f.length) (i : Nat) :
    (nx f g).getD i 0 = f.getD i 0 * az (tp g) - (if f.length - g.length ≤ i ∧ i < f.length - g.length + g.length then tq f g * g.getD (i - (f.length - g.length)) 0 else 0) := by
  by_cases h1 : i < f.length - 1
  · have e : f.length - 1 - (g.length - 1) = f.length - g.length := by omega
    unfold nx
    rw [List.getD_eq_getElem?_getD, List.getElem?_map, List.getElem?_range h1, e]
    show f.getD i 0 * az (tp g) - _ = _
    by_cases h2 : f.length - g.length ≤ i
    · rw [if_pos h2, if_pos (by omega)]
    · rw [if_neg h2, if_neg (by omega)]
  · rw [getD_over (by rw [nx_len]; omega)]
    by_cases h2 : i = f.length - 1
    · rw [if_pos (by omega)]
      have e1 := tq_lead f g
      have e2 : f.getD i 0 = tp f := by unfold tp; rw [h2]
      have e3 : g.getD (i - (f.length - g.length)) 0 = tp g := by unfold tp; congr 1; omega
      rw [e2, e3, ← e1, Int.mul_comm]; omega
    · rw [if_neg (by omega), getD_over (by omega), Int.zero_mul]; rfl
theorem nxs_bn : ∀ (s : Nat) (g f : List Int) (X Y : Int), 0 ≤ X → 1 ≤ Y → Bn X f → Bn Y g → Bn (X * (2 * Y) ^ s) (nxs s f g)
  | 0, g, f, X, Y, _, _, hf, _ => by rw [Int.pow_zero, Int.mul_one]; exact hf
  | s + 1, g, f, X, Y, hX, hY, hf, hg => by
    have b := nx_bn hX (show 0 ≤ Y by omega) hf hg
    have := nxs_bn s g (nx f g) (2 * (X * Y)) Y (by have := Int.mul_nonneg hX (show 0 ≤ Y by omega); omega) hY b hg
    refine this.le ?_
    rw [Int.pow_succ]
    have e : X * ((2 * Y) ^ s * (2 * Y)) = 2 * (X * Y) * (2 * Y) ^ s := by grind
    omega
/-- A row with noughts behind is as good. -/
theorem tm_more (l : List Int) : ∀ k : Nat, tm (l ++ List.replicate k 0) = tm l
  | 0 => by rw [List.replicate_zero, List.append_nil]
  | k + 1 => by rw [List.replicate_succ', ← List.append_assoc, tm_zero, tm_more l k]
theorem row_more (l : List Int) (n : Nat) (h : l.length ≤ n) : ((List.range n).map fun i => l.getD i 0) = l ++ List.replicate (n - l.length) 0 := by
  apply List.ext_getElem?
  intro i
  by_cases hi : i < n
  · rw [List.getElem?_map, List.getElem?_range hi]
    show some (l.getD i 0) = _
    rw [List.getElem?_append]
    by_cases h2 : i < l.length
    · rw [if_pos h2, List.getD_eq_getElem?_getD, List.getElem?_eq_getElem h2]; rfl
    · rw [if_neg h2, getD_over (by omega), List.getElem?_replicate, if_pos (by omega)]
  · rw [List.getElem?_eq_none (by simp; omega), List.getElem?_eq_none (by simp; omega)]
/-- Numbers of a step that fit. -/
theorem step_fit {X Y M : Int} {s S : Nat} (hX : 0 ≤ X) (hY : 1 ≤ Y) (hs : s < S) (h : X * (2 * Y) ^ S ≤ M) : X * (2 * Y) ^ s * Y * 2 ≤ M ∧ 0 ≤ X * (2 * Y) ^ s := by
  obtain ⟨d, rfl⟩ : ∃ d, S = s + 1 + d := ⟨S - s - 1, by omega⟩
  have p := pow_le Y hY d
  have q := pow_le Y hY s
  have b := Int.mul_nonneg hX (show 0 ≤ (2 * Y) ^ s by omega)
  have a := Int.mul_nonneg b (show 0 ≤ Y by omega)
  refine ⟨?_, b⟩
  have := Int.mul_le_mul_of_nonneg_left p (show 0 ≤ X * (2 * Y) ^ s * Y * 2 by omega)
  have e : X * (2 * Y) ^ (s + 1 + d) = X * (2 * Y) ^ s * Y * 2 * (2 * Y) ^ d := by
    rw [Int.pow_add, Int.pow_succ]; grind
  omega
theorem tm_take {l : List Int} {k : Nat} (h : k < l.length) : l.take (k + 1) = l.take k ++ [l.getD k 0] := by
  rw [List.take_add_one, List.getD_eq_getElem?_getD, List.getElem?_eq_getElem h]; rfl

end Go.Proofs.Ytbdpcpodmmhjaaa.Stu

/- Contract of package sturm's negatedRest (made by tools/gen_SuC3.py). -/
namespace Go.Proofs.Ytbdpcpodmmhjaaa
open Go.ChangeShapes Go.WideShapes Go.ChangeAt Go.RowKit
set_option linter.unusedVariables false

theorem neg_at (f : List Int) (i : Nat) : (f.map (- ·)).getD i 0 = -(f.getD i 0) := by
  rw [Stu.neg_is, Stu.getD_scale]; omega
theorem bn_any {l : List Int} {B : Int} (h : Stu.Bn B l) (hB : 0 ≤ B) (k : Nat) : -B ≤ l.getD k 0 ∧ l.getD k 0 ≤ B := h.at hB k

set_option maxRecDepth 100000 in
set_option maxHeartbeats 6400000 in
theorem urest_any (A B : Option Addr) (f g : List Int) (n p c d : Nat) (w : World) (ha : Lies w A f) (hb : Lies w B g) (hn : f.length = n) (hp : g.length = p) (n1 : 1 ≤ n) (n4 : n ≤ 4) (p2 : 2 ≤ p) (p4 : p ≤ 4)
    (X Y : Int) (hX : 0 ≤ X) (hY : 1 ≤ Y) (bX : Stu.Bn X f) (bY : Stu.Bn Y g) (tg : Stu.Tp g) (fit : X * (2 * Y) ^ (n + 1 - p) ≤ 4000000000000000000) (cap : X ≤ 4000000000000000000 ∧ Y ≤ 4000000000000000000) :
    Calls Try.prog 26 #[.slice A n c, .slice B p d] w fun e w' => ∃ A' c', e = .returned (.slice A' (Stu.nr f g).length c') ∧ (Stu.nr f g).length ≤ c' ∧ Lies w' A' (Stu.nr f g) ∧ (∀ ad, A' = some ad → w.heap.size ≤ ad.block) ∧ Kp w w' := by
  obtain ⟨i0, hi, hz0, hz1, hz2⟩ := info_parts int_info
  obtain ⟨q, hq⟩ : ∃ q, p = q + 1 := ⟨p - 1, by omega⟩
  obtain ⟨adB, rfl, _, xb⟩ := hb q (by omega)
  have HA := Lib.hid ha
  have HB := Lib.hid hb
  have HN := Lib.hid hn
  have HP' := Lib.hid hp
  have BX := Lib.hid (fun k => bn_any bX hX k)
  have NR := Lib.hid (Stu.nr_nxs f g (by omega))
  rw [hn, hp] at NR
  obtain ⟨S, hS⟩ : ∃ S, S = n + 1 - p := ⟨_, rfl⟩
  rw [← hS] at fit NR
  have FIT := Lib.hid (fun s (h : s < S) => Stu.step_fit hX hY h fit)
  have NB := Lib.hid (fun s => Stu.nxs_bn s g (f.map (- ·)) X Y hX hY bX.neg bY)
  have BY := Lib.hid (fun k => bn_any bY (show 0 ≤ Y by omega) k)
  have NL := Lib.hid (fun s => Stu.nxs_len s (f.map (- ·)) g)
  have LF := Lib.hid (show (f.map (- ·)).length = n by rw [List.length_map]; exact hn)
  have TPG := Lib.hid (show Stu.tp g = g.getD q 0 by unfold Stu.tp; rw [hp, hq]; rfl)
  have TPZ := Lib.hid (show Stu.tp g ≠ 0 from tg fun e => by rw [e] at hp; simp at hp; omega)
  have HS := Lib.hid hS
  have eqp : (p : Int) - 1 = (q : Int) := by omega
  have EQP := Lib.hid eqp
  have HQ' := Lib.hid hq
  obtain ⟨wn, hwn⟩ : ∃ z : Nat, n = z + 1 := ⟨n - 1, by omega⟩
  have eqn : (n : Int) - 1 = (wn : Int) := by omega
  have EQN := Lib.hid eqn
  have HWN := Lib.hid hwn
  have hwp : IntKind.i64.wrap ((p : Int) - 1) = (q : Int) := by rw [eqp]; exact IntWalk.i64_in _ (by omega)
  have hwn' : IntKind.i64.wrap ((n : Int) - 1) = (wn : Int) := by rw [eqn]; exact IntWalk.i64_in _ (by omega)
  clear ha hb hn hp bX bY tg fit hS eqp eqn hwn hq
  go_enter Try.func26, Try.ntmps26
  go_wp2_with (at_make; refine wpList_make_full _ rfl _ _ 22 rfl w.heap.size 3 i0 (.int .i64 0) 1 Try.underlying22 hi hz0 hz1 _ _ _ _ n rfl rfl rfl rfl (by rw [hz2]; omega) (by unfold maxLen; omega) (Nat.le_refl _) ?_; intro w1 hown hgrow)
  have HR1 := Lib.hid (row_made hown)
  have HK1 := Lib.hid (show Kp w w1 from (Kp.rfl' w).grown hgrow (by simp) (fun k hk => by cases hk))
  obtain ⟨G, hG⟩ : ∃ g, g = w.heap.size := ⟨_, rfl⟩
  rw [← hG] at HR1
  try rw [← hG]
  have HG := Lib.hid (show w.heap.size ≤ G by omega)
  clear hown hgrow hG xb
  go_wp2_with fail
  go_loopw [20] (fun i wr => ∃ k : Nat, k ≤ n ∧ i = .int .i64 (k : Int) ∧ Row wr G (Mx.row n fun j => if j < k then -(f.getD j 0) else 0) ∧ Kp w wr) (fun i _ => n - (intOf i).toNat)
  case atStart =>
    refine ⟨0, Nat.zero_le _, rfl, ?_, HK1.out⟩
    have := HR1.out
    rw [Mx.row_rep] at this
    rw [show (Mx.row n fun j => if j < 0 then -(f.getD j 0) else 0) = Mx.row n fun _ => 0 from Mx.row_ext fun j _ => by rw [if_neg (by omega)]]
    exact this
  case round =>
    obtain ⟨k, hk, rfl, hr, hkp⟩ := hrel
    by_cases hlt : k < n
    · obtain ⟨ad, rfl, _, x1⟩ := (HA.out.keep hkp) k (by have := HN.out; omega)
      have y1 := hr.cell k (by rw [Mx.len_row]; exact hlt)
      have y2 := hr.free k
      have b1 := BX.out k
      obtain ⟨z, hz⟩ : ∃ z, z = f.getD k 0 := ⟨_, rfl⟩
      rw [← hz] at x1 b1
      have HZ := Lib.hid hz
      have hwz : IntKind.i64.wrap (-z) = -z := IntWalk.i64_in _ (by omega)
      have HP := Lib.hid (hr.put k (-z))
      have HQ := Lib.hid (hkp.put (p := ⟨G, k, none⟩) HG.out (.int .i64 (-z)))
      clear hr hkp b1 hz
      go_wp2_with fail
      go_roundw
      case rel =>
        refine ⟨k + 1, by omega, by go_num, ?_, HQ.out⟩
        have := HP.out
        rw [Mx.row_set] at this
        rw [show (Mx.row n fun j => if j < k + 1 then -(f.getD j 0) else 0) = Mx.row n fun j => if j = k then -z else if j < k then -(f.getD j 0) else 0 from Mx.row_ext fun j _ => by
          by_cases e : j = k
          · rw [if_pos e, if_pos (by omega), e, HZ.out]
          · rw [if_neg e]
            by_cases e2 : j < k
            · rw [if_pos e2, if_pos (by omega)]
            · rw [if_neg e2, if_neg (by omega)]]
        exact this
      case measure => simp [intOf]; omega
    · obtain rfl : k = n := by omega
      have HR2 := Lib.hid (show Row wr G (Mx.row k fun i => (Stu.nxs 0 (f.map (- ·)) g).getD i 0) by
        rw [show (Mx.row k fun i => (Stu.nxs 0 (f.map (- ·)) g).getD i 0) = Mx.row k fun j => if j < k then -(f.getD j 0) else 0 from Mx.row_ext fun j hj => by rw [if_pos hj]; exact neg_at f j]
        exact hr)
      have HK2 := Lib.hid hkp
      clear hr hkp HR1 HK1 hlt hk
      go_wp2_with fail
      obtain ⟨n, hkn⟩ : ∃ n, n = k := ⟨_, rfl⟩
      subst hkn
      go_loopw [9] (fun i wr => ∃ (s : Nat) (j : Int), s ≤ S ∧ j + 1 + (s : Int) = (n : Int) ∧ i = .int .i64 j ∧ Row wr G (Mx.row n fun i => (Stu.nxs s (f.map (- ·)) g).getD i 0) ∧ Kp w wr) (fun i _ => (intOf i + 1).toNat)
      case atStart => exact ⟨0, _, Nat.zero_le _, by have := HWN.out; omega, rfl, HR2.out, HK2.out⟩
      case round =>
        clear HR2 HK2
        obtain ⟨s, j, hs, hj, rfl, hr, hkp⟩ := hrel
        obtain ⟨wo, hwo⟩ : ∃ x, x = wr := ⟨_, rfl⟩
        subst hwo
        have HR := Lib.hid hr
        have HK := Lib.hid hkp
        clear hr hkp
        by_cases hlt : s < S
        · obtain ⟨t, ht⟩ : ∃ t : Nat, (t : Int) = j := ⟨j.toNat, by have := HS.out; omega⟩
          subst ht
          have htn : t < n := by omega
          have SS := Lib.hid (show t + 1 + s = n ∧ s < S from ⟨by omega, hlt⟩)
          obtain ⟨off, hoff⟩ : ∃ off : Nat, off + q = t := ⟨t - q, by have := HS.out; have := HQ'.out; omega⟩
          have OFF := Lib.hid (show off + q = t ∧ p = q + 1 ∧ t < n from ⟨hoff, HQ'.out, htn⟩)
          obtain ⟨c', hc'⟩ : ∃ c', c' = Stu.nxs s (f.map (- ·)) g := ⟨_, rfl⟩
          have lc : c'.length = t + 1 := by rw [hc', NL.out, LF.out]; omega
          obtain ⟨M, hM⟩ : ∃ M, M = X * (2 * Y) ^ s := ⟨_, rfl⟩
          have fit := FIT.out s hlt
          have bc : Stu.Bn M c' := by rw [hc', hM]; exact NB.out s
          rw [← hM] at fit
          have hc0 : Stu.tp c' = c'.getD t 0 := by unfold Stu.tp; rw [lc]; rfl
          have NX := Lib.hid (show ∀ i, (Stu.nxs (s + 1) (f.map (- ·)) g).getD i 0 = c'.getD i 0 * Stu.az (Stu.tp g) - (if off ≤ i ∧ i < off + p then Stu.tq c' g * g.getD (i - off) 0 else 0) from fun i => by
            rw [Stu.nxs_succ, ← hc', Stu.nx_at _ _ (by have := HP'.out; omega) (by have := HP'.out; have := HQ'.out; omega), show c'.length - g.length = off by have := HP'.out; have := HQ'.out; omega, HP'.out])
          have bm := fun k => bn_any bc fit.2 k
          rw [← hc'] at HR
          have zb := Stu.az_bd (BY.out q)
          have zp := Stu.az_pos TPZ.out
          rw [TPG.out] at zp
          have tb := bm t
          have BZ := Lib.hid (show ∀ k, -(M * Y) ≤ c'.getD k 0 * Stu.az (Stu.tp g) ∧ c'.getD k 0 * Stu.az (Stu.tp g) ≤ M * Y from fun k => Stu.prod_bd (bm k) (by rw [TPG.out]; omega))
          have BT := Lib.hid (show ∀ k, -(M * Y) ≤ Stu.tq c' g * g.getD k 0 ∧ Stu.tq c' g * g.getD k 0 ≤ M * Y from fun k => Stu.prod_bd (Stu.tq_bd fit.2 bc) (BY.out k))
          have K2 : M * Y * 2 ≤ 4000000000000000000 := fit.1
          have hM1 : M ≤ 4000000000000000000 := by
            have := Int.mul_le_mul_of_nonneg_left hY fit.2
            omega
          obtain ⟨cf, hcf⟩ : ∃ cf : Nat → Int, cf = fun i => c'.getD i 0 := ⟨_, rfl⟩
          obtain ⟨gf, hgf⟩ : ∃ gf : Nat → Int, gf = fun i => g.getD i 0 := ⟨_, rfl⟩
          have GF := Lib.hid (show ∀ i, g.getD i 0 = gf i from fun i => by rw [hgf])
          have CF : ∀ i, c'.getD i 0 = cf i := fun i => by rw [hcf]
          have hrr : (fun i => c'.getD i 0) = cf := hcf.symm
          rw [hrr] at HR
          have y1 := HR.out.cell t (by rw [Mx.len_row]; exact htn)
          rw [Mx.row_at _ _ _ htn] at y1
          obtain ⟨ad', e', _, y2⟩ := (HB.out.keep HK.out) q (by have := HP'.out; have := HQ'.out; omega)
          obtain rfl := Option.some.inj e'
          rw [GF.out] at y2
          have hqp : q < p := by have := HQ'.out; omega
          have TQ : Stu.tq c' g = if gf q < 0 then -(cf t) else cf t := by unfold Stu.tq; rw [TPG.out, hc0, GF.out, CF]
          have AZ : Stu.az (Stu.tp g) = if gf q < 0 then -(gf q) else gf q := by unfold Stu.az; rw [TPG.out, GF.out]
          have GQ : gf q ≠ 0 := by rw [← GF.out, ← TPG.out]; exact TPZ.out
          rw [GF.out] at zb zp
          rw [CF] at tb
          have bq := BY.out q
          rw [GF.out] at bq
          have NX' := Lib.hid (show ∀ i, (Stu.nxs (s + 1) (f.map (- ·)) g).getD i 0 = cf i * Stu.az (Stu.tp g) - (if off ≤ i ∧ i < off + p then Stu.tq c' g * gf (i - off) else 0) from fun i => by rw [NX.out, CF, GF.out])
          have BZ' := Lib.hid (show ∀ k, -(M * Y) ≤ cf k * Stu.az (Stu.tp g) ∧ cf k * Stu.az (Stu.tp g) ≤ M * Y from fun k => by rw [← CF]; exact BZ.out k)
          have BT' := Lib.hid (show ∀ k, -(M * Y) ≤ Stu.tq c' g * gf k ∧ Stu.tq c' g * gf k ≤ M * Y from fun k => by rw [← GF.out]; exact BT.out k)
          rw [TQ, AZ] at NX' 
          rw [AZ] at BZ'
          rw [TQ] at BT'
          have tj : (q : Int) ≤ (t : Int) := by omega
          generalize M * Y = MY at *
          clear NX BZ BT TQ AZ hcf hgf hrr hc' hc0 lc hM fit bc bm zb zp hj hoff NB NL e'
          obtain ⟨a, haa⟩ : ∃ a, a = cf t := ⟨_, rfl⟩
          obtain ⟨b, hbb⟩ : ∃ b, b = gf q := ⟨_, rfl⟩
          rw [← haa] at y1 tb NX' BT'
          rw [← hbb] at y2 GQ bq NX' BT' BZ'
          clear haa hbb
          by_cases hb0 : b < 0
          · rw [if_pos hb0, if_pos hb0] at NX'
            rw [if_pos hb0] at BT' BZ'
            obtain ⟨T, hT⟩ : ∃ T, T = -a := ⟨_, rfl⟩
            obtain ⟨Z, hZ⟩ : ∃ Z, Z = -b := ⟨_, rfl⟩
            have hw1 : IntKind.i64.wrap (-a) = T := by rw [hT]; exact IntWalk.i64_in _ (by omega)
            have hw2 : IntKind.i64.wrap (-b) = Z := by rw [hZ]; exact IntWalk.i64_in _ (by omega)
            rw [← hT] at NX' BT'
            rw [← hZ] at NX' BZ'
            have NX := NX'
            have BZ := BZ'
            have BT := BT'
            clear NX' BZ' BT' hT hZ GQ bq tb
            go_wp2_with fail
            go_quiet (fail)
            go_wp2_with fail
            go_loopw [58] (fun i wq => ∃ k : Nat, k ≤ n ∧ i = .int .i64 (k : Int) ∧ Row wq G (Mx.row n fun i => if i < k then cf i * Z else cf i) ∧ Kp w wq) (fun i _ => n - (intOf i).toNat)
            case atStart => exact ⟨0, Nat.zero_le _, rfl, by rw [show (Mx.row n fun i => if i < 0 then cf i * Z else cf i) = Mx.row n cf from Mx.row_ext fun i _ => by rw [if_neg (by omega)]]; exact HR.out.drewN _, HK.out.drewN _⟩
            case round =>
              obtain ⟨k, hk, rfl, hr2, hk2⟩ := hrel
              obtain ⟨wq, hwq⟩ : ∃ x, x = wr := ⟨_, rfl⟩
              subst hwq
              have HR2 := Lib.hid hr2
              have HK2 := Lib.hid hk2
              clear hr2 hk2
              by_cases hlt : k < n
              · have y1 := HR2.out.cell k (by rw [Mx.len_row]; exact hlt)
                rw [Mx.row_at _ _ _ hlt, if_neg (by omega)] at y1
                have y2 := HR2.out.free k
                have b1 := BZ.out k
                have hwm : IntKind.i64.wrap (cf k * Z) = cf k * Z := IntWalk.i64_in _ (by omega)
                have HP := Lib.hid (HR2.out.put k (cf k * Z))
                have HQ := Lib.hid (HK2.out.put (p := ⟨G, k, none⟩) HG.out (.int .i64 (cf k * Z)))
                clear b1
                go_wp2_with fail
                go_roundw
                case rel =>
                  refine ⟨k + 1, by omega, by go_num, ?_, HQ.out⟩
                  have := HP.out
                  rw [Mx.row_set] at this
                  rw [show (Mx.row n fun i => if i < k + 1 then cf i * Z else cf i) = Mx.row n fun i => if i = k then cf k * Z else if i < k then cf i * Z else cf i from Mx.row_ext fun i _ => by
                    by_cases e : i = k
                    · rw [if_pos e, if_pos (by omega), e]
                    · rw [if_neg e]
                      by_cases e2 : i < k
                      · rw [if_pos e2, if_pos (by omega)]
                      · rw [if_neg e2, if_neg (by omega)]]
                  exact this
                case measure => simp [intOf]; omega
              · obtain rfl : k = n := by omega
                have HR3 := Lib.hid (show Row wq G (Mx.row k fun i => cf i * Z) by
                  rw [show (Mx.row k fun i => cf i * Z) = Mx.row k fun i => if i < k then cf i * Z else cf i from Mx.row_ext fun i hi => by rw [if_pos hi]]
                  exact HR2.out)
                clear HR2 hlt
                go_wp2_with fail
                go_loopw [71] (fun i wz => ∃ m : Nat, m ≤ p ∧ i = .int .i64 (m : Int) ∧ Row wz G (Mx.row k fun i => cf i * Z - (if off ≤ i ∧ i < off + m then T * gf (i - off) else 0)) ∧ Kp w wz) (fun i _ => p - (intOf i).toNat)
                case atStart => exact ⟨0, Nat.zero_le _, rfl, by rw [show (Mx.row k fun i => cf i * Z - (if off ≤ i ∧ i < off + 0 then T * gf (i - off) else 0)) = Mx.row k fun i => cf i * Z from Mx.row_ext fun i _ => by rw [if_neg (by omega), Int.sub_zero]]; exact HR3.out, HK2.out⟩
                case round =>
                  obtain ⟨m, hm, rfl, hr4, hk4⟩ := hrel
                  have HR4 := Lib.hid hr4
                  have HK4 := Lib.hid hk4
                  clear hr4 hk4
                  by_cases hlm : m < p
                  · obtain ⟨ad', e', _, x1⟩ := (HB.out.keep HK4.out) m (by have := HP'.out; omega)
                    obtain rfl := Option.some.inj e'
                    rw [GF.out m] at x1
                    obtain ⟨u, hu⟩ : ∃ u : Nat, u = off + m := ⟨_, rfl⟩
                    have huk : u < k := by have := OFF.out; omega
                    have y1 := HR4.out.cell u (by rw [Mx.len_row]; exact huk)
                    rw [Mx.row_at _ _ _ huk, if_neg (by omega), Int.sub_zero] at y1
                    have y2 := HR4.out.free u
                    have b1 := BZ.out u
                    have b2 := BT.out m
                    have hw1 : IntKind.i64.wrap ((t : Int) - (q : Int)) = (off : Int) := by
                      have := OFF.out
                      rw [show (t : Int) - (q : Int) = (off : Int) by omega]; exact IntWalk.i64_in _ (by omega)
                    have hw2 : IntKind.i64.wrap ((off : Int) + (m : Int)) = (u : Int) := by
                      rw [show (off : Int) + (m : Int) = (u : Int) by omega]; exact IntWalk.i64_in _ (by omega)
                    have hw3 : IntKind.i64.wrap (T * gf m) = T * gf m := IntWalk.i64_in _ (by omega)
                    have hw4 : IntKind.i64.wrap (cf u * Z - T * gf m) = cf u * Z - T * gf m := IntWalk.i64_in _ (by omega)
                    have HP4 := Lib.hid (HR4.out.put u (cf u * Z - T * gf m))
                    have HQ4 := Lib.hid (HK4.out.put (p := ⟨G, u, none⟩) HG.out (.int .i64 (cf u * Z - T * gf m)))
                    have HU := Lib.hid hu
                    clear b1 b2 e' hu
                    go_wp2_with fail
                    go_roundw
                    case rel =>
                      refine ⟨m + 1, by omega, by go_num, ?_, HQ4.out⟩
                      have := HP4.out
                      rw [Mx.row_set] at this
                      rw [show (Mx.row k fun i => cf i * Z - (if off ≤ i ∧ i < off + (m + 1) then T * gf (i - off) else 0)) = Mx.row k fun i => if i = u then cf u * Z - T * gf m else cf i * Z - (if off ≤ i ∧ i < off + m then T * gf (i - off) else 0) from Mx.row_ext fun i _ => by
                        have hu := HU.out
                        by_cases e : i = u
                        · rw [if_pos e, if_pos (by omega), e, show u - off = m by omega]
                        · rw [if_neg e]
                          by_cases e2 : off ≤ i ∧ i < off + m
                          · rw [if_pos e2, if_pos (by omega)]
                          · rw [if_neg e2, if_neg (by omega)]]
                      exact this
                    case measure => simp [intOf]; omega
                  · obtain rfl : m = p := by omega
                    have hw5 : IntKind.i64.wrap ((t : Int) - 1) = (t : Int) - 1 := IntWalk.i64_in _ (by omega)
                    have HR5 := Lib.hid (show Row _ G (Mx.row k fun i => (Stu.nxs (s + 1) (f.map (- ·)) g).getD i 0) by
                      rw [show (Mx.row k fun i => (Stu.nxs (s + 1) (f.map (- ·)) g).getD i 0) = Mx.row k fun i => cf i * Z - (if off ≤ i ∧ i < off + m then T * gf (i - off) else 0) from Mx.row_ext fun i _ => NX.out i]
                      exact HR4.out)
                    clear HR4 HR3 hlm
                    go_wp2_with fail
                    go_roundw
                    case rel => exact ⟨s + 1, (t : Int) - 1, by have := SS.out; omega, by have := SS.out; omega, rfl, HR5.out, HK4.out⟩
                    case measure => simp [intOf]
          · have hb1 : ¬ b < 0 := hb0
            rw [if_neg hb0, if_neg hb0] at NX'
            rw [if_neg hb0] at BT' BZ'
            have NX := NX'
            have BZ := BZ'
            have BT := BT'
            clear NX' BZ' BT' GQ bq tb
            go_wp2_with fail
            go_quiet (fail)
            go_wp2_with fail
            go_loopw [58] (fun i wq => ∃ k : Nat, k ≤ n ∧ i = .int .i64 (k : Int) ∧ Row wq G (Mx.row n fun i => if i < k then cf i * b else cf i) ∧ Kp w wq) (fun i _ => n - (intOf i).toNat)
            case atStart => exact ⟨0, Nat.zero_le _, rfl, by rw [show (Mx.row n fun i => if i < 0 then cf i * b else cf i) = Mx.row n cf from Mx.row_ext fun i _ => by rw [if_neg (by omega)]]; exact HR.out.drewN _, HK.out.drewN _⟩
            case round =>
              obtain ⟨k, hk, rfl, hr2, hk2⟩ := hrel
              obtain ⟨wq, hwq⟩ : ∃ x, x = wr := ⟨_, rfl⟩
              subst hwq
              have HR2 := Lib.hid hr2
              have HK2 := Lib.hid hk2
              clear hr2 hk2
              by_cases hlt : k < n
              · have y1 := HR2.out.cell k (by rw [Mx.len_row]; exact hlt)
                rw [Mx.row_at _ _ _ hlt, if_neg (by omega)] at y1
                have y2 := HR2.out.free k
                have b1 := BZ.out k
                have hwm : IntKind.i64.wrap (cf k * b) = cf k * b := IntWalk.i64_in _ (by omega)
                have HP := Lib.hid (HR2.out.put k (cf k * b))
                have HQ := Lib.hid (HK2.out.put (p := ⟨G, k, none⟩) HG.out (.int .i64 (cf k * b)))
                clear b1
                go_wp2_with fail
                go_roundw
                case rel =>
                  refine ⟨k + 1, by omega, by go_num, ?_, HQ.out⟩
                  have := HP.out
                  rw [Mx.row_set] at this
                  rw [show (Mx.row n fun i => if i < k + 1 then cf i * b else cf i) = Mx.row n fun i => if i = k then cf k * b else if i < k then cf i * b else cf i from Mx.row_ext fun i _ => by
                    by_cases e : i = k
                    · rw [if_pos e, if_pos (by omega), e]
                    · rw [if_neg e]
                      by_cases e2 : i < k
                      · rw [if_pos e2, if_pos (by omega)]
                      · rw [if_neg e2, if_neg (by omega)]]
                  exact this
                case measure => simp [intOf]; omega
              · obtain rfl : k = n := by omega
                have HR3 := Lib.hid (show Row wq G (Mx.row k fun i => cf i * b) by
                  rw [show (Mx.row k fun i => cf i * b) = Mx.row k fun i => if i < k then cf i * b else cf i from Mx.row_ext fun i hi => by rw [if_pos hi]]
                  exact HR2.out)
                clear HR2 hlt
                go_wp2_with fail
                go_loopw [71] (fun i wz => ∃ m : Nat, m ≤ p ∧ i = .int .i64 (m : Int) ∧ Row wz G (Mx.row k fun i => cf i * b - (if off ≤ i ∧ i < off + m then a * gf (i - off) else 0)) ∧ Kp w wz) (fun i _ => p - (intOf i).toNat)
                case atStart => exact ⟨0, Nat.zero_le _, rfl, by rw [show (Mx.row k fun i => cf i * b - (if off ≤ i ∧ i < off + 0 then a * gf (i - off) else 0)) = Mx.row k fun i => cf i * b from Mx.row_ext fun i _ => by rw [if_neg (by omega), Int.sub_zero]]; exact HR3.out, HK2.out⟩
                case round =>
                  obtain ⟨m, hm, rfl, hr4, hk4⟩ := hrel
                  have HR4 := Lib.hid hr4
                  have HK4 := Lib.hid hk4
                  clear hr4 hk4
                  by_cases hlm : m < p
                  · obtain ⟨ad', e', _, x1⟩ := (HB.out.keep HK4.out) m (by have := HP'.out; omega)
                    obtain rfl := Option.some.inj e'
                    rw [GF.out m] at x1
                    obtain ⟨u, hu⟩ : ∃ u : Nat, u = off + m := ⟨_, rfl⟩
                    have huk : u < k := by have := OFF.out; omega
                    have y1 := HR4.out.cell u (by rw [Mx.len_row]; exact huk)
                    rw [Mx.row_at _ _ _ huk, if_neg (by omega), Int.sub_zero] at y1
                    have y2 := HR4.out.free u
                    have b1 := BZ.out u
                    have b2 := BT.out m
                    have hw1 : IntKind.i64.wrap ((t : Int) - (q : Int)) = (off : Int) := by
                      have := OFF.out
                      rw [show (t : Int) - (q : Int) = (off : Int) by omega]; exact IntWalk.i64_in _ (by omega)
                    have hw2 : IntKind.i64.wrap ((off : Int) + (m : Int)) = (u : Int) := by
                      rw [show (off : Int) + (m : Int) = (u : Int) by omega]; exact IntWalk.i64_in _ (by omega)
                    have hw3 : IntKind.i64.wrap (a * gf m) = a * gf m := IntWalk.i64_in _ (by omega)
                    have hw4 : IntKind.i64.wrap (cf u * b - a * gf m) = cf u * b - a * gf m := IntWalk.i64_in _ (by omega)
                    have HP4 := Lib.hid (HR4.out.put u (cf u * b - a * gf m))
                    have HQ4 := Lib.hid (HK4.out.put (p := ⟨G, u, none⟩) HG.out (.int .i64 (cf u * b - a * gf m)))
                    have HU := Lib.hid hu
                    clear b1 b2 e' hu
                    go_wp2_with fail
                    go_roundw
                    case rel =>
                      refine ⟨m + 1, by omega, by go_num, ?_, HQ4.out⟩
                      have := HP4.out
                      rw [Mx.row_set] at this
                      rw [show (Mx.row k fun i => cf i * b - (if off ≤ i ∧ i < off + (m + 1) then a * gf (i - off) else 0)) = Mx.row k fun i => if i = u then cf u * b - a * gf m else cf i * b - (if off ≤ i ∧ i < off + m then a * gf (i - off) else 0) from Mx.row_ext fun i _ => by
                        have hu := HU.out
                        by_cases e : i = u
                        · rw [if_pos e, if_pos (by omega), e, show u - off = m by omega]
                        · rw [if_neg e]
                          by_cases e2 : off ≤ i ∧ i < off + m
                          · rw [if_pos e2, if_pos (by omega)]
                          · rw [if_neg e2, if_neg (by omega)]]
                      exact this
                    case measure => simp [intOf]; omega
                  · obtain rfl : m = p := by omega
                    have hw5 : IntKind.i64.wrap ((t : Int) - 1) = (t : Int) - 1 := IntWalk.i64_in _ (by omega)
                    have HR5 := Lib.hid (show Row _ G (Mx.row k fun i => (Stu.nxs (s + 1) (f.map (- ·)) g).getD i 0) by
                      rw [show (Mx.row k fun i => (Stu.nxs (s + 1) (f.map (- ·)) g).getD i 0) = Mx.row k fun i => cf i * b - (if off ≤ i ∧ i < off + m then a * gf (i - off) else 0) from Mx.row_ext fun i _ => NX.out i]
                      exact HR4.out)
                    clear HR4 HR3 hlm
                    go_wp2_with fail
                    go_roundw
                    case rel => exact ⟨s + 1, (t : Int) - 1, by have := SS.out; omega, by have := SS.out; omega, rfl, HR5.out, HK4.out⟩
                    case measure => simp [intOf]
        · have hsS : s = S := by omega
          have TM := Lib.hid (show Stu.tm (Mx.row n fun i => (Stu.nxs s (f.map (- ·)) g).getD i 0) = Stu.nr f g by
            rw [NR.out, ← hsS]
            rw [show (Mx.row n fun i => (Stu.nxs s (f.map (- ·)) g).getD i 0) = _ from Stu.row_more _ n (by rw [NL.out, LF.out]; omega)]
            exact Stu.tm_more _ _)
          obtain ⟨R, hR⟩ : ∃ R, R = Mx.row n fun i => (Stu.nxs s (f.map (- ·)) g).getD i 0 := ⟨_, rfl⟩
          rw [← hR] at TM HR
          have LR := Lib.hid (show R.length = n by rw [hR, Mx.len_row])
          have tj : ¬ (q : Int) ≤ j := by have := HS.out; have := HQ'.out; omega
          clear hR hj hsS hlt NR NB NL
          go_wp2_with fail
          go_loop [5] (fun v => ∃ m : Nat, m ≤ n ∧ v = .slice (some ⟨G, 0, none⟩) m n ∧ Stu.tm (R.take m) = Stu.tm R) (fun v => lenOf v)
          case atStart => exact ⟨n, Nat.le_refl _, rfl, by rw [List.take_of_length_le (by rw [LR.out]; exact Nat.le_refl _)]⟩
          case round =>
            obtain ⟨m, hm, rfl, ht⟩ := hrel
            have HT := Lib.hid ht
            clear ht
            have FIN : ∀ m, m ≤ n → Stu.tm R = R.take m → ∃ A' c', Ending.returned (Value.slice (some ⟨G, 0, none⟩) m n) = .returned (.slice A' (Stu.nr f g).length c') ∧ (Stu.nr f g).length ≤ c' ∧ Lies wo A' (Stu.nr f g) ∧ (∀ ad, A' = some ad → w.heap.size ≤ ad.block) ∧ Kp w wo := fun m hm e => by
              have e2 : Stu.nr f g = R.take m := TM.out.symm.trans e
              have e3 : (Stu.nr f g).length = m := by rw [e2, List.length_take, LR.out]; omega
              exact ⟨_, n, by rw [e3], by omega, by rw [e2]; exact HR.out.lies.take m, fun ad ea => by cases ea; exact HG.out, HK.out⟩
            have FIN' := Lib.hid FIN
            clear FIN
            cases m with
            | zero =>
              have E := Lib.hid (show Stu.tm R = R.take 0 by rw [← HT.out]; rfl)
              go_wp2_with fail
              go_ret
              exact FIN'.out 0 (Nat.zero_le _) E.out
            | succ m =>
              have hmn : m < n := by omega
              have y1 := HR.out.cell m (by rw [LR.out]; exact hmn)
              have TK := Lib.hid (Stu.tm_take (l := R) (k := m) (by rw [LR.out]; exact hmn))
              obtain ⟨z, hz⟩ : ∃ z, z = R.getD m 0 := ⟨_, rfl⟩
              rw [← hz] at y1 TK
              clear hz
              by_cases h0 : z = 0
              · subst h0
                have ST := Lib.hid (show Stu.tm (R.take m) = Stu.tm R by rw [← HT.out, TK.out, Stu.tm_zero])
                go_wp2_with fail
                go_round
                case rel => exact ⟨m, by omega, rfl, ST.out⟩
                case measure => simp [lenOf]
              · have e0 : (z == 0) = false := by rw [beq_eq_false_iff_ne]; exact h0
                have E := Lib.hid (show Stu.tm R = R.take (m + 1) by rw [← HT.out, TK.out, Stu.tm_not _ h0])
                clear h0
                go_wp2_with fail
                go_ret
                exact FIN'.out (m + 1) hm E.out

end Go.Proofs.Ytbdpcpodmmhjaaa

/- A row of heads of the call's own, whatever they point to: append of one, and the matrix that lies. For all packages. -/
namespace Go.Proofs.Ytbdpcpodmmhjaaa
open Go.ChangeShapes Go.WideShapes Go.ChangeAt Go.RowKit
set_option linter.unusedVariables false

/-- The slice value v is the call's own and holds k heads. -/
def HdsV (w : World) (B : Nat) (v : Value) (k : Nat) (H : Nat → Value) : Prop := w.ownsRow B 22 1 v k ((List.range k).map H)
theorem hdsV_none (w : World) (B : Nat) (H : Nat → Value) : HdsV w B (.slice none 0 0) 0 H := World.ownsRow_nil _ _ _ _
theorem HdsV.kp {w w' : World} {B k : Nat} {v : Value} {H : Nat → Value} (h : HdsV w B v k H) (hk : Kp w w') : HdsV w' B v k H := ownsRow_kp h hk
theorem HdsV.new {w : World} {B k : Nat} {v : Value} {H : Nat → Value} (h : HdsV w B v k H) (o : Obj) : HdsV (w.alloc o) B v k H := h.kp ((Kp.rfl' w).new o)
/-- Where they lie, and what lies beneath. -/
theorem HdsV.form {w : World} {B k : Nat} {v : Value} {H : Nat → Value} (h : HdsV w B v k H) : ∃ A c, v = .slice A k c ∧ k ≤ c ∧ ∀ i, i < k → ∃ ad, A = some ad ∧ ad.block < w.heap.size ∧ w.cell? (ad.add i) = some (H i) := by
  rcases h.2 with ⟨rfl, h0⟩ | ⟨g, cap, cur, hv, hg, hh, hc, hm, hs, ht⟩
  · obtain rfl : k = 0 := h0
    exact ⟨Option.none, 0, rfl, Nat.le_refl _, fun i hi => absurd hi (by omega)⟩
  · refine ⟨_, cap, hv, hc, fun i hi => ⟨_, rfl, ?_, ?_⟩⟩
    · rcases Nat.lt_or_ge g w.heap.size with h' | h'
      · exact h'
      · rw [Array.getElem?_eq_none h'] at hh; cases hh
    · have ht' : cur.toList.take k = (List.range k).map H := by simpa using ht
      rw [add_at, cell_of_row _ _ i _ _ (0, 0) hh, ← Array.getElem?_toList, ← List.getElem?_take_of_lt hi, ht']
      simp [hi]
theorem HdsV.lies {w : World} {B k : Nat} {v : Value} {H : Nat → Value} {m : List (List Int)} (h : HdsV w B v k H) (hm : m.length = k) (hr : ∀ i, i < k → ∃ A' c, H i = .slice A' (m.getD i []).length c ∧ (m.getD i []).length ≤ c ∧ Lies w A' (m.getD i [])) : ∃ A c, v = .slice A k c ∧ k ≤ c ∧ LiesM w A m := by
  obtain ⟨A, c, hv, hc, hx⟩ := h.form
  refine ⟨A, c, hv, hc, fun i hi => ?_⟩
  obtain ⟨ad, e, hl, hcell⟩ := hx i (by omega)
  obtain ⟨A', c', e2, h2, h3⟩ := hr i (by omega)
  exact ⟨ad, A', c', e, hl, by rw [hcell, e2], h2, h3⟩

section
variable {ops : Array Oper} {rest : List Oper} {o : Oper} {a : Act} {w : World} {K : Act → World → Prop} {Q : Exit → Act → World → Prop}
/-- out = append(out, head). -/
theorem wpList_pushV (hgd : o.guard = Option.none) (s x : Operand) (ho : o.op = .call { callee := .builtin .append, args := #[s, x], argTypes := #[37, 37] })
    (B : Nat) (v : Value) (k : Nat) (H : Nat → Value) (u : Value) (gb cb : Nat) (hs : a.eval s = v) (hx : a.eval x = .slice (some ⟨gb, 0, none⟩) 1 cb) (hown : HdsV w B v k H)
    (hcell : w.cell? ⟨gb, 0, none⟩ = some u) (hu : u.oneCell' = true) (hlen : k + 1 ≤ 1000000) (hB : B ≤ w.heap.size)
    (h : ∀ v' w', HdsV w' B v' (k + 1) (fun i => if i = k then u else H i) → (∀ w0 : World, w0.heap.size ≤ B → Kp w0 w → Kp w0 w') → wpList Try.prog ops Q rest (a.put o.dst v') w') : wpList Try.prog ops Q (o :: rest) a w := by
  obtain ⟨i0, hi, hz0, hz1, hz2⟩ := info_parts ints_info
  obtain ⟨v', w', hrun, h1, h2, _, h3⟩ := run_append_own_at (P := Try.prog) w B 37 o.type 22 i0 (.slice Option.none 0 0) 1 24 Try.underlying37 hi hz0 hz1 hz2 rfl (by decide) v k ((List.range k).map H) hown ⟨gb, 0, Option.none⟩ 1 cb [u] rfl
    (fun j u' hj => by
      match j, hj with
      | 0, hj => simp at hj; subst hj; rw [add_at]; exact hcell) (fun u' hu' => by simp at hu'; subst hu'; exact hu) (by unfold maxLen; omega) (by omega) hB
  refine wpList_plain hgd fun _ hK => ?_
  unfold Oper.wp execOp
  simp only [ho, resolve, invoke, builtin, Sem.run_bind, Sem.run_pure, Result.andThen_ok, List.map_toArray, List.map_cons, List.map_nil, hs, hx, hrun]
  refine hK _ _ (h v' w' ?_ fun w0 hw0 hk0 => Below.grown hk0 h2 hk0.size fun k hk => Nat.le_trans hw0 (World.ownsRow.lt hown k hk).1)
  have e1 : (List.range k).map (fun i => if i = k then u else H i) = (List.range k).map H := List.map_congr_left fun i hi => by
    have := List.mem_range.1 hi
    rw [if_neg (by omega)]
  have e2 : (List.range (k + 1)).map (fun i => if i = k then u else H i) = (List.range k).map H ++ [u] := by
    rw [List.range_succ, List.map_append, e1, List.map_singleton, if_pos rfl]
  unfold HdsV
  rw [e2]
  exact h1
end

end Go.Proofs.Ytbdpcpodmmhjaaa

/- Contracts of package sturm: turnsAfter, chain. -/
namespace Go.Proofs.Ytbdpcpodmmhjaaa
open Go.ChangeShapes Go.WideShapes Go.ChangeAt Go.RowKit
set_option linter.unusedVariables false

set_option maxHeartbeats 1600000 in
theorem uta_any (A : Option Addr) (C : List (List Int)) (n c : Nat) (x : Int) (w : World) (hl : LiesM w A C) (hn : C.length = n) (n10 : n ≤ 10) (sz : ∀ g ∈ C, Stu.Sz g) (hx : -100 ≤ x ∧ x ≤ 100) :
    Calls Try.prog 22 #[.slice A n c, .int .i64 x] w fun e w' => e = .returned (.int .i64 ((Stu.va C x : Nat) : Int)) ∧ Kp w w' := by
  obtain ⟨af, haf⟩ : ∃ af : List Int → Int, af = fun g => Stu.aft g.length g x := ⟨_, rfl⟩
  have HL := Lib.hid hl
  have HN := Lib.hid hn
  have AFT := Lib.hid (fun (A' : Option Addr) (l : List Int) (m c' : Nat) (w' : World) (h1 : Lies w' A' l) (h2 : l.length = m) (h3 : m ≤ c') (h4 : l ∈ C) => by
    have := uaft_any A' l m c' x w' h1 h2 h3 (sz l h4) hx
    rw [show Stu.aft l.length l x = af l by rw [haf]] at this
    exact this)
  have VA := Lib.hid (show Stu.trn (C.map af) = Stu.va C x by
    unfold Stu.trn Stu.va
    rw [List.map_map, haf]; rfl)
  have TN := Lib.hid (fun (A' : Option Addr) (l : List Int) (c' : Nat) (w' : World) (h1 : Lies w' A' l) (h2 : l.length = n) => uturns_any A' l n c' w' h1 h2 (by omega))
  generalize Stu.va C x = V at *
  clear hl hn haf sz hx
  go_enter Try.func22, Try.ntmps22
  go_wp2_with fail
  go_loopw [5, 10] (fun v j wr => ∃ k : Nat, k ≤ n ∧ j = .int .i64 (k : Int) ∧ Own wr w.heap.size v ((C.take k).map af) ∧ Kp w wr) (fun _ j _ => n - (intOf j).toNat)
  case atStart => exact ⟨0, Nat.zero_le _, rfl, Own.none _ _, Kp.rfl' _⟩
  case round =>
    obtain ⟨k, hk, rfl, ho, hkp⟩ := hrel
    have HO := Lib.hid ho
    have HK := Lib.hid hkp
    clear ho hkp
    by_cases hlt : k < n
    · obtain ⟨ad, A', c', rfl, _, x1, hc', hl'⟩ := (HL.out.keep HK.out) k (by have := HN.out; omega)
      have hkC : k < C.length := by have := HN.out; omega
      have mem : C.getD k [] ∈ C := by
        rw [List.getD_eq_getElem?_getD, List.getElem?_eq_getElem hkC]; exact List.getElem_mem hkC
      have TK := Lib.hid (show (C.take (k + 1)).map af = (C.take k).map af ++ [af (C.getD k [])] by
        rw [List.take_add_one, List.getD_eq_getElem?_getD, List.getElem?_eq_getElem hkC, List.map_append]; rfl)
      have AF := Lib.hid (AFT.out A' (C.getD k []) _ c' wr hl' rfl hc' mem)
      have hlen : ((C.take k).map af).length + 1 ≤ 17000000000000 := by rw [List.length_map, List.length_take]; omega
      generalize C.getD k [] = g at *
      generalize af g = z at *
      clear hl' mem hc'
      go_wp2_with fail
      refine (AF.out).mono ?_; rintro e w2 ⟨rfl, k2⟩
      have HO2 := Lib.hid (HO.out.kp k2)
      have HK2 := Lib.hid (HK.out.trans k2)
      have HSZ := HK2.out.size
      clear k2
      go_wp2_with (at_builtin; refine wpList_push rfl _ _ rfl w.heap.size _ ((C.take k).map af) z w2.heap.size 1 rfl rfl (HO2.out.new _) (cell_made _ _ _ _ 0 rfl) hlen (Nat.le_trans HSZ ((Kp.rfl' _).new _).size) ?_; intro v' w' h1 h2 _; have HO' := Lib.hid h1; have HK' := Lib.hid (show Kp w w' from own_below (HO2.out.new _) (HK2.out.new _) (Nat.le_trans HSZ ((Kp.rfl' _).new _).size) h2); clear h1 h2)
      go_roundw
      case rel => exact ⟨k + 1, by omega, by go_num, by rw [TK.out]; exact HO'.out, HK'.out⟩
      case measure => simp [intOf]; omega
    · obtain rfl : k = n := by omega
      obtain ⟨A', c', rfl, l', _⟩ := HO.out.cap
      have LM := Lib.hid (show ((C.take k).map af).length = k by rw [List.length_map, List.length_take, HN.out]; omega)
      have VT := Lib.hid (show Stu.trn ((C.take k).map af) = V by rw [← VA.out, List.take_of_length_le (by rw [HN.out]; exact Nat.le_refl _)])
      rw [LM.out]
      have T := Lib.hid (TN.out A' ((C.take k).map af) c' wr l' LM.out)
      rw [VT.out] at T
      clear HO l'
      go_wp2_with fail
      refine (T.out).mono ?_; rintro e w2 ⟨rfl, rfl⟩
      go_wp2_with fail
      go_ret
      exact ⟨rfl, HK.out⟩

/-- Numbers that lie apart from what the slice v owns. -/
def Off (w : World) (v : Value) (A : Option Addr) (l : List Int) : Prop := ∀ k, k < l.length → ∃ ad, A = some ad ∧ ad.block < w.heap.size ∧ v.ownBlock ≠ some ad.block ∧ w.cell? (ad.add k) = some (.int .i64 (l.getD k 0))
theorem cell_of_heap {w w' : World} {p : Addr} (h : w'.heap[p.block]? = w.heap[p.block]?) : w'.cell? p = w.cell? p := by
  unfold World.cell?; rw [h]
section
variable {w w' : World} {v v' : Value} {A : Option Addr} {l : List Int}
theorem Off.lies (h : Off w v A l) : Lies w A l := fun k hk => by
  obtain ⟨ad, e, a, _, c⟩ := h k hk
  exact ⟨ad, e, a, c⟩
theorem Off.keep (h : Off w v A l) (hk : Kp w w') : Off w' v A l := fun k hk' => by
  obtain ⟨ad, e, a, b, c⟩ := h k hk'
  exact ⟨ad, e, Nat.lt_of_lt_of_le a hk.size, b, (hk.cell (p := ad.add k) (by rw [block_add]; omega)).trans c⟩
theorem Off.push (h : Off w v A l) (hg : w.grownBy w' v.ownBlock) (ha : At w v v') : Off w' v' A l := fun k hk => by
  obtain ⟨ad, e, a, b, c⟩ := h k hk
  have hb := hg.block ad.block a (fun e => b e.symm)
  refine ⟨ad, e, Nat.lt_of_lt_of_le a hg.size, ?_, ?_⟩
  · rcases ha with ha | ha
    · rw [ha]; exact b
    · rw [ha]; intro e'; injection e' with e'; omega
  · rw [cell_of_heap (w := w) (by rw [block_add]; exact hb)]; exact c
theorem Off.of {g : Nat} (h : Lies w A l) (hv : v.ownBlock = some g) (ho : ∀ ad, A = some ad → ad.block ≠ g) : Off w v A l := fun k hk => by
  obtain ⟨ad, e, a, c⟩ := h k hk
  exact ⟨ad, e, a, by rw [hv]; intro e'; injection e' with e'; exact ho ad e e'.symm, c⟩
end
/-- Rows that lie beneath a row of heads of the call's own. -/
structure Rows (w : World) (B : Nat) (v : Value) (C : List (List Int)) : Prop where
  top : ∃ H : Nat → Value, HdsV w B v C.length H ∧ ∀ i, i < C.length → ∃ A c, H i = .slice A (C.getD i []).length c ∧ (C.getD i []).length ≤ c ∧ Off w v A (C.getD i [])
theorem Rows.keep {w w' : World} {B : Nat} {v : Value} {C : List (List Int)} (h : Rows w B v C) (hk : Kp w w') : Rows w' B v C := by
  obtain ⟨H, h1, h2⟩ := h.top
  refine ⟨H, h1.kp hk, fun i hi => ?_⟩
  obtain ⟨A, c, e, hc, ho⟩ := h2 i hi
  exact ⟨A, c, e, hc, ho.keep hk⟩
theorem Rows.lies {w : World} {B : Nat} {v : Value} {C : List (List Int)} (h : Rows w B v C) : ∃ A c, v = .slice A C.length c ∧ C.length ≤ c ∧ LiesM w A C := by
  obtain ⟨H, h1, h2⟩ := h.top
  exact h1.lies rfl fun i hi => by
    obtain ⟨A, c, e, hc, ho⟩ := h2 i hi
    exact ⟨A, c, e, hc, ho.lies⟩
theorem rows_lit {w w1 : World} {A : Option Addr} {l : List Int} {n c : Nat} (hl : Lies w A l) (hn : l.length = n) (hc : n ≤ c) (e : w1 = w.alloc (.cells #[.slice A n c] 22)) :
    Rows w1 w.heap.size (.slice (some ⟨w.heap.size, 0, none⟩) 1 1) [l] ∧ Off w1 (.slice (some ⟨w.heap.size, 0, none⟩) 1 1) A l ∧ Kp w w1 := by
  subst e
  have k : Kp w (w.alloc (.cells #[.slice A n c] 22)) := (Kp.rfl' w).new _
  have off : Off (w.alloc (.cells #[.slice A n c] 22)) (.slice (some ⟨w.heap.size, 0, none⟩) 1 1) A l := fun i hi => by
    obtain ⟨ad, e, a, c'⟩ := hl i hi
    obtain ⟨ad', e2, a2, c2⟩ := (hl.keep k) i hi
    rw [e] at e2
    obtain rfl := Option.some.inj e2
    exact ⟨ad, e, a2, fun e' => by have e' : some w.heap.size = some ad.block := e'; injection e' with e'; omega, c2⟩
  refine ⟨⟨fun _ => .slice A n c, ?_, fun i hi => ?_⟩, off, k⟩
  · exact ⟨by simp, .inr ⟨w.heap.size, 1, _, rfl, Nat.le_refl _, heap_alloc_new w _, Nat.le_refl _, by unfold maxLen; omega, by simp, by simp⟩⟩
  · have : i = 0 := by simpa using hi
    subst this
    exact ⟨A, c, by show Value.slice A n c = .slice A l.length c; rw [hn], by show l.length ≤ c; omega, off⟩

section
variable {ops : Array Oper} {rest : List Oper} {o : Oper} {a : Act} {w : World} {K : Act → World → Prop} {Q : Exit → Act → World → Prop}
/-- out = append(out, row). -/
theorem wpList_pushR (hgd : o.guard = Option.none) (s x : Operand) (ho : o.op = .call { callee := .builtin .append, args := #[s, x], argTypes := #[37, 37] })
    (B : Nat) (v : Value) (C : List (List Int)) (A : Option Addr) (l : List Int) (n c gb cb : Nat) (hn : l.length = n) (hc : n ≤ c) (hs : a.eval s = v) (hx : a.eval x = .slice (some ⟨gb, 0, none⟩) 1 cb) (hown : Rows w B v C)
    (hcell : w.cell? ⟨gb, 0, none⟩ = some (.slice A n c)) (hoff : Off w v A l) (hlen : C.length + 1 ≤ 1000000) (hB : B ≤ w.heap.size)
    (h : ∀ v' w', Rows w' B v' (C ++ [l]) → w.grownBy w' v.ownBlock → At w v v' → (∀ w0 : World, w0.heap.size ≤ B → Kp w0 w → Kp w0 w') → wpList Try.prog ops Q rest (a.put o.dst v') w') : wpList Try.prog ops Q (o :: rest) a w := by
  obtain ⟨i0, hi, hz0, hz1, hz2⟩ := info_parts ints_info
  obtain ⟨H, ht, hr⟩ := hown.top
  obtain ⟨v', w', hrun, h1, h2, _, h3⟩ := run_append_own_at (P := Try.prog) w B 37 o.type 22 i0 (.slice Option.none 0 0) 1 24 Try.underlying37 hi hz0 hz1 hz2 rfl (by decide) v C.length ((List.range C.length).map H) ht ⟨gb, 0, Option.none⟩ 1 cb [.slice A n c] rfl
    (fun j u' hj => by
      match j, hj with
      | 0, hj => simp at hj; subst hj; rw [add_at]; exact hcell) (fun u' hu' => by simp at hu'; subst hu'; rfl) (by unfold maxLen; omega) (by omega) hB
  refine wpList_plain hgd fun _ hK => ?_
  unfold Oper.wp execOp
  simp only [ho, resolve, invoke, builtin, Sem.run_bind, Sem.run_pure, Result.andThen_ok, List.map_toArray, List.map_cons, List.map_nil, hs, hx, hrun]
  refine hK _ _ (h v' w' ⟨fun i => if i = C.length then .slice A n c else H i, ?_, fun i hi => ?_⟩ h2 h3 fun w0 hw0 hk0 => Below.grown hk0 h2 hk0.size fun k hk => Nat.le_trans hw0 (World.ownsRow.lt ht k hk).1)
  · have e1 : (List.range C.length).map (fun i => if i = C.length then Value.slice A n c else H i) = (List.range C.length).map H := List.map_congr_left fun i hi => by
      have := List.mem_range.1 hi
      rw [if_neg (by omega)]
    have e2 : (List.range (C.length + 1)).map (fun i => if i = C.length then Value.slice A n c else H i) = (List.range C.length).map H ++ [.slice A n c] := by
      rw [List.range_succ, List.map_append, e1, List.map_singleton, if_pos rfl]
    rw [List.length_append, List.length_singleton]
    unfold HdsV
    rw [e2]
    exact h1
  · rw [List.length_append, List.length_singleton] at hi
    by_cases e : i = C.length
    · subst e
      rw [show (C ++ [l]).getD C.length [] = l by simp]
      exact ⟨A, c, by show (if C.length = C.length then Value.slice A n c else H C.length) = _; rw [if_pos rfl, hn], by omega, hoff.push h2 h3⟩
    · have hi' : i < C.length := by omega
      rw [show (C ++ [l]).getD i [] = C.getD i [] by
        rw [List.getD_eq_getElem?_getD, List.getD_eq_getElem?_getD, List.getElem?_append_left hi']]
      obtain ⟨A', c', e', hc', ho'⟩ := hr i hi'
      exact ⟨A', c', by show (if i = C.length then Value.slice A n c else H i) = _; rw [if_neg e]; exact e', hc', ho'.push h2 h3⟩
end
theorem Rows.own {w : World} {B : Nat} {v : Value} {C : List (List Int)} (h : Rows w B v C) (h0 : C ≠ []) : ∃ g, v.ownBlock = some g ∧ B ≤ g ∧ g < w.heap.size := by
  obtain ⟨H, h1, h2⟩ := h.top
  have hp := List.length_pos_iff.2 h0
  rcases h1.2 with ⟨_, h3⟩ | ⟨g, cap, cur, e, _⟩
  · have h3 : C.length = 0 := h3
    omega
  · exact ⟨g, by rw [e]; rfl, World.ownsRow.lt h1 g (by rw [e]; rfl)⟩

/-- Where the loop stands: the rows so far, the last two, and what is still to come. -/
structure Cha (L : List Int) (w0 : World) (v : Value) (A1 A2 : Option Addr) (a b : List Int) (c1 c2 : Nat) (w : World) : Prop where
  ex : ∃ (D : List (List Int)) (j : Nat), Rows w w0.heap.size v D ∧ D ≠ [] ∧ b.length ≤ j ∧ D ++ (if b = [] then [] else b :: Stu.ptl j a b) = Stu.pch L
  o1 : Off w v A1 a
  o2 : Off w v A2 b
  l1 : a.length ≤ c1
  l2 : b.length ≤ c2
  goo : b ≠ [] → Stu.Goo a b ∧ Stu.Tp b
  kp : Kp w0 w
theorem pch_start (l : List Int) : [l] ++ (if Stu.slp l = [] then [] else Stu.slp l :: Stu.ptl 8 l (Stu.slp l)) = Stu.pch l := by
  unfold Stu.pch; split <;> rfl

end Go.Proofs.Ytbdpcpodmmhjaaa

/- Contracts of package euclid: Gcd and Bezout within and outside of their bounds. -/
namespace Go.Proofs.Ytbdpcpodmmhjaaa
open Go.ChangeShapes Go.WideShapes Go.ChangeAt Go.RowKit
set_option linter.unusedVariables false

/-- The error that the program gives for a number out of its range. -/
abbrev errRange : Value := .iface 39 (.int .i64 1)

end Go.Proofs.Ytbdpcpodmmhjaaa

/- Contracts of package sturm: chain, Count, All, Turns, Content. -/
namespace Go.Proofs.Ytbdpcpodmmhjaaa
open Go.ChangeShapes Go.WideShapes Go.ChangeAt Go.RowKit
set_option linter.unusedVariables false

set_option maxRecDepth 100000 in
set_option maxHeartbeats 3200000 in
theorem uchain_any (A : Option Addr) (L : List Int) (n c : Nat) (w : World) (ha : Lies w A L) (s : Whl n L) (hc : n ≤ c) :
    Calls Try.prog 21 #[.slice A n c] w fun e w' => ∃ A' c', e = .returned (.slice A' (Stu.pch L).length c') ∧ LiesM w' A' (Stu.pch L) ∧ Kp w w' := by
  have hn := s.len
  have n0 := s.n0
  have n4 := s.n4
  have SZ := Lib.hid (Stu.pch_sz s.ne (by omega) s.tp s.bn)
  have szL : Stu.Sz L := Stu.pch_sz s.ne (by omega) s.tp s.bn L (by unfold Stu.pch; split <;> simp)
  obtain ⟨w1, hw1⟩ : ∃ x, x = w.alloc (.cells #[.slice A n c] 22) := ⟨_, rfl⟩
  obtain ⟨rows1, off1, k1⟩ := rows_lit ha hn hc hw1
  have DER := Lib.hid (uder_any A L n c w1 (ha.keep k1) hn n0 hc szL)
  have OWN1 := rows1.own (by simp)
  have HST := Lib.hid (show ∀ (w2 : World) (v : Value) (A2 : Option Addr) (c2 : Nat), v = .slice A2 (Stu.slp L).length c2 → Own w2 w1.heap.size v (Stu.slp L) → (Stu.slp L).length ≤ c2 → Kp w1 w2 → Cha L w (.slice (some ⟨w.heap.size, 0, none⟩) 1 1) A A2 L (Stu.slp L) c c2 w2 from fun w2 v A2 c2 e ho hl2 k2 => by
    refine ⟨⟨[L], 8, rows1.keep k2, by simp, by rw [Stu.slp_len]; omega, pch_start L⟩, off1.keep k2, ?_, by omega, hl2, fun hne => ?_, k1.trans k2⟩
    · intro k hk
      obtain ⟨A', c', e', l'⟩ := ho.lies
      obtain ⟨g, c'', e'', hB, _⟩ := own_some ho (by omega)
      rw [e] at e' e''
      cases e'
      cases e''
      obtain ⟨ad, ea, hlt, hcell⟩ := l' k hk
      refine ⟨ad, ea, hlt, ?_, hcell⟩
      cases ea
      intro e3
      have e3 : some w.heap.size = some g := e3
      injection e3 with e3
      have : w1.heap.size = w.heap.size + 1 := by rw [hw1]; simp
      omega
    · have h2 : 2 ≤ L.length := by
        have := List.length_pos_iff.2 hne
        rw [Stu.slp_len] at this; omega
      exact ⟨(Stu.row_goo h2 (by omega) s.tp s.bn).2.2, (Stu.slp_tp h2 s.tp).1⟩)
  have HW := Lib.hid hw1
  have HN := Lib.hid hn
  have LEN := Lib.hid (Stu.pch_len L)
  clear ha s szL hw1 rows1 off1 OWN1 k1 hn SZ
  go_enter Try.func21, Try.ntmps21
  go_upto_region 2 with (fail)
  rw [← HW.out]
  go_wp2_with fail
  refine (DER.out).mono ?_; rintro e w2 ⟨v, rfl, ho, k2⟩
  obtain ⟨A2, c2, hv, l2, hc2⟩ := ho.cap
  have ST := Lib.hid (HST.out w2 v A2 c2 hv ho hc2 k2)
  rw [hv]
  clear ho k2 l2 hc2 HST DER hv
  go_wp2_with fail
  go_loopw [3, 4, 5] (fun u3 u4 u5 wr => ∃ (A1 A2 : Option Addr) (a b : List Int) (n1 n2 c1 c2 : Nat), u4 = .slice A1 n1 c1 ∧ u5 = .slice A2 n2 c2 ∧ a.length = n1 ∧ b.length = n2 ∧ Cha L w u3 A1 A2 a b c1 c2 wr) (fun _ _ u5 _ => lenOf u5)
  case atStart => exact ⟨A, A2, L, Stu.slp L, n, _, c, c2, rfl, rfl, HN.out, rfl, ST.out⟩
  case round =>
    clear ST
    obtain ⟨A1, A2, a, b, n1, n2, c1, c2, rfl, rfl, e1, e2, ch⟩ := hrel
    obtain ⟨D, j, hrows, hD, hj, hpch⟩ := ch.ex
    have HK := Lib.hid ch.kp
    have O1 := Lib.hid ch.o1
    have O2 := Lib.hid ch.o2
    have hl1 := ch.l1
    have hl2 := ch.l2
    by_cases h0 : n2 = 0
    · subst h0
      have hb0 : b = [] := List.eq_nil_of_length_eq_zero e2
      rw [if_pos hb0, List.append_nil] at hpch
      obtain ⟨A', c', rfl, hc', hm⟩ := hrows.lies
      have HM := Lib.hid hm
      have HP := Lib.hid hpch
      clear hrows hm ch hb0 hpch hj
      go_wp2_with fail
      go_ret
      exact ⟨A', c', by rw [← HP.out]; rfl, by rw [← HP.out]; exact HM.out, HK.out⟩
    · have hb0 : b ≠ [] := fun e => h0 (by rw [← e2, e]; rfl)
      rw [if_neg hb0] at hpch
      obtain ⟨goo, tb⟩ := ch.goo hb0
      have hlt : (0 : Int) < (n2 : Int) := by omega
      have HRW := Lib.hid hrows
      have hlen : D.length + 1 ≤ 1000000 := by
        have := LEN.out
        rw [← hpch, List.length_append, List.length_cons] at this
        omega
      have HE2 := Lib.hid e2
      have hl2' : n2 ≤ c2 := by omega
      have HSZ := HK.out.size
      by_cases h1 : n2 = 1
      · have HP := Lib.hid (show D ++ [b] = Stu.pch L by rw [← hpch, Stu.ptl_one (by omega) tb])
        subst h1
        clear hrows ch hpch hj goo tb hb0 h0 e2 e1 hD
        go_wp2_with (at_builtin; refine wpList_pushR rfl _ _ rfl w.heap.size _ D A2 b 1 c2 wr.heap.size 1 HE2.out hl2' rfl rfl (HRW.out.keep ((Kp.rfl' wr).new _)) (cell_made _ _ _ _ 0 rfl) (O2.out.keep ((Kp.rfl' wr).new _)) hlen (Nat.le_trans HSZ ((Kp.rfl' wr).new _).size) ?_; intro v' w' r1 r2 r3 r4; have R1 := Lib.hid r1; have K1 := Lib.hid (r4 w (Nat.le_refl _) (HK.out.new _)); clear r1 r2 r3 r4)
        obtain ⟨A', c', hv', hc', hm⟩ := R1.out.lies
        have HM := Lib.hid hm
        clear hm hc'
        subst hv'
        go_ret
        exact ⟨A', c', by rw [← HP.out]; rfl, by rw [← HP.out]; exact HM.out, K1.out⟩
      · have e1' : ((n2 : Int) == 1) = false := by rw [beq_eq_false_iff_ne]; omega
        have HP := Lib.hid hpch
        cases goo with
        | one h => exact absurd h (by omega)
        | more h2 X Y hX hY la ba bb tb' fit cap pa lb sz t =>
          obtain ⟨nl, nt⟩ := Stu.nr_len (f := a) hb0 tb
          have REST := Lib.hid (fun (w' : World) (l1 : Lies w' A1 a) (l2 : Lies w' A2 b) => urest_any A1 A2 a b n1 n2 c1 c2 w' l1 l2 e1 e2 (by omega) (by omega) (by omega) (by omega) X Y hX hY ba bb tb (by rw [← e1, ← e2]; exact fit) cap)
          have NXT := Lib.hid (show ∃ j', b.length = n2 ∧ (Stu.nr a b).length ≤ j' ∧ (D ++ [b]) ++ (if Stu.nr a b = [] then [] else Stu.nr a b :: Stu.ptl j' b (Stu.nr a b)) = Stu.pch L from by
            obtain ⟨j', rfl⟩ : ∃ j', j = j' + 1 := ⟨j - 1, by omega⟩
            refine ⟨j', e2, by omega, ?_⟩
            rw [← hpch, Stu.ptl, List.append_assoc]; rfl)
          have T := Lib.hid t
          have NT := Lib.hid nt
          have NLT := Lib.hid (show (Stu.nr a b).length < n2 by omega)
          clear hrows ch hpch hj tb hb0 h0 h1 e2 e1 hD h2 hX hY la ba bb tb' fit cap pa lb sz t nl nt
          go_wp2_with (at_builtin; refine wpList_pushR rfl _ _ rfl w.heap.size _ D A2 b n2 c2 wr.heap.size 1 HE2.out hl2' rfl rfl (HRW.out.keep ((Kp.rfl' wr).new _)) (cell_made _ _ _ _ 0 rfl) (O2.out.keep ((Kp.rfl' wr).new _)) hlen (Nat.le_trans HSZ ((Kp.rfl' wr).new _).size) ?_; intro v' w' r1 r2 r3 r4; have R1 := Lib.hid r1; have K1 := Lib.hid (r4 w (Nat.le_refl _) (HK.out.new _)); have P1 := Lib.hid ((O1.out.keep ((Kp.rfl' wr).new _)).push r2 r3); have P2 := Lib.hid ((O2.out.keep ((Kp.rfl' wr).new _)).push r2 r3); clear r1 r2 r3 r4)
          refine (REST.out _ P1.out.lies P2.out.lies).mono ?_; rintro e w3 ⟨A3, c3, rfl, hc3, l3, fr, k3⟩
          obtain ⟨gv, hgv, _, hgs⟩ := R1.out.own (by simp)
          have CH := Lib.hid (show Cha L w v' A2 A3 b (Stu.nr a b) c2 c3 w3 from by
            obtain ⟨j', hb', hj', hp'⟩ := NXT.out
            exact ⟨⟨D ++ [b], j', R1.out.keep k3, by simp, hj', hp'⟩, P2.out.keep k3, Off.of l3 hgv fun ad ea => by have := fr ad ea; omega, by omega, hc3, fun hne => ⟨T.out hne, NT.out⟩, K1.out.trans k3⟩)
          clear hc3 l3 fr k3 hgv hgs
          go_wp2_with fail
          go_roundw
          case rel => exact ⟨A2, A3, b, Stu.nr a b, _, _, c2, c3, rfl, rfl, HE2.out, rfl, CH.out⟩
          case measure => simp [lenOf]; exact NLT.out

theorem va_le (C : List (List Int)) (x : Int) : Stu.va C x ≤ C.length := by
  have := Stu.tr_le (C.map fun g => Stu.sgz (Stu.aft g.length g x)) 0
  rwa [List.length_map] at this

set_option maxHeartbeats 1600000 in
theorem UCount_bad (A : Option Addr) (L : List Int) (c : Nat) (x y : Int) (w : World) (ha : Lies w A L) (h : ucd L ≠ 0) :
    Calls Try.prog 13 #[.slice A L.length c, .int .i64 x, .int .i64 y] w fun e w' => e = .returned (.tuple #[.int .i64 0, errOf (ucd L)]) ∧ Kp w w' := by
  have CK := Lib.hid (uChk_any A L c w ha)
  rw [errOf_ne _ h] at CK ⊢
  generalize ucd L = q at *
  generalize L.length = n at *
  clear ha h
  go_enter Try.func13, Try.ntmps13
  go_wp2_with fail
  refine (CK.out).mono ?_; rintro e w1 ⟨rfl, rfl⟩
  go_wp2_with fail
  go_ret2
  exact ⟨rfl, Kp.rfl' _⟩

set_option maxHeartbeats 1600000 in
theorem UCount_off (A : Option Addr) (L : List Int) (n c : Nat) (x y : Int) (w : World) (ha : Lies w A L) (s : Whl n L) (h : ¬ (-100 ≤ x ∧ x ≤ 100 ∧ x ≤ y ∧ y ≤ 100)) :
    Calls Try.prog 13 #[.slice A n c, .int .i64 x, .int .i64 y] w fun e w' => e = .returned (.tuple #[.int .i64 0, errOf 1]) ∧ Kp w w' := by
  have CK := Lib.hid (uChk_any A L c w ha)
  rw [s.code, errOf_zero, s.len] at CK
  rw [errOf_ne 1 (by decide)]
  clear ha s
  go_enter Try.func13, Try.ntmps13
  go_wp2_with fail
  refine (CK.out).mono ?_; rintro e w1 ⟨rfl, rfl⟩
  by_cases h1 : x < -100
  · clear h
    go_wp2_with fail
    go_ret2
    exact ⟨rfl, Kp.rfl' _⟩
  · by_cases h2 : 100 < x
    · clear h
      go_wp2_with fail
      go_ret2
      exact ⟨rfl, Kp.rfl' _⟩
    · by_cases h3 : y < x
      · clear h
        go_wp2_with fail
        go_ret2
        exact ⟨rfl, Kp.rfl' _⟩
      · have h4 : 100 < y := by omega
        clear h
        go_wp2_with fail
        go_ret2
        exact ⟨rfl, Kp.rfl' _⟩

set_option maxHeartbeats 1600000 in
theorem UCount_ok (A : Option Addr) (L : List Int) (n c : Nat) (x y : Int) (w : World) (ha : Lies w A L) (s : Whl n L) (hc : n ≤ c) (h : -100 ≤ x ∧ x ≤ 100 ∧ x ≤ y ∧ y ≤ 100) :
    Calls Try.prog 13 #[.slice A n c, .int .i64 x, .int .i64 y] w fun e w' => e = .returned (.tuple #[.int .i64 ((Stu.va (Stu.pch L) x : Int) - (Stu.va (Stu.pch L) y : Int)), .nilIface]) ∧ Kp w w' := by
  obtain ⟨x1, x2, x3, x4⟩ := h
  have CK := Lib.hid (uChk_any A L c w ha)
  rw [s.code, errOf_zero, s.len] at CK
  have CH := Lib.hid (uchain_any A L n c w ha s hc)
  have PL := Stu.pch_len L
  have SZ := Stu.pch_sz s.ne (by have := s.len; have := s.n4; omega) s.tp s.bn
  have TA := Lib.hid (fun (z : Int) (hz : -100 ≤ z ∧ z ≤ 100) (A' : Option Addr) (c' : Nat) (w' : World) (hl : LiesM w' A' (Stu.pch L)) => uta_any A' (Stu.pch L) _ c' z w' hl rfl PL SZ hz)
  have va1 := va_le (Stu.pch L) x
  have va2 := va_le (Stu.pch L) y
  have g1 : ¬ x < -100 := by omega
  have g2 : ¬ 100 < x := by omega
  have g3 : ¬ y < x := by omega
  have g4 : ¬ 100 < y := by omega
  have TX := Lib.hid (TA.out x (by omega))
  have TY := Lib.hid (TA.out y (by omega))
  have hw : IntKind.i64.wrap ((Stu.va (Stu.pch L) x : Int) - (Stu.va (Stu.pch L) y : Int)) = (Stu.va (Stu.pch L) x : Int) - (Stu.va (Stu.pch L) y : Int) := IntWalk.i64_in _ (by omega)
  generalize Stu.va (Stu.pch L) x = p at *
  generalize Stu.va (Stu.pch L) y = q at *
  generalize (Stu.pch L).length = m at *
  clear ha s SZ TA x1 x2 x3 x4 va1 va2
  go_enter Try.func13, Try.ntmps13
  go_wp2_with fail
  refine (CK.out).mono ?_; rintro e w1 ⟨rfl, rfl⟩
  go_wp2_with fail
  refine (CH.out).mono ?_; rintro e w2 ⟨A', c', rfl, hm, k2⟩
  have M := Lib.hid hm
  have K2 := Lib.hid k2
  clear hm k2
  go_wp2_with fail
  refine (TX.out _ _ _ M.out).mono ?_; rintro e w3 ⟨rfl, k3⟩
  have M3 := Lib.hid (M.out.keep k3)
  have K3 := Lib.hid (K2.out.trans k3)
  clear k3
  go_wp2_with fail
  refine (TY.out _ _ _ M3.out).mono ?_; rintro e w4 ⟨rfl, k4⟩
  have K4 := Lib.hid (K3.out.trans k4)
  clear k4
  go_wp2_with fail
  go_ret2
  exact ⟨rfl, K4.out⟩

theorem UAll_bad (A : Option Addr) (L : List Int) (c : Nat) (w : World) (ha : Lies w A L) (h : ucd L ≠ 0) :
    Calls Try.prog 11 #[.slice A L.length c] w fun e w' => e = .returned (.tuple #[.int .i64 0, errOf (ucd L)]) ∧ Kp w w' := by
  have CN := Lib.hid (UCount_bad A L c (-21) 21 w ha h)
  generalize errOf (ucd L) = q at *
  generalize L.length = n at *
  clear ha h
  go_enter Try.func11, Try.ntmps11
  go_wp2_with fail
  refine (CN.out).mono ?_; rintro e w1 ⟨rfl, k1⟩
  have K := Lib.hid k1
  clear k1
  go_wp2_with fail
  go_ret2
  exact ⟨rfl, K.out⟩
theorem UAll_ok (A : Option Addr) (L : List Int) (n c : Nat) (w : World) (ha : Lies w A L) (s : Whl n L) (hc : n ≤ c) :
    Calls Try.prog 11 #[.slice A n c] w fun e w' => e = .returned (.tuple #[.int .i64 (Stu.ends (Stu.chain L)), .nilIface]) ∧ Kp w w' := by
  have CN := Lib.hid (UCount_ok A L n c (-21) 21 w ha s hc (by decide))
  rw [Stu.all_told s.ne (by have := s.len; have := s.n4; omega) s.tp s.bn] at CN
  generalize Stu.ends (Stu.chain L) = q at *
  clear ha s
  go_enter Try.func11, Try.ntmps11
  go_wp2_with fail
  refine (CN.out).mono ?_; rintro e w1 ⟨rfl, k1⟩
  have K := Lib.hid k1
  clear k1
  go_wp2_with fail
  go_ret2
  exact ⟨rfl, K.out⟩

theorem UTurns_bad (A : Option Addr) (L : List Int) (c : Nat) (w : World) (ha : Lies w A L) (h : ucd L ≠ 0) :
    Calls Try.prog 14 #[.slice A L.length c] w fun e w' => e = .returned (.tuple #[.int .i64 0, errOf (ucd L)]) ∧ Kp w w' := by
  have CK := Lib.hid (uChk_any A L c w ha)
  rw [errOf_ne _ h] at CK ⊢
  generalize ucd L = q at *
  generalize L.length = n at *
  clear ha h
  go_enter Try.func14, Try.ntmps14
  go_wp2_with fail
  refine (CK.out).mono ?_; rintro e w1 ⟨rfl, rfl⟩
  go_wp2_with fail
  go_ret2
  exact ⟨rfl, Kp.rfl' _⟩
theorem UTurns_ok (A : Option Addr) (L : List Int) (n c : Nat) (w : World) (ha : Lies w A L) (s : Whl n L) :
    Calls Try.prog 14 #[.slice A n c] w fun e w' => e = .returned (.tuple #[.int .i64 ((Stu.trn L : Nat) : Int), .nilIface]) ∧ Kp w w' := by
  have CK := Lib.hid (uChk_any A L c w ha)
  rw [s.code, errOf_zero, s.len] at CK
  have TN := Lib.hid (uturns_any A L n c w ha s.len (by have := s.n4; omega))
  generalize Stu.trn L = q at *
  clear ha s
  go_enter Try.func14, Try.ntmps14
  go_wp2_with fail
  refine (CK.out).mono ?_; rintro e w1 ⟨rfl, rfl⟩
  go_wp2_with fail
  refine (TN.out).mono ?_; rintro e w2 ⟨rfl, rfl⟩
  go_wp2_with fail
  go_ret2
  exact ⟨rfl, Kp.rfl' _⟩

end Go.Proofs.Ytbdpcpodmmhjaaa

/- Plain facts on the document's chain: rows of three factors by what is under their root. No program is named here. -/
namespace Go.Proofs.Ytbdpcpodmmhjaaa.Stu
set_option linter.unusedVariables false

/-- x x + p x + q: two places where p p - 4 q is above 0, one where it is 0. -/
theorem square_ends (q p : Int) : (0 < p * p - 4 * q → ends (chain [q, p, 1]) = 2) ∧ (p * p - 4 * q = 0 → ends (chain [q, p, 1]) = 1) := by
  have t : Tp [q, p, 1] := fun _ => by show (1 : Int) ≠ 0; decide
  have S := sturm_of (f := [q, p, 1]) (by simp) (by simp) t
  obtain ⟨P1, P2, P3⟩ := S.parts (by simp)
  have P2' : ends (chain [q, p, 1]) < 3 := P2
  obtain ⟨h, b, l, e, c, g, le, fm, last⟩ := chain_all (f := [q, p, 1]) (by simp) (by simp) t
  have iv' : ∀ x, iv [q, p, 1] x = q + x * p + x * x := fun x => by
    rw [iv3, show ((1 : Int) : Rat) = 1 from rfl]; grind
  obtain ⟨h2, hh⟩ : ∃ h2 : Rat, h2 + h2 = 1 := ⟨1 / 2, by grind⟩
  constructor
  · intro hd
    have hd' : (0 : Rat) < p * p - 4 * q := by
      have := Rat.intCast_pos.2 hd
      rw [Rat.intCast_sub, Rat.intCast_mul, Rat.intCast_mul] at this
      exact this
    -- below 0 in the middle, above 0 far out
    have low : ∀ x : Rat, x = -(h2 * p) → iv [q, p, 1] x < 0 := fun x hx => by
      rw [iv', hx]
      have : 4 * ((q : Rat) + -(h2 * p) * p + -(h2 * p) * -(h2 * p)) = -(p * p - 4 * q) := by grind
      grind
    obtain ⟨B, hB, hf⟩ := far [[q, p, 1]] (fun g hg => by rw [List.mem_singleton.1 hg]; exact ⟨by simp, t⟩)
    obtain ⟨B2, hB2, hf2⟩ := far [od false [q, p, 1]] (od_good (c := [[q, p, 1]]) (fun g hg => by rw [List.mem_singleton.1 hg]; exact ⟨by simp, t⟩))
    obtain ⟨m, hm, bm⟩ := bd_self (h2 * p)
    unfold Bd at bm
    have u1 := hf (B + B2 + m + 1) (by grind)
    have u2 := hf2 (B + B2 + m + 1) (by grind)
    simp only [List.map_cons, List.map_nil, List.cons.injEq, and_true] at u1 u2
    rw [od_iv] at u2
    have s1 : sgz (tp [q, p, 1]) = 1 := rfl
    have s2 : sgz (tp (od false [q, p, 1])) = 1 := rfl
    rw [s1] at u1
    rw [s2] at u2
    have lo' := sq_neg (low _ rfl)
    cases fm with
    | one k hk ek =>
      have eh : ∀ x, sq (iv h x) = sq (iv [q, p, 1] x) := fun x => by rw [ek x, sq_mul, sq_pos hk, Int.one_mul]
      have nz : ∀ x, sq (iv [q, p, 1] x) ≠ 0 → iv h x ≠ 0 := fun x hx e0 => hx (by rw [← eh, e0, sq_zero])
      have d1 := c.drop (x := -(B + B2 + m + 1)) (y := -(h2 * p)) (by grind) (nz _ (by rw [u2]; decide)) (by rw [eh, eh, u2, lo']; decide)
      have d2 := c.drop (x := -(h2 * p)) (y := B + B2 + m + 1) (by grind) (nz _ (by rw [lo']; decide)) (by rw [eh, eh, u1, lo']; decide)
      have := P3 (-(B + B2 + m + 1)) (B + B2 + m + 1) (by grind)
      rw [e] at this P2' ⊢
      omega
    | two z k c' hk hc e1 e2 =>
      exfalso
      rw [e1, sq_mul, sq_mul] at u1 lo'
      rcases sq_some k with a | a | a <;> rcases sq_some (B + B2 + m + 1 - z) with a1 | a1 | a1 <;> rcases sq_some (-(h2 * p) - z) with a2 | a2 | a2 <;> rw [a, a1] at u1 <;> rw [a, a2] at lo' <;> first | exact absurd u1 (by decide) | exact absurd lo' (by decide)
    | three z k c' hk hc e1 e2 =>
      exfalso
      have := (co3 (p := q + k * (z * z * z)) (q := p - 3 * k * (z * z)) (r := 1 + 3 * k * z) (s := -k) fun x => by
        have := e1 x
        rw [iv'] at this
        grind).2.2.2
      exact hk (by grind)
    | four z v k c' ne hk hc e1 e2 =>
      exfalso
      have := (co3 (p := q + k * (z * z * v)) (q := p - k * (z * z + 2 * (z * v))) (r := 1 + k * (2 * z + v)) (s := -k) fun x => by
        have := e1 x
        rw [iv'] at this
        grind).2.2.2
      exact hk (by grind)
  · intro hd
    have hd' : (p : Rat) * p - 4 * q = 0 := by
      have : ((p * p - 4 * q : Int) : Rat) = 0 := by rw [hd]; rfl
      rw [Rat.intCast_sub, Rat.intCast_mul, Rat.intCast_mul] at this
      exact this
    have sq' : ∀ x, iv [q, p, 1] x = 1 * ((x - -(h2 * p)) * (x - -(h2 * p))) := fun x => by
      rw [iv']
      have : 4 * (q : Rat) = p * p := by grind
      grind
    rcases last with ⟨k, hk, ek⟩ | hlt
    · exact absurd (c.no2 (k⁻¹ * 1) (-(h2 * p)) fun x => by rw [div_of hk (ek x), sq']; grind) id
    · have up : ends (chain [q, p, 1]) ≤ 1 := by
        obtain ⟨B, hB, hv⟩ := S.far
        have := hv B Rat.le_refl
        have v1 := vs_le (chain [q, p, 1]) (-B)
        simp at hlt
        omega
      have hz : ∀ z c' : Rat, c' ≠ 0 → (∀ x, iv h x = c' * (x - z)) → 1 ≤ ends (chain [q, p, 1]) := fun z c' hc' e0 => by
        have d := c.drop0 (x := z - 1) (y := z) (by grind) (by rw [e0]; grind) (by rw [e0]; grind)
        have := P3 (z - 1) z (by grind)
        rw [e] at this ⊢
        omega
      cases fm with
      | one k hk ek => exact absurd (c.no2 (k⁻¹ * 1) (-(h2 * p)) fun x => by rw [div_of hk (ek x), sq']; grind) id
      | two z k c' hk hc e1 e2 => have := hz z c' hc e2; omega
      | three z k c' hk hc e1 e2 => have := hz z c' hc e2; omega
      | four z v k c' ne hk hc e1 e2 =>
        exfalso
        have := (co3 (p := q + k * (z * z * v)) (q := p - k * (z * z + 2 * (z * v))) (r := 1 + k * (2 * z + v)) (s := -k) fun x => by
          have := e1 x
          rw [iv'] at this
          grind).2.2.2
        exact hk (by grind)

end Go.Proofs.Ytbdpcpodmmhjaaa.Stu

/- Package sturm in the laws' words: what is counted, as the document's chain tells it; the closed fact. -/
namespace Go.Proofs.Ytbdpcpodmmhjaaa
open Go.ChangeShapes Go.WideShapes Go.ChangeAt Go.RowKit
set_option linter.unusedVariables false

/-- Turns of the document's chain at a whole number. -/
def dv (L : List Int) (x : Int) : Int := (Stu.vs (Stu.chain L) (x : Rat) : Int)
theorem Whl.told {n : Nat} {L : List Int} (s : Whl n L) {x y : Int} (h : x ≤ y) : (Stu.va (Stu.pch L) x : Int) - (Stu.va (Stu.pch L) y : Int) = dv L x - dv L y := by
  by_cases h1 : L.length = 1
  · unfold dv
    rw [(Stu.sturm_one h1 s.tp).1, (Stu.sturm_one h1 s.tp).1]
    have e : Stu.pch L = [L] := by
      unfold Stu.pch
      rw [if_pos (List.eq_nil_of_length_eq_zero (by rw [Stu.slp_len]; omega))]
    have z : ∀ s : Int, Stu.tr 0 [s] = 0 := fun s => by have := Stu.tr_zero [s]; simpa using this
    rw [e]
    unfold Stu.va
    rw [List.map_cons, List.map_nil, List.map_cons, List.map_nil, z, z]
  · exact Stu.count_told (by have := s.len; have := s.n0; omega) (by have := s.len; have := s.n4; omega) s.tp h
theorem Whl.len4 {n : Nat} {L : List Int} (s : Whl n L) : L.length ≤ 4 := by have := s.len; have := s.n4; omega
theorem Whl.sturm {n : Nat} {L : List Int} (s : Whl n L) : Stu.Sturm L := Stu.sturm_of s.ne s.len4 s.tp
theorem UCount_told (A : Option Addr) (L : List Int) (n c : Nat) (x y : Int) (w : World) (ha : Lies w A L) (s : Whl n L) (hc : n ≤ c) (h : -100 ≤ x ∧ x ≤ 100 ∧ x ≤ y ∧ y ≤ 100) :
    Calls Try.prog 13 #[.slice A n c, .int .i64 x, .int .i64 y] w fun e w' => e = .returned (.tuple #[.int .i64 (dv L x - dv L y), .nilIface]) ∧ Kp w w' := by
  have := UCount_ok A L n c x y w ha s hc h
  rw [s.told h.2.2.1] at this
  exact this

theorem whl_m201 : Whl 3 [-2, 0, 1] := ⟨rfl, by decide, by decide, fun z hz => by simp at hz; omega, fun _ => by decide⟩
theorem whl_121 : Whl 3 [1, 2, 1] := ⟨rfl, by decide, by decide, fun z hz => by simp at hz; omega, fun _ => by decide⟩
theorem ends_m201 : Stu.ends (Stu.chain [-2, 0, 1]) = 2 := (Stu.square_ends (-2) 0).1 (by decide)
theorem ends_121 : Stu.ends (Stu.chain [1, 2, 1]) = 1 := (Stu.square_ends 1 2).2 (by decide)
theorem va_m201 : (Stu.va (Stu.pch [-2, 0, 1]) 0 : Int) - (Stu.va (Stu.pch [-2, 0, 1]) 2 : Int) = 1 := by decide +kernel
set_option maxRecDepth 100000 in
set_option maxHeartbeats 1600000 in
theorem sturmFact_any (w : World) : Calls Try.prog 8 #[] w fun e w' => e = .returned (.bool true) ∧ Kp w w' := by
  have R1 := Lib.hid (fun (w1 : World) (A : Option Addr) (h1 : Lies w1 A [-2, 0, 1]) => UAll_ok A [-2, 0, 1] 3 3 w1 h1 whl_m201 (by decide))
  have R2 := Lib.hid (fun (w1 : World) (A : Option Addr) (h1 : Lies w1 A [-2, 0, 1]) => UCount_ok A [-2, 0, 1] 3 3 0 2 w1 h1 whl_m201 (by decide) (by decide))
  have R3 := Lib.hid (fun (w1 : World) (A : Option Addr) (h1 : Lies w1 A [1, 2, 1]) => UAll_ok A [1, 2, 1] 3 3 w1 h1 whl_121 (by decide))
  rw [ends_m201] at R1
  rw [va_m201] at R2
  rw [ends_121] at R3
  go_enter Try.func8, Try.ntmps8
  go_wp2_with fail
  refine (R1.out _ _ (lies_new w _ [-2, 0, 1])).mono ?_; rintro e w1 ⟨rfl, k1⟩
  have K1 := Lib.hid (((Kp.rfl' w).new _).trans k1)
  clear k1
  go_wp2_with fail
  refine (R2.out _ _ (lies_new w1 _ [-2, 0, 1])).mono ?_; rintro e w2 ⟨rfl, k2⟩
  have K2 := Lib.hid ((K1.out.new _).trans k2)
  clear k2
  go_wp2_with fail
  refine (R3.out _ _ (lies_new w2 _ [1, 2, 1])).mono ?_; rintro e w3 ⟨rfl, k3⟩
  have K3 := Lib.hid ((K2.out.new _).trans k3)
  clear k3
  go_wp2_with fail
  go_ret
  exact ⟨rfl, K3.out⟩

end Go.Proofs.Ytbdpcpodmmhjaaa

/- Square matrices: what is wrong with one. No program is named here. -/
namespace Go.Proofs.Ytbdpcpodmmhjaaa
set_option linter.unusedVariables false

/-- What is wrong with a matrix that should be square. -/
def qcode (most : Nat) (lo hi : Int) (m : List (List Int)) : Nat := if Mx.mcode most lo hi m = 0 ∧ m.length ≠ (m.getD 0 []).length then 3 else Mx.mcode most lo hi m
theorem qcode_le (most : Nat) (lo hi : Int) (m : List (List Int)) : qcode most lo hi m ≤ 5 := by
  unfold qcode
  split
  · omega
  · exact Mx.mcode_le _ _ _ _
theorem qcode_bad {most : Nat} {lo hi : Int} {m : List (List Int)} (h : Mx.mcode most lo hi m ≠ 0) : qcode most lo hi m = Mx.mcode most lo hi m := by
  unfold qcode; rw [if_neg (fun h' => h h'.1)]
theorem qcode_zero {most : Nat} {m : List (List Int)} (h : qcode most 0 9972 m = 0) : Mx.mcode most 0 9972 m = 0 ∧ m.length = (m.getD 0 []).length := by
  unfold qcode at h
  by_cases h0 : Mx.mcode most 0 9972 m = 0 ∧ m.length ≠ (m.getD 0 []).length
  · rw [if_pos h0] at h; cases h
  · rw [if_neg h0] at h
    exact ⟨h, Classical.byContradiction fun e => h0 ⟨h, e⟩⟩
theorem qcode_matl {most n : Nat} (f : Nat → Nat → Fp.F) (h0 : 0 < n) (h1 : n ≤ most) : qcode most 0 9972 (Mx.matl n n f) = 0 := by
  unfold qcode
  rw [if_neg fun h => h.2 (by rw [Mx.len_matl]; exact (Mx.tab_len n n _ 0 h0).symm)]
  exact Mx.mcode_matl f h0 h1 h0 h1

end Go.Proofs.Ytbdpcpodmmhjaaa

/- Plain facts on matrices over the field: how few rows and columns they go through (rank), row steps, the one form in steps and that there is but one. No program is named here. -/
namespace Go.Proofs.Ytbdpcpodmmhjaaa.Mx
open Fp
set_option linter.unusedVariables false

theorem sg_split (n m : Nat) (f : Nat → F) : sg (n + m) f = sg n f + sg m (fun i => f (n + i)) := by
  induction m with
  | zero => rw [Nat.add_zero, sg_zero]; grind
  | succ m ih => rw [← Nat.add_assoc, sg_succ, sg_succ, ih]; grind
/-- Terms of nought behind the first n. -/
theorem sg_less {n m : Nat} {f : Nat → F} (h : n ≤ m) (h0 : ∀ i, n ≤ i → i < m → f i = 0) : sg m f = sg n f := by
  obtain ⟨d, rfl⟩ := Nat.exists_eq_add_of_le h
  rw [sg_split, sg_congr (g := fun _ => 0) fun i hi => h0 (n + i) (by omega) (by omega), sg_none]; grind
/-- A sum that is not nought has a term that is not. -/
theorem sg_ne {n : Nat} {f : Nat → F} (h : sg n f ≠ 0) : ∃ i, i < n ∧ f i ≠ 0 := by
  refine Classical.byContradiction fun hn => h ?_
  rw [sg_congr (g := fun _ => 0) fun i hi => Classical.byContradiction fun he => hn ⟨i, hi, he⟩, sg_none]

/-- Passing over one place. -/
def sk (a i : Nat) : Nat := if i < a then i else i + 1
theorem sk_lt {a i p : Nat} (h : i < p) : sk a i < p + 1 := by unfold sk; split <;> omega
theorem sk_ne (a i : Nat) : sk a i ≠ a := by unfold sk; split <;> omega
theorem sk_inj {a i j : Nat} (h : sk a i = sk a j) : i = j := by unfold sk at h; split at h <;> split at h <;> omega
theorem one_sk (a i j : Nat) : one (sk a i) (sk a j) = one i j := by
  unfold one
  by_cases h : i = j
  · rw [if_pos h, if_pos (by rw [h])]
  · rw [if_neg h, if_neg (fun e => h (sk_inj e))]

/-- The one of p rows does not go through fewer than p. -/
theorem dim : ∀ (k p : Nat) (u v : Nat → Nat → F), Eqm p p (mul k u v) one → p ≤ k
  | 0, p, u, v, h => by
    refine Nat.le_of_not_lt fun hp => ?_
    have := h 0 0 hp hp
    exact one_ne (this.symm : (1 : F) = 0)
  | k + 1, p, u, v, h => by
    by_cases hz : ∀ i, i < p → u i k = 0
    · refine Nat.le_succ_of_le (dim k p u v fun i j hi hj => ?_)
      have := h i j hi hj
      have e : mul (k + 1) u v i j = mul k u v i j + u i k * v k j := rfl
      rw [e, hz i hi] at this
      rw [← this]; grind
    · obtain ⟨a, hn⟩ := Classical.not_forall.1 hz
      obtain ⟨ha, h0⟩ := Classical.not_imp.1 hn
      obtain ⟨q, rfl⟩ : ∃ q, p = q + 1 := ⟨p - 1, by omega⟩
      refine Nat.succ_le_succ (dim k q (fun i x => u (sk a i) x - u (sk a i) k * inv (u a k) * u a x) (fun x j => v x (sk a j)) fun i j hi hj => ?_)
      have e1 := h (sk a i) (sk a j) (sk_lt hi) (sk_lt hj)
      have e2 := h a (sk a j) ha (sk_lt hj)
      rw [one_sk] at e1
      have e3 : one a (sk a j) = 0 := by unfold one; rw [if_neg (fun e => sk_ne a j e.symm)]
      rw [e3] at e2
      have hi := inv_mul h0
      have d1 : mul (k + 1) u v (sk a i) (sk a j) = mul k u v (sk a i) (sk a j) + u (sk a i) k * v k (sk a j) := rfl
      have d2 : mul (k + 1) u v a (sk a j) = mul k u v a (sk a j) + u a k * v k (sk a j) := rfl
      rw [d1] at e1
      rw [d2] at e2
      have d3 : mul k (fun i x => u (sk a i) x - u (sk a i) k * inv (u a k) * u a x) (fun x j => v x (sk a j)) i j = mul k u v (sk a i) (sk a j) - u (sk a i) k * inv (u a k) * mul k u v a (sk a j) := by
        show sg k (fun x => (u (sk a i) x - u (sk a i) k * inv (u a k) * u a x) * v x (sk a j)) = sg k (fun x => u (sk a i) x * v x (sk a j)) - u (sk a i) k * inv (u a k) * sg k (fun x => u a x * v x (sk a j))
        rw [← sg_times]
        have : sg k (fun x => (u (sk a i) x - u (sk a i) k * inv (u a k) * u a x) * v x (sk a j)) + sg k (fun x => u (sk a i) k * inv (u a k) * (u a x * v x (sk a j))) = sg k (fun x => u (sk a i) x * v x (sk a j)) := by
          rw [← sg_add]; exact sg_congr fun x _ => by grind
        grind
      rw [d3]
      generalize mul k u v (sk a i) (sk a j) = m1 at *
      generalize mul k u v a (sk a j) = m2 at *
      generalize u (sk a i) k = c1 at *
      generalize v k (sk a j) = c2 at *
      generalize inv (u a k) = c3 at *
      generalize u a k = c4 at *
      have h2 : m2 = -(c4 * c2) := by grind
      rw [← e1, h2]
      have : c1 * c3 * -(c4 * c2) = -(c1 * c2 * (c3 * c4)) := by grind
      rw [this, hi]; grind

/-- It goes through k; it shows the one of p. -/
def Thru (r c k : Nat) (f : Nat → Nat → F) : Prop := ∃ u v, Eqm r c f (mul k u v)
def Sees (r c p : Nat) (f : Nat → Nat → F) : Prop := ∃ x y, Eqm p p (mul r x (mul c f y)) one
theorem sees_thru {r c p k : Nat} {f : Nat → Nat → F} (h : Sees r c p f) (h' : Thru r c k f) : p ≤ k := by
  obtain ⟨x, y, hs⟩ := h
  obtain ⟨u, v, ht⟩ := h'
  refine dim k p (mul r x u) (mul c v y) (Eqm.trans ?_ hs)
  have e : mul k (mul r x u) (mul c v y) = mul r x (mul c (mul k u v) y) := by rw [mul_assoc, mul_assoc]
  rw [e]
  exact (Eqm.rfl' p r x).mul (ht.symm.mul (Eqm.rfl' c p y))
theorem flip_one : flip one = one := by
  funext i j
  show (if j = i then (1 : F) else 0) = if i = j then 1 else 0
  by_cases h : i = j
  · rw [if_pos h, if_pos h.symm]
  · rw [if_neg h, if_neg (fun e => h e.symm)]
theorem Eqm.flip {r c : Nat} {f g : Nat → Nat → F} (h : Eqm r c f g) : Eqm c r (Mx.flip f) (Mx.flip g) := fun i j hi hj => h j i hj hi
theorem Thru.flip {r c k : Nat} {f : Nat → Nat → F} (h : Thru r c k f) : Thru c r k (Mx.flip f) := by
  obtain ⟨u, v, h⟩ := h
  refine ⟨Mx.flip v, Mx.flip u, ?_⟩
  rw [← flip_mul]; exact h.flip
theorem Sees.flip {r c p : Nat} {f : Nat → Nat → F} (h : Sees r c p f) : Sees c r p (Mx.flip f) := by
  obtain ⟨x, y, h⟩ := h
  refine ⟨Mx.flip y, Mx.flip x, ?_⟩
  have := h.flip
  rw [flip_mul, flip_mul, flip_one, mul_assoc] at this
  exact this
theorem Thru.mul_left {r q c k : Nat} {f : Nat → Nat → F} (h : Thru r q k f) (g : Nat → Nat → F) : Thru r c k (mul q f g) := by
  obtain ⟨u, v, h⟩ := h
  refine ⟨u, mul q v g, ?_⟩
  rw [← mul_assoc]; exact h.mul (Eqm.rfl' q c g)
theorem Thru.mul_right {r q c k : Nat} {g : Nat → Nat → F} (h : Thru q c k g) (f : Nat → Nat → F) : Thru r c k (mul q f g) := by
  obtain ⟨u, v, h⟩ := h
  refine ⟨mul q f u, v, ?_⟩
  rw [mul_assoc]; exact (Eqm.rfl' r q f).mul h
theorem Thru.plus {r c k l : Nat} {f g : Nat → Nat → F} (h : Thru r c k f) (h' : Thru r c l g) : Thru r c (k + l) (plus f g) := by
  obtain ⟨u, v, h⟩ := h
  obtain ⟨u', v', h'⟩ := h'
  refine ⟨fun i x => if x < k then u i x else u' i (x - k), fun x j => if x < k then v x j else v' (x - k) j, fun i j hi hj => ?_⟩
  show f i j + g i j = sg (k + l) (fun x => (if x < k then u i x else u' i (x - k)) * (if x < k then v x j else v' (x - k) j))
  rw [h i j hi hj, h' i j hi hj, sg_split]
  congr 1
  · exact sg_congr fun x hx => by rw [if_pos hx, if_pos hx]
  · exact sg_congr fun x hx => by rw [if_neg (by omega), if_neg (by omega), Nat.add_sub_cancel_left]
def neg (f : Nat → Nat → F) : Nat → Nat → F := fun i j => -(f i j)
theorem Thru.neg {r c k : Nat} {f : Nat → Nat → F} (h : Thru r c k f) : Thru r c k (neg f) := by
  obtain ⟨u, v, h⟩ := h
  refine ⟨Mx.neg u, v, fun i j hi hj => ?_⟩
  show -(f i j) = sg k (fun x => -(u i x) * v x j)
  rw [h i j hi hj]
  have : sg k (fun x => -(u i x) * v x j) = (-1 : F) * sg k (fun x => u i x * v x j) := by rw [← sg_times]; exact sg_congr fun x _ => by grind
  rw [this]
  show -(sg k (fun x => u i x * v x j)) = _
  grind
theorem Thru.eqm {r c k : Nat} {f g : Nat → Nat → F} (h : Thru r c k f) (e : Eqm r c g f) : Thru r c k g := by
  obtain ⟨u, v, h⟩ := h
  exact ⟨u, v, e.trans h⟩
theorem Thru.rows (r c : Nat) (f : Nat → Nat → F) : Thru r c r f := ⟨one, f, (one_mul r c f).symm⟩

theorem mul_neg (n : Nat) (f g : Nat → Nat → F) : mul n f (neg g) = neg (mul n f g) := by
  funext i j
  show sg n (fun x => f i x * -(g x j)) = -(sg n fun x => f i x * g x j)
  have : sg n (fun x => f i x * -(g x j)) = (-1 : F) * sg n (fun x => f i x * g x j) := by rw [← sg_times]; exact sg_congr fun x _ => by grind
  rw [this]; grind
theorem neg_mul (n : Nat) (f g : Nat → Nat → F) : mul n (neg f) g = neg (mul n f g) := by
  funext i j
  show sg n (fun x => -(f i x) * g x j) = -(sg n fun x => f i x * g x j)
  have : sg n (fun x => -(f i x) * g x j) = (-1 : F) * sg n (fun x => f i x * g x j) := by rw [← sg_times]; exact sg_congr fun x _ => by grind
  rw [this]; grind
/-- Sylvester: a product goes through no fewer than both show, less what they have in common. -/
theorem sylvester {r q c n l k : Nat} {a b : Nat → Nat → F} (ha : Sees r q n a) (hb : Sees q c l b) (ht : Thru r c k (mul q a b)) : n + l ≤ k + q := by
  obtain ⟨x', y', ea⟩ := ha
  obtain ⟨x, y, eb⟩ := hb
  obtain ⟨u, v, et⟩ := ht
  -- x' : n r, y' : q n, x : l q, y : c l, u : r k, v : k c
  have hU : l + n ≤ q + k := by
    refine dim (q + k) (l + n)
      (fun i z => if i < l then (if z < q then x i z - mul q x (mul n y' (mul r x' a)) i z else -(mul q x (mul n y' (mul r x' u)) i (z - q)))
        else (if z < q then mul r x' a (i - l) z else mul r x' u (i - l) (z - q)))
      (fun z j => if z < q then (if j < l then mul c b y z j else y' z (j - l)) else (if j < l then -(mul c v y (z - q) j) else 0)) fun i j hi hj => ?_
    show sg (q + k) _ = _
    rw [sg_split]
    -- what the blocks come to
    have ab : Eqm n l (mul r x' (mul q a (mul c b y))) (mul r x' (mul k u (mul c v y))) := by
      refine (Eqm.rfl' n r x').mul ?_
      rw [← mul_assoc, ← mul_assoc]
      exact et.mul (Eqm.rfl' c l y)
    by_cases h1 : i < l
    · by_cases h2 : j < l
      · have s1 : sg q (fun z => (if i < l then (if z < q then x i z - mul q x (mul n y' (mul r x' a)) i z else -(mul q x (mul n y' (mul r x' u)) i (z - q))) else (if z < q then mul r x' a (i - l) z else mul r x' u (i - l) (z - q))) *
            (if z < q then (if j < l then mul c b y z j else y' z (j - l)) else (if j < l then -(mul c v y (z - q) j) else 0))) = mul q x (mul c b y) i j - mul q (mul q x (mul n y' (mul r x' a))) (mul c b y) i j := by
          rw [sg_congr (g := fun z => (x i z - mul q x (mul n y' (mul r x' a)) i z) * mul c b y z j) fun z hz => by rw [if_pos h1, if_pos hz, if_pos hz, if_pos h2]]
          have : sg q (fun z => (x i z - mul q x (mul n y' (mul r x' a)) i z) * mul c b y z j) + sg q (fun z => mul q x (mul n y' (mul r x' a)) i z * mul c b y z j) = sg q (fun z => x i z * mul c b y z j) := by
            rw [← sg_add]; exact sg_congr fun z _ => by grind
          show _ = sg q (fun z => x i z * mul c b y z j) - sg q (fun z => mul q x (mul n y' (mul r x' a)) i z * mul c b y z j)
          grind
        have s2 : sg k (fun z => (if i < l then (if q + z < q then x i (q + z) - mul q x (mul n y' (mul r x' a)) i (q + z) else -(mul q x (mul n y' (mul r x' u)) i (q + z - q))) else (if q + z < q then mul r x' a (i - l) (q + z) else mul r x' u (i - l) (q + z - q))) *
            (if q + z < q then (if j < l then mul c b y (q + z) j else y' (q + z) (j - l)) else (if j < l then -(mul c v y (q + z - q) j) else 0))) = mul k (mul q x (mul n y' (mul r x' u))) (mul c v y) i j := by
          refine sg_congr fun z hz => ?_
          rw [if_pos h1, if_neg (by omega), if_neg (by omega), if_pos h2, Nat.add_sub_cancel_left]; grind
        rw [s1, s2]
        have e1 : mul q (mul q x (mul n y' (mul r x' a))) (mul c b y) = mul q x (mul n y' (mul r x' (mul q a (mul c b y)))) := by rw [mul_assoc, mul_assoc, mul_assoc]
        have e2 : mul k (mul q x (mul n y' (mul r x' u))) (mul c v y) = mul q x (mul n y' (mul r x' (mul k u (mul c v y)))) := by rw [mul_assoc, mul_assoc, mul_assoc]
        have e3 := ((Eqm.rfl' l q x).mul ((Eqm.rfl' q n y').mul ab)) i j h1 h2
        rw [e1, e2, e3, eb i j h1 h2]; grind
      · have s1 : sg q (fun z => (if i < l then (if z < q then x i z - mul q x (mul n y' (mul r x' a)) i z else -(mul q x (mul n y' (mul r x' u)) i (z - q))) else (if z < q then mul r x' a (i - l) z else mul r x' u (i - l) (z - q))) *
            (if z < q then (if j < l then mul c b y z j else y' z (j - l)) else (if j < l then -(mul c v y (z - q) j) else 0))) = mul q x y' i (j - l) - mul q (mul q x (mul n y' (mul r x' a))) y' i (j - l) := by
          rw [sg_congr (g := fun z => (x i z - mul q x (mul n y' (mul r x' a)) i z) * y' z (j - l)) fun z hz => by rw [if_pos h1, if_pos hz, if_pos hz, if_neg h2]]
          have : sg q (fun z => (x i z - mul q x (mul n y' (mul r x' a)) i z) * y' z (j - l)) + sg q (fun z => mul q x (mul n y' (mul r x' a)) i z * y' z (j - l)) = sg q (fun z => x i z * y' z (j - l)) := by
            rw [← sg_add]; exact sg_congr fun z _ => by grind
          show _ = sg q (fun z => x i z * y' z (j - l)) - sg q (fun z => mul q x (mul n y' (mul r x' a)) i z * y' z (j - l))
          grind
        rw [s1, sg_congr (n := k) (g := fun _ => 0) fun z hz => by dsimp only; rw [if_pos h1, if_neg (by omega), if_neg (by omega), if_neg h2]; grind, sg_none]
        have e1 : mul q (mul q x (mul n y' (mul r x' a))) y' = mul q x (mul n y' (mul r x' (mul q a y'))) := by rw [mul_assoc, mul_assoc, mul_assoc]
        have e2 : Eqm l n (mul q x (mul n y' (mul r x' (mul q a y')))) (mul q x (mul n y' one)) := (Eqm.rfl' l q x).mul ((Eqm.rfl' q n y').mul ea)
        have e3 : Eqm l n (mul q x (mul n y' one)) (mul q x y') := (Eqm.rfl' l q x).mul (mul_one q n y')
        rw [e1, e2 i (j - l) h1 (by omega), e3 i (j - l) h1 (by omega)]
        show _ = (if i = j then (1 : F) else 0)
        rw [if_neg (by omega)]; grind
    · by_cases h2 : j < l
      · rw [sg_congr (n := q) (g := fun z => mul r x' a (i - l) z * mul c b y z j) fun z hz => by dsimp only; rw [if_neg h1, if_pos hz, if_pos hz, if_pos h2]]
        rw [sg_congr (n := k) (g := fun z => mul r x' u (i - l) z * -(mul c v y z j)) fun z hz => by dsimp only; rw [if_neg h1, if_neg (by omega), if_neg (by omega), if_pos h2, Nat.add_sub_cancel_left]]
        have e1 : sg q (fun z => mul r x' a (i - l) z * mul c b y z j) = mul r x' (mul q a (mul c b y)) (i - l) j := by
          show mul q (mul r x' a) (mul c b y) (i - l) j = _
          rw [mul_assoc]
        have e2 : sg k (fun z => mul r x' u (i - l) z * -(mul c v y z j)) = -(mul r x' (mul k u (mul c v y)) (i - l) j) := by
          show mul k (mul r x' u) (neg (mul c v y)) (i - l) j = _
          rw [mul_neg, mul_assoc]; rfl
        rw [e1, e2, ab (i - l) j (by omega) h2]
        show _ = (if i = j then (1 : F) else 0)
        rw [if_neg (by omega)]; grind
      · rw [sg_congr (n := q) (g := fun z => mul r x' a (i - l) z * y' z (j - l)) fun z hz => by dsimp only; rw [if_neg h1, if_pos hz, if_pos hz, if_neg h2]]
        rw [sg_congr (n := k) (g := fun _ => 0) fun z hz => by dsimp only; rw [if_neg h1, if_neg (by omega), if_neg (by omega), if_neg h2]; grind, sg_none]
        have e1 : sg q (fun z => mul r x' a (i - l) z * y' z (j - l)) = mul r x' (mul q a y') (i - l) (j - l) := by
          show mul q (mul r x' a) y' (i - l) (j - l) = _
          rw [mul_assoc]
        rw [e1, ea (i - l) (j - l) (by omega) (by omega)]
        show (if i - l = j - l then (1 : F) else 0) + 0 = if i = j then 1 else 0
        by_cases e : i = j
        · rw [if_pos e, if_pos (by rw [e])]; grind
        · rw [if_neg e, if_neg (by omega)]; grind
  omega

end Go.Proofs.Ytbdpcpodmmhjaaa.Mx
