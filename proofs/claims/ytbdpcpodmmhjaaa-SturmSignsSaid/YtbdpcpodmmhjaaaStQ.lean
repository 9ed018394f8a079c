/- Plain facts on signs just behind a place, and on the turns of the undivided chain's signs there: they fall as the document's chain's do. No program is named here. -/
import Derived.Test.YtbdpcpodmmhjaaaStP
namespace Go.Proofs.Ytbdpcpodmmhjaaa.Stu
set_option linter.unusedVariables false

/-- The sign of the first number that is not 0. -/
def fs : List Rat → Int
  | [] => 0
  | a :: l => if sq a = 0 then fs l else sq a
theorem near_first : ∀ (l : List Rat), fs l ≠ 0 → ∃ h0 : Rat, 0 < h0 ∧ ∀ h, 0 < h → h ≤ h0 → sq (rv l h) = fs l
  | [], hf => absurd rfl hf
  | a :: l, hf => by
    rw [fs] at hf ⊢
    by_cases h : sq a = 0
    · rw [if_pos h] at hf ⊢
      obtain ⟨h0, p0, e⟩ := near_first l hf
      refine ⟨h0, p0, fun y hy hl => ?_⟩
      show sq (a + y * rv l y) = _
      rw [sq_nil h, show (0 : Rat) + y * rv l y = y * rv l y by grind, sq_mul, sq_pos hy, e y hy hl, Int.one_mul]
    · rw [if_neg h]
      obtain ⟨m, hm, hv⟩ := rv_bd l 1 (by grind)
      rcases sq_cases a with ⟨p, e⟩ | ⟨p, e⟩ | ⟨p, e⟩
      rotate_left 2
      · exact absurd e h
      · obtain ⟨h0, p0, hs⟩ := small_of (p := m) (r := a) (by grind) p
        obtain ⟨d, hd, d1, d2⟩ := two_min p0 (show (0 : Rat) < 1 by decide)
        refine ⟨d, hd, fun y hy hl => ?_⟩
        have h1 := hs y (by grind) (by grind)
        have h2 := hv y (by unfold Bd; grind)
        unfold Bd at h2
        have h3 := Rat.mul_le_mul_of_nonneg_left h2.1 (show 0 ≤ y by grind)
        show sq (a + y * rv l y) = _
        rw [e]
        exact sq_pos (by grind)
      · obtain ⟨h0, p0, hs⟩ := small_of (p := m) (r := -a) (by grind) (by grind)
        obtain ⟨d, hd, d1, d2⟩ := two_min p0 (show (0 : Rat) < 1 by decide)
        refine ⟨d, hd, fun y hy hl => ?_⟩
        have h1 := hs y (by grind) (by grind)
        have h2 := hv y (by unfold Bd; grind)
        unfold Bd at h2
        have h3 := Rat.mul_le_mul_of_nonneg_left h2.2 (show 0 ≤ y by grind)
        show sq (a + y * rv l y) = _
        rw [e]
        exact sq_neg (by grind)
/-- The value at a whole number, from the end on. -/
def hv : List Int → Int → Int
  | [], _ => 0
  | a :: l, x => hv l x * x + a
theorem hv_iv : ∀ (l : List Int) (x : Int), iv l x = (hv l x : Int)
  | [], x => rfl
  | a :: l, x => by
    rw [iv_cons, hv_iv l x]
    show (a : Rat) + x * (hv l x : Int) = ((hv l x * x + a : Int) : Rat)
    rw [Rat.intCast_add, Rat.intCast_mul]; grind
/-- The first one that is not 0 of the values of a row, of its slope, of its slope's slope and so on. -/
def aft : Nat → List Int → Int → Int
  | 0, _, _ => 0
  | k + 1, f, x => if f = [] then 0 else if hv f x = 0 then aft k (slp f) x else hv f x
theorem slp1 (a : Int) : slp [a] = [] := rfl
theorem slp2 (a b : Int) : slp [a, b] = [b] := by
  show [(((0 : Nat) : Int) + 1) * b] = [b]
  simp
theorem slp3 (a b c : Int) : slp [a, b, c] = [b, 2 * c] := by
  show [(((0 : Nat) : Int) + 1) * b, (((1 : Nat) : Int) + 1) * c] = [b, 2 * c]
  simp
theorem slp4 (a b c d : Int) : slp [a, b, c, d] = [b, 2 * c, 3 * d] := by
  show [(((0 : Nat) : Int) + 1) * b, (((1 : Nat) : Int) + 1) * c, (((2 : Nat) : Int) + 1) * d] = [b, 2 * c, 3 * d]
  simp
theorem sgz_sq (z : Int) : sgz z = sq (z : Rat) := (sq_cast z).symm
theorem aft_step {k : Nat} {f : List Int} {x : Int} (h : f ≠ []) {T : List Rat} (e : sgz (aft k (slp f) x) = fs T) : sgz (aft (k + 1) f x) = fs (iv f x :: T) := by
  rw [aft, if_neg h, fs, hv_iv, ← sgz_sq]
  by_cases h0 : hv f x = 0
  · rw [if_pos h0, h0, if_pos (by rfl)]
    exact e
  · rw [if_neg h0, if_neg]
    intro e'
    rw [sgz_sq] at e'
    exact castne h0 (sq_nil e')
theorem fs_times {k a : Rat} {S T : List Rat} (hk : 0 < k) (e : fs S = fs T) : fs (k * a :: S) = fs (a :: T) := by
  rw [fs, fs, sq_mul, sq_pos hk, Int.one_mul, e]
theorem fs_some {a : Rat} {T : List Rat} (h : fs T ≠ 0) : fs (a :: T) ≠ 0 := by
  rw [fs]; split <;> assumption
theorem fs_last {a : Rat} (h : a ≠ 0) : fs [a] ≠ 0 := by
  rw [fs, if_neg (sq_ne h)]; exact sq_ne h
/-- Just behind a place the sign is that of the first one of them. -/
theorem right_sign {g : List Int} (n : g ≠ []) (t : Tp g) (h4 : g.length ≤ 4) (x : Int) : ∃ h0 : Rat, 0 < h0 ∧ ∀ y : Rat, x < y → y ≤ x + h0 → sq (iv g y) = sgz (aft g.length g x) ∧ sq (iv g y) ≠ 0 := by
  have go : ∀ T : List Rat, fs T ≠ 0 → sgz (aft g.length g x) = fs T → (∀ h : Rat, iv g (x + h) = rv T h) → ∃ h0 : Rat, 0 < h0 ∧ ∀ y : Rat, x < y → y ≤ x + h0 → sq (iv g y) = sgz (aft g.length g x) ∧ sq (iv g y) ≠ 0 := fun T hT e hv => by
    obtain ⟨h0, p0, H⟩ := near_first T hT
    refine ⟨h0, p0, fun y h1 h2 => ?_⟩
    have := H (y - x) (by grind) (by grind)
    rw [← hv, show (x : Rat) + (y - x) = y by grind] at this
    rw [this, e]
    exact ⟨rfl, hT⟩
  have l1 := List.length_pos_iff.2 n
  have tl := castne (t n)
  rcases show g.length = 1 ∨ g.length = 2 ∨ g.length = 3 ∨ g.length = 4 by omega with h | h | h | h
  · obtain ⟨a, rfl⟩ : ∃ a, g = [a] := by
      match g, h with
      | [a], _ => exact ⟨a, rfl⟩
    have ha : (a : Rat) ≠ 0 := tl
    refine go [(a : Rat)] (fs_last ha) ?_ fun h => by show (a : Rat) + (x + h) * 0 = a + h * 0; grind
    have := aft_step (k := 0) (f := [a]) (x := x) n (T := []) rfl
    rw [show iv [a] x = a by show (a : Rat) + x * 0 = a; grind] at this
    exact this
  · obtain ⟨a, b, rfl⟩ := len2 h
    have hb : (b : Rat) ≠ 0 := tl
    refine go [iv [a, b] x, (b : Rat)] (fs_some (fs_last hb)) ?_ fun h => by
      rw [iv2, iv2]; show _ = (a : Rat) + x * b + h * ((b : Rat) + h * 0); grind
    refine aft_step (k := 1) n ?_
    rw [slp2]
    have := aft_step (k := 0) (f := [b]) (x := x) (by simp) (T := []) rfl
    rw [show iv [b] x = b by show (b : Rat) + x * 0 = b; grind] at this
    exact this
  · obtain ⟨a, b, c, rfl⟩ := len3 h
    have hc : (c : Rat) ≠ 0 := tl
    refine go [iv [a, b, c] x, iv [b, 2 * c] x, (c : Rat)] (fs_some (fs_some (fs_last hc))) ?_ fun h => by
      rw [iv3, iv3, iv2, Rat.intCast_mul]; show _ = (a : Rat) + x * b + x * x * c + h * (_ + h * ((c : Rat) + h * 0)); grind
    refine aft_step (k := 2) n ?_
    rw [slp3]
    refine aft_step (k := 1) (by simp) ?_
    rw [slp2]
    have := aft_step (k := 0) (f := [2 * c]) (x := x) (by simp) (T := []) rfl
    rw [show iv [2 * c] x = 2 * (c : Rat) by show ((2 * c : Int) : Rat) + x * 0 = 2 * (c : Rat); rw [Rat.intCast_mul]; grind] at this
    exact this.trans (fs_times (by decide) rfl)
  · obtain ⟨a, b, c, d, rfl⟩ := len4 h
    have hd : (d : Rat) ≠ 0 := tl
    refine go [iv [a, b, c, d] x, iv [b, 2 * c, 3 * d] x, (c : Rat) + x * (3 * d), (d : Rat)] (fs_some (fs_some (fs_some (fs_last hd)))) ?_ fun h => by
      rw [iv4, iv4, iv3, Rat.intCast_mul, Rat.intCast_mul]
      show _ = (a : Rat) + x * b + x * x * c + x * x * x * d + h * (_ + h * ((c : Rat) + x * (3 * d) + h * ((d : Rat) + h * 0)))
      grind
    refine aft_step (k := 3) n ?_
    rw [slp4]
    refine aft_step (k := 2) (by simp) ?_
    rw [slp3]
    have e1 := aft_step (k := 1) (f := [2 * c, 2 * (3 * d)]) (x := x) (by simp) (T := [((2 * (3 * d) : Int) : Rat)]) (by
      rw [slp2]
      have := aft_step (k := 0) (f := [2 * (3 * d)]) (x := x) (by simp) (T := []) rfl
      rw [show iv [2 * (3 * d)] x = ((2 * (3 * d) : Int) : Rat) by show ((2 * (3 * d) : Int) : Rat) + x * 0 = _; grind] at this
      exact this)
    rw [show iv [2 * c, 2 * (3 * d)] x = 2 * ((c : Rat) + x * (3 * d)) by rw [iv2, Rat.intCast_mul, Rat.intCast_mul, Rat.intCast_mul]; grind] at e1
    refine e1.trans (fs_times (by decide) ?_)
    rw [show ((2 * (3 * d) : Int) : Rat) = 6 * (d : Rat) by rw [Rat.intCast_mul, Rat.intCast_mul]; grind]
    exact fs_times (by decide) rfl
/-- The turns of a chain's signs just behind a place. -/
def va (P : List (List Int)) (x : Int) : Nat := tr 0 (P.map fun g => sgz (aft g.length g x))
theorem va_near : ∀ (P : List (List Int)) (x : Int), Good P → (∀ g ∈ P, g.length ≤ 4) → ∃ h0 : Rat, 0 < h0 ∧ ∀ y : Rat, x < y → y ≤ x + h0 → (P.map fun g => sq (iv g y)) = (P.map fun g => sgz (aft g.length g x)) ∧ ∀ g ∈ P, iv g y ≠ 0
  | [], x, _, _ => ⟨1, by decide, fun _ _ _ => ⟨rfl, fun _ h => absurd h (by simp)⟩⟩
  | g :: P, x, hg, h4 => by
    obtain ⟨a, pa, ha⟩ := va_near P x (fun g' h' => hg g' (List.mem_cons_of_mem _ h')) fun g' h' => h4 g' (List.mem_cons_of_mem _ h')
    obtain ⟨b, pb, hb⟩ := right_sign (hg g (by simp)).1 (hg g (by simp)).2 (h4 g (by simp)) x
    obtain ⟨m, pm, m1, m2⟩ := two_min pa pb
    refine ⟨m, pm, fun y h1 h2 => ?_⟩
    obtain ⟨e1, e2⟩ := ha y h1 (by grind)
    obtain ⟨e3, e4⟩ := hb y h1 (by grind)
    refine ⟨by rw [List.map_cons, List.map_cons, e1, e3], fun g' h' => ?_⟩
    rcases List.mem_cons.1 h' with rfl | h'
    · exact fun e => e4 (by rw [e, sq_zero])
    · exact e2 g' h'
/-- Just behind a place a chain's signs turn as often as at it. -/
theorem Cn.right {h b : List Int} {l : List (List Int)} (c : Cn h b l) (x : Rat) : ∃ h0 : Rat, 0 < h0 ∧ ∀ y : Rat, x < y → y ≤ x + h0 → vs (h :: b :: l) y = vs (h :: b :: l) x := by
  obtain ⟨a, ha, hs⟩ := c.slope
  obtain ⟨B, hB, hb⟩ := bd_in x (x + 1)
  obtain ⟨d, hd, H⟩ := c.ch.falls ha hs B hB
  have bx := hb x Rat.le_refl (by grind)
  have stay : ∃ e : Rat, 0 < e ∧ ∀ y : Rat, x < y → y ≤ x + e → ¬ Turn (rl h) x y := by
    by_cases h0 : iv h x = 0
    · exact ⟨1, by decide, fun y _ _ ht => ht.1 (by rw [rl_val, h0, sq_zero])⟩
    · obtain ⟨k, hk, K⟩ := rv_lip (rl h) B hB
      have hp : 0 < ab (rv (rl h) x) := by
        have := ab_ge (rv (rl h) x)
        have h1 : rv (rl h) x ≠ 0 := h0
        generalize rv (rl h) x = v at *
        grind
      obtain ⟨e, he, hs⟩ := small_of (p := k) (r := ab (rv (rl h) x)) (by grind) hp
      obtain ⟨m, hm, m1, m2⟩ := two_min he (show (0 : Rat) < 1 by decide)
      refine ⟨m, hm, fun y h1 h2 ht => ?_⟩
      have q := K x y bx (hb y (by grind) (by grind)) (by grind)
      exact ht.2 (large_stay q (Rat.le_refl) (hs (y - x) (by grind) (by grind))).1.symm
  obtain ⟨e, he, E⟩ := stay
  obtain ⟨m, hm, m1, m2⟩ := two_min hd he
  obtain ⟨m', hm', m3, m4⟩ := two_min hm (show (0 : Rat) < 1 by decide)
  refine ⟨m', hm', fun y h1 h2 => ?_⟩
  rw [vs_vr, vs_vr]
  exact ((H x y bx (hb y (by grind) (by grind)) h1 (by grind)).2 (E y h1 (by grind))).symm
/-- How often a chain's signs turn if the first row is a line, or a product of two. -/
def be (t x : Rat) : Nat := if x < t then 1 else 0
theorem be_right (t x : Rat) : ∃ h0 : Rat, 0 < h0 ∧ ∀ y : Rat, x < y → y ≤ x + h0 → be t y = be t x ∧ y ≠ t := by
  unfold be
  by_cases h : x < t
  · refine ⟨(t - x) / 2, by grind, fun y h1 h2 => ?_⟩
    rw [if_pos h, if_pos (by grind)]; exact ⟨rfl, by grind⟩
  · refine ⟨1, by decide, fun y h1 h2 => ?_⟩
    rw [if_neg h, if_neg (by grind)]; exact ⟨rfl, by grind⟩
theorem sq_line (t x : Rat) : (x < t ∧ sq (x - t) = -1) ∨ (x = t ∧ sq (x - t) = 0) ∨ (t < x ∧ sq (x - t) = 1) := by
  by_cases h : x < t
  · exact .inl ⟨h, sq_neg (by grind)⟩
  · by_cases h2 : x = t
    · exact .inr (.inl ⟨h2, by rw [h2, show t - t = 0 by grind, sq_zero]⟩)
    · exact .inr (.inr ⟨by grind, sq_pos (by grind)⟩)
theorem Cn.line {h b : List Int} {l : List (List Int)} (c : Cn h b l) {k t : Rat} (hk : k ≠ 0) (e : ∀ x, iv h x = k * (x - t)) {x y : Rat} (hxy : x ≤ y) : vs (h :: b :: l) x + be t y = vs (h :: b :: l) y + be t x := by
  obtain ⟨a, ha, hs⟩ := c.slope
  have hkk := sq_ne hk
  have key := c.ch.count ha hs (fun u w => if u < t ∧ t ≤ w then 1 else 0) (fun u => by rw [if_neg (by grind)]) (fun u v w h1 h2 => by
    by_cases p : u < t ∧ t ≤ v
    · rw [if_pos p, if_pos (by grind), if_neg (by grind)]
    · by_cases q : v < t ∧ t ≤ w
      · rw [if_neg p, if_pos q, if_pos (by grind)]
      · rw [if_neg p, if_neg q, if_neg (by grind)]) (k := 1) (by decide) (fun u w h1 h2 => by
    have : Turn (rl h) u w ↔ u < t ∧ t ≤ w := by
      unfold Turn
      rw [rl_val, rl_val, e, e, sq_mul, sq_mul]
      rcases sq_some k with a | a | a
      rotate_left 2
      · exact absurd a hkk
      all_goals
        rw [a]
        rcases sq_line t u with ⟨p1, q1⟩ | ⟨p1, q1⟩ | ⟨p1, q1⟩ <;> rcases sq_line t w with ⟨p2, q2⟩ | ⟨p2, q2⟩ | ⟨p2, q2⟩ <;> rw [q1, q2] <;> constructor <;> intro hh <;> first | exact ⟨by grind, by grind⟩ | exact ⟨by decide, by decide⟩ | (exfalso; exact absurd hh (by decide)) | (exfalso; grind)
    by_cases ht : u < t ∧ t ≤ w
    · rw [if_pos ht]; exact ⟨fun _ => rfl, fun hn => absurd (this.2 ht) hn⟩
    · rw [if_neg ht]; exact ⟨fun hh => absurd (this.1 hh) ht, fun _ => rfl⟩) hxy
  rw [vs_vr, vs_vr, key]
  unfold be
  by_cases h1 : x < t
  · by_cases h2 : y < t
    · rw [if_pos h1, if_pos h2, if_neg (by grind)]
    · rw [if_pos h1, if_neg h2, if_pos (by grind)]
  · rw [if_neg h1, if_neg (show ¬ y < t by grind), if_neg (by grind)]

end Go.Proofs.Ytbdpcpodmmhjaaa.Stu
