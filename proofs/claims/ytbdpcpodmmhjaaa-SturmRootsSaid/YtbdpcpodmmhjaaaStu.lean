/- Plain facts on chains of polynomials over the rational numbers (Sturm): how often their signs turn falls from left to right, by one where the first one comes to 0 or changes its sign, and nowhere else. No program is named here. -/
namespace Go.Proofs.Ytbdpcpodmmhjaaa.Stu
set_option linter.unusedVariables false

/-- From -m to m. -/
def Bd (m t : Rat) : Prop := -m ≤ t ∧ t ≤ m
theorem Bd.pos {m t : Rat} (h : Bd m t) : 0 ≤ m := by unfold Bd at h; grind
theorem Bd.mul {m n s t : Rat} (h : Bd m s) (k : Bd n t) : Bd (m * n) (s * t) := by
  have a1 := Rat.mul_nonneg (a := m - s) (b := n + t) (by unfold Bd at h; grind) (by unfold Bd at k; grind)
  have a2 := Rat.mul_nonneg (a := m + s) (b := n - t) (by unfold Bd at h; grind) (by unfold Bd at k; grind)
  have a3 := Rat.mul_nonneg (a := m - s) (b := n - t) (by unfold Bd at h; grind) (by unfold Bd at k; grind)
  have a4 := Rat.mul_nonneg (a := m + s) (b := n + t) (by unfold Bd at h; grind) (by unfold Bd at k; grind)
  unfold Bd
  constructor <;> grind
theorem Bd.add {m n s t : Rat} (h : Bd m s) (k : Bd n t) : Bd (m + n) (s + t) := by unfold Bd at *; grind
theorem Bd.le {m n t : Rat} (h : Bd m t) (hn : m ≤ n) : Bd n t := by unfold Bd at *; grind
theorem Bd.neg {m t : Rat} (h : Bd m t) : Bd m (-t) := by unfold Bd at *; grind
theorem bd_self (t : Rat) : ∃ m, 0 < m ∧ Bd m t := by
  by_cases h : 0 ≤ t
  · exact ⟨t + 1, by grind, by unfold Bd; grind⟩
  · exact ⟨-t + 1, by grind, by unfold Bd; grind⟩

/-- The value at x, and the slope. -/
def rv : List Rat → Rat → Rat
  | [], _ => 0
  | a :: l, x => a + x * rv l x
def rd : List Rat → Rat → Rat
  | [], _ => 0
  | a :: l, x => rv l x + x * rd l x
theorem rv_bd : ∀ (l : List Rat) (b : Rat), 0 < b → ∃ m, 0 < m ∧ ∀ x, Bd b x → Bd m (rv l x)
  | [], b, _ => ⟨1, by decide, fun x _ => by unfold rv Bd; grind⟩
  | a :: l, b, hb => by
    obtain ⟨m, hm, h⟩ := rv_bd l b hb
    obtain ⟨k, hk, ha⟩ := bd_self a
    have hp := Rat.mul_pos hb hm
    exact ⟨k + b * m, by grind, fun x hx => ha.add (hx.mul (h x hx))⟩
theorem rd_bd : ∀ (l : List Rat) (b : Rat), 0 < b → ∃ m, 0 < m ∧ ∀ x, Bd b x → Bd m (rd l x)
  | [], b, _ => ⟨1, by decide, fun x _ => by unfold rd Bd; grind⟩
  | a :: l, b, hb => by
    obtain ⟨m, hm, h⟩ := rd_bd l b hb
    obtain ⟨k, hk, ha⟩ := rv_bd l b hb
    have hp := Rat.mul_pos hb hm
    exact ⟨k + b * m, by grind, fun x hx => (ha x hx).add (hx.mul (h x hx))⟩
theorem sq_nn (t : Rat) : 0 ≤ t * t := by
  by_cases h : 0 ≤ t
  · exact Rat.mul_nonneg h h
  · have := Rat.mul_nonneg (a := -t) (b := -t) (by grind) (by grind); grind
theorem Bd.of {s : Rat} (h : 0 ≤ s) : Bd s s := by unfold Bd; grind
theorem near_eq (a x y p q d : Rat) : a + y * q - (a + x * p) - (y - x) * (p + x * d) = d * ((y - x) * (y - x)) + y * (q - p - (y - x) * d) := by grind
/-- What is left beyond the slope is small. -/
theorem rv_near : ∀ (l : List Rat) (b : Rat), 0 < b → ∃ k, 0 < k ∧ ∀ x y, Bd b x → Bd b y → Bd (k * ((y - x) * (y - x))) (rv l y - rv l x - (y - x) * rd l x)
  | [], b, _ => ⟨1, by decide, fun x y _ _ => by
    have h1 := sq_nn (y - x)
    generalize (y - x) * (y - x) = s at *
    unfold rv rd Bd; grind⟩
  | a :: l, b, hb => by
    obtain ⟨k, hk, h⟩ := rv_near l b hb
    obtain ⟨d, hd, hd2⟩ := rd_bd l b hb
    have hp := Rat.mul_pos hb hk
    refine ⟨d + b * k, by clear h hd2; grind, fun x y hx hy => ?_⟩
    have t := ((hd2 x hx).mul (Bd.of (sq_nn (y - x)))).add (hy.mul (h x y hx hy))
    have e1 : rv (a :: l) y - rv (a :: l) x - (y - x) * rd (a :: l) x = rd l x * ((y - x) * (y - x)) + y * (rv l y - rv l x - (y - x) * rd l x) := near_eq a x y (rv l x) (rv l y) (rd l x)
    have e2 : (d + b * k) * ((y - x) * (y - x)) = d * ((y - x) * (y - x)) + b * (k * ((y - x) * (y - x))) := by
      generalize (y - x) * (y - x) = s; grind
    rw [e1, e2]
    exact t
/-- Near by it is near. -/
theorem rv_lip (l : List Rat) (b : Rat) (hb : 0 < b) : ∃ k, 0 < k ∧ ∀ x y, Bd b x → Bd b y → x ≤ y → Bd (k * (y - x)) (rv l y - rv l x) := by
  obtain ⟨k, hk, h⟩ := rv_near l b hb
  obtain ⟨d, hd, hd2⟩ := rd_bd l b hb
  have hp := Rat.mul_pos hb hk
  refine ⟨d + k * (b + b), by grind, fun x y hx hy hxy => ?_⟩
  have e := h x y hx hy
  have s : Bd (y - x) (y - x) := Bd.of (by clear h hd2 e; grind)
  have t := ((hd2 x hx).mul s).add e
  clear h hd2 e
  have e1 : rv l y - rv l x = rd l x * (y - x) + (rv l y - rv l x - (y - x) * rd l x) := by grind
  rw [e1]
  refine t.le ?_
  have q : 0 ≤ (k * (y - x)) * (b + b - (y - x)) := Rat.mul_nonneg (Rat.mul_nonneg (by grind) (by grind)) (by unfold Bd at hx hy; grind)
  clear t e1 s
  grind

/-- The sign. -/
def sq (t : Rat) : Int := if 0 < t then 1 else if t < 0 then -1 else 0
theorem sq_pos {t : Rat} (h : 0 < t) : sq t = 1 := if_pos h
theorem sq_neg {t : Rat} (h : t < 0) : sq t = -1 := by unfold sq; rw [if_neg (by grind), if_pos h]
theorem sq_zero : sq 0 = 0 := by unfold sq; rw [if_neg (by grind), if_neg (by grind)]
theorem sq_cases (t : Rat) : (0 < t ∧ sq t = 1) ∨ (t < 0 ∧ sq t = -1) ∨ (t = 0 ∧ sq t = 0) := by
  by_cases h : 0 < t
  · exact .inl ⟨h, sq_pos h⟩
  · by_cases h2 : t < 0
    · exact .inr (.inl ⟨h2, sq_neg h2⟩)
    · exact .inr (.inr ⟨by grind, by rw [show t = 0 by grind, sq_zero]⟩)
/-- How often signs turn, noughts left out, behind the last one. -/
def tr : Int → List Int → Nat
  | _, [] => 0
  | s, t :: l => if t = 0 then tr s l else (if s = -t then 1 else 0) + tr t l
theorem tr_start (t : Int) (l : List Int) (h : t ≠ 0) : tr 0 (t :: l) = tr t l := by rw [tr, if_neg h, if_neg (by omega)]; omega
theorem tr_nought (s : Int) (l : List Int) : tr s (0 :: l) = tr s l := by rw [tr]; rw [if_pos rfl]
theorem tr_cons (s : Int) {t : Int} (l : List Int) (h : t ≠ 0) : tr s (t :: l) = (if s = -t then 1 else 0) + tr t l := by rw [tr, if_neg h]
/-- Between two that are apart it does not matter what stands. -/
theorem tr_between {s t u : Int} (l : List Int) (hs : s = 1 ∨ s = -1) (hu : u = -s) (ht : t = 1 ∨ t = -1 ∨ t = 0) : tr s (t :: u :: l) = 1 + tr u l := by
  rcases hs with rfl | rfl <;> rcases ht with rfl | rfl | rfl <;> subst hu <;> simp [tr]

/-- A chain: two that follow one another, and the third one against the first, with some of the second. -/
inductive Ch : List Rat → List Rat → List (List Rat) → Prop
  | last (f g : List Rat) {c : Rat} (hc : c ≠ 0) (h : ∀ x, rv g x = c) : Ch f g []
  | step {f g h : List Rat} {l : List (List Rat)} {c e : Rat} (q : List Rat) (hc : 0 < c) (he : 0 < e) (eq : ∀ x, c * rv f x = rv q x * rv g x - e * rv h x) (t : Ch g h l) : Ch f g (h :: l)
/-- The signs of a chain at x. -/
def sgs (l : List (List Rat)) (x : Rat) : List Int := l.map fun f => sq (rv f x)

/-- Size. -/
def ab (t : Rat) : Rat := if 0 ≤ t then t else -t
theorem ab_bd {m t : Rat} (h : Bd m t) : ab t ≤ m := by unfold ab Bd at *; split <;> grind
theorem ab_ge (t : Rat) : t ≤ ab t ∧ -t ≤ ab t ∧ 0 ≤ ab t := by unfold ab; split <;> grind
theorem bd_ab (t : Rat) : Bd (ab t) t := by have := ab_ge t; unfold Bd; grind
/-- Two that follow one another are never both near 0. -/
theorem Ch.apart {f g : List Rat} {l : List (List Rat)} (h : Ch f g l) : ∀ b, 0 < b → ∃ d, 0 < d ∧ ∀ x, Bd b x → d ≤ ab (rv f x) + ab (rv g x) := by
  induction h with
  | last f g hc h =>
    rename_i c
    intro b hb
    refine ⟨ab c, ?_, fun x _ => by rw [h x]; have := (ab_ge (rv f x)).2.2; grind⟩
    unfold ab; split <;> grind
  | @step f g h l c e q hc he eq t ih =>
    intro b hb
    obtain ⟨d, hd, hd2⟩ := ih b hb
    obtain ⟨m, hm, hm2⟩ := rv_bd q b hb
    -- e |h| is at most m |g| + c |f|
    have hp : 0 < e + m + c := by grind
    have hi := Rat.inv_pos.2 hp
    refine ⟨e * d * (e + m + c)⁻¹, Rat.mul_pos (Rat.mul_pos he hd) hi, fun x hx => ?_⟩
    have h1 := hd2 x hx
    have h2 := (hm2 x hx).mul (bd_ab (rv g x))
    have h3 := eq x
    have h4 : e * ab (rv h x) ≤ m * ab (rv g x) + c * ab (rv f x) := by
      have hf := Rat.mul_le_mul_of_nonneg_left (ab_ge (rv f x)).1 (show 0 ≤ c by grind)
      have hf2 := Rat.mul_le_mul_of_nonneg_left (ab_ge (rv f x)).2.1 (show 0 ≤ c by grind)
      have : e * ab (rv h x) = e * rv h x ∨ e * ab (rv h x) = -(e * rv h x) := by
        unfold ab; split
        · exact .inl rfl
        · right; grind
      unfold Bd at h2
      rcases this with h5 | h5 <;> rw [h5] <;> grind
    have h5 := Rat.mul_le_mul_of_nonneg_left h1 (show 0 ≤ e by grind)
    have g0 := (ab_ge (rv g x)).2.2
    have f0 := (ab_ge (rv f x)).2.2
    have h6 : e * d ≤ (e + m + c) * (ab (rv f x) + ab (rv g x)) := by
      have p1 := Rat.mul_nonneg (show 0 ≤ e + m by grind) f0
      have p2 := Rat.mul_nonneg (show 0 ≤ c by grind) g0
      grind
    have h7 := Rat.mul_le_mul_of_nonneg_right h6 (show 0 ≤ (e + m + c)⁻¹ by grind)
    clear ih hd2 hm2 eq h1 h2 h3 h4 h5 h6 t
    have h8 : (e + m + c) * (e + m + c)⁻¹ = 1 := by grind
    have h9 : (e + m + c) * (ab (rv f x) + ab (rv g x)) * (e + m + c)⁻¹ = ab (rv f x) + ab (rv g x) := by
      generalize (e + m + c)⁻¹ = i at *
      generalize ab (rv f x) + ab (rv g x) = s at *
      have : (e + m + c) * s * i = s * ((e + m + c) * i) := by grind
      rw [this, h8]; grind
    rw [h9] at h7
    exact h7

theorem two_min {a b : Rat} (ha : 0 < a) (hb : 0 < b) : ∃ m, 0 < m ∧ m ≤ a ∧ m ≤ b := by
  by_cases h : a ≤ b
  · exact ⟨a, ha, Rat.le_refl, h⟩
  · exact ⟨b, hb, by grind, Rat.le_refl⟩
theorem small_of {p r : Rat} (hp : 0 ≤ p) (hr : 0 < r) : ∃ h0, 0 < h0 ∧ ∀ h, 0 ≤ h → h ≤ h0 → p * h < r := by
  have h1 : 0 < p + 1 := by grind
  have hi := Rat.inv_pos.2 h1
  have h2 : (p + 1) * (p + 1)⁻¹ = 1 := by grind
  generalize (p + 1)⁻¹ = i at *
  have h3 := Rat.mul_pos hr hi
  refine ⟨r * i, h3, fun h h4 h5 => ?_⟩
  have h6 := Rat.mul_le_mul_of_nonneg_left h5 hp
  have h7 : p * (r * i) = r * ((p + 1) * i) - r * i := by grind
  rw [h2] at h7
  grind
/-- Where a number changes its sign, or is 0, it is small. -/
theorem small_turn {s t m : Rat} (h : Bd m (t - s)) (hn : ¬ (sq s = sq t ∧ sq s ≠ 0)) : ab s ≤ m ∧ ab t ≤ m := by
  have hm := h.pos
  rcases sq_cases s with ⟨h1, e1⟩ | ⟨h1, e1⟩ | ⟨h1, e1⟩ <;> rcases sq_cases t with ⟨h2, e2⟩ | ⟨h2, e2⟩ | ⟨h2, e2⟩ <;> rw [e1, e2] at hn <;>
    first
    | exact absurd ⟨rfl, by decide⟩ hn
    | (clear hn e1 e2; unfold Bd at h; unfold ab; constructor <;> split <;> grind)
/-- Where it is large and moves little, its sign stays. -/
theorem large_stay {s t m d : Rat} (h : Bd m (t - s)) (hd : d ≤ ab s) (hm : m < d) : sq s = sq t ∧ sq s ≠ 0 := by
  unfold Bd at h
  unfold ab at hd
  by_cases h0 : 0 ≤ s
  · rw [if_pos h0] at hd
    rw [sq_pos (show 0 < s by grind), sq_pos (show 0 < t by grind)]; exact ⟨rfl, by decide⟩
  · rw [if_neg h0] at hd
    rw [sq_neg (show s < 0 by grind), sq_neg (show t < 0 by grind)]; exact ⟨rfl, by decide⟩
theorem sq_apart {c e u v w : Rat} (hc : 0 < c) (he : 0 < e) (eq : c * u = v - e * w) {m : Rat} (hv : Bd m v) (hw : m < e * ab w) : sq w = -(sq u) ∧ sq u ≠ 0 := by
  unfold Bd at hv
  unfold ab at hw
  by_cases h0 : 0 ≤ w
  · rw [if_pos h0] at hw
    have h1 : c * u < 0 := by grind
    have hu : u < 0 := by
      refine Classical.byContradiction fun hn => ?_
      have := Rat.mul_nonneg (a := c) (b := u) (by grind) (by grind)
      grind
    have hw2 : 0 < w := by
      refine Classical.byContradiction fun hn => ?_
      have : w = 0 := by grind
      rw [this] at hw
      grind
    rw [sq_neg hu, sq_pos hw2]; exact ⟨rfl, by decide⟩
  · rw [if_neg h0] at hw
    have h1 : 0 < c * u := by grind
    have hu : 0 < u := by
      refine Classical.byContradiction fun hn => ?_
      have := Rat.mul_nonneg (a := c) (b := -u) (by grind) (by grind)
      grind
    rw [sq_pos hu, sq_neg (by grind)]; exact ⟨rfl, by decide⟩
theorem sq_some (t : Rat) : sq t = 1 ∨ sq t = -1 ∨ sq t = 0 := by rcases sq_cases t with ⟨_, h⟩ | ⟨_, h⟩ | ⟨_, h⟩ <;> simp [h]

/-- Close by, behind a member that keeps its sign the signs turn as often. -/
theorem Ch.flat {f g : List Rat} {l : List (List Rat)} (h : Ch f g l) : ∀ b, 0 < b → ∃ h0, 0 < h0 ∧ ∀ x y, Bd b x → Bd b y → x ≤ y → y - x ≤ h0 →
    (sq (rv f x) = sq (rv f y) → sq (rv f x) ≠ 0 → tr (sq (rv f x)) (sgs (g :: l) x) = tr (sq (rv f y)) (sgs (g :: l) y)) ∧
    (sq (rv g x) = sq (rv g y) → sq (rv g x) ≠ 0 → tr (sq (rv g x)) (sgs l x) = tr (sq (rv g y)) (sgs l y)) := by
  induction h with
  | last f g hc h =>
    intro b hb
    refine ⟨1, by decide, fun x y _ _ _ _ => ⟨fun h1 _ => ?_, fun _ _ => rfl⟩⟩
    show tr _ [sq (rv g x)] = tr _ [sq (rv g y)]
    rw [h x, h y, h1]
  | @step f g h l c e q hc he eq t ih =>
    intro b hb
    obtain ⟨h1, hh1, H1⟩ := ih b hb
    obtain ⟨d, hd, D⟩ := t.apart b hb
    obtain ⟨k, hk, K⟩ := rv_lip g b hb
    obtain ⟨k2, hk2, K2⟩ := rv_lip h b hb
    obtain ⟨m, hm, M⟩ := rv_bd q b hb
    have p1 := Rat.mul_pos hm hk
    have p2 := Rat.mul_pos he hk
    have p3 := Rat.mul_pos he hk2
    obtain ⟨h2, hh2, H2⟩ := small_of (p := m * k + e * k + e * k2) (r := e * d) (by clear ih H1 D K K2 M eq; grind) (Rat.mul_pos he hd)
    obtain ⟨h0, hh0, l1, l2⟩ := two_min hh1 hh2
    refine ⟨h0, hh0, fun x y hx hy hxy hle => ?_⟩
    have A := H1 x y hx hy hxy (Rat.le_trans hle l1)
    have hn : 0 ≤ y - x := by clear ih H1 D K K2 M eq H2 A; grind
    have hs := H2 (y - x) hn (Rat.le_trans hle l2)
    refine ⟨fun hf hf0 => ?_, A.1⟩
    show tr _ (sq (rv g x) :: sgs (h :: l) x) = tr _ (sq (rv g y) :: sgs (h :: l) y)
    by_cases hg : sq (rv g x) = sq (rv g y) ∧ sq (rv g x) ≠ 0
    · have a := A.1 hg.1 hg.2
      rw [tr_cons _ _ hg.2, tr_cons _ _ (show sq (rv g y) ≠ 0 by rw [← hg.1]; exact hg.2), a, hf, hg.1]
    · obtain ⟨g1, g2⟩ := small_turn (K x y hx hy hxy) hg
      have d1 := D x hx
      have d2 := D y hy
      -- the next one is large
      have q1 : (m * k) * (y - x) < e * (d - k * (y - x)) ∧ k2 * (y - x) < d - k * (y - x) := by
        have z1 := Rat.mul_nonneg (a := m * k) (b := y - x) (by grind) hn
        have z2 := Rat.mul_nonneg (a := e * k2) (b := y - x) (by grind) hn
        clear ih H1 D K K2 M eq H2 A hf hf0 hg g1 g2 d1 d2
        generalize y - x = s at *
        refine ⟨by grind, ?_⟩
        refine Classical.byContradiction fun hc => ?_
        have : e * (d - k * s) ≤ e * (k2 * s) := Rat.mul_le_mul_of_nonneg_left (by grind) (by grind)
        grind
      have w1 : d - k * (y - x) ≤ ab (rv h x) := by clear ih H1 D K K2 M eq H2 A hf hf0 hg d2 q1; grind
      have w2 : d - k * (y - x) ≤ ab (rv h y) := by clear ih H1 D K K2 M eq H2 A hf hf0 hg d1 q1; grind
      obtain ⟨hsame, hne⟩ := large_stay (K2 x y hx hy hxy) w1 q1.2
      have r1 : (m * k) * (y - x) < e * ab (rv h x) := by
        have := Rat.mul_le_mul_of_nonneg_left w1 (show 0 ≤ e by grind)
        have := q1.1
        clear ih H1 D K K2 M eq H2 A; grind
      have r2 : (m * k) * (y - x) < e * ab (rv h y) := by
        have := Rat.mul_le_mul_of_nonneg_left w2 (show 0 ≤ e by grind)
        have := q1.1
        clear ih H1 D K K2 M eq H2 A; grind
      have b1 : Bd ((m * k) * (y - x)) (rv q x * rv g x) := by
        have := (M x hx).mul ((bd_ab (rv g x)).le g1)
        rw [show m * k * (y - x) = m * (k * (y - x)) by grind]
        exact this
      have b2 : Bd ((m * k) * (y - x)) (rv q y * rv g y) := by
        have := (M y hy).mul ((bd_ab (rv g y)).le g2)
        rw [show m * k * (y - x) = m * (k * (y - x)) by grind]
        exact this
      obtain ⟨s1, s1'⟩ := sq_apart hc he (eq x) b1 r1
      obtain ⟨s2, s2'⟩ := sq_apart hc he (eq y) b2 r2
      have bb := A.2 hsame hne
      have two : ∀ z, sq (rv f z) ≠ 0 → sq (rv f z) = 1 ∨ sq (rv f z) = -1 := fun z hz => by
        rcases sq_some (rv f z) with h | h | h
        · exact .inl h
        · exact .inr h
        · exact absurd h hz
      show tr _ (sq (rv g x) :: sq (rv h x) :: sgs l x) = tr _ (sq (rv g y) :: sq (rv h y) :: sgs l y)
      rw [tr_between _ (two x s1') s1 (sq_some _), tr_between _ (two y s2') s2 (sq_some _), bb]

/-- How often the signs of a chain turn at x. -/
def vr (f g : List Rat) (l : List (List Rat)) (x : Rat) : Nat := tr 0 (sgs (f :: g :: l) x)
theorem vr_zero {f g : List Rat} {l : List (List Rat)} {x : Rat} (h0 : sq (rv f x) = 0) (h1 : sq (rv g x) ≠ 0) : vr f g l x = tr (sq (rv g x)) (sgs l x) := by
  show tr 0 (sq (rv f x) :: sq (rv g x) :: sgs l x) = _
  rw [h0, tr_nought, tr_start _ _ h1]
theorem vr_some {f g : List Rat} {l : List (List Rat)} {x : Rat} (h0 : sq (rv f x) ≠ 0) : vr f g l x = tr (sq (rv f x)) (sgs (g :: l) x) := by
  show tr 0 (sq (rv f x) :: sgs (g :: l) x) = _
  rw [tr_start _ _ h0]
/-- It comes to 0 between x and y, or at y, or changes its sign: from what it was at x. -/
def Turn (f : List Rat) (x y : Rat) : Prop := sq (rv f x) ≠ 0 ∧ sq (rv f y) ≠ sq (rv f x)
/-- Close by, the turns of signs fall by one where the first one changes its sign, and by none elsewhere. -/
theorem Ch.falls {f g : List Rat} {l : List (List Rat)} (h : Ch f g l) {a : Rat} (ha : 0 < a) (hg : ∀ x, rv g x = a * rd f x) : ∀ b, 0 < b → ∃ h0, 0 < h0 ∧ ∀ x y, Bd b x → Bd b y → x < y → y - x ≤ h0 →
    (Turn f x y → vr f g l x = vr f g l y + 1) ∧ (¬ Turn f x y → vr f g l x = vr f g l y) := by
  intro b hb
  obtain ⟨h1, hh1, H1⟩ := h.flat b hb
  obtain ⟨d, hd, D⟩ := h.apart b hb
  obtain ⟨k, hk, K⟩ := rv_lip f b hb
  obtain ⟨k2, hk2, K2⟩ := rv_lip g b hb
  obtain ⟨n, hn, N⟩ := rv_near f b hb
  have p1 := Rat.mul_pos ha hn
  obtain ⟨h2, hh2, H2⟩ := small_of (p := k + a * n + k2) (r := d) (by clear H1 D K K2 N hg; grind) hd
  obtain ⟨h0, hh0, l1, l2⟩ := two_min hh1 hh2
  refine ⟨h0, hh0, fun x y hx hy hxy hle => ?_⟩
  have hxy' : x ≤ y := by clear H1 D K K2 N hg; grind
  have A := H1 x y hx hy hxy' (Rat.le_trans hle l1)
  have hp : 0 < y - x := by clear H1 D K K2 N hg A; grind
  have hs := H2 (y - x) (by clear H1 D K K2 N hg A; grind) (Rat.le_trans hle l2)
  by_cases hf : sq (rv f x) = sq (rv f y) ∧ sq (rv f x) ≠ 0
  · have e : vr f g l x = vr f g l y := by
      rw [vr_some hf.2, vr_some (x := y) (by rw [← hf.1]; exact hf.2)]
      exact A.1 hf.1 hf.2
    exact ⟨fun ht => absurd hf.1.symm ht.2, fun _ => e⟩
  · obtain ⟨f1, f2⟩ := small_turn (K x y hx hy hxy') hf
    have d1 := D x hx
    have z1 := Rat.mul_pos p1 hp
    have z2 := Rat.mul_pos hk2 hp
    have z3 := Rat.mul_pos hk hp
    have w1 : d - k * (y - x) ≤ ab (rv g x) := by clear H1 D K K2 N hg A hf f2 hs; grind
    have q1 : k2 * (y - x) < d - k * (y - x) ∧ (a * n) * (y - x) < d - k * (y - x) := by
      clear H1 D K K2 N hg A hf f1 f2 d1 w1
      generalize y - x = s at *
      constructor <;> grind
    obtain ⟨hsame, hne⟩ := large_stay (K2 x y hx hy hxy') w1 q1.1
    have T := A.2 hsame hne
    -- it goes one way
    have e1 : a * (rv f y - rv f x) = (y - x) * rv g x + a * (rv f y - rv f x - (y - x) * rd f x) := by
      rw [hg x]
      generalize y - x = s
      generalize rv f y - rv f x = u
      grind
    have e2 : Bd ((a * n) * ((y - x) * (y - x))) (a * (rv f y - rv f x - (y - x) * rd f x)) := by
      have := (Bd.of (show 0 ≤ a by grind)).mul (N x y hx hy)
      rw [show a * n * ((y - x) * (y - x)) = a * (n * ((y - x) * (y - x))) by generalize (y - x) * (y - x) = s; grind]
      exact this
    have e3 : (a * n) * ((y - x) * (y - x)) < (y - x) * ab (rv g x) := by
      have m1 := Rat.mul_lt_mul_of_pos_left (show (a * n) * (y - x) < ab (rv g x) by clear H1 D K K2 N hg A hf f1 f2 d1 e1 e2; grind) hp
      have : (a * n) * ((y - x) * (y - x)) = (y - x) * (a * n * (y - x)) := by generalize y - x = s; grind
      rw [this]; exact m1
    have way : (sq (rv g x) = 1 → rv f x < rv f y) ∧ (sq (rv g x) = -1 → rv f y < rv f x) := by
      unfold Bd at e2
      clear H1 D K K2 N hg A hf f1 f2 d1 w1 T hs
      generalize (a * n) * ((y - x) * (y - x)) = r at *
      generalize rv f y - rv f x - (y - x) * rd f x = t at *
      constructor
      · intro hg1
        rcases sq_cases (rv g x) with ⟨h3, _⟩ | ⟨h3, h4⟩ | ⟨h3, h4⟩
        · refine Classical.byContradiction fun hc => ?_
          have := Rat.mul_nonneg (a := a) (b := rv f x - rv f y) (by grind) (by grind)
          rw [show ab (rv g x) = rv g x by unfold ab; rw [if_pos (by grind)]] at e3
          grind
        · rw [hg1] at h4; exact absurd h4 (by decide)
        · rw [hg1] at h4; exact absurd h4 (by decide)
      · intro hg1
        rcases sq_cases (rv g x) with ⟨h3, h4⟩ | ⟨h3, _⟩ | ⟨h3, h4⟩
        · rw [hg1] at h4; exact absurd h4 (by decide)
        · refine Classical.byContradiction fun hc => ?_
          have := Rat.mul_nonneg (a := a) (b := rv f y - rv f x) (by grind) (by grind)
          rw [show ab (rv g x) = -(rv g x) by unfold ab; rw [if_neg (by grind)]] at e3
          grind
        · rw [hg1] at h4; exact absurd h4 (by decide)
    have hne2 : sq (rv g y) ≠ 0 := by rw [← hsame]; exact hne
    -- what the turns are, by the sign of the first one
    have V : ∀ z, sq (rv g z) ≠ 0 → (sq (rv f z) = 0 → vr f g l z = tr (sq (rv g z)) (sgs l z)) ∧ (sq (rv f z) = sq (rv g z) → vr f g l z = tr (sq (rv g z)) (sgs l z)) ∧ (sq (rv f z) = -(sq (rv g z)) → vr f g l z = 1 + tr (sq (rv g z)) (sgs l z)) := fun z hz => by
      refine ⟨fun h => vr_zero h hz, fun h => ?_, fun h => ?_⟩
      · rw [vr_some (by rw [h]; exact hz)]
        show tr _ (sq (rv g z) :: sgs l z) = _
        rw [tr_cons _ _ hz, if_neg (by rw [h]; intro e; omega)]; omega
      · rw [vr_some (by rw [h]; intro e; omega)]
        show tr _ (sq (rv g z) :: sgs l z) = _
        rw [tr_cons _ _ hz, if_pos h]
    have Vx := V x hne
    have Vy := V y hne2
    rw [← T, ← hsame] at Vy
    generalize tr (sq (rv g x)) (sgs l x) = tt at *
    unfold Turn
    clear V H1 D K K2 N hg A T e1 e2 e3 f1 f2 d1 w1 q1 hs
    have hgs := sq_some (rv g x)
    rcases sq_cases (rv f x) with ⟨x1, x2⟩ | ⟨x1, x2⟩ | ⟨x1, x2⟩ <;> rcases sq_cases (rv f y) with ⟨y1, y2⟩ | ⟨y1, y2⟩ | ⟨y1, y2⟩ <;> rw [x2] at hf Vx ⊢ <;> rw [y2] at hf Vy ⊢ <;>
      rcases hgs with g1 | g1 | g1 <;> rw [g1] at Vx Vy way hne <;>
      first
      | exact absurd rfl hne
      | exact absurd ⟨rfl, by decide⟩ hf
      | (exfalso; have w1 := way.1 rfl; clear way Vx Vy; grind)
      | (exfalso; have w2 := way.2 rfl; clear way Vx Vy; grind)
      | (clear way hf hne; constructor <;> intro hh <;> simp at hh Vx Vy ⊢ <;> omega)

theorem some_steps {h0 d : Rat} (h : 0 < h0) : ∃ n : Nat, d ≤ (n : Rat) * h0 := by
  have hi := Rat.inv_pos.2 h
  have e : h0 * h0⁻¹ = 1 := by grind
  have h1 := Rat.le_ceil (x := d * h0⁻¹)
  generalize h0⁻¹ = i at *
  obtain ⟨n, hn⟩ : ∃ n : Nat, (d * i).ceil ≤ (n : Int) := ⟨(d * i).ceil.toNat, Int.self_le_toNat _⟩
  refine ⟨n, ?_⟩
  have h2 : ((d * i).ceil : Rat) ≤ ((n : Int) : Rat) := Rat.intCast_le_intCast.2 hn
  have h3 : ((n : Int) : Rat) = (n : Rat) := rfl
  have h4 : d * i ≤ (n : Rat) := by rw [← h3]; exact Rat.le_trans h1 h2
  have h5 := Rat.mul_le_mul_of_nonneg_right h4 (show 0 ≤ h0 by grind)
  have h6 : d * i * h0 = d * (h0 * i) := by grind
  rw [h6, e] at h5
  grind
/-- What holds step by step holds from one number to another. -/
theorem grid {h0 : Rat} (hh : 0 < h0) (R : Rat → Rat → Prop) (h1 : ∀ x, R x x) {lo hi : Rat} (h2 : ∀ x y z, lo ≤ x → x ≤ y → y < z → z ≤ hi → z - y ≤ h0 → R x y → R x z) : ∀ x y, lo ≤ x → x ≤ y → y ≤ hi → R x y := by
  intro x y hx hxy hy
  obtain ⟨n, hn⟩ := some_steps (d := y - x) hh
  induction n generalizing y with
  | zero =>
    have : y = x := by
      have : ((0 : Nat) : Rat) * h0 = 0 := by
        have : ((0 : Nat) : Rat) = 0 := rfl
        rw [this]; grind
      grind
    rw [this]; exact h1 x
  | succ n ih =>
    have hc : ((n + 1 : Nat) : Rat) = (n : Rat) + 1 := Rat.natCast_add n 1
    rw [hc] at hn
    by_cases e : y - h0 ≤ x
    · by_cases e2 : x < y
      · exact h2 x x y hx Rat.le_refl e2 hy (by grind) (h1 x)
      · rw [show y = x by grind]; exact h1 x
    · have := ih (y - h0) (by grind) (by grind) (by generalize (n : Rat) = m at *; grind)
      exact h2 x (y - h0) y hx (by grind) (by grind) hy (by grind) this
theorem bd_in (x y : Rat) : ∃ b, 0 < b ∧ ∀ z, x ≤ z → z ≤ y → Bd b z := by
  obtain ⟨m, hm, h1⟩ := bd_self x
  obtain ⟨k, hk, h2⟩ := bd_self y
  refine ⟨m + k, by grind, fun z h3 h4 => ?_⟩
  unfold Bd at *; grind
section
variable {f g : List Rat} {l : List (List Rat)} {a : Rat}
/-- From left to right the signs turn no more often. -/
theorem Ch.mono (h : Ch f g l) (ha : 0 < a) (hg : ∀ x, rv g x = a * rd f x) {x y : Rat} (hxy : x ≤ y) : vr f g l y ≤ vr f g l x := by
  obtain ⟨b, hb, B⟩ := bd_in x y
  obtain ⟨h0, hh, H⟩ := h.falls ha hg b hb
  refine grid hh (fun x y => vr f g l y ≤ vr f g l x) (fun _ => Nat.le_refl _) (lo := x) (hi := y) (fun u v w h1 h2 h3 h4 h5 h6 => ?_) x y Rat.le_refl hxy Rat.le_refl
  have := H v w (B v (Rat.le_trans h1 h2) (by grind)) (B w (by grind) h4) h3 h5
  by_cases ht : Turn f v w
  · have := this.1 ht; omega
  · have := this.2 ht; omega
/-- Where the sign is another one, they turn less often. -/
theorem Ch.turn (h : Ch f g l) (ha : 0 < a) (hg : ∀ x, rv g x = a * rd f x) {x y : Rat} (hxy : x ≤ y) (ht : Turn f x y) : vr f g l y < vr f g l x := by
  obtain ⟨b, hb, B⟩ := bd_in x y
  obtain ⟨h0, hh, H⟩ := h.falls ha hg b hb
  have key := grid hh (fun u w => sq (rv f u) ≠ 0 → vr f g l w = vr f g l u → sq (rv f w) = sq (rv f u)) (fun _ _ _ => rfl) (lo := x) (hi := y) (fun u v w h1 h2 h3 h4 h5 h6 h7 h8 => by
    have hm1 := h.mono ha hg h2
    have hm2 := h.mono ha hg (show v ≤ w by grind)
    have e1 := h6 h7 (by omega)
    have := H v w (B v (Rat.le_trans h1 h2) (by grind)) (B w (by grind) h4) h3 h5
    by_cases htt : Turn f v w
    · have := this.1 htt; omega
    · rw [← e1]
      refine Classical.byContradiction fun hc => htt ⟨by rw [e1]; exact h7, hc⟩) x y Rat.le_refl hxy Rat.le_refl ht.1
  have hm := h.mono ha hg hxy
  refine Nat.lt_of_le_of_ne hm fun e => ht.2 (key e)
/-- Where they turn less often, the sign is another one somewhere. -/
theorem Ch.turned (h : Ch f g l) (ha : 0 < a) (hg : ∀ x, rv g x = a * rd f x) {x y : Rat} (hxy : x ≤ y) (hv : vr f g l y < vr f g l x) : ∃ u w, x ≤ u ∧ u < w ∧ w ≤ y ∧ Turn f u w := by
  obtain ⟨b, hb, B⟩ := bd_in x y
  obtain ⟨h0, hh, H⟩ := h.falls ha hg b hb
  refine Classical.byContradiction fun hn => ?_
  have key := grid hh (fun u w => vr f g l w = vr f g l u) (fun _ => rfl) (lo := x) (hi := y) (fun u v w h1 h2 h3 h4 h5 h6 => by
    have := H v w (B v (Rat.le_trans h1 h2) (by grind)) (B w (by grind) h4) h3 h5
    have := this.2 fun ht => hn ⟨v, w, Rat.le_trans h1 h2, h3, h4, ht⟩
    omega) x y Rat.le_refl hxy Rat.le_refl
  omega
/-- The places where the first one comes to 0, if there are steps small enough to have no more than one each. -/
theorem Ch.count (h : Ch f g l) (ha : 0 < a) (hg : ∀ x, rv g x = a * rd f x) (N : Rat → Rat → Nat) (h1 : ∀ x, N x x = 0) (h2 : ∀ x y z, x ≤ y → y ≤ z → N x z = N x y + N y z) {k : Rat} (hk : 0 < k)
    (h3 : ∀ x y, x < y → y - x ≤ k → (Turn f x y → N x y = 1) ∧ (¬ Turn f x y → N x y = 0)) {x y : Rat} (hxy : x ≤ y) : vr f g l x = vr f g l y + N x y := by
  obtain ⟨b, hb, B⟩ := bd_in x y
  obtain ⟨h0, hh, H⟩ := h.falls ha hg b hb
  obtain ⟨m, hm, m1, m2⟩ := two_min hh hk
  refine grid hm (fun x y => vr f g l x = vr f g l y + N x y) (fun x => by rw [h1]; rfl) (lo := x) (hi := y) (fun u v w q1 q2 q3 q4 q5 q6 => ?_) x y Rat.le_refl hxy Rat.le_refl
  have t := H v w (B v (Rat.le_trans q1 q2) (by grind)) (B w (by grind) q4) q3 (Rat.le_trans q5 m1)
  have s := h3 v w q3 (Rat.le_trans q5 m2)
  have e := h2 u v w q2 (by grind)
  by_cases ht : Turn f v w
  · have := t.1 ht; have := s.1 ht; omega
  · have := t.2 ht; have := s.2 ht; omega
end

/-- Far above, the sign is that of the last factor. -/
theorem rv_high : ∀ (l : List Rat) (z : Rat), z ≠ 0 → ∃ b, 0 < b ∧ ∃ m, 0 < m ∧ ∀ x, b ≤ x → (0 < z → m ≤ rv (l ++ [z]) x) ∧ (z < 0 → m ≤ -(rv (l ++ [z]) x))
  | [], z, hz => by
    refine ⟨1, by decide, ab z, by unfold ab; split <;> grind, fun x hx => ?_⟩
    have e : rv ([] ++ [z]) x = z := by
      show z + x * 0 = z
      grind
    rw [e]
    unfold ab
    constructor <;> intro h <;> split <;> grind
  | a :: l, z, hz => by
    obtain ⟨b, hb, m, hm, h⟩ := rv_high l z hz
    obtain ⟨k, hk, hka⟩ := bd_self a
    have hi := Rat.inv_pos.2 hm
    have e : m * m⁻¹ = 1 := by grind
    generalize m⁻¹ = i at *
    have p := Rat.mul_pos (show 0 < k + m by grind) hi
    refine ⟨b + (k + m) * i, by grind, m, hm, fun x hx => ?_⟩
    have hx1 : b ≤ x := by grind
    have hx2 : (k + m) * i ≤ x := by grind
    have h1 := h x hx1
    have h2 : k + m ≤ x * m := by
      have := Rat.mul_le_mul_of_nonneg_right hx2 (show 0 ≤ m by grind)
      have e2 : (k + m) * i * m = (k + m) * (m * i) := by grind
      rw [e2, e] at this
      grind
    have hx0 : 0 ≤ x := by grind
    have er : rv (a :: l ++ [z]) x = a + x * rv (l ++ [z]) x := rfl
    rw [er]
    unfold Bd at hka
    constructor
    · intro hz1
      have := Rat.mul_le_mul_of_nonneg_left (h1.1 hz1) hx0
      clear h h1 e
      generalize x * rv (l ++ [z]) x = s at *
      grind
    · intro hz1
      have := Rat.mul_le_mul_of_nonneg_left (h1.2 hz1) hx0
      clear h h1 e
      have e3 : x * -(rv (l ++ [z]) x) = -(x * rv (l ++ [z]) x) := by grind
      rw [e3] at this
      generalize x * rv (l ++ [z]) x = s at *
      grind
theorem sq_high (l : List Rat) {z : Rat} (hz : z ≠ 0) : ∃ b, 0 < b ∧ ∀ x, b ≤ x → sq (rv (l ++ [z]) x) = sq z := by
  obtain ⟨b, hb, m, hm, h⟩ := rv_high l z hz
  refine ⟨b, hb, fun x hx => ?_⟩
  have := h x hx
  rcases sq_cases z with ⟨h1, h2⟩ | ⟨h1, h2⟩ | ⟨h1, h2⟩
  · rw [h2, sq_pos (by have := this.1 h1; grind)]
  · rw [h2, sq_neg (by have := this.2 h1; grind)]
  · exact absurd h1 hz
/-- With the signs of odd powers turned. -/
def odd : Bool → List Rat → List Rat
  | _, [] => []
  | b, a :: l => (if b then -a else a) :: odd (!b) l
theorem rv_odd : ∀ (l : List Rat) (x : Rat), rv (odd false l) x = rv l (-x) ∧ rv (odd true l) x = -(rv l (-x))
  | [], x => by constructor <;> (show (0 : Rat) = _; unfold rv; grind)
  | a :: l, x => by
    obtain ⟨h1, h2⟩ := rv_odd l x
    constructor
    · show a + x * rv (odd true l) x = a + -x * rv l (-x)
      rw [h2]; grind
    · show -a + x * rv (odd false l) x = -(a + -x * rv l (-x))
      rw [h1]; grind

end Go.Proofs.Ytbdpcpodmmhjaaa.Stu
