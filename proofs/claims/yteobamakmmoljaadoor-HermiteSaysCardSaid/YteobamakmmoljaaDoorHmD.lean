/- The document's way to Hermite's form, mathematics alone: the row with the least number takes from all others, how large numbers get, and what stands above the middle is made small from the end on. No program is named here. -/
import Derived.Test.YteobamakmmoljaaDoorHmM
namespace Go.Proofs.YteobamakmmoljaaDoor.Zx
set_option linter.unusedVariables false

/-- Rows b and c change places. -/
def swr (b c : Nat) (f : Nat → Nat → Int) : Nat → Nat → Int := fun r => if r = c then f b else if r = b then f c else f r
/-- The rows behind c as far as t less so many times row c. -/
def psr (c t : Nat) (h : Nat → Nat → Int) : Nat → Nat → Int := fun r => if c < r ∧ r < t then (fun j => h r j - (h r c).tdiv (h c c) * h c j) else h r
theorem swr_c (b c : Nat) (f : Nat → Nat → Int) : swr b c f c = f b := by unfold swr; rw [if_pos rfl]
theorem swr_some {b c r : Nat} (f : Nat → Nat → Int) (h : r ≠ c) : ∃ s, swr b c f r = f s ∧ (s = r ∨ s = c) ∧ s ≠ b := by
  unfold swr; rw [if_neg h]
  by_cases e : r = b
  · rw [if_pos e]; exact ⟨c, rfl, .inr rfl, fun e' => h (by rw [e, e'])⟩
  · rw [if_neg e]; exact ⟨r, rfl, .inl rfl, e⟩
theorem swr_row {b c : Nat} (f : Nat → Nat → Int) (r : Nat) : ∃ s, swr b c f r = f s ∧ (s = r ∨ s = b ∨ s = c) := by
  unfold swr
  by_cases h : r = c
  · rw [if_pos h]; exact ⟨b, rfl, .inr (.inl rfl)⟩
  · rw [if_neg h]
    by_cases e : r = b
    · rw [if_pos e]; exact ⟨c, rfl, .inr (.inr rfl)⟩
    · rw [if_neg e]; exact ⟨r, rfl, .inl rfl⟩
theorem swr_eql {n b c : Nat} (hb : b < n) (hc : c < n) (f : Nat → Nat → Int) : Eql n (swr b c f) f := by
  have h := eql_swap f hc hb
  have e : (fun i j => f (if i = c then b else if i = b then c else i) j) = swr b c f := by
    funext r j
    unfold swr
    by_cases h1 : r = c
    · rw [if_pos h1, if_pos h1]
    · rw [if_neg h1, if_neg h1]
      by_cases h2 : r = b
      · rw [if_pos h2, if_pos h2]
      · rw [if_neg h2, if_neg h2]
  rw [e] at h; exact h
theorem psr_low (c : Nat) (h : Nat → Nat → Int) (t : Nat) {r : Nat} (hr : ¬ (c < r ∧ r < t)) : psr c t h r = h r := if_neg hr
theorem psr_at {c t : Nat} (h : Nat → Nat → Int) {r : Nat} (hr : c < r ∧ r < t) : psr c t h r = fun j => h r j - (h r c).tdiv (h c c) * h c j := if_pos hr
theorem psr_none (c t : Nat) (h : Nat → Nat → Int) (ht : t ≤ c + 1) : psr c t h = h := funext fun r => if_neg (by omega)
/-- One row more. -/
theorem psr_next {c t : Nat} (h : Nat → Nat → Int) (ht : c < t) : setr t (fun j => psr c t h t j - (psr c t h t c).tdiv (psr c t h c c) * psr c t h c j) (psr c t h) = psr c (t + 1) h := by
  funext r j
  have e1 : psr c t h t = h t := if_neg (by omega)
  have e2 : psr c t h c = h c := if_neg (by omega)
  by_cases r1 : r = t
  · rw [r1, setr_at, e1, e2, psr_at h (by omega)]
  · rw [setr_ne r1]
    unfold psr
    by_cases r2 : c < r ∧ r < t
    · rw [if_pos r2, if_pos (by omega)]
    · rw [if_neg r2, if_neg (by omega)]
theorem psr_eql {n c : Nat} (hc : c < n) (h : Nat → Nat → Int) : ∀ t, t ≤ n → Eql n (psr c t h) h
  | 0, _ => by rw [psr_none c 0 h (by omega)]; exact Eql.rfl' n h
  | t + 1, ht => by
    by_cases hct : c < t
    · have h1 := psr_eql hc h t (by omega)
      have h2 := eql_add (psr c t h) (show t < n by omega) hc (show t ≠ c by omega) (-((psr c t h t c).tdiv (psr c t h c c)))
      have e : setr t (fun j => psr c t h t j + -((psr c t h t c).tdiv (psr c t h c c)) * psr c t h c j) (psr c t h) = psr c (t + 1) h := by
        rw [← psr_next h hct]
        congr 1
        funext j; grind
      rw [e] at h2
      exact h2.trans h1
    · rw [psr_none c (t + 1) h (by omega)]; exact Eql.rfl' n h
theorem trunc_q {a b : Int} (hb : b ≠ 0) : ab (a.tdiv b) * ab b + ab (a - a.tdiv b * b) = ab a := by
  have h1 := Int.mul_tdiv_add_tmod a b
  have e : a - a.tdiv b * b = a.tmod b := by rw [Int.mul_comm (a.tdiv b) b]; omega
  have h2 : (a.tdiv b).natAbs = a.natAbs / b.natAbs := Int.natAbs_tdiv a b
  have h3 : (a.tmod b).natAbs = a.natAbs % b.natAbs := Int.natAbs_tmod a b
  have h4 := Nat.div_add_mod a.natAbs b.natAbs
  rw [e]
  unfold ab
  rw [h2, h3]
  have h5 : ((b.natAbs * (a.natAbs / b.natAbs) + a.natAbs % b.natAbs : Nat) : Int) = (a.natAbs : Int) := by rw [h4]
  rw [Int.natCast_add, Int.natCast_mul, Int.mul_comm] at h5
  exact h5
theorem trunc_lt {a b : Int} (hb : b ≠ 0) : ab (a - a.tdiv b * b) < ab b := by
  have e : a - a.tdiv b * b = a.tmod b := by have h1 := Int.mul_tdiv_add_tmod a b; rw [Int.mul_comm (a.tdiv b) b]; omega
  have h3 : (a.tmod b).natAbs = a.natAbs % b.natAbs := Int.natAbs_tmod a b
  have h4 := Nat.mod_lt a.natAbs (show 0 < b.natAbs by omega)
  rw [e]; unfold ab; omega

/-- Row b has the least number in column c, but 0. -/
structure Bst (n c : Nat) (f : Nat → Nat → Int) (b : Nat) : Prop where
  ge : c ≤ b
  lt : b < n
  ne : f b c ≠ 0
  le : ∀ r, c ≤ r → r < n → f r c ≠ 0 → ab (f b c) ≤ ab (f r c)
/-- Column c under way: all numbers behind row c are less than p. -/
structure Dp (n c : Nat) (g f : Nat → Nat → Int) (p : Int) : Prop where
  eql : Eql n f g
  top : ∀ r, r < c → f r = g r
  low : ∀ r j, c ≤ r → r < n → j < c → f r j = 0
  sm : ∀ r, c < r → r < n → ab (f r c) < p
  sc : ab (f c c) ≤ p
theorem Dp.less {n c : Nat} {g f : Nat → Nat → Int} {p : Int} (h : Dp n c g f p) {b : Nat} (hb : Bst n c f b) {r : Nat} (h1 : c ≤ r) (h2 : r < n) (hne : r ≠ b) (h0 : f r c ≠ 0) : ab (f b c) < p := by
  by_cases e : b = c
  · have := hb.le r h1 h2 h0
    have := h.sm r (by omega) h2
    omega
  · exact h.sm b (by have := hb.ge; omega) hb.lt
theorem Dp.step {n c : Nat} {g f : Nat → Nat → Int} {p : Int} (h : Dp n c g f p) (hc : c < n) {b : Nat} (hb : Bst n c f b) : Dp n c g (psr c n (swr b c f)) (ab (f b c)) := by
  have ec : psr c n (swr b c f) c = f b := by rw [psr_low c _ n (by omega), swr_c]
  have hlow : ∀ r j, c ≤ r → r < n → j < c → swr b c f r j = 0 := fun r j h1 h2 h3 => by
    obtain ⟨s, e, hs⟩ := swr_row (b := b) (c := c) f r
    rw [e]
    have h4 := hb.ge
    have h5 := hb.lt
    exact h.low s j (by rcases hs with e | e | e <;> omega) (by rcases hs with e | e | e <;> omega) h3
  refine ⟨(psr_eql hc _ n (Nat.le_refl n)).trans ((swr_eql hb.lt hc f).trans h.eql), fun r hr => ?_, fun r j h1 h2 h3 => ?_, fun r h1 h2 => ?_, by rw [ec]; exact Int.le_refl _⟩
  · rw [psr_low c _ n (by omega)]
    have := hb.ge
    unfold swr; rw [if_neg (by omega), if_neg (by omega)]; exact h.top r hr
  · by_cases e : c < r ∧ r < n
    · rw [psr_at _ e]
      dsimp only
      rw [hlow r j h1 h2 h3, hlow c j (Nat.le_refl c) hc h3]; grind
    · rw [psr_low c _ n e]; exact hlow r j h1 h2 h3
  · rw [psr_at _ ⟨h1, h2⟩, swr_c]
    exact trunc_lt hb.ne
/-- Where all others have 0. -/
theorem Dp.end' {n c : Nat} {g f : Nat → Nat → Int} {p : Int} (h : Dp n c g f p) (hc : c < n) {b : Nat} (hb : Bst n c f b) (hz : ∀ r, c ≤ r → r < n → r ≠ b → f r c = 0) :
    Eql n (swr b c f) g ∧ (∀ r, r < c → swr b c f r = g r) ∧ (∀ r j, c ≤ r → r < n → j < c → swr b c f r j = 0) ∧ swr b c f c c ≠ 0 ∧ ∀ r, c < r → r < n → swr b c f r c = 0 := by
  have h4 := hb.ge
  have h5 := hb.lt
  refine ⟨(swr_eql hb.lt hc f).trans h.eql, fun r hr => ?_, fun r j h1 h2 h3 => ?_, by rw [swr_c]; exact hb.ne, fun r h1 h2 => ?_⟩
  · unfold swr; rw [if_neg (by omega), if_neg (by omega)]; exact h.top r hr
  · obtain ⟨s, e, hs⟩ := swr_row (b := b) (c := c) f r
    rw [e]
    exact h.low s j (by rcases hs with e | e | e <;> omega) (by rcases hs with e | e | e <;> omega) h3
  · obtain ⟨s, e, hs, hne⟩ := swr_some (b := b) f (show r ≠ c by omega)
    rw [e]
    exact hz s (by rcases hs with e | e <;> omega) (by rcases hs with e | e <;> omega) hne

/-- How large numbers are behind so many columns. -/
def dl : Nat → Int
  | 0 => 20
  | 1 => 31457280
  | _ => 1979120929996800
theorem dl_up (c : Nat) : 1 ≤ dl c ∧ dl c ≤ dl (c + 1) ∧ dl c ≤ 1979120929996800 := by
  match c with
  | 0 => decide
  | 1 => decide
  | _ + 2 => exact ⟨by show (1 : Int) ≤ 1979120929996800; omega, Int.le_refl _, Int.le_refl _⟩
/-- How large numbers are in the first column's steps, behind a pivot of p. -/
def wb (p : Nat) : Int := if 21 ≤ p then 20 else if p ≤ 1 then 31457280 else 40 * 2 ^ (20 - p)
theorem wb_step : ∀ p, p < 22 → ∀ q, q < p → 1 ≤ q → wb p * (1 + ((p / q : Nat) : Int)) ≤ wb q := by decide +kernel
theorem wb_pos : ∀ p, p < 22 → 0 ≤ wb p ∧ wb p ≤ 31457280 := by decide +kernel
/-- Bounds for column c under way. -/
def Jb (n c : Nat) (g : Nat → Nat → Int) (p : Int) (f : Nat → Nat → Int) : Prop :=
  (c = 0 → (1 ≤ p ∧ p ≤ 21) ∧ ∀ r j, r < n → j < n → ab (f r j) ≤ wb p.toNat) ∧
  (c ≠ 0 → n = c + 2 → (∀ j, j < n → ab (g c j) ≤ dl 1 ∧ ab (g (c + 1) j) ≤ dl 1) ∧ ∃ U0 V0 U1 V1, Cof n (dl 1) c (g c) (g (c + 1)) (f c) (f (c + 1)) U0 V0 U1 V1) ∧
  (c ≠ 0 → n = c + 1 → ∀ j, j < n → ab (f c j) ≤ dl c)
theorem Jb.start {n c : Nat} {g : Nat → Nat → Int} (h3 : n ≤ 3) (hc : c < n) (hb : ∀ r j, c ≤ r → r < n → j < n → ab (g r j) ≤ dl c) : Jb n c g (dl c + 1) g := by
  refine ⟨fun e => ?_, fun h0 h2 => ?_, fun h0 h1 j hj => hb c j (Nat.le_refl c) hc hj⟩
  · subst e
    exact ⟨by decide, fun r j hr hj => hb r j (Nat.zero_le r) hr hj⟩
  · have e : c = 1 := by omega
    subst e
    refine ⟨fun j hj => ⟨hb 1 j (Nat.le_refl _) hc hj, hb 2 j (by omega) (by omega) hj⟩, 1, 0, 0, 1, Cof.start (by decide) (hb 1 1 (Nat.le_refl _) hc hc) (hb 2 1 (by omega) (by omega) hc)⟩
theorem Jb.bound {n c : Nat} {g f : Nat → Nat → Int} {p : Int} (h : Jb n c g p f) (h3 : n ≤ 3) (hc : c < n) {r j : Nat} (h1 : c ≤ r) (h2 : r < n) (hj : j < n) : ab (f r j) ≤ dl (c + 1) := by
  by_cases c0 : c = 0
  · have a := h.1 c0
    subst c0
    have := (wb_pos p.toNat (by omega)).2
    exact Int.le_trans (a.2 r j h2 hj) this
  · by_cases n2 : n = c + 2
    · obtain ⟨a, U0, V0, U1, V1, cf⟩ := h.2.1 c0 n2
      have e : c = 1 := by omega
      have b := a j hj
      have le : dl 1 * (ab (g c j) + ab (g (c + 1) j)) ≤ dl (c + 1) := by
        rw [e] at b ⊢
        have h4 := Int.mul_le_mul_of_nonneg_left (show ab (g 1 j) + ab (g (1 + 1) j) ≤ dl 1 + dl 1 by omega) (show 0 ≤ dl 1 by decide)
        exact Int.le_trans h4 (by decide)
      have hr : r = c ∨ r = c + 1 := by omega
      rcases hr with hr | hr
      · rw [hr]; exact Int.le_trans (cf.lex hj) le
      · rw [hr]; exact Int.le_trans (cf.ley hj) le
    · have a := h.2.2 c0 (by omega) j hj
      have b := (dl_up c).2.1
      rw [show r = c by omega]
      omega
theorem q_le {a b p : Int} (hb : b ≠ 0) (ha : ab a ≤ p) (hp : 0 ≤ p) : ab (a.tdiv b) ≤ ((p.toNat / (ab b).toNat : Nat) : Int) := by
  unfold ab at *
  rw [Int.natAbs_tdiv]
  have h1 : (((b.natAbs : Nat) : Int)).toNat = b.natAbs := rfl
  rw [h1]
  exact Int.ofNat_le.2 (Nat.div_le_div_right (c := b.natAbs) (show a.natAbs ≤ p.toNat by omega))
theorem Jb.step {n c : Nat} {g f : Nat → Nat → Int} {p : Int} (h : Jb n c g p f) (hd : Dp n c g f p) (h3 : n ≤ 3) (hc : c < n) {b : Nat} (hb : Bst n c f b) {s : Nat} (s1 : c ≤ s) (s2 : s < n) (sne : s ≠ b) (s0 : f s c ≠ 0) :
    Jb n c g (ab (f b c)) (psr c n (swr b c f)) ∧ ∀ r j, c < r → r < n → j < n → ab ((swr b c f r c).tdiv (swr b c f c c) * swr b c f c j) ≤ dl (c + 1) := by
  have hlt := hd.less hb s1 s2 sne s0
  have hone := ab_one hb.ne
  by_cases c0 : c = 0
  · subst c0
    obtain ⟨⟨p1, p2⟩, a⟩ := h.1 rfl
    have ws := wb_step p.toNat (by omega) (ab (f b 0)).toNat (by omega) (by omega)
    have wp := wb_pos p.toNat (by omega)
    have wq := wb_pos (ab (f b 0)).toNat (by omega)
    have qn : (0 : Int) ≤ ((p.toNat / (ab (f b 0)).toNat : Nat) : Int) := Int.natCast_nonneg _
    have sw : ∀ r j, r < n → j < n → ab (swr b 0 f r j) ≤ wb p.toNat := fun r j hr hj => by
      obtain ⟨s', e, hs⟩ := swr_row (b := b) (c := 0) f r
      have := hb.lt
      rw [e]; exact a s' j (by rcases hs with e | e | e <;> omega) hj
    have pr : ∀ r j, 0 < r → r < n → j < n → ab ((swr b 0 f r 0).tdiv (swr b 0 f 0 0) * swr b 0 f 0 j) ≤ ((p.toNat / (ab (f b 0)).toNat : Nat) : Int) * wb p.toNat := fun r j h1 h2 hj => by
      rw [swr_c, ab_mul]
      have hle : ab (swr b 0 f r 0) ≤ p := by
        obtain ⟨s', e, hs⟩ := swr_row (b := b) (c := 0) f r
        rw [e]
        have hs' : s' < n := by have := hb.lt; rcases hs with e | e | e <;> omega
        rcases Nat.eq_zero_or_pos s' with e' | e'
        · rw [e']; exact hd.sc
        · have := hd.sm s' e' hs'; omega
      have q1 := q_le hb.ne hle (by omega)
      exact Int.le_trans (Int.mul_le_mul_of_nonneg_right q1 (ab_pos _)) (Int.mul_le_mul_of_nonneg_left (a b j hb.lt hj) qn)
    have qb : ((p.toNat / (ab (f b 0)).toNat : Nat) : Int) * wb p.toNat = wb p.toNat * (1 + ((p.toNat / (ab (f b 0)).toNat : Nat) : Int)) - wb p.toNat := by grind
    refine ⟨⟨fun _ => ⟨by omega, fun r j hr hj => ?_⟩, fun h0 => absurd rfl h0, fun h0 => absurd rfl h0⟩, fun r j h1 h2 hj => ?_⟩
    · by_cases e : 0 < r ∧ r < n
      · rw [psr_at _ e]
        have h5 := sw r j hr hj
        have h6 := pr r j e.1 hr hj
        have h7 := ab_sub (swr b 0 f r j) ((swr b 0 f r 0).tdiv (swr b 0 f 0 0) * swr b 0 f 0 j)
        dsimp only
        omega
      · rw [psr_low 0 _ n e]
        have h5 := sw r j hr hj
        have h6 := Int.mul_nonneg wp.1 qn
        have e2 : wb p.toNat * (1 + ((p.toNat / (ab (f b 0)).toNat : Nat) : Int)) = wb p.toNat + wb p.toNat * ((p.toNat / (ab (f b 0)).toNat : Nat) : Int) := by grind
        omega
    · have h6 := pr r j h1 h2 hj
      show _ ≤ (31457280 : Int)
      omega
  · have n2 : n = c + 2 := by have := hb.ge; have := hb.lt; omega
    obtain ⟨a, U0, V0, U1, V1, cf⟩ := h.2.1 c0 n2
    have e : c = 1 := by omega
    have hA : ab (g c c) ≤ dl 1 := (a c (by omega)).1
    have hB : ab (g (c + 1) c) ≤ dl 1 := (a c (by omega)).2
    have cf2 : ∃ U0 V0 U1 V1, Cof n (dl 1) c (g c) (g (c + 1)) (swr b c f c) (swr b c f (c + 1)) U0 V0 U1 V1 := by
      have hb2 : b = c ∨ b = c + 1 := by have := hb.ge; have := hb.lt; omega
      rcases hb2 with e | e
      · have e2 : swr b c f (c + 1) = f (c + 1) := by unfold swr; rw [if_neg (by omega), if_neg (by omega)]
        rw [swr_c, e2, e]; exact ⟨U0, V0, U1, V1, cf⟩
      · have e2 : swr b c f (c + 1) = f c := by unfold swr; rw [if_neg (by omega), if_pos e.symm]
        rw [swr_c, e2, e]; exact ⟨U1, V1, U0, V0, cf.swap⟩
    obtain ⟨U0, V0, U1, V1, cf2⟩ := cf2
    have hne : swr b c f c c ≠ 0 := by rw [swr_c]; exact hb.ne
    have st := cf2.step hA hB hne (trunc_q hne)
    refine ⟨⟨fun h0 => absurd h0 c0, fun _ _ => ⟨a, U0, V0, _, _, by rw [psr_low c _ n (show ¬ (c < c ∧ c < n) by omega), psr_at _ (show c < c + 1 ∧ c + 1 < n by omega)]; exact st⟩, fun _ h1 => absurd h1 (by omega)⟩, fun r j h1 h2 hj => ?_⟩
    rw [show r = c + 1 by omega]
    have b := a j hj
    have le : dl 1 * (ab (g c j) + ab (g (c + 1) j)) ≤ dl (c + 1) := by
      rw [e] at b ⊢
      have h4 := Int.mul_le_mul_of_nonneg_left (show ab (g 1 j) + ab (g (1 + 1) j) ≤ dl 1 + dl 1 by omega) (show 0 ≤ dl 1 by decide)
      exact Int.le_trans h4 (by decide)
    exact Int.le_trans (cf2.times hA hB hne (trunc_q hne) hj) le

/-- The first c columns have noughts below the middle. -/
structure Dm (n c : Nat) (f0 f : Nat → Nat → Int) : Prop where
  eql : Eql n f f0
  low : ∀ i j, i < n → j < c → j < i → f i j = 0
  pos : ∀ j, j < c → 0 < f j j
  bu : ∀ r j, r < c → r < n → j < n → ab (f r j) ≤ dl (r + 1)
  bl : ∀ r j, c ≤ r → r < n → j < n → ab (f r j) ≤ dl c
theorem Dm.start {n : Nat} {f : Nat → Nat → Int} (h : ∀ i j, i < n → j < n → ab (f i j) ≤ 20) : Dm n 0 f f :=
  ⟨Eql.rfl' n f, fun i j _ h => absurd h (by omega), fun j h => absurd h (by omega), fun r j h => absurd h (by omega), fun r j _ hr hj => h r j hr hj⟩
theorem Dm.dp {n c : Nat} {f0 g : Nat → Nat → Int} (h : Dm n c f0 g) (hc : c < n) : Dp n c g g (dl c + 1) :=
  ⟨Eql.rfl' n g, fun _ _ => rfl, fun r j h1 h2 h3 => h.low r j h2 h3 (by omega), fun r h1 h2 => by have := h.bl r c (by omega) h2 hc; omega, by have := h.bl c c (Nat.le_refl c) hc hc; omega⟩
/-- There is a number other than 0 in each column, where there is a determinant. -/
theorem Dp.some {n c : Nat} {f0 g f : Nat → Nat → Int} {p : Int} (h : Dm n c f0 g) (hd : Dp n c g f p) (hc : c < n) (h0 : dt n f0 ≠ 0) : ∃ r, c ≤ r ∧ r < n ∧ f r c ≠ 0 := Classical.byContradiction fun hn => by
  have d : dt n f = 0 := dt_flat n c f hc (fun r j h1 h2 h3 => by
    rcases Nat.lt_or_ge j c with h4 | h4
    · exact hd.low r j h1 h2 h4
    · rw [show j = c by omega]
      exact Classical.byContradiction fun e => hn ⟨r, h1, h2, e⟩) fun i j hi hj hlt => by
    rcases Nat.lt_or_ge i c with h4 | h4
    · rw [hd.top i h4]; exact h.low i j hi hj hlt
    · exact hd.low i j h4 hi hj
  have e := (hd.eql.trans h.eql).det
  rw [d] at e
  omega
/-- Behind the column, with row c turned about where its number is below 0. -/
theorem Dm.next {n c : Nat} {f0 g f : Nat → Nat → Int} {p : Int} (h : Dm n c f0 g) (hc : c < n) (h3 : n ≤ 3) (hd : Dp n c g f p) (hj : Jb n c g p f) {b : Nat} (hb : Bst n c f b) (hz : ∀ r, c ≤ r → r < n → r ≠ b → f r c = 0) {k : Nat → Nat → Int}
    (hk : (0 < swr b c f c c ∧ k = swr b c f) ∨ (swr b c f c c < 0 ∧ k = setr c (fun j => -(swr b c f c j)) (swr b c f))) : Dm n (c + 1) f0 k := by
  obtain ⟨e1, e2, e3, e4, e5⟩ := hd.end' hc hb hz
  have bd : ∀ r j, c ≤ r → r < n → j < n → ab (swr b c f r j) ≤ dl (c + 1) := fun r j h1 h2 hj' => by
    obtain ⟨s, e, hs⟩ := swr_row (b := b) (c := c) f r
    have := hb.ge
    have := hb.lt
    rw [e]; exact hj.bound h3 hc (by rcases hs with e | e | e <;> omega) (by rcases hs with e | e | e <;> omega) hj'
  have gen : ∀ k : Nat → Nat → Int, Eql n k (swr b c f) → (∀ r, r ≠ c → k r = swr b c f r) → (∀ j, ab (k c j) = ab (swr b c f c j)) → 0 < k c c → Dm n (c + 1) f0 k := by
    intro k k1 k2 k3 k4
    refine ⟨k1.trans (e1.trans h.eql), fun i j hi hj' hlt => ?_, fun j hj' => ?_, fun r j hr hr2 hj' => ?_, fun r j h1 h2 hj' => by rw [k2 r (by omega)]; exact bd r j (by omega) h2 hj'⟩
    · by_cases ic : i = c
      · have a := k3 j
        rw [ic]
        rw [e3 c j (Nat.le_refl c) hc (by omega)] at a
        exact ab_zero a
      · rw [k2 i ic]
        rcases Nat.lt_or_ge i c with h4 | h4
        · rw [e2 i h4]; exact h.low i j hi (by omega) hlt
        · by_cases jc : j = c
          · rw [jc]; exact e5 i (by omega) hi
          · exact e3 i j (by omega) hi (by omega)
    · by_cases jc : j = c
      · rw [jc]; exact k4
      · rw [k2 j jc, e2 j (by omega)]; exact h.pos j (by omega)
    · by_cases rc : r = c
      · rw [rc, k3 j]; exact bd c j (Nat.le_refl c) hc hj'
      · rw [k2 r rc, e2 r (by omega)]; exact h.bu r j (by omega) hr2 hj'
  rcases hk with ⟨a, rfl⟩ | ⟨a, rfl⟩
  · exact gen _ (Eql.rfl' n _) (fun _ _ => rfl) (fun _ => rfl) a
  · exact gen _ (eql_neg _ hc) (fun r hr => setr_ne hr _ _) (fun j => by rw [setr_at, ab_neg]) (by rw [setr_at]; omega)

/-- Noughts below the middle, and above 0 on it: the middle is at most the determinant. -/
theorem mid_le {n : Nat} {f f0 : Nat → Nat → Int} (he : Eql n f f0) (hl : ∀ i j, i < n → j < n → j < i → f i j = 0) (hp : ∀ j, j < n → 0 < f j j) {M : Int} (hM : ab (dt n f0) ≤ M) {j : Nat} (hj : j < n) : f j j ≤ M := by
  have h1 := he.det
  rw [dt_upper n f hl] at h1
  have h2 := pr_ge n fun i hi => (show 1 ≤ f i i by have := hp i hi; omega)
  have h3 := h2.2 j hj
  have h4 := h2.1
  unfold ab at hM
  omega
/-- From row i on what stands above the middle is small; in row i as far as column c. -/
structure Bc (n i c : Nat) (f0 f : Nat → Nat → Int) : Prop where
  eql : Eql n f f0
  low : ∀ r j, r < n → j < n → j < r → f r j = 0
  pos : ∀ j, j < n → 0 < f j j
  red : ∀ r j, i < r → r < j → j < n → 0 ≤ f r j ∧ f r j < f j j
  redi : ∀ j, i < j → j < c → j < n → 0 ≤ f i j ∧ f i j < f j j
  bu : ∀ r j, r < i → r < n → j < n → ab (f r j) ≤ dl (r + 1)
  bi : ∀ j, j < n → ab (f i j) ≤ 1979120929996800
  bi1 : c = 1 → ∀ j, j < n → ab (f i j) ≤ 31457280
/-- From row i on what stands above the middle is small. -/
structure Bk (n i : Nat) (f0 f : Nat → Nat → Int) : Prop where
  eql : Eql n f f0
  low : ∀ r j, r < n → j < n → j < r → f r j = 0
  pos : ∀ j, j < n → 0 < f j j
  red : ∀ r j, i ≤ r → r < j → j < n → 0 ≤ f r j ∧ f r j < f j j
  bu : ∀ r j, r < i → r < n → j < n → ab (f r j) ≤ dl (r + 1)
theorem Dm.bk {n : Nat} {f0 f : Nat → Nat → Int} (h : Dm n n f0 f) {i : Nat} (hi : i + 1 = n) : Bk n i f0 f :=
  ⟨h.eql, fun r j hr hj hlt => h.low r j hr hj hlt, h.pos, fun r j h1 h2 h3 => absurd h3 (by omega), fun r j h1 h2 hj => h.bu r j (by omega) h2 hj⟩
theorem Bk.bc {n i : Nat} {f0 f : Nat → Nat → Int} (h : Bk n (i + 1) f0 f) (hi : i < n) : Bc n i (i + 1) f0 f :=
  ⟨h.eql, h.low, h.pos, fun r j h1 h2 h3 => h.red r j h1 h2 h3, fun j h1 h2 => absurd h2 (by omega), fun r j h1 h2 hj => h.bu r j (by omega) h2 hj,
    fun j hj => by have := h.bu i j (by omega) hi hj; have := (dl_up (i + 1)).2.2; omega, fun e j hj => by have := h.bu i j (by omega) hi hj; rw [show i + 1 = 1 by omega] at this; exact this⟩
theorem Bc.bk {n i : Nat} {f0 f : Nat → Nat → Int} (h : Bc n i n f0 f) : Bk n i f0 f :=
  ⟨h.eql, h.low, h.pos, fun r j h1 h2 h3 => by
    by_cases e : r = i
    · rw [e] at h2 ⊢; exact h.redi j h2 h3 h3
    · exact h.red r j (by omega) h2 h3, h.bu⟩
theorem Bk.hnf {n : Nat} {f0 f : Nat → Nat → Int} (h : Bk n 0 f0 f) : Hnf n f := ⟨fun i j hi hj => h.low i j hi (by omega) hj, h.pos, fun i j h1 h2 => h.red i j (Nat.zero_le i) h1 h2⟩
theorem Bc.step {n i c : Nat} {f0 f : Nat → Nat → Int} (h : Bc n i c f0 f) (h3 : n ≤ 3) (hic : i < c) (hc : c < n) (hM : ab (dt n f0) ≤ 48000) :
    Bc n i (c + 1) f0 (setr i (rdc c (f c) (f i)) f) ∧ (0 < f c c ∧ f c c ≤ 48000) ∧ ∀ j, j < n → ab (f i j) ≤ 1979120929996800 ∧ ab (f i c / f c c * f c j) ≤ 1979120930044800 := by
  have hp := h.pos c hc
  have md : ∀ j, j < n → f j j ≤ 48000 := fun j hj => mid_le h.eql h.low h.pos hM hj
  have hz : ∀ j, j < c → f c j = 0 := fun j hj => h.low c j hc (by omega) hj
  have hcj : ∀ j, j < n → ab (f c j) ≤ 48000 := fun j hj => by
    rcases Nat.lt_trichotomy j c with h1 | h1 | h1
    · rw [hz j h1]; decide
    · rw [h1, ab_of (Int.le_of_lt hp)]; exact md c hc
    · have a := h.red c j hic h1 hj
      have b := md j hj
      rw [ab_of a.1]; omega
  have pb : ∀ j, j < n → (j < c → f i c / f c c * f c j = 0) ∧ (c < j → ab (f i c / f c c * f c j) ≤ 31457280 * 48000) ∧ ab (f i c / f c c * f c j) ≤ 1979120930044800 := fun j hj => by
    have b := up_bound hc hcj h.bi hz hp hj
    have hgt : c < j → ab (f i c / f c c * f c j) ≤ 31457280 * 48000 := fun h1 => by
      have c1 : c = 1 := by omega
      exact (up_bound hc hcj (h.bi1 c1) hz hp hj).2.2
    refine ⟨b.1, hgt, ?_⟩
    rcases Nat.lt_trichotomy j c with h1 | h1 | h1
    · rw [b.1 h1]; decide
    · have := b.2.1 h1; omega
    · have := hgt h1; omega
  have hne : c ≠ i := by omega
  have ei := setr_at i (rdc c (f c) (f i)) f
  have en : ∀ r, r ≠ i → setr i (rdc c (f c) (f i)) f r = f r := fun r hr => setr_ne hr _ _
  have lo : ∀ j, j < c → rdc c (f c) (f i) j = f i j := fun j hj => by unfold rdc; rw [hz j hj]; grind
  refine ⟨⟨?_, fun r j hr hj hlt => ?_, fun j hj => ?_, fun r j h1 h2 h3 => by rw [en r (by omega), en j (by omega)]; exact h.red r j h1 h2 h3, fun j h1 h2 h3' => ?_, fun r j h1 h2 hj => by rw [en r (by omega)]; exact h.bu r j h1 h2 hj, fun j hj => ?_, fun e => absurd e (by omega)⟩, ⟨hp, md c hc⟩, fun j hj => ⟨h.bi j hj, (pb j hj).2.2⟩⟩
  · have a := eql_add f (show i < n by omega) hc (Ne.symm hne) (-(f i c / f c c))
    have e : (fun j => f i j + -(f i c / f c c) * f c j) = rdc c (f c) (f i) := by funext j; unfold rdc; grind
    rw [e] at a
    exact a.trans h.eql
  · by_cases ri : r = i
    · rw [ri, ei, lo j (by omega)]; exact h.low i j (by omega) hj (by omega)
    · rw [en r ri]; exact h.low r j hr hj hlt
  · by_cases ji : j = i
    · rw [ji, ei, lo i hic]; exact h.pos i (by omega)
    · rw [en j ji]; exact h.pos j hj
  · rw [ei, en j (by omega)]
    by_cases jc : j = c
    · rw [jc, rdc_at]
      exact ⟨Int.emod_nonneg _ (Int.ne_of_gt hp), Int.emod_lt_of_pos _ hp⟩
    · rw [lo j (by omega)]; exact h.redi j h1 (by omega) h3'
  · rw [ei]
    rcases Nat.lt_trichotomy j c with h1 | h1 | h1
    · rw [lo j h1]; exact h.bi j hj
    · rw [h1, rdc_at]
      have a := Int.emod_nonneg (f i c) (Int.ne_of_gt hp)
      have b := Int.emod_lt_of_pos (f i c) hp
      have d := md c hc
      rw [ab_of a]; omega
    · have c1 : c = 1 := by omega
      have a := h.bi1 c1 j hj
      have b := (pb j hj).2.1 h1
      have d := ab_sub (f i j) (f i c / f c c * f c j)
      show ab (f i j - f i c / f c c * f c j) ≤ _
      omega

/-- How many numbers are not 0. -/
def nzc (g : Nat → Int) : Nat → Nat
  | 0 => 0
  | t + 1 => nzc g t + if g t = 0 then 0 else 1
theorem nzc_le (g : Nat → Int) : ∀ t, nzc g t ≤ t
  | 0 => Nat.le_refl 0
  | t + 1 => by have := nzc_le g t; unfold nzc; split <;> omega
theorem nzc_none {g : Nat → Int} : ∀ t, nzc g t = 0 → ∀ r, r < t → g r = 0
  | 0, _, r, hr => absurd hr (by omega)
  | t + 1, h, r, hr => by
    unfold nzc at h
    by_cases e : g t = 0
    · rw [if_pos e] at h
      by_cases er : r = t
      · rw [er]; exact e
      · exact nzc_none t (by omega) r (by omega)
    · rw [if_neg e] at h; omega
theorem nzc_zero {g : Nat → Int} : ∀ t, (∀ r, r < t → g r = 0) → nzc g t = 0
  | 0, _ => rfl
  | t + 1, h => by unfold nzc; rw [if_pos (h t (by omega)), nzc_zero t fun r hr => h r (by omega)]
/-- Just one number is not 0: all others are. -/
theorem nzc_one {g : Nat → Int} : ∀ t, nzc g t = 1 → ∀ b, b < t → g b ≠ 0 → ∀ r, r < t → r ≠ b → g r = 0
  | 0, _, b, hb, _, _, _, _ => absurd hb (by omega)
  | t + 1, h, b, hb, h0, r, hr, hne => by
    unfold nzc at h
    by_cases e : g t = 0
    · rw [if_pos e] at h
      by_cases er : r = t
      · rw [er]; exact e
      · exact nzc_one t (by omega) b (by have : b ≠ t := fun e' => h0 (by rw [e']; exact e); omega) h0 r (by omega) hne
    · rw [if_neg e] at h
      have hn := nzc_none (g := g) t (by omega)
      by_cases er : r = t
      · have hbt : b < t := by omega
        exact absurd (hn b hbt) h0
      · exact hn r (by omega)
theorem nzc_more {g : Nat → Int} {t b : Nat} (h : nzc g t ≠ 1) (hb : b < t) (h0 : g b ≠ 0) : ∃ r, r < t ∧ r ≠ b ∧ g r ≠ 0 := Classical.byContradiction fun hn => h (by
  have hz : ∀ r, r < t → r ≠ b → g r = 0 := fun r hr hne => Classical.byContradiction fun e => hn ⟨r, hr, hne, e⟩
  have key : ∀ s, s ≤ t → nzc g s = if b < s then 1 else 0 := fun s => by
    induction s with
    | zero => intro _; rw [if_neg (by omega)]; rfl
    | succ s ih =>
      intro hs
      have h1 := ih (by omega)
      unfold nzc
      by_cases e : s = b
      · rw [e] at h1 ⊢
        rw [if_neg h0, if_pos (by omega), h1, if_neg (by omega)]
      · rw [if_pos (hz s (by omega) e), h1]
        by_cases e2 : b < s
        · rw [if_pos e2, if_pos (by omega)]
        · rw [if_neg e2, if_neg (by omega)]
  rw [key t (Nat.le_refl t), if_pos hb])
/-- The row with the least number but 0 among those looked at. -/
def BstTo (c t : Nat) (f : Nat → Nat → Int) (b : Int) (m : Nat) : Prop :=
  m = nzc (fun r => f (c + r) c) (t - c) ∧
    ((b = -1 ∧ ∀ r, c ≤ r → r < t → f r c = 0) ∨ ∃ b' : Nat, b = (b' : Int) ∧ c ≤ b' ∧ b' < t ∧ f b' c ≠ 0 ∧ ∀ r, c ≤ r → r < t → f r c ≠ 0 → ab (f b' c) ≤ ab (f r c))
theorem BstTo.start (c : Nat) (f : Nat → Nat → Int) : BstTo c c f (-1) 0 := ⟨by rw [Nat.sub_self]; rfl, .inl ⟨rfl, fun r h1 h2 => absurd h2 (by omega)⟩⟩
theorem BstTo.snoc {c t : Nat} (f : Nat → Nat → Int) (ht : c ≤ t) : nzc (fun r => f (c + r) c) (t + 1 - c) = nzc (fun r => f (c + r) c) (t - c) + if f t c = 0 then 0 else 1 := by
  rw [show t + 1 - c = (t - c) + 1 by omega]
  show nzc _ (t - c) + (if f (c + (t - c)) c = 0 then 0 else 1) = _
  rw [show c + (t - c) = t by omega]
theorem BstTo.skip {c t m : Nat} {f : Nat → Nat → Int} {b : Int} (h : BstTo c t f b m) (ht : c ≤ t) (h0 : f t c = 0) : BstTo c (t + 1) f b m := by
  refine ⟨by rw [BstTo.snoc f ht, if_pos h0]; exact h.1, ?_⟩
  rcases h.2 with ⟨e, hz⟩ | ⟨b', e, h1, h2, h3, h4⟩
  · exact .inl ⟨e, fun r r1 r2 => by
      by_cases er : r = t
      · rw [er]; exact h0
      · exact hz r r1 (by omega)⟩
  · exact .inr ⟨b', e, h1, by omega, h3, fun r r1 r2 r3 => h4 r r1 (by
      have : r ≠ t := fun e' => r3 (by rw [e']; exact h0)
      omega) r3⟩
theorem BstTo.keep {c t m : Nat} {f : Nat → Nat → Int} {b : Nat} (h : BstTo c t f (b : Int) m) (ht : c ≤ t) (h0 : f t c ≠ 0) (hle : ab (f b c) ≤ ab (f t c)) : BstTo c (t + 1) f (b : Int) (m + 1) := by
  refine ⟨by rw [BstTo.snoc f ht, if_neg h0, ← h.1], ?_⟩
  rcases h.2 with ⟨e, hz⟩ | ⟨b', e, h1, h2, h3, h4⟩
  · omega
  · obtain rfl : b = b' := by omega
    exact .inr ⟨b, rfl, h1, by omega, h3, fun r r1 r2 r3 => by
      by_cases er : r = t
      · rw [er]; exact hle
      · exact h4 r r1 (by omega) r3⟩
theorem BstTo.take {c t m : Nat} {f : Nat → Nat → Int} {b : Int} (h : BstTo c t f b m) (ht : c ≤ t) (h0 : f t c ≠ 0) (hlt : b < 0 ∨ ∃ b' : Nat, b = (b' : Int) ∧ ab (f t c) < ab (f b' c)) : BstTo c (t + 1) f (t : Int) (m + 1) := by
  refine ⟨by rw [BstTo.snoc f ht, if_neg h0, ← h.1], .inr ⟨t, rfl, ht, by omega, h0, fun r r1 r2 r3 => ?_⟩⟩
  by_cases er : r = t
  · rw [er]; exact Int.le_refl _
  · rcases h.2 with ⟨e, hz⟩ | ⟨b', e, h1, h2, h3, h4⟩
    · exact absurd (hz r r1 (by omega)) r3
    · have a := h4 r r1 (by omega) r3
      rcases hlt with h5 | ⟨b2, e2, h5⟩
      · omega
      · obtain rfl : b' = b2 := by omega
        omega
/-- At the end: the best row, and whether others have numbers too. -/
theorem BstTo.end' {n c m : Nat} {f : Nat → Nat → Int} {b : Int} (h : BstTo c n f b m) (hs : ∃ r, c ≤ r ∧ r < n ∧ f r c ≠ 0) : ∃ b' : Nat, b = (b' : Int) ∧ Bst n c f b' ∧ m ≤ n ∧
    (m = 1 → ∀ r, c ≤ r → r < n → r ≠ b' → f r c = 0) ∧ (m ≠ 1 → ∃ r, c ≤ r ∧ r < n ∧ r ≠ b' ∧ f r c ≠ 0) := by
  rcases h.2 with ⟨e, hz⟩ | ⟨b', e, h1, h2, h3, h4⟩
  · obtain ⟨r, r1, r2, r3⟩ := hs
    exact absurd (hz r r1 r2) r3
  · have hm := h.1
    have hl := nzc_le (fun r => f (c + r) c) (n - c)
    have hb : (fun r => f (c + r) c) (b' - c) ≠ 0 := by
      show f (c + (b' - c)) c ≠ 0
      rw [show c + (b' - c) = b' by omega]; exact h3
    refine ⟨b', e, ⟨h1, h2, h3, h4⟩, by omega, fun m1 r r1 r2 rne => ?_, fun m1 => ?_⟩
    · have := nzc_one (n - c) (by rw [← hm]; exact m1) (b' - c) (by omega) hb (r - c) (by omega) (by omega)
      have e2 : f (c + (r - c)) c = 0 := this
      rwa [show c + (r - c) = r by omega] at e2
    · obtain ⟨r, r1, r2, r3⟩ := nzc_more (t := n - c) (b := b' - c) (by rw [← hm]; exact m1) (by omega) hb
      exact ⟨c + r, by omega, by omega, by omega, r3⟩
end Go.Proofs.YteobamakmmoljaaDoor.Zx
