/- Plain facts on elimination below the diagonal, in which a column without a pivot is passed over: the factors, what is left, the order of the rows; their product, the determinant. No program is named here. -/
import Derived.Test.YtldkamhknaflbaaMatA
import Derived.Test.YtldkamhknaflbaaMatG
namespace Go.Proofs.Ytldkamhknaflbaa
open Fp
set_option linter.unusedVariables false

theorem First.one {r : Nat} {f : Nat → Nat → F} {i j k l : Nat} (h : First r f i j k) (h' : First r f i j l) : k = l := by
  obtain ⟨a1, a2, a3, a4⟩ := h
  obtain ⟨b1, b2, b3, b4⟩ := h'
  rcases Nat.lt_trichotomy k l with e | e | e
  · exact absurd (b3 k a1 e) (a4 (by omega))
  · exact e
  · exact absurd (a3 l b1 e) (b4 (by omega))

namespace Mx

theorem pr_front (n : Nat) (g : Nat → F) : pr (n + 1) g = g 0 * pr n (fun i => g (i + 1)) := by
  induction n with
  | zero => show pr 0 g * g 0 = g 0 * pr 0 _; unfold pr; grind
  | succ n ih =>
    show pr (n + 1) g * g (n + 1) = g 0 * (pr n (fun i => g (i + 1)) * g (n + 1))
    rw [ih]; grind
theorem dt_low : ∀ (n : Nat) (f : Nat → Nat → F), (∀ i j, i < n → j < n → i < j → f i j = 0) → dt n f = pr n fun i => f i i
  | 0, _, _ => rfl
  | n + 1, f, h => by
    rw [dt_succ, sg_one (k := 0) (Nat.succ_pos n) (fun j hj hne => by rw [h 0 j (Nat.succ_pos n) hj (by omega)]; grind), pr_front]
    have e : dt n (del 0 f) = pr n fun i => f (i + 1) (i + 1) := by
      rw [dt_low n (del 0 f) fun i j hi hj hlt => by unfold del; rw [sk_zero]; exact h _ _ (by omega) (by omega) (by omega)]
      exact pr_congr fun i _ => by unfold del; rw [sk_zero]
    rw [e, show sgn 0 = 1 from rfl]
    grind
/-- With noughts below the diagonal: the product of the diagonal. -/
theorem dt_up (n : Nat) (f : Nat → Nat → F) (h : ∀ i j, i < n → j < n → j < i → f i j = 0) : dt n f = pr n fun i => f i i := by
  rw [← dt_flip]
  exact dt_low n (flip f) fun i j hi hj hlt => h j i hj hi hlt

/-- The rows in an order, the factors, and what is left. -/
structure Tri where
  s : Nat → Nat
  l : Nat → Nat → F
  u : Nat → Nat → F
/-- Rows c and k change places. -/
def Tri.swp (t : Tri) (c k : Nat) : Tri := ⟨fun i => t.s (sw c k i), fun i => t.l (sw c k i), fun i => t.u (sw c k i)⟩
/-- Row c is taken from the rows between c and d, so that nothing is left of them at column c. -/
def Tri.clr (t : Tri) (c d : Nat) : Tri :=
  ⟨t.s, fun i j => if c < i ∧ i < d ∧ j = c then t.u i c * Fp.inv (t.u c c) else t.l i j, fun i j => if c < i ∧ i < d then t.u i j - t.u i c * Fp.inv (t.u c c) * t.u c j else t.u i j⟩
theorem Tri.clr_start (t : Tri) (c p q : Nat) : t.l p q = (t.clr c (c + 1)).l p q ∧ t.u p q = (t.clr c (c + 1)).u p q := by
  unfold Tri.clr; simp only
  rw [if_neg (by omega), if_neg (by omega)]; exact ⟨rfl, rfl⟩
theorem Tri.clr_at (t : Tri) (c i q : Nat) : (t.clr c i).u i q = t.u i q ∧ (t.clr c i).u c q = t.u c q := by
  unfold Tri.clr; simp only
  rw [if_neg (by omega), if_neg (by omega)]; exact ⟨rfl, rfl⟩
theorem Tri.clr_l (t : Tri) {c i : Nat} (h : c < i) (p q : Nat) : (if p = i ∧ q = c then t.u i c * Fp.inv (t.u c c) else (t.clr c i).l p q) = (t.clr c (i + 1)).l p q := by
  unfold Tri.clr; simp only
  by_cases e : p = i ∧ q = c
  · rw [if_pos e, if_pos ⟨by omega, by omega, e.2⟩, e.1]
  · rw [if_neg e]
    by_cases e2 : c < p ∧ p < i ∧ q = c
    · rw [if_pos e2, if_pos ⟨e2.1, by omega, e2.2.2⟩]
    · rw [if_neg e2, if_neg (by omega)]
theorem Tri.clr_u (t : Tri) {c i : Nat} (h : c < i) (p q : Nat) : (if p = i then t.u i q - t.u i c * Fp.inv (t.u c c) * t.u c q else (t.clr c i).u p q) = (t.clr c (i + 1)).u p q := by
  unfold Tri.clr; simp only
  by_cases e : p = i
  · rw [if_pos e, if_pos ⟨by omega, by omega⟩, e]
  · rw [if_neg e]
    by_cases e2 : c < p ∧ p < i
    · rw [if_pos e2, if_pos ⟨e2.1, by omega⟩]
    · rw [if_neg e2, if_neg (by omega)]
def Tri.step (t : Tri) (n c k : Nat) : Tri := (t.swp c k).clr c n
def tri0 (m : Nat → Nat → F) : Tri := ⟨fun i => i, fun _ _ => 0, m⟩
/-- What comes of m behind c columns. -/
def LuTo (n : Nat) (m : Nat → Nat → F) : Nat → Tri → Prop
  | 0, t => t = tri0 m
  | c + 1, t => ∃ t0, LuTo n m c t0 ∧ ((First n t0.u c c n ∧ t = t0) ∨ ∃ k, k < n ∧ First n t0.u c c k ∧ t = t0.step n c k)
theorem LuTo.one {n : Nat} {m : Nat → Nat → F} : ∀ {c : Nat} {t t' : Tri}, LuTo n m c t → LuTo n m c t' → t = t'
  | 0, _, _, h, h' => Eq.trans h (Eq.symm h')
  | c + 1, t, t', ⟨t0, a, b⟩, ⟨t1, a', b'⟩ => by
    obtain rfl := a.one a'
    rcases b with ⟨b1, rfl⟩ | ⟨k, hk, b1, rfl⟩ <;> rcases b' with ⟨d1, rfl⟩ | ⟨k', hk', d1, rfl⟩
    · rfl
    · exact absurd (b1.one d1) (by omega)
    · exact absurd (d1.one b1) (by omega)
    · rw [b1.one d1]

theorem sw_ge {c k i j : Nat} (hk : c ≤ k) (hj : j < c) (hi : j < i) : j < sw c k i := by unfold sw; split <;> (try split) <;> omega
theorem sw_low {c k i : Nat} (hk : c ≤ k) (hi : i < c) : sw c k i = i := sw_none (by omega) (by omega)
theorem sw_same (c i : Nat) : sw c c i = i := by unfold sw; split <;> (try split) <;> omega

/-- What is known of it. -/
structure LuIs (n : Nat) (m : Nat → Nat → F) (c : Nat) (t : Tri) : Prop where
  lt : ∀ i, i < n → t.s i < n
  sn : sp n (fun i => (t.s i : Int)) = 1 ∨ sp n (fun i => (t.s i : Int)) = -1
  lz : ∀ i k, i < n → k < n → i ≤ k ∨ c ≤ k → t.l i k = 0
  uz : ∀ i j, i < n → j < c → j < i → t.u i j = 0
  back : ∀ i j, i < n → j < n → m (t.s i) j = t.u i j + sg n fun k => t.l i k * t.u k j
  det : dt n m = sp n (fun i => (t.s i : Int)) * dt n t.u
theorem LuIs.start (n : Nat) (m : Nat → Nat → F) : LuIs n m 0 (tri0 m) := by
  have hs : sp n (fun i => ((tri0 m).s i : Int)) = 1 := sp_id fun i _ => rfl
  refine ⟨fun i hi => hi, .inl hs, fun _ _ _ _ _ => rfl, fun i j _ hj _ => absurd hj (by omega), fun i j _ _ => ?_, ?_⟩
  · show m i j = m i j + sg n fun k => (0 : F) * m k j
    rw [show (fun k => (0 : F) * m k j) = fun _ => 0 from funext fun k => by grind, sg_none]; grind
  · rw [hs]; show dt n m = 1 * dt n m; grind
theorem LuIs.skip {n c : Nat} {m : Nat → Nat → F} {t : Tri} (h : LuIs n m c t) (hf : First n t.u c c n) : LuIs n m (c + 1) t := by
  refine ⟨h.lt, h.sn, fun i k hi hk hh => h.lz i k hi hk (by omega), fun i j hi hj hlt => ?_, h.back, h.det⟩
  by_cases e : j = c
  · subst e; exact hf.2.2.1 i (by omega) hi
  · exact h.uz i j hi (by omega) hlt
theorem LuIs.swp {n c k : Nat} {m : Nat → Nat → F} {t : Tri} (h : LuIs n m c t) (hc : c < n) (hk : c ≤ k) (hkn : k < n) : LuIs n m c (t.swp c k) := by
  have hσ : ∀ i, i < n → sw c k i < n := fun i hi => sw_lt hc hkn hi
  by_cases e : c = k
  · subst e
    rw [show t.swp c c = t by unfold Tri.swp; simp only [sw_same]]
    exact h
  have hsp : sp n (fun i => ((t.swp c k).s i : Int)) = -(sp n fun i => (t.s i : Int)) := sp_swap (fun i => (t.s i : Int)) hc hkn e
  refine ⟨fun i hi => h.lt _ (hσ i hi), ?_, fun i j hi hj hh => ?_, fun i j hi hj hlt => h.uz _ j (hσ i hi) hj (sw_ge hk hj hlt), fun i j hi hj => ?_, ?_⟩
  · rw [hsp]
    rcases h.sn with e1 | e1 <;> rw [e1]
    · exact .inr rfl
    · exact .inl (by grind)
  · show t.l (sw c k i) j = 0
    by_cases hcj : c ≤ j
    · exact h.lz _ _ (hσ i hi) hj (.inr hcj)
    · rw [sw_low hk (by omega)]; exact h.lz i j hi hj hh
  · show m (t.s (sw c k i)) j = t.u (sw c k i) j + sg n fun q => t.l (sw c k i) q * t.u (sw c k q) j
    rw [h.back _ j (hσ i hi) hj]
    congr 1
    refine sg_congr fun q hq => ?_
    by_cases hcq : c ≤ q
    · rw [h.lz _ q (hσ i hi) hq (.inr hcq)]; grind
    · rw [sw_low hk (show q < c by omega)]
  · rw [hsp, h.det, show dt n (t.swp c k).u = -(dt n t.u) from dt_rswap t.u hc hkn e]; grind
theorem less_is (a f u : F) : a - f * u = a + -f * u := by grind
theorem clr_det {n c : Nat} (t : Tri) (hc : c < n) : ∀ d, d ≤ n → dt n (t.clr c d).u = dt n t.u
  | 0, _ => dt_congr n fun i j _ _ => by unfold Tri.clr; simp only; rw [if_neg (by omega)]
  | d + 1, hd => by
    rw [← clr_det t hc d (by omega)]
    by_cases h : c < d
    · rw [← dt_add (t.clr c d).u (a := d) (b := c) (by omega) hc (by omega) (-(t.u d c * Fp.inv (t.u c c)))]
      refine dt_congr n fun i j _ _ => ?_
      unfold setr Tri.clr
      simp only
      by_cases e : i = d
      · subst e
        rw [if_pos ⟨h, by omega⟩, if_pos rfl, if_neg (by omega), if_neg (by omega)]; exact less_is _ _ _
      · rw [if_neg e]
        by_cases e2 : c < i ∧ i < d
        · rw [if_pos ⟨e2.1, by omega⟩, if_pos e2]
        · rw [if_neg (by omega), if_neg e2]
    · refine dt_congr n fun i j _ _ => ?_
      unfold Tri.clr
      simp only
      rw [if_neg (by omega), if_neg (by omega)]
theorem clear_one (a f u x y : F) : a + x = a - f * u + (x + f * u) := by grind
theorem clear_none {a u : F} (h : u ≠ 0) : a - a * Fp.inv u * u = 0 := by
  have := Fp.inv_mul h
  rw [show a * Fp.inv u * u = a * (Fp.inv u * u) by grind, this]; grind
theorem LuIs.clr {n c : Nat} {m : Nat → Nat → F} {t : Tri} (h : LuIs n m c t) (hc : c < n) (h0 : t.u c c ≠ 0) : LuIs n m (c + 1) (t.clr c n) := by
  refine ⟨h.lt, h.sn, fun i k hi hk hh => ?_, fun i j hi hj hlt => ?_, fun i j hi hj => ?_, ?_⟩
  · unfold Tri.clr; simp only
    rw [if_neg (by omega)]; exact h.lz i k hi hk (by omega)
  · unfold Tri.clr; simp only
    by_cases e : j = c
    · subst e
      rw [if_pos ⟨hlt, hi⟩]; exact clear_none h0
    · by_cases e2 : c < i
      · rw [if_pos ⟨e2, hi⟩, h.uz i j hi (by omega) hlt, h.uz c j hc (by omega) (by omega)]; grind
      · rw [if_neg (by omega)]; exact h.uz i j hi (by omega) hlt
  · show m (t.s i) j = (t.clr c n).u i j + sg n fun k => (t.clr c n).l i k * (t.clr c n).u k j
    rw [h.back i j hi hj]
    obtain ⟨g, hg⟩ : ∃ g, g = if c < i then t.u i c * Fp.inv (t.u c c) else 0 := ⟨_, rfl⟩
    have e1 : (sg n fun k => (t.clr c n).l i k * (t.clr c n).u k j) = sg n fun k => t.l i k * t.u k j + (if k = c then g * t.u c j else 0) := by
      refine sg_congr fun k hk => ?_
      unfold Tri.clr; simp only
      by_cases e : k = c
      · subst e
        rw [h.lz i k hi hk (.inr (Nat.le_refl k)), if_neg (c := k < k ∧ k < n) (by omega), if_pos rfl, hg]
        by_cases e2 : k < i
        · rw [if_pos ⟨e2, hi, rfl⟩, if_pos e2]; grind
        · rw [if_neg (by omega), if_neg e2]; grind
      · rw [if_neg (c := c < i ∧ i < n ∧ k = c) (by omega), if_neg (c := k = c) e]
        by_cases e2 : c < k
        · rw [h.lz i k hi hk (.inr (by omega))]; grind
        · rw [if_neg (by omega)]; grind
    have e3 : (sg n fun k => if k = c then g * t.u c j else 0) = g * t.u c j := by
      rw [sg_one (k := c) hc (fun k _ hne => if_neg hne), if_pos rfl]
    rw [e1, sg_add, e3, hg]
    unfold Tri.clr; simp only
    by_cases e2 : c < i
    · rw [if_pos ⟨e2, hi⟩, if_pos e2]; generalize (sg n fun k => t.l i k * t.u k j) = x; grind
    · rw [if_neg (by omega), if_neg e2]; generalize (sg n fun k => t.l i k * t.u k j) = x; grind
  · rw [clr_det t hc n (Nat.le_refl n)]; exact h.det
theorem LuTo.is {n : Nat} {m : Nat → Nat → F} : ∀ {c : Nat} {t : Tri}, c ≤ n → LuTo n m c t → LuIs n m c t
  | 0, t, _, h => by rw [show t = tri0 m from h]; exact LuIs.start n m
  | c + 1, t, hc, ⟨t0, a, b⟩ => by
    have ih := LuTo.is (show c ≤ n by omega) a
    rcases b with ⟨b1, rfl⟩ | ⟨k, hk, b1, rfl⟩
    · exact ih.skip b1
    · refine (ih.swp (by omega) b1.1 hk).clr (by omega) ?_
      show t0.u (sw c k c) c ≠ 0
      rw [sw_left]; exact b1.2.2.2 hk

/-- The factors, with 1 on the diagonal. -/
def Tri.low (t : Tri) : Nat → Nat → F := fun i j => if j = i then 1 else t.l i j
theorem LuIs.product {n : Nat} {m : Nat → Nat → F} {t : Tri} (h : LuIs n m n t) : Eqm n n (mul n t.low t.u) fun i j => m (t.s i) j := fun i j hi hj => by
  show (sg n fun k => t.low i k * t.u k j) = m (t.s i) j
  rw [h.back i j hi hj]
  have e1 : (sg n fun k => t.low i k * t.u k j) = sg n fun k => (if k = i then t.u i j else 0) + t.l i k * t.u k j := sg_congr fun k hk => by
    unfold Tri.low
    by_cases e : k = i
    · subst e; rw [if_pos rfl, if_pos rfl, h.lz k k hk hk (.inl (Nat.le_refl k))]; grind
    · rw [if_neg e, if_neg e]; grind
  rw [e1, sg_add, sg_one (k := i) hi (fun k _ hne => if_neg hne), if_pos rfl]
theorem LuIs.low {n : Nat} {m : Nat → Nat → F} {t : Tri} (h : LuIs n m n t) {i j : Nat} (hi : i < n) (hj : j < n) (hlt : i < j) : t.low i j = 0 := by
  unfold Tri.low
  rw [if_neg (by omega)]; exact h.lz i j hi hj (.inl (by omega))
theorem Tri.low_one (t : Tri) (i : Nat) : t.low i i = 1 := if_pos rfl
theorem LuIs.middle {n : Nat} {m : Nat → Nat → F} {t : Tri} (h : LuIs n m n t) : sp n (fun i => (t.s i : Int)) * pr n (fun i => t.u i i) = dt n m := by
  rw [h.det, dt_up n t.u fun i j hi hj hlt => h.uz i j hi hj hlt]

end Mx
end Go.Proofs.Ytldkamhknaflbaa
