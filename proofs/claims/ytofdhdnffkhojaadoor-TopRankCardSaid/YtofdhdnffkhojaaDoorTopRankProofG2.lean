/- Several texts, one behind the other: MatA, DeM, Clone, OwnH, DeC1, Sqr, PartF, MatG, GaC1, DeC2, DeC3, MiC, MatL, MiC2, MatI, Bz, Fld, InC2, RowsG, ShM, DeFact. -/
import Derived.Test.YtofdhdnffkhojaaDoorTopRankProofG1
import Derived.StillTailTactics
import Derived.Deep.LoopGhost
import Derived.Deep.RegionHeld3

/- Plain facts on determinants over the field: of a product, of the transposed, in the rows; signs of orders. No program is named here. -/
namespace Go.Proofs.YtofdhdnffkhojaaDoor.Mx
open Fp
set_option linter.unusedVariables false

/-- As many different ones among as many: all of them. -/
theorem perm_of : ∀ (r l : List Nat), r.Nodup → (∀ x ∈ r, x ∈ l) → l.length = r.length → l.Perm r
  | [], l, _, _, h => by
    have : l = [] := List.eq_nil_of_length_eq_zero (by simpa using h)
    rw [this]
  | x :: r, l, hn, hm, h => by
    have hx : x ∈ l := hm x List.mem_cons_self
    have h1 := List.perm_cons_erase hx
    obtain ⟨n1, n2⟩ := List.nodup_cons.1 hn
    have h2 := perm_of r (l.erase x) n2 (fun y hy => by
      have hne : y ≠ x := fun e => n1 (by rw [← e]; exact hy)
      exact (List.mem_erase_of_ne hne).2 (hm y (List.mem_cons_of_mem _ hy))) (by
      rw [List.length_erase_of_mem hx, h]; simp)
    exact h1.trans (h2.cons x)
/-- A rule that takes n to n and never twice the same takes each. -/
theorem onto {n : Nat} {s : Nat → Nat} (hs : ∀ i, i < n → s i < n) (hi : ∀ i j, i < n → j < n → s i = s j → i = j) {k : Nat} (hk : k < n) : ∃ i, i < n ∧ s i = k := by
  have hnd : ((List.range n).map s).Nodup := by
    rw [List.nodup_iff_pairwise_ne, List.pairwise_map]
    refine List.Pairwise.imp_of_mem ?_ (List.nodup_range (n := n))
    intro a b ha hb hne e
    exact hne (hi a b (List.mem_range.1 ha) (List.mem_range.1 hb) e)
  have hp := perm_of ((List.range n).map s) (List.range n) hnd (fun x hx => by
    obtain ⟨i, h1, rfl⟩ := List.mem_map.1 hx
    exact List.mem_range.2 (hs i (List.mem_range.1 h1))) (by simp)
  have := (hp.mem_iff (a := k)).1 (List.mem_range.2 hk)
  obtain ⟨i, h1, h2⟩ := List.mem_map.1 this
  exact ⟨i, List.mem_range.1 h1, h2⟩
/-- A rule that misses none of n has no two alike. -/
theorem into {n : Nat} {s : Nat → Nat} (hs : ∀ k, k < n → ∃ i, i < n ∧ s i = k) : (∀ i, i < n → s i < n) ∧ ∀ i j, i < n → j < n → s i = s j → i = j := by
  have hp := perm_of (List.range n) ((List.range n).map s) List.nodup_range (fun x hx => by
    obtain ⟨i, h1, h2⟩ := hs x (List.mem_range.1 hx)
    exact List.mem_map.2 ⟨i, List.mem_range.2 h1, h2⟩) (by simp)
  refine ⟨fun i hi => List.mem_range.1 (hp.mem_iff.1 (List.mem_map.2 ⟨i, List.mem_range.2 hi, rfl⟩)), ?_⟩
  have hnd : ((List.range n).map s).Nodup := hp.nodup_iff.2 List.nodup_range
  rw [List.nodup_iff_pairwise_ne, List.pairwise_iff_getElem] at hnd
  intro i j hi hj e
  refine Classical.byContradiction fun hne => ?_
  rcases Nat.lt_or_ge i j with h | h
  · exact hnd i j (by simpa using hi) (by simpa using hj) h (by simpa using e)
  · exact hnd j i (by simpa using hj) (by simpa using hi) (by omega) (by simpa using e.symm)

/-- Linear in each column, and nought with two equal columns. -/
structure Alt (n : Nat) (M : (Nat → Nat → F) → F) : Prop where
  congr : ∀ f g, Eqm n n f g → M f = M g
  lin : ∀ c, c < n → ∀ (a b : F) (u w : Nat → F) (f : Nat → Nat → F), M (setc c (fun i => a * u i + b * w i) f) = a * M (setc c u f) + b * M (setc c w f)
  zero : ∀ c d, c < n → d < n → c ≠ d → ∀ (w : Nat → F) (f : Nat → Nat → F), M (setc c w (setc d w f)) = 0
theorem Alt.plus {n : Nat} {M : (Nat → Nat → F) → F} (h : Alt n M) {c : Nat} (hc : c < n) (u w : Nat → F) (f : Nat → Nat → F) : M (setc c (fun i => u i + w i) f) = M (setc c u f) + M (setc c w f) := by
  have := h.lin c hc 1 1 u w f
  rw [show (fun i => (1 : F) * u i + 1 * w i) = fun i => u i + w i by funext i; grind] at this
  rw [this]; grind
theorem Alt.times {n : Nat} {M : (Nat → Nat → F) → F} (h : Alt n M) {c : Nat} (hc : c < n) (a : F) (u : Nat → F) (f : Nat → Nat → F) : M (setc c (fun i => a * u i) f) = a * M (setc c u f) := by
  have := h.lin c hc a 0 u u f
  rw [show (fun i => a * u i + 0 * u i) = fun i => a * u i by funext i; grind] at this
  rw [this]; grind
theorem Alt.sum {n : Nat} {M : (Nat → Nat → F) → F} (h : Alt n M) {c : Nat} (hc : c < n) (f : Nat → Nat → F) (a : Nat → F) (u : Nat → Nat → F) : ∀ m, M (setc c (fun i => sg m fun t => a t * u t i) f) = sg m fun t => a t * M (setc c (u t) f)
  | 0 => by
    have := h.times hc 0 (fun _ => 0) f
    rw [show (fun i => (0 : F) * (fun _ => 0) i) = fun _ => (0 : F) by funext i; grind] at this
    show M (setc c (fun _ => 0) f) = 0
    rw [this]; grind
  | m + 1 => by
    have := h.plus hc (fun i => sg m fun t => a t * u t i) (fun i => a m * u m i) f
    rw [h.times hc, h.sum hc f a u m] at this
    exact this
theorem Alt.anti {n : Nat} {M : (Nat → Nat → F) → F} (h : Alt n M) {c d : Nat} (hc : c < n) (hd : d < n) (hne : c ≠ d) (u w : Nat → F) (f : Nat → Nat → F) :
    M (setc c u (setc d w f)) = -(M (setc c w (setc d u f))) := by
  have h0 := h.zero c d hc hd hne (fun i => u i + w i) f
  rw [h.plus hc, setc_comm hne u, setc_comm hne w, h.plus hd, h.plus hd, ← setc_comm hne, ← setc_comm hne, ← setc_comm hne, ← setc_comm hne, h.zero c d hc hd hne u, h.zero c d hc hd hne w] at h0
  grind
theorem dt_alt (n : Nat) : Alt n (dt n) := ⟨fun f g h => dt_congr n h, fun c hc a b u w f => dt_lin n c hc a b u w f, fun c d hc hd hne w f => dt_equal hc hd hne w f⟩

/-- Each column is one of those of the unit matrix. -/
def pick (s : Nat → Nat) : Nat → Nat → F := fun i j => if i = s j then 1 else 0
/-- Two places change. -/
def sw (a b : Nat) (j : Nat) : Nat := if j = a then b else if j = b then a else j
theorem sw_left (a b : Nat) : sw a b a = b := by unfold sw; rw [if_pos rfl]
theorem sw_right (a b : Nat) : sw a b b = a := by
  unfold sw
  by_cases h : b = a
  · rw [if_pos h]; exact h
  · rw [if_neg h, if_pos rfl]
theorem sw_none {a b j : Nat} (h1 : j ≠ a) (h2 : j ≠ b) : sw a b j = j := by unfold sw; rw [if_neg h1, if_neg h2]
theorem sw_sw (a b j : Nat) : sw a b (sw a b j) = j := by
  by_cases h1 : j = a
  · subst h1; rw [sw_left, sw_right]
  · by_cases h2 : j = b
    · subst h2; rw [sw_right, sw_left]
    · rw [sw_none h1 h2, sw_none h1 h2]
theorem sw_lt {a b j n : Nat} (ha : a < n) (hb : b < n) (hj : j < n) : sw a b j < n := by
  unfold sw
  by_cases h1 : j = a
  · rw [if_pos h1]; exact hb
  · rw [if_neg h1]
    by_cases h2 : j = b
    · rw [if_pos h2]; exact ha
    · rw [if_neg h2]; exact hj
theorem sw_inj {a b i j : Nat} (h : sw a b i = sw a b j) : i = j := by rw [← sw_sw a b i, h, sw_sw]
theorem pick_sw (s : Nat → Nat) (a b : Nat) : pick (fun j => s (sw a b j)) = setc a (fun i => pick s i b) (setc b (fun i => pick s i a) (pick s)) := by
  funext i j
  show (if i = s (sw a b j) then (1 : F) else 0) = if j = a then pick s i b else if j = b then pick s i a else pick s i j
  by_cases h1 : j = a
  · rw [if_pos h1, h1, sw_left]; rfl
  · rw [if_neg h1]
    by_cases h2 : j = b
    · rw [if_pos h2, h2, sw_right]; rfl
    · rw [if_neg h2, sw_none h1 h2]; rfl
theorem Alt.swap {n : Nat} {M : (Nat → Nat → F) → F} (h : Alt n M) {c d : Nat} (hc : c < n) (hd : d < n) (hne : c ≠ d) (f : Nat → Nat → F) : M (setc c (fun i => f i d) (setc d (fun i => f i c) f)) = -(M f) := by
  rw [h.anti hc hd hne]
  have : setc c (fun i => f i c) (setc d (fun i => f i d) f) = f := by rw [setc_self d, setc_self c]
  rw [this]
theorem Alt.pick_swap {n : Nat} {M : (Nat → Nat → F) → F} (h : Alt n M) (s : Nat → Nat) {a b : Nat} (ha : a < n) (hb : b < n) (hne : a ≠ b) : M (pick (fun j => s (sw a b j))) = -(M (pick s)) := by
  rw [pick_sw, h.swap ha hb hne]
theorem Alt.same {n : Nat} {M : (Nat → Nat → F) → F} (h : Alt n M) (f : Nat → Nat → F) {c d : Nat} (hc : c < n) (hd : d < n) (hne : c ≠ d) (e : ∀ i, f i c = f i d) : M f = 0 := by
  have h0 := h.zero c d hc hd hne (fun i => f i d) f
  rw [setc_self, show (fun i => f i d) = fun i => f i c from funext fun i => (e i).symm, setc_self] at h0
  exact h0
/-- Rules that take n to n, never twice the same: all come of the first one by exchanges. -/
theorem by_swaps {n : Nat} {P : (Nat → Nat) → Prop} (h0 : ∀ s, (∀ j, j < n → s j = j) → P s)
    (h1 : ∀ s a b, a < n → b < n → a ≠ b → (∀ i, i < n → s i < n) → (∀ i j, i < n → j < n → s i = s j → i = j) → P (fun j => s (sw a b j)) → P s) :
    ∀ (m at' : Nat) (s : Nat → Nat), at' + m = n → (∀ i, i < n → s i < n) → (∀ i j, i < n → j < n → s i = s j → i = j) → (∀ j, j < at' → s j = j) → P s
  | 0, at', s, hm, _, _, hf => h0 s fun j hj => hf j (by omega)
  | m + 1, at', s, hm, hs, hi, hf => by
    obtain ⟨k, hk, e⟩ := onto hs hi (k := at') (by omega)
    have hge : at' ≤ k := by
      refine Classical.byContradiction fun hn => ?_
      have := hf k (by omega); omega
    by_cases hka : k = at'
    · refine by_swaps h0 h1 m (at' + 1) s (by omega) hs hi fun j hj => ?_
      by_cases h : j = at'
      · rw [h, ← hka, e, hka]
      · exact hf j (by omega)
    · refine h1 s at' k (by omega) hk (fun e => hka e.symm) hs hi ?_
      refine by_swaps h0 h1 m (at' + 1) _ (by omega) (fun i hi' => hs _ (sw_lt (by omega) hk hi')) (fun i j h2 h3 e2 => sw_inj (hi _ _ (sw_lt (by omega) hk h2) (sw_lt (by omega) hk h3) e2)) fun j hj => ?_
      show s (sw at' k j) = j
      by_cases h : j = at'
      · rw [h, sw_left, e]
      · rw [sw_none h (by omega)]; exact hf j (by omega)
theorem sg_pick {n : Nat} (s : Nat → Nat) (j : Nat) (hs : s j < n) (a : Nat → F) : sg n (fun t => a t * pick s t j) = a (s j) := by
  rw [sg_one hs fun t _ hne => by show a t * (if t = s j then (1 : F) else 0) = 0; rw [if_neg hne]; grind]
  show a (s j) * (if s j = s j then (1 : F) else 0) = a (s j)
  rw [if_pos rfl]; grind
theorem sk_zero (b : Nat) : sk 0 b = b + 1 := by unfold sk; rw [if_neg (Nat.not_lt_zero b)]
theorem dt_one : ∀ n, dt n one = 1
  | 0 => rfl
  | n + 1 => by
    rw [dt_succ, sg_one (Nat.succ_pos n) fun j _ hne => by show sgn j * (if 0 = j then (1 : F) else 0) * _ = 0; rw [if_neg (fun e => hne e.symm)]; grind]
    have : dt n (del 0 one) = dt n one := dt_congr n fun a b _ _ => by
      show (if a + 1 = sk 0 b then (1 : F) else 0) = if a = b then (1 : F) else 0
      rw [sk_zero]
      by_cases h : a = b
      · rw [if_pos h, if_pos (by omega)]
      · rw [if_neg h, if_neg (by omega)]
    rw [this, dt_one n]
    show sgn 0 * (if 0 = 0 then (1 : F) else 0) * 1 = 1
    rw [if_pos rfl, show sgn 0 = 1 from rfl]; grind
/-- Of all columns that are columns of the unit matrix. -/
theorem Alt.picked {n : Nat} {M : (Nat → Nat → F) → F} (h : Alt n M) (s : Nat → Nat) (hs : ∀ i, i < n → s i < n) : M (pick s) = M one * dt n (pick s) := by
  by_cases hi : ∀ i j, i < n → j < n → s i = s j → i = j
  · refine by_swaps (P := fun s => M (pick s) = M one * dt n (pick s)) (fun s hf => ?_) (fun s a b ha hb hne _ _ e => ?_) n 0 s (by omega) hs hi (fun j hj => absurd hj (by omega))
    · have : Eqm n n (pick s) one := fun i j _ hj => by show (if i = s j then (1 : F) else 0) = if i = j then 1 else 0; rw [hf j hj]
      rw [h.congr _ _ this, dt_congr n this, dt_one]; grind
    · rw [h.pick_swap s ha hb hne, (dt_alt n).pick_swap s ha hb hne] at e
      grind
  · obtain ⟨c, hn⟩ := Classical.not_forall.1 hi
    obtain ⟨d, hn⟩ := Classical.not_forall.1 hn
    obtain ⟨hc, hn⟩ := Classical.not_imp.1 hn
    obtain ⟨hd, hn⟩ := Classical.not_imp.1 hn
    obtain ⟨e, hne⟩ := Classical.not_imp.1 hn
    have e1 : ∀ i, pick s i c = pick s i d := fun i => by show (if i = s c then (1 : F) else 0) = if i = s d then 1 else 0; rw [e]
    rw [h.same _ hc hd hne e1, (dt_alt n).same _ hc hd hne e1]; grind
/-- The first k columns are columns of the unit matrix, the others as they come. -/
def front (k : Nat) (s : Nat → Nat) (f : Nat → Nat → F) : Nat → Nat → F := fun i j => if j < k then pick s i j else f i j
theorem Alt.fronts {n : Nat} {M : (Nat → Nat → F) → F} (h : Alt n M) : ∀ (m k : Nat) (s : Nat → Nat) (f : Nat → Nat → F), k + m = n → (∀ i, i < n → s i < n) → M (front k s f) = M one * dt n (front k s f)
  | 0, k, s, f, hm, hs => by
    have : Eqm n n (front k s f) (pick s) := fun i j _ hj => by unfold front; rw [if_pos (by omega)]
    rw [h.congr _ _ this, dt_congr n this]; exact h.picked s hs
  | m + 1, k, s, f, hm, hs => by
    have hk : k < n := by omega
    have e : Eqm n n (front k s f) (setc k (fun i => sg n fun t => f t k * one i t) (front k s f)) := fun i j hi hj => by
      show front k s f i j = if j = k then sg n (fun t => f t k * one i t) else front k s f i j
      by_cases hjk : j = k
      · rw [if_pos hjk, sg_one hi fun t _ hne => by show f t k * (if i = t then (1 : F) else 0) = 0; rw [if_neg (fun e => hne e.symm)]; grind]
        show (if j < k then _ else f i j) = f i k * (if i = i then (1 : F) else 0)
        rw [if_neg (by omega), if_pos rfl, hjk]; grind
      · rw [if_neg hjk]
    rw [h.congr _ _ e, dt_congr n e, h.sum hk, (dt_alt n).sum hk, ← sg_times]
    refine sg_congr fun t ht => ?_
    have e2 : setc k (fun i => one i t) (front k s f) = front (k + 1) (fun j => if j = k then t else s j) f := by
      funext i j
      show (if j = k then one i t else if j < k then pick s i j else f i j) = if j < k + 1 then (if i = (if j = k then t else s j) then (1 : F) else 0) else f i j
      by_cases h1 : j = k
      · rw [if_pos h1, if_pos (by omega), if_pos h1]; rfl
      · rw [if_neg h1, if_neg h1]
        by_cases h2 : j < k
        · rw [if_pos h2, if_pos (by omega)]; rfl
        · rw [if_neg h2, if_neg (by omega)]
    rw [e2, h.fronts m (k + 1) _ f (by omega) fun i hi => by
      by_cases h1 : i = k
      · rw [if_pos h1]; exact ht
      · rw [if_neg h1]; exact hs i hi]
    grind
/-- There is one such rule, up to what it says of the unit matrix. -/
theorem Alt.is {n : Nat} {M : (Nat → Nat → F) → F} (h : Alt n M) (f : Nat → Nat → F) : M f = M one * dt n f := by
  have := h.fronts n 0 (fun _ => 0) f (by omega)
  by_cases hn : n = 0
  · subst hn
    rw [h.congr f one fun i j hi => absurd hi (by omega)]
    show M one = M one * 1
    grind
  · have := this fun i hi => by omega
    exact this

theorem mul_setc (n c : Nat) (f : Nat → Nat → F) (u : Nat → F) (g : Nat → Nat → F) : mul n f (setc c u g) = setc c (fun i => sg n fun x => f i x * u x) (mul n f g) := by
  funext i j
  show sg n (fun x => f i x * (if j = c then u x else g x j)) = if j = c then sg n (fun x => f i x * u x) else sg n (fun x => f i x * g x j)
  by_cases h : j = c
  · rw [if_pos h]; exact sg_congr fun x _ => by rw [if_pos h]
  · rw [if_neg h]; exact sg_congr fun x _ => by rw [if_neg h]
/-- Cauchy, Binet. -/
theorem dt_mul (n : Nat) (f g : Nat → Nat → F) : dt n (mul n f g) = dt n f * dt n g := by
  have h : Alt n fun g => dt n (mul n f g) := by
    refine ⟨fun a b e => dt_congr n ((Eqm.rfl' n n f).mul e), fun c hc a b u w k => ?_, fun c d hc hd hne w k => ?_⟩
    · rw [mul_setc, mul_setc, mul_setc]
      have : (fun i => sg n fun x => f i x * (a * u x + b * w x)) = fun i => a * (sg n fun x => f i x * u x) + b * (sg n fun x => f i x * w x) := by
        funext i
        rw [← sg_times, ← sg_times, ← sg_add]
        exact sg_congr fun x _ => by grind
      rw [this]; exact dt_lin n c hc a b _ _ _
    · rw [mul_setc, mul_setc]; exact dt_equal hc hd hne _ _
  have := h.is g
  rw [this, show dt n (mul n f one) = dt n f from dt_congr n (mul_one n n f)]

/-- Row r in the place of its own. -/
def setr (r : Nat) (u : Nat → F) (f : Nat → Nat → F) : Nat → Nat → F := fun i j => if i = r then u j else f i j
theorem setr_flip (r : Nat) (u : Nat → F) (f : Nat → Nat → F) : setr r u f = flip (setc r u (flip f)) := rfl
theorem del_setr_zero (j : Nat) (u : Nat → F) (f : Nat → Nat → F) : del j (setr 0 u f) = del j f := by
  funext a b
  show (if a + 1 = 0 then u (sk j b) else f (a + 1) (sk j b)) = f (a + 1) (sk j b)
  rw [if_neg (by omega)]
theorem del_setr (j r : Nat) (u : Nat → F) (f : Nat → Nat → F) : del j (setr (r + 1) u f) = setr r (fun b => u (sk j b)) (del j f) := by
  funext a b
  show (if a + 1 = r + 1 then u (sk j b) else f (a + 1) (sk j b)) = if a = r then u (sk j b) else f (a + 1) (sk j b)
  by_cases h : a = r
  · rw [if_pos h, if_pos (by omega)]
  · rw [if_neg h, if_neg (by omega)]
/-- Linear in each row. -/
theorem dt_rlin : ∀ (n r : Nat) (hr : r < n) (a b : F) (u w : Nat → F) (f : Nat → Nat → F),
    dt n (setr r (fun j => a * u j + b * w j) f) = a * dt n (setr r u f) + b * dt n (setr r w f)
  | 0, r, hr, _, _, _, _, _ => absurd hr (by omega)
  | n + 1, 0, _, a, b, u, w, f => by
    rw [dt_succ, dt_succ, dt_succ, ← sg_times, ← sg_times, ← sg_add]
    refine sg_congr fun j hj => ?_
    rw [del_setr_zero, del_setr_zero, del_setr_zero]
    show sgn j * (a * u j + b * w j) * dt n (del j f) = a * (sgn j * u j * dt n (del j f)) + b * (sgn j * w j * dt n (del j f))
    grind
  | n + 1, r + 1, hr, a, b, u, w, f => by
    rw [dt_succ, dt_succ, dt_succ, ← sg_times, ← sg_times, ← sg_add]
    refine sg_congr fun j hj => ?_
    rw [del_setr, del_setr, del_setr, dt_rlin n r (by omega) a b (fun b => u (sk j b)) (fun b => w (sk j b))]
    have : ∀ v : Nat → F, setr (r + 1) v f 0 j = f 0 j := fun v => by show (if 0 = r + 1 then v j else f 0 j) = f 0 j; rw [if_neg (by omega)]
    rw [this, this, this]; grind
/-- Two equal rows. -/
theorem dt_rows {n : Nat} {f : Nat → Nat → F} {r s : Nat} (hr : r < n) (hs : s < n) (hne : r ≠ s) (e : ∀ j, j < n → f r j = f s j) : dt n f = 0 := by
  have h1 : Eqm n n (mul n (setr r (fun j => one s j) one) f) f := fun i j hi hj => by
    show sg n (fun x => (if i = r then one s x else one i x) * f x j) = f i j
    by_cases h : i = r
    · rw [sg_congr (g := fun x => one s x * f x j) fun x _ => by rw [if_pos h]]
      have := one_mul n n f s j hs hj
      exact this.trans (by rw [h, e j hj])
    · rw [sg_congr (g := fun x => one i x * f x j) fun x _ => by rw [if_neg h]]
      exact one_mul n n f i j hi hj
  have h2 : dt n (setr r (fun j => one s j) one) = 0 := by
    have : Eqm n n (setr r (fun j => one s j) one) (setc r (fun i => (0 : F) * 0) (setr r (fun j => one s j) one)) := fun i j hi hj => by
      show (if i = r then one s j else one i j) = if j = r then (0 : F) * 0 else if i = r then one s j else one i j
      by_cases hj : j = r
      · rw [if_pos hj]
        by_cases hi : i = r
        · rw [if_pos hi]; show (if s = j then (1 : F) else 0) = 0 * 0; rw [if_neg (by omega)]; rfl
        · rw [if_neg hi]; show (if i = j then (1 : F) else 0) = 0 * 0; rw [if_neg (by omega)]; rfl
      · rw [if_neg hj]
    rw [dt_congr n this, dt_times n r hr 0 (fun _ => 0)]; grind
  rw [← dt_congr n h1, dt_mul, h2]; grind
theorem dt_flip (n : Nat) (f : Nat → Nat → F) : dt n (flip f) = dt n f := by
  have h : Alt n fun g => dt n (flip g) := by
    refine ⟨fun a b e => dt_congr n fun i j hi hj => e j i hj hi, fun c hc a b u w k => dt_rlin n c hc a b u w (flip k), fun c d hc hd hne w k => ?_⟩
    refine dt_rows hc hd hne fun j _ => ?_
    show (if c = c then w j else _) = if d = c then w j else if d = d then w j else _
    rw [if_pos rfl, if_neg (fun e => hne e.symm), if_pos rfl]
  have := h.is f
  rw [this, show dt n (flip one) = 1 from (dt_congr n fun i j _ _ => by show (if j = i then (1 : F) else 0) = if i = j then 1 else 0; by_cases e : i = j <;> simp [e, eq_comm]).trans (dt_one n)]
  grind
/-- Two rows change places. -/
theorem dt_rswap {n : Nat} (f : Nat → Nat → F) {a b : Nat} (ha : a < n) (hb : b < n) (hne : a ≠ b) : dt n (fun i j => f (sw a b i) j) = -(dt n f) := by
  rw [← dt_flip n f, ← dt_flip n fun i j => f (sw a b i) j, ← (dt_alt n).swap ha hb hne]
  congr 1
  funext i j
  show f (sw a b j) i = if j = a then f b i else if j = b then f a i else f j i
  by_cases h1 : j = a
  · rw [if_pos h1, h1, sw_left]
  · rw [if_neg h1]
    by_cases h2 : j = b
    · rw [if_pos h2, h2, sw_right]
    · rw [if_neg h2, sw_none h1 h2]
theorem dt_cswap {n : Nat} (f : Nat → Nat → F) {a b : Nat} (ha : a < n) (hb : b < n) (hne : a ≠ b) : dt n (fun i j => f i (sw a b j)) = -(dt n f) := by
  rw [← dt_flip n f, ← dt_flip n fun i j => f i (sw a b j)]
  exact dt_rswap (flip f) ha hb hne
theorem setr_self (r : Nat) (f : Nat → Nat → F) : setr r (fun j => f r j) f = f := by
  funext i j
  show (if i = r then f r j else f i j) = f i j
  by_cases h : i = r
  · rw [if_pos h, h]
  · rw [if_neg h]
/-- So many times one row added to another one. -/
theorem dt_add {n : Nat} (f : Nat → Nat → F) {a b : Nat} (ha : a < n) (hb : b < n) (hne : a ≠ b) (k : F) : dt n (setr a (fun j => f a j + k * f b j) f) = dt n f := by
  have h := dt_rlin n a ha 1 k (fun j => f a j) (fun j => f b j) f
  rw [show (fun j => (1 : F) * f a j + k * f b j) = fun j => f a j + k * f b j by funext j; grind, setr_self] at h
  have h2 : dt n (setr a (fun j => f b j) f) = 0 := dt_rows ha hb hne fun j _ => by
    show (if a = a then f b j else f a j) = if b = a then f b j else f b j
    rw [if_pos rfl, if_neg (fun e => hne e.symm)]
  rw [h, h2]; grind
theorem dt_scale {n : Nat} (f : Nat → Nat → F) {a : Nat} (ha : a < n) (k : F) : dt n (setr a (fun j => k * f a j) f) = k * dt n f := by
  have h := dt_rlin n a ha k 0 (fun j => f a j) (fun j => f a j) f
  rw [show (fun j => k * f a j + (0 : F) * f a j) = fun j => k * f a j by funext j; grind, setr_self] at h
  rw [h]; grind
theorem dt_rplus {n : Nat} (f : Nat → Nat → F) {a : Nat} (ha : a < n) (u : Nat → F) : dt n (setr a (fun j => f a j + u j) f) = dt n f + dt n (setr a u f) := by
  have h := dt_rlin n a ha 1 1 (fun j => f a j) u f
  rw [show (fun j => (1 : F) * f a j + 1 * u j) = fun j => f a j + u j by funext j; grind, setr_self] at h
  rw [h]; grind

theorem dt_zrow {n : Nat} {f : Nat → Nat → F} {k : Nat} (hk : k < n) (h : ∀ j, j < n → f k j = 0) : dt n f = 0 := by
  have h1 := dt_scale f hk 0
  rw [show (0 : F) * dt n f = 0 by grind] at h1
  rw [← h1]
  refine dt_congr n fun i j hi hj => ?_
  show f i j = if i = k then (0 : F) * f k j else f i j
  by_cases e : i = k
  · rw [if_pos e, e, h j hj]; grind
  · rw [if_neg e]
/-- The sign of an order of whole numbers: the determinant of its matrix. -/
def sp (n : Nat) (s : Nat → Int) : F := dt n fun i j => if s i = (j : Int) then 1 else 0
theorem sp_congr {n : Nat} {s t : Nat → Int} (h : ∀ i, i < n → s i = t i) : sp n s = sp n t := dt_congr n fun i j hi _ => by rw [h i hi]
theorem sp_id {n : Nat} {s : Nat → Int} (h : ∀ i, i < n → s i = (i : Int)) : sp n s = 1 := by
  rw [← dt_one n]
  refine dt_congr n fun i j hi _ => ?_
  rw [h i hi]
  show (if (i : Int) = (j : Int) then (1 : F) else 0) = if i = j then 1 else 0
  by_cases e : i = j
  · rw [if_pos e, if_pos (by omega)]
  · rw [if_neg e, if_neg (by omega)]
theorem sp_swap {n : Nat} (s : Nat → Int) {a b : Nat} (ha : a < n) (hb : b < n) (hne : a ≠ b) : sp n (fun i => s (sw a b i)) = -(sp n s) :=
  dt_rswap (fun i j => if s i = (j : Int) then 1 else 0) ha hb hne
theorem sp_out {n : Nat} {s : Nat → Int} {k : Nat} (hk : k < n) (h : s k < 0 ∨ (n : Int) ≤ s k) : sp n s = 0 := dt_zrow hk fun j hj => by rw [if_neg (by omega)]
theorem sp_twice {n : Nat} {s : Nat → Int} {a b : Nat} (ha : a < n) (hb : b < n) (hne : a ≠ b) (h : s a = s b) : sp n s = 0 := dt_rows ha hb hne fun j _ => by rw [h]
/-- Only of n numbers, each once, is there a sign. -/
theorem sp_miss {n : Nat} {s : Nat → Int} {k : Nat} (hk : k < n) (h : ∀ i, i < n → s i ≠ (k : Int)) : sp n s = 0 := by
  unfold sp
  have e : Eqm n n (fun i j => if s i = (j : Int) then (1 : F) else 0) (setc k (fun i => (0 : F) * 0) (fun i j => if s i = (j : Int) then (1 : F) else 0)) := fun i j hi hj => by
    show (if s i = (j : Int) then (1 : F) else 0) = if j = k then (0 : F) * 0 else if s i = (j : Int) then 1 else 0
    by_cases e : j = k
    · rw [if_pos e, e, if_neg (h i hi)]; grind
    · rw [if_neg e]
  rw [dt_congr n e, dt_times n k hk 0 (fun _ => 0)]; grind

/-- One place after the other has its own number, the others as they are, and what stood at the first place comes last: places t and before. -/
def turn (e t : Nat) (b : Nat) : Nat := if b < t then b + 1 else if b = t then 0 else sk e b
theorem turn_next (e t : Nat) (ht : t + 1 < e) : (fun b => turn e (t + 1) b) = fun b => turn e t (sw t (t + 1) b) := by
  funext b
  show turn e (t + 1) b = turn e t (sw t (t + 1) b)
  by_cases h1 : b = t
  · subst h1
    rw [sw_left]; unfold turn sk
    rw [if_pos (by omega), if_neg (by omega), if_neg (by omega), if_pos (by omega)]
  · by_cases h2 : b = t + 1
    · subst h2
      rw [sw_right]; unfold turn
      rw [if_neg (by omega), if_pos rfl, if_neg (by omega), if_pos rfl]
    · rw [sw_none h1 h2]; unfold turn
      by_cases h3 : b < t
      · rw [if_pos (by omega), if_pos h3]
      · rw [if_neg (by omega), if_neg h2, if_neg h3, if_neg h1]
theorem dt_turn {m : Nat} (k : Nat → Nat → F) (e : Nat) : ∀ t, t < e → t < m → dt m (fun i b => k i (turn e t b)) = sgn t * dt m (fun i b => k i (sk e b))
  | 0, h, hm => by
    have : (fun i b => k i (turn e 0 b)) = fun i b => k i (sk e b) := by
      funext i b
      congr 1
      unfold turn sk
      rw [if_neg (by omega)]
      by_cases h0 : b = 0
      · rw [if_pos h0, if_pos (by omega), h0]
      · rw [if_neg h0]
    rw [this, show sgn 0 = 1 from rfl]; grind
  | t + 1, h, hm => by
    have := dt_cswap (n := m) (fun i b => k i (turn e t b)) (a := t) (b := t + 1) (by omega) hm (by omega)
    rw [dt_turn k e t (by omega) (by omega)] at this
    have e1 : (fun i b => k i (turn e (t + 1) b)) = fun i b => k i (turn e t (sw t (t + 1) b)) := by
      funext i b
      exact congrArg (k i) (congrFun (turn_next e t h) b)
    rw [e1, this, sgn_succ]; grind

/-- The product of the first k. -/
def pr : Nat → (Nat → F) → F
  | 0, _ => 1
  | k + 1, g => pr k g * g k
theorem pr_congr {k : Nat} {g h : Nat → F} (e : ∀ i, i < k → g i = h i) : pr k g = pr k h := by
  induction k with
  | zero => rfl
  | succ k ih => show pr k g * g k = pr k h * h k; rw [ih fun i hi => e i (by omega), e k (by omega)]
/-- What all orders that begin as s does (its first k places) add to the determinant. -/
def part' (n k : Nat) (f : Nat → Nat → F) (s : Nat → Nat) : F := sp n (fun i => (s i : Int)) * pr k (fun i => f i (s i)) * dt (n - k) (fun i j => f (k + i) (s (k + j)))
theorem part_end (n : Nat) (f : Nat → Nat → F) (s : Nat → Nat) : part' n n f s = sp n (fun i => (s i : Int)) * pr n (fun i => f i (s i)) := by
  unfold part'
  rw [Nat.sub_self]
  show _ * 1 = _
  grind
theorem part_zero (n : Nat) (f : Nat → Nat → F) {s : Nat → Nat} (hs : ∀ j, j < n → s j = j) : part' n 0 f s = dt n f := by
  unfold part'
  rw [sp_id fun i hi => by rw [hs i hi], Nat.sub_zero]
  have : dt n (fun i j => f (0 + i) (s (0 + j))) = dt n f := dt_congr n fun i j _ hj => by rw [Nat.zero_add, Nat.zero_add, hs j hj]
  rw [this]
  show 1 * 1 * _ = _
  grind
theorem part_next {n k : Nat} (f : Nat → Nat → F) (s : Nat → Nat) (hk : k < n) : sg (n - k) (fun t => part' n (k + 1) f fun j => s (sw k (k + t) j)) = part' n k f s := by
  obtain ⟨m, hm⟩ : ∃ m, n - k = m + 1 := ⟨n - k - 1, by omega⟩
  unfold part'
  rw [hm, dt_succ, ← sg_times]
  refine sg_congr fun t ht => ?_
  have e1 : pr (k + 1) (fun i => f i (s (sw k (k + t) i))) = pr k (fun i => f i (s i)) * f k (s (k + t)) := by
    show pr k (fun i => f i (s (sw k (k + t) i))) * f k (s (sw k (k + t) k)) = _
    rw [sw_left, pr_congr (h := fun i => f i (s i)) fun i hi => by rw [sw_none (by omega) (by omega)]]
  have e0 : n - (k + 1) = m := by omega
  rw [e0, e1]
  show _ = sp n (fun i => (s i : Int)) * pr k (fun i => f i (s i)) * (sgn t * f (k + 0) (s (k + t)) * dt m (del t fun i j => f (k + i) (s (k + j))))
  rw [Nat.add_zero]
  cases t with
  | zero =>
    have e2 : (fun i => ((s (sw k (k + 0) i) : Nat) : Int)) = fun i => (s i : Int) := by
      funext i
      rw [Nat.add_zero]
      by_cases h : i = k
      · rw [h, sw_left]
      · rw [sw_none h h]
    have e3 : (fun i j => f (k + 1 + i) (s (sw k (k + 0) (k + 1 + j)))) = del 0 fun i j => f (k + i) (s (k + j)) := by
      funext i j
      show f (k + 1 + i) (s (sw k (k + 0) (k + 1 + j))) = f (k + (i + 1)) (s (k + sk 0 j))
      rw [sw_none (by omega) (by omega), sk_zero, show k + 1 + i = k + (i + 1) by omega, show k + 1 + j = k + (j + 1) by omega]
    rw [e2, e3, show sgn 0 = 1 from rfl]; grind
  | succ t =>
    have e2 : sp n (fun i => ((s (sw k (k + (t + 1)) i) : Nat) : Int)) = -(sp n fun i => (s i : Int)) := sp_swap (fun i => (s i : Int)) hk (by omega) (by omega)
    have e3 : dt m (fun i j => f (k + 1 + i) (s (sw k (k + (t + 1)) (k + 1 + j)))) = sgn t * dt m (del (t + 1) fun i j => f (k + i) (s (k + j))) := by
      refine Eq.trans (dt_congr m fun i j hi hj => ?_) (dt_turn (fun i b => f (k + (i + 1)) (s (k + b))) (t + 1) t (by omega) (by omega))
      show f (k + 1 + i) (s (sw k (k + (t + 1)) (k + 1 + j))) = f (k + (i + 1)) (s (k + turn (t + 1) t j))
      rw [show k + 1 + i = k + (i + 1) by omega]
      congr 2
      unfold turn
      by_cases h1 : j = t
      · rw [if_neg (by omega), if_pos h1, h1, show k + 1 + t = k + (t + 1) by omega, sw_right, Nat.add_zero]
      · rw [sw_none (by omega) (by omega)]
        by_cases h2 : j < t
        · rw [if_pos h2]; omega
        · rw [if_neg h2, if_neg h1]; unfold sk; rw [if_neg (by omega)]; omega
    rw [e2, e3, sgn_succ]; grind

/-- The document's sign: one exchange for each two of which the greater one comes first. -/
def e2 (a b : Int) : F := if b < a then -1 else 1
def inv : Nat → (Nat → Int) → F
  | 0, _ => 1
  | k + 1, s => inv k s * pr k (fun t => e2 (s t) (s k))
theorem e2_turn {a b : Int} (h : a ≠ b) : e2 b a = -(e2 a b) := by
  unfold e2
  rcases Int.lt_or_lt_of_ne h with h | h
  · rw [if_pos h, if_neg (by omega)]
  · rw [if_neg (by omega), if_pos h]; grind
theorem pr_next {c : Nat} (g : Nat → F) : ∀ k, c + 1 < k → pr k (fun i => g (sw c (c + 1) i)) = pr k g
  | 0, h => absurd h (by omega)
  | k + 1, h => by
    show pr k (fun i => g (sw c (c + 1) i)) * g (sw c (c + 1) k) = pr k g * g k
    by_cases hk : c + 1 < k
    · rw [pr_next g k hk, sw_none (by omega) (by omega)]
    · obtain rfl : k = c + 1 := by omega
      show pr c (fun i => g (sw c (c + 1) i)) * g (sw c (c + 1) c) * g (sw c (c + 1) (c + 1)) = pr c g * g c * g (c + 1)
      rw [pr_congr (h := g) fun i hi => by rw [sw_none (by omega) (by omega)], sw_left, sw_right]; grind
theorem inv_congr {k : Nat} {s t : Nat → Int} (h : ∀ i, i < k → s i = t i) : inv k s = inv k t := by
  induction k with
  | zero => rfl
  | succ k ih =>
    show inv k s * pr k _ = inv k t * pr k _
    rw [ih fun i hi => h i (by omega), h k (by omega), pr_congr (h := fun x => e2 (t x) (t k)) fun i hi => by rw [h i (by omega)]]
theorem inv_next {c : Nat} (s : Nat → Int) (hne : s c ≠ s (c + 1)) : ∀ k, c + 1 < k → inv k (fun i => s (sw c (c + 1) i)) = -(inv k s)
  | 0, h => absurd h (by omega)
  | k + 1, h => by
    show inv k (fun i => s (sw c (c + 1) i)) * pr k (fun t => e2 (s (sw c (c + 1) t)) (s (sw c (c + 1) k))) = -(inv k s * pr k (fun t => e2 (s t) (s k)))
    by_cases hk : c + 1 < k
    · rw [inv_next s hne k hk, sw_none (j := k) (by omega) (by omega), pr_next (fun t => e2 (s t) (s k)) k hk]; grind
    · obtain rfl : k = c + 1 := by omega
      show inv c (fun i => s (sw c (c + 1) i)) * pr c (fun t => e2 (s (sw c (c + 1) t)) (s (sw c (c + 1) c))) * (pr c (fun t => e2 (s (sw c (c + 1) t)) (s (sw c (c + 1) (c + 1)))) * e2 (s (sw c (c + 1) c)) (s (sw c (c + 1) (c + 1)))) =
        -(inv c s * pr c (fun t => e2 (s t) (s c)) * (pr c (fun t => e2 (s t) (s (c + 1))) * e2 (s c) (s (c + 1))))
      rw [sw_left, sw_right, inv_congr (t := s) fun i hi => by rw [sw_none (by omega) (by omega)], pr_congr (g := fun t => e2 (s (sw c (c + 1) t)) (s (c + 1))) (h := fun t => e2 (s t) (s (c + 1))) fun i hi => by rw [sw_none (by omega) (by omega)],
        pr_congr (g := fun t => e2 (s (sw c (c + 1) t)) (s c)) (h := fun t => e2 (s t) (s c)) fun i hi => by rw [sw_none (by omega) (by omega)], e2_turn hne]
      grind
theorem sw_three {c p q : Nat} (h1 : c ≠ p) (h2 : p ≠ q) (h3 : c ≠ q) (i : Nat) : sw c q i = sw p q (sw c p (sw p q i)) := by
  by_cases e1 : i = c
  · rw [e1, sw_left, sw_none (j := c) h1 h3, sw_left, sw_left]
  · by_cases e2 : i = p
    · rw [e2, sw_left p q, sw_none (j := q) (fun e => h3 e.symm) (fun e => h2 e.symm), sw_right, sw_none (fun e => h1 e.symm) h2]
    · by_cases e3 : i = q
      · rw [e3, sw_right, sw_right, sw_right, sw_none (j := c) h1 h3]
      · rw [sw_none e1 e3, sw_none e2 e3, sw_none e1 e2, sw_none e2 e3]
theorem inv_far (c : Nat) : ∀ (d k : Nat) (s : Nat → Int), c + d + 1 < k → (∀ i j, i < k → j < k → s i = s j → i = j) → inv k (fun i => s (sw c (c + d + 1) i)) = -(inv k s)
  | 0, k, s, h, hi => inv_next s (fun e => by have := hi _ _ (by omega) (by omega) e; omega) k h
  | d + 1, k, s, h, hi => by
    have e : (fun i => s (sw c (c + (d + 1) + 1) i)) = fun i => s (sw (c + d + 1) (c + d + 1 + 1) (sw c (c + d + 1) (sw (c + d + 1) (c + d + 1 + 1) i))) := by
      funext i
      exact congrArg s (sw_three (by omega) (by omega) (by omega) i)
    have s1 : ∀ i j, i < k → j < k → s (sw (c + d + 1) (c + d + 1 + 1) i) = s (sw (c + d + 1) (c + d + 1 + 1) j) → i = j := fun i j h1 h2 e => sw_inj (hi _ _ (sw_lt (by omega) (by omega) h1) (sw_lt (by omega) (by omega) h2) e)
    have a1 := inv_next (c := c + d + 1) s (fun e => by have := hi _ _ (by omega) (by omega) e; omega) k (by omega)
    have a2 := inv_far c d k (fun i => s (sw (c + d + 1) (c + d + 1 + 1) i)) (by omega) s1
    have a3 := inv_next (c := c + d + 1) (fun i => s (sw (c + d + 1) (c + d + 1 + 1) (sw c (c + d + 1) i))) (fun e => by
      have := s1 _ _ (sw_lt (by omega) (by omega) (by omega)) (sw_lt (by omega) (by omega) (by omega)) e
      have := sw_inj this
      omega) k (by omega)
    rw [e, a3, a2, a1]; grind
theorem inv_swap {n : Nat} (s : Nat → Int) {a b : Nat} (ha : a < n) (hb : b < n) (hne : a ≠ b) (hi : ∀ i j, i < n → j < n → s i = s j → i = j) : inv n (fun i => s (sw a b i)) = -(inv n s) := by
  have sym : ∀ i, sw a b i = sw b a i := fun i => by
    unfold sw
    by_cases h1 : i = a
    · rw [if_pos h1, if_neg (by omega), if_pos h1]
    · rw [if_neg h1]
      by_cases h2 : i = b
      · rw [if_pos h2, if_pos h2]
      · rw [if_neg h2, if_neg h2, if_neg h1]
  rcases Nat.lt_or_ge a b with h | h
  · have := inv_far a (b - a - 1) n s (by omega) hi
    rw [show a + (b - a - 1) + 1 = b by omega] at this
    exact this
  · have := inv_far b (a - b - 1) n s (by omega) hi
    rw [show b + (a - b - 1) + 1 = a by omega] at this
    rw [show (fun i => s (sw a b i)) = fun i => s (sw b a i) by funext i; rw [sym]]
    exact this
theorem pr_ones {k : Nat} {g : Nat → F} (h : ∀ i, i < k → g i = 1) : pr k g = 1 := by
  induction k with
  | zero => rfl
  | succ k ih => show pr k g * g k = 1; rw [ih fun i hi => h i (by omega), h k (by omega)]; rfl
theorem inv_id {s : Nat → Int} : ∀ n, (∀ i, i < n → s i = (i : Int)) → inv n s = 1
  | 0, _ => rfl
  | n + 1, h => by
    show inv n s * pr n _ = 1
    rw [inv_id n fun i hi => h i (by omega), pr_ones fun i hi => by unfold e2; rw [h i (by omega), h n (by omega), if_neg (by omega)]]; rfl
/-- Of an order both are one. -/
theorem inv_sp {n : Nat} {s : Nat → Int} (h : ∀ k : Nat, k < n → ∃ i, i < n ∧ s i = (k : Int)) : inv n s = sp n s := by
  have hN : ∀ k : Nat, k < n → ∃ i, i < n ∧ (s i).toNat = k := fun k hk => by
    obtain ⟨i, h1, h2⟩ := h k hk
    exact ⟨i, h1, by rw [h2]; rfl⟩
  obtain ⟨h1, h2⟩ := into hN
  -- the numbers are none below nought
  have hs : ∀ i, i < n → s i = (((s i).toNat : Nat) : Int) := fun i hi => by
    obtain ⟨j, hj, e⟩ := h _ (h1 i hi)
    have : i = j := h2 i j hi hj (by rw [e]; rfl)
    rw [this] at e ⊢
    exact e
  rw [inv_congr hs, sp_congr hs]
  refine by_swaps (n := n) (P := fun t => inv n (fun i => (t i : Int)) = sp n fun i => (t i : Int)) (fun t hf => ?_) (fun t a b ha hb hne _ hi e => ?_) n 0 (fun i => (s i).toNat) (by omega) h1 h2 (fun j hj => absurd hj (by omega))
  · rw [inv_id n fun i hi => by rw [hf i hi], sp_id fun i hi => by rw [hf i hi]]
  · have a1 := inv_swap (n := n) (fun i => (t i : Int)) ha hb hne fun i j h1 h2 e => hi i j h1 h2 (by omega)
    have a2 := sp_swap (n := n) (fun i => (t i : Int)) ha hb hne
    have e' : inv n (fun i => ((t (sw a b i) : Nat) : Int)) = sp n fun i => ((t (sw a b i) : Nat) : Int) := e
    rw [a1, a2] at e'
    grind

end Go.Proofs.YtofdhdnffkhojaaDoor.Mx

/- Plain facts for package det: how many numbers are not at their places; what a value is as a sign. No program is named here. -/
namespace Go.Proofs.YtofdhdnffkhojaaDoor.Mx
open Fp
set_option linter.unusedVariables false

/-- How many of the first n are not at their places. -/
def nf : Nat → (Nat → Int) → Nat
  | 0, _ => 0
  | n + 1, s => nf n s + if s n = (n : Int) then 0 else 1
theorem nf_le : ∀ (n : Nat) {s t : Nat → Int}, (∀ i, i < n → s i = (i : Int) → t i = (i : Int)) → nf n t ≤ nf n s
  | 0, _, _, _ => Nat.le_refl _
  | n + 1, s, t, h => by
    have h1 := nf_le n (s := s) (t := t) fun i hi => h i (by omega)
    show nf n t + (if t n = (n : Int) then 0 else 1) ≤ nf n s + if s n = (n : Int) then 0 else 1
    by_cases e : s n = (n : Int)
    · rw [if_pos e, if_pos (h n (by omega) e)]; omega
    · rw [if_neg e]; split <;> omega
theorem nf_lt : ∀ (n : Nat) {s t : Nat → Int} {m : Nat}, (∀ i, i < n → s i = (i : Int) → t i = (i : Int)) → m < n → s m ≠ (m : Int) → t m = (m : Int) → nf n t < nf n s
  | 0, _, _, m, _, hm, _, _ => absurd hm (by omega)
  | n + 1, s, t, m, h, hm, h1, h2 => by
    show nf n t + (if t n = (n : Int) then 0 else 1) < nf n s + if s n = (n : Int) then 0 else 1
    by_cases e : m = n
    · subst e
      have := nf_le m (s := s) (t := t) fun i hi => h i (by omega)
      rw [if_neg h1, if_pos h2]; omega
    · have := nf_lt n (s := s) (t := t) (m := m) (fun i hi => h i (by omega)) (by omega) h1 h2
      by_cases e : s n = (n : Int)
      · rw [if_pos e, if_pos (h n (by omega) e)]; omega
      · rw [if_neg e]; split <;> omega

theorem ofInt_neg (x : Int) : ofInt (-x) = -(ofInt x) := by
  have := ofInt_add x (-x)
  rw [show x + -x = 0 by omega, show ofInt 0 = 0 from rfl] at this
  grind
/-- x is 1, -1 or 0, and S in the field. -/
def SgnIs (S : F) (x : Int) : Prop := (x = 1 ∨ x = -1 ∨ x = 0) ∧ ofInt x = S
theorem SgnIs.one {S : F} {x y : Int} (h : SgnIs S x) (k : SgnIs S y) : x = y := by
  have e := h.2.trans k.2.symm
  have n1 : ofInt 1 ≠ ofInt (-1) := by decide
  have n2 : ofInt 1 ≠ ofInt 0 := by decide
  have n3 : ofInt (-1) ≠ ofInt 0 := by decide
  rcases h.1 with a | a | a <;> rcases k.1 with b | b | b <;> first | exact a.trans b.symm | (rw [a, b] at e; first | exact absurd e n1 | exact absurd e.symm n1 | exact absurd e n2 | exact absurd e.symm n2 | exact absurd e n3 | exact absurd e.symm n3)
theorem SgnIs.neg {S : F} {x : Int} (h : SgnIs S x) : SgnIs (-S) (-x) := by
  refine ⟨?_, by rw [ofInt_neg, h.2]⟩
  rcases h.1 with a | a | a <;> rw [a] <;> decide
theorem SgnIs.bound {S : F} {x : Int} (h : SgnIs S x) : -1 ≤ x ∧ x ≤ 1 := by rcases h.1 with a | a | a <;> omega
theorem tmod_F (x : Int) : ofInt (x.tmod 9973) = ofInt x := by
  have h := Int.mul_tdiv_add_tmod x 9973
  have h2 : ofInt x = ofInt (9973 * x.tdiv 9973 + x.tmod 9973) := by rw [h]
  rw [ofInt_add, ofInt_mul, show ofInt 9973 = 0 from rfl] at h2
  rw [h2]; grind
theorem tmod_bound (x : Int) : -9972 ≤ x.tmod 9973 ∧ x.tmod 9973 ≤ 9972 := by
  have h1 := Int.tmod_lt_of_pos x (show (0 : Int) < 9973 by omega)
  have h2 := Int.lt_tmod_of_pos x (show (0 : Int) < 9973 by omega)
  omega
/-- A remainder made an element. -/
theorem fit (x : Int) : (x.tmod 9973 + 9973).tmod 9973 = ((ofInt x).val : Int) := by
  have h := tmod_bound x
  rw [Int.tmod_eq_emod_of_nonneg (by omega), ← ofInt_val, ofInt_add, tmod_F, show ofInt 9973 = 0 from rfl]
  congr 1; congr 1; grind

/-- How many orders there may be of so many. -/
def lv : Nat → Nat
  | 0 => 1
  | m + 1 => 5 * lv m
theorem lv_le : ∀ {m : Nat}, m ≤ 5 → lv m ≤ 3125
  | 0, _ => by decide
  | 1, _ => by decide
  | 2, _ => by decide
  | 3, _ => by decide
  | 4, _ => by decide
  | 5, _ => by decide
  | m + 6, h => absurd h (by omega)

end Go.Proofs.YtofdhdnffkhojaaDoor.Mx

/- slices.Clone of a row of numbers, for all packages. -/
namespace Go.Proofs.YtofdhdnffkhojaaDoor
open Go.ChangeShapes Go.WideShapes Go.ChangeAt Go.RowKit
set_option linter.unusedVariables false

theorem sclone_any (A : Option Addr) (l : List Int) (c : Nat) (w : World) (hl : Lies w A l) (hn : l.length ≤ 1000000) :
    Calls Tryd.prog 62 #[.slice A l.length c] w fun e w' => SomeRow l w e w' := by
  have HL := Lib.hid hl
  have q22 : ∀ (w : World) (a : Option Addr) (n c n' c' : Nat), (binOp .eql 23 (.slice a n c) (.slice none n' c')).run Tryd.prog w = .ok (.bool a.isNone) w := fun w a n c n' c' => Lib.run_eql_slice_nil w _ _ a n c n' c' Tryd.underlying23
  rcases A with _ | ad
  · obtain rfl : l = [] := by
      rcases Nat.eq_zero_or_pos l.length with h0 | h0
      · exact List.eq_nil_of_length_eq_zero h0
      · obtain ⟨ad, h, _⟩ := hl 0 h0; cases h
    clear hl
    go_enter Tryd.func62, Tryd.ntmps62
    go_wp2_with fail
    go_ret
    exact ⟨_, rfl, Own.none _ _, Kp.rfl' _⟩
  · clear hl
    have hm : Own (w.alloc (.cells #[] 3)) w.heap.size (.slice (some ⟨w.heap.size, 0, none⟩) 0 0) [] := World.ownsRow_made w #[] 0 (Nat.le_refl _) (Nat.zero_le _) rfl
    have HM := Lib.hid hm
    have HK := Lib.hid ((Kp.rfl' w).new (.cells #[] 3))
    clear hm
    go_enter Tryd.func62, Tryd.ntmps62
    go_wp2_with (at_builtin; refine wpList_cat rfl _ _ rfl w.heap.size _ [] l (some ad) l.length c rfl rfl rfl HM.out (HL.out.keep HK.out) (by simp; omega) (by simp) ?_; intro v' w' h1 h2 _)
    have HO := Lib.hid h1
    have HK' := Lib.hid (own_below HM.out HK.out (by simp) h2)
    clear h1 h2
    go_wp2_with fail
    go_ret
    exact ⟨v', rfl, HO.out, HK'.out⟩

end Go.Proofs.YtofdhdnffkhojaaDoor

/- More on matrices of the call's own: heads that change places, a row of numbers beside them, and what a store into their rows leaves. For all packages. -/
namespace Go.Proofs.YtofdhdnffkhojaaDoor
open Go.ChangeShapes Go.WideShapes Go.ChangeAt Go.RowKit
set_option linter.unusedVariables false

/-- The heads of r rows of c numbers. -/
def hds (r c : Nat) (G C : Nat → Nat) : List Value := (List.range r).map fun i => Value.slice (some ⟨G i, 0, none⟩) c (C i)
theorem len_hds (r c : Nat) (G C : Nat → Nat) : (hds r c G C).length = r := by simp [hds]
theorem heads_tab (G C : Nat → Nat) (r c : Nat) (f : Nat → Nat → Int) : heads G C (Mx.tab r c f) = hds r c G C := by
  unfold heads hds
  rw [Mx.len_tab]
  refine List.map_congr_left fun i hi => ?_
  rw [Mx.tab_len _ _ _ _ (List.mem_range.1 hi)]
theorem hds_set (r c : Nat) (G C : Nat → Nat) (i x d : Nat) :
    (hds r c G C).set i (Value.slice (some ⟨x, 0, none⟩) c d) = hds r c (fun k => if k = i then x else G k) (fun k => if k = i then d else C k) := by
  refine List.ext_getElem (by simp [hds]) fun k h1 h2 => ?_
  simp only [hds, List.getElem_set, List.getElem_map, List.getElem_range]
  by_cases e : i = k
  · subst e; simp
  · rw [if_neg e, if_neg (fun e' => e e'.symm), if_neg (fun e' => e e'.symm)]

/-- As OwnM, but two heads may name the same row. -/
structure OwnH (w : World) (B : Nat) (v : Value) (G C : Nat → Nat) (r c : Nat) (f : Nat → Nat → Int) : Prop where
  top : w.ownsRow B 23 1 v r (hds r c G C)
  row : ∀ i, i < r → Own w B (.slice (some ⟨G i, 0, none⟩) c (C i)) (Mx.row c (f i))
theorem OwnM.weak {w : World} {B : Nat} {v : Value} {G C : Nat → Nat} {r c : Nat} {f : Nat → Nat → Int} (h : OwnM w B v G C (Mx.tab r c f)) : OwnH w B v G C r c f := by
  refine ⟨?_, fun i hi => ?_⟩
  · have := h.top
    rwa [heads_tab, Mx.len_tab] at this
  · have := h.row i (by rw [Mx.len_tab]; exact hi)
    rwa [Mx.tab_at _ _ _ _ hi, Mx.len_row] at this
theorem OwnH.strong {w : World} {B : Nat} {v : Value} {G C : Nat → Nat} {r c : Nat} {f : Nat → Nat → Int} (h : OwnH w B v G C r c f) (ha : ∀ i j, i < r → j < r → i ≠ j → G i ≠ G j) : OwnM w B v G C (Mx.tab r c f) := by
  refine ⟨?_, fun i hi => ?_, fun i j hi hj => ?_⟩
  · rw [heads_tab, Mx.len_tab]; exact h.top
  · rw [Mx.len_tab] at hi
    rw [Mx.tab_at _ _ _ _ hi, Mx.len_row]; exact h.row i hi
  · rw [Mx.len_tab] at hi hj; exact ha i j hi hj
theorem OwnH.kp {w w' : World} {B : Nat} {v : Value} {G C : Nat → Nat} {r c : Nat} {f : Nat → Nat → Int} (h : OwnH w B v G C r c f) (hk : Kp w w') : OwnH w' B v G C r c f :=
  ⟨ownsRow_kp h.top hk, fun i hi => (h.row i hi).kp hk⟩
theorem OwnH.ext {w : World} {B : Nat} {v : Value} {G C : Nat → Nat} {r c : Nat} {f f' : Nat → Nat → Int} (h : OwnH w B v G C r c f) (e : ∀ i j, i < r → j < c → f i j = f' i j) : OwnH w B v G C r c f' :=
  ⟨h.top, fun i hi => by rw [← Mx.row_ext (fun j hj => e i j hi hj)]; exact h.row i hi⟩
theorem OwnH.head {w : World} {B : Nat} {G C : Nat → Nat} {r c g n cap : Nat} {f : Nat → Nat → Int} (h : OwnH w B (.slice (some ⟨g, 0, none⟩) n cap) G C r c f) {i : Nat} (hi : i < r) :
    w.cell? ⟨g, i, none⟩ = some (.slice (some ⟨G i, 0, none⟩) c (C i)) := by
  rcases h.top.2 with ⟨e, _⟩ | ⟨g', cap', cur, hv, hg, hh, hc, hm, hs, ht⟩
  · cases e
  · cases hv
    have ht' : cur.toList.take r = hds r c G C := by simpa using ht
    rw [cell_of_row _ _ i _ _ (0, 0) hh, ← Array.getElem?_toList, ← List.getElem?_take_of_lt hi, ht']
    simp [hds, hi]
theorem OwnH.el {w : World} {B : Nat} {v : Value} {G C : Nat → Nat} {r c : Nat} {f : Nat → Nat → Int} (h : OwnH w B v G C r c f) {i j : Nat} (hi : i < r) (hj : j < c) : w.cell? ⟨G i, j, none⟩ = some (.int .i64 (f i j)) := by
  have := own_cell (h.row i hi) j (by rw [Mx.len_row]; exact hj)
  rwa [Mx.row_at _ _ _ hj] at this
theorem OwnH.free {w : World} {B : Nat} {v : Value} {G C : Nat → Nat} {r c : Nat} {f : Nat → Nat → Int} (h : OwnH w B v G C r c f) {i : Nat} (hi : i < r) (j : Nat) : w.frozen? ⟨G i, j, none⟩ = false := own_free (h.row i hi) j
theorem OwnH.topFree {w : World} {B : Nat} {G C : Nat → Nat} {r c g n cap : Nat} {f : Nat → Nat → Int} (h : OwnH w B (.slice (some ⟨g, 0, none⟩) n cap) G C r c f) (i : Nat) : w.frozen? ⟨g, i, none⟩ = false := by
  rcases h.top.2 with ⟨e, _⟩ | ⟨g', cap', cur, hv, hg, hh, hc, hm, hs, ht⟩
  · cases e
  · cases hv; exact frozen_of_row w g i _ _ hh
theorem OwnH.topLe {w : World} {B : Nat} {G C : Nat → Nat} {r c g n cap : Nat} {f : Nat → Nat → Int} (h : OwnH w B (.slice (some ⟨g, 0, none⟩) n cap) G C r c f) : B ≤ g ∧ g < w.heap.size := World.ownsRow.lt h.top g rfl
theorem OwnH.lt {w : World} {B : Nat} {v : Value} {G C : Nat → Nat} {r c : Nat} {f : Nat → Nat → Int} (h : OwnH w B v G C r c f) {i : Nat} (hi : i < r) : B ≤ G i ∧ G i < w.heap.size := World.ownsRow.lt (h.row i hi) (G i) rfl
theorem OwnH.apartTop {w : World} {B : Nat} {G C : Nat → Nat} {r c g n cap : Nat} {f : Nat → Nat → Int} (h : OwnH w B (.slice (some ⟨g, 0, none⟩) n cap) G C r c f) {i : Nat} (hi : i < r) : G i ≠ g := fun e => top_ne h.top (h.row i hi) (by show some (G i) = some g; rw [e])
/-- A head is set to another row of the call's own. -/
theorem OwnH.set {w : World} {B : Nat} {G C : Nat → Nat} {r c g n cap : Nat} {f : Nat → Nat → Int} (h : OwnH w B (.slice (some ⟨g, 0, none⟩) n cap) G C r c f) {i : Nat} (hi : i < r) {x d : Nat} {l : Nat → Int} (hx : Own w B (.slice (some ⟨x, 0, none⟩) c d) (Mx.row c l)) :
    OwnH (w.setCell ⟨g, i, none⟩ (.slice (some ⟨x, 0, none⟩) c d)) B (.slice (some ⟨g, 0, none⟩) n cap) (fun k => if k = i then x else G k) (fun k => if k = i then d else C k) r c (fun k => if k = i then l else f k) := by
  refine ⟨?_, fun k hk => ?_⟩
  · rcases h.top.2 with ⟨e, _⟩ | ⟨g', cap', cur, hv, hg, hh, hc, hm, hs, ht⟩
    · cases e
    · cases hv
      refine ⟨by rw [len_hds, Nat.mul_one], .inr ⟨g, cap, cur.setIfInBounds i (.slice (some ⟨x, 0, none⟩) c d), rfl, hg, heap_setCell_same w g i _ _ _ hh, hc, hm, by rw [Array.size_setIfInBounds]; exact hs, ?_⟩⟩
      rw [Array.toList_setIfInBounds, List.take_set, ht, hds_set]
  · by_cases e : k = i
    · subst e
      simp only [if_true]
      exact own_store hx (fun e' => top_ne h.top hx (by show some x = some g; rw [e'])) _
    · simp only [if_neg e]
      exact own_store (h.row k hk) (h.apartTop hk) _

/-- Nothing but what stands in the blocks of these rows has turned. -/
structure Only (G : Nat → Nat) (r : Nat) (w w' : World) : Prop where
  os : w'.os = w.os
  tape : w'.tape = w.tape
  output : w'.output = w.output
  size : w.heap.size ≤ w'.heap.size
  block : ∀ b, b < w.heap.size → (∀ i, i < r → b ≠ G i) → w'.heap[b]? = w.heap[b]?
theorem Only.of {G : Nat → Nat} {r : Nat} {w w' : World} (h : Kp w w') : Only G r w w' := ⟨h.os, h.tape, h.output, h.size, fun b hb _ => h.block b hb⟩
theorem Only.refl (G : Nat → Nat) (r : Nat) (w : World) : Only G r w w := Only.of (Kp.rfl' w)
theorem Only.trans {G : Nat → Nat} {r : Nat} {a b c : World} (h : Only G r a b) (k : Only G r b c) : Only G r a c :=
  ⟨k.os.trans h.os, k.tape.trans h.tape, k.output.trans h.output, Nat.le_trans h.size k.size, fun i hi hn => (k.block i (Nat.lt_of_lt_of_le hi h.size) hn).trans (h.block i hi hn)⟩
theorem Only.drewN {G : Nat → Nat} {r : Nat} {a b : World} (h : Only G r a b) (n : Nat) : Only G r a (b.drewN n) := h.trans (Only.of ((Kp.rfl' b).drewN n))
theorem Only.put {G : Nat → Nat} {r : Nat} {a b : World} (h : Only G r a b) {i : Nat} (hi : i < r) (j : Nat) (u : Value) : Only G r a (b.setCell ⟨G i, j, none⟩ u) :=
  h.trans ⟨rfl, rfl, rfl, by simp [World.setCell], fun k _ hn => Below.heap_setCell _ _ _ _ (hn i hi)⟩
theorem Only.below {G : Nat → Nat} {r B : Nat} {w0 w w' : World} (h : Only G r w w') (hb : Below B w0 w) (hB : B ≤ w.heap.size) (hG : ∀ i, i < r → B ≤ G i) : Below B w0 w' :=
  hb.trans ⟨h.os, h.tape, h.output, h.size, fun k hk => h.block k (by omega) fun i hi e => by have := hG i hi; omega⟩
theorem Own.only {G : Nat → Nat} {r B : Nat} {w w' : World} {u : Value} {l : List Int} (h : Own w B u l) (ho : Only G r w w') (hn : ∀ b, u.ownBlock = some b → ∀ i, i < r → G i ≠ b) : Own w' B u l := by
  obtain ⟨h1, h2⟩ := h
  refine ⟨h1, ?_⟩
  rcases h2 with h2 | ⟨g, cap, cur, rfl, hg, hh, r⟩
  · exact .inl h2
  · refine .inr ⟨g, cap, cur, rfl, hg, ?_, r⟩
    rw [ho.block g ?_ fun i hi e => hn g rfl i hi e.symm]; exact hh
    rcases Nat.lt_or_ge g w.heap.size with hlt | hge
    · exact hlt
    · rw [Array.getElem?_eq_none hge] at hh; cases hh
/-- A store to another block leaves a row. -/
theorem Own.far {w : World} {B : Nat} {u : Value} {l : List Int} (h : Own w B u l) {a : Addr} (ha : u.ownBlock ≠ some a.block) (x : Value) : Own (w.setCell a x) B u l := by
  obtain ⟨h1, h2⟩ := h
  refine ⟨h1, ?_⟩
  rcases h2 with h2 | ⟨g, cap, cur, rfl, hg, hh, r⟩
  · exact .inl h2
  · refine .inr ⟨g, cap, cur, rfl, hg, ?_, r⟩
    rw [heap_setCell_other w a g x (fun e => ha (by show some g = some a.block; rw [e]))]; exact hh

/-- An append to another row leaves the matrix. -/
theorem OwnM.grown {w w' : World} {B : Nat} {v u : Value} {G C : Nat → Nat} {m : List (List Int)} (h : OwnM w B v G C m) (hg : w.grownBy w' u.ownBlock) (h1 : v.ownBlock = none ∨ v.ownBlock ≠ u.ownBlock) (h2 : ∀ i, i < m.length → some (G i) ≠ u.ownBlock) : OwnM w' B v G C m :=
  ⟨World.ownsRow.kept h.top hg h1, fun i hi => (h.row i hi).grown hg (.inr (h2 i hi)), h.apart⟩

theorem OwnM.liesM {w : World} {B n cap : Nat} {A : Option Addr} {G C : Nat → Nat} {m : List (List Int)} (h : OwnM w B (.slice A n cap) G C m) : LiesM w A m := by
  obtain ⟨A', c', e, hl, _⟩ := h.lies
  cases e; exact hl

/-- A matrix of the call's own, and a row of numbers beside it. -/
structure MatRow (w : World) (B : Nat) (g cap : Nat) (G C : Nat → Nat) (r c : Nat) (f : Nat → Nat → Int) (u : Value) (l : List Int) : Prop where
  mat : OwnM w B (.slice (some ⟨g, 0, none⟩) r cap) G C (Mx.tab r c f)
  row : Own w B u l
  far : ∀ b, u.ownBlock = some b → b ≠ g
  apart : ∀ b, u.ownBlock = some b → ∀ i, i < r → G i ≠ b
theorem MatRow.kp {w w' : World} {B g cap : Nat} {G C : Nat → Nat} {r c : Nat} {f : Nat → Nat → Int} {u : Value} {l : List Int} (h : MatRow w B g cap G C r c f u l) (hk : Kp w w') : MatRow w' B g cap G C r c f u l := ⟨h.mat.kp hk, h.row.kp hk, h.far, h.apart⟩
theorem MatRow.drewN {w : World} {B g cap : Nat} {G C : Nat → Nat} {r c : Nat} {f : Nat → Nat → Int} {u : Value} {l : List Int} (h : MatRow w B g cap G C r c f u l) (n : Nat) : MatRow (w.drewN n) B g cap G C r c f u l := h.kp ((Kp.rfl' w).drewN n)
theorem MatRow.start {w : World} {B g cap : Nat} {G C : Nat → Nat} {r c : Nat} {f : Nat → Nat → Int} (h : OwnM w B (.slice (some ⟨g, 0, none⟩) r cap) G C (Mx.tab r c f)) : MatRow w B g cap G C r c f (.slice none 0 0) [] :=
  ⟨h, Own.none _ _, (fun b hb => by cases hb), (fun b hb => by cases hb)⟩
theorem MatRow.ext {w : World} {B g cap : Nat} {G C : Nat → Nat} {r c : Nat} {f f' : Nat → Nat → Int} {u : Value} {l : List Int} (h : MatRow w B g cap G C r c f u l) (e : ∀ i j, i < r → j < c → f i j = f' i j) : MatRow w B g cap G C r c f' u l := ⟨h.mat.ext e, h.row, h.far, h.apart⟩
theorem MatRow.only {w w' : World} {B g cap : Nat} {G C : Nat → Nat} {r c : Nat} {f f' : Nat → Nat → Int} {u : Value} {l : List Int} (h : MatRow w B g cap G C r c f u l) (ho : Only G r w w') (hm : OwnM w' B (.slice (some ⟨g, 0, none⟩) r cap) G C (Mx.tab r c f')) : MatRow w' B g cap G C r c f' u l :=
  ⟨hm, h.row.only ho h.apart, h.far, h.apart⟩
theorem MatRow.put {w : World} {B g cap : Nat} {G C : Nat → Nat} {r c : Nat} {f : Nat → Nat → Int} {u : Value} {l : List Int} (h : MatRow w B g cap G C r c f u l) {i : Nat} (hi : i < r) (j : Nat) (x : Int) :
    MatRow (w.setCell ⟨G i, j, none⟩ (.int .i64 x)) B g cap G C r c (fun a b => if a = i ∧ b = j then x else f a b) u l :=
  h.only ((Only.refl G r w).put hi j _) (h.mat.put hi j x)
/-- An append to the row beside it. -/
theorem MatRow.push {w w' : World} {B g cap : Nat} {G C : Nat → Nat} {r c : Nat} {f : Nat → Nat → Int} {u u' : Value} {l l' : List Int} (h : MatRow w B g cap G C r c f u l) (h1 : Own w' B u' l') (hg : w.grownBy w' u.ownBlock) (ha : At w u u') : MatRow w' B g cap G C r c f u' l' := by
  have hl := World.ownsRow.lt h.mat.top g rfl
  have hG : ∀ i, i < r → G i < w.heap.size := fun i hi => (h.mat.lt (by rw [Mx.len_tab]; exact hi)).2
  refine ⟨h.mat.grown hg ?_ fun i hi e => ?_, h1, fun b hb => ?_, fun b hb i hi => ?_⟩
  · cases hu : u.ownBlock with
    | none => exact .inr (by intro e; cases e)
    | some b => exact .inr fun e => h.far b hu (Option.some.inj e).symm
  · rw [Mx.len_tab] at hi
    exact h.apart _ e.symm i hi rfl
  · rcases ha with e | e
    · exact h.far b (by rw [← e]; exact hb)
    · rw [e] at hb; have := Option.some.inj hb; omega
  · rcases ha with e | e
    · exact h.apart b (by rw [← e]; exact hb) i hi
    · rw [e] at hb; have := Option.some.inj hb; have := hG i hi; omega
/-- Two heads change places. -/
theorem MatRow.swap {w : World} {B g cap : Nat} {G C : Nat → Nat} {r c : Nat} {f : Nat → Nat → Int} {u : Value} {l : List Int} (h : MatRow w B g cap G C r c f u l) {a b : Nat} (ha : a < r) (hb : b < r) :
    MatRow ((w.setCell ⟨g, a, none⟩ (.slice (some ⟨G b, 0, none⟩) c (C b))).setCell ⟨g, b, none⟩ (.slice (some ⟨G a, 0, none⟩) c (C a))) B g cap
      (fun i => if i = b then G a else if i = a then G b else G i) (fun i => if i = b then C a else if i = a then C b else C i) r c (fun i => if i = b then f a else if i = a then f b else f i) u l := by
  have hw := h.mat.weak
  have ap : ∀ i j, i < r → j < r → i ≠ j → G i ≠ G j := fun i j hi hj => h.mat.apart i j (by rw [Mx.len_tab]; exact hi) (by rw [Mx.len_tab]; exact hj)
  have h1 := hw.set ha (hw.row b hb)
  have ra := own_store (hw.row a ha) (a := ⟨g, a, none⟩) (hw.apartTop ha) (Value.slice (some ⟨G b, 0, none⟩) c (C b))
  have h2 := h1.set hb ra
  refine ⟨h2.strong fun i j hi hj hne => ?_, (h.row.far (a := ⟨g, a, none⟩) (fun e => h.far _ e rfl) _).far (a := ⟨g, b, none⟩) (fun e => h.far _ e rfl) _, h.far, fun k hk i hi => ?_⟩
  · split <;> split <;> (try split) <;> (try split) <;> apply ap <;> omega
  · split
    · exact h.apart k hk a ha
    · split
      · exact h.apart k hk b hb
      · exact h.apart k hk i hi

/-- Row p comes to row a's place, and a new row to row p's. -/
theorem MatRow.rehead {w w' : World} {B g cap : Nat} {G C : Nat → Nat} {r c : Nat} {f : Nat → Nat → Int} {u : Value} {l : List Int} (h : MatRow w B g cap G C r c f u l) {a p : Nat} (ha : a < r) (hp : p < r)
    (hk : Kp (w.setCell ⟨g, a, none⟩ (.slice (some ⟨G p, 0, none⟩) c (C p))) w') {go co : Nat} {h1 : Nat → Int} (ho : Own w' w.heap.size (.slice (some ⟨go, 0, none⟩) c co) (Mx.row c h1)) :
    MatRow (w'.setCell ⟨g, p, none⟩ (.slice (some ⟨go, 0, none⟩) c co)) B g cap (fun i => if i = p then go else if i = a then G p else G i) (fun i => if i = p then co else if i = a then C p else C i) r c
      (fun i => if i = p then h1 else if i = a then f p else f i) u l := by
  have hw := h.mat.weak
  have ap : ∀ i j, i < r → j < r → i ≠ j → G i ≠ G j := fun i j hi hj => h.mat.apart i j (by rw [Mx.len_tab]; exact hi) (by rw [Mx.len_tab]; exact hj)
  have hB := hw.topLe
  have hgo : w.heap.size ≤ go := (World.ownsRow.lt ho go rfl).1
  have h2 := ((hw.set ha (hw.row p hp)).kp hk).set hp (ho.from (B' := B) (by omega))
  refine ⟨h2.strong fun i j hi hj hne => ?_, ((h.row.far (a := ⟨g, a, none⟩) (fun e => h.far _ e rfl) _).kp hk).far (a := ⟨g, p, none⟩) (fun e => h.far _ e rfl) _, h.far, fun k hk' i hi => ?_⟩
  · have hG : ∀ i, i < r → G i ≠ go := fun i hi => by have := (hw.lt hi).2; omega
    split <;> split <;> (try split) <;> (try split) <;> first | omega | exact hG _ (by omega) | exact (hG _ (by omega)).symm | (apply ap <;> omega)
  · have hlt := (World.ownsRow.lt h.row k hk').2
    split
    · omega
    · split
      · exact h.apart k hk' p hp
      · exact h.apart k hk' i hi

/-- A matrix made by make is a matrix of the call's own. -/
theorem Row.own {w : World} {B g n : Nat} {l : List Int} (h : Row w g l) (hB : B ≤ g) (hn : l.length = n) (hm : n ≤ 17000000000000) : Own w B (.slice (some ⟨g, 0, none⟩) n n) l := by
  subst hn
  refine ⟨by simp, .inr ⟨g, l.length, (ints l).toArray, rfl, hB, h, Nat.le_refl _, by unfold maxLen; omega, by simp, by simp [List.take_of_length_le]⟩⟩
theorem Grid.own {w : World} {B g : Nat} {G : Nat → Nat} {r c : Nat} {f : Nat → Nat → Int} (h : Grid w g G r c f) (hB : B ≤ g) (hr : r ≤ 1000) (hc : c ≤ 1000) : OwnM w B (.slice (some ⟨g, 0, none⟩) r r) G (fun _ => c) (Mx.tab r c f) := by
  refine OwnH.strong ⟨⟨by rw [len_hds, Nat.mul_one], .inr ⟨g, r, _, rfl, hB, h.head, Nat.le_refl _, by unfold maxLen; omega, by simp, ?_⟩⟩, fun i hi => (h.row i hi).own (by have := h.after i hi; omega) (Mx.len_row _ _) (by omega)⟩ h.apart
  simp [hds, List.take_of_length_le]
end Go.Proofs.YtofdhdnffkhojaaDoor

/- Contracts of package det, first part: ascending, Sign. -/
namespace Go.Proofs.YtofdhdnffkhojaaDoor
open Go.ChangeShapes Go.WideShapes Go.ChangeAt Go.RowKit
set_option linter.unusedVariables false

set_option maxRecDepth 100000 in
set_option maxHeartbeats 1600000 in
theorem ascending_any (n : Nat) (w : World) (hn : n ≤ 1000) :
    Calls Tryd.prog 46 #[.int .i64 (n : Int)] w fun e w' =>
      e = .returned (.slice (some ⟨w.heap.size, 0, none⟩) n n) ∧ Row w' w.heap.size (Mx.row n fun i => (i : Int)) ∧ Kp w w' := by
  obtain ⟨i0, hi, hz0, hz1, hz2⟩ := info_parts int_info
  go_enter Tryd.func46, Tryd.ntmps46
  go_wp2_with (at_make; refine wpList_make_full _ rfl _ _ 23 rfl w.heap.size 3 i0 (.int .i64 0) 1 Tryd.underlying23 hi hz0 hz1 _ _ _ _ n rfl rfl rfl rfl (by rw [hz2]; omega) (by unfold maxLen; omega) (Nat.le_refl _) ?_; intro w1 hown hgrow)
  have HR := Lib.hid (row_made hown)
  have HK := Lib.hid (show Kp w w1 from (Kp.rfl' w).grown hgrow (by simp) (fun k hk => by cases hk))
  obtain ⟨g, hg⟩ : ∃ g, g = w.heap.size := ⟨_, rfl⟩
  rw [← hg] at HR ⊢
  have HG := Lib.hid (show w.heap.size ≤ g by omega)
  have HE := Lib.hid hg
  clear hown hgrow hg
  go_wp2_with fail
  go_loopw [9] (fun i wr => ∃ k : Nat, k ≤ n ∧ i = .int .i64 (k : Int) ∧ Row wr g (Mx.row n fun j => if j < k then (j : Int) else 0) ∧ Kp w wr) (fun i _ => n - (intOf i).toNat)
  case atStart =>
    refine ⟨0, Nat.zero_le _, rfl, ?_, HK.out⟩
    have := HR.out
    rw [Mx.row_rep] at this
    rw [show (Mx.row n fun j => if j < 0 then (j : Int) else 0) = Mx.row n fun _ => 0 from Mx.row_ext fun j _ => by rw [if_neg (by omega)]]
    exact this
  case round =>
    obtain ⟨k, hk, rfl, hr, hkp⟩ := hrel
    by_cases hlt : k < n
    · have y1 := hr.cell k (by rw [Mx.len_row]; exact hlt)
      have y2 := hr.free k
      have HP := Lib.hid (hr.put k (k : Int))
      have HQ := Lib.hid (hkp.put (p := ⟨g, k, none⟩) HG.out (.int .i64 (k : Int)))
      clear hr hkp
      go_wp2_with fail
      go_roundw
      case rel =>
        refine ⟨k + 1, by omega, by go_num, ?_, HQ.out⟩
        have := HP.out
        rw [Mx.row_set] at this
        rw [show (Mx.row n fun j => if j < k + 1 then (j : Int) else 0) = Mx.row n fun j => if j = k then (k : Int) else if j < k then (j : Int) else 0 from Mx.row_ext fun j _ => by
          by_cases e : j = k
          · rw [if_pos e, if_pos (by omega), e]
          · rw [if_neg e]
            by_cases e2 : j < k
            · rw [if_pos e2, if_pos (by omega)]
            · rw [if_neg e2, if_neg (by omega)]]
        exact this
      case measure => simp [intOf]; omega
    · obtain rfl : k = n := by omega
      have HR2 := Lib.hid (show Row wr g (Mx.row k fun i => (i : Int)) by
        rw [show (Mx.row k fun i => (i : Int)) = Mx.row k fun j => if j < k then (j : Int) else 0 from Mx.row_ext fun j hj => by rw [if_pos hj]]
        exact hr)
      have HQ := Lib.hid hkp
      clear hr hkp
      go_wp2_with fail
      go_ret
      refine ⟨?_, ?_, HQ.out⟩
      · show Ending.returned (.slice (some ⟨g, 0, none⟩) k k) = _
        rw [HE.out]
      · rw [← HE.out]; exact HR2.out

/-- Where the sorting of an order stands: x times the sign of what is left is the order's sign; the first k are at their places. -/
structure Srt (w0 w : World) (g n c : Nat) (S : Fp.F) (k : Nat) (l : List Int) (x : Int) : Prop where
  own : Own w w0.heap.size (.slice (some ⟨g, 0, none⟩) n c) l
  len : l.length = n
  pm : x = 1 ∨ x = -1
  eq : Fp.ofInt x * Mx.sp n (fun i => l.getD i 0) = S
  fix : ∀ t, t < k → l.getD t 0 = (t : Int)
  kp : Kp w0 w
theorem Srt.next {w0 w : World} {g n c : Nat} {S : Fp.F} {k : Nat} {l : List Int} {x : Int} (h : Srt w0 w g n c S k l x) (e : l.getD k 0 = (k : Int)) : Srt w0 w g n c S (k + 1) l x :=
  ⟨h.own, h.len, h.pm, h.eq, fun t ht => by
    by_cases hk : t = k
    · rw [hk]; exact e
    · exact h.fix t (by omega), h.kp⟩
theorem getD_set2 {l : List Int} {k m : Nat} (hk : k < l.length) (hm : m < l.length) (x y : Int) (i : Nat) : ((l.set k x).set m y).getD i 0 = if i = m then y else if i = k then x else l.getD i 0 := by
  rw [List.getD_eq_getElem?_getD, List.getD_eq_getElem?_getD, List.getElem?_set, List.getElem?_set]
  by_cases h1 : i = m
  · rw [if_pos h1.symm, if_pos (by simpa using hm), if_pos h1]; rfl
  · rw [if_neg (fun e => h1 e.symm), if_neg h1]
    by_cases h2 : i = k
    · rw [if_pos h2.symm, if_pos hk, if_pos h2]; rfl
    · rw [if_neg (fun e => h2 e.symm), if_neg h2]
/-- Two numbers change places: the one that stood at place k comes home. -/
theorem Srt.swap {w0 w : World} {g n c : Nat} {S : Fp.F} {k : Nat} {l : List Int} {x : Int} (h : Srt w0 w g n c S k l x) (hk : k < n) {m : Nat} (hm : m < n) (e : l.getD k 0 = (m : Int)) (hne : m ≠ k) (h2 : l.getD m 0 ≠ (m : Int)) (hB : w0.heap.size ≤ g) :
    Srt w0 ((w.setCell ⟨g, k, none⟩ (.int .i64 (l.getD m 0))).setCell ⟨g, m, none⟩ (.int .i64 (m : Int))) g n c S k ((l.set k (l.getD m 0)).set m (m : Int)) (-x) ∧
      Mx.nf n (fun i => ((l.set k (l.getD m 0)).set m (m : Int)).getD i 0) < Mx.nf n fun i => l.getD i 0 := by
  have hg : ∀ i, ((l.set k (l.getD m 0)).set m (m : Int)).getD i 0 = l.getD (Mx.sw k m i) 0 := fun i => by
    rw [getD_set2 (by rw [h.len]; exact hk) (by rw [h.len]; exact hm)]
    by_cases h1 : i = m
    · rw [if_pos h1, h1, Mx.sw_right, e]
    · rw [if_neg h1]
      by_cases h3 : i = k
      · rw [if_pos h3, h3, Mx.sw_left]
      · rw [if_neg h3, Mx.sw_none h3 h1]
  refine ⟨⟨own_put (own_put h.own k _) m _, by rw [List.length_set, List.length_set]; exact h.len, ?_, ?_, fun t ht => ?_, (h.kp.put (p := ⟨g, k, none⟩) hB _).put (p := ⟨g, m, none⟩) hB _⟩, ?_⟩
  · rcases h.pm with a | a <;> rw [a] <;> simp
  · rw [Mx.sp_congr (t := fun i => l.getD (Mx.sw k m i) 0) fun i _ => hg i, Mx.sp_swap (fun i => l.getD i 0) hk hm (fun e => hne e.symm), Mx.ofInt_neg, ← h.eq]; grind
  · have h3 := h.fix t ht
    have : t ≠ m := fun e => by rw [e] at h3; exact h2 h3
    rw [hg, Mx.sw_none (by omega) this]; exact h3
  · refine Mx.nf_lt n (m := m) (fun i hi h3 => ?_) hm h2 ?_
    · have a1 : i ≠ m := fun e => by rw [e] at h3; exact h2 h3
      have a2 : i ≠ k := fun e2 => by rw [e2] at h3; rw [h3] at e; omega
      rw [hg, Mx.sw_none a2 a1]; exact h3
    · rw [hg, Mx.sw_right]; exact e

/-- The sign of an order comes out. -/
def Signed (S : Fp.F) (w : World) (e : Ending) (w' : World) : Prop := ∃ x, e = .returned (.int .i64 x) ∧ Mx.SgnIs S x ∧ Kp w w'
set_option maxRecDepth 100000 in
set_option maxHeartbeats 3200000 in
theorem Sign_pos (A : Option Addr) (l : List Int) (n c : Nat) (w : World) (hl : Lies w A l) (hn : l.length = n) (h0 : 0 < n) (h1 : n ≤ 1000) :
    Calls Tryd.prog 48 #[.slice A n c] w fun e w' => Signed (Mx.sp n fun i => l.getD i 0) w e w' := by
  have CL := Lib.hid (show Calls Tryd.prog 62 #[.slice A n c] w fun e w' => SomeRow l w e w' by
    rw [← hn]; exact sclone_any A l c w hl (by omega))
  obtain ⟨S, hS⟩ : ∃ S, S = Mx.sp n fun i => l.getD i 0 := ⟨_, rfl⟩
  rw [← hS]
  have HS := Lib.hid hS
  have HN := Lib.hid hn
  clear hl hS hn
  go_enter Tryd.func48, Tryd.ntmps48
  go_wp2_with fail
  refine (CL.out).mono ?_; rintro e w1 ⟨v, rfl, ho, hk⟩
  obtain ⟨g, cap, rfl, hg, hcap⟩ := own_some ho (by rw [HN.out]; exact h0)
  rw [HN.out] at ho hcap ⊢
  have ST := Lib.hid (show Srt w w1 g n cap S 0 l 1 from ⟨ho, HN.out, .inl rfl, by rw [← HS.out, show Fp.ofInt 1 = 1 from rfl]; grind, fun t ht => absurd ht (by omega), hk⟩)
  have HB := Lib.hid hg
  clear ho hk hg
  go_wp2_with fail
  go_loopw [3, 11] (fun s i wr => ∃ (k : Nat) (l : List Int) (x : Int), k ≤ n ∧ i = .int .i64 (k : Int) ∧ s = .int .i64 x ∧ Srt w wr g n cap S k l x) (fun _ i _ => n - (intOf i).toNat)
  case atStart => exact ⟨0, l, 1, Nat.zero_le _, rfl, rfl, ST.out⟩
  case round =>
    clear ST HS HN
    obtain ⟨k, l, x, hk, rfl, rfl, st⟩ := hrel
    by_cases hlt : k < n
    · have ST := Lib.hid st
      clear st
      go_wp2_with fail
      go_loopg [3] (Mx.nf n fun i => l.getD i 0) (fun q s wq => ∃ (l : List Int) (x : Int), s = .int .i64 x ∧ Srt w wq g n cap S k l x ∧ Mx.nf n (fun i => l.getD i 0) = q)
      case atStart => exact ⟨l, x, rfl, ST.out, rfl⟩
      case round =>
        clear ST
        obtain ⟨l, x, rfl, st, hq⟩ := hrel
        have ST := Lib.hid st
        have HQ := Lib.hid hq
        have c1 := own_cell st.own k (by rw [st.len]; exact hlt)
        have z1 := own_free st.own k
        have hxb : -1 ≤ x ∧ x ≤ 1 := by rcases st.pm with a | a <;> omega
        obtain ⟨y, hy⟩ : ∃ y, y = l.getD k 0 := ⟨_, rfl⟩
        rw [← hy] at c1
        have HY := Lib.hid hy
        clear st hq hy
        by_cases e : y = (k : Int)
        · have e1 : (y != (k : Int)) = false := by rw [e]; simp
          have ST2 := Lib.hid (ST.out.next (by rw [← HY.out]; exact e))
          clear e
          go_wp2_with fail
          go_roundw
          case rel => exact ⟨k + 1, l, x, by omega, by go_num, rfl, ST2.out⟩
          case measure => simp [intOf]; omega
        · have e1 : (y != (k : Int)) = true := by rw [bne_iff_ne]; exact e
          have ZERO := Lib.hid (fun h : Mx.sp n (fun i => l.getD i 0) = 0 => show Mx.SgnIs S 0 from ⟨.inr (.inr rfl), by rw [← ST.out.eq, h, show Fp.ofInt 0 = 0 from rfl]; grind⟩)
          by_cases h2 : y < 0
          · have Z := Lib.hid (ZERO.out (Mx.sp_out hlt (.inl (by rw [← HY.out]; exact h2))))
            clear e ZERO
            go_wp2_with fail
            go_ret
            exact ⟨0, rfl, Z.out, ST.out.kp⟩
          · by_cases h3 : (n : Int) ≤ y
            · have Z := Lib.hid (ZERO.out (Mx.sp_out hlt (.inr (by rw [← HY.out]; exact h3))))
              clear e ZERO
              go_wp2_with fail
              go_ret
              exact ⟨0, rfl, Z.out, ST.out.kp⟩
            · obtain ⟨m, rfl⟩ : ∃ m : Nat, y = (m : Int) := ⟨y.toNat, by omega⟩
              have hm : m < n := by omega
              have hne : m ≠ k := fun h => e (by rw [h])
              have c2 := own_cell ST.out.own m (by rw [ST.out.len]; exact hm)
              obtain ⟨z, hz⟩ : ∃ z, z = l.getD m 0 := ⟨_, rfl⟩
              rw [← hz] at c2
              have HZ := Lib.hid hz
              clear hz h2 h3 e
              by_cases e2 : z = (m : Int)
              · have e3 : (z == (m : Int)) = true := by rw [e2]; simp
                have Z := Lib.hid (ZERO.out (Mx.sp_twice hlt hm (fun h => hne h.symm) (by rw [← HY.out, ← HZ.out, e2])))
                clear ZERO e2
                go_wp2_with fail
                go_ret
                exact ⟨0, rfl, Z.out, ST.out.kp⟩
              · have e3 : (z == (m : Int)) = false := by rw [beq_eq_false_iff_ne]; exact e2
                have SW := Lib.hid (ST.out.swap hlt hm HY.out.symm hne (by rw [← HZ.out]; exact e2) HB.out)
                rw [← HZ.out] at SW
                have z3 := own_free (own_put ST.out.own k z) m
                have c3 : (wr.setCell ⟨g, k, none⟩ (.int .i64 z)).cell? ⟨g, m, none⟩ = some (.int .i64 z) := by
                  have hne' : (⟨g, k, none⟩ : Addr) ≠ ⟨g, m, none⟩ := fun e' => hne (by cases e'; rfl)
                  rw [World.cell?_setCell_other (w := wr) (v := .int .i64 z) (h := hne')]; exact c2

                have hwn : IntKind.i64.wrap (-x) = -x := IntWalk.i64_in _ (by omega)
                clear ZERO e2
                go_wp2_with fail
                go_roundg (Mx.nf n fun i => ((l.set k z).set m (m : Int)).getD i 0)
                case measure => rw [← HQ.out]; exact SW.out.2
                case rel => exact ⟨(l.set k z).set m (m : Int), -x, rfl, SW.out.1, rfl⟩
    · obtain rfl : k = n := by omega
      have Z := Lib.hid (show Mx.SgnIs S x from ⟨by rcases st.pm with a | a <;> simp [a], by
        rw [← st.eq, Mx.sp_id fun i hi => st.fix i hi]; grind⟩)
      have HK := Lib.hid st.kp
      clear st
      go_wp2_with fail
      go_ret
      exact ⟨x, rfl, Z.out, HK.out⟩

set_option maxRecDepth 100000 in
theorem Sign_zero (A : Option Addr) (c : Nat) (w : World) :
    Calls Tryd.prog 48 #[.slice A 0 c] w fun e w' => Signed 1 w e w' := by
  have CL := Lib.hid (sclone_any A [] c w (fun k hk => absurd hk (by simp)) (by simp))
  rw [List.length_nil] at CL
  go_enter Tryd.func48, Tryd.ntmps48
  go_wp2_with fail
  refine (CL.out).mono ?_; rintro e w1 ⟨v, rfl, ho, hk⟩
  obtain ⟨A1, c1, rfl, _, _⟩ := ho.cap
  rw [List.length_nil]
  have HK := Lib.hid hk
  clear ho hk
  go_wp2_with fail
  go_loopw [3, 11] (fun s i wr => i = .int .i64 0 ∧ s = .int .i64 1 ∧ wr = w1) (fun _ i _ => 0)
  case atStart => exact ⟨rfl, rfl, rfl⟩
  case round =>
    obtain ⟨rfl, rfl, rfl⟩ := hrel
    go_wp2_with fail
    go_ret
    exact ⟨1, rfl, ⟨.inl rfl, rfl⟩, HK.out⟩
theorem Sign_any (A : Option Addr) (l : List Int) (n c : Nat) (w : World) (hl : Lies w A l) (hn : l.length = n) (h1 : n ≤ 1000) :
    Calls Tryd.prog 48 #[.slice A n c] w fun e w' => Signed (Mx.sp n fun i => l.getD i 0) w e w' := by
  by_cases h0 : n = 0
  · subst h0; exact Sign_zero A c w
  · exact Sign_pos A l n c w hl hn (by omega) h1

end Go.Proofs.YtofdhdnffkhojaaDoor

/- Square matrices: what is wrong with one. No program is named here. -/
namespace Go.Proofs.YtofdhdnffkhojaaDoor
set_option linter.unusedVariables false

/-- What is wrong with a matrix that should be square. -/
def qcode (most : Nat) (lo hi : Int) (m : List (List Int)) : Nat := if Mx.mcode most lo hi m = 0 ∧ m.length ≠ (m.getD 0 []).length then 3 else Mx.mcode most lo hi m
theorem qcode_le (most : Nat) (lo hi : Int) (m : List (List Int)) : qcode most lo hi m ≤ 5 := by
  unfold qcode
  split
  · omega
  · exact Mx.mcode_le _ _ _ _
theorem qcode_bad {most : Nat} {lo hi : Int} {m : List (List Int)} (h : Mx.mcode most lo hi m ≠ 0) : qcode most lo hi m = Mx.mcode most lo hi m := by
  unfold qcode; rw [if_neg (fun h' => h h'.1)]
theorem qcode_zero {most : Nat} {m : List (List Int)} (h : qcode most 0 9972 m = 0) : Mx.mcode most 0 9972 m = 0 ∧ m.length = (m.getD 0 []).length := by
  unfold qcode at h
  by_cases h0 : Mx.mcode most 0 9972 m = 0 ∧ m.length ≠ (m.getD 0 []).length
  · rw [if_pos h0] at h; cases h
  · rw [if_neg h0] at h
    exact ⟨h, Classical.byContradiction fun e => h0 ⟨h, e⟩⟩
theorem qcode_matl {most n : Nat} (f : Nat → Nat → Fp.F) (h0 : 0 < n) (h1 : n ≤ most) : qcode most 0 9972 (Mx.matl n n f) = 0 := by
  unfold qcode
  rw [if_neg fun h => h.2 (by rw [Mx.len_matl]; exact (Mx.tab_len n n _ 0 h0).symm)]
  exact Mx.mcode_matl f h0 h1 h0 h1

end Go.Proofs.YtofdhdnffkhojaaDoor

/- The heads of r rows, of which the first k are made. For all packages. -/
namespace Go.Proofs.YtofdhdnffkhojaaDoor
open Go.ChangeShapes Go.WideShapes Go.ChangeAt Go.RowKit
set_option linter.unusedVariables false

/-- Of a matrix that is made row by row the first k rows. -/
structure PartF (w : World) (g : Nat) (G : Nat → Nat) (r c k : Nat) (f : Nat → Nat → Int) : Prop where
  head : w.heap[g]? = some (.cells ((List.range r).map fun i => if i < k then Value.slice (some ⟨G i, 0, none⟩) c c else .slice none 0 0).toArray 23 (0, 0))
  row : ∀ i, i < k → Row w (G i) (Mx.row c (f i))
  after : ∀ i, i < k → g < G i
  apart : ∀ i j, i < k → j < k → i ≠ j → G i ≠ G j
theorem PartF.lt {w : World} {g : Nat} {G : Nat → Nat} {r c k : Nat} {f : Nat → Nat → Int} (h : PartF w g G r c k f) : g < w.heap.size := by
  rcases Nat.lt_or_ge g w.heap.size with h' | h'
  · exact h'
  · have := h.head; rw [Array.getElem?_eq_none h'] at this; cases this
theorem PartF.keep {w w' : World} {g : Nat} {G : Nat → Nat} {r c k : Nat} {f : Nat → Nat → Int} (h : PartF w g G r c k f) (hk : Kp w w') : PartF w' g G r c k f :=
  ⟨by rw [hk.block g h.lt]; exact h.head, fun i hi => (h.row i hi).keep hk, h.after, h.apart⟩
theorem PartF.cell {w : World} {g : Nat} {G : Nat → Nat} {r c k : Nat} {f : Nat → Nat → Int} (h : PartF w g G r c k f) {i : Nat} (hi : k ≤ i) (hr : i < r) : w.cell? ⟨g, i, none⟩ = some (.slice none 0 0) := by
  rw [cell_of_row _ _ i _ _ (0, 0) h.head]; simp [hr]; omega
theorem PartF.free {w : World} {g : Nat} {G : Nat → Nat} {r c k : Nat} {f : Nat → Nat → Int} (h : PartF w g G r c k f) (i : Nat) : w.frozen? ⟨g, i, none⟩ = false := frozen_of_row w g i _ _ h.head
theorem PartF.start {w : World} {base g r c : Nat} (f : Nat → Nat → Int) (h : w.ownsRow base 23 1 (.slice (some ⟨g, 0, none⟩) r r) r (madeCells #[.slice none 0 0] (r * 1)).toList) : PartF w g (fun _ => 0) r c 0 f :=
  ⟨(Part.start (c := c) h).head, fun i hi => absurd hi (by omega), fun i hi => absurd hi (by omega), fun i j hi => absurd hi (by omega)⟩
theorem PartF.step {w w1 w2 : World} {g : Nat} {G : Nat → Nat} {r c k : Nat} {f : Nat → Nat → Int} (h : PartF w g G r c k f) (hk : k < r) (hkp : Kp w w1) (h2 : Row w2 w.heap.size (Mx.row c (f k)))
    (hb : ∀ b, b ≠ w.heap.size → w2.heap[b]? = (w1.setCell ⟨g, k, none⟩ (.slice (some ⟨w.heap.size, 0, none⟩) c c)).heap[b]?) :
    PartF w2 g (fun i => if i = k then w.heap.size else G i) r c (k + 1) f := by
  have hlt := h.lt
  have h1 := h.keep hkp
  refine ⟨?_, fun i hi => ?_, fun i hi => ?_, fun i j hi hj hne => ?_⟩
  · rw [hb g (by omega), heap_setCell_same w1 g k _ _ _ h1.head]
    congr 2
    refine Array.toList_inj.1 (List.ext_getElem (by simp) fun i h2 h3 => ?_)
    simp only [Array.toList_setIfInBounds, List.getElem_set, List.getElem_map, List.getElem_range]
    rcases Nat.lt_trichotomy i k with e | e | e
    · simp [show ¬ k = i by omega, show i < k from e, show i < k + 1 by omega, show ¬ i = k by omega]
    · subst e; simp
    · simp [show ¬ k = i by omega, show ¬ i < k by omega, show ¬ i < k + 1 by omega]
  · by_cases e : i = k
    · subst e
      rw [if_pos rfl]; exact h2
    · rw [if_neg e]
      have hi' : i < k := by omega
      have := (h.row i hi').lt
      have h3 : Row (w1.setCell ⟨g, k, none⟩ (.slice (some ⟨w.heap.size, 0, none⟩) c c)) (G i) (Mx.row c (f i)) := (h1.row i hi').far (by show G i ≠ g; have := h.after i hi'; omega) _
      unfold Row at h3 ⊢
      rw [hb (G i) (by omega)]; exact h3
  · by_cases e : i = k
    · rw [if_pos e]; exact hlt
    · rw [if_neg e]; exact h.after i (by omega)
  · have hG : ∀ a, a < k → G a < w.heap.size := fun a ha => (h.row a ha).lt
    by_cases e : i = k
    · rw [if_pos e, if_neg (by omega)]
      have := hG j (by omega); omega
    · rw [if_neg e]
      by_cases e2 : j = k
      · rw [if_pos e2]; have := hG i (by omega); omega
      · rw [if_neg e2]; exact h.apart i j (by omega) (by omega) hne
theorem PartF.done {w : World} {g : Nat} {G : Nat → Nat} {r c : Nat} {f : Nat → Nat → Int} (h : PartF w g G r c r f) : Grid w g G r c f := by
  refine ⟨?_, fun i hi => h.row i hi, h.after, h.apart⟩
  rw [h.head]
  congr 2
  refine Array.toList_inj.1 (List.ext_getElem (by simp) fun i h2 h3 => ?_)
  simp only [List.getElem_map, List.getElem_range]
  rw [if_pos (by simpa using h3)]

theorem PartF.ext {w : World} {g : Nat} {G : Nat → Nat} {r c k : Nat} {f f' : Nat → Nat → Int} (h : PartF w g G r c k f) (e : ∀ i j, i < k → j < c → f i j = f' i j) : PartF w g G r c k f' :=
  ⟨h.head, fun i hi => by rw [← Mx.row_ext (fun j hj => e i j hi hj)]; exact h.row i hi, h.after, h.apart⟩
theorem PartF.cellOf {w : World} {g : Nat} {G : Nat → Nat} {r c k : Nat} {f : Nat → Nat → Int} (h : PartF w g G r c k f) {i : Nat} (hi : i < k) (hr : i < r) : w.cell? ⟨g, i, none⟩ = some (.slice (some ⟨G i, 0, none⟩) c c) := by
  rw [cell_of_row _ _ i _ _ (0, 0) h.head]; simp [hr, hi]
theorem PartF.el {w : World} {g : Nat} {G : Nat → Nat} {r c k : Nat} {f : Nat → Nat → Int} (h : PartF w g G r c k f) {i j : Nat} (hi : i < k) (hj : j < c) : w.cell? ⟨G i, j, none⟩ = some (.int .i64 (f i j)) := by
  have := (h.row i hi).cell j (by rw [Mx.len_row]; exact hj)
  rwa [Mx.row_at _ _ _ hj] at this
theorem PartF.freeOf {w : World} {g : Nat} {G : Nat → Nat} {r c k : Nat} {f : Nat → Nat → Int} (h : PartF w g G r c k f) {i : Nat} (hi : i < k) (j : Nat) : w.frozen? ⟨G i, j, none⟩ = false := (h.row i hi).free j
theorem PartF.put {w : World} {g : Nat} {G : Nat → Nat} {r c k : Nat} {f : Nat → Nat → Int} (h : PartF w g G r c k f) {i : Nat} (hi : i < k) (j : Nat) (x : Int) :
    PartF (w.setCell ⟨G i, j, none⟩ (.int .i64 x)) g G r c k (fun a b => if a = i ∧ b = j then x else f a b) := by
  refine ⟨?_, fun a ha => ?_, h.after, h.apart⟩
  · rw [heap_setCell_other w _ g _ (by show g ≠ G i; have := h.after i hi; omega)]; exact h.head
  · by_cases e : a = i
    · subst e
      have := (h.row a hi).put j x
      rw [Mx.row_set] at this
      rw [show (fun b => if a = a ∧ b = j then x else f a b) = fun b => if b = j then x else f a b by funext b; simp]
      exact this
    · rw [show (fun b => if a = i ∧ b = j then x else f a b) = f a by funext b; simp [e]]
      exact (h.row a ha).far (by show G a ≠ G i; exact h.apart a i ha hi e) _

end Go.Proofs.YtofdhdnffkhojaaDoor

/- Plain facts for matrices in steps, as programs make them: clean, the next step, ranks, what can be undone. No program is named here. -/
namespace Go.Proofs.YtofdhdnffkhojaaDoor
set_option linter.unusedVariables false

/-- The first row from row i on that is not nought at column j; or how many rows there are. -/
def First (r : Nat) (f : Nat → Nat → Fp.F) (i j k : Nat) : Prop := i ≤ k ∧ k ≤ r ∧ (∀ t, i ≤ t → t < k → f t j = 0) ∧ (k < r → f k j ≠ 0)
/-- A row is taken from another one, so many times. -/
def less (f : Nat → Nat → Fp.F) (a i : Nat) (x : Fp.F) : Nat → Nat → Fp.F := fun p q => if p = a then f a q - x * f i q else f p q

/-- Row i begins with 1 at column j, and is taken from all others. -/
def cln (f : Nat → Nat → Fp.F) (i j : Nat) : Nat → Nat → Fp.F := fun p q =>
  if p = i then f i q * Fp.inv (f i j) else f p q - f p j * (f i q * Fp.inv (f i j))
/-- The same, for the rows before row k alone. -/
def clnTo (f : Nat → Nat → Fp.F) (i j k : Nat) : Nat → Nat → Fp.F := fun p q =>
  if p = i then f i q * Fp.inv (f i j) else if p < k then f p q - f p j * (f i q * Fp.inv (f i j)) else f p q
theorem clnTo_same (f : Nat → Nat → Fp.F) (i j : Nat) (p q : Nat) : clnTo f i j i p q = clnTo f i j (i + 1) p q := by
  unfold clnTo
  by_cases e : p = i
  · rw [if_pos e, if_pos e]
  · rw [if_neg e, if_neg e]
    by_cases h : p < i
    · rw [if_pos h, if_pos (by omega)]
    · rw [if_neg h, if_neg (by omega)]
theorem clnTo_next (f : Nat → Nat → Fp.F) {i j k : Nat} (hk : k ≠ i) (p q : Nat) : less (clnTo f i j k) k i (f k j) p q = clnTo f i j (k + 1) p q := by
  unfold less clnTo
  by_cases e : p = k
  · subst e
    rw [if_pos rfl, if_neg hk, if_neg (by omega), if_pos rfl, if_neg hk, if_pos (by omega)]
  · rw [if_neg e]
    by_cases e2 : p = i
    · rw [if_pos e2, if_pos e2]
    · rw [if_neg e2, if_neg e2]
      by_cases h : p < k
      · rw [if_pos h, if_pos (by omega)]
      · rw [if_neg h, if_neg (by omega)]

/-- The columns of the pivots as numbers. -/
def cols (b : List Nat) : List Int := b.map fun (k : Nat) => (k : Int)
theorem len_cols (b : List Nat) : (cols b).length = b.length := by simp [cols]
theorem cols_snoc (b : List Nat) (k : Nat) : cols (b ++ [k]) = cols b ++ [(k : Int)] := by simp [cols]
theorem cols_inj {b d : List Nat} (h : b = d) : cols b = cols d := by rw [h]

/-- In steps as far as the first k columns, and the rows come of the rows of f. -/
structure Stair (r c k : Nat) (f : Nat → Nat → Fp.F) (b : List Nat) (g : Nat → Nat → Fp.F) : Prop where
  steps : Mx.Steps r k b g
  req : Mx.Req r c f g
theorem Stair.start (r c : Nat) (f : Nat → Nat → Fp.F) : Stair r c 0 f [] f := ⟨Mx.steps_none r f, Mx.Req.refl r c f⟩
theorem Stair.one {r c : Nat} {f : Nat → Nat → Fp.F} {b d : List Nat} {g h : Nat → Nat → Fp.F} (s : Stair r c c f b g) (t : Stair r c c f d h) : b = d ∧ Mx.Eqm r c g h :=
  s.steps.unique t.steps (s.req.symm.trans t.req)
/-- What comes of the two heads that changed places, and of clean. -/
theorem cln_nxt (g : Nat → Nat → Fp.F) (p a k : Nat) : cln (fun i => if i = a then g p else if i = p then g a else g i) p k = Mx.nxt p a k g := by
  have hp : (fun i => if i = a then g p else if i = p then g a else g i) p = g a := by
    by_cases e : p = a
    · subst e; simp
    · show (if p = a then g p else if p = p then g a else g p) = g a
      rw [if_neg e, if_pos rfl]
  funext i j
  unfold cln Mx.nxt
  rw [hp]
  by_cases e : i = p
  · rw [if_pos e, if_pos e]
  · rw [if_neg e, if_neg e]
    have hs : (if i = a then g p else if i = p then g a else g i) = g (Mx.swp p a i) := by
      unfold Mx.swp
      rw [if_neg e, if_neg e]
      by_cases e2 : i = a
      · rw [if_pos e2, if_pos e2]
      · rw [if_neg e2, if_neg e2]
    show (if i = a then g p else if i = p then g a else g i) j - (if i = a then g p else if i = p then g a else g i) k * _ = _
    rw [hs]
theorem Stair.next {r c k : Nat} {f : Nat → Nat → Fp.F} {b : List Nat} {g : Nat → Nat → Fp.F} (s : Stair r c k f b g) {a : Nat} (ha : b.length ≤ a) (hr : a < r) (h0 : g a k ≠ 0) : Stair r c (k + 1) f (b ++ [k]) (Mx.nxt b.length a k g) :=
  ⟨s.steps.next ha hr h0, s.req.trans (Mx.req_next g (by omega) hr h0)⟩
theorem Stair.skip {r c k : Nat} {f : Nat → Nat → Fp.F} {b : List Nat} {g : Nat → Nat → Fp.F} (s : Stair r c k f b g) (h0 : ∀ i, b.length ≤ i → i < r → g i k = 0) : Stair r c (k + 1) f b g :=
  ⟨s.steps.skip h0, s.req⟩

theorem Stair.thru {r c : Nat} {f : Nat → Nat → Fp.F} {b : List Nat} {g : Nat → Nat → Fp.F} (s : Stair r c c f b g) : Mx.Thru r c b.length f := s.steps.thru s.req
theorem Stair.sees {r c : Nat} {f : Nat → Nat → Fp.F} {b : List Nat} {g : Nat → Nat → Fp.F} (s : Stair r c c f b g) : Mx.Sees r c b.length f := s.steps.sees s.req
theorem Stair.le {r c k : Nat} {f : Nat → Nat → Fp.F} {b : List Nat} {g : Nat → Nat → Fp.F} (s : Stair r c k f b g) : b.length ≤ r := s.steps.le
theorem rank_flip {r c : Nat} {f : Nat → Nat → Fp.F} {b d : List Nat} {g h : Nat → Nat → Fp.F} (s : Stair r c c f b g) (t : Stair c r r (Mx.flip f) d h) : d.length = b.length :=
  Nat.le_antisymm (Mx.sees_thru t.sees s.thru.flip) (Mx.sees_thru s.sees.flip t.thru)
theorem rank_mul {r q c : Nat} {f f' : Nat → Nat → Fp.F} {b1 b2 b3 : List Nat} {g1 g2 g3 : Nat → Nat → Fp.F} (s1 : Stair r q q f b1 g1) (s2 : Stair q c c f' b2 g2) (s3 : Stair r c c (Mx.mul q f f') b3 g3) :
    b3.length ≤ b1.length ∧ b3.length ≤ b2.length ∧ b1.length + b2.length ≤ b3.length + q :=
  ⟨Mx.sees_thru s3.sees (s1.thru.mul_left f'), Mx.sees_thru s3.sees (s2.thru.mul_right f), Mx.sylvester s1.sees s2.sees s3.thru⟩
theorem rank_plus {r c : Nat} {f f' : Nat → Nat → Fp.F} {b1 b2 b3 : List Nat} {g1 g2 g3 : Nat → Nat → Fp.F} (s1 : Stair r c c f b1 g1) (s2 : Stair r c c f' b2 g2) (s3 : Stair r c c (Mx.plus f f') b3 g3) :
    b3.length ≤ b1.length + b2.length ∧ b1.length ≤ b3.length + b2.length ∧ b2.length ≤ b3.length + b1.length := by
  refine ⟨Mx.sees_thru s3.sees (s1.thru.plus s2.thru), Mx.sees_thru s1.sees ?_, Mx.sees_thru s2.sees ?_⟩
  · refine (s3.thru.plus s2.thru.neg).eqm fun i j _ _ => ?_
    show f i j = (f i j + f' i j) + -(f' i j)
    grind
  · refine (s3.thru.plus s1.thru.neg).eqm fun i j _ _ => ?_
    show f' i j = (f i j + f' i j) + -(f i j)
    grind

theorem Stair.again {r c : Nat} {f : Nat → Nat → Fp.F} {b d : List Nat} {g h : Nat → Nat → Fp.F} (s : Stair r c c f b g) (t : Stair r c c g d h) : b = d ∧ Mx.Eqm r c g h := s.steps.unique t.steps t.req
theorem Stair.undone {r c : Nat} {f k : Nat → Nat → Fp.F} {b d : List Nat} {g h : Nat → Nat → Fp.F} (s : Stair r c c f b g) (hk : Mx.dt r k ≠ 0) (t : Stair r c c (Mx.mul r k f) d h) : b = d ∧ Mx.Eqm r c g h := by
  obtain ⟨u, hu⟩ := Mx.undo hk
  exact s.steps.unique t.steps ((s.req.symm.trans (Mx.req_undo hu f)).trans t.req)
end Go.Proofs.YtofdhdnffkhojaaDoor

/- Contracts of package gauss, first part: subtract, below, clone. -/
namespace Go.Proofs.YtofdhdnffkhojaaDoor
open Go.ChangeShapes Go.WideShapes Go.ChangeAt Go.RowKit
set_option linter.unusedVariables false

theorem gval (a : Fp.F) : 0 ≤ (a.val : Int) ∧ (a.val : Int) ≤ 9972 := by have := a.isLt; omega
theorem val_less (a x b : Fp.F) : ((a.val : Int) + (9973 - (x.val : Int)) * (b.val : Int)) % 9973 = ((a - x * b).val : Int) := by
  rw [← Fp.ofInt_val, Fp.ofInt_add, Fp.ofInt_mul, Fp.ofInt_self, Fp.ofInt_self]
  have h : Fp.ofInt (9973 - (x.val : Int)) + x = 0 := by
    have h2 := Fp.ofInt_add (9973 - (x.val : Int)) (x.val : Int)
    rw [Fp.ofInt_self, show (9973 - (x.val : Int)) + (x.val : Int) = 9973 by omega] at h2
    rw [← h2]; decide
  generalize Fp.ofInt (9973 - (x.val : Int)) = y at *
  have : a + y * b = a - x * b := by
    have e : y = -x := by grind
    rw [e]; grind
  rw [this]
theorem less_bound (x b : Fp.F) : 0 ≤ (9973 - (x.val : Int)) * (b.val : Int) ∧ (9973 - (x.val : Int)) * (b.val : Int) ≤ 99450756 := by
  have h1 := gval x
  have h2 := gval b
  exact ⟨Int.mul_nonneg (by omega) h2.1, Int.mul_le_mul (show 9973 - (x.val : Int) ≤ 9973 by omega) h2.2 h2.1 (by decide)⟩
theorem less_mod (a x b : Fp.F) : ((a.val : Int) + (9973 - (x.val : Int)) * (b.val : Int)).tmod 9973 = ((a - x * b).val : Int) := by
  have h := less_bound x b
  rw [Int.tmod_eq_emod_of_nonneg (by have := gval a; omega), val_less]
theorem times_mod (a b : Fp.F) : ((a.val : Int) * (b.val : Int)).tmod 9973 = ((a * b).val : Int) := by
  have h1 := gval a
  have h2 := gval b
  rw [Int.tmod_eq_emod_of_nonneg (Int.mul_nonneg h1.1 h2.1), Fp.mul_val]
theorem times_bound (a b : Fp.F) : 0 ≤ (a.val : Int) * (b.val : Int) ∧ (a.val : Int) * (b.val : Int) ≤ 99440784 := by
  have h1 := gval a
  have h2 := gval b
  exact ⟨Int.mul_nonneg h1.1 h2.1, Int.mul_le_mul h1.2 h2.2 h2.1 (by decide)⟩

set_option maxRecDepth 100000 in
set_option maxHeartbeats 1600000 in
theorem subtract_any {B g cap : Nat} {G C : Nat → Nat} {r c : Nat} {f : Nat → Nat → Fp.F} {a i : Nat} (ha : a < r) (hi : i < r) (hne : a ≠ i) (x : Fp.F) (w : World) (hc : c ≤ 1000)
    (h : OwnM w B (.slice (some ⟨g, 0, none⟩) r cap) G C (Mx.matl r c f)) :
    Calls Tryd.prog 82 #[.slice (some ⟨G a, 0, none⟩) c (C a), .slice (some ⟨G i, 0, none⟩) c (C i), .int .i64 (x.val : Int)] w fun e w' =>
      e = .returned (.tuple #[]) ∧ OwnM w' B (.slice (some ⟨g, 0, none⟩) r cap) G C (Mx.matl r c (less f a i x)) ∧ Only G r w w' := by
  have HO := Lib.hid h
  clear h
  obtain ⟨xv, hxv⟩ : ∃ xv, xv = (x.val : Int) := ⟨_, rfl⟩
  rw [← hxv]
  have HX := Lib.hid hxv
  have hxb : 0 ≤ xv ∧ xv ≤ 9972 := by rw [hxv]; exact gval x
  clear hxv
  go_enter Tryd.func82, Tryd.ntmps82
  go_wp2_with fail
  go_loopw [10] (fun u wr => ∃ k : Nat, k ≤ c ∧ u = .int .i64 (k : Int) ∧ OwnM wr B (.slice (some ⟨g, 0, none⟩) r cap) G C (Mx.tab r c fun p q => if p = a ∧ q < k then ((f a q - x * f i q).val : Int) else ((f p q).val : Int)) ∧ Only G r w wr) (fun u _ => c - (intOf u).toNat)
  case atStart => exact ⟨0, Nat.zero_le _, rfl, HO.out.ext (fun p q _ _ => by rw [if_neg (by omega)]), Only.refl _ _ _⟩
  case round =>
    obtain ⟨k, hk, rfl, ho, hon⟩ := hrel
    by_cases hlt : k < c
    · have y1 := ho.weak.el hi hlt
      have y2 := ho.weak.el ha hlt
      have y3 := ho.weak.free ha k
      rw [if_neg (by omega)] at y1
      rw [if_neg (by omega)] at y2
      have HP := Lib.hid ho
      have HN := Lib.hid hon
      have hm := less_mod (f a k) x (f i k)
      have hb := less_bound x (f i k)
      have hb2 := gval (f a k)
      rw [← HX.out] at hm hb
      obtain ⟨z, hz⟩ : ∃ z, z = ((f a k - x * f i k).val : Int) := ⟨_, rfl⟩
      rw [← hz] at hm
      have HZ := Lib.hid hz
      generalize ((f a k).val : Int) = u0 at *
      generalize ((f i k).val : Int) = v at *
      have hws : IntKind.i64.wrap (9973 - xv) = 9973 - xv := IntWalk.i64_in _ (by omega)
      have hwm : IntKind.i64.wrap ((9973 - xv) * v) = (9973 - xv) * v := IntWalk.i64_in _ (by omega)
      have hwa : IntKind.i64.wrap (u0 + (9973 - xv) * v) = u0 + (9973 - xv) * v := IntWalk.i64_in _ (by omega)
      clear ho hon hz hb hb2
      go_wp2_with fail
      go_roundw
      case rel =>
        refine ⟨k + 1, by omega, by go_num, (HP.out.put ha k z).ext (fun p q hp hq => ?_), HN.out.put ha k _⟩
        by_cases e : p = a ∧ q = k
        · rw [if_pos e, if_pos (by omega), HZ.out, e.2]
        · rw [if_neg e]
          by_cases e2 : p = a ∧ q < k
          · rw [if_pos e2, if_pos (by omega)]
          · rw [if_neg e2, if_neg (by omega)]
      case measure => simp [intOf]; omega
    · obtain rfl : k = c := by omega
      have HP := Lib.hid ho
      have HN := Lib.hid hon
      clear ho hon
      go_wp2_with fail
      go_end0
      refine ⟨rfl, HP.out.ext (fun p q hp hq => ?_), HN.out⟩
      unfold less
      by_cases e : p = a
      · rw [if_pos ⟨e, hq⟩, if_pos e]
      · rw [if_neg (fun h => e h.1), if_neg e]

set_option maxRecDepth 100000 in
set_option maxHeartbeats 1600000 in
theorem below_any (A : Option Addr) {r c d : Nat} {f : Nat → Nat → Fp.F} {i j : Nat} (hi : i ≤ r) (hj : j < c) (w : World) (hr : r ≤ 1000) (hc : c ≤ 1000)
    (h : LiesM w A (Mx.matl r c f)) :
    Calls Tryd.prog 64 #[.slice A r d, .int .i64 (i : Int), .int .i64 (j : Int)] w fun e w' =>
      ∃ k : Nat, First r f i j k ∧ e = .returned (.int .i64 (k : Int)) ∧ w = w' := by
  have HO := Lib.hid h
  clear h
  go_enter Tryd.func64, Tryd.ntmps64
  go_wp2_with fail
  go_loop [1] (fun u => ∃ k : Nat, i ≤ k ∧ k ≤ r ∧ u = .int .i64 (k : Int) ∧ ∀ t, i ≤ t → t < k → f t j = 0) (fun u => r - (intOf u).toNat)
  case atStart => exact ⟨i, Nat.le_refl _, hi, rfl, fun t h1 h2 => absurd h1 (by omega)⟩
  case round =>
    obtain ⟨k, hik, hk, rfl, hz⟩ := hrel
    have HZ := Lib.hid hz
    clear hz
    by_cases hlt : k < r
    · obtain ⟨ad, A1, d1, rfl, _, x1, _, l1⟩ := HO.out.row hlt
      obtain ⟨ad1, rfl, _, x2⟩ := l1.el hj
      clear l1
      by_cases h0 : f k j = 0
      · have HZ2 := Lib.hid (show ∀ t, i ≤ t → t < k + 1 → f t j = 0 from fun t h1 h2 => by
          by_cases e : t = k
          · rw [e]; exact h0
          · exact HZ.out t h1 (by omega))
        rw [h0, show (((0 : Fp.F).val : Nat) : Int) = 0 from rfl] at x2
        clear h0
        go_wp2_with fail
        go_round
        case rel => exact ⟨k + 1, by omega, by omega, by go_num, HZ2.out⟩
        case measure => simp [intOf]; omega
      · have HN := Lib.hid (show k < r → f k j ≠ 0 from fun _ => h0)
        have hv := Fp.ne_val h0
        have hv2 : (((f k j).val : Int) == 0) = false := by rw [beq_eq_false_iff_ne]; omega
        generalize ((f k j).val : Int) = z at *
        clear h0 hv
        go_wp2_with fail
        go_ret
        exact ⟨k, ⟨hik, hk, HZ.out, HN.out⟩, rfl, rfl⟩
    · obtain rfl : k = r := by omega
      go_wp2_with fail
      go_ret
      exact ⟨k, ⟨hik, hk, HZ.out, fun h => absurd h (by omega)⟩, rfl, rfl⟩

set_option maxRecDepth 100000 in
/-- copy(row, l): a row of noughts just made, and a slice of as many numbers. -/
theorem copy_row (w1 : World) (g n c : Nat) (A : Option Addr) (l : List Int) (ty : TypeId) (hr : Row w1 g (List.replicate n 0)) (hl : Lies w1 A l) (hn : n = l.length) :
    ∃ w2, (Builtin.copy_ #[23, 23] ty #[.slice (some ⟨g, 0, none⟩) n n, .slice A n c]).run Tryd.prog w1 = .ok (goInt n) w2 ∧
      Row w2 g l ∧ (∀ B w0, Below B w0 w1 → B ≤ g → Below B w0 w2) ∧ ∀ k, k ≠ g → w2.heap[k]? = w1.heap[k]? := by
  obtain ⟨i0, hi, hz0, hz1, hz2⟩ := info_parts int_info
  have hsz : (Tryd.prog.info? 3).map (·.size) = some 1 := by rw [hi]; simp [hz1]
  subst hn
  by_cases h0 : l.length = 0
  · obtain rfl : l = [] := List.eq_nil_of_length_eq_zero h0
    exact ⟨w1, run_copy_none w1 _ _ ty 3 _ A 0 0 0 c Tryd.underlying23 hsz (by simp), hr, fun _ _ h _ => h, fun _ _ => rfl⟩
  · obtain ⟨ad, rfl, _, _⟩ := hl 0 (by omega)
    have hlen : (ints l).length = l.length := by rw [ints, List.length_map]
    have hrun := run_copy_row (P := Tryd.prog) w1 23 23 ty 3 g 0 l.length l.length ad l.length c _ 3 (ints l) Tryd.underlying23 hsz hr (by rw [hlen]; exact (Nat.min_self _).symm)
      (fun j v hj => by
        have hj' : j < l.length := by
          rcases Nat.lt_or_ge j l.length with hlt | hge
          · exact hlt
          · rw [List.getElem?_eq_none (by simpa using hge)] at hj; cases hj
        obtain ⟨ad', e, _, hc⟩ := hl j hj'
        obtain rfl := Option.some.inj e
        rw [hc, ← hj]
        simp [hj']) (by rw [hlen]; simp) (fun v hv => by simp at hv; obtain ⟨y, _, rfl⟩ := hv; rfl)
    rw [hlen] at hrun
    refine ⟨_, hrun, ?_, fun B w0 hb hB => below_setRow hb hB _, fun k hk => setRow_other w1 g k _ hk⟩
    unfold Row
    rw [setRow_heap w1 g _ _ 3 (0, 0) hr]
    congr 3
    simp [ints]

set_option maxRecDepth 100000 in
set_option maxHeartbeats 1600000 in
theorem clone_any (A : Option Addr) (r c d : Nat) (f : Nat → Nat → Fp.F) (w : World) (hr : r ≤ 1000) (hc : c ≤ 1000) (h : LiesM w A (Mx.matl r c f)) :
    Calls Tryd.prog 63 #[.slice A r d] w fun e w' =>
      ∃ G, e = .returned (.slice (some ⟨w.heap.size, 0, none⟩) r r) ∧ Grid w' w.heap.size G r c (fun i j => ((f i j).val : Int)) ∧ Kp w w' := by
  have HA := Lib.hid h
  clear h
  obtain ⟨i0, hi, hz0, hz1, hz2⟩ := info_parts int_info
  obtain ⟨j0, hj, hy0, hy1, hy2⟩ := info_parts ints_info
  go_enter Tryd.func63, Tryd.ntmps63
  go_wp2_with (at_make; refine wpList_make_full _ rfl _ _ 22 rfl w.heap.size 23 j0 (.slice none 0 0) 1 Tryd.underlying22 hj hy0 hy1 _ _ _ _ r rfl rfl rfl rfl (by rw [hy2]; omega) (by unfold maxLen; omega) (Nat.le_refl _) ?_; intro w1 hown hgrow)
  have hpart : PartF w1 w.heap.size (fun _ => 0) r c 0 (fun i j => ((f i j).val : Int)) := PartF.start _ hown
  have hkp : Kp w w1 := (Kp.rfl' w).grown hgrow (by simp) (fun k hk => by cases hk)
  clear hown hgrow hj hy0 hy1 hy2
  obtain ⟨g, hg⟩ : ∃ g, g = w.heap.size := ⟨_, rfl⟩
  rw [← hg] at hpart ⊢
  have HG := Lib.hid hg
  clear hg
  go_loopw [11] (fun i wr => ∃ (k : Nat) (G : Nat → Nat), k ≤ r ∧ i = .int .i64 (k : Int) ∧ PartF wr g G r c k (fun i j => ((f i j).val : Int)) ∧ Kp w wr) (fun i _ => r - (intOf i).toNat)
  case atStart => exact ⟨0, _, Nat.zero_le _, rfl, hpart, hkp⟩
  case round =>
    clear hpart hkp
    obtain ⟨k, G, hk, rfl, hp, hkp⟩ := hrel
    by_cases hlt : k < r
    · have HP := Lib.hid hp
      have HK := Lib.hid hkp
      obtain ⟨ad, A1, d1, rfl, _, x1, _, l1⟩ := (HA.out.keep hkp).row hlt
      have L1 := Lib.hid l1
      clear hp hkp l1
      go_wp2_with (at_make; refine wpList_make_full _ rfl _ _ 23 rfl wr.heap.size 3 i0 (.int .i64 0) 1 Tryd.underlying23 hi hz0 hz1 _ _ _ _ c rfl rfl rfl rfl (by rw [hz2]; omega) (by unfold maxLen; omega) (Nat.le_refl _) ?_; intro w2 hown hgrow; have hkp2 : Kp wr w2 := (Kp.rfl' wr).grown hgrow (by simp) (fun k hk => by cases hk); have hcell := (HP.out.keep hkp2).cell (Nat.le_refl k) hlt; have hfree := (HP.out.keep hkp2).free k; have hcell3 : (w2.setCell ⟨g, k, none⟩ (.slice (some ⟨wr.heap.size, 0, none⟩) c c)).cell? ⟨g, k, none⟩ = some (.slice (some ⟨wr.heap.size, 0, none⟩) c c) := World.cell?_setCell_same' _ _ _ (by rw [hcell]; rfl))
      have HPL := HP.out.lt
      have hrow : Row (w2.setCell ⟨g, k, none⟩ (.slice (some ⟨wr.heap.size, 0, none⟩) c c)) wr.heap.size (List.replicate c 0) := (row_made hown).far (by show wr.heap.size ≠ g; omega) _
      have hl3 : Lies (w2.setCell ⟨g, k, none⟩ (.slice (some ⟨wr.heap.size, 0, none⟩) c c)) A1 (Mx.row c fun j => ((f k j).val : Int)) := by
        obtain ⟨_, A1', d1', e1, _, x1', _, l1'⟩ := (HA.out.keep (((HK.out.trans hkp2)).put (p := ⟨g, k, none⟩) (by show w.heap.size ≤ g; rw [HG.out]; exact Nat.le_refl _) (.slice (some ⟨wr.heap.size, 0, none⟩) c c))).row hlt
        obtain rfl := Option.some.inj e1
        have hh := (((HK.out.trans hkp2)).put (p := ⟨g, k, none⟩) (by show w.heap.size ≤ g; rw [HG.out]; exact Nat.le_refl _) (.slice (some ⟨wr.heap.size, 0, none⟩) c c))
        obtain ⟨_, A0, d0, e0, hl0, x0, _, l0⟩ := HA.out.row hlt
        obtain rfl := Option.some.inj e0
        have c1 := (HK.out.cell (p := ad.add k) (by rw [block_add]; exact hl0)).symm.trans x1
        have c2 := (hh.cell (p := ad.add k) (by rw [block_add]; exact hl0)).symm.trans x1'
        rw [c1] at c2
        cases c2
        exact l1'
      obtain ⟨w3, hrun, hr3, hb3, hn3⟩ := copy_row _ wr.heap.size c d1 A1 _ 3 hrow hl3 (Mx.len_row _ _).symm
      rw [hrun]
      have HR3 := Lib.hid hr3
      have HN3 := Lib.hid hn3
      have HB3 := Lib.hid (hb3 _ _ (((HK.out.trans hkp2)).put (p := ⟨g, k, none⟩) (by show w.heap.size ≤ g; rw [HG.out]; exact Nat.le_refl _) (.slice (some ⟨wr.heap.size, 0, none⟩) c c)) HK.out.size)
      have HK2 := Lib.hid hkp2
      clear hrun hr3 hb3 hn3 hl3 hrow hkp2 hown hgrow hcell hfree hcell3
      go_wp2_with fail
      go_roundw
      case rel => exact ⟨k + 1, _, by omega, by go_num, HP.out.step hlt HK2.out HR3.out (fun b hb => HN3.out b hb), HB3.out⟩
      case measure => simp [intOf]; omega
    · obtain rfl : k = r := by omega
      have HP := Lib.hid hp
      have HK := Lib.hid hkp
      clear hp hkp
      obtain rfl := HG.out
      go_wp2_with fail
      go_ret
      exact ⟨rfl, ⟨_, HP.out.done⟩, HK.out⟩
end Go.Proofs.YtofdhdnffkhojaaDoor

/- Contracts of package det, second part: the sum over all orders, Check, Of. -/
namespace Go.Proofs.YtofdhdnffkhojaaDoor
open Go.ChangeShapes Go.WideShapes Go.ChangeAt Go.RowKit
set_option linter.unusedVariables false

/-- The order of the numbers, the sum and the matrix, each in a block of its own. -/
structure Vis (w0 w : World) (gm gs g n d : Nat) (A : Option Addr) (s : Nat → Nat) (z : Int) : Prop where
  mb : w.cell? ⟨gm, 0, none⟩ = some (.slice A n d)
  sb : w.cell? ⟨gs, 0, none⟩ = some (.int .i64 z)
  sf : w.frozen? ⟨gs, 0, none⟩ = false
  row : Row w g (Mx.row n fun i => (s i : Int))
  kp : Kp w0 w
  ms : gm ≠ gs
  mg : gm ≠ g
  sg : gs ≠ g
  bs : w0.heap.size ≤ gs
  bg : w0.heap.size ≤ g
theorem cell_far {w : World} {a b : Addr} {v : Value} (x : Value) (hc : w.cell? b = some v) (hne : a ≠ b) : (w.setCell a x).cell? b = some v := by
  rw [World.cell?_setCell_other (w := w) (v := x) (h := hne)]; exact hc
theorem Vis.keep {w0 w w' : World} {gm gs g n d : Nat} {A : Option Addr} {s : Nat → Nat} {z : Int} (h : Vis w0 w gm gs g n d A s z) (hk : Kp w w') : Vis w0 w' gm gs g n d A s z :=
  ⟨(hk.cell (p := ⟨gm, 0, none⟩) (cell_lt h.mb)).trans h.mb, (hk.cell (p := ⟨gs, 0, none⟩) (cell_lt h.sb)).trans h.sb, (hk.frozen (p := ⟨gs, 0, none⟩) (cell_lt h.sb)).trans h.sf, h.row.keep hk, h.kp.trans hk, h.ms, h.mg, h.sg, h.bs, h.bg⟩
theorem Vis.drewN {w0 w : World} {gm gs g n d : Nat} {A : Option Addr} {s : Nat → Nat} {z : Int} (h : Vis w0 w gm gs g n d A s z) (k : Nat) : Vis w0 (w.drewN k) gm gs g n d A s z := h.keep ((Kp.rfl' w).drewN k)
theorem Vis.ext {w0 w : World} {gm gs g n d : Nat} {A : Option Addr} {s t : Nat → Nat} {z : Int} (h : Vis w0 w gm gs g n d A s z) (e : ∀ i, i < n → s i = t i) : Vis w0 w gm gs g n d A t z :=
  ⟨h.mb, h.sb, h.sf, by rw [Mx.row_ext (h := fun i => (s i : Int)) fun i hi => by rw [e i hi]]; exact h.row, h.kp, h.ms, h.mg, h.sg, h.bs, h.bg⟩
theorem Vis.add {w0 w : World} {gm gs g n d : Nat} {A : Option Addr} {s : Nat → Nat} {z : Int} (h : Vis w0 w gm gs g n d A s z) (y : Int) : Vis w0 (w.setCell ⟨gs, 0, none⟩ (.int .i64 y)) gm gs g n d A s y :=
  ⟨cell_far _ h.mb (fun e => h.ms (by cases e; rfl)), World.cell?_setCell_same _ _ _ h.sb, by simp [h.sf], h.row.far (fun e => h.sg e.symm) _, h.kp.put (p := ⟨gs, 0, none⟩) h.bs _, h.ms, h.mg, h.sg, h.bs, h.bg⟩
theorem Vis.swap {w0 w : World} {gm gs g n d : Nat} {A : Option Addr} {s : Nat → Nat} {z : Int} (h : Vis w0 w gm gs g n d A s z) {a b : Nat} (ha : a < n) (hb : b < n) :
    Vis w0 ((w.setCell ⟨g, a, none⟩ (.int .i64 (s b : Int))).setCell ⟨g, b, none⟩ (.int .i64 (s a : Int))) gm gs g n d A (fun i => s (Mx.sw a b i)) z := by
  have other : ∀ (w : World) (k b x : Nat) (v : Value), g ≠ b → w.cell? ⟨b, 0, none⟩ = some v → (w.setCell ⟨g, k, none⟩ (.int .i64 (x : Int))).cell? ⟨b, 0, none⟩ = some v := fun w k b x v hne hc => by
    have hne' : (⟨g, k, none⟩ : Addr) ≠ ⟨b, 0, none⟩ := fun e => hne (by cases e; rfl)
    exact cell_far _ hc hne'
  refine ⟨other _ _ _ _ _ (fun e => h.mg e.symm) (other _ _ _ _ _ (fun e => h.mg e.symm) h.mb), other _ _ _ _ _ (fun e => h.sg e.symm) (other _ _ _ _ _ (fun e => h.sg e.symm) h.sb), by simp [h.sf], ?_,
    (h.kp.put (p := ⟨g, a, none⟩) h.bg _).put (p := ⟨g, b, none⟩) h.bg _, h.ms, h.mg, h.sg, h.bs, h.bg⟩
  have := (h.row.put a (s b : Int)).put b (s a : Int)
  rw [Mx.row_set, Mx.row_set] at this
  rw [show (Mx.row n fun i => ((s (Mx.sw a b i) : Nat) : Int)) = Mx.row n fun j => if j = b then (s a : Int) else if j = a then (s b : Int) else (s j : Int) from Mx.row_ext fun j _ => by
    by_cases h1 : j = b
    · rw [if_pos h1, h1, Mx.sw_right]
    · rw [if_neg h1]
      by_cases h2 : j = a
      · rw [if_pos h2, h2, Mx.sw_left]
      · rw [if_neg h2, Mx.sw_none h2 h1]]
  exact this
/-- What a visit leaves: the order as it was, so much more in the sum. -/
def VisEnd (w0 : World) (gm gs g n d : Nat) (A : Option Addr) (s : Nat → Nat) (z : Int) (x : Fp.F) (b : Nat) (e : Ending) (w' : World) : Prop :=
  e = .returned (.tuple #[]) ∧ ∃ z', Vis w0 w' gm gs g n d A s z' ∧ Fp.ofInt z' = Fp.ofInt z + x ∧ -(b : Int) ≤ z' ∧ z' ≤ (b : Int)

set_option maxRecDepth 100000 in
set_option maxHeartbeats 3200000 in
theorem visit_any (w0 : World) (gm gs g n d b : Nat) (A : Option Addr) (f : Nat → Nat → Fp.F) (s : Nat → Nat) (z : Int) (w : World) (ha : LiesM w0 A (Mx.matl n n f)) (hn : n ≤ 5) (hs : ∀ i, i < n → s i < n)
    (h : Vis w0 w gm gs g n d A s z) (h1 : -(b : Int) ≤ z) (h2 : z ≤ (b : Int)) (hb : b ≤ 1000000000000) :
    Calls Tryd.prog 47 #[.slice (some ⟨g, 0, none⟩) n n, .pointer (some ⟨gm, 0, none⟩), .pointer (some ⟨gs, 0, none⟩)] w fun e w' =>
      VisEnd w0 gm gs g n d A s z (Mx.part' n n f s) (b + 9972) e w' := by
  have SG := Lib.hid (Sign_any (some ⟨g, 0, none⟩) (Mx.row n fun i => (s i : Int)) n n w h.row.lies (Mx.len_row _ _) (by omega))
  rw [Mx.sp_congr (t := fun i => (s i : Int)) fun i hi => Mx.row_at n (fun i => (s i : Int)) i hi] at SG
  have HA := Lib.hid ha
  have HV := Lib.hid h
  have HS := Lib.hid hs
  have HP := Lib.hid (Mx.part_end n f s)
  obtain ⟨S, hS⟩ : ∃ S, S = Mx.sp n fun i => (s i : Int) := ⟨_, rfl⟩
  rw [← hS] at SG HP
  clear ha h hs hS
  go_enter Tryd.func47, Tryd.ntmps47
  go_wp2_with fail
  refine (SG.out).mono ?_; rintro e w1 ⟨x, rfl, hx, hk⟩
  have HX := Lib.hid hx
  have HV1 := Lib.hid (HV.out.keep hk)
  clear hx hk HV SG
  go_wp2_with fail
  go_loopw [4, 11] (fun p i wr => ∃ (k : Nat) (q : Int), k ≤ n ∧ i = .int .i64 (k : Int) ∧ p = .int .i64 q ∧ -9972 ≤ q ∧ q ≤ 9972 ∧ Fp.ofInt q = S * Mx.pr k (fun i => f i (s i)) ∧ w1 = wr) (fun _ i _ => n - (intOf i).toNat)
  case atStart =>
    have := HX.out.bound
    exact ⟨0, x, Nat.zero_le _, rfl, rfl, by omega, by omega, by rw [HX.out.2]; show S = S * 1; grind, rfl⟩
  case round =>
    obtain ⟨k, q, hk, rfl, rfl, hq1, hq2, hq, rfl⟩ := hrel
    have HQ := Lib.hid hq
    clear hq
    by_cases hlt : k < n
    · have y1 := HV1.out.row.cell k (by rw [Mx.len_row]; exact hlt)
      rw [Mx.row_at _ _ _ hlt] at y1
      have y2 := HV1.out.mb
      obtain ⟨ad, A0, d0, rfl, hl0, x1, _, l1⟩ := (HA.out.keep HV1.out.kp).row hlt
      obtain ⟨j, hj⟩ : ∃ j, j = s k := ⟨_, rfl⟩
      have hjn : j < n := by rw [hj]; exact HS.out k hlt
      rw [← hj] at y1
      obtain ⟨ad1, rfl, hl1, x2⟩ := l1.el hjn
      obtain ⟨v, hv⟩ : ∃ v, v = f k j := ⟨_, rfl⟩
      rw [← hv] at x2
      have hvb := gval v
      have HT := Lib.hid (show Fp.ofInt ((q * (v.val : Int)).tmod 9973) = S * Mx.pr (k + 1) (fun i => f i (s i)) by
        rw [Mx.tmod_F, Fp.ofInt_mul, Fp.ofInt_self, HQ.out]
        show _ = S * (Mx.pr k (fun i => f i (s i)) * f k (s k))
        rw [← hj, ← hv]; grind)
      have hmb : -99440784 ≤ q * (v.val : Int) ∧ q * (v.val : Int) ≤ 99440784 := by
        have a1 : q * (v.val : Int) ≤ 9972 * 9972 := by
          rcases Int.lt_or_le q 0 with hq0 | hq0
          · have := Int.mul_le_mul_of_nonneg_right (show q ≤ 0 by omega) hvb.1; omega
          · have := Int.mul_le_mul hq2 hvb.2 hvb.1 (by omega); omega
        have a2 : -q * (v.val : Int) ≤ 9972 * 9972 := by
          rcases Int.lt_or_le (-q) 0 with hq0 | hq0
          · have := Int.mul_le_mul_of_nonneg_right (show -q ≤ 0 by omega) hvb.1; omega
          · have := Int.mul_le_mul (show -q ≤ 9972 by omega) hvb.2 hvb.1 (by omega); omega
        rw [Int.neg_mul] at a2
        omega
      have HTB := Lib.hid (Mx.tmod_bound (q * (v.val : Int)))
      generalize (v.val : Int) = u at *
      have hwm : IntKind.i64.wrap (q * u) = q * u := IntWalk.i64_in _ (by omega)
      clear hj hv hmb
      go_wp2_with fail
      go_roundw
      case rel => exact ⟨k + 1, _, by omega, by go_num, rfl, HTB.out.1, HTB.out.2, HT.out, by first | rfl | trivial⟩
      case measure => simp [intOf]; omega
    · obtain rfl : k = n := by omega
      have y1 := HV1.out.sb
      have y2 := HV1.out.sf
      have hwa : IntKind.i64.wrap (z + q) = z + q := IntWalk.i64_in _ (by omega)
      have HV2 := Lib.hid (HV1.out.add (z + q))
      have HB := Lib.hid (show -((b + 9972 : Nat) : Int) ≤ z + q ∧ z + q ≤ ((b + 9972 : Nat) : Int) by omega)
      go_wp2_with fail
      go_end0
      exact ⟨rfl, z + q, HV2.out, by rw [Fp.ofInt_add, HQ.out, HP.out], HB.out.1, HB.out.2⟩

set_option maxRecDepth 100000 in
theorem orders_base (w0 : World) (gm gs g n d b : Nat) (A : Option Addr) (f : Nat → Nat → Fp.F) (s : Nat → Nat) (z : Int) (w : World) (ha : LiesM w0 A (Mx.matl n n f)) (hn : n ≤ 5) (hs : ∀ i, i < n → s i < n)
    (h : Vis w0 w gm gs g n d A s z) (h1 : -(b : Int) ≤ z) (h2 : z ≤ (b : Int)) (hb : b ≤ 1000000000000) :
    Calls Tryd.prog 45 #[.slice (some ⟨g, 0, none⟩) n n, .int .i64 (n : Int), .func (.func 47) #[] #[.pointer (some ⟨gm, 0, none⟩), .pointer (some ⟨gs, 0, none⟩)]] w fun e w' =>
      VisEnd w0 gm gs g n d A s z (Mx.part' n n f s) (b + 9972) e w' := by
  have C := Lib.hid (visit_any w0 gm gs g n d b A f s z w ha hn hs h h1 h2 hb)
  have e0 : ((n : Int) == (n : Int)) = true := by simp
  clear ha hs h h1 h2 hb
  go_enter Tryd.func45, Tryd.ntmps45
  go_wp2_with fail
  refine (C.out).mono ?_; rintro e w1 ⟨rfl, hv⟩
  have HV := Lib.hid hv
  clear hv
  go_wp2_with fail
  go_end0
  exact ⟨rfl, HV.out⟩

set_option maxRecDepth 100000 in
set_option maxHeartbeats 6400000 in
theorem orders_step (w0 : World) (gm gs g n d : Nat) (A : Option Addr) (f : Nat → Nat → Fp.F) (m k : Nat) (hkm : k + (m + 1) = n) (hn : n ≤ 5)
    (ih : ∀ (s : Nat → Nat) (z : Int) (b : Nat) (w : World), (∀ i, i < n → s i < n) → Vis w0 w gm gs g n d A s z → -(b : Int) ≤ z → z ≤ (b : Int) → b + 9972 * Mx.lv m ≤ 1000000000000 →
      Calls Tryd.prog 45 #[.slice (some ⟨g, 0, none⟩) n n, .int .i64 ((k + 1 : Nat) : Int), .func (.func 47) #[] #[.pointer (some ⟨gm, 0, none⟩), .pointer (some ⟨gs, 0, none⟩)]] w fun e w' =>
        VisEnd w0 gm gs g n d A s z (Mx.part' n (k + 1) f s) (b + 9972 * Mx.lv m) e w')
    (s : Nat → Nat) (z : Int) (b : Nat) (w : World) (hs : ∀ i, i < n → s i < n) (h : Vis w0 w gm gs g n d A s z) (h1 : -(b : Int) ≤ z) (h2 : z ≤ (b : Int)) (hb : b + 9972 * Mx.lv (m + 1) ≤ 1000000000000) :
    Calls Tryd.prog 45 #[.slice (some ⟨g, 0, none⟩) n n, .int .i64 (k : Int), .func (.func 47) #[] #[.pointer (some ⟨gm, 0, none⟩), .pointer (some ⟨gs, 0, none⟩)]] w fun e w' =>
      VisEnd w0 gm gs g n d A s z (Mx.part' n k f s) (b + 9972 * Mx.lv (m + 1)) e w' := by
  have IH := Lib.hid ih
  have HV := Lib.hid h
  have HS := Lib.hid hs
  have HP := Lib.hid (Mx.part_next (n := n) (k := k) f s (by omega))
  have HB := Lib.hid (show Mx.lv (m + 1) = 5 * Mx.lv m from rfl)
  have HZ := Lib.hid (And.intro h1 h2)
  have HM := Lib.hid (And.intro hkm hb)
  have hkn : k < n := by omega
  have e0 : ((k : Int) == (n : Int)) = false := by rw [beq_eq_false_iff_ne]; omega
  clear ih h hs h1 h2 hb hkm
  go_enter Tryd.func45, Tryd.ntmps45
  go_wp2_with fail
  go_loopw [6] (fun i wr => ∃ (j t : Nat) (y : Int), j = k + t ∧ j ≤ n ∧ i = .int .i64 (j : Int) ∧ Vis w0 wr gm gs g n d A s y ∧ Fp.ofInt y = Fp.ofInt z + Mx.sg t (fun t => Mx.part' n (k + 1) f fun i => s (Mx.sw k (k + t) i)) ∧ -((b + 9972 * (t * Mx.lv m) : Nat) : Int) ≤ y ∧ y ≤ ((b + 9972 * (t * Mx.lv m) : Nat) : Int)) (fun i _ => n - (intOf i).toNat)
  case atStart => exact ⟨k, 0, z, rfl, by omega, rfl, HV.out, by rw [Mx.sg_zero]; grind, by simpa using HZ.out.1, by simpa using HZ.out.2⟩
  case round =>
    clear HV
    obtain ⟨j, t, y, hjt, hjn, rfl, hv, hy, hy1, hy2⟩ := hrel
    have HJ := Lib.hid hjt
    have HV := Lib.hid hv
    have HY := Lib.hid hy
    have HYB := Lib.hid (And.intro hy1 hy2)
    clear hjt hv hy hy1 hy2
    by_cases hlt : j < n
    · have y1 := HV.out.row.cell k (by rw [Mx.len_row]; exact hkn)
      have y2 := HV.out.row.cell j (by rw [Mx.len_row]; exact hlt)
      have y3 := HV.out.row.free k
      have y4 := HV.out.row.free j
      rw [Mx.row_at _ _ _ hkn] at y1
      rw [Mx.row_at _ _ _ hlt] at y2
      have SW := HV.out.swap hkn hlt
      have y5 := (HV.out.row.put k (s j : Int)).free j
      have y6 : ∃ v, (wr.setCell ⟨g, k, none⟩ (.int .i64 (s j : Int))).cell? ⟨g, j, none⟩ = some v := ⟨_, (HV.out.row.put k (s j : Int)).cell j (by rw [List.length_set, Mx.len_row]; exact hlt)⟩
      obtain ⟨v6, y6⟩ := y6
      obtain ⟨sk, hsk⟩ : ∃ x : Int, x = (s k : Int) := ⟨_, rfl⟩
      obtain ⟨sj, hsj⟩ : ∃ x : Int, x = (s j : Int) := ⟨_, rfl⟩
      rw [← hsk] at y1 SW
      rw [← hsj] at y2 y5 y6 SW
      have hs' : ∀ i, i < n → (fun i => s (Mx.sw k j i)) i < n := fun i hi => HS.out _ (Mx.sw_lt hkn hlt hi)
      have hm : 9972 * (t * Mx.lv m) + 9972 * Mx.lv m = 9972 * ((t + 1) * Mx.lv m) := by rw [show (t + 1) * Mx.lv m = t * Mx.lv m + Mx.lv m from Nat.succ_mul _ _]; omega
      have hle : b + 9972 * ((t + 1) * Mx.lv m) ≤ 1000000000000 := by
        have a1 : (t + 1) * Mx.lv m ≤ 5 * Mx.lv m := Nat.mul_le_mul_right _ (by have := HJ.out; omega)
        have := HM.out.2
        rw [HB.out] at this
        omega
      have CALL := Lib.hid (fun w1 (hv : Vis w0 w1 gm gs g n d A (fun i => s (Mx.sw k j i)) y) => IH.out (fun i => s (Mx.sw k j i)) y (b + 9972 * (t * Mx.lv m)) w1 hs' hv HYB.out.1 HYB.out.2 (by omega))
      rw [show b + 9972 * (t * Mx.lv m) + 9972 * Mx.lv m = b + 9972 * ((t + 1) * Mx.lv m) by omega] at CALL
      have SWH := Lib.hid SW
      have hwk : IntKind.i64.wrap ((k : Int) + 1) = ((k + 1 : Nat) : Int) := by rw [IntWalk.i64_in _ (by omega)]; omega
      have HSK := Lib.hid (And.intro hsk hsj)
      clear SW hs' hm hle hsk hsj
      go_wp2_with fail
      go_region_law (fail)
      all_goals
        go_wp2_with fail
        refine (CALL.out _ (SWH.out.drewN 1)).mono ?_; rintro e w2 ⟨rfl, y', hv2, hy', hb1, hb2⟩
        have HV2 := Lib.hid hv2
        have HY2 := Lib.hid hy'
        have HB2 := Lib.hid (And.intro hb1 hb2)
        have x1 := hv2.row.cell k (by rw [Mx.len_row]; exact hkn)
        have x2 := hv2.row.cell j (by rw [Mx.len_row]; exact hlt)
        have x3 := hv2.row.free k
        have x4 := hv2.row.free j
        rw [Mx.row_at _ _ _ hkn, Mx.sw_left, ← HSK.out.2] at x1
        rw [Mx.row_at _ _ _ hlt, Mx.sw_right, ← HSK.out.1] at x2
        have x5 := (hv2.row.put k sk).free j
        have x6 : ∃ v, (w2.setCell ⟨g, k, none⟩ (.int .i64 sk)).cell? ⟨g, j, none⟩ = some v := ⟨_, (hv2.row.put k sk).cell j (by rw [List.length_set, Mx.len_row]; exact hlt)⟩
        obtain ⟨v7, x6⟩ := x6
        have SW2 := (hv2.swap hkn hlt).ext (t := s) fun i _ => by rw [Mx.sw_sw]
        simp only [Mx.sw_left, Mx.sw_right] at SW2
        rw [← HSK.out.1, ← HSK.out.2] at SW2
        have SWH2 := Lib.hid SW2
        clear SW2 hv2 hy' hb1 hb2 y1 y2 y3 y4 y5 y6
        go_wp2_with fail
        go_region_law (fail)
        all_goals
          go_wp2_with fail
          go_roundw
          case rel => exact ⟨j + 1, t + 1, y', by rw [HJ.out]; omega, by omega, by go_num, SWH2.out.drewN 1, by rw [HY2.out, HY.out, Mx.sg_succ, HJ.out]; grind, HB2.out.1, HB2.out.2⟩
          case measure => simp [intOf]; omega
    · have HE := Lib.hid (show t = m + 1 ∧ j = n by have := HJ.out; have := HM.out.1; omega)
      have HL := Lib.hid (show t * Mx.lv m ≤ Mx.lv (m + 1) by
        rw [HE.out.1, HB.out]; exact Nat.mul_le_mul_right _ (by have := HM.out.1; omega))
      go_wp2_with fail
      go_end0
      refine ⟨rfl, y, HV.out, ?_, ?_, ?_⟩
      · rw [HY.out, ← HP.out, show n - k = t by have := HJ.out; have := HE.out; omega]
      · have := HYB.out.1; have := HL.out; omega
      · have := HYB.out.2; have := HL.out; omega
theorem orders_any (w0 : World) (gm gs g n d : Nat) (A : Option Addr) (f : Nat → Nat → Fp.F) (ha : LiesM w0 A (Mx.matl n n f)) (hn : n ≤ 5) :
    ∀ (m k : Nat), k + m = n → ∀ (s : Nat → Nat) (z : Int) (b : Nat) (w : World), (∀ i, i < n → s i < n) → Vis w0 w gm gs g n d A s z → -(b : Int) ≤ z → z ≤ (b : Int) → b + 9972 * Mx.lv m ≤ 1000000000000 →
      Calls Tryd.prog 45 #[.slice (some ⟨g, 0, none⟩) n n, .int .i64 (k : Int), .func (.func 47) #[] #[.pointer (some ⟨gm, 0, none⟩), .pointer (some ⟨gs, 0, none⟩)]] w fun e w' =>
        VisEnd w0 gm gs g n d A s z (Mx.part' n k f s) (b + 9972 * Mx.lv m) e w'
  | 0, k, hkm => fun s z b w hs h h1 h2 hb => by
    obtain rfl : k = n := by omega
    exact orders_base w0 gm gs g k d b A f s z w ha hn hs h h1 h2 (by omega)
  | m + 1, k, hkm => fun s z b w hs h h1 h2 hb => orders_step w0 gm gs g n d A f m k hkm hn (orders_any w0 gm gs g n d A f ha hn m (k + 1) (by omega)) s z b w hs h h1 h2 hb

end Go.Proofs.YtofdhdnffkhojaaDoor

/- Contracts of package det, third part: Check, Of. -/
namespace Go.Proofs.YtofdhdnffkhojaaDoor
open Go.ChangeShapes Go.WideShapes Go.ChangeAt Go.RowKit
set_option linter.unusedVariables false

set_option maxRecDepth 100000 in
set_option maxHeartbeats 1600000 in
theorem DChk_any (A : Option Addr) (m : List (List Int)) (n d : Nat) (w : World) (ha : LiesM w A m) (hn : m.length = n) :
    Calls Tryd.prog 38 #[.slice A n d] w fun e w' => e = .returned (errOf (qcode 5 0 9972 m)) ∧ w = w' := by
  have CK := Lib.hid (Check_any A m n d w ha hn)
  by_cases h0 : Mx.mcode 5 0 9972 m = 0
  · have h0n : 0 < m.length := by
      rcases Nat.eq_zero_or_pos m.length with h | h
      · exfalso; unfold Mx.mcode at h0; rw [if_pos (.inl h)] at h0; cases h0
      · exact h
    obtain ⟨ad, A0, d0, rfl, hl0, hc0, _, _⟩ := ha 0 h0n
    rw [add_zero'] at hc0
    have EV := Lib.hid (show qcode 5 0 9972 m = if n ≠ (m.getD 0 []).length then 3 else 0 by
      unfold qcode
      rw [h0, hn]
      by_cases h : n ≠ (m.getD 0 []).length
      · rw [if_pos ⟨rfl, h⟩, if_pos h]
      · rw [if_neg (fun h' => h h'.2), if_neg h])
    rw [h0, errOf_zero] at CK
    have hn0 : 0 < n := by omega
    generalize (m.getD 0 []).length = q at *
    generalize qcode 5 0 9972 m = z at *
    clear ha h0 hn h0n
    by_cases hq : n = q
    · subst hq
      obtain rfl : z = 0 := by rw [EV.out, if_neg (fun h => h rfl)]
      rw [errOf_zero]
      have e1 : ((n : Int) != (n : Int)) = false := by simp
      clear EV
      go_enter Tryd.func38, Tryd.ntmps38
      go_wp2_with fail
      refine (CK.out).mono ?_; rintro e w' ⟨rfl, rfl⟩
      go_wp2_with fail
      go_ret
      exact ⟨rfl, rfl⟩
    · obtain rfl : z = 3 := by rw [EV.out, if_pos hq]
      rw [errOf_ne 3 (by omega)]
      have e1 : ((n : Int) != (q : Int)) = true := by rw [bne_iff_ne]; omega
      clear EV hq
      go_enter Tryd.func38, Tryd.ntmps38
      go_wp2_with fail
      refine (CK.out).mono ?_; rintro e w' ⟨rfl, rfl⟩
      go_wp2_with fail
      go_ret
      exact ⟨rfl, rfl⟩
  · rw [qcode_bad h0]
    rw [errOf_ne _ h0] at CK ⊢
    generalize Mx.mcode 5 0 9972 m = z at *
    clear ha hn h0
    go_enter Tryd.func38, Tryd.ntmps38
    go_wp2_with fail
    refine (CK.out).mono ?_; rintro e w' ⟨rfl, rfl⟩
    go_wp2_with fail
    go_ret
    exact ⟨rfl, rfl⟩

set_option maxRecDepth 100000 in
set_option maxHeartbeats 1600000 in
theorem Of_bad (A : Option Addr) (m : List (List Int)) (n d : Nat) (w : World) (ha : LiesM w A m) (hn : m.length = n) (h : qcode 5 0 9972 m ≠ 0) :
    Calls Tryd.prog 22 #[.slice A n d] w fun e w' => e = .returned (.tuple #[.int .i64 0, errOf (qcode 5 0 9972 m)]) ∧ Kp w w' := by
  have CK := Lib.hid (fun w (ha : LiesM w A m) => DChk_any A m n d w ha hn)
  rw [errOf_ne _ h] at CK ⊢
  have HA := Lib.hid ha
  generalize qcode 5 0 9972 m = z at *
  clear ha hn h
  go_enter Tryd.func22, Tryd.ntmps22
  go_wp2_with fail
  refine (CK.out _ (HA.out.keep ((Kp.rfl' w).new _))).mono ?_; rintro e w' ⟨rfl, rfl⟩
  go_wp2_with fail
  go_ret2
  exact ⟨rfl, (Kp.rfl' w).new _⟩

theorem orders_top (w0 : World) (gm gs g n d : Nat) (A : Option Addr) (f : Nat → Nat → Fp.F) (w : World) (ha : LiesM w0 A (Mx.matl n n f)) (hn : n ≤ 5) (h : Vis w0 w gm gs g n d A (fun i => i) 0) :
    Calls Tryd.prog 45 #[.slice (some ⟨g, 0, none⟩) n n, .int .i64 0, .func (.func 47) #[] #[.pointer (some ⟨gm, 0, none⟩), .pointer (some ⟨gs, 0, none⟩)]] w fun e w' =>
      VisEnd w0 gm gs g n d A (fun i => i) 0 (Mx.dt n f) 100000000 e w' := by
  have h1 := orders_any w0 gm gs g n d A f ha hn n 0 (by omega) (fun i => i) 0 0 w (fun i hi => hi) h (by omega) (by omega) (by have := Mx.lv_le hn; omega)
  rw [Mx.part_zero (n := n) f (s := fun i => i) fun j _ => rfl] at h1
  refine h1.mono ?_
  rintro e w' ⟨he, z, hv, hz, h2, h3⟩
  have := Mx.lv_le hn
  exact ⟨he, z, hv, hz, by omega, by omega⟩
theorem vis_made {w w2 : World} {n d : Nat} {T U : TypeId} (A : Option Addr)
    (hr : Row w2 ((w.alloc (.cells #[.slice A n d] T)).alloc (.cells #[.int .i64 0] U)).heap.size (Mx.row n fun i => (i : Int)))
    (hk : Kp ((w.alloc (.cells #[.slice A n d] T)).alloc (.cells #[.int .i64 0] U)) w2) : Vis w w2 w.heap.size (w.heap.size + 1) (w.heap.size + 2) n d A (fun i => i) 0 := by
  have e1 : (w.alloc (.cells #[.slice A n d] T)).heap.size = w.heap.size + 1 := by simp
  have e2 : ((w.alloc (.cells #[.slice A n d] T)).alloc (.cells #[.int .i64 0] U)).heap.size = w.heap.size + 2 := by simp
  have c1 : (w.alloc (.cells #[.slice A n d] T)).cell? ⟨w.heap.size, 0, none⟩ = some (.slice A n d) := (cell_made w #[.slice A n d] T w.heap.size 0 rfl).trans rfl
  have c2 : ((w.alloc (.cells #[.slice A n d] T)).alloc (.cells #[.int .i64 0] U)).cell? ⟨w.heap.size + 1, 0, none⟩ = some (.int .i64 0) := (cell_made (w.alloc (.cells #[.slice A n d] T)) #[.int .i64 0] U (w.heap.size + 1) 0 e1.symm).trans rfl
  have c3 : ((w.alloc (.cells #[.slice A n d] T)).alloc (.cells #[.int .i64 0] U)).cell? ⟨w.heap.size, 0, none⟩ = some (.slice A n d) :=
    (((Kp.rfl' (w.alloc (.cells #[.slice A n d] T))).new _).cell (p := ⟨w.heap.size, 0, none⟩) (by rw [e1]; exact Nat.lt_succ_self _)).trans c1
  have z2 : ((w.alloc (.cells #[.slice A n d] T)).alloc (.cells #[.int .i64 0] U)).frozen? ⟨w.heap.size + 1, 0, none⟩ = false := by simp
  rw [e2] at hr
  exact ⟨(hk.cell (p := ⟨w.heap.size, 0, none⟩) (cell_lt c3)).trans c3, (hk.cell (p := ⟨w.heap.size + 1, 0, none⟩) (cell_lt c2)).trans c2, (hk.frozen (p := ⟨w.heap.size + 1, 0, none⟩) (cell_lt c2)).trans z2, hr,
    (((Kp.rfl' w).new _).new _).trans hk, by omega, by omega, by omega, by omega, by omega⟩

set_option maxRecDepth 100000 in
set_option maxHeartbeats 1600000 in
theorem Of_ok (A : Option Addr) (f : Nat → Nat → Fp.F) (n d : Nat) (w : World) (ha : LiesM w A (Mx.matl n n f)) (h0 : 0 < n) (hn : n ≤ 5) :
    Calls Tryd.prog 22 #[.slice A n d] w fun e w' => e = .returned (.tuple #[.int .i64 ((Mx.dt n f).val : Int), .nilIface]) ∧ Kp w w' := by
  have CK := Lib.hid (fun w (ha : LiesM w A (Mx.matl n n f)) => DChk_any A (Mx.matl n n f) n d w ha (Mx.len_matl _ _ _))
  rw [qcode_matl f h0 hn, errOf_zero] at CK
  have HA := Lib.hid ha
  have AS := Lib.hid (fun w => ascending_any n w (by omega))
  have OR := Lib.hid (fun gm gs g w1 h => orders_top w gm gs g n d A f w1 ha hn h)
  generalize Mx.dt n f = dd at *
  clear ha
  go_enter Tryd.func22, Tryd.ntmps22
  go_wp2_with fail
  refine (CK.out _ (HA.out.keep ((Kp.rfl' w).new _))).mono ?_; rintro e w' ⟨rfl, rfl⟩
  go_wp2_with fail
  refine (AS.out _).mono ?_; rintro e w2 ⟨rfl, hr, hk⟩
  have VS := Lib.hid (vis_made (n := n) (d := d) A hr hk)
  clear hr hk
  go_wp2_with fail
  refine (OR.out _ _ _ _ VS.out).mono ?_; rintro e w3 ⟨rfl, z, hv, hz, hz1, hz2⟩
  have y1 := hv.sb
  have HK := Lib.hid hv.kp
  have hzb : -100000000 ≤ z ∧ z ≤ 100000000 := by omega
  have HR := Lib.hid (Mx.fit z)
  rw [hz, show Fp.ofInt 0 + dd = dd by rw [show Fp.ofInt 0 = 0 from rfl]; grind] at HR
  have hb := Mx.tmod_bound z
  have hwa : IntKind.i64.wrap (z.tmod 9973 + 9973) = z.tmod 9973 + 9973 := IntWalk.i64_in _ (by omega)
  clear hv hz hz1 hz2 hb
  go_wp2_with fail
  go_ret2
  refine ⟨?_, HK.out⟩
  show Ending.returned (.tuple #[.int .i64 ((z.tmod 9973 + 9973).tmod 9973), .nilIface]) = _
  rw [HR.out]

end Go.Proofs.YtofdhdnffkhojaaDoor

/- Contracts of package minors. -/
namespace Go.Proofs.YtofdhdnffkhojaaDoor
open Go.ChangeShapes Go.WideShapes Go.ChangeAt Go.RowKit Go.Shelf
set_option linter.unusedVariables false
attribute [local go_sem] Oper.semAt_some

section
variable {ops : Array Oper} {o : Oper} {a : Act} {w : World} {K : Act → World → Prop} {Q : Exit → Act → World → Prop}
theorem step_wanted {E : Prop} (hgd : o.guard = Option.none) (h : Oper.wp Tryd.prog o a w K Q) :
    if Region.wanted o (yielded ops a.tmps) = true then Oper.wp Tryd.prog o a w K Q else E := by
  have hw : Region.wanted o (yielded ops a.tmps) = true := by simp [Region.wanted, hgd]
  rw [if_pos hw]; exact h
end

/-- What is the call's own abides the turn of what is no cells. -/
theorem ownsRow_keptN {W W' : World} {row : Option Nat} {B n : Nat} {e : TypeId} {v : Value} {xs : List Value} (h : W.ownsRow B e 1 v n xs) (hg : W.grownBy W' row)
    (hr : ∀ r, row = some r → ∃ o : Obj, W.heap[r]? = some o ∧ o.isCells = false) : W'.ownsRow B e 1 v n xs := by
  refine h.kept hg ?_
  rcases h.2 with ⟨rfl, _⟩ | ⟨g, cap, cur, rfl, _, hgb, _⟩
  · exact .inl rfl
  · refine .inr fun e' => ?_
    obtain ⟨o, ho, hc⟩ := hr g (by simpa [Value.ownBlock] using e'.symm)
    rw [hgb] at ho; cases ho; cases hc
theorem ownM_keptN {W W' : World} {row : Option Nat} {B : Nat} {v : Value} {G C : Nat → Nat} {m : List (List Int)} (h : OwnM W B v G C m) (hg : W.grownBy W' row)
    (hr : ∀ r, row = some r → ∃ o : Obj, W.heap[r]? = some o ∧ o.isCells = false) : OwnM W' B v G C m :=
  ⟨ownsRow_keptN h.top hg hr, fun i hi => ownsRow_keptN (h.row i hi) hg hr, h.apart⟩
theorem boxed_keptN {W W' : World} {row : Option Nat} {B : Nat} {t : TypeId} {v : Value} (h : Boxed W B t v) (hg : W.grownBy W' row)
    (hr : ∀ r, row = some r → ∃ o : Obj, W.heap[r]? = some o ∧ o.isCells = false) : Boxed W' B t v :=
  h.kept hg fun e => by
    obtain ⟨o, ho, hc⟩ := hr B e.symm
    rw [show W.heap[B]? = _ from h] at ho; cases ho; cases hc
theorem boxed_kp {W W' : World} {B : Nat} {t : TypeId} {v : Value} (h : Boxed W B t v) (hk : Kp W W') : Boxed W' B t v :=
  (hk.block B h.lt).trans h
theorem keeps_kp {W W' : World} (h : Kp W W') : KeepsOthers W W' := ⟨h.size, fun k o hk _ => (h.block k (Array.getElem?_eq_some_iff.1 hk).1).trans hk⟩
/-- A store into a variable's box leaves the rows and their heads. -/
theorem ownM_box {W : World} {B Bx : Nat} {v u u' : Value} {G C : Nat → Nat} {m : List (List Int)} (h : OwnM W B v G C m) (hb : Boxed W Bx 22 u) : OwnM (W.setCell ⟨Bx, 0, none⟩ u') B v G C m := by
  refine ⟨World.ownsRow.kept h.top (grownBy_setCell' W Bx u') (.inr (hb.not_row (by decide) h.top).symm), fun i hi => own_store (h.row i hi) (a := ⟨Bx, 0, none⟩) (fun e => ?_) u', h.apart⟩
  obtain ⟨cur, hh, _⟩ := own_row (h.row i hi)
  have h2 : W.heap[Bx]? = some (.cells #[u] 22 (0, 0)) := hb
  rw [show G i = Bx from e, h2] at hh
  cases hh

/-- The rows x of a list without place j. -/
def mrows (n p j : Nat) (f : Nat → Nat → Fp.F) (pre : List Nat) : List (List Int) := pre.map fun x => Mx.row p fun b => ((f (x % n) (Mx.sk j b)).val : Int)
theorem mrows_len (n p j : Nat) (f : Nat → Nat → Fp.F) (pre : List Nat) : (mrows n p j f pre).length = pre.length := by simp [mrows]
theorem mrows_snoc (n p j : Nat) (f : Nat → Nat → Fp.F) (pre : List Nat) (x : Nat) : mrows n p j f (pre ++ [x]) = mrows n p j f pre ++ [Mx.row p fun b => ((f (x % n) (Mx.sk j b)).val : Int)] := by simp [mrows]
theorem mrows_all {n p i j : Nat} (f : Nat → Nat → Fp.F) (hn : n = p + 1) (hi : i ≤ p) : mrows n p j f (kept i n) = Mx.matl p p (wo f i j) := by
  unfold mrows kept
  rw [hn, ct_end hi, List.map_map]
  unfold Mx.matl Mx.tab
  refine List.map_congr_left fun a ha => ?_
  have ha' := List.mem_range.1 ha
  show Mx.row p _ = Mx.row p _
  refine Mx.row_ext fun b _ => ?_
  show ((f (Mx.sk i a % (p + 1)) (Mx.sk j b)).val : Int) = ((f (Mx.sk i a) (Mx.sk j b)).val : Int)
  rw [Nat.mod_eq_of_lt (Mx.sk_lt ha')]

/-- Between two rounds: in its variable lie the rows so far; the row and the column that are left out are as they were. -/
structure MinAt (w : World) (n p i j : Nat) (f : Nat → Nat → Fp.F) (pre : List Nat) (W : World) : Prop where
  rest : ∃ v G C, Boxed W (w.heap.size + 1) 22 v ∧ OwnM W w.heap.size v G C (mrows n p j f pre)
  col : Boxed W w.heap.size 3 (.int .i64 (j : Int))
  row : Boxed W (w.heap.size + 3) 3 (.int .i64 (i : Int))
theorem minAt_own (w : World) (n p i j : Nat) (f : Nat → Nat → Fp.F) : Go.Own (MinAt w n p i j f) := fun s W W' row hs hg hr => by
  obtain ⟨v, G, C, h1, h2⟩ := hs.rest
  exact ⟨⟨v, G, C, boxed_keptN h1 hg hr, ownM_keptN h2 hg hr⟩, boxed_keptN hs.col hg hr, boxed_keptN hs.row hg hr⟩

theorem min_fin {w W wd w4 w6 : World} {n p i j B x vg vc : Nat} {f : Nat → Nat → Fp.F} {pre : List Nat} {v : Value} {G C G' C' : Nat → Nat} {tmp : Obj} (hw : Below w.heap.size w W) (hkd : Kp W wd) (k4 : Kp wd w4)
    (hv : Boxed W (w.heap.size + 1) 22 v) (ho : OwnM W w.heap.size v G C (mrows n p j f pre)) (hc : Boxed W w.heap.size 3 (.int .i64 (j : Int))) (hr : Boxed W (w.heap.size + 3) 3 (.int .i64 (i : Int)))
    (hg : (w4.alloc tmp).grownBy w6 v.ownBlock) (h6 : OwnM w6 w.heap.size (.slice (some ⟨vg, 0, none⟩) (pre.length + 1) vc) G' C' (mrows n p j f pre ++ [Mx.row p fun b => ((f (x % n) (Mx.sk j b)).val : Int)])) :
    KeepsFrom B W (w6.setCell ⟨w.heap.size + 1, 0, none⟩ (.slice (some ⟨vg, 0, none⟩) (pre.length + 1) vc)) ∧ KeepB w.heap.size (w.heap.size + 3) (i : Int) W (w6.setCell ⟨w.heap.size + 1, 0, none⟩ (.slice (some ⟨vg, 0, none⟩) (pre.length + 1) vc)) ∧
      MinAt w n p i j f (pre ++ [x]) (w6.setCell ⟨w.heap.size + 1, 0, none⟩ (.slice (some ⟨vg, 0, none⟩) (pre.length + 1) vc)) ∧ Below w.heap.size w (w6.setCell ⟨w.heap.size + 1, 0, none⟩ (.slice (some ⟨vg, 0, none⟩) (pre.length + 1) vc)) := by
  have hk4 := hkd.trans k4
  have hs := hw.size
  have hv4 := boxed_kp hv hk4
  have hrow4 := (ho.kp hk4).top
  have hl := hv4.lt
  obtain ⟨b6, b7, _, ko, be⟩ := hv4.appended (by decide) hrow4 (by omega) (Nat.le_succ _) h6.top hg
  have hb : Below w.heap.size W (w6.setCell ⟨w.heap.size + 1, 0, none⟩ (.slice (some ⟨vg, 0, none⟩) (pre.length + 1) vc)) := (hk4.mono hs).trans be
  have far : ∀ (q : Nat) (z : Int), q ≠ w.heap.size + 1 → Boxed W q 3 (.int .i64 z) → Boxed (w6.setCell ⟨w.heap.size + 1, 0, none⟩ (.slice (some ⟨vg, 0, none⟩) (pre.length + 1) vc)) q 3 (.int .i64 z) := fun q z ne hq => by
    have h4 := (boxed_kp hq hk4).alloc tmp
    have h6' := h4.kept hg (h4.not_row (by decide) (hrow4.alloc tmp))
    exact (Below.heap_setCell w6 ⟨w.heap.size + 1, 0, none⟩ _ q ne).trans h6'
  refine ⟨((keeps_kp hk4).trans ko).from B, ⟨hb, fun _ => (far _ _ (by omega) hr).cell⟩, ⟨⟨_, G', C', b7, ?_⟩, far _ _ (by omega) hc, far _ _ (by omega) hr⟩, hw.trans hb⟩
  rw [mrows_snoc]
  exact ownM_box h6 b6


set_option maxRecDepth 100000 in
theorem minor_one (A : Option Addr) (d : Nat) (i j : Int) (w : World) :
    Calls Tryd.prog 55 #[.slice A 1 d, .int .i64 i, .int .i64 j] w fun e w' => e = .returned (.tuple #[.int .i64 1, .nilIface]) ∧ Kp w w' := by
  go_enter Tryd.func55, Tryd.ntmps55
  go_wp2_with fail
  go_ret2
  exact ⟨rfl, (Kp.rfl' w).new _⟩

/-- The heads of the rows, by their numbers. -/
theorem LiesM.heads {w : World} {A : Option Addr} {r c : Nat} {f : Nat → Nat → Fp.F} (h : LiesM w A (Mx.matl r c f)) :
    ∃ (R : Nat → Option Addr) (D : Nat → Nat), ∀ i, i < r → ∃ ad, A = some ad ∧ ad.block < w.heap.size ∧ w.cell? (ad.add i) = some (.slice (R i) c (D i)) ∧ Lies w (R i) (Mx.row c fun b => ((f i b).val : Int)) := by
  have h1 : ∀ i, ∃ q : Option Addr × Nat, i < r → ∃ ad, A = some ad ∧ ad.block < w.heap.size ∧ w.cell? (ad.add i) = some (.slice q.1 c q.2) ∧ Lies w q.1 (Mx.row c fun b => ((f i b).val : Int)) := fun i => by
    by_cases hi : i < r
    · obtain ⟨ad, A', cap, e, hl, hc, _, hr⟩ := h.row hi
      exact ⟨(A', cap), fun _ => ⟨ad, e, hl, hc, hr⟩⟩
    · exact ⟨(Option.none, 0), fun h' => absurd h' hi⟩
  obtain ⟨q, hq⟩ := Classical.axiomOfChoice h1
  exact ⟨fun i => (q i).1, fun i => (q i).2, hq⟩

set_option maxRecDepth 100000 in
set_option maxHeartbeats 4000000 in
theorem minor_more (A : Option Addr) (f : Nat → Nat → Fp.F) (n p i j d : Nat) (w : World) (ha : LiesM w A (Mx.matl n n f)) (hn : n = p + 1) (hi : i ≤ p) (hj : j ≤ p) (hp0 : 0 < p) (hp : p ≤ 5) :
    Calls Tryd.prog 55 #[.slice A n d, .int .i64 (i : Int), .int .i64 (j : Int)] w fun e w' => e = .returned (.tuple #[.int .i64 ((Mx.dt p (wo f i j)).val : Int), .nilIface]) ∧ Kp w w' := by
  obtain ⟨R, D, HR⟩ := ha.heads
  have HR := Lib.hid HR
  have OF := Lib.hid (fun A' d' w' h => Of_ok A' (wo f i j) p d' w' h hp0 hp)
  have ALL := Lib.hid (mrows_all (j := j) f hn hi)
  have e1 : ((n : Int) == 1) = false := by rw [beq_eq_false_iff_ne]; omega
  have HN := Lib.hid hn
  have hn6 : n ≤ 6 := by omega
  have hn0 : 0 < n := by omega
  have hi6 : i ≤ 1000 := by omega
  have hj6 : j ≤ 1000 := by omega
  have HJ := Lib.hid hj
  have HP0 := Lib.hid hp0
  generalize Mx.dt p (wo f i j) = dd at *
  clear ha hn hi hj hp0 hp
  refine callsIn_wide.1 (callsIn_of_wp_marks (F := Fence.wide) (n := 9) Tryd.func55 rfl trivial ?_ rfl)
  simp only [Tryd.ntmps55, List.size_toArray, List.length_cons, List.length_nil, Nat.reduceAdd, Nat.reduceSub, Array.replicate_succ, Array.replicate_zero, List.push_toArray, List.append_toArray, List.nil_append, List.cons_append]
  refine wpIn_wide.2 ?_
  go_wp2_with fail
  refine (othersM_any A n d (i : Int) _).mono ?_; rintro e w' ⟨rfl, hw'⟩
  have b0 : Boxed (w.alloc (.cells #[.int .i64 (j : Int)] 3)) w.heap.size 3 (.int .i64 (j : Int)) := Boxed.new w _ _
  have b1 : Boxed ((w.alloc (.cells #[.int .i64 (j : Int)] 3)).alloc (.cells #[.slice none 0 0] 22)) (w.heap.size + 1) 22 (.slice none 0 0) := by
    have := Boxed.new (w.alloc (.cells #[.int .i64 (j : Int)] 3)) 22 (.slice none 0 0)
    rwa [World.size_alloc] at this
  obtain ⟨w2, hw2⟩ : ∃ x, x = (w.alloc (.cells #[.int .i64 (j : Int)] 3)).alloc (.cells #[.slice none 0 0] 22) := ⟨_, rfl⟩
  have s2 : w2.heap.size = w.heap.size + 2 := by rw [hw2]; simp
  have k2 : Kp w w2 := by rw [hw2]; exact ((Kp.rfl' w).new _).new _
  have c0 : Boxed w2 w.heap.size 3 (.int .i64 (j : Int)) := by rw [hw2]; exact b0.alloc _
  rw [← hw2] at b1 hw' ⊢
  clear hw2 b0
  have d0 : Boxed (w2.alloc (.cells #[.slice A n d] 22)) (w.heap.size + 2) 22 (.slice A n d) := by rw [← s2]; exact Boxed.new w2 _ _
  have d1 : Boxed w' (w.heap.size + 3) 3 (.int .i64 (i : Int)) := by
    rw [hw']
    have := Boxed.new (w2.alloc (.cells #[.slice A n d] 22)) 3 (.int .i64 (i : Int))
    rwa [World.size_alloc, s2] at this
  have k3 : Kp w2 w' := by rw [hw']; exact ((Kp.rfl' w2).new _).new _
  have s3 : w'.heap.size = w.heap.size + 4 := by rw [hw']; simp [s2]
  have d2 : Boxed w' (w.heap.size + 2) 22 (.slice A n d) := by rw [hw']; exact d0.alloc _
  have kw := k2.trans k3
  have M0 : MinAt w n p i j f [] w' := ⟨⟨_, fun _ => 0, fun _ => 0, boxed_kp b1 k3, ownM_none _ _ _ _⟩, boxed_kp c0 k3, d1⟩
  rw [s2]
  clear hw' d0 b1 c0 k2 k3
  go_wp2_with fail
  refine (wpIn_wide (n := 9)).1 (wpIn_rangeFunc_ownG (F := Fence.wide) rfl (Nat.le_add_left 1 8) (gf := 85) (lb := #[.pointer (some ⟨w.heap.size + 2, 0, none⟩), .pointer (some ⟨w.heap.size + 3, 0, none⟩)]) rfl trivial (enters_of Tryd.func85 (by kernel_rfl) rfl)
    (othersM_stops 8 (Nat.le_add_left 1 7) (w.heap.size + 2) (w.heap.size + 3) w.heap.size n i d A n R D (by omega) hi6 w' (by omega) (by omega) (by omega) d2.cell d1.cell (fun x hx => by
      obtain ⟨ad, e, h1, h2, _⟩ := HR.out x hx
      exact ⟨ad, e, h1, (kw.cell (p := ad.add x) (by rw [block_add]; exact h1)).trans h2⟩))
    keepB_t (keepB_b (by omega)) (Below.refl _ _) (fun _ => rfl)
    (fun pre W => MinAt w n p i j f pre W ∧ Below w.heap.size w W)
    (fun _ _ _ => False)
    (OwnFrom.and (Go.Own.from (minAt_own w n p i j f) _) (ownFrom_below (Nat.le_refl _) (by omega)))
    (fun _ _ _ _ _ hs _ _ => hs)
    ⟨M0, kw⟩
    (fun x => { tmps := #[.slice A n d, .int .i64 (i : Int), .int .i64 (j : Int), undef, undef, .pointer (some ⟨w.heap.size, 0, none⟩), .int .i64 0, .nilIface, .pointer (some ⟨w.heap.size + 1, 0, none⟩), .slice (R (x % n)) n (D (x % n)), .slice A n d, .int .i64 (n : Int), .bool false, .slice A n d, .int .i64 (i : Int), .func (.func 85) #[] #[.pointer (some ⟨w.heap.size + 2, 0, none⟩), .pointer (some ⟨w.heap.size + 3, 0, none⟩)], .slice (R (x % n)) n (D (x % n)), undef, undef, undef, undef, undef, undef, undef, undef, undef, undef, undef], defers := [] }) ?assign ?body ?done ?stop)
  case assign =>
    intro l x W K hK
    unfold headAt
    gi_wp2
    exact hK
  case body =>
    rintro l pre x W ⟨⟨⟨v, G, C, hv, ho⟩, hcj, hri⟩, hB⟩ hlt
    have hy : x % n < n := Nat.mod_lt _ hn0
    obtain ⟨ad, _, hadl, _, lr⟩ := HR.out (x % n) hy
    obtain ⟨wd, hwd⟩ : ∃ x, x = W.drew := ⟨_, rfl⟩
    have kd : Kp W wd := by rw [hwd]; exact (Kp.rfl' W).drewN 1
    have FIN := Lib.hid (fun (w4 w6 : World) (tmp : Obj) (vg vc : Nat) (G' C' : Nat → Nat) (k4 : Kp wd w4) (hg : (w4.alloc tmp).grownBy w6 v.ownBlock) (h6 : OwnM w6 w.heap.size (.slice (some ⟨vg, 0, none⟩) (pre.length + 1) vc) G' C' (mrows n p j f pre ++ [Mx.row p fun b => ((f (x % n) (Mx.sk j b)).val : Int)])) =>
      min_fin (B := w'.heap.size) hB kd k4 hv ho hcj hri hg h6)
    have hkw := hB.trans (kd.mono hB.size)
    have SK := Lib.hid (fun (w4 : World) (k : Kp wd w4) => (show w4.cell? ⟨w.heap.size + 1, 0, none⟩ = some v ∧ w4.cell? ⟨w.heap.size, 0, none⟩ = some (.int .i64 (j : Int)) from
      ⟨(boxed_kp hv (kd.trans k)).cell, (boxed_kp hcj (kd.trans k)).cell⟩))
    have OT := Lib.hid (fun w4 => others_any (R (x % n)) n (D (x % n)) (j : Int) w4)
    have L3 := Lib.hid (fun (w3 : World) (h : w3 = (wd.alloc (.cells #[.slice (R (x % n)) n (D (x % n))] 23)).alloc (.cells #[.int .i64 (j : Int)] 3)) =>
      (show Kp wd w3 ∧ w3.cell? ⟨wd.heap.size, 0, none⟩ = some (.slice (R (x % n)) n (D (x % n))) ∧ w3.cell? ⟨wd.heap.size + 1, 0, none⟩ = some (.int .i64 (j : Int)) by
        subst h
        refine ⟨((Kp.rfl' wd).new _).new _, ((Boxed.new wd 23 (.slice (R (x % n)) n (D (x % n)))).alloc _).cell, ?_⟩
        have := (Boxed.new (wd.alloc (.cells #[.slice (R (x % n)) n (D (x % n))] 23)) 3 (.int .i64 (j : Int))).cell
        rwa [World.size_alloc] at this))
    have COL := Lib.hid (fun (w3 : World) (k : Kp wd w3) (h1 : w3.cell? ⟨wd.heap.size, 0, none⟩ = some (.slice (R (x % n)) n (D (x % n)))) (h2 : w3.cell? ⟨wd.heap.size + 1, 0, none⟩ = some (.int .i64 (j : Int))) =>
      (show Calls Tryd.prog 73 #[.func (.func 87) #[] #[.pointer (some ⟨wd.heap.size, 0, none⟩), .pointer (some ⟨wd.heap.size + 1, 0, none⟩)]] w3 fun e w4 =>
          ∃ g gc, e = .returned (.slice (some ⟨g, 0, none⟩) p gc) ∧ Own w4 w.heap.size (.slice (some ⟨g, 0, none⟩) p gc) (Mx.row p fun b => ((f (x % n) (Mx.sk j b)).val : Int)) ∧ Kp wd w4 ∧ ∀ a, a < (mrows n p j f pre).length → G a ≠ g from
        (collect_any wd.heap.size (wd.heap.size + 1) n j (D (x % n)) (R (x % n)) _ (by omega) hj6 w3 h1 h2 (lr.keep (Below.trans hkw (k.mono hkw.size)))).mono fun e w4 ⟨u, he, hu, hk⟩ => by
          rw [show ct j n = p by rw [HN.out]; exact ct_end HJ.out] at hu
          obtain ⟨g, gc, rfl, hg, _⟩ := own_some hu (by rw [Mx.len_row]; exact HP0.out)
          rw [Mx.len_row] at he hu
          have hsz := k.size
          have hsz2 := hkw.size
          exact ⟨g, gc, he, hu.from (by omega), k.trans hk, fun a hal => by have := (ho.lt hal).2; have := kd.size; omega⟩))
    have PM := Lib.hid (fun (w4 : World) (k : Kp wd w4) (o : Obj) => ((ho.kp kd).kp k).new o)
    have HLE := Lib.hid (show (mrows n p j f pre).length + 1 ≤ 1000000 by rw [mrows_len]; omega)
    have HSZ := Lib.hid (fun (w4 : World) (k : Kp wd w4) (o : Obj) => (show w.heap.size ≤ (w4.alloc o).heap.size from Nat.le_trans hkw.size (Nat.le_trans k.size ((Kp.rfl' w4).new o).size)))
    have OS := Lib.hid (fun (v' : Value) (w6 : World) (G' C' : Nat → Nat) (h : OwnM w6 w.heap.size v' G' C' (mrows n p j f pre ++ [Mx.row p fun b => ((f (x % n) (Mx.sk j b)).val : Int)])) =>
      (show ∃ vg vc, v' = .slice (some ⟨vg, 0, none⟩) (pre.length + 1) vc from by
        have ht := h.top
        rw [List.length_append, List.length_singleton, mrows_len] at ht
        exact ownsRow_succ ht))
    have BX := Lib.hid (fun (w4 w6 : World) (tmp : Obj) (k : Kp wd w4) (hg : (w4.alloc tmp).grownBy w6 v.ownBlock) => (show w6.cell? ⟨w.heap.size + 1, 0, none⟩ = some v ∧ w6.frozen? ⟨w.heap.size + 1, 0, none⟩ = false from by
      have b4 := (boxed_kp hv (kd.trans k)).alloc tmp
      have b6 := b4.kept hg (b4.not_row (by decide) (((ho.kp kd).kp k).new tmp).top)
      exact ⟨b6.cell, b6.frozen⟩))
    generalize x % n = y at *
    clear hv ho hcj hri hB kd hkw lr hadl
    refine wpIn_block ?_
    refine wpIn_region_any (by kernel_rfl) (any_in (by kernel_rfl) _ _ _ _ ?_)
    change wpAny _ _ _ _ _ _ _ (World.drew W)
    rw [← hwd]
    clear hwd
    refine wpAny_take (i := 1) (v := .slice (R y) n (D y)) rfl (by kernel_rfl) (by kernel_rfl) (by kernel_rfl) (fun _ _ _ h => by cases h.1) (Or.inl ⟨by rfl, ?_⟩) ?_
    · intro w; go_simp
    try dsimp only [Act.put, List.setIfInBounds_toArray, List.set_cons_zero, List.set_cons_succ]
    refine wpAny_ready (rs := [0, 2]) (by kernel_rfl) (by simp) ?_
    refine AllReady.cons rfl (fun K hK => ?_) (AllReady.cons rfl (fun K hK => ?_) AllReady.nil)
    · have HK := Lib.hid hK
      clear hK
      have hcl := (SK.out _ (Kp.rfl' _)).1
      go_simp
      clear hcl
      refine HK.out _ _ ?_
      (try clear HK K); try dsimp only [Act.put, List.setIfInBounds_toArray, List.set_cons_zero, List.set_cons_succ]
      refine wpAny_ready (rs := [2]) (by kernel_rfl) (by simp) ?_
      refine AllReady.cons rfl (fun K hK => ?_) AllReady.nil
      · have HK := Lib.hid hK
        clear hK
        have hcl := (SK.out _ (Kp.rfl' _)).2
        go_simp
        clear hcl
        refine HK.out _ _ ?_
        (try clear HK K); try dsimp only [Act.put, List.setIfInBounds_toArray, List.set_cons_zero, List.set_cons_succ]
        refine wpAny_ready (rs := [3]) (by kernel_rfl) (by simp) ?_
        refine AllReady.cons rfl (fun K hK => ?_) AllReady.nil
        · have HK := Lib.hid hK
          clear hK
          go_simp
          go_at_call 74; (with_reducible refine (OT.out _).mono ?_); rintro e w3 ⟨rfl, hw3⟩
          obtain ⟨k3, c30, c31⟩ := L3.out w3 hw3
          clear hw3
          go_wp2_with fail
          refine HK.out _ _ ?_
          (try clear HK K); try dsimp only [Act.put, List.setIfInBounds_toArray, List.set_cons_zero, List.set_cons_succ]
          refine wpAny_ready (rs := [4]) (by kernel_rfl) (by simp) ?_
          refine AllReady.cons rfl (fun K hK => ?_) AllReady.nil
          · have HK := Lib.hid hK
            clear hK
            go_simp
            go_at_call 73; (with_reducible refine (COL.out w3 k3 c30 c31).mono ?_); rintro e w4 ⟨g, gc, rfl, o4, k4, hap⟩
            go_wp2_with fail
            refine HK.out _ _ ?_
            (try clear HK K); try dsimp only [Act.put, List.setIfInBounds_toArray, List.set_cons_zero, List.set_cons_succ]
            refine wpAny_ready (rs := [5]) (by kernel_rfl) (by simp) ?_
            refine AllReady.cons rfl (fun K hK => ?_) AllReady.nil
            · have HK := Lib.hid hK
              clear hK
              go_simp
              refine HK.out _ _ ?_
              (try clear HK K); try dsimp only [Act.put, List.setIfInBounds_toArray, List.set_cons_zero, List.set_cons_succ]
              refine wpAny_ready (rs := [6]) (by kernel_rfl) (by simp) ?_
              refine AllReady.cons rfl (fun K hK => ?_) AllReady.nil
              · have HK := Lib.hid hK
                clear hK
                refine step_wanted rfl (wp_pushM _ _ rfl w.heap.size v G C _ _ g p gc w4.heap.size 1 (Mx.len_row _ _) rfl rfl (PM.out w4 k4 _) (cell_made _ _ _ _ 0 rfl) (o4.new _) hap HLE.out (HSZ.out w4 k4 _) fun v' w6 G' C' hom hgr => ?_)
                obtain ⟨vg, vc, rfl⟩ := OS.out v' w6 G' C' hom
                obtain ⟨hc6, hf6⟩ := BX.out w4 w6 _ k4 hgr
                refine HK.out _ _ ?_
                (try clear HK K); try dsimp only [Act.put, List.setIfInBounds_toArray, List.set_cons_zero, List.set_cons_succ]
                refine wpAny_ready (rs := [7]) (by kernel_rfl) (by simp) ?_
                refine AllReady.cons rfl (fun K hK => ?_) AllReady.nil
                · have HK := Lib.hid hK
                  clear hK
                  go_simp
                  refine HK.out _ _ ?_
                  (try clear HK K); try dsimp only [Act.put, List.setIfInBounds_toArray, List.set_cons_zero, List.set_cons_succ]
                  refine wpAny_done (by kernel_rfl) ?_ _
                  exact ⟨rfl, FIN.out w4 w6 _ _ _ _ _ k4 hgr hom⟩
    · have HK := Lib.hid hK
      clear hK
      have hcl := (SK.out _ (Kp.rfl' _)).2
      go_simp
      clear hcl
      refine HK.out _ _ ?_
      (try clear HK K); try dsimp only [Act.put, List.setIfInBounds_toArray, List.set_cons_zero, List.set_cons_succ]
      refine wpAny_ready (rs := [0, 3]) (by kernel_rfl) (by simp) ?_
      refine AllReady.cons rfl (fun K hK => ?_) (AllReady.cons rfl (fun K hK => ?_) AllReady.nil)
      · have HK := Lib.hid hK
        clear hK
        have hcl := (SK.out _ (Kp.rfl' _)).1
        go_simp
        clear hcl
        refine HK.out _ _ ?_
        (try clear HK K); try dsimp only [Act.put, List.setIfInBounds_toArray, List.set_cons_zero, List.set_cons_succ]
        refine wpAny_ready (rs := [3]) (by kernel_rfl) (by simp) ?_
        refine AllReady.cons rfl (fun K hK => ?_) AllReady.nil
        · have HK := Lib.hid hK
          clear hK
          go_simp
          go_at_call 74; (with_reducible refine (OT.out _).mono ?_); rintro e w3 ⟨rfl, hw3⟩
          obtain ⟨k3, c30, c31⟩ := L3.out w3 hw3
          clear hw3
          go_wp2_with fail
          refine HK.out _ _ ?_
          (try clear HK K); try dsimp only [Act.put, List.setIfInBounds_toArray, List.set_cons_zero, List.set_cons_succ]
          refine wpAny_ready (rs := [4]) (by kernel_rfl) (by simp) ?_
          refine AllReady.cons rfl (fun K hK => ?_) AllReady.nil
          · have HK := Lib.hid hK
            clear hK
            go_simp
            go_at_call 73; (with_reducible refine (COL.out w3 k3 c30 c31).mono ?_); rintro e w4 ⟨g, gc, rfl, o4, k4, hap⟩
            go_wp2_with fail
            refine HK.out _ _ ?_
            (try clear HK K); try dsimp only [Act.put, List.setIfInBounds_toArray, List.set_cons_zero, List.set_cons_succ]
            refine wpAny_ready (rs := [5]) (by kernel_rfl) (by simp) ?_
            refine AllReady.cons rfl (fun K hK => ?_) AllReady.nil
            · have HK := Lib.hid hK
              clear hK
              go_simp
              refine HK.out _ _ ?_
              (try clear HK K); try dsimp only [Act.put, List.setIfInBounds_toArray, List.set_cons_zero, List.set_cons_succ]
              refine wpAny_ready (rs := [6]) (by kernel_rfl) (by simp) ?_
              refine AllReady.cons rfl (fun K hK => ?_) AllReady.nil
              · have HK := Lib.hid hK
                clear hK
                refine step_wanted rfl (wp_pushM _ _ rfl w.heap.size v G C _ _ g p gc w4.heap.size 1 (Mx.len_row _ _) rfl rfl (PM.out w4 k4 _) (cell_made _ _ _ _ 0 rfl) (o4.new _) hap HLE.out (HSZ.out w4 k4 _) fun v' w6 G' C' hom hgr => ?_)
                obtain ⟨vg, vc, rfl⟩ := OS.out v' w6 G' C' hom
                obtain ⟨hc6, hf6⟩ := BX.out w4 w6 _ k4 hgr
                refine HK.out _ _ ?_
                (try clear HK K); try dsimp only [Act.put, List.setIfInBounds_toArray, List.set_cons_zero, List.set_cons_succ]
                refine wpAny_ready (rs := [7]) (by kernel_rfl) (by simp) ?_
                refine AllReady.cons rfl (fun K hK => ?_) AllReady.nil
                · have HK := Lib.hid hK
                  clear hK
                  go_simp
                  refine HK.out _ _ ?_
                  (try clear HK K); try dsimp only [Act.put, List.setIfInBounds_toArray, List.set_cons_zero, List.set_cons_succ]
                  refine wpAny_done (by kernel_rfl) ?_ _
                  exact ⟨rfl, FIN.out w4 w6 _ _ _ _ _ k4 hgr hom⟩
      · have HK := Lib.hid hK
        clear hK
        go_simp
        go_at_call 74; (with_reducible refine (OT.out _).mono ?_); rintro e w3 ⟨rfl, hw3⟩
        obtain ⟨k3, c30, c31⟩ := L3.out w3 hw3
        clear hw3
        go_wp2_with fail
        refine HK.out _ _ ?_
        (try clear HK K); try dsimp only [Act.put, List.setIfInBounds_toArray, List.set_cons_zero, List.set_cons_succ]
        refine wpAny_ready (rs := [0, 4]) (by kernel_rfl) (by simp) ?_
        refine AllReady.cons rfl (fun K hK => ?_) (AllReady.cons rfl (fun K hK => ?_) AllReady.nil)
        · have HK := Lib.hid hK
          clear hK
          have hcl := (SK.out _ k3).1
          go_simp
          clear hcl
          refine HK.out _ _ ?_
          (try clear HK K); try dsimp only [Act.put, List.setIfInBounds_toArray, List.set_cons_zero, List.set_cons_succ]
          refine wpAny_ready (rs := [4]) (by kernel_rfl) (by simp) ?_
          refine AllReady.cons rfl (fun K hK => ?_) AllReady.nil
          · have HK := Lib.hid hK
            clear hK
            go_simp
            go_at_call 73; (with_reducible refine (COL.out w3 k3 c30 c31).mono ?_); rintro e w4 ⟨g, gc, rfl, o4, k4, hap⟩
            go_wp2_with fail
            refine HK.out _ _ ?_
            (try clear HK K); try dsimp only [Act.put, List.setIfInBounds_toArray, List.set_cons_zero, List.set_cons_succ]
            refine wpAny_ready (rs := [5]) (by kernel_rfl) (by simp) ?_
            refine AllReady.cons rfl (fun K hK => ?_) AllReady.nil
            · have HK := Lib.hid hK
              clear hK
              go_simp
              refine HK.out _ _ ?_
              (try clear HK K); try dsimp only [Act.put, List.setIfInBounds_toArray, List.set_cons_zero, List.set_cons_succ]
              refine wpAny_ready (rs := [6]) (by kernel_rfl) (by simp) ?_
              refine AllReady.cons rfl (fun K hK => ?_) AllReady.nil
              · have HK := Lib.hid hK
                clear hK
                refine step_wanted rfl (wp_pushM _ _ rfl w.heap.size v G C _ _ g p gc w4.heap.size 1 (Mx.len_row _ _) rfl rfl (PM.out w4 k4 _) (cell_made _ _ _ _ 0 rfl) (o4.new _) hap HLE.out (HSZ.out w4 k4 _) fun v' w6 G' C' hom hgr => ?_)
                obtain ⟨vg, vc, rfl⟩ := OS.out v' w6 G' C' hom
                obtain ⟨hc6, hf6⟩ := BX.out w4 w6 _ k4 hgr
                refine HK.out _ _ ?_
                (try clear HK K); try dsimp only [Act.put, List.setIfInBounds_toArray, List.set_cons_zero, List.set_cons_succ]
                refine wpAny_ready (rs := [7]) (by kernel_rfl) (by simp) ?_
                refine AllReady.cons rfl (fun K hK => ?_) AllReady.nil
                · have HK := Lib.hid hK
                  clear hK
                  go_simp
                  refine HK.out _ _ ?_
                  (try clear HK K); try dsimp only [Act.put, List.setIfInBounds_toArray, List.set_cons_zero, List.set_cons_succ]
                  refine wpAny_done (by kernel_rfl) ?_ _
                  exact ⟨rfl, FIN.out w4 w6 _ _ _ _ _ k4 hgr hom⟩
        · have HK := Lib.hid hK
          clear hK
          go_simp
          go_at_call 73; (with_reducible refine (COL.out w3 k3 c30 c31).mono ?_); rintro e w4 ⟨g, gc, rfl, o4, k4, hap⟩
          go_wp2_with fail
          refine HK.out _ _ ?_
          (try clear HK K); try dsimp only [Act.put, List.setIfInBounds_toArray, List.set_cons_zero, List.set_cons_succ]
          refine wpAny_ready (rs := [0, 5]) (by kernel_rfl) (by simp) ?_
          refine AllReady.cons rfl (fun K hK => ?_) (AllReady.cons rfl (fun K hK => ?_) AllReady.nil)
          · have HK := Lib.hid hK
            clear hK
            have hcl := (SK.out _ k4).1
            go_simp
            clear hcl
            refine HK.out _ _ ?_
            (try clear HK K); try dsimp only [Act.put, List.setIfInBounds_toArray, List.set_cons_zero, List.set_cons_succ]
            refine wpAny_ready (rs := [5]) (by kernel_rfl) (by simp) ?_
            refine AllReady.cons rfl (fun K hK => ?_) AllReady.nil
            · have HK := Lib.hid hK
              clear hK
              go_simp
              refine HK.out _ _ ?_
              (try clear HK K); try dsimp only [Act.put, List.setIfInBounds_toArray, List.set_cons_zero, List.set_cons_succ]
              refine wpAny_ready (rs := [6]) (by kernel_rfl) (by simp) ?_
              refine AllReady.cons rfl (fun K hK => ?_) AllReady.nil
              · have HK := Lib.hid hK
                clear hK
                refine step_wanted rfl (wp_pushM _ _ rfl w.heap.size v G C _ _ g p gc w4.heap.size 1 (Mx.len_row _ _) rfl rfl (PM.out w4 k4 _) (cell_made _ _ _ _ 0 rfl) (o4.new _) hap HLE.out (HSZ.out w4 k4 _) fun v' w6 G' C' hom hgr => ?_)
                obtain ⟨vg, vc, rfl⟩ := OS.out v' w6 G' C' hom
                obtain ⟨hc6, hf6⟩ := BX.out w4 w6 _ k4 hgr
                refine HK.out _ _ ?_
                (try clear HK K); try dsimp only [Act.put, List.setIfInBounds_toArray, List.set_cons_zero, List.set_cons_succ]
                refine wpAny_ready (rs := [7]) (by kernel_rfl) (by simp) ?_
                refine AllReady.cons rfl (fun K hK => ?_) AllReady.nil
                · have HK := Lib.hid hK
                  clear hK
                  go_simp
                  refine HK.out _ _ ?_
                  (try clear HK K); try dsimp only [Act.put, List.setIfInBounds_toArray, List.set_cons_zero, List.set_cons_succ]
                  refine wpAny_done (by kernel_rfl) ?_ _
                  exact ⟨rfl, FIN.out w4 w6 _ _ _ _ _ k4 hgr hom⟩
          · have HK := Lib.hid hK
            clear hK
            go_simp
            refine HK.out _ _ ?_
            (try clear HK K); try dsimp only [Act.put, List.setIfInBounds_toArray, List.set_cons_zero, List.set_cons_succ]
            refine wpAny_ready (rs := [0]) (by kernel_rfl) (by simp) ?_
            refine AllReady.cons rfl (fun K hK => ?_) AllReady.nil
            · have HK := Lib.hid hK
              clear hK
              have hcl := (SK.out _ (k4.new (.cells #[.slice (some ⟨g, 0, none⟩) p gc] 23))).1
              go_simp
              clear hcl
              refine HK.out _ _ ?_
              (try clear HK K); try dsimp only [Act.put, List.setIfInBounds_toArray, List.set_cons_zero, List.set_cons_succ]
              refine wpAny_ready (rs := [6]) (by kernel_rfl) (by simp) ?_
              refine AllReady.cons rfl (fun K hK => ?_) AllReady.nil
              · have HK := Lib.hid hK
                clear hK
                refine step_wanted rfl (wp_pushM _ _ rfl w.heap.size v G C _ _ g p gc w4.heap.size 1 (Mx.len_row _ _) rfl rfl (PM.out w4 k4 _) (cell_made _ _ _ _ 0 rfl) (o4.new _) hap HLE.out (HSZ.out w4 k4 _) fun v' w6 G' C' hom hgr => ?_)
                obtain ⟨vg, vc, rfl⟩ := OS.out v' w6 G' C' hom
                obtain ⟨hc6, hf6⟩ := BX.out w4 w6 _ k4 hgr
                refine HK.out _ _ ?_
                (try clear HK K); try dsimp only [Act.put, List.setIfInBounds_toArray, List.set_cons_zero, List.set_cons_succ]
                refine wpAny_ready (rs := [7]) (by kernel_rfl) (by simp) ?_
                refine AllReady.cons rfl (fun K hK => ?_) AllReady.nil
                · have HK := Lib.hid hK
                  clear hK
                  go_simp
                  refine HK.out _ _ ?_
                  (try clear HK K); try dsimp only [Act.put, List.setIfInBounds_toArray, List.set_cons_zero, List.set_cons_succ]
                  refine wpAny_done (by kernel_rfl) ?_ _
                  exact ⟨rfl, FIN.out w4 w6 _ _ _ _ _ k4 hgr hom⟩
  case done =>
    rintro D' ys W hD rfl ⟨⟨⟨v, G, C, hv, ho⟩, _, _⟩, hB⟩ hK
    rw [ALL.out] at ho
    obtain ⟨A', c', rfl, hl, _⟩ := ho.lies
    rw [Mx.len_matl] at hv
    have hcv := hv.cell
    have HB := Lib.hid hB
    have hDl := (Array.getElem?_eq_some_iff.1 hK).1
    have O1 := Lib.hid (OF.out A' c' W hl)
    have HD := Lib.hid (show w.heap.size ≤ D' by omega)
    clear hv ho hl hB hD
    go_wp2_with fail
    refine (O1.out).mono ?_; rintro e w5 ⟨rfl, k5⟩
    have hK5 := (k5.block D' hDl).trans hK
    have HB5 := Lib.hid (HB.out.trans (k5.mono HB.out.size))
    clear k5 hK
    go_wp2_with fail
    refine ⟨by simp, .inl ⟨_, _, rfl, run_takeDeferred hK5, ?_⟩⟩
    refine ⟨.tuple #[.int .i64 (dd.val : Int), .nilIface], by simp [results, Tryd.results55, go_sem], rfl, HB5.out.trans (belowK_b (w := w) (Nat.le_refl _) w5 D' _ _ HD.out hK5 rfl rfl)⟩
  case stop =>
    rintro D c pre W _ _ h _
    exact h.elim

end Go.Proofs.YtofdhdnffkhojaaDoor

/- Plain facts on determinants over the field: by any row (Laplace), what is left without a row and a column (the adjugate), Cramer's rule. No program is named here. -/
namespace Go.Proofs.YtofdhdnffkhojaaDoor.Mx
open Fp
set_option linter.unusedVariables false

/-- Row i first, the others behind it in their order. -/
def tau (i a : Nat) : Nat := if a = 0 then i else sk i (a - 1)
theorem tau_zero (a : Nat) : tau 0 a = a := by
  unfold tau
  by_cases h : a = 0
  · rw [if_pos h, h]
  · rw [if_neg h, sk_zero]; omega
theorem tau_next (i a : Nat) : tau (i + 1) a = sw i (i + 1) (tau i a) := by
  unfold tau
  by_cases h : a = 0
  · rw [if_pos h, if_pos h, sw_left]
  · rw [if_neg h, if_neg h]
    unfold sk
    rcases Nat.lt_trichotomy (a - 1) i with e | e | e
    · rw [if_pos (by omega), if_pos e, sw_none (by omega) (by omega)]
    · rw [if_pos (by omega), if_neg (by omega), e, sw_right]
    · rw [if_neg (by omega), if_neg (by omega), sw_none (by omega) (by omega)]
theorem dt_tau {n : Nat} : ∀ (i : Nat) (f : Nat → Nat → F), i < n → dt n (fun a b => f (tau i a) b) = sgn i * dt n f
  | 0, f, _ => by
    rw [show (fun a b => f (tau 0 a) b) = f from funext fun a => by rw [tau_zero]]
    show _ = (if 0 % 2 = 0 then (1 : F) else -1) * _
    rw [if_pos rfl]; grind
  | i + 1, f, h => by
    have h1 := dt_tau (n := n) i (fun r b => f (sw i (i + 1) r) b) (by omega)
    rw [show (fun a b => f (sw i (i + 1) (tau i a)) b) = fun a b => f (tau (i + 1) a) b from funext fun a => by rw [tau_next]] at h1
    rw [h1, dt_rswap f (a := i) (b := i + 1) (by omega) h (by omega), sgn_succ]
    grind
theorem sgn_two (i : Nat) : sgn i * sgn i = 1 := by unfold sgn; split <;> grind
theorem sgn_add (i j : Nat) : sgn (i + j) = sgn i * sgn j := by
  unfold sgn
  by_cases h1 : i % 2 = 0
  · by_cases h2 : j % 2 = 0
    · rw [if_pos h1, if_pos h2, if_pos (by omega)]; grind
    · rw [if_pos h1, if_neg h2, if_neg (by omega)]; grind
  · by_cases h2 : j % 2 = 0
    · rw [if_neg h1, if_pos h2, if_neg (by omega)]; grind
    · rw [if_neg h1, if_neg h2, if_pos (by omega)]; grind
/-- By row i. -/
theorem laplace (p i : Nat) (f : Nat → Nat → F) (hi : i ≤ p) : (sg (p + 1) fun j => sgn (i + j) * f i j * dt p (wo f i j)) = dt (p + 1) f := by
  have h1 := dt_tau i f (Nat.lt_succ_of_le hi)
  rw [dt_succ] at h1
  have h2 : (sg (p + 1) fun j => sgn j * f (tau i 0) j * dt p (del j fun a b => f (tau i a) b)) = sg (p + 1) fun j => sgn j * f i j * dt p (wo f i j) := sg_congr fun j _ => by
    rw [show (del j fun a b => f (tau i a) b) = wo f i j from funext fun a => funext fun b => by
      show f (tau i (a + 1)) (sk j b) = f (sk i a) (sk j b)
      unfold tau
      rw [if_neg (Nat.succ_ne_zero a), Nat.add_sub_cancel]]
    show sgn j * f (if 0 = 0 then i else _) j * _ = _
    rw [if_pos rfl]
  rw [h2] at h1
  have h3 : (sg (p + 1) fun j => sgn (i + j) * f i j * dt p (wo f i j)) = sgn i * sg (p + 1) fun j => sgn j * f i j * dt p (wo f i j) := by
    rw [← sg_times]
    exact sg_congr fun j _ => by rw [sgn_add]; grind
  rw [h3, h1]
  have := sgn_two i
  grind
theorem wo_setr (i j : Nat) (u : Nat → F) (f : Nat → Nat → F) : wo (setr i u f) i j = wo f i j := by
  funext a b
  show (if sk i a = i then u (sk j b) else f (sk i a) (sk j b)) = _
  rw [if_neg (sk_ne i a)]; rfl
/-- With the numbers of another row in its place. -/
theorem laplace_row (p i : Nat) (u : Nat → F) (f : Nat → Nat → F) (hi : i ≤ p) : (sg (p + 1) fun j => sgn (i + j) * u j * dt p (wo f i j)) = dt (p + 1) (setr i u f) := by
  rw [← laplace p i (setr i u f) hi]
  exact sg_congr fun j _ => by
    rw [wo_setr]
    show _ = _ * (if i = i then u j else f i j) * _
    rw [if_pos rfl]
theorem laplace_other (p i k : Nat) (f : Nat → Nat → F) (hi : i ≤ p) (hk : k ≤ p) : (sg (p + 1) fun j => sgn (i + j) * f k j * dt p (wo f i j)) = if i = k then dt (p + 1) f else 0 := by
  rw [laplace_row p i (fun j => f k j) f hi]
  by_cases h : i = k
  · rw [if_pos h, h, setr_self]
  · rw [if_neg h]
    refine dt_rows (r := i) (s := k) (by omega) (by omega) h fun j _ => ?_
    show (if i = i then f k j else f i j) = (if k = i then f k j else f k j)
    rw [if_pos rfl]; split <;> rfl

/-- The adjugate: at row i and column j what is left without row j and column i, with its sign. -/
def adj (p : Nat) (f : Nat → Nat → F) : Nat → Nat → F := fun i j => sgn (i + j) * dt p (wo f j i)
/-- So many times the one. -/
def scal (d : F) : Nat → Nat → F := fun i j => if i = j then d else 0
theorem adj_right (p : Nat) (f : Nat → Nat → F) : Eqm (p + 1) (p + 1) (mul (p + 1) f (adj p f)) (scal (dt (p + 1) f)) := fun k i hk hi => by
  show (sg (p + 1) fun j => f k j * (sgn (j + i) * dt p (wo f i j))) = if k = i then _ else 0
  have := laplace_other p i k f (by omega) (by omega)
  rw [show (sg (p + 1) fun j => f k j * (sgn (j + i) * dt p (wo f i j))) = sg (p + 1) fun j => sgn (i + j) * f k j * dt p (wo f i j) from sg_congr fun j _ => by rw [Nat.add_comm i j]; grind, this]
  by_cases h : i = k
  · rw [if_pos h, if_pos h.symm]
  · rw [if_neg h, if_neg fun h' => h h'.symm]
theorem adj_flip (p : Nat) (f : Nat → Nat → F) : adj p (flip f) = flip (adj p f) := by
  funext i j
  show sgn (i + j) * dt p (wo (flip f) j i) = sgn (j + i) * dt p (wo f i j)
  rw [Nat.add_comm i j, show wo (flip f) j i = flip (wo f i j) from rfl, dt_flip]
theorem adj_left (p : Nat) (f : Nat → Nat → F) : Eqm (p + 1) (p + 1) (mul (p + 1) (adj p f) f) (scal (dt (p + 1) f)) := fun k i hk hi => by
  have h := adj_right p (flip f) i k hi hk
  rw [adj_flip, dt_flip] at h
  have e : mul (p + 1) (flip f) (flip (adj p f)) i k = mul (p + 1) (adj p f) f k i := sg_congr fun x _ => by
    show f x i * adj p f k x = adj p f k x * f x i
    grind
  rw [← e, h]
  show (if i = k then _ else _) = if k = i then _ else _
  by_cases h : i = k
  · rw [if_pos h, if_pos h.symm]
  · rw [if_neg h, if_neg fun h' => h h'.symm]
theorem dt_scal (d : F) : ∀ n, dt n (scal d) = pw d n
  | 0 => rfl
  | n + 1 => by
    rw [dt_succ, sg_one (Nat.succ_pos n) fun i hi hne => by
      show sgn i * (if 0 = i then d else 0) * _ = 0
      rw [if_neg fun h => hne h.symm]; grind]
    have e : del 0 (scal d) = scal d := by
      funext a b
      show (if a + 1 = sk 0 b then d else 0) = if a = b then d else 0
      rw [sk_zero]
      by_cases h : a = b
      · rw [if_pos h, if_pos (by omega)]
      · rw [if_neg h, if_neg (by omega)]
    rw [e, dt_scal d n]
    show (if 0 % 2 = 0 then (1 : F) else -1) * (if 0 = 0 then d else 0) * pw d n = pw d (n + 1)
    rw [if_pos rfl, if_pos rfl, pw_succ]; grind
theorem adj_dt (p : Nat) (f : Nat → Nat → F) : dt (p + 1) (adj p f) = pw (dt (p + 1) f) p := by
  have h1 : dt (p + 1) f * dt (p + 1) (adj p f) = pw (dt (p + 1) f) (p + 1) := by rw [← dt_mul, dt_congr _ (adj_right p f), dt_scal]
  by_cases h : dt (p + 1) f = 0
  · rcases Nat.eq_zero_or_pos p with h0 | h0
    · subst h0
      rw [show pw (dt 1 f) 0 = 1 from rfl]
      show sg 1 (fun j => sgn j * (sgn (0 + j) * dt 0 (wo f j 0)) * dt 0 (del j (adj 0 f))) = 1
      rw [sg_succ, sg_zero]
      show 0 + sgn 0 * (sgn (0 + 0) * 1) * 1 = 1
      have := sgn_two 0
      grind
    · obtain ⟨q, rfl⟩ : ∃ q, p = q + 1 := ⟨p - 1, by omega⟩
      rw [h, pw_succ]
      refine (?_ : dt (q + 1 + 1) (adj (q + 1) f) = 0).trans (by grind)
      apply Classical.byContradiction
      intro hne
      obtain ⟨t, ht⟩ := undo hne
      -- all numbers are noughts then, and what is left too
      have hz : ∀ i j, i < q + 1 + 1 → j < q + 1 + 1 → f i j = 0 := fun i j hi hj => by
        have e1 := one_mul (q + 1 + 1) (q + 1 + 1) f i j hi hj
        have e2 := (ht.mul (Eqm.rfl' (q + 1 + 1) (q + 1 + 1) f)) i j hi hj
        rw [mul_assoc] at e2
        have e3 : mul (q + 1 + 1) t (mul (q + 1 + 1) (adj (q + 1) f) f) i j = 0 := by
          show sg (q + 1 + 1) (fun x => t i x * mul (q + 1 + 1) (adj (q + 1) f) f x j) = 0
          rw [sg_congr (g := fun _ => 0) fun x hx => by
            rw [adj_left (q + 1) f x j hx hj, h]
            show t i x * (if x = j then 0 else 0) = 0
            split <;> grind]
          exact sg_none _
        rw [← e1, ← e2, e3]
      apply hne
      refine dt_zrow (k := 0) (Nat.succ_pos _) fun j hj => ?_
      show sgn (0 + j) * dt (q + 1) (wo f j 0) = 0
      rw [dt_zrow (k := 0) (Nat.succ_pos _) fun b hb => show f (sk j 0) (sk 0 b) = 0 from hz _ _ (sk_lt (Nat.succ_pos q)) (sk_lt hb)]
      grind
  · rw [pw_succ] at h1
    refine mul_cancel h ?_
    rw [Fin.mul_comm (dt (p + 1) (adj p f))]
    exact h1
/-- Cramer: with what a row comes to in the place of column j. -/
theorem cramer (n j : Nat) (f : Nat → Nat → F) (x : Nat → F) (hj : j < n) : dt n (setc j (fun i => sg n fun t => f i t * x t) f) = dt n f * x j := by
  have h := dt_sum n j hj f x (fun t i => f i t) n
  rw [show (fun i => sg n fun t => x t * f i t) = fun i => sg n fun t => f i t * x t from funext fun i => sg_congr fun t _ => by grind] at h
  rw [h, sg_one hj fun t ht hne => by rw [dt_copy hj ht (fun e => hne e.symm)]; grind, setc_self]
  grind

end Go.Proofs.YtofdhdnffkhojaaDoor.Mx

/- Contracts of package minors, second part: Of, Adj. -/
namespace Go.Proofs.YtofdhdnffkhojaaDoor
open Go.ChangeShapes Go.WideShapes Go.ChangeAt Go.RowKit
set_option linter.unusedVariables false

theorem minus_val (d : Fp.F) : (-(d.val : Int)) % 9973 = ((-d).val : Int) := by
  rw [← Fp.ofInt_val]
  congr 2
  have h2 := Fp.ofInt_add (-(d.val : Int)) (d.val : Int)
  rw [Fp.ofInt_self, show -(d.val : Int) + (d.val : Int) = 0 by omega, show Fp.ofInt 0 = 0 from by decide] at h2
  grind

theorem minor_any (A : Option Addr) (f : Nat → Nat → Fp.F) (n p i j d : Nat) (w : World) (ha : LiesM w A (Mx.matl n n f)) (hn : n = p + 1) (hi : i ≤ p) (hj : j ≤ p) (hp : p ≤ 4) :
    Calls Tryd.prog 55 #[.slice A n d, .int .i64 (i : Int), .int .i64 (j : Int)] w fun e w' => e = .returned (.tuple #[.int .i64 ((Mx.dt p (wo f i j)).val : Int), .nilIface]) ∧ Kp w w' := by
  rcases Nat.eq_zero_or_pos p with h0 | h0
  · subst h0 hn
    exact minor_one A d _ _ w
  · exact minor_more A f n p i j d w ha hn hi hj h0 (by omega)


set_option maxRecDepth 100000 in
set_option maxHeartbeats 1600000 in
theorem MAdj_bad (A : Option Addr) (m : List (List Int)) (n d : Nat) (w : World) (ha : LiesM w A m) (hn : m.length = n) (h : qcode 5 0 9972 m ≠ 0) :
    Calls Tryd.prog 30 #[.slice A n d] w fun e w' => e = .returned (.tuple #[.slice none 0 0, errOf (qcode 5 0 9972 m)]) ∧ Kp w w' := by
  have CK := Lib.hid (DChk_any A m n d w ha hn)
  rw [errOf_ne _ h] at CK ⊢
  generalize qcode 5 0 9972 m = z at *
  clear ha hn h
  go_enter Tryd.func30, Tryd.ntmps30
  go_wp2_with fail
  refine (CK.out).mono ?_; rintro e w' ⟨rfl, rfl⟩
  go_wp2_with fail
  go_ret2
  exact ⟨rfl, Kp.rfl' _⟩

theorem sgn_odd {k : Nat} (h : k % 2 = 1) (d : Fp.F) : -d = Mx.sgn k * d := by unfold Mx.sgn; rw [if_neg (by omega)]; grind
theorem sgn_even {k : Nat} (h : k % 2 = 0) (d : Fp.F) : d = Mx.sgn k * d := by unfold Mx.sgn; rw [if_pos h]; grind
theorem par_odd {i j : Nat} (h : (i + j) % 2 = 1) : (((i : Int) + (j : Int)) % 2 == 1) = true := by
  rw [beq_iff_eq]; omega
theorem par_even {i j : Nat} (h : (i + j) % 2 = 0) : (((i : Int) + (j : Int)) % 2 == 1) = false := by
  rw [beq_eq_false_iff_ne]; omega

/-- Row i done as far as place j, the rows below it done, all else nought. -/
def adjTo (p : Nat) (f : Nat → Nat → Fp.F) (i j : Nat) : Nat → Nat → Int := fun a b => if a = i then (if b < j then ((Mx.adj p f a b).val : Int) else 0) else ((Mx.adj p f a b).val : Int)

set_option maxRecDepth 100000 in
set_option maxHeartbeats 3200000 in
theorem MAdj_grid (A : Option Addr) (f : Nat → Nat → Fp.F) (n p d : Nat) (w : World) (ha : LiesM w A (Mx.matl n n f)) (hn : n = p + 1) (hp : p ≤ 4) :
    Calls Tryd.prog 30 #[.slice A n d] w fun e w' => ∃ g G, e = .returned (.tuple #[.slice (some ⟨g, 0, none⟩) n n, .nilIface]) ∧ Grid w' g G n n (fun i j => ((Mx.adj p f i j).val : Int)) ∧ w.heap.size ≤ g ∧ Kp w w' := by
  have CK := Lib.hid (DChk_any A (Mx.matl n n f) n d w ha (Mx.len_matl _ _ _))
  rw [qcode_matl f (by omega) (by omega), errOf_zero] at CK
  have HA := Lib.hid ha
  have MI := Lib.hid (fun (i j : Nat) (w' : World) (h : LiesM w' A (Mx.matl n n f)) (hi : i < n) (hj : j < n) => minor_any A f n p i j d w' h hn (by omega) (by omega) hp)
  have hn5 : n ≤ 5 := by omega
  clear ha hn hp
  obtain ⟨i0, hi, hz0, hz1, hz2⟩ := info_parts int_info
  obtain ⟨j0, hj, hy0, hy1, hy2⟩ := info_parts ints_info
  go_enter Tryd.func30, Tryd.ntmps30
  go_wp2_with fail
  refine (CK.out).mono ?_; rintro e w' ⟨rfl, rfl⟩
  go_wp2_with (at_make; refine wpList_make_full _ rfl _ _ 22 rfl w.heap.size 23 j0 (.slice none 0 0) 1 Tryd.underlying22 hj hy0 hy1 _ _ _ _ n rfl rfl rfl rfl (by rw [hy2]; omega) (by unfold maxLen; omega) (Nat.le_refl _) ?_; intro w1 hown hgrow)
  have hpart : PartF w1 w.heap.size (fun _ => 0) n n 0 (fun i j => ((Mx.adj p f i j).val : Int)) := PartF.start _ hown
  have hkp : Kp w w1 := (Kp.rfl' w).grown hgrow (by simp) (fun k hk => by cases hk)
  clear hown hgrow hj hy0 hy1 hy2
  obtain ⟨g, hg⟩ : ∃ g, g = w.heap.size := ⟨_, rfl⟩
  rw [← hg] at hpart ⊢
  have HG := Lib.hid hg
  clear hg
  go_loopw [6, 7, 8, 9, 20] (fun _ _ _ _ i wr => ∃ (k : Nat) (G : Nat → Nat), k ≤ n ∧ i = .int .i64 (k : Int) ∧ PartF wr g G n n k (fun i j => ((Mx.adj p f i j).val : Int)) ∧ Kp w wr) (fun _ _ _ _ i _ => n - (intOf i).toNat)
  case atStart => exact ⟨0, _, Nat.zero_le _, rfl, hpart, hkp⟩
  case round =>
    clear hpart hkp
    obtain ⟨k, G, hk, rfl, hp, hkp⟩ := hrel
    by_cases hlt : k < n
    · have HP := Lib.hid hp
      have HK := Lib.hid hkp
      clear hp hkp
      obtain ⟨wo', hwo⟩ : ∃ x, x = wr := ⟨_, rfl⟩
      subst hwo
      go_wp2_with (at_make; refine wpList_make_full _ rfl _ _ 23 rfl wo'.heap.size 3 i0 (.int .i64 0) 1 Tryd.underlying23 hi hz0 hz1 _ _ _ _ n rfl rfl rfl rfl (by rw [hz2]; omega) (by unfold maxLen; omega) (Nat.le_refl _) ?_; intro w2 hown hgrow; have hkp2 : Kp wo' w2 := (Kp.rfl' wo').grown hgrow (by simp) (fun k hk => by cases hk); have hcell := (HP.out.keep hkp2).cell (Nat.le_refl k) hlt; have hfree := (HP.out.keep hkp2).free k)
      have HPL := HP.out.lt
      have hpe : PartF wo' g G n n k (adjTo p f k 0) := HP.out.ext (fun i j hi _ => by unfold adjTo; rw [if_neg (by omega)])
      have hrow : Row (w2.setCell ⟨g, k, none⟩ (.slice (some ⟨wo'.heap.size, 0, none⟩) n n)) wo'.heap.size (Mx.row n (adjTo p f k 0 k)) := by
        have h1 : Row (w2.setCell ⟨g, k, none⟩ (.slice (some ⟨wo'.heap.size, 0, none⟩) n n)) wo'.heap.size (List.replicate n 0) := (row_made hown).far (by show wo'.heap.size ≠ g; omega) _
        rw [Mx.row_rep] at h1
        rw [Mx.row_ext (g := adjTo p f k 0 k) (h := fun _ => 0) (fun j hj => by unfold adjTo; rw [if_pos rfl, if_neg (by omega)])]
        exact h1
      have HS := Lib.hid (hpe.step hlt hkp2 hrow (fun b _ => rfl))
      have HK2 := Lib.hid ((HK.out.trans hkp2).put (p := ⟨g, k, none⟩) (by show w.heap.size ≤ g; rw [HG.out]; exact Nat.le_refl _) (.slice (some ⟨wo'.heap.size, 0, none⟩) n n))
      clear hcell hfree hrow hpe hown hgrow hkp2
      generalize hGG : (fun i => if i = k then wo'.heap.size else G i) = GG at *
      clear hGG
      go_loopw [7, 8, 9, 31] (fun _ _ _ i wq => ∃ m : Nat, m ≤ n ∧ i = .int .i64 (m : Int) ∧ PartF wq g GG n n (k + 1) (adjTo p f k m) ∧ Kp w wq) (fun _ _ _ i _ => n - (intOf i).toNat)
      case atStart => exact ⟨0, Nat.zero_le _, rfl, HS.out, HK2.out⟩
      case round =>
        clear HS HK2
        obtain ⟨m, hm, rfl, hq, hkq⟩ := hrel
        by_cases hmt : m < n
        · have HQ := Lib.hid hq
          have HKQ := Lib.hid hkq
          clear hq hkq
          have M1 := Lib.hid (MI.out m k wr (HA.out.keep HKQ.out) hmt hlt)
          have hdl := (Mx.dt p (wo f m k)).isLt
          have HMV := Lib.hid (minus_val (Mx.dt p (wo f m k)))
          have HX : ∃ x : Int, x = ((Mx.adj p f k m).val : Int) := ⟨_, rfl⟩
          have hwr : IntKind.i64.wrap ((k : Int) + (m : Int)) = (k : Int) + (m : Int) := IntWalk.i64_in _ (by omega)
          have HF := Lib.hid (fun (W : World) (x : Int) (hx : x = ((Mx.adj p f k m).val : Int)) (h : PartF W g GG n n (k + 1) (adjTo p f k m)) => (show PartF (W.setCell ⟨GG k, m, none⟩ (.int .i64 x)) g GG n n (k + 1) (adjTo p f k (m + 1)) from
            (h.put (Nat.lt_succ_self k) m x).ext fun a b ha hb => by
              unfold adjTo
              by_cases h1 : a = k
              · by_cases h2 : b = m
                · rw [if_pos ⟨h1, h2⟩, if_pos h1, if_pos (by omega), hx, h1, h2]
                · rw [if_neg (fun h => h2 h.2), if_pos h1, if_pos h1]
                  by_cases h3 : b < m
                  · rw [if_pos h3, if_pos (by omega)]
                  · rw [if_neg h3, if_neg (by omega)]
              · rw [if_neg (fun h => h1 h.1), if_neg h1, if_neg h1]))
          have HAD := Lib.hid (show Mx.adj p f k m = Mx.sgn (k + m) * Mx.dt p (wo f m k) from rfl)
          have HGG := Lib.hid (show w.heap.size ≤ GG k by have := HQ.out.after k (Nat.lt_succ_self k); have := HG.out; omega)
          generalize Mx.dt p (wo f m k) = dd at *
          by_cases hpar : (k + m) % 2 = 1
          · have e1 := par_odd hpar
            have HXX := Lib.hid (show ((-dd).val : Int) = ((Mx.adj p f k m).val : Int) by rw [HAD.out, sgn_odd hpar dd])
            have hws : IntKind.i64.wrap (9973 - (dd.val : Int)) = 9973 - (dd.val : Int) := IntWalk.i64_in _ (by omega)
            clear hpar
            go_wp2_with fail
            refine (M1.out).mono ?_; rintro e w3 ⟨rfl, hk3⟩
            have HQ3 := Lib.hid (HQ.out.keep hk3)
            have HK3 := Lib.hid (HKQ.out.trans hk3)
            have x1 := HQ3.out.cellOf (Nat.lt_succ_self k) hlt
            have x2 := HQ3.out.el (Nat.lt_succ_self k) hmt
            have x3 := HQ3.out.freeOf (Nat.lt_succ_self k) m
            clear hk3
            go_wp2_with fail
            go_roundw
            case rel => exact ⟨m + 1, by omega, by go_num, HF.out _ _ (by rw [HMV.out, HXX.out]) HQ3.out, HK3.out.put (p := ⟨GG k, m, none⟩) HGG.out _⟩
            case measure => simp [intOf]; omega
          · have hpar' : (k + m) % 2 = 0 := by omega
            have e1 := par_even hpar'
            have HXX := Lib.hid (show (dd.val : Int) = ((Mx.adj p f k m).val : Int) by rw [HAD.out, ← sgn_even hpar' dd])
            clear hpar hpar'
            go_wp2_with fail
            refine (M1.out).mono ?_; rintro e w3 ⟨rfl, hk3⟩
            have HQ3 := Lib.hid (HQ.out.keep hk3)
            have HK3 := Lib.hid (HKQ.out.trans hk3)
            have x1 := HQ3.out.cellOf (Nat.lt_succ_self k) hlt
            have x2 := HQ3.out.el (Nat.lt_succ_self k) hmt
            have x3 := HQ3.out.freeOf (Nat.lt_succ_self k) m
            clear hk3
            go_wp2_with fail
            go_roundw
            case rel => exact ⟨m + 1, by omega, by go_num, HF.out _ _ HXX.out HQ3.out, HK3.out.put (p := ⟨GG k, m, none⟩) HGG.out _⟩
            case measure => simp [intOf]; omega
        · obtain rfl : m = n := by omega
          have HQ := Lib.hid hq
          have HKQ := Lib.hid hkq
          clear hq hkq
          go_wp2_with fail
          go_roundw
          case rel => exact ⟨k + 1, GG, by omega, by go_num, HQ.out.ext (fun a b ha hb => by unfold adjTo; by_cases h1 : a = k; (rw [if_pos h1, if_pos hb]); (rw [if_neg h1])), HKQ.out⟩
          case measure => simp [intOf]; omega
    · obtain rfl : k = n := by omega
      have HP := Lib.hid hp
      have HK := Lib.hid hkp
      clear hp hkp
      go_wp2_with fail
      go_ret2
      exact ⟨g, G, rfl, HP.out.done, by rw [HG.out]; exact Nat.le_refl _, HK.out⟩
theorem MAdj_ok (A : Option Addr) (f : Nat → Nat → Fp.F) (n p d : Nat) (w : World) (ha : LiesM w A (Mx.matl n n f)) (hn : n = p + 1) (hp : p ≤ 4) :
    Calls Tryd.prog 30 #[.slice A n d] w fun e w' => ∃ g, e = .returned (.tuple #[.slice (some ⟨g, 0, none⟩) n n, .nilIface]) ∧ LiesM w' (some ⟨g, 0, none⟩) (Mx.matl n n (Mx.adj p f)) ∧ Kp w w' :=
  (MAdj_grid A f n p d w ha hn hp).mono fun e w' ⟨g, G, he, hg, _, hk⟩ => ⟨g, he, hg.lies, hk⟩

end Go.Proofs.YtofdhdnffkhojaaDoor

/- Plain facts on what undoes a matrix over the field: it is one, from either side; products, the adjugate, steps of a matrix with the one beside it; a change of rank one (Sherman, Morrison). No program is named here. -/
namespace Go.Proofs.YtofdhdnffkhojaaDoor.Mx
open Fp
set_option linter.unusedVariables false

/-- t undoes f, from either side. -/
structure Unm (n : Nat) (f t : Nat → Nat → F) : Prop where
  left : Eqm n n (mul n t f) one
  right : Eqm n n (mul n f t) one
theorem Unm.symm {n : Nat} {f t : Nat → Nat → F} (h : Unm n f t) : Unm n t f := ⟨h.right, h.left⟩
theorem Unm.congr {n : Nat} {f f' t t' : Nat → Nat → F} (h : Unm n f t) (e : Eqm n n f f') (e' : Eqm n n t t') : Unm n f' t' :=
  ⟨(e'.symm.mul e.symm).trans h.left, (e.symm.mul e'.symm).trans h.right⟩
/-- What undoes from the left is what undoes from the right. -/
theorem sides {n : Nat} {f t s : Nat → Nat → F} (h : Eqm n n (mul n t f) one) (h' : Eqm n n (mul n f s) one) : Eqm n n t s := by
  have e1 : Eqm n n (mul n (mul n t f) s) s := (h.mul (Eqm.rfl' n n s)).trans (one_mul n n s)
  have e2 : Eqm n n (mul n t (mul n f s)) t := ((Eqm.rfl' n n t).mul h').trans (mul_one n n t)
  rw [mul_assoc] at e1
  exact e2.symm.trans e1
theorem Unm.one_of {n : Nat} {f t s : Nat → Nat → F} (h : Unm n f t) (h' : Unm n f s) : Eqm n n t s := sides h.left h'.right
theorem Unm.dt {n : Nat} {f t : Nat → Nat → F} (h : Unm n f t) : Mx.dt n t * Mx.dt n f = 1 := by rw [← dt_mul, dt_congr n h.left, dt_one]
theorem Unm.ne {n : Nat} {f t : Nat → Nat → F} (h : Unm n f t) : Mx.dt n f ≠ 0 := fun e => by
  have := h.dt
  rw [e] at this
  exact absurd (this.symm.trans (by grind : Mx.dt n t * 0 = 0)) (by decide)
/-- The inverse, by the adjugate. -/
def invm (p : Nat) (f : Nat → Nat → F) : Nat → Nat → F := fun i j => Fp.inv (Mx.dt (p + 1) f) * adj p f i j
theorem unm_invm (p : Nat) (f : Nat → Nat → F) (h : Mx.dt (p + 1) f ≠ 0) : Unm (p + 1) f (invm p f) := by
  have hi := inv_mul h
  refine ⟨fun i j hx hy => ?_, fun i j hx hy => ?_⟩
  · have := adj_left p f i j hx hy
    show (sg (p + 1) fun x => Fp.inv (Mx.dt (p + 1) f) * adj p f i x * f x j) = if i = j then 1 else 0
    rw [show (sg (p + 1) fun x => Fp.inv (Mx.dt (p + 1) f) * adj p f i x * f x j) = Fp.inv (Mx.dt (p + 1) f) * mul (p + 1) (adj p f) f i j from by
      show _ = Fp.inv (Mx.dt (p + 1) f) * sg (p + 1) (fun x => adj p f i x * f x j)
      rw [← sg_times]; exact sg_congr fun x _ => by grind]
    rw [this]
    show Fp.inv (Mx.dt (p + 1) f) * (if i = j then Mx.dt (p + 1) f else 0) = _
    split
    · exact hi
    · grind
  · have := adj_right p f i j hx hy
    show (sg (p + 1) fun x => f i x * (Fp.inv (Mx.dt (p + 1) f) * adj p f x j)) = if i = j then 1 else 0
    rw [show (sg (p + 1) fun x => f i x * (Fp.inv (Mx.dt (p + 1) f) * adj p f x j)) = Fp.inv (Mx.dt (p + 1) f) * mul (p + 1) f (adj p f) i j from by
      show _ = Fp.inv (Mx.dt (p + 1) f) * sg (p + 1) (fun x => f i x * adj p f x j)
      rw [← sg_times]; exact sg_congr fun x _ => by grind]
    rw [this]
    show Fp.inv (Mx.dt (p + 1) f) * (if i = j then Mx.dt (p + 1) f else 0) = _
    split
    · exact hi
    · grind
theorem unm_some {n : Nat} {f : Nat → Nat → F} (h : Mx.dt n f ≠ 0) : ∃ t, Unm n f t := by
  cases n with
  | zero => exact ⟨one, fun i j hi => absurd hi (by omega), fun i j hi => absurd hi (by omega)⟩
  | succ p => exact ⟨_, unm_invm p f h⟩
/-- From the left is enough. -/
theorem unm_left {n : Nat} {f t : Nat → Nat → F} (h : Eqm n n (mul n t f) one) : Unm n f t := by
  have hne : Mx.dt n f ≠ 0 := fun e => by
    have h1 : Mx.dt n t * Mx.dt n f = 1 := by rw [← dt_mul, dt_congr n h, dt_one]
    rw [e] at h1
    exact absurd (h1.symm.trans (by grind : Mx.dt n t * 0 = 0)) (by decide)
  obtain ⟨s, hs⟩ := unm_some hne
  exact hs.congr (Eqm.rfl' n n f) (sides h hs.right).symm
theorem Unm.mul {n : Nat} {f g t s : Nat → Nat → F} (h : Unm n f t) (h' : Unm n g s) : Unm n (Mx.mul n f g) (Mx.mul n s t) := by
  refine unm_left ?_
  have e1 : Mx.mul n (Mx.mul n s t) (Mx.mul n f g) = Mx.mul n s (Mx.mul n (Mx.mul n t f) g) := by rw [mul_assoc, mul_assoc]
  rw [e1]
  exact ((Eqm.rfl' n n s).mul ((h.left.mul (Eqm.rfl' n n g)).trans (one_mul n n g))).trans h'.left

/-- With another matrix beside it. -/
def beside (n : Nat) (f g : Nat → Nat → F) : Nat → Nat → F := fun i j => if j < n then f i j else g i (j - n)
theorem beside_left {n : Nat} (f g : Nat → Nat → F) {i j : Nat} (h : j < n) : beside n f g i j = f i j := if_pos h
theorem beside_right (n : Nat) (f g : Nat → Nat → F) (i j : Nat) : beside n f g i (n + j) = g i j := by
  unfold beside
  rw [if_neg (by omega), Nat.add_sub_cancel_left]
/-- In steps as far as the first half goes, with the one beside it: the second half undoes. -/
theorem unm_steps {n : Nat} {b : List Nat} {f g : Nat → Nat → F} (hs : Steps n n b g) (hr : Req n (n + n) (beside n f one) g) (hd : Mx.dt n f ≠ 0) : b.length = n ∧ Unm n f fun i j => g i (n + j) := by
  have hr1 : Req n n f g := by
    obtain ⟨⟨s, h1⟩, ⟨t, h2⟩⟩ := hr
    refine ⟨⟨s, fun i j hi hj => ?_⟩, ⟨t, fun i j hi hj => ?_⟩⟩
    · rw [← beside_left f one hj]
      exact h1 i j hi (by omega)
    · rw [h2 i j hi (by omega)]
      exact sg_congr fun x _ => by rw [beside_left f one hj]
  have hl : b.length = n := by
    apply Classical.byContradiction
    intro hne
    obtain ⟨y, k, hk, hy, hz⟩ := hs.null hr1 (by have := hs.le; omega)
    exact hd (dt_null hk hy hz)
  obtain ⟨_, ⟨t, h2⟩⟩ := hr
  refine ⟨hl, unm_left ?_⟩
  have ht : Eqm n n (fun i j => g i (n + j)) t := fun i j hi hj => by
    show g i (n + j) = t i j
    rw [h2 i (n + j) hi (by omega)]
    show (sg n fun x => t i x * beside n f one x (n + j)) = t i j
    rw [sg_congr (g := fun x => t i x * one x j) fun x _ => by rw [beside_right]]
    exact mul_one n n t i j hi hj
  have hf : Eqm n n (Mx.mul n t f) g := fun i j hi hj => by
    rw [h2 i j hi (by omega)]
    exact sg_congr fun x _ => by rw [beside_left f one hj]
  exact ((ht.mul (Eqm.rfl' n n f)).trans hf).trans (hs.full hl)
/-- Fewer steps than rows: nothing undoes it. -/
theorem short_steps {n c : Nat} {b : List Nat} {f g : Nat → Nat → F} (hs : Steps n n b g) (hr : Req n (n + c) (beside n f one) g) (hl : b.length ≠ n) : Mx.dt n f = 0 := by
  have hr1 : Req n n f g := by
    obtain ⟨⟨s, h1⟩, ⟨t, h2⟩⟩ := hr
    refine ⟨⟨s, fun i j hi hj => ?_⟩, ⟨t, fun i j hi hj => ?_⟩⟩
    · rw [← beside_left f one hj]
      exact h1 i j hi (by omega)
    · rw [h2 i j hi (by omega)]
      exact sg_congr fun x _ => by rw [beside_left f one hj]
  obtain ⟨y, k, hk, hy, hz⟩ := hs.null hr1 (by have := hs.le; omega)
  exact dt_null hk hy hz

/-- The products of a column and a row. -/
def outer (u v : Nat → F) : Nat → Nat → F := fun i j => u i * v j
/-- The one and such products in the first k columns. -/
def bend (k : Nat) (a v : Nat → F) : Nat → Nat → F := fun i j => if j < k then one i j + a i * v j else one i j
theorem bend_step (n k : Nat) (a v : Nat → F) : bend (k + 1) a v = setc k (fun i => one i k + v k * a i) (bend k a v) := by
  funext i j
  show (if j < k + 1 then one i j + a i * v j else one i j) = if j = k then one i k + v k * a i else if j < k then one i j + a i * v j else one i j
  rcases Nat.lt_trichotomy j k with h | h | h
  · rw [if_pos (by omega), if_neg (by omega), if_pos h]
  · rw [if_pos (by omega), if_pos h, h]; grind
  · rw [if_neg (by omega), if_neg (by omega), if_neg (by omega)]
theorem bend_same (k : Nat) (a v : Nat → F) : setc k (fun i => one i k) (bend k a v) = bend k a v := by
  have := setc_self k (bend k a v)
  rw [show (fun i => bend k a v i k) = fun i => one i k from funext fun i => by unfold bend; rw [if_neg (Nat.lt_irrefl k)]] at this
  exact this
/-- With the column itself in the place of column t. -/
theorem bend_put (n t : Nat) (a v : Nat → F) (ht : t < n) : ∀ k, k ≤ t → Mx.dt n (setc t a (bend k a v)) = a t
  | 0, _ => by
    rw [show bend 0 a v = one from funext fun i => funext fun j => if_neg (Nat.not_lt_zero j)]
    have h := cramer n t one a ht
    rw [dt_one] at h
    rw [show Mx.dt n (setc t a one) = Mx.dt n (setc t (fun i => sg n fun x => one i x * a x) one) from dt_congr n fun i j hi hj => by
      show (if j = t then a i else one i j) = if j = t then sg n (fun x => one i x * a x) else one i j
      split
      · show a i = sg n fun x => (if i = x then (1 : F) else 0) * a x
        rw [sg_one hi fun x _ hne => by rw [if_neg fun e => hne e.symm]; grind]
        rw [if_pos rfl]; grind
      · rfl]
    rw [h]; grind
  | k + 1, hk => by
    have ih := bend_put n t a v ht k (by omega)
    have hlin := dt_lin n k (by omega) 1 (v k) (fun i => one i k) a (setc t a (bend k a v))
    rw [bend_step n, setc_comm (show t ≠ k by omega)]
    rw [show (fun i => one i k + v k * a i) = fun i => 1 * one i k + v k * a i from funext fun i => by grind, hlin]
    rw [dt_equal (show k < n by omega) ht (by omega) a (bend k a v), setc_comm (show k ≠ t by omega), bend_same, ih]
    grind
theorem dt_bend (n : Nat) (a v : Nat → F) : ∀ k, k ≤ n → Mx.dt n (bend k a v) = 1 + sg k fun t => v t * a t
  | 0, _ => by
    rw [show bend 0 a v = one from funext fun i => funext fun j => if_neg (Nat.not_lt_zero j), dt_one, sg_zero]; grind
  | k + 1, hk => by
    have ih := dt_bend n a v k (by omega)
    have hlin := dt_lin n k (by omega) 1 (v k) (fun i => one i k) a (bend k a v)
    rw [bend_step n, show (fun i => one i k + v k * a i) = fun i => 1 * one i k + v k * a i from funext fun i => by grind, hlin, bend_same, ih,
      bend_put n k a v (by omega) k (Nat.le_refl k), sg_succ]
    grind

/-- A column and a row taken by a matrix. -/
def colv (n : Nat) (t : Nat → Nat → F) (u : Nat → F) : Nat → F := fun i => sg n fun j => t i j * u j
def rowv (n : Nat) (v : Nat → F) (t : Nat → Nat → F) : Nat → F := fun j => sg n fun i => v i * t i j
/-- What a change comes to. -/
def bent (n : Nat) (t : Nat → Nat → F) (u v : Nat → F) : F := 1 + sg n fun i => v i * colv n t u i
theorem colv_mul (n : Nat) (f t : Nat → Nat → F) (u : Nat → F) : colv n f (colv n t u) = colv n (mul n f t) u := by
  funext i
  show (sg n fun x => f i x * sg n fun j => t x j * u j) = sg n fun j => (sg n fun x => f i x * t x j) * u j
  rw [show (fun x => f i x * sg n fun j => t x j * u j) = fun x => sg n fun j => f i x * t x j * u j from funext fun x => by
    rw [← sg_times]; exact sg_congr fun j _ => by grind, sg_swap]
  exact sg_congr fun j _ => by rw [← sg_by]
theorem colv_one (n : Nat) (u : Nat → F) {i : Nat} (hi : i < n) : colv n one u i = u i := by
  show (sg n fun j => (if i = j then (1 : F) else 0) * u j) = u i
  rw [sg_one hi fun x _ hne => by rw [if_neg fun e => hne e.symm]; grind]
  rw [if_pos rfl]; grind
theorem mul_outer (n : Nat) (f : Nat → Nat → F) (u v : Nat → F) : mul n f (outer u v) = outer (colv n f u) v := by
  funext i j
  show (sg n fun x => f i x * (u x * v j)) = (sg n fun x => f i x * u x) * v j
  rw [← sg_by]
  exact sg_congr fun x _ => by grind
theorem outer_mul (n : Nat) (f : Nat → Nat → F) (u v : Nat → F) : mul n (outer u v) f = outer u (rowv n v f) := by
  funext i j
  show (sg n fun x => u i * v x * f x j) = u i * sg n fun x => v x * f x j
  rw [← sg_times]
  exact sg_congr fun x _ => by grind
/-- The determinant of a matrix with such products added. -/
theorem dt_bent {n : Nat} {f t : Nat → Nat → F} (h : Unm n f t) (u v : Nat → F) : Mx.dt n (plus f (outer u v)) = Mx.dt n f * bent n t u v := by
  have e : Eqm n n (plus f (outer u v)) (mul n f (bend n (colv n t u) v)) := fun i j hi hj => by
    have e1 : (mul n f (bend n (colv n t u) v)) i j = plus (mul n f one) (mul n f (outer (colv n t u) v)) i j := by
      rw [← mul_plus]
      exact sg_congr fun x _ => by
        show f i x * (if j < n then one x j + colv n t u x * v j else one x j) = f i x * (one x j + colv n t u x * v j)
        rw [if_pos hj]
    rw [e1]
    show f i j + u i * v j = mul n f one i j + mul n f (outer (colv n t u) v) i j
    rw [mul_one n n f i j hi hj, mul_outer, colv_mul]
    show _ = f i j + colv n (mul n f t) u i * v j
    have e2 : colv n (mul n f t) u i = colv n one u i := sg_congr fun x hx => by rw [h.right i x hi hx]
    rw [e2, colv_one n u hi]
  rw [dt_congr n e, dt_mul, dt_bend n _ _ n (Nat.le_refl n)]
  rfl
/-- Sherman and Morrison: what undoes it. -/
def shm (n : Nat) (t : Nat → Nat → F) (u v : Nat → F) : Nat → Nat → F := fun i j => t i j - colv n t u i * rowv n v t j * Fp.inv (bent n t u v)
theorem unm_bent {n : Nat} {f t : Nat → Nat → F} (h : Unm n f t) (u v : Nat → F) (hk : bent n t u v ≠ 0) : Unm n (plus f (outer u v)) (shm n t u v) := by
  refine (unm_left (n := n) (f := shm n t u v) (t := plus f (outer u v)) fun i j hi hj => ?_).symm
  obtain ⟨c, hc⟩ : ∃ c, c = Fp.inv (bent n t u v) := ⟨_, rfl⟩
  have hci : c * bent n t u v = 1 := by rw [hc]; exact inv_mul hk
  have e0 : shm n t u v = plus t (outer (fun i => -c * colv n t u i) (rowv n v t)) := by
    funext a b
    show t a b - colv n t u a * rowv n v t b * Fp.inv (bent n t u v) = t a b + -c * colv n t u a * rowv n v t b
    rw [← hc]; grind
  rw [e0, plus_mul, mul_plus, mul_plus, mul_outer, outer_mul, outer_mul]
  show mul n f t i j + colv n f (fun i => -c * colv n t u i) i * rowv n v t j + (u i * rowv n v t j + u i * rowv n v (outer (fun i => -c * colv n t u i) (rowv n v t)) j) = one i j
  have e1 : colv n f (fun i => -c * colv n t u i) i = -c * u i := by
    show (sg n fun x => f i x * (-c * colv n t u x)) = _
    rw [show (fun x => f i x * (-c * colv n t u x)) = fun x => -c * (f i x * colv n t u x) from funext fun x => by grind, sg_times]
    have e2 : (sg n fun x => f i x * colv n t u x) = colv n (mul n f t) u i := congrFun (colv_mul n f t u) i
    have e3 : colv n (mul n f t) u i = colv n one u i := sg_congr fun x hx => by rw [h.right i x hi hx]
    rw [e2, e3, colv_one n u hi]
  have e4 : rowv n v (outer (fun i => -c * colv n t u i) (rowv n v t)) j = -c * (bent n t u v - 1) * rowv n v t j := by
    show (sg n fun x => v x * (-c * colv n t u x * rowv n v t j)) = _
    rw [show (fun x => v x * (-c * colv n t u x * rowv n v t j)) = fun x => (-c * rowv n v t j) * (v x * colv n t u x) from funext fun x => by grind, sg_times]
    have e5 : bent n t u v - 1 = sg n fun x => v x * colv n t u x := by unfold bent; grind
    rw [e5]; grind
  rw [h.right i j hi hj, e1, e4]
  generalize bent n t u v = k at *
  grind

end Go.Proofs.YtofdhdnffkhojaaDoor.Mx

/- Contracts of package euclid: Gcd and Bezout within and outside of their bounds. -/
namespace Go.Proofs.YtofdhdnffkhojaaDoor
open Go.ChangeShapes Go.WideShapes Go.ChangeAt Go.RowKit
set_option linter.unusedVariables false

/-- The error that the program gives for a number out of its range. -/
abbrev errRange : Value := .iface 53 (.int .i64 1)

set_option maxHeartbeats 800000 in
theorem gcd_in (a b : Int) (w : World) (h1 : -1000000 ≤ a) (h2 : a ≤ 1000000) (h3 : -1000000 ≤ b) (h4 : b ≤ 1000000) :
    Calls Tryd.prog 67 #[.int .i64 a, .int .i64 b] w fun e w' => e = .returned (.tuple #[.int .i64 (Int.gcd a b : Int), .nilIface]) ∧ Drew w w' := by
  go_enter Tryd.func67, Tryd.ntmps67
  go_wp2_with (first
    | (go_at_call 83; refine (allowed_yes _ _ (by omega) (by omega)).mono ?_; rintro e w' ⟨rfl, rfl⟩)
    | (go_at_call 71; refine (size_any _ _ (by omega) (by omega)).mono ?_; rintro e w' ⟨rfl, rfl⟩)
    | (go_at_call 84; refine (divisor_any _ _ _ (by omega) (by omega)).mono ?_; rintro e w' ⟨rfl, hd⟩))
  go_ret2
  exact ⟨rfl, hd⟩

set_option maxHeartbeats 800000 in
theorem gcd_out (a b : Int) (w : World) (h : ¬ (-1000000 ≤ a ∧ a ≤ 1000000 ∧ -1000000 ≤ b ∧ b ≤ 1000000)) :
    Calls Tryd.prog 67 #[.int .i64 a, .int .i64 b] w fun e w' => e = .returned (.tuple #[.int .i64 0, errRange]) ∧ Drew w w' := by
  by_cases ha : -1000000 ≤ a ∧ a ≤ 1000000
  · have hb : b < -1000000 ∨ 1000000 < b := by omega
    have H := Lib.hid hb
    clear h hb
    go_enter Tryd.func67, Tryd.ntmps67
    go_wp2_with fail
    refine (allowed_yes _ _ (by omega) (by omega)).mono ?_; rintro e w' ⟨rfl, rfl⟩
    go_wp2_with fail
    refine (allowed_no _ _ H.out).mono ?_; rintro e w' ⟨rfl, rfl⟩
    go_wp2_with fail
    go_ret2
    exact ⟨rfl, Drew.refl _⟩
  · have hb : a < -1000000 ∨ 1000000 < a := by omega
    have H := Lib.hid hb
    clear h hb ha
    go_enter Tryd.func67, Tryd.ntmps67
    go_wp2_with fail
    refine (allowed_no _ _ H.out).mono ?_; rintro e w' ⟨rfl, rfl⟩
    go_wp2_with fail
    go_ret2
    exact ⟨rfl, Drew.refl _⟩

/-- Bezout's answer: some x and y that are Bezout's numbers. -/
def SomeBez (a b : Int) (w : World) (e : Ending) (w' : World) : Prop :=
  ∃ x y : Int, Num.BezOk a b x y ∧ e = .returned (.tuple #[.int .i64 (Int.gcd a b : Int), .int .i64 x, .int .i64 y, .nilIface]) ∧ Drew w w'

set_option maxHeartbeats 800000 in
theorem bezout_out (a b : Int) (w : World) (h : ¬ (-1000000 ≤ a ∧ a ≤ 1000000 ∧ -1000000 ≤ b ∧ b ≤ 1000000)) :
    Calls Tryd.prog 53 #[.int .i64 a, .int .i64 b] w fun e w' => e = .returned (.tuple #[.int .i64 0, .int .i64 0, .int .i64 0, errRange]) ∧ Drew w w' := by
  have H := Lib.hid h
  clear h
  go_enter Tryd.func53, Tryd.ntmps53
  go_wp2_with fail
  refine (gcd_out _ _ _ H.out).mono ?_; rintro e w' ⟨rfl, hd⟩
  go_wp2_with fail
  refine bodyPost_ret (v := .tuple #[.int .i64 0, .int .i64 0, .int .i64 0, errRange]) (by simp [results, Tryd.results53, go_sem]) rfl ⟨rfl, hd⟩

set_option maxHeartbeats 800000 in
theorem bezout_zero (a : Int) (w : World) (h1 : -1000000 ≤ a) (h2 : a ≤ 1000000) :
    Calls Tryd.prog 53 #[.int .i64 a, .int .i64 0] w fun e w' => SomeBez a 0 w e w' := by
  go_enter Tryd.func53, Tryd.ntmps53
  go_wp2_with fail
  refine (gcd_in _ _ _ (by omega) (by omega) (by omega) (by omega)).mono ?_; rintro e w' ⟨rfl, hd⟩
  go_wp2_with fail
  refine (sign_any _ _).mono ?_; rintro e w'' ⟨rfl, rfl⟩
  go_wp2_with fail
  refine bodyPost_ret (v := .tuple #[.int .i64 (Int.gcd a 0 : Int), .int .i64 a.sign, .int .i64 0, .nilIface]) (by simp [results, Tryd.results53, go_sem]) rfl ⟨_, _, Num.bez_zero a, rfl, hd⟩

set_option maxHeartbeats 1600000 in
theorem bezout_in (a b : Int) (w : World) (h1 : -1000000 ≤ a) (h2 : a ≤ 1000000) (h3 : -1000000 ≤ b) (h4 : b ≤ 1000000) (h0 : b ≠ 0) :
    Calls Tryd.prog 53 #[.int .i64 a, .int .i64 b] w fun e w' => SomeBez a b w e w' := by
  have hne : (b == 0) = false := by rw [beq_eq_false_iff_ne]; exact h0
  have hgp := Num.gcd_pos a b h0
  have hgs := Num.gcd_small a b h0
  have hgd : Int.gcd a b ∣ b.natAbs := by rw [Int.gcd_eq_natAbs_gcd_natAbs]; exact Nat.gcd_dvd_right _ _
  have hms := Num.div_small b _ hgp hgd h0 h3 h4
  clear hgd
  go_enter Tryd.func53, Tryd.ntmps53
  go_wp2_with fail
  refine (gcd_in _ _ _ (by omega) (by omega) (by omega) (by omega)).mono ?_; rintro e w' ⟨rfl, hd⟩
  go_wp2_with fail
  refine (factor_any _ _ _ (by omega) (by omega) (by omega) (by omega) h0).mono ?_
  rintro e w1 ⟨x0, hx0, rfl, hd1⟩
  go_wp2_with fail
  refine (size_any _ _ (by omega) (by omega)).mono ?_; rintro e w'' ⟨rfl, rfl⟩
  go_wp2_with fail
  have hxb := hx0.2
  refine (residue_any _ _ _ (by omega) (by omega) (by omega) (by omega)).mono ?_; rintro e w'' ⟨rfl, rfl⟩
  have y0 := Int.emod_nonneg x0 (show (b.natAbs : Int) / (Int.gcd a b : Int) ≠ 0 by omega)
  have y1 := Int.emod_lt_of_pos x0 (show 0 < (b.natAbs : Int) / (Int.gcd a b : Int) by omega)
  generalize hx : x0 % ((b.natAbs : Int) / (Int.gcd a b : Int)) = x at *
  have HX := Lib.hid hx
  have HB := Lib.hid (Num.bez_of a b x0 h0 hx0)
  obtain ⟨s1, s2⟩ := Num.bez_small a b x (Int.gcd a b) h1 h2 (by omega) y0 (by omega)
  clear hx hxb hx0
  go_wp2_with fail
  go_quiet (fail)
  go_wp2_with fail
  refine bodyPost_ret (v := .tuple #[.int .i64 (Int.gcd a b : Int), .int .i64 x, .int .i64 (((Int.gcd a b : Int) - a * x).tdiv b), .nilIface]) (by simp [results, Tryd.results53, go_sem]) rfl ⟨x, _, HB.out x _ (by rw [← HX.out]; simp) rfl, rfl, (hd.trans hd1).more _⟩

theorem bezout_any (a b : Int) (w : World) (h1 : -1000000 ≤ a) (h2 : a ≤ 1000000) (h3 : -1000000 ≤ b) (h4 : b ≤ 1000000) :
    Calls Tryd.prog 53 #[.int .i64 a, .int .i64 b] w fun e w' => SomeBez a b w e w' := by
  by_cases h : b = 0
  · subst h; exact bezout_zero a w h1 h2
  · exact bezout_in a b w h1 h2 h3 h4 h

end Go.Proofs.YtofdhdnffkhojaaDoor

/- Contracts of package field: element, times, Add, Mul, Div, Pow, within and outside of their bounds. -/
namespace Go.Proofs.YtofdhdnffkhojaaDoor
open Go.ChangeShapes Go.WideShapes Go.ChangeAt Go.RowKit
set_option linter.unusedVariables false

/-- The error that the program gives where there is none. -/
abbrev errNone : Value := .iface 53 (.int .i64 5)

/-- An element of the field as the program has it. -/
abbrev el (a : Fp.F) : Value := .int .i64 (a.val : Int)

theorem element_any (n : Int) (w : World) (b : Bool) (hb : (decide (0 ≤ n) && decide (n ≤ 9972)) = b) :
    Calls Tryd.prog 52 #[.int .i64 n] w fun e w' => e = .returned (.bool b) ∧ w = w' := by
  have H := Lib.hid hb
  clear hb
  by_cases h1 : 0 ≤ n
  · go_enter Tryd.func52, Tryd.ntmps52
    go_wp2
    go_ret
    exact ⟨ret_bool (by rw [← H.out, decide_eq_true h1, Bool.true_and]; exact decide_eq_decide.2 (by omega)), rfl⟩
  · go_enter Tryd.func52, Tryd.ntmps52
    go_wp2
    go_ret
    exact ⟨ret_bool (by rw [← H.out, decide_eq_false (show ¬ 0 ≤ n by omega), Bool.false_and]), rfl⟩

theorem element_el (a : Fp.F) (w : World) :
    Calls Tryd.prog 52 #[el a] w fun e w' => e = .returned (.bool true) ∧ w = w' :=
  element_any _ w true (by have := Fp.val_bound a; simp; omega)

theorem prod_bound (a b : Fp.F) : 0 ≤ (a.val : Int) * (b.val : Int) ∧ (a.val : Int) * (b.val : Int) ≤ 99440784 := by
  have h1 := Fp.val_bound a
  have h2 := Fp.val_bound b
  have := Int.mul_le_mul h1.2 h2.2 h2.1 (by omega)
  exact ⟨Int.mul_nonneg h1.1 h2.1, by omega⟩

theorem times_el (a b : Fp.F) (w : World) :
    Calls Tryd.prog 54 #[el a, el b] w fun e w' => e = .returned (el (a * b)) ∧ w = w' := by
  have E := Lib.hid (Fp.mul_val a b)
  obtain ⟨p1, p2⟩ := prod_bound a b
  have h1 := Fp.val_bound a
  have h2 := Fp.val_bound b
  unfold el
  generalize (a.val : Int) = x at *
  generalize (b.val : Int) = y at *
  go_enter Tryd.func54, Tryd.ntmps54
  go_wp2
  go_ret
  exact ⟨ret_int (by rw [E.out]), rfl⟩

/-- Both are elements, or one is none. -/
abbrev Both (a b : Int) : Prop := (0 ≤ a ∧ a ≤ 9972) ∧ (0 ≤ b ∧ b ≤ 9972)



theorem inv_unique {b x : Fp.F} (hb : b ≠ 0) (h : x * b = 1) : x = Fp.inv b := by
  have h2 := Fp.inv_mul hb
  generalize Fp.inv b = i at *
  exact Fp.mul_cancel hb (h.trans h2.symm)

/-- Bezout's number of an element and the prime is what undoes the element. -/
theorem bez_inv (b : Fp.F) (hb : b ≠ 0) (x y : Int) (h : Num.BezOk (b.val : Int) 9973 x y) : x = ((Fp.inv b).val : Int) := by
  obtain ⟨e, k, _⟩ := h
  have hg : Int.gcd (b.val : Int) 9973 = 1 := Fp.coprime b.val (Fp.ne_val hb) b.isLt
  have k := k (by decide)
  rw [hg] at e k
  have k2 : x < 9973 := by
    have : (((9973 : Int).natAbs / 1 : Nat) : Int) = 9973 := rfl
    omega
  have hx := Fp.ofInt_of x (by omega) (by omega)
  have hm : Fp.ofInt x * b = 1 := by
    refine Fp.val_inj ?_
    rw [Fp.mul_val, hx]
    have : (((1 : Fp.F).val : Nat) : Int) = 1 := rfl
    rw [this, Int.mul_comm]
    omega
  rw [← hx, inv_unique hb hm]

theorem div_el (a b : Fp.F) (w : World) (hb : b ≠ 0) :
    Calls Tryd.prog 29 #[el a, el b] w fun e w' => e = .returned (.tuple #[el (a * Fp.inv b), .nilIface]) ∧ Drew w w' := by
  have H1 := Lib.hid (element_el a)
  have H2 := Lib.hid (element_el b)
  have H3 := Lib.hid (times_el a (Fp.inv b))
  have hv := Fp.ne_val hb
  have h0 : (b.val : Int) ≠ 0 := by omega
  have hl := Fp.val_bound b
  have hne : ((b.val : Int) == 0) = false := by rw [beq_eq_false_iff_ne]; exact h0
  have HB := Lib.hid (bez_inv b hb)
  have HG := Lib.hid (show Int.gcd (b.val : Int) 9973 = 1 from Fp.coprime b.val hv b.isLt)
  clear hv
  unfold el at *
  generalize ((a * Fp.inv b).val : Int) = z at *
  generalize ((Fp.inv b).val : Int) = i at *
  generalize (a.val : Int) = x at *
  generalize (b.val : Int) = y at *
  go_enter Tryd.func29, Tryd.ntmps29
  go_wp2_with fail
  refine (H1.out _).mono ?_; rintro e w' ⟨rfl, rfl⟩
  go_wp2_with fail
  refine (H2.out _).mono ?_; rintro e w' ⟨rfl, rfl⟩
  go_wp2_with fail
  refine (bezout_any _ _ _ (by omega) (by omega) (by omega) (by omega)).mono ?_
  rintro e w1 ⟨x', y', hxy, rfl, hd⟩
  obtain rfl := HB.out _ _ hxy
  clear hxy
  go_wp2_with fail
  refine (H3.out _).mono ?_; rintro e w' ⟨rfl, rfl⟩
  go_wp2_with fail
  go_ret2
  exact ⟨rfl, hd⟩

theorem div_zero (a : Fp.F) (w : World) :
    Calls Tryd.prog 29 #[el a, .int .i64 0] w fun e w' => e = .returned (.tuple #[.int .i64 0, errNone]) ∧ w = w' := by
  have H1 := Lib.hid (element_el a)
  unfold el at *
  generalize (a.val : Int) = x at *
  go_enter Tryd.func29, Tryd.ntmps29
  go_wp2_with fail
  refine (H1.out _).mono ?_; rintro e w' ⟨rfl, rfl⟩
  go_wp2_with fail
  refine (element_any 0 _ true (by decide)).mono ?_; rintro e w' ⟨rfl, rfl⟩
  go_wp2_with fail
  go_ret2
  exact ⟨rfl, rfl⟩

theorem div_out (a b : Int) (w : World) (h : ¬ Both a b) :
    Calls Tryd.prog 29 #[.int .i64 a, .int .i64 b] w fun e w' => e = .returned (.tuple #[.int .i64 0, errRange]) ∧ w = w' := by
  by_cases ha : 0 ≤ a ∧ a ≤ 9972
  · have HA := Lib.hid (show (decide (0 ≤ a) && decide (a ≤ 9972)) = true by simp; omega)
    have HB := Lib.hid (show (decide (0 ≤ b) && decide (b ≤ 9972)) = false by simp; omega)
    clear h ha
    go_enter Tryd.func29, Tryd.ntmps29
    go_wp2_with fail
    refine (element_any _ _ _ HA.out).mono ?_; rintro e w' ⟨rfl, rfl⟩
    go_wp2_with fail
    refine (element_any _ _ _ HB.out).mono ?_; rintro e w' ⟨rfl, rfl⟩
    go_wp2_with fail
    go_ret2
    exact ⟨rfl, rfl⟩
  · have HA := Lib.hid (show (decide (0 ≤ a) && decide (a ≤ 9972)) = false by simp; omega)
    clear h ha
    go_enter Tryd.func29, Tryd.ntmps29
    go_wp2_with fail
    refine (element_any _ _ _ HA.out).mono ?_; rintro e w' ⟨rfl, rfl⟩
    go_wp2_with fail
    go_ret2
    exact ⟨rfl, rfl⟩


end Go.Proofs.YtofdhdnffkhojaaDoor

/- Contract of package inv's Of. -/
namespace Go.Proofs.YtofdhdnffkhojaaDoor
open Go.ChangeShapes Go.WideShapes Go.ChangeAt Go.RowKit Go.Shelf
set_option linter.unusedVariables false
attribute [local go_sem] Oper.semAt_some

/-- A matrix whose places are turned one behind the other, by op. -/
def turns (n : Nat) (op : Nat → Nat → Fp.F → Fp.F) (f : Nat → Nat → Fp.F) (l : List Nat) : Nat → Nat → Fp.F :=
  l.foldl (fun h k => fun a b => if a = rowOf n n k ∧ b = colOf n k then op a b (h a b) else h a b) f
theorem turns_snoc (n : Nat) (op : Nat → Nat → Fp.F → Fp.F) (f : Nat → Nat → Fp.F) (l : List Nat) (k a b : Nat) :
    turns n op f (l ++ [k]) a b = if a = rowOf n n k ∧ b = colOf n k then op a b (turns n op f l a b) else turns n op f l a b := by
  unfold turns
  rw [List.foldl_append]
  rfl
theorem turns_range (n : Nat) (op : Nat → Nat → Fp.F → Fp.F) (f : Nat → Nat → Fp.F) (a b : Nat) (hb : b < n) : ∀ m, m ≤ n * n → turns n op f (List.range m) a b = if a * n + b < m then op a b (f a b) else f a b
  | 0, _ => by rw [if_neg (Nat.not_lt_zero _)]; rfl
  | m + 1, hm => by
    have ih := turns_range n op f a b hb m (by omega)
    have hp := Mx.place (k := m) (a := a) hm hb
    rw [List.range_succ, turns_snoc, ih]
    unfold rowOf colOf
    by_cases h : a * n + b = m
    · rw [if_pos (hp.2 h.symm), if_neg (by omega), if_pos (by omega)]
    · rw [if_neg (fun h' => h (hp.1 h').symm)]
      by_cases h2 : a * n + b < m
      · rw [if_pos h2, if_pos (by omega)]
      · rw [if_neg h2, if_neg (by omega)]
theorem turns_all (n : Nat) (op : Nat → Nat → Fp.F → Fp.F) (f : Nat → Nat → Fp.F) : Mx.Eqm n n (turns n op f (List.range (n * n))) (fun a b => op a b (f a b)) := fun a b ha hb => by
  rw [turns_range n op f a b hb _ (Nat.le_refl _), if_pos (Mx.place_lt ha hb)]

set_option maxRecDepth 100000 in
set_option maxHeartbeats 1600000 in
theorem IOf_bad (A : Option Addr) (m : List (List Int)) (n d : Nat) (w : World) (ha : LiesM w A m) (hn : m.length = n) (h : qcode 5 0 9972 m ≠ 0) :
    Calls Tryd.prog 11 #[.slice A n d] w fun e w' => e = .returned (.tuple #[.slice none 0 0, errOf (qcode 5 0 9972 m)]) ∧ Kp w w' := by
  have CK := Lib.hid (Of_bad A m n d w ha hn h)
  rw [errOf_ne _ h] at CK ⊢
  generalize qcode 5 0 9972 m = z at *
  clear ha hn h
  go_enter Tryd.func11, Tryd.ntmps11
  go_wp2_with fail
  refine (CK.out).mono ?_; rintro e w' ⟨rfl, hk⟩
  have HK := Lib.hid hk
  clear hk
  go_wp2_with fail
  go_ret2
  exact ⟨rfl, HK.out⟩

set_option maxRecDepth 100000 in
set_option maxHeartbeats 1600000 in
theorem IOf_none (A : Option Addr) (f : Nat → Nat → Fp.F) (n d : Nat) (w : World) (ha : LiesM w A (Mx.matl n n f)) (h0 : 0 < n) (hn : n ≤ 5) (hd : Mx.dt n f = 0) :
    Calls Tryd.prog 11 #[.slice A n d] w fun e w' => e = .returned (.tuple #[.slice none 0 0, errOf 5]) ∧ Kp w w' := by
  have CK := Lib.hid (Of_ok A f n d w ha h0 hn)
  rw [hd, show (((0 : Fp.F).val : Nat) : Int) = 0 from rfl] at CK
  have DV := Lib.hid (fun w => div_zero 1 w)
  clear ha h0 hn hd
  go_enter Tryd.func11, Tryd.ntmps11
  go_wp2_with fail
  refine (CK.out).mono ?_; rintro e w1 ⟨rfl, hk⟩
  have HK := Lib.hid hk
  clear hk
  go_wp2_with fail
  refine (DV.out _).mono ?_; rintro e w2 ⟨rfl, rfl⟩
  have HK2 := Lib.hid (HK.out.new (.cells #[.int .i64 0] 3))
  go_wp2_with fail
  go_ret2
  exact ⟨rfl, HK2.out⟩

set_option maxRecDepth 100000 in
set_option maxHeartbeats 1600000 in
theorem IOf_ok (A : Option Addr) (f : Nat → Nat → Fp.F) (n p d : Nat) (w : World) (ha : LiesM w A (Mx.matl n n f)) (hn : n = p + 1) (hp : p ≤ 4) (hd : Mx.dt n f ≠ 0) :
    Calls Tryd.prog 11 #[.slice A n d] w fun e w' => ∃ g, e = .returned (.tuple #[.slice (some ⟨g, 0, none⟩) n n, .nilIface]) ∧ LiesM w' (some ⟨g, 0, none⟩) (Mx.matl n n (Mx.invm p f)) ∧ Kp w w' := by
  have CK := Lib.hid (Of_ok A f n d w ha (by omega) (by omega))
  have DV := Lib.hid (fun w => div_el 1 (Mx.dt n f) w hd)
  have HA := Lib.hid ha
  have AD := Lib.hid (fun w (h : LiesM w A (Mx.matl n n f)) => MAdj_grid A f n p d w h hn hp)
  obtain ⟨x, hx⟩ : ∃ x, x = (1 : Fp.F) * Fp.inv (Mx.dt n f) := ⟨_, rfl⟩
  rw [← hx] at DV
  have HX := Lib.hid (show ∀ a b, Mx.adj p f a b * x = Mx.invm p f a b from fun a b => by rw [hx, hn]; show _ = Fp.inv (Mx.dt (p + 1) f) * Mx.adj p f a b; grind)
  have hn0 : 0 < n := by omega
  have hn5 : n ≤ 5 := by omega
  generalize Mx.dt n f = dd at *
  clear ha hn hp hd hx
  refine callsIn_wide.1 (callsIn_of_wp_marks (F := Fence.wide) (n := 9) Tryd.func11 rfl trivial ?_ rfl)
  simp only [Tryd.ntmps11, List.size_toArray, List.length_cons, List.length_nil, Nat.reduceAdd, Nat.reduceSub, Array.replicate_succ, Array.replicate_zero, List.push_toArray, List.append_toArray, List.nil_append, List.cons_append]
  refine wpIn_wide.2 ?_
  go_wp2_with fail
  refine (CK.out).mono ?_; rintro e w1 ⟨rfl, hk⟩
  have K1 := Lib.hid hk
  clear hk
  go_wp2_with fail
  refine (DV.out _).mono ?_; rintro e w2 ⟨rfl, hk⟩
  have K2 := Lib.hid (K1.out.trans hk.kp)
  clear hk
  go_wp2_with fail
  obtain ⟨w3, hw3⟩ : ∃ y, y = w2.alloc (.cells #[.int .i64 (x.val : Int)] 3) := ⟨_, rfl⟩
  have k3 : Kp w2 w3 := by rw [hw3]; exact (Kp.rfl' w2).new _
  have c3 : w3.cell? ⟨w2.heap.size, 0, none⟩ = some (.int .i64 (x.val : Int)) := by rw [hw3]; simp
  rw [← hw3]
  have s3 : w2.heap.size < w3.heap.size := by rw [hw3]; simp
  clear hw3
  refine (AD.out _ (HA.out.keep (K2.out.trans k3))).mono ?_; rintro e w4 ⟨g, G, rfl, gr4, sg4, k4⟩
  have c4 := (k4.cell (p := ⟨w2.heap.size, 0, none⟩) s3).trans c3
  have GR4 := Lib.hid gr4
  have K4 := Lib.hid ((K2.out.trans k3).trans k4)
  have hsw := K2.out.size
  have HGL := Lib.hid (show ∀ i, i < n → g < G i ∧ G i < w4.heap.size from fun i hi => ⟨gr4.after i hi, (gr4.row i hi).lt⟩)
  have s4 : w2.heap.size < w4.heap.size := Nat.lt_of_lt_of_le s3 k4.size
  clear gr4 k3 k4 c3
  go_wp2_with fail
  obtain ⟨w5, hw5⟩ : ∃ y, y = w4.alloc (.cells #[.slice (some ⟨g, 0, none⟩) n n] 22) := ⟨_, rfl⟩
  have k5 : Kp w4 w5 := by rw [hw5]; exact (Kp.rfl' w4).new _
  have b5 : w5.cell? ⟨w4.heap.size, 0, none⟩ = some (.slice (some ⟨g, 0, none⟩) n n) := by rw [hw5]; simp
  have s5 : w5.heap.size = w4.heap.size + 1 := by rw [hw5]; simp
  rw [← hw5]
  clear hw5
  refine (iplaces_any n w5).mono ?_; rintro e w6 ⟨rfl, hw6⟩
  have k6 : Kp w5 w6 := by rw [hw6]; exact (Kp.rfl' w5).new _
  have n6 : w6.cell? ⟨w5.heap.size, 0, none⟩ = some (.int .i64 (n : Int)) := by rw [hw6]; simp
  have s6 : w6.heap.size = w4.heap.size + 2 := by rw [hw6]; simp [s5]
  rw [s5] at n6 ⊢
  have b6 := (k6.cell (p := ⟨w4.heap.size, 0, none⟩) (by show w4.heap.size < _; omega)).trans b5
  have c6 := ((k5.trans k6).cell (p := ⟨w2.heap.size, 0, none⟩) s4).trans c4
  have GR6 := Lib.hid (GR4.out.keep (k5.trans k6))
  have K6 := Lib.hid ((K4.out.trans k5).trans k6)
  clear hw6 k5 k6 b5 c4 s5
  go_wp2_with fail
  refine (wpIn_wide (n := 9)).1 (wpIn_rangeFunc_ownF (F := Fence.wide) rfl (Nat.le_add_left 1 8) (gf := 56) (lb := #[.pointer (some ⟨w4.heap.size + 1, 0, none⟩)]) rfl trivial (enters_of Tryd.func56 (by kernel_rfl) rfl)
    (iplaces_stops 8 (Nat.le_add_left 1 7) (w4.heap.size + 1) n (by omega) w6 (by omega) n6)
    keepN_t (fun W l o o' _ ho h1 _ => keepN_b W l o o' ho h1) (Below.refl _ _) (fun _ => rfl)
    (fun pre W => (W.cell? ⟨w4.heap.size, 0, none⟩ = some (.slice (some ⟨g, 0, none⟩) n n) ∧ W.cell? ⟨w2.heap.size, 0, none⟩ = some (.int .i64 (x.val : Int)) ∧ Grid W g G n n (fun a b => ((turns n (fun _ _ y => y * x) (Mx.adj p f) pre a b).val : Int))) ∧ Below w.heap.size w W)
    (fun _ _ _ => False)
    (OwnFrom.and (Go.Own.from (fun s W1 W2 row hs hg hr => ⟨cell_kept hs.1 hg hr, cell_kept hs.2.1 hg hr, hs.2.2.kept hg hr⟩) _) (ownFrom_below (Nat.le_refl _) (by have := K6.out.size; omega)))
    (fun _ _ _ _ _ hs _ _ => hs)
    ⟨⟨b6, c6, GR6.out.ext (fun a b _ _ => rfl)⟩, K6.out⟩
    ?a1 ?assign ?body ?done ?stop)
  case assign =>
    intro l x W K hK
    unfold placeOf
    gi_wp2
    exact hK
  case body =>
    rintro l pre y W ⟨⟨q1, q2, q3⟩, q4⟩ _
    have hst := fun a b => turns_snoc n (fun _ _ y => y * x) (Mx.adj p f) pre y a b
    have hi := rowOf_lt (c := n) y hn0
    have hj := colOf_lt y hn0
    generalize rowOf n n y = i at *
    generalize colOf n y = j at *
    have x1 := q3.cell hi
    have x2 := q3.el hi hj
    have x3 := q3.free hi j
    have hn1 : w4.heap.size ≠ G i := q3.ne hn0 hi q1
    have hgl := HGL.out i hi
    have hn2 : w2.heap.size ≠ G i := by omega
    have hn3 : (w4.heap.size + 1) ≠ G i := by omega
    have hp : w.heap.size ≤ G i := by omega
    obtain ⟨u, hu⟩ : ∃ u, u = turns n (fun _ _ y => y * x) (Mx.adj p f) pre i j := ⟨_, rfl⟩
    rw [← hu] at x2
    have hmod := times_mod u x
    have hbd := times_bound u x
    obtain ⟨z, hz⟩ : ∃ z, z = ((u * x).val : Int) := ⟨_, rfl⟩
    rw [← hz] at hmod
    have HZ := Lib.hid hz
    have HU := Lib.hid hu
    generalize (u.val : Int) = u0 at *
    generalize (x.val : Int) = u1 at *
    have hwm : IntKind.i64.wrap (u0 * u1) = u0 * u1 := IntWalk.i64_in _ (by omega)
    have Q1 := Lib.hid q1
    have Q3 := Lib.hid q3
    have Q4 := Lib.hid q4
    have HST := Lib.hid hst
    clear q3 q4 hst hz hu hbd
    refine wpIn_block ?_
    refine region_tail 16 (by kernel_rfl) (by kernel_rfl) (by kernel_rfl) ?_
    simp only [List.take_succ_cons, List.take_zero, List.drop_succ_cons, List.drop_zero]
    repeat still_step
    refine wpStill_nil ?_
    go_wp2_with fail
    refine ⟨rfl, ?_⟩
    refine ⟨(KeepsOthers.setCell _ _ _).trans (KeepsOthers.drew _), keepN_t (keepN_set W ⟨G i, j, none⟩ _ hn3.symm) id, ⟨?_, ?_, ?_⟩, ((Q4.out).setCell (p := ⟨G i, j, none⟩) hp _).drew⟩
    · exact (World.cell?_setCell_far W ⟨G i, j, none⟩ ⟨w4.heap.size, 0, none⟩ _ (fun e => hn1 e.symm)).trans Q1.out
    · exact (World.cell?_setCell_far W ⟨G i, j, none⟩ ⟨w2.heap.size, 0, none⟩ _ (fun e => hn2 e.symm)).trans q2
    · refine ((Q3.out.put hi j _).keep ((Kp.rfl' _).drewN 1)).ext fun a b _ _ => ?_
      rw [HST.out a b]
      by_cases e : a = i ∧ b = j
      · rw [if_pos e, if_pos e, HZ.out, e.1, e.2, HU.out]
      · rw [if_neg e, if_neg e]
  case done =>
    rintro D ys W hD rfl ⟨⟨q1, q2, q3⟩, q4⟩ hK
    have Q3 := Lib.hid q3
    have Q4 := Lib.hid q4
    clear q3 q4
    go_wp2_with fail
    refine ⟨by simp, .inl ⟨_, _, rfl, run_takeDeferred hK, ?_⟩⟩
    refine ⟨.tuple #[.slice (some ⟨g, 0, none⟩) n n, .nilIface], by simp [results, Tryd.results11, go_sem], ?_⟩
    have hg2 := Q3.out.kept (grownBy_putObj' W D (.deferred none)) (fun r e => by cases e; exact ⟨_, hK, rfl⟩)
    have hl2 := hg2.lies
    refine ⟨g, rfl, ?_, Q4.out.trans (belowK_b (w := w) (Nat.le_refl _) W D _ _ (by have := K6.out.size; omega) hK rfl rfl)⟩
    rw [← Mx.matl_ext (fun a b ha hb => (turns_all n (fun _ _ y => y * x) (Mx.adj p f) a b ha hb).trans (HX.out a b))]; exact hl2
  case stop =>
    rintro D c pre W _ _ h _
    exact h.elim

end Go.Proofs.YtofdhdnffkhojaaDoor

/- Comparing rows and matrices, small matrices just laid down: for all packages. -/
namespace Go.Proofs.YtofdhdnffkhojaaDoor
open Go.ChangeShapes Go.WideShapes Go.ChangeAt Go.RowKit
set_option linter.unusedVariables false

set_option maxHeartbeats 1600000 in
theorem ints_drew (A B : Option Addr) (l m : List Int) (c d : Nat) (w : World) (ha : Lies w A l) (hb : Lies w B m) (hn : l.length ≤ 1000000) (hm : m.length ≤ 1000000) :
    Calls Tryd.prog 33 #[.slice A l.length c, .slice B m.length d] w fun e w' => Tells (l = m) e ∧ Drew w w' := by
  have HA := Lib.hid ha
  have HB := Lib.hid hb
  obtain ⟨n, hn'⟩ : ∃ n, n = l.length := ⟨_, rfl⟩
  obtain ⟨q, hq'⟩ : ∃ q, q = m.length := ⟨_, rfl⟩
  rw [← hn'] at hn ⊢
  rw [← hq'] at hm ⊢
  have HN := Lib.hid hn'
  have HQ := Lib.hid hq'
  clear ha hb hn' hq'
  by_cases he : n = q
  · subst he
    have hne : ((n : Int) != (n : Int)) = false := by simp
    go_enter Tryd.func33, Tryd.ntmps33
    go_wp2_with fail
    go_loopw [5] (fun i wr => ∃ k : Nat, k ≤ n ∧ i = .int .i64 (k : Int) ∧ (∀ j, j < k → l.getD j 0 = m.getD j 0) ∧ Drew w wr) (fun i _ => n - (intOf i).toNat)
    case atStart => exact ⟨0, Nat.zero_le _, rfl, fun j hj => absurd hj (by omega), Drew.refl _⟩
    case round =>
      obtain ⟨k, hk, rfl, hg, hkp⟩ := hrel
      have HG := Lib.hid hg
      have HK := Lib.hid hkp
      clear hg hkp
      by_cases hlt : k < n
      · obtain ⟨ad, rfl, _, hc⟩ := (HA.out.keep HK.out.kp) k (by have := HN.out; omega)
        obtain ⟨bd, rfl, _, hd⟩ := (HB.out.keep HK.out.kp) k (by have := HQ.out; omega)
        obtain ⟨x, hx⟩ : ∃ x, x = l.getD k 0 := ⟨_, rfl⟩
        obtain ⟨y, hy⟩ : ∃ y, y = m.getD k 0 := ⟨_, rfl⟩
        rw [← hx] at hc
        rw [← hy] at hd
        by_cases hxy : x = y
        · have GG := Lib.hid (show ∀ j, j < k + 1 → l.getD j 0 = m.getD j 0 from fun j hj => by
            by_cases e : j = k
            · subst e; rw [← hx, ← hy]; exact hxy
            · exact HG.out j (by omega))
          have hb : (x != y) = false := by rw [hxy]; simp
          clear hx hy hxy
          go_wp2_with fail
          go_quiet (fail)
          go_wp2_with fail
          go_roundw
          case rel => exact ⟨k + 1, by omega, by go_num, GG.out, HK.out.more _⟩
          case measure => simp [intOf]; omega
        · have NF := Lib.hid (show ¬ l = m from fun e => hxy (by rw [hx, hy, e]))
          have hb : (x != y) = true := by rw [bne_iff_ne]; exact hxy
          clear hx hy hxy
          go_wp2_with fail
          go_quiet (fail)
          go_wp2_with fail
          go_ret
          exact ⟨.inr ⟨NF.out, rfl⟩, HK.out.more _⟩
      · have YES := Lib.hid (show l = m from list_same l m (by rw [← HN.out, ← HQ.out]) fun j hj => HG.out j (by have := HN.out; omega))
        go_wp2_with fail
        go_ret
        exact ⟨.inl ⟨YES.out, rfl⟩, HK.out⟩
  · have hne : ((n : Int) != (q : Int)) = true := by rw [bne_iff_ne]; omega
    have NF := Lib.hid (show ¬ l = m from fun e => he (by rw [HN.out, HQ.out, e]))
    clear he
    go_enter Tryd.func33, Tryd.ntmps33
    go_wp2_with fail
    go_ret
    exact ⟨.inr ⟨NF.out, rfl⟩, Drew.refl _⟩
theorem rows_same (a b : List (List Int)) (h : a.length = b.length) (h2 : ∀ k, k < a.length → a.getD k [] = b.getD k []) : a = b := by
  refine List.ext_getElem h fun k h3 h4 => ?_
  have := h2 k h3
  rwa [List.getD_eq_getElem?_getD, List.getD_eq_getElem?_getD, List.getElem?_eq_getElem h3, List.getElem?_eq_getElem h4] at this

/-- No row is longer than a slice may be. -/
def Modest (m : List (List Int)) : Prop := m.length ≤ 1000000 ∧ ∀ k, k < m.length → (m.getD k []).length ≤ 1000000
theorem modest_tab {r c : Nat} (g : Nat → Nat → Int) (hr : r ≤ 1000000) (hc : c ≤ 1000000) : Modest (Mx.tab r c g) :=
  ⟨by rw [Mx.len_tab]; exact hr, fun k hk => by rw [Mx.len_tab] at hk; rw [Mx.tab_len _ _ _ _ hk]; exact hc⟩
theorem modest_nil : Modest [] := ⟨by decide, fun k hk => absurd hk (by simp)⟩

set_option maxRecDepth 100000 in
set_option maxHeartbeats 1600000 in
theorem rows_any (A B : Option Addr) (a b : List (List Int)) (n m c d : Nat) (w : World) (ha : LiesM w A a) (hb : LiesM w B b) (hn : a.length = n) (hm : b.length = m) (ma : Modest a) (mb : Modest b) :
    Calls Tryd.prog 13 #[.slice A n c, .slice B m d] w fun e w' => Tells (a = b) e ∧ Drew w w' := by
  have HA := Lib.hid ha
  have HB := Lib.hid hb
  have MA := Lib.hid ma
  have MB := Lib.hid mb
  have HN := Lib.hid hn
  have HM := Lib.hid hm
  have hb : n ≤ 1000000 := by rw [← hn]; exact ma.1
  clear ha ma mb hn hm
  by_cases he : n = m
  · subst he
    have hne : ((n : Int) != (n : Int)) = false := by simp
    go_enter Tryd.func13, Tryd.ntmps13
    go_wp2_with fail
    go_loopw [5] (fun i wr => ∃ k : Nat, k ≤ n ∧ i = .int .i64 (k : Int) ∧ (∀ j, j < k → a.getD j [] = b.getD j []) ∧ Drew w wr) (fun i _ => n - (intOf i).toNat)
    case atStart => exact ⟨0, Nat.zero_le _, rfl, fun j hj => absurd hj (by omega), Drew.refl _⟩
    case round =>
      obtain ⟨k, hk, rfl, hg, hkp⟩ := hrel
      have HG := Lib.hid hg
      have HK := Lib.hid hkp
      clear hg hkp
      by_cases hlt : k < n
      · obtain ⟨ad, A1, c1, rfl, _, hc, _, l1⟩ := (HA.out.keep HK.out.kp) k (by have := HN.out; omega)
        obtain ⟨bd, B1, d1, rfl, _, hd, _, l2⟩ := (HB.out.keep HK.out.kp) k (by have := HM.out; omega)
        have IN := Lib.hid (fun i => ints_drew A1 B1 _ _ c1 d1 (wr.drewN i) (l1.keep ((Kp.rfl' wr).drewN i)) (l2.keep ((Kp.rfl' wr).drewN i)) (MA.out.2 k (by have := HN.out; omega)) (MB.out.2 k (by have := HM.out; omega)))
        obtain ⟨x, hx⟩ : ∃ x, x = a.getD k [] := ⟨_, rfl⟩
        obtain ⟨y, hy⟩ : ∃ y, y = b.getD k [] := ⟨_, rfl⟩
        rw [← hx, ← hy] at IN
        rw [← hx] at hc
        rw [← hy] at hd
        by_cases hxy : x = y
        · have GG := Lib.hid (show ∀ j, j < k + 1 → a.getD j [] = b.getD j [] from fun j hj => by
            by_cases e : j = k
            · subst e; rw [← hx, ← hy]; exact hxy
            · exact HG.out j (by omega))
          have IY := Lib.hid (fun i => (IN.out i).mono fun e w' ⟨ht, hd⟩ => (⟨tells_yes ht hxy, hd⟩ : e = Ending.returned (.bool true) ∧ Drew (wr.drewN i) w'))
          generalize x.length = p at *
          generalize y.length = q at *
          clear hx hy hxy l1 l2
          go_wp2_with fail
          go_quiet ((first
            | (with_reducible exact quiet_drew (IY.out _))
            | (with_reducible exact quiet_drew_more (IY.out _))))
          go_wp2_with fail
          go_roundw
          case rel => exact ⟨k + 1, by omega, by go_num, GG.out, HK.out.more _⟩
          case measure => simp [intOf]; omega
        · have NF := Lib.hid (show ¬ a = b from fun e => hxy (by rw [hx, hy, e]))
          have IY := Lib.hid (fun i => (IN.out i).mono fun e w' ⟨ht, hd⟩ => (⟨tells_no ht hxy, hd⟩ : e = Ending.returned (.bool false) ∧ Drew (wr.drewN i) w'))
          generalize x.length = p at *
          generalize y.length = q at *
          clear hx hy hxy l1 l2
          go_wp2_with fail
          go_quiet ((first
            | (with_reducible exact quiet_drew (IY.out _))
            | (with_reducible exact quiet_drew_more (IY.out _))))
          go_wp2_with fail
          go_ret
          exact ⟨.inr ⟨NF.out, rfl⟩, HK.out.more _⟩
      · have YES := Lib.hid (show a = b from rows_same a b (by rw [HN.out, HM.out]) fun j hj => HG.out j (by have := HN.out; omega))
        go_wp2_with fail
        go_ret
        exact ⟨.inl ⟨YES.out, rfl⟩, HK.out⟩
  · have hne : ((n : Int) != (m : Int)) = true := by rw [bne_iff_ne]; omega
    have NF := Lib.hid (show ¬ a = b from fun e => he (by rw [← HN.out, ← HM.out, e]))
    clear he
    go_enter Tryd.func13, Tryd.ntmps13
    go_wp2_with fail
    go_ret
    exact ⟨.inr ⟨NF.out, rfl⟩, Drew.refl _⟩
theorem rows_eq (A B : Option Addr) (a b : List (List Int)) (n m c d : Nat) (w : World) (ha : LiesM w A a) (hb : LiesM w B b) (hn : a.length = n) (hm : b.length = m) (ma : Modest a) (mb : Modest b) (h : a = b) :
    Calls Tryd.prog 13 #[.slice A n c, .slice B m d] w fun e w' => e = .returned (.bool true) ∧ Kp w w' :=
  (rows_any A B a b n m c d w ha hb hn hm ma mb).mono fun e w' ⟨ht, hd⟩ => ⟨tells_yes ht h, hd.kp⟩

theorem cell_just (w : World) (cs : Array Value) (e : TypeId) (g k : Nat) (h : g = w.heap.size) : (w.alloc (.cells cs e)).cell? ⟨g, k, none⟩ = cs[k]? := by
  subst h
  exact cell_of_row _ _ k _ e (0, 0) (heap_alloc_new w _)
/-- What came in: the rows up to the capacity, each with its numbers up to its own; its rows are the first of them. -/
theorem liesM_open {w : World} {a : Addr} {len cap : Nat} {A : Nat → Option Addr} {L C : Nat → Nat} {Z : Nat → List Int} (hl : len ≤ cap)
    (h : ∀ r, r < cap → w.cell? (a.add r) = some (.slice (A r) (L r) (C r)) ∧ L r ≤ C r ∧ C r ≤ maxLen ∧ (Z r).length = C r ∧ (∀ n ∈ Z r, (Lit.int .i64 n).wf = true) ∧ (A r = none → C r = 0) ∧
      ∀ a', A r = some a' → 0 ≤ a'.block ∧ ∀ c, c < C r → w.cell? (a'.add c) = some (.int .i64 ((Z r).getD c 0))) :
    ((List.range len).map fun r => (Z r).take (L r)).length = len ∧ LiesM w (some a) ((List.range len).map fun r => (Z r).take (L r)) := by
  refine ⟨by simp, fun k hk => ?_⟩
  have hk' : k < len := by simpa using hk
  obtain ⟨h1, h2, _, h4, _, h6, h7⟩ := h k (by omega)
  have e : ((List.range len).map fun r => (Z r).take (L r)).getD k [] = (Z k).take (L k) := by simp [hk']
  have el : ((Z k).take (L k)).length = L k := by rw [List.length_take]; omega
  rw [e, el]
  refine ⟨a, A k, C k, rfl, ?_, h1, h2, ?_⟩
  · have := cell_lt h1; rwa [block_add] at this
  · cases hA : A k with
    | none =>
      intro j hj
      have := h6 hA
      rw [el] at hj
      omega
    | some a' => exact (lies_take (w := w) (x := a') h2 h4 (fun i hi => (h7 a' hA).2 i (by omega))).2
/-- Two rows of two, and the heads of both, just laid down. -/
def laid22 (w : World) (x : Nat → Nat → Int) : World :=
  ((w.alloc (.cells #[.int .i64 (x 0 0), .int .i64 (x 0 1)] 3)).alloc (.cells #[.int .i64 (x 1 0), .int .i64 (x 1 1)] 3)).alloc (.cells #[.slice (some ⟨w.heap.size, 0, none⟩) 2 2, .slice (some ⟨w.heap.size + 1, 0, none⟩) 2 2] 23)
theorem laid22_kp (w : World) (x : Nat → Nat → Int) : Kp w (laid22 w x) := (((Kp.rfl' w).new _).new _).new _
theorem laid22_size (w : World) (x : Nat → Nat → Int) : (laid22 w x).heap.size = w.heap.size + 3 := by simp [laid22]
theorem laid22_lies (w : World) (x : Nat → Nat → Int) : LiesM (laid22 w x) (some ⟨w.heap.size + 2, 0, none⟩) (Mx.tab 2 2 x) := by
  have h0 : Lies (w.alloc (.cells #[.int .i64 (x 0 0), .int .i64 (x 0 1)] 3)) (some ⟨w.heap.size, 0, none⟩) (Mx.row 2 (x 0)) := lies_new' w _ [x 0 0, x 0 1] _ rfl
  have h1 : Lies ((w.alloc (.cells #[.int .i64 (x 0 0), .int .i64 (x 0 1)] 3)).alloc (.cells #[.int .i64 (x 1 0), .int .i64 (x 1 1)] 3)) (some ⟨w.heap.size + 1, 0, none⟩) (Mx.row 2 (x 1)) :=
    lies_new' (w.alloc _) _ [x 1 0, x 1 1] _ (by simp)
  have k2 := ((Kp.rfl' (w.alloc (.cells #[.int .i64 (x 0 0), .int .i64 (x 0 1)] 3))).new (.cells #[.int .i64 (x 1 0), .int .i64 (x 1 1)] 3)).new (.cells #[.slice (some ⟨w.heap.size, 0, none⟩) 2 2, .slice (some ⟨w.heap.size + 1, 0, none⟩) 2 2] 23)
  have k3 := (Kp.rfl' ((w.alloc (.cells #[.int .i64 (x 0 0), .int .i64 (x 0 1)] 3)).alloc (.cells #[.int .i64 (x 1 0), .int .i64 (x 1 1)] 3))).new (.cells #[.slice (some ⟨w.heap.size, 0, none⟩) 2 2, .slice (some ⟨w.heap.size + 1, 0, none⟩) 2 2] 23)
  have hs : w.heap.size + 2 < (laid22 w x).heap.size := by rw [laid22_size]; omega
  intro k hk
  rw [Mx.len_tab] at hk
  match k, hk with
  | 0, _ => exact ⟨_, some ⟨w.heap.size, 0, none⟩, 2, rfl, hs, by rw [add_at]; unfold laid22; rw [cell_just _ _ _ _ _ (by simp)]; simp [Mx.tab, Mx.row], by simp [Mx.tab, Mx.row], h0.keep k2⟩
  | 1, _ => exact ⟨_, some ⟨w.heap.size + 1, 0, none⟩, 2, rfl, hs, by rw [add_at]; unfold laid22; rw [cell_just _ _ _ _ _ (by simp)]; simp [Mx.tab, Mx.row], by simp [Mx.tab, Mx.row], h1.keep k3⟩

def n22 (a b c d : Int) : Nat → Nat → Int := fun i j => if i = 0 then (if j = 0 then a else b) else (if j = 0 then c else d)
/-- The same with the numbers and the block as they stand in a walk. -/
abbrev lit22 (w : World) (g : Nat) (a b c d : Int) : World :=
  ((w.alloc (.cells #[.int .i64 a, .int .i64 b] 3)).alloc (.cells #[.int .i64 c, .int .i64 d] 3)).alloc (.cells #[.slice (some ⟨g, 0, none⟩) 2 2, .slice (some ⟨g + 1, 0, none⟩) 2 2] 23)
theorem lit22_lies (w : World) (g : Nat) (a b c d : Int) (h : g = w.heap.size) : LiesM (lit22 w g a b c d) (some ⟨g + 1 + 1, 0, none⟩) (Mx.tab 2 2 (n22 a b c d)) := by
  subst h
  exact laid22_lies w (n22 a b c d)
theorem lit22_kp (w : World) (g : Nat) (a b c d : Int) : Kp w (lit22 w g a b c d) := (((Kp.rfl' w).new _).new _).new _
theorem lit22_size (w : World) (g : Nat) (a b c d : Int) : (lit22 w g a b c d).heap.size = w.heap.size + 1 + 1 + 1 := by simp [lit22]

end Go.Proofs.YtofdhdnffkhojaaDoor

/- Good matrices, as package mat wants them. For all packages on matrices. -/
namespace Go.Proofs.YtofdhdnffkhojaaDoor
set_option linter.unusedVariables false

def f22 (a b c d : Fp.F) : Nat → Nat → Fp.F := fun i j => if i = 0 then (if j = 0 then a else b) else (if j = 0 then c else d)
/-- A matrix of r rows and c columns, as package mat wants it. -/
structure Sh (r c : Nat) (f : Nat → Nat → Fp.F) (m : List (List Int)) : Prop where
  eq : m = Mx.matl r c f
  r0 : 0 < r
  r5 : r ≤ 5
  c0 : 0 < c
  c5 : c ≤ 5
theorem Sh.len {r c : Nat} {f : Nat → Nat → Fp.F} {m : List (List Int)} (h : Sh r c f m) : m.length = r := by rw [h.eq, Mx.len_matl]
theorem Sh.mat {r c : Nat} {f : Nat → Nat → Fp.F} {m : List (List Int)} (h : Sh r c f m) : Sh r c f (Mx.matl r c f) := ⟨rfl, h.r0, h.r5, h.c0, h.c5⟩
theorem sh_or (m : List (List Int)) : (Mx.mcode 5 0 9972 m = 0 ∧ ∃ r c f, Sh r c f m) ∨ Mx.mcode 5 0 9972 m ≠ 0 := by
  by_cases h : Mx.mcode 5 0 9972 m = 0
  · obtain ⟨r, c, f, e, h1, h2, h3, h4⟩ := Mx.mcode_zero h
    exact .inl ⟨h, r, c, f, ⟨e, h1, h2, h3, h4⟩⟩
  · exact .inr h
theorem Sh.code {r c : Nat} {f : Nat → Nat → Fp.F} {m : List (List Int)} (h : Sh r c f m) : Mx.mcode 5 0 9972 m = 0 := by
  rw [h.eq]; exact Mx.mcode_matl f h.r0 h.r5 h.c0 h.c5

theorem Sh.mul {r q k : Nat} {f f' : Nat → Nat → Fp.F} {a b : List (List Int)} (sa : Sh r q f a) (sb : Sh q k f' b) : Sh r k (Mx.mul q f f') (Mx.matl r k (Mx.mul q f f')) := ⟨rfl, sa.r0, sa.r5, sb.c0, sb.c5⟩
theorem Sh.flip {r q : Nat} {f : Nat → Nat → Fp.F} {a : List (List Int)} (sa : Sh r q f a) : Sh q r (Mx.flip f) (Mx.matl q r (Mx.flip f)) := ⟨rfl, sa.c0, sa.c5, sa.r0, sa.r5⟩
theorem Sh.plus {r q : Nat} {f f' : Nat → Nat → Fp.F} {a : List (List Int)} (sa : Sh r q f a) : Sh r q (Mx.plus f f') (Mx.matl r q (Mx.plus f f')) := ⟨rfl, sa.r0, sa.r5, sa.c0, sa.c5⟩
theorem Sh.pow {r : Nat} {f : Nat → Nat → Fp.F} {a : List (List Int)} (sa : Sh r r f a) (k : Nat) : Sh r r (Mx.pwm r f k) (Mx.matl r r (Mx.pwm r f k)) := ⟨rfl, sa.r0, sa.r5, sa.c0, sa.c5⟩
theorem Sh.one {r q : Nat} {f : Nat → Nat → Fp.F} {a : List (List Int)} (sa : Sh r q f a) : Sh r r Mx.one (Mx.matl r r Mx.one) := ⟨rfl, sa.r0, sa.r5, sa.r0, sa.r5⟩
theorem Sh.modest {r q : Nat} {f : Nat → Nat → Fp.F} {a : List (List Int)} (sa : Sh r q f a) : Modest a := by
  rw [sa.eq]; exact modest_tab _ (Nat.le_trans sa.r5 (by decide)) (Nat.le_trans sa.c5 (by decide))

end Go.Proofs.YtofdhdnffkhojaaDoor

/- What det says of whatever comes in; its closed fact. -/
namespace Go.Proofs.YtofdhdnffkhojaaDoor
open Go.ChangeShapes Go.WideShapes Go.ChangeAt Go.RowKit
set_option linter.unusedVariables false

theorem sq_or (m : List (List Int)) {n : Nat} (hn : m.length = n) : (∃ f, Sh n n f m) ∨ qcode 5 0 9972 m ≠ 0 := by
  by_cases h : qcode 5 0 9972 m = 0
  · obtain ⟨h1, h2⟩ := qcode_zero h
    obtain ⟨r, c, f, e, r0, r5, c0, c5⟩ := Mx.mcode_zero h1
    have hr : r = n := by rw [← hn, e, Mx.len_matl]
    have hc : c = n := by
      rw [e, Mx.len_matl] at h2
      rw [← hr, h2]
      exact (Mx.tab_len r c _ 0 r0).symm
    subst hr hc
    exact .inl ⟨f, e, r0, r5, c0, c5⟩
  · exact .inr h
theorem Sh.code2 {n : Nat} {f : Nat → Nat → Fp.F} {m : List (List Int)} (h : Sh n n f m) : qcode 5 0 9972 m = 0 := by
  rw [h.eq]; exact qcode_matl f h.r0 h.r5

theorem Of_or (A : Option Addr) (m : List (List Int)) (n d : Nat) (hn : m.length = n) :
    (∃ f, Sh n n f m) ∨ ∀ (w : World), LiesM w A m → Calls Tryd.prog 22 #[.slice A n d] w fun e w' => ∃ z : Nat, e = .returned (.tuple #[.int .i64 0, .iface 53 (.int .i64 (z : Int))]) ∧ Kp w w' := by
  rcases sq_or m hn with h | h
  · exact .inl h
  · exact .inr fun w ha => ((Of_bad A m n d w ha hn h).mono fun e w' h' => ⟨qcode 5 0 9972 m, by rw [h'.1, errOf_ne _ h], h'.2⟩)
theorem Of_sh {A : Option Addr} {m : List (List Int)} {n : Nat} {f : Nat → Nat → Fp.F} (s : Sh n n f m) (d : Nat) (w : World) (ha : LiesM w A m) :
    Calls Tryd.prog 22 #[.slice A n d] w fun e w' => e = .returned (.tuple #[.int .i64 ((Mx.dt n f).val : Int), .nilIface]) ∧ Kp w w' := by
  rw [s.eq] at ha
  exact Of_ok A f n d w ha s.r0 s.r5

def fdet : Nat → Nat → Fp.F := f22 1 2 3 4
theorem fdet_mat : Mx.tab 2 2 (n22 1 2 3 4) = Mx.matl 2 2 fdet := by decide +kernel
theorem fdet_val : ((Mx.dt 2 fdet).val : Int) = 9971 := by decide +kernel
theorem sp_10 : Mx.sp 2 (fun i => [(1 : Int), 0].getD i 0) = -1 := by decide +kernel
theorem sp_11 : Mx.sp 2 (fun i => [(1 : Int), 1].getD i 0) = 0 := by decide +kernel


end Go.Proofs.YtofdhdnffkhojaaDoor
