/- Plain facts for systems of equations over F: what is taken to noughts, the one answer that is nought at the free columns, step by step. No program is named here. -/
import Derived.Test.YtldkamhknaflbaaMatG
namespace Go.Proofs.Ytldkamhknaflbaa.Mx
open Fp
set_option linter.unusedVariables false

/-- Where a matrix takes a row. -/
def tov (c : Nat) (f : Nat → Nat → F) (v : Nat → F) : Nat → F := fun i => sg c fun j => f i j * v j
theorem tov_congr {c : Nat} {f g : Nat → Nat → F} {v w : Nat → F} {i : Nat} (h : ∀ j, j < c → f i j = g i j) (h' : ∀ j, j < c → v j = w j) : tov c f v i = tov c g w i :=
  sg_congr fun j hj => by rw [h j hj, h' j hj]
theorem tov_more (c : Nat) (f : Nat → Nat → F) (v w : Nat → F) (a : F) (i : Nat) : tov c f (fun j => v j + a * w j) i = tov c f v i + a * tov c f w i := by
  unfold tov
  rw [← sg_times, ← sg_add]
  exact sg_congr fun j _ => by grind
theorem tov_less (c : Nat) (f : Nat → Nat → F) (v w : Nat → F) (i : Nat) : tov c f (fun j => v j - w j) i = tov c f v i - tov c f w i := by
  have h := tov_more c f v w (-1) i
  have e : (fun j => v j - w j) = fun j => v j + -1 * w j := by funext j; grind
  rw [e, h]; grind
theorem tov_none (c : Nat) (f : Nat → Nat → F) (i : Nat) : tov c f (fun _ => 0) i = 0 := by
  unfold tov
  rw [sg_congr (g := fun _ => 0) fun j _ => by grind, sg_none]
theorem tov_mul (r c : Nat) (s g : Nat → Nat → F) (v : Nat → F) (i : Nat) : tov c (mul r s g) v i = sg r fun x => s i x * tov c g v x :=
  congrFun (congrFun (mul_assoc r c s g (fun j _ => v j)) i) 0
/-- What comes of rows that are taken alike is taken alike. -/
theorem tov_come {r c : Nat} {f g : Nat → Nat → F} (h : ∃ s, Eqm r c f (mul r s g)) {v w : Nat → F} (e : ∀ x, x < r → tov c g v x = tov c g w x) {i : Nat} (hi : i < r) : tov c f v i = tov c f w i := by
  obtain ⟨s, hs⟩ := h
  rw [tov_congr (g := mul r s g) (fun j hj => hs i j hi hj) (fun _ _ => rfl), tov_congr (v := w) (g := mul r s g) (fun j hj => hs i j hi hj) (fun _ _ => rfl), tov_mul, tov_mul]
  exact sg_congr fun x hx => by rw [e x hx]

/-- The columns in which no row begins. -/
def fr (b : List Nat) (c : Nat) : List Nat := (List.range c).filter fun k => decide (k ∉ b)
theorem fr_zero (b : List Nat) : fr b 0 = [] := rfl
theorem fr_yes {b : List Nat} {k : Nat} (h : k ∈ b) : fr b (k + 1) = fr b k := by simp [fr, List.range_succ, h]
theorem fr_no {b : List Nat} {k : Nat} (h : k ∉ b) : fr b (k + 1) = fr b k ++ [k] := by simp [fr, List.range_succ, h]
theorem fr_mem {b : List Nat} {c k : Nat} : k ∈ fr b c ↔ k < c ∧ k ∉ b := by simp [fr]
theorem fr_le (b : List Nat) (c : Nat) : (fr b c).length ≤ c := by
  have := List.length_filter_le (fun k => decide (k ∉ b)) (List.range c)
  rwa [List.length_range] at this
theorem fr_pairs (b : List Nat) (c : Nat) : (fr b c).Pairwise (· < ·) := List.Pairwise.filter _ List.pairwise_lt_range
theorem count_not (p : Nat → Bool) : ∀ l : List Nat, (l.filter p).length + (l.filter fun k => !p k).length = l.length
  | [] => rfl
  | x :: l => by
    have := count_not p l
    by_cases h : p x = true
    · simp [h]; omega
    · simp [h]; omega
theorem Steps.count {r c : Nat} {b : List Nat} {g : Nat → Nat → F} (h : Steps r c b g) : b.length + (fr b c).length = c := by
  have e : b = (List.range c).filter fun k => decide (k ∈ b) := inc_same _ _ h.pairs (List.Pairwise.filter _ List.pairwise_lt_range) fun x => by
    simp only [List.mem_filter, List.mem_range, decide_eq_true_eq]
    exact ⟨fun hx => ⟨by obtain ⟨t, ht, rfl⟩ := h.mem hx; exact h.lt t ht, hx⟩, fun hx => hx.2⟩
  have := count_not (fun k => decide (k ∈ b)) (List.range c)
  rw [← e, List.length_range] at this
  have e2 : (List.range c).filter (fun k => !decide (k ∈ b)) = fr b c := by
    unfold fr; congr 1; funext k; simp
  rw [e2] at this
  exact this
theorem pv_mem {b : List Nat} {t : Nat} (ht : t < b.length) : pv b t ∈ b := by
  show b.getD t 0 ∈ b
  rw [List.getD_eq_getElem?_getD, List.getElem?_eq_getElem ht]; exact List.getElem_mem ht
theorem Steps.inj {r c : Nat} {b : List Nat} {g : Nat → Nat → F} (h : Steps r c b g) {s t : Nat} (hs : s < b.length) (ht : t < b.length) (e : pv b s = pv b t) : s = t := by
  rcases Nat.lt_trichotomy s t with hlt | he | hlt
  · have := h.inc s t hlt ht; omega
  · exact he
  · have := h.inc t s hlt hs; omega

/-- The row that is taken to noughts and is 1 at the free column k, nought at the other free ones: as far as the first t rows tell. -/
def nv (b : List Nat) (g : Nat → Nat → F) (k : Nat) : Nat → Nat → F
  | 0 => fun j => if j = k then 1 else 0
  | t + 1 => fun j => if j = pv b t then -(g t k) else nv b g k t j
theorem nv_off (b : List Nat) (g : Nat → Nat → F) (k : Nat) {j : Nat} : ∀ t, (∀ s, s < t → j ≠ pv b s) → nv b g k t j = if j = k then 1 else 0
  | 0, _ => rfl
  | t + 1, h => by
    show (if j = pv b t then _ else nv b g k t j) = _
    rw [if_neg (h t (Nat.lt_succ_self t)), nv_off b g k t fun s hs => h s (by omega)]
theorem nv_free (b : List Nat) (g : Nat → Nat → F) (k : Nat) {j : Nat} (h : j ∉ b) {t : Nat} (ht : t ≤ b.length) : nv b g k t j = if j = k then 1 else 0 :=
  nv_off b g k t fun s hs e => h (by rw [e]; exact pv_mem (by omega))
theorem Steps.nv_piv {r c : Nat} {b : List Nat} {g : Nat → Nat → F} (h : Steps r c b g) (k : Nat) : ∀ (t : Nat), t ≤ b.length → ∀ s, s < t → nv b g k t (pv b s) = -(g s k)
  | 0, _, s, hs => absurd hs (by omega)
  | t + 1, ht, s, hs => by
    show (if pv b s = pv b t then _ else nv b g k t (pv b s)) = _
    by_cases e : s = t
    · rw [e, if_pos rfl]
    · rw [if_neg fun e' => e (h.inj (by omega) (by omega) e'), h.nv_piv k t (by omega) s (by omega)]
theorem nv_congr {b : List Nat} {g g' : Nat → Nat → F} {k : Nat} : ∀ (t : Nat), (∀ s, s < t → g s k = g' s k) → nv b g k t = nv b g' k t
  | 0, _ => rfl
  | t + 1, h => by
    show (fun j => if j = pv b t then -(g t k) else nv b g k t j) = fun j => if j = pv b t then -(g' t k) else nv b g' k t j
    rw [h t (Nat.lt_succ_self t), nv_congr t fun s hs => h s (by omega)]
/-- It is taken to noughts. -/
theorem Steps.nv_zero {r c : Nat} {b : List Nat} {f g : Nat → Nat → F} (h : Steps r c b g) (e : Req r c f g) {k : Nat} (hk : k < c) (hkb : k ∉ b) {i : Nat} (hi : i < r) : tov c f (nv b g k b.length) i = 0 := by
  have hg : ∀ x, x < r → tov c g (nv b g k b.length) x = tov c g (fun _ => 0) x := fun x hx => by
    rw [tov_none]
    unfold tov
    by_cases hl : x < b.length
    · have hne : k ≠ pv b x := fun e => hkb (by rw [e]; exact pv_mem hl)
      rw [sg_two hk (h.lt x hl) hne fun j hj h1 h2 => ?_]
      · rw [nv_free b g k hkb (Nat.le_refl _), if_pos rfl, h.nv_piv k _ (Nat.le_refl _) x hl, h.piv x hl x hx, if_pos rfl]; grind
      · by_cases hjb : j ∈ b
        · obtain ⟨t, ht, rfl⟩ := h.mem hjb
          rw [h.piv t ht x hx, if_neg fun e => h2 (by rw [e])]; grind
        · rw [nv_free b g k hjb (Nat.le_refl _), if_neg h1]; grind
    · rw [sg_congr (g := fun _ => 0) fun j hj => by rw [h.zero x (by omega) hx j hj]; grind, sg_none]
  rw [tov_come e.1 hg hi, tov_none]

/-- Nought at the free columns. -/
def Off (b : List Nat) (c : Nat) (v : Nat → F) : Prop := ∀ j, j < c → j ∉ b → v j = 0
theorem Off.more {b : List Nat} {c : Nat} {v w : Nat → F} (h : Off b c v) (h' : Off b c w) (a : F) : Off b c (fun j => v j + a * w j) := fun j hj hb => by
  show v j + a * w j = 0
  rw [h j hj hb, h' j hj hb]; grind
theorem Off.less {b : List Nat} {c : Nat} {v w : Nat → F} (h : Off b c v) (h' : Off b c w) : Off b c (fun j => v j - w j) := fun j hj hb => by
  show v j - w j = 0
  rw [h j hj hb, h' j hj hb]; grind
/-- Taken to noughts, and nought at the free columns: nought. -/
theorem Steps.off_zero {r c : Nat} {b : List Nat} {f g : Nat → Nat → F} (h : Steps r c b g) (e : Req r c f g) {v : Nat → F} (ho : Off b c v) (hz : ∀ i, i < r → tov c f v i = 0) : ∀ j, j < c → v j = 0 := fun j hj => by
  by_cases hb : j ∈ b
  · obtain ⟨t, ht, rfl⟩ := h.mem hb
    have htr : t < r := Nat.lt_of_lt_of_le ht h.le
    have h1 : tov c g v t = 0 := by
      have := tov_come e.2 (v := v) (w := fun _ => 0) (fun x hx => by rw [hz x hx, tov_none]) htr
      rw [this, tov_none]
    unfold tov at h1
    rw [sg_one hj fun s hs hne => ?_, h.piv t ht t htr, if_pos rfl] at h1
    · rw [← h1]; grind
    · by_cases hsb : s ∈ b
      · obtain ⟨q, hq, rfl⟩ := h.mem hsb
        rw [h.piv q hq t htr, if_neg fun e => hne (by rw [e])]; grind
      · rw [ho s hs hsb]; grind
  · exact ho j hj hb
theorem Steps.off_one {r c : Nat} {b : List Nat} {f g : Nat → Nat → F} (h : Steps r c b g) (e : Req r c f g) {v w : Nat → F} (ho : Off b c v) (ho' : Off b c w) (hz : ∀ i, i < r → tov c f v i = tov c f w i) : ∀ j, j < c → v j = w j := fun j hj => by
  have := h.off_zero e (ho.less ho') (fun i hi => by rw [tov_less, hz i hi]; grind) j hj
  grind
/-- What is taken somewhere: something that is nought at the free columns is taken there. -/
theorem Steps.off_some {r c : Nat} {b : List Nat} {f g : Nat → Nat → F} (h : Steps r c b g) (e : Req r c f g) (z : Nat → F) : ∃ y, Off b c y ∧ ∀ i, i < r → tov c f y i = tov c f z i := by
  refine ⟨fun j => sg b.length fun t => if j = pv b t then tov c g z t else 0, fun j _ hb => ?_, fun i hi => tov_come e.1 (fun x hx => ?_) hi⟩
  · dsimp only
    rw [sg_congr (g := fun _ => 0) fun t ht => by rw [if_neg fun e => hb (by rw [e]; exact pv_mem ht)], sg_none]
  · by_cases hl : x < b.length
    · have hy : ∀ t, t < b.length → (sg b.length fun s => if pv b t = pv b s then tov c g z s else 0) = tov c g z t := fun t ht => by
        rw [sg_one ht fun s hs hne => by rw [if_neg fun e => hne (h.inj hs ht e.symm)], if_pos rfl]
      show sg c (fun j => g x j * sg b.length fun s => if j = pv b s then tov c g z s else 0) = _
      rw [sg_one (h.lt x hl) fun j hj hne => ?_, hy x hl, h.piv x hl x hx, if_pos rfl]
      · grind
      · by_cases hjb : j ∈ b
        · obtain ⟨t, ht, rfl⟩ := h.mem hjb
          rw [h.piv t ht x hx, if_neg fun e => hne (by rw [e])]; grind
        · rw [sg_congr (g := fun _ => 0) fun t ht => by rw [if_neg fun e => hjb (by rw [e]; exact pv_mem ht)], sg_none]; grind
    · have hz : ∀ v : Nat → F, tov c g v x = 0 := fun v => by
        unfold tov
        rw [sg_congr (g := fun _ => 0) fun j hj => by rw [h.zero x (by omega) hx j hj]; grind, sg_none]
      rw [hz, hz]

/-- THE answer of a system: nought at the free columns. -/
structure Ans (r c : Nat) (f : Nat → Nat → F) (tt0 : Nat → F) (b : List Nat) (x : Nat → F) : Prop where
  off : Off b c x
  sol : ∀ i, i < r → tov c f x i = tt0 i
/-- There is none at all. -/
def NoAns (r c : Nat) (f : Nat → Nat → F) (tt0 : Nat → F) : Prop := ¬ ∃ z : Nat → F, ∀ i, i < r → tov c f z i = tt0 i
theorem Ans.one {r c : Nat} {f g : Nat → Nat → F} {tt0 : Nat → F} {b : List Nat} {x y : Nat → F} (h : Steps r c b g) (e : Req r c f g) (hx : Ans r c f tt0 b x) (hy : Ans r c f tt0 b y) : ∀ j, j < c → x j = y j :=
  h.off_one e hx.off hy.off fun i hi => by rw [hx.sol i hi, hy.sol i hi]

/-- What comes of some rows. -/
def Comb (c : Nat) : List (Nat → F) → (Nat → F) → Prop
  | [], v => ∀ j, j < c → v j = 0
  | w :: ws, v => ∃ a, Comb c ws fun j => v j - a * w j
theorem Comb.congr {c : Nat} : ∀ {ws : List (Nat → F)} {u v : Nat → F}, Comb c ws u → (∀ j, j < c → u j = v j) → Comb c ws v
  | [], u, v, h, e => fun j hj => by rw [← e j hj]; exact h j hj
  | w :: ws, u, v, ⟨a, h⟩, e => ⟨a, h.congr fun j hj => by rw [e j hj]⟩
theorem Comb.less {c : Nat} (w : Nat → F) (a : F) : ∀ {ws : List (Nat → F)} {v : Nat → F}, Comb c ws v → (k : Nat) → (hk : k < ws.length) → (he : ws[k] = w) → Comb c ws fun j => v j - a * w j
  | [], v, h, k, hk, he => absurd hk (by simp)
  | w' :: ws, v, ⟨d, h⟩, 0, hk, he => by
    simp at he; subst he
    exact ⟨d - a, h.congr fun j _ => by grind⟩
  | w' :: ws, v, ⟨d, h⟩, k + 1, hk, he => by
    refine ⟨d, ?_⟩
    refine (Comb.less w a h k (by simpa using hk) (by simpa using he)).congr fun j _ => ?_
    grind
/-- Row i of f is where the k-th way moves. -/
theorem Comb.take {c : Nat} : ∀ {ws : List (Nat → F)} {v : Nat → F}, Comb c ws v → (k : Nat) → (hk : k < ws.length) → ∃ a, Comb c (ws.eraseIdx k) fun j => v j - a * ws[k] j
  | [], v, h, k, hk => absurd hk (by simp)
  | w :: ws, v, ⟨d, h⟩, 0, hk => ⟨d, by simpa using h⟩
  | w :: ws, v, ⟨d, h⟩, k + 1, hk => by
    obtain ⟨a, h2⟩ := h.take k (by simpa using hk)
    refine ⟨a, ?_⟩
    rw [List.eraseIdx_cons_succ]
    refine ⟨d, h2.congr fun j _ => ?_⟩
    simp only [List.getElem_cons_succ]
    grind
/-- Each of the rows moved along one: the same, but for so many times that one. -/
theorem Comb.moved {c : Nat} (w : Nat → F) (m : (Nat → F) → F) : ∀ {ws : List (Nat → F)} {v : Nat → F}, Comb c ws v → ∃ a, Comb c (ws.map fun u j => u j + m u * w j) fun j => v j - a * w j
  | [], v, h => ⟨0, fun j hj => by show v j - 0 * w j = 0; rw [h j hj]; grind⟩
  | u :: ws, v, ⟨d, h⟩ => by
    obtain ⟨a, h2⟩ := Comb.moved w m h
    exact ⟨a - d * m u, d, h2.congr fun j _ => by dsimp only; grind⟩
/-- What all ways take to nought, all that comes of them does. -/
theorem Comb.still {c : Nat} {f : Nat → Nat → F} {i : Nat} : ∀ {ws : List (Nat → F)} {v : Nat → F}, Comb c ws v → (∀ w, w ∈ ws → tov c f w i = 0) → tov c f v i = 0
  | [], v, h, _ => by rw [tov_congr (w := fun _ => 0) (fun _ _ => rfl) h, tov_none]
  | w :: ws, v, ⟨a, h⟩, h0 => by
    have h1 := h.still fun u hu => h0 u (List.mem_cons_of_mem _ hu)
    have h2 := tov_more c f v w (-a) i
    have e : (fun j => v j - a * w j) = fun j => v j + -a * w j := by funext j; grind
    rw [e, h2, h0 w (List.mem_cons_self ..)] at h1
    rw [← h1]; grind

/-- A way moved along another one until row i takes it where it should go. -/
def mv (c : Nat) (f : Nat → Nat → F) (i : Nat) (want : F) (w u : Nat → F) : Nat → F := fun j => u j + ((want - tov c f u i) * Fp.inv (tov c f w i)) * w j
theorem mv_there {c : Nat} {f : Nat → Nat → F} {i : Nat} {want : F} {w u : Nat → F} (h0 : tov c f w i ≠ 0) : tov c f (mv c f i want w u) i = want := by
  show tov c f (fun j => u j + ((want - tov c f u i) * Fp.inv (tov c f w i)) * w j) i = want
  rw [tov_more]
  have h1 := inv_mul h0
  generalize Fp.inv (tov c f w i) = v at *
  generalize tov c f w i = t at *
  have : (want - tov c f u i) * v * t = (want - tov c f u i) * (v * t) := by grind
  rw [this, h1]; grind
theorem mv_still {c : Nat} {f : Nat → Nat → F} {i s : Nat} {want : F} {w u : Nat → F} (h0 : tov c f w s = 0) : tov c f (mv c f i want w u) s = tov c f u s := by
  show tov c f (fun j => u j + ((want - tov c f u i) * Fp.inv (tov c f w i)) * w j) s = _
  rw [tov_more, h0]; grind
theorem mv_off {c : Nat} {f : Nat → Nat → F} {i : Nat} {want : F} {w u : Nat → F} {b : List Nat} (hw : Off b c w) (hu : Off b c u) : Off b c (mv c f i want w u) := hu.more hw _

/-- The first i rows are met by x and by what comes of x and the ways, and by nothing else that is nought at the free columns. -/
structure Srch (c : Nat) (f : Nat → Nat → F) (tt0 : Nat → F) (b : List Nat) (i : Nat) (x : Nat → F) (ws : List (Nat → F)) : Prop where
  offx : Off b c x
  offw : ∀ w, w ∈ ws → Off b c w
  solx : ∀ s, s < i → tov c f x s = tt0 s
  solw : ∀ w, w ∈ ws → ∀ s, s < i → tov c f w s = 0
  all : ∀ y, Off b c y → (∀ s, s < i → tov c f y s = tt0 s) → Comb c ws fun j => y j - x j

theorem comb_units (c : Nat) : ∀ (b : List Nat) (y : Nat → F), Off b c y → Comb c (b.map fun k j => if j = k then 1 else 0) y
  | [], y, h => fun j hj => h j hj (by simp)
  | k :: b, y, h => by
    refine ⟨y k, comb_units c b _ fun j hj hb => ?_⟩
    show y j - y k * (if j = k then 1 else 0) = 0
    by_cases e : j = k
    · rw [if_pos e, e]; grind
    · rw [if_neg e, h j hj (by simp [e, hb])]; grind
theorem Srch.start (c : Nat) (f : Nat → Nat → F) (tt0 : Nat → F) (b : List Nat) : Srch c f tt0 b 0 (fun _ => 0) (b.map fun k j => if j = k then 1 else 0) := by
  refine ⟨fun _ _ _ => rfl, fun w hw j hj hb => ?_, fun s hs => absurd hs (by omega), fun w _ s hs => absurd hs (by omega), fun y hy _ => (comb_units c b y hy).congr fun j _ => by grind⟩
  obtain ⟨k, hk, rfl⟩ := List.mem_map.1 hw
  show (if j = k then (1 : F) else 0) = 0
  rw [if_neg fun e => hb (by rw [e]; exact hk)]
theorem Srch.keep {c : Nat} {f : Nat → Nat → F} {tt0 : Nat → F} {b : List Nat} {i : Nat} {x : Nat → F} {ws : List (Nat → F)} (h : Srch c f tt0 b i x ws) (h0 : ∀ w, w ∈ ws → tov c f w i = 0) (hx : tov c f x i = tt0 i) : Srch c f tt0 b (i + 1) x ws :=
  ⟨h.offx, h.offw, fun s hs => by
    by_cases e : s = i
    · rw [e, hx]
    · exact h.solx s (by omega), fun w hw s hs => by
    by_cases e : s = i
    · rw [e, h0 w hw]
    · exact h.solw w hw s (by omega), fun y hy hs => h.all y hy fun s h' => hs s (by omega)⟩
theorem Srch.fail {r c : Nat} {f g : Nat → Nat → F} {tt0 : Nat → F} {b : List Nat} {i : Nat} {x : Nat → F} {ws : List (Nat → F)} (h : Srch c f tt0 b i x ws) (st : Steps r c b g) (e : Req r c f g) (hi : i < r) (h0 : ∀ w, w ∈ ws → tov c f w i = 0) (hx : tov c f x i ≠ tt0 i) : NoAns r c f tt0 := by
  rintro ⟨z, hz⟩
  obtain ⟨y, hy, hyz⟩ := st.off_some e z
  have h1 := (h.all y hy fun s hs => by rw [hyz s (by omega), hz s (by omega)]).still h0
  rw [tov_less, hyz i hi, hz i hi] at h1
  exact hx (by grind)
theorem Srch.move {c : Nat} {f : Nat → Nat → F} {tt0 : Nat → F} {b : List Nat} {i : Nat} {x : Nat → F} {ws : List (Nat → F)} (h : Srch c f tt0 b i x ws) (k : Nat) (hk : k < ws.length) (h0 : tov c f ws[k] i ≠ 0) :
    Srch c f tt0 b (i + 1) (mv c f i (tt0 i) ws[k] x) ((ws.eraseIdx k).map (mv c f i 0 ws[k])) := by
  have hw : ws[k] ∈ ws := List.getElem_mem hk
  have he : ∀ u, u ∈ ws.eraseIdx k → u ∈ ws := fun u hu => (List.eraseIdx_sublist ws k).subset hu
  refine ⟨mv_off (h.offw _ hw) h.offx, fun v hv => ?_, fun s hs => ?_, fun v hv s hs => ?_, fun y hy hs => ?_⟩
  · obtain ⟨u, hu, rfl⟩ := List.mem_map.1 hv
    exact mv_off (h.offw _ hw) (h.offw u (he u hu))
  · by_cases e : s = i
    · rw [e, mv_there h0]
    · rw [mv_still (h.solw _ hw s (by omega)), h.solx s (by omega)]
  · obtain ⟨u, hu, rfl⟩ := List.mem_map.1 hv
    by_cases e : s = i
    · rw [e, mv_there h0]
    · rw [mv_still (h.solw _ hw s (by omega)), h.solw u (he u hu) s (by omega)]
  · obtain ⟨a, h1⟩ := (h.all y hy fun s h' => hs s (by omega)).take k hk
    obtain ⟨d, h2⟩ := Comb.moved ws[k] (fun u => (0 - tov c f u i) * Fp.inv (tov c f ws[k] i)) h1
    have h3 : Comb c ((ws.eraseIdx k).map (mv c f i 0 ws[k])) fun j => (y j - mv c f i (tt0 i) ws[k] x j) + (-(a + d - (tt0 i - tov c f x i) * Fp.inv (tov c f ws[k] i))) * ws[k] j :=
      Comb.congr (c := c) h2 fun j _ => by
        show y j - x j - a * ws[k] j - d * ws[k] j = y j - (x j + ((tt0 i - tov c f x i) * Fp.inv (tov c f ws[k] i)) * ws[k] j) + _
        generalize (tt0 i - tov c f x i) * Fp.inv (tov c f ws[k] i) = q
        generalize ws[k] j = z
        generalize x j = z2
        generalize y j = z3
        grind
    have h4 := h3.still (f := f) (i := i) fun w hw' => by
      obtain ⟨u, hu, rfl⟩ := List.mem_map.1 hw'
      exact mv_there h0
    rw [tov_more, tov_less, mv_there h0, hs i (Nat.lt_succ_self i)] at h4
    have h5 : a + d - (tt0 i - tov c f x i) * Fp.inv (tov c f ws[k] i) = 0 := by
      generalize a + d - (tt0 i - tov c f x i) * Fp.inv (tov c f ws[k] i) = q at *
      generalize tov c f ws[k] i = t at *
      rcases Fp.mul_zero_or (a := q) (b := t) (by grind) with e | e
      · exact e
      · exact absurd e h0
    rw [h5] at h3
    exact h3.congr fun j _ => by grind
theorem Srch.done {r c : Nat} {f : Nat → Nat → F} {tt0 : Nat → F} {b : List Nat} {x : Nat → F} {ws : List (Nat → F)} (h : Srch c f tt0 b r x ws) : Ans r c f tt0 b x := ⟨h.offx, h.solx⟩

/-- The ways as rows of a matrix. -/
def wl (n : Nat) (w : Nat → Nat → F) : List (Nat → F) := (List.range n).map w
theorem len_wl (n : Nat) (w : Nat → Nat → F) : (wl n w).length = n := by simp [wl]
theorem wl_at (n : Nat) (w : Nat → Nat → F) {k : Nat} (hk : k < (wl n w).length) : (wl n w)[k] = w k := by simp [wl]
theorem wl_mem {n : Nat} {w : Nat → Nat → F} {v : Nat → F} : v ∈ wl n w ↔ ∃ k, k < n ∧ w k = v := by simp [wl]
theorem wl_erase (n : Nat) (w : Nat → Nat → F) (k : Nat) (hk : k < n + 1) : (wl (n + 1) w).eraseIdx k = wl n fun i => w (sk k i) := by
  refine List.ext_getElem (by simp [wl, List.length_eraseIdx, hk]) fun i h1 h2 => ?_
  rw [List.getElem_eraseIdx]
  have h3 : i < n := by simpa [wl] using h2
  by_cases e : i < k
  · simp [wl, e, sk]
  · simp [wl, e, sk]
theorem wl_map (n : Nat) (w : Nat → Nat → F) (m : (Nat → F) → Nat → F) : (wl n w).map m = wl n fun i => m (w i) := by simp [wl]
theorem wl_units (b : List Nat) : (b.map fun k j => if j = k then (1 : F) else 0) = wl b.length fun t j => if j = pv b t then 1 else 0 := by
  refine List.ext_getElem (by simp [wl]) fun i h1 h2 => ?_
  have : i < b.length := by simpa using h1
  simp [wl, pv, this]

/-- With one more column. -/
def aug (c : Nat) (f : Nat → Nat → F) (tt0 : Nat → F) : Nat → Nat → F := fun i j => if j = c then tt0 i else f i j
theorem Req.less {r c d : Nat} {f g : Nat → Nat → F} (h : Req r c f g) (hd : d ≤ c) : Req r d f g := by
  obtain ⟨⟨s, hs⟩, ⟨t, ht⟩⟩ := h
  exact ⟨⟨s, fun i j hi hj => hs i j hi (by omega)⟩, ⟨t, fun i j hi hj => ht i j hi (by omega)⟩⟩
theorem aug_less (r c : Nat) (f : Nat → Nat → F) (tt0 : Nat → F) : Eqm r c f (aug c f tt0) := fun i j _ hj => by
  show f i j = if j = c then tt0 i else f i j
  rw [if_neg (by omega)]
theorem aug_tov (c : Nat) (f : Nat → Nat → F) (tt0 : Nat → F) (y : Nat → F) (i : Nat) : tov (c + 1) (aug c f tt0) (fun j => if j = c then -1 else y j) i = tov c f y i - tt0 i := by
  show sg c _ + aug c f tt0 i c * (if c = c then -1 else y c) = _
  rw [if_pos rfl, show aug c f tt0 i c = tt0 i from if_pos rfl]
  have : sg c (fun j => aug c f tt0 i j * (if j = c then -1 else y j)) = tov c f y i := sg_congr fun j hj => by
    rw [if_neg (by omega), show aug c f tt0 i j = f i j from if_neg (by omega)]
  rw [this]; grind
/-- What f takes to to, its steps take to what stands behind them. -/
theorem aug_same {r c : Nat} {f a : Nat → Nat → F} {tt0 : Nat → F} (e : Req r (c + 1) (aug c f tt0) a) (y : Nat → F) : (∀ i, i < r → tov c f y i = tt0 i) ↔ ∀ i, i < r → tov c a y i = a i c := by
  have ha : ∀ i, tov (c + 1) a (fun j => if j = c then -1 else y j) i = tov c a y i - a i c := fun i => by
    have := aug_tov c a (fun i => a i c) y i
    rw [← this]
    refine tov_congr (fun j _ => ?_) fun _ _ => rfl
    show a i j = if j = c then a i c else a i j
    by_cases e : j = c
    · rw [if_pos e, e]
    · rw [if_neg e]
  constructor
  · intro h i hi
    have := tov_come e.2 (v := fun j => if j = c then -1 else y j) (w := fun _ => 0) (fun x hx => by rw [aug_tov, h x hx, tov_none]; grind) hi
    rw [ha, tov_none] at this; grind
  · intro h i hi
    have := tov_come e.1 (v := fun j => if j = c then -1 else y j) (w := fun _ => 0) (fun x hx => by rw [ha, h x hx, tov_none]; grind) hi
    rw [aug_tov, tov_none] at this; grind
/-- The answer read off. -/
def ov (b : List Nat) (a : Nat → Nat → F) (c : Nat) : Nat → Nat → F
  | 0 => fun _ => 0
  | t + 1 => fun j => if j = pv b t then a t c else ov b a c t j
theorem ov_off {b : List Nat} {a : Nat → Nat → F} {c j : Nat} : ∀ t, (∀ s, s < t → j ≠ pv b s) → ov b a c t j = 0
  | 0, _ => rfl
  | t + 1, h => by
    show (if j = pv b t then _ else ov b a c t j) = _
    rw [if_neg (h t (Nat.lt_succ_self t)), ov_off t fun s hs => h s (by omega)]
theorem Steps.ov_piv {r k c : Nat} {b : List Nat} {g a : Nat → Nat → F} (h : Steps r k b g) : ∀ (t : Nat), t ≤ b.length → ∀ s, s < t → ov b a c t (pv b s) = a s c
  | 0, _, s, hs => absurd hs (by omega)
  | t + 1, ht, s, hs => by
    show (if pv b s = pv b t then _ else ov b a c t (pv b s)) = _
    by_cases e : s = t
    · rw [e, if_pos rfl]
    · rw [if_neg fun e' => e (h.inj (by omega) (by omega) e'), h.ov_piv t (by omega) s (by omega)]
theorem aug_ans {r c : Nat} {f a : Nat → Nat → F} {tt0 : Nat → F} {b : List Nat} (h : Steps r c b a) (e : Req r (c + 1) (aug c f tt0) a) (h0 : ∀ i, b.length ≤ i → i < r → a i c = 0) : Ans r c f tt0 b (ov b a c b.length) := by
  have hoff : Off b c (ov b a c b.length) := fun j hj hb => ov_off _ fun s hs e => hb (by rw [e]; exact pv_mem hs)
  refine ⟨hoff, (aug_same e _).2 fun i hi => ?_⟩
  unfold tov
  by_cases hl : i < b.length
  · rw [sg_one (h.lt i hl) fun j hj hne => ?_, h.ov_piv _ (Nat.le_refl _) i hl, h.piv i hl i hi, if_pos rfl]
    · grind
    · by_cases hjb : j ∈ b
      · obtain ⟨t, ht, rfl⟩ := h.mem hjb
        rw [h.piv t ht i hi, if_neg fun e => hne (by rw [e])]; grind
      · rw [hoff j hj hjb]; grind
  · rw [sg_congr (g := fun _ => 0) fun j hj => by rw [h.zero i (by omega) hi j hj]; grind, sg_none, h0 i (by omega) hi]
theorem aug_not {r c : Nat} {f a : Nat → Nat → F} {tt0 : Nat → F} {b : List Nat} (h : Steps r c b a) (e : Req r (c + 1) (aug c f tt0) a) {i : Nat} (hb : b.length ≤ i) (hi : i < r) (h0 : a i c ≠ 0) : NoAns r c f tt0 := by
  rintro ⟨z, hz⟩
  have := (aug_same e z).1 hz i hi
  unfold tov at this
  rw [sg_congr (g := fun _ => 0) fun j hj => by rw [h.zero i hb hi j hj]; grind, sg_none] at this
  exact h0 this.symm
/-- How many steps there are with one more column. -/
theorem aug_rank {r c : Nat} {f g h : Nat → Nat → F} {tt0 : Nat → F} {b d : List Nat} (s : Stair r c c f b g) (t : Stair r (c + 1) (c + 1) (aug c f tt0) d h) :
    ((∃ z : Nat → F, ∀ i, i < r → tov c f z i = tt0 i) → d.length = b.length) ∧ (NoAns r c f tt0 → d.length = b.length + 1) := by
  obtain ⟨b2, a, hs, hr⟩ := steps_some r (c + 1) (aug c f tt0) c (by omega)
  have hfa : Req r c f a := (Req.of r c (aug_less r c f tt0)).trans (hr.less (by omega))
  obtain ⟨rfl, _⟩ := s.steps.unique hs (s.req.symm.trans hfa)
  by_cases h0 : ∀ i, b.length ≤ i → i < r → a i c = 0
  · have hs2 := hs.skip h0
    obtain ⟨rfl, _⟩ := t.steps.unique hs2 (t.req.symm.trans hr)
    exact ⟨fun _ => rfl, fun hn => absurd ⟨_, (aug_ans hs hr h0).sol⟩ hn⟩
  · have : ∃ i, b.length ≤ i ∧ i < r ∧ a i c ≠ 0 := Classical.byContradiction fun hn => h0 fun i h1 h2 => Classical.byContradiction fun h3 => hn ⟨i, h1, h2, h3⟩
    obtain ⟨i, h1, h2, h3⟩ := this
    have hs2 := hs.next h1 h2 h3
    have hle := hs.le
    obtain ⟨rfl, _⟩ := t.steps.unique hs2 ((t.req.symm.trans hr).trans (req_next a (by omega) h2 h3))
    refine ⟨fun hz => absurd hz (aug_not hs hr h1 h2 h3), fun _ => by simp⟩

/-- The rows that are taken to noughts, one behind the other. -/
def nm (b : List Nat) (g : Nat → Nat → F) (c : Nat) : Nat → Nat → F := fun i => nv b g (pv (fr b c) i) b.length
theorem fr_at {b : List Nat} {c i : Nat} (hi : i < (fr b c).length) : pv (fr b c) i < c ∧ pv (fr b c) i ∉ b := fr_mem.1 (pv_mem hi)
theorem fr_inj {b : List Nat} {c i j : Nat} (hi : i < (fr b c).length) (hj : j < (fr b c).length) (e : pv (fr b c) i = pv (fr b c) j) : i = j := by
  have hp := List.pairwise_iff_getElem.1 (fr_pairs b c)
  have e1 : (fr b c)[i] = (fr b c)[j] := by simpa [pv, hi, hj] using e
  rcases Nat.lt_trichotomy i j with h | h | h
  · have := hp i j hi hj h; omega
  · exact h
  · have := hp j i hj hi h; omega
/-- No one of them is made of the others. -/
theorem nm_rank {r c : Nat} {b d : List Nat} {g h : Nat → Nat → F} (s : Stair (fr b c).length c c (nm b g c) d h) : d.length = (fr b c).length := by
  refine Nat.le_antisymm s.le (sees_thru (p := (fr b c).length) ⟨one, fun j i => if j = pv (fr b c) i then 1 else 0, ?_⟩ s.thru)
  refine (one_mul _ _ _).trans fun i j hi hj => ?_
  show sg c (fun x => nm b g c i x * (if x = pv (fr b c) j then 1 else 0)) = one i j
  rw [sg_one (fr_at hj).1 fun x _ hne => by rw [if_neg hne]; grind, if_pos rfl]
  show nv b g (pv (fr b c) i) b.length (pv (fr b c) j) * 1 = _
  rw [nv_free b g _ (fr_at hj).2 (Nat.le_refl _)]
  unfold one
  by_cases e : i = j
  · rw [e, if_pos rfl, if_pos rfl]; grind
  · rw [if_neg fun e' => e (fr_inj hj hi e').symm, if_neg e]; grind
theorem fr_next {b : List Nat} {c k : Nat} (hk : k < c) (hkb : k ∉ b) : (fr b k).length < (fr b c).length ∧ pv (fr b c) (fr b k).length = k := by
  have h : ∀ n, ∃ l, fr b (k + 1 + n) = fr b k ++ k :: l := by
    intro n
    induction n with
    | zero => exact ⟨[], by rw [Nat.add_zero, fr_no hkb]⟩
    | succ n ih =>
      obtain ⟨l, hl⟩ := ih
      by_cases e : k + 1 + n ∈ b
      · exact ⟨l, by rw [← Nat.add_assoc, fr_yes e, hl]⟩
      · exact ⟨l ++ [k + 1 + n], by rw [← Nat.add_assoc, fr_no e, hl]; simp⟩
  obtain ⟨l, hl⟩ := h (c - (k + 1))
  rw [show k + 1 + (c - (k + 1)) = c by omega] at hl
  rw [hl]
  exact ⟨by simp, by simp [pv]⟩

/-- One answer, and so many times what is taken to noughts. -/
def tot (b : List Nat) (g : Nat → Nat → F) (x y : Nat → F) : Nat → Nat → F
  | 0 => y
  | k + 1 => if k ∈ b then tot b g x y k else fun j => tot b g x y k j + x k * nv b g k b.length j
theorem tot_free {b : List Nat} {g : Nat → Nat → F} {x y : Nat → F} {j : Nat} (hj : j ∉ b) : ∀ k, tot b g x y k j = y j + if j < k then x j else 0
  | 0 => by show y j = _; rw [if_neg (by omega)]; grind
  | k + 1 => by
    show (if k ∈ b then tot b g x y k else fun j => tot b g x y k j + x k * nv b g k b.length j) j = _
    by_cases hk : k ∈ b
    · rw [if_pos hk, tot_free hj k]
      have : j ≠ k := fun e => hj (by rw [e]; exact hk)
      by_cases h : j < k
      · rw [if_pos h, if_pos (by omega)]
      · rw [if_neg h, if_neg (by omega)]
    · rw [if_neg hk]
      show tot b g x y k j + x k * nv b g k b.length j = _
      rw [tot_free hj k, nv_free b g k hj (Nat.le_refl _)]
      by_cases e : j = k
      · rw [if_pos e, if_neg (by omega), if_pos (by omega), e]; grind
      · rw [if_neg e]
        by_cases h : j < k
        · rw [if_pos h, if_pos (by omega)]; grind
        · rw [if_neg h, if_neg (by omega)]; grind
theorem tot_sol {r c : Nat} {b : List Nat} {f g : Nat → Nat → F} {x y : Nat → F} (h : Steps r c b g) (e : Req r c f g) {i : Nat} (hi : i < r) : ∀ k, k ≤ c → tov c f (tot b g x y k) i = tov c f y i
  | 0, _ => rfl
  | k + 1, hk => by
    show tov c f (if k ∈ b then tot b g x y k else fun j => tot b g x y k j + x k * nv b g k b.length j) i = _
    by_cases hkb : k ∈ b
    · rw [if_pos hkb, tot_sol h e hi k (by omega)]
    · rw [if_neg hkb, tov_more, tot_sol h e hi k (by omega), h.nv_zero e (by omega) hkb hi]; grind
theorem tot_all {r c : Nat} {b : List Nat} {f g : Nat → Nat → F} {x y : Nat → F} (s : Stair r c c f b g) (hy : Ans r c f (tov c f x) b y) : ∀ j, j < c → tot b g x y c j = x j := fun j hj => by
  have h := s.steps.off_zero s.req (v := fun j => tot b g x y c j - x j) (fun j hj hb => by
    show tot b g x y c j - x j = 0
    rw [tot_free hb, hy.off j hj hb, if_pos hj]; grind) (fun i hi => by rw [tov_less, tot_sol s.steps s.req hi c (Nat.le_refl _), hy.sol i hi]; grind) j hj
  have h : tot b g x y c j - x j = 0 := h
  grind
end Go.Proofs.Ytldkamhknaflbaa.Mx
