/- What the program of the ways that do not meet goes through: heights in turn, sums over them; that they are the document's number. No program is named here. -/
import Derived.Test.YtolkdbijenbchaaPth
namespace Go.Proofs.Ytolkdbijenbchaa.Zx
set_option linter.unusedVariables false

/-- The sum over a list. -/
def lsm : List (List Nat) → (List Nat → Int) → Int
  | [], _ => 0
  | m :: l, f => f m + lsm l f
theorem lsm_append : ∀ (l l' : List (List Nat)) (f : List Nat → Int), lsm (l ++ l') f = lsm l f + lsm l' f
  | [], l', f => by show _ = 0 + lsm l' f; rw [Int.zero_add]; rfl
  | m :: l, l', f => by show f m + lsm (l ++ l') f = f m + lsm l f + lsm l' f; rw [lsm_append l l' f]; omega
theorem lsm_one (m : List Nat) (f : List Nat → Int) : lsm [m] f = f m := Int.add_zero _
theorem lsm_snoc (l : List (List Nat)) (m : List Nat) (f : List Nat → Int) : lsm (l ++ [m]) f = lsm l f + f m := by rw [lsm_append, lsm_one]
theorem lsm_bound {f : List Nat → Int} {b : Int} : ∀ (l : List (List Nat)), (∀ m, m ∈ l → 0 ≤ f m ∧ f m ≤ b) → 0 ≤ lsm l f ∧ lsm l f ≤ (l.length : Int) * b
  | [], _ => by show 0 ≤ (0 : Int) ∧ (0 : Int) ≤ _; rw [show ((([] : List (List Nat)).length : Nat) : Int) = 0 from rfl, Int.zero_mul]; omega
  | m :: l, h => by
    have h1 := lsm_bound l fun m' hm => h m' (List.mem_cons_of_mem _ hm)
    have h2 := h m List.mem_cons_self
    show 0 ≤ f m + lsm l f ∧ f m + lsm l f ≤ _
    rw [List.length_cons, show ((l.length + 1 : Nat) : Int) = (l.length : Int) + 1 by omega, Int.add_mul, Int.one_mul]
    omega
/-- What a loop over one height hands on, after c rounds. -/
def rlt (f : List Nat → List (List Nat)) (i : Nat) (h : List Nat) : Nat → List (List Nat)
  | 0 => []
  | c + 1 => rlt f i h c ++ f (h.set i (h.getD i 0 + c))
/-- Below this the height at i may rise. -/
def lim (i : Nat) (h t : List Nat) : Nat := if i + 1 < 3 then min (t.getD i 0 + 1) (h.getD (i + 1) 0) else t.getD i 0 + 1
/-- What is handed on from place i on, with k places left. -/
def rsn (t : List Nat) : Nat → Nat → List Nat → List (List Nat)
  | 0, _, h => [h]
  | k + 1, i, h => rlt (rsn t k (i + 1)) i h (lim i h t - h.getD i 0)
/-- Three heights within 9. -/
structure H3 (h : List Nat) : Prop where
  len : h.length = 3
  le : ∀ i, h.getD i 0 ≤ 9
theorem H3.set {h : List Nat} (s : H3 h) {i x : Nat} (hx : x ≤ 9) : H3 (h.set i x) := by
  refine ⟨by rw [List.length_set]; exact s.len, fun j => ?_⟩
  rw [List.getD_eq_getElem?_getD, List.getElem?_set]
  by_cases e : i = j
  · rw [if_pos e]
    split
    · exact hx
    · exact Nat.zero_le _
  · rw [if_neg e, ← List.getD_eq_getElem?_getD]; exact s.le j
theorem lim_le {t : List Nat} (s : H3 t) (i : Nat) (h : List Nat) : lim i h t ≤ 10 := by
  have := s.le i
  unfold lim
  split <;> omega
theorem rlt_mem {f : List Nat → List (List Nat)} {i : Nat} {h m : List Nat} : ∀ {c : Nat}, m ∈ rlt f i h c → ∃ k, k < c ∧ m ∈ f (h.set i (h.getD i 0 + k))
  | 0, hm => by cases hm
  | c + 1, hm => by
    rcases List.mem_append.1 hm with h1 | h1
    · obtain ⟨k, hk, h2⟩ := rlt_mem h1; exact ⟨k, by omega, h2⟩
    · exact ⟨c, Nat.lt_succ_self c, h1⟩
theorem rsn_h3 {t : List Nat} (st : H3 t) : ∀ (k i : Nat) {h : List Nat}, H3 h → ∀ m, m ∈ rsn t k i h → H3 m
  | 0, i, h, s, m, hm => by rw [List.mem_singleton.1 hm]; exact s
  | k + 1, i, h, s, m, hm => by
    obtain ⟨c, hc, h1⟩ := rlt_mem hm
    have := lim_le st i h
    exact rsn_h3 st k (i + 1) (s.set (by omega)) m h1
theorem rlt_len {f : List Nat → List (List Nat)} {b : Nat} {i : Nat} {h : List Nat} : ∀ {c : Nat}, (∀ k, k < c → (f (h.set i (h.getD i 0 + k))).length ≤ b) → (rlt f i h c).length ≤ c * b
  | 0, _ => Nat.zero_le _
  | c + 1, hf => by
    have h1 := rlt_len (c := c) fun k hk => hf k (by omega)
    have h2 := hf c (Nat.lt_succ_self c)
    show (rlt f i h c ++ _).length ≤ _
    rw [List.length_append, Nat.add_mul, Nat.one_mul]; omega
theorem rlt_mono {f : List Nat → List (List Nat)} {i : Nat} {h : List Nat} {n : Nat} : ∀ {m : Nat}, n ≤ m → (rlt f i h n).length ≤ (rlt f i h m).length
  | 0, hn => by rw [show n = 0 by omega]; exact Nat.le_refl _
  | m + 1, hn => by
    by_cases e : n = m + 1
    · rw [e]; exact Nat.le_refl _
    · have := rlt_mono (f := f) (i := i) (h := h) (show n ≤ m by omega)
      show _ ≤ (rlt f i h m ++ _).length
      rw [List.length_append]; omega
theorem rsn_len {t : List Nat} (st : H3 t) : ∀ (k i : Nat) (h : List Nat), (rsn t k i h).length ≤ 10 ^ k
  | 0, i, h => Nat.le_refl _
  | k + 1, i, h => by
    refine Nat.le_trans (rlt_len fun c _ => rsn_len st k (i + 1) _) ?_
    have := lim_le st i h
    rw [Nat.pow_succ, Nat.mul_comm]
    exact Nat.mul_le_mul_left _ (by omega)
/-- The program's number. -/
def fam (t : List Nat) : Nat → List Nat → Int
  | 0, h => lsm (rsn t 3 0 h) fun m => if m = t then 1 else 0
  | w + 1, h => lsm (rsn t 3 0 h) fun m => fam t w m
theorem lsm_thousand {t : List Nat} (st : H3 t) {h : List Nat} {f : List Nat → Int} {b : Int} (hb : 0 ≤ b) (hf : ∀ m, m ∈ rsn t 3 0 h → 0 ≤ f m ∧ f m ≤ b) : 0 ≤ lsm (rsn t 3 0 h) f ∧ lsm (rsn t 3 0 h) f ≤ 1000 * b := by
  have h1 := lsm_bound _ hf
  have h2 := rsn_len st 3 0 h
  have h3 : ((rsn t 3 0 h).length : Int) * b ≤ 1000 * b := Int.mul_le_mul_of_nonneg_right (by omega) hb
  omega
theorem fam_bound {t : List Nat} (st : H3 t) : ∀ (w : Nat) {h : List Nat}, H3 h → 0 ≤ fam t w h ∧ fam t w h ≤ 1000 ^ (w + 1)
  | 0, h, s => by
    have := lsm_thousand st (h := h) (f := fun m => if m = t then 1 else 0) (b := 1) (by decide) fun m _ => by
      show 0 ≤ (if m = t then (1 : Int) else 0) ∧ (if m = t then (1 : Int) else 0) ≤ 1
      split <;> decide
    exact this
  | w + 1, h, s => by
    have := lsm_thousand st (b := 1000 ^ (w + 1)) (Int.le_of_lt (Int.pow_pos (by decide))) fun m hm => fam_bound st w (rsn_h3 st 3 0 s m hm)
    rw [Int.pow_succ, Int.mul_comm]
    exact this
/-- Sums over loops. -/
theorem lsm_rlt {f : List Nat → List (List Nat)} {i : Nat} {h : List Nat} (F : List Nat → Int) : ∀ c : Nat, lsm (rlt f i h c) F = sg c fun k => lsm (f (h.set i (h.getD i 0 + k))) F
  | 0 => rfl
  | c + 1 => by
    show lsm (rlt f i h c ++ _) F = sg c _ + _
    rw [lsm_append, lsm_rlt F c]
theorem lsm_three (a b c t u v : Nat) (F : List Nat → Int) : lsm (rsn [t, u, v] 3 0 [a, b, c]) F = bs a (min (t + 1) b) fun x => bs b (min (u + 1) c) fun y => bs c (v + 1) fun z => F [x, y, z] := by
  show lsm (rlt (rsn [t, u, v] 2 1) 0 [a, b, c] (min (t + 1) b - a)) F = _
  rw [lsm_rlt]
  refine sg_congr fun x _ => ?_
  show lsm (rlt (rsn [t, u, v] 1 2) 1 [a + x, b, c] (min (u + 1) c - b)) F = _
  rw [lsm_rlt]
  refine sg_congr fun y _ => ?_
  show lsm (rlt (rsn [t, u, v] 0 3) 2 [a + x, b + y, c] (v + 1 - c)) F = _
  rw [lsm_rlt]
  exact sg_congr fun z _ => lsm_one _ _
theorem bs_less {lo m hi : Nat} {f : Nat → Int} (h : m ≤ hi) (hz : ∀ t, lo ≤ t → m ≤ t → t < hi → f t = 0) : bs lo hi f = bs lo m f := by
  by_cases h1 : lo ≤ m
  · rw [bs_cut h1 h, bs_congr (lo := m) (g := fun _ => 0) fun t h2 h3 => hz t (by omega) h2 h3, bs_zero, Int.add_zero]
  · rw [bs_none (lo := lo) (hi := m) (by omega), bs_congr (g := fun _ => 0) fun t h2 h3 => hz t h2 (by omega) h3, bs_zero]
theorem bs_one (lo : Nat) (f : Nat → Int) : bs lo (lo + 1) f = f lo := by
  rw [bs_first (Nat.lt_succ_self lo), bs_none (Nat.le_refl _), Int.add_zero]
/-- Past its end no way comes back. -/
theorem ap_out1 : ∀ (w : Nat) {a t : Nat}, t < a → ap w [a] [t] = 0
  | 0, a, t, h => (boxes_congr (G := fun _ => 0) fun m hm => by
      match m, hm with
      | [x], hm => exact if_neg (fun e => by have := (List.cons.inj e).1; have := hm.1; omega)).trans (boxes_zero _)
  | w + 1, a, t, h => (boxes_congr (G := fun _ => 0) fun m hm => by
      match m, hm with
      | [x], hm => exact ap_out1 w (by have := hm.1; omega)).trans (boxes_zero _)
theorem ap_out2 : ∀ (w : Nat) {a b t u : Nat}, t < a ∨ u < b → ap w [a, b] [t, u] = 0
  | 0, a, b, t, u, h => (boxes_congr (G := fun _ => 0) fun m hm => by
      match m, hm with
      | [x, y], hm => exact if_neg (fun e => by have := (List.cons.inj e).1; have := (List.cons.inj (List.cons.inj e).2).1; have := hm.1.1; have := hm.2.1; omega)).trans (boxes_zero _)
  | w + 1, a, b, t, u, h => (boxes_congr (G := fun _ => 0) fun m hm => by
      match m, hm with
      | [x, y], hm => exact ap_out2 w (by have := hm.1.1; have := hm.2.1; omega)).trans (boxes_zero _)
theorem ap_out3 : ∀ (w : Nat) {a b c t u v : Nat}, t < a ∨ u < b ∨ v < c → ap w [a, b, c] [t, u, v] = 0
  | 0, a, b, c, t, u, v, h => (boxes_congr (G := fun _ => 0) fun m hm => by
      match m, hm with
      | [x, y, z], hm => exact if_neg (fun e => by have := (List.cons.inj e).1; have := (List.cons.inj (List.cons.inj e).2).1; have := (List.cons.inj (List.cons.inj (List.cons.inj e).2).2).1; have := hm.1.1; have := hm.2.1.1; have := hm.2.2.1; omega)).trans (boxes_zero _)
  | w + 1, a, b, c, t, u, v, h => (boxes_congr (G := fun _ => 0) fun m hm => by
      match m, hm with
      | [x, y, z], hm => exact ap_out3 w (by have := hm.1.1; have := hm.2.1.1; have := hm.2.2.1; omega)).trans (boxes_zero _)
/-- What boxes come to where nothing is past its end. -/
theorem box_trim1 {a t : Nat} (ht : t < 7) {F G : List Nat → Int} (hz : ∀ x, t < x → F [x] = 0) (hG : ∀ x, a ≤ x → x ≤ t → G [x, 8, 9] = F [x]) : lsm (rsn [t, 8, 9] 3 0 [a, 8, 9]) G = boxes [a] F := by
  rw [lsm_three, show min (t + 1) 8 = t + 1 by omega]
  show _ = bs a 7 fun h => F [h]
  rw [bs_less (m := t + 1) (by omega) fun x _ h1 _ => hz x (by omega)]
  refine bs_congr fun x h1 h2 => ?_
  rw [show min (8 + 1) 9 = 8 + 1 from rfl, bs_one, bs_one]
  exact hG x h1 (by omega)
theorem box_trim2 {a b t u : Nat} (hu : u < 7) {F G : List Nat → Int} (hz : ∀ x y, t < x ∨ u < y → F [x, y] = 0) (hG : ∀ x y, a ≤ x → x < b → b ≤ y → y < 7 → G [x, y, 9] = F [x, y]) : lsm (rsn [t, u, 9] 3 0 [a, b, 9]) G = boxes [a, b] F := by
  rw [lsm_three, show min (u + 1) 9 = u + 1 by omega]
  show _ = bs a b fun h => bs b 7 fun k => F [h, k]
  rw [bs_less (lo := a) (m := min (t + 1) b) (hi := b) (by omega) fun x _ h1 h2 => by
    rw [bs_congr (g := fun _ => 0) fun y _ _ => hz x y (by omega), bs_zero]]
  refine bs_congr fun x h1 h2 => ?_
  rw [bs_less (lo := b) (m := u + 1) (hi := 7) (by omega) fun y _ h1 _ => hz x y (by omega)]
  refine bs_congr fun y h3 h4 => ?_
  rw [bs_one]
  exact hG x y h1 (by omega) h3 (by omega)
theorem box_trim3 {a b c t u v : Nat} (hv : v < 7) {F G : List Nat → Int} (hz : ∀ x y z, t < x ∨ u < y ∨ v < z → F [x, y, z] = 0) (hG : ∀ x y z, a ≤ x → x < b → b ≤ y → y < c → c ≤ z → z < 7 → G [x, y, z] = F [x, y, z]) :
    lsm (rsn [t, u, v] 3 0 [a, b, c]) G = boxes [a, b, c] F := by
  rw [lsm_three]
  show _ = bs a b fun h => bs b c fun k => bs c 7 fun l => F [h, k, l]
  rw [bs_less (lo := a) (m := min (t + 1) b) (hi := b) (by omega) fun x _ h1 h2 => by
    rw [bs_congr (g := fun _ => 0) fun y _ _ => by rw [bs_congr (g := fun _ => 0) fun z _ _ => hz x y z (by omega), bs_zero], bs_zero]]
  refine bs_congr fun x h1 h2 => ?_
  rw [bs_less (lo := b) (m := min (u + 1) c) (hi := c) (by omega) fun y _ h1 h2 => by
    rw [bs_congr (g := fun _ => 0) fun z _ _ => hz x y z (by omega), bs_zero]]
  refine bs_congr fun y h3 h4 => ?_
  rw [bs_less (lo := c) (m := v + 1) (hi := 7) (by omega) fun z _ h1 _ => hz x y z (by omega)]
  exact bs_congr fun z h5 h6 => hG x y z h1 (by omega) h3 (by omega) h5 (by omega)
/-- With those that the program puts above all others there are as many. -/
theorem fam1 : ∀ (w : Nat) {a t : Nat}, t < 7 → fam [t, 8, 9] w [a, 8, 9] = ap w [a] [t]
  | 0, a, t, ht => box_trim1 ht (fun x hx => if_neg (fun e => by have := (List.cons.inj e).1; omega)) fun x _ _ => by
      by_cases e : x = t
      · rw [if_pos (by rw [e]), if_pos (by rw [e])]
      · rw [if_neg (fun h => e (List.cons.inj h).1), if_neg (fun h => e (List.cons.inj h).1)]
  | w + 1, a, t, ht => box_trim1 ht (fun x hx => ap_out1 w hx) fun x _ _ => fam1 w ht
theorem fam2 : ∀ (w : Nat) {a b t u : Nat}, u < 7 → fam [t, u, 9] w [a, b, 9] = ap w [a, b] [t, u]
  | 0, a, b, t, u, ht => box_trim2 ht (fun x y h => if_neg (fun e => by have := (List.cons.inj e).1; have := (List.cons.inj (List.cons.inj e).2).1; omega)) fun x y _ _ _ _ => by
      by_cases e : x = t ∧ y = u
      · rw [if_pos (by rw [e.1, e.2]), if_pos (by rw [e.1, e.2])]
      · rw [if_neg (fun h => e ⟨(List.cons.inj h).1, (List.cons.inj (List.cons.inj h).2).1⟩), if_neg (fun h => e ⟨(List.cons.inj h).1, (List.cons.inj (List.cons.inj h).2).1⟩)]
  | w + 1, a, b, t, u, ht => box_trim2 ht (fun x y h => ap_out2 w h) fun x y _ _ _ _ => fam2 w ht
theorem fam3 : ∀ (w : Nat) {a b c t u v : Nat}, v < 7 → fam [t, u, v] w [a, b, c] = ap w [a, b, c] [t, u, v]
  | 0, a, b, c, t, u, v, ht => box_trim3 ht (fun x y z h => if_neg (fun e => by have := (List.cons.inj e).1; have := (List.cons.inj (List.cons.inj e).2).1; have := (List.cons.inj (List.cons.inj (List.cons.inj e).2).2).1; omega)) fun x y z _ _ _ _ _ _ => rfl
  | w + 1, a, b, c, t, u, v, ht => box_trim3 ht (fun x y z h => ap_out3 w h) fun x y z _ _ _ _ _ _ => fam3 w ht
/-- Three heights, those that are not there above all others. -/
def pad (m : List Nat) : List Nat := m ++ [7, 8, 9].drop m.length
theorem ris_le : ∀ {m : List Nat}, Ris m → ∀ i, m.getD i 0 < 7
  | [], _, i => by rw [List.getD_eq_getElem?_getD, List.getElem?_nil]; exact (by decide : 0 < 7)
  | [a], h, 0 => h
  | [a], h, i + 1 => by rw [List.getD_eq_getElem?_getD, List.getElem?_eq_none (by simp)]; exact (by decide : 0 < 7)
  | a :: b :: l, h, 0 => by have := ris_le h.2 0; have := h.1; show a < 7; have e : (b :: l).getD 0 0 = b := rfl; omega
  | a :: b :: l, h, i + 1 => ris_le h.2 i
theorem pad_h3 {m : List Nat} (h : Ris m) (h1 : 1 ≤ m.length) (h3 : m.length ≤ 3) : H3 (pad m) := by
  have hle := ris_le h
  have close : ∀ (l : List Nat), l.length = 3 → l.getD 0 0 ≤ 9 → l.getD 1 0 ≤ 9 → l.getD 2 0 ≤ 9 → H3 l := fun l h1 h2 h3 h4 => ⟨h1, fun i => by
    match i with
    | 0 => exact h2
    | 1 => exact h3
    | 2 => exact h4
    | i + 3 => rw [List.getD_eq_getElem?_getD, List.getElem?_eq_none (by omega)]; exact Nat.zero_le _⟩
  match m, h1, h3 with
  | [a], _, _ => exact close _ rfl (show a ≤ 9 by have := hle 0; have e : [a].getD 0 0 = a := rfl; omega) (by show 8 ≤ 9; decide) (by show 9 ≤ 9; decide)
  | [a, b], _, _ => exact close _ rfl (show a ≤ 9 by have := hle 0; have e : [a, b].getD 0 0 = a := rfl; omega) (show b ≤ 9 by have := hle 1; have e : [a, b].getD 1 0 = b := rfl; omega) (by show 9 ≤ 9; decide)
  | [a, b, c], _, _ => exact close _ rfl (show a ≤ 9 by have := hle 0; have e : [a, b, c].getD 0 0 = a := rfl; omega) (show b ≤ 9 by have := hle 1; have e : [a, b, c].getD 1 0 = b := rfl; omega) (show c ≤ 9 by have := hle 2; have e : [a, b, c].getD 2 0 = c := rfl; omega)
  | _ :: _ :: _ :: _ :: _, _, h3 => exact absurd h3 (by simp)
theorem fam_pad (w : Nat) {m t : List Nat} (h1 : 1 ≤ m.length) (h3 : m.length ≤ 3) (ht : Ris t) (hl : t.length = m.length) : fam (pad t) w (pad m) = ap w m t := by
  have hle := ris_le ht
  match m, t, h1, h3, hl with
  | [a], [t], _, _, _ => exact fam1 w (hle 0)
  | [a, b], [t, u], _, _, _ => exact fam2 w (hle 1)
  | [a, b, c], [t, u, v], _, _, _ => exact fam3 w (hle 2)
  | _ :: _ :: _ :: _ :: _, _, _, h3, _ => exact absurd h3 (by simp)
theorem wy_most : ∀ r : Nat, r < 5 → ∀ u : Nat, u < 7 → 1 ≤ wy r u ∧ wy r u ≤ 210 := by decide +kernel
end Go.Proofs.Ytolkdbijenbchaa.Zx
