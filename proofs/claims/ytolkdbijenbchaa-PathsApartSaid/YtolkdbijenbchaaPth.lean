/- Plain facts on ways that do not meet (Lindstrom; Gessel, Viennot), at most three, over heights below 7. No program is named here. -/
import Derived.Test.YtolkdbijenbchaaMatZ
namespace Go.Proofs.Ytolkdbijenbchaa.Zx
set_option linter.unusedVariables false

/-- The sum from lo on, below hi. -/
def bs (lo hi : Nat) (f : Nat → Int) : Int := sg (hi - lo) fun t => f (lo + t)
theorem bs_none {lo hi : Nat} (h : hi ≤ lo) (f : Nat → Int) : bs lo hi f = 0 := by
  unfold bs
  rw [show hi - lo = 0 by omega]; rfl
theorem bs_congr {lo hi : Nat} {f g : Nat → Int} (h : ∀ t, lo ≤ t → t < hi → f t = g t) : bs lo hi f = bs lo hi g :=
  sg_congr fun t ht => h (lo + t) (by omega) (by omega)
theorem bs_cut {lo mid hi : Nat} (h1 : lo ≤ mid) (h2 : mid ≤ hi) (f : Nat → Int) : bs lo hi f = bs lo mid f + bs mid hi f := by
  unfold bs
  rw [show hi - lo = (mid - lo) + (hi - mid) by omega, sg_split]
  congr 1
  exact sg_congr fun t _ => by rw [show lo + (mid - lo + t) = mid + t by omega]
theorem bs_first {lo hi : Nat} (h : lo < hi) (f : Nat → Int) : bs lo hi f = f lo + bs (lo + 1) hi f := by
  rw [bs_cut (Nat.le_succ lo) h f]
  congr 1
  unfold bs
  rw [show lo.succ - lo = 1 by omega]
  show 0 + f (lo + 0) = f lo
  rw [Nat.add_zero, Int.zero_add]
theorem bs_add (lo hi : Nat) (f g : Nat → Int) : bs lo hi (fun t => f t + g t) = bs lo hi f + bs lo hi g := sg_add _ _ _
theorem bs_by (lo hi : Nat) (a : Int) (f : Nat → Int) : bs lo hi (fun t => f t * a) = bs lo hi f * a := sg_by _ _ _
theorem bs_le {lo hi : Nat} {f g : Nat → Int} (h : ∀ t, lo ≤ t → t < hi → f t ≤ g t) : bs lo hi f ≤ bs lo hi g := by
  have : ∀ (n : Nat) (u v : Nat → Int), (∀ t, t < n → u t ≤ v t) → sg n u ≤ sg n v := fun n u v huv => by
    induction n with
    | zero => exact Int.le_refl _
    | succ n ih =>
      have h1 := ih fun t ht => huv t (by omega)
      have h2 := huv n (Nat.lt_succ_self n)
      show sg n u + u n ≤ sg n v + v n
      omega
  exact this _ _ _ fun t ht => h (lo + t) (by omega) (by omega)
theorem bs_zero (lo hi : Nat) : bs lo hi (fun _ => 0) = 0 := sg_none _
theorem bs_nn {lo hi : Nat} {f : Nat → Int} (h : ∀ t, lo ≤ t → t < hi → 0 ≤ f t) : 0 ≤ bs lo hi f := by
  rw [← bs_zero lo hi]; exact bs_le h
/-- One alone: how many ways, so wide. -/
def way : Nat → Nat → Nat → Int
  | 0, a, t => if a ≤ t then 1 else 0
  | w + 1, a, t => bs a 7 fun h => way w h t
/-- One column more. -/
def wyr (g : Nat → Int) : Nat → Int
  | 0 => 1
  | u + 1 => g (u + 1) + wyr g u
/-- The document's number. -/
def wy : Nat → Nat → Int
  | 0 => fun _ => 1
  | r + 1 => wyr (wy r)
theorem wy_right (u : Nat) : wy 0 u = 1 := rfl
theorem wy_up (r : Nat) : wy r 0 = 1 := by cases r <;> rfl
theorem wy_next (r u : Nat) : wy (r + 1) (u + 1) = wy r (u + 1) + wy (r + 1) u := rfl
theorem wy_flip : ∀ (n r u : Nat), r + u = n → wy r u = wy u r
  | n, 0, u, _ => by rw [wy_right, wy_up]
  | n, r + 1, 0, _ => by rw [wy_right, wy_up]
  | 0, r + 1, u + 1, h => by omega
  | n + 1, r + 1, u + 1, h => by
    rw [wy_next, wy_next, wy_flip n r (u + 1) (by omega), wy_flip n (r + 1) u (by omega)]; omega
theorem wy_pos : ∀ (n r u : Nat), r + u = n → 1 ≤ wy r u
  | n, 0, u, _ => by rw [wy_right]; omega
  | n, r + 1, 0, _ => by rw [wy_up]; omega
  | 0, r + 1, u + 1, h => by omega
  | n + 1, r + 1, u + 1, h => by
    have h1 := wy_pos n r (u + 1) (by omega)
    have h2 := wy_pos n (r + 1) u (by omega)
    rw [wy_next]; omega
theorem way_out : ∀ (w : Nat) {a t : Nat}, t < a → way w a t = 0
  | 0, a, t, h => if_neg (by omega)
  | w + 1, a, t, h => by
    show bs a 7 _ = 0
    rw [bs_congr (g := fun _ => 0) fun h' h1 _ => way_out w (by omega), bs_zero]
theorem way_nn : ∀ (w a t : Nat), 0 ≤ way w a t
  | 0, a, t => by show 0 ≤ (if a ≤ t then (1 : Int) else 0); split <;> decide
  | w + 1, a, t => bs_nn fun h _ _ => way_nn w h t
theorem way_is : ∀ (w k : Nat) {a t : Nat}, t < 7 → t = a + k → way w a t = wy w k
  | 0, k, a, t, h, e => by rw [wy_right]; exact if_pos (by omega)
  | w + 1, 0, a, t, h, e => by
    show bs a 7 (fun h => way w h t) = _
    rw [bs_first (by omega), way_is w 0 h e, wy_up, wy_up, bs_congr (g := fun _ => 0) fun h' h1 _ => way_out w (by omega), bs_zero]; rfl
  | w + 1, k + 1, a, t, h, e => by
    show bs a 7 (fun h => way w h t) = _
    rw [bs_first (by omega), way_is w (k + 1) h e, wy_next]
    congr 1
    exact way_is (w + 1) k (a := a + 1) h (by omega)
/-- All heights with which the told ones go on: each less than the next one came in with. -/
def boxes : List Nat → (List Nat → Int) → Int
  | [], F => F []
  | [a], F => bs a 7 fun h => F [h]
  | a :: b :: l, F => bs a b fun h => boxes (b :: l) fun m => F (h :: m)
/-- The document's number of ways that do not meet. -/
def ap : Nat → List Nat → List Nat → Int
  | 0, l, t => boxes l fun m => if m = t then 1 else 0
  | w + 1, l, t => boxes l fun m => ap w m t
/-- Rising, below 7. -/
def Ris : List Nat → Prop
  | [] => True
  | [a] => a < 7
  | a :: b :: l => a < b ∧ Ris (b :: l)
/-- Behind them, each less than the next one came in with. -/
def Bx : List Nat → List Nat → Prop
  | [], [] => True
  | [a], [h] => a ≤ h ∧ h < 7
  | a :: b :: l, h :: m => (a ≤ h ∧ h < b) ∧ Bx (b :: l) m
  | _, _ => False
theorem boxes_congr : ∀ {l : List Nat} {F G : List Nat → Int}, (∀ m, Bx l m → F m = G m) → boxes l F = boxes l G
  | [], F, G, h => h [] trivial
  | [a], F, G, h => bs_congr fun t h1 h2 => h [t] ⟨h1, h2⟩
  | a :: b :: l, F, G, h => bs_congr fun t h1 h2 => boxes_congr fun m hm => h (t :: m) ⟨⟨h1, h2⟩, hm⟩
theorem boxes_le : ∀ {l : List Nat} {F G : List Nat → Int}, (∀ m, Bx l m → F m ≤ G m) → boxes l F ≤ boxes l G
  | [], F, G, h => h [] trivial
  | [a], F, G, h => bs_le fun t h1 h2 => h [t] ⟨h1, h2⟩
  | a :: b :: l, F, G, h => bs_le fun t h1 h2 => boxes_le fun m hm => h (t :: m) ⟨⟨h1, h2⟩, hm⟩
theorem boxes_zero : ∀ (l : List Nat), boxes l (fun _ => 0) = 0
  | [] => rfl
  | [a] => bs_zero _ _
  | a :: b :: l => (bs_congr fun t _ _ => boxes_zero (b :: l)).trans (bs_zero _ _)
theorem boxes_by (k : Int) : ∀ (l : List Nat) (F : List Nat → Int), boxes l (fun m => k * F m) = k * boxes l F
  | [], F => rfl
  | [a], F => by
    show bs a 7 (fun h => k * F [h]) = k * bs a 7 fun h => F [h]
    rw [Int.mul_comm k, ← bs_by]; exact bs_congr fun t _ _ => Int.mul_comm ..
  | a :: b :: l, F => by
    show bs a b (fun h => boxes (b :: l) fun m => k * F (h :: m)) = k * bs a b fun h => boxes (b :: l) fun m => F (h :: m)
    rw [Int.mul_comm k, ← bs_by]; exact bs_congr fun t _ _ => by rw [boxes_by k (b :: l), Int.mul_comm]
theorem boxes_nn {l : List Nat} {F : List Nat → Int} (H : ∀ m, 0 ≤ F m) : 0 ≤ boxes l F := by
  have h := boxes_le (l := l) (F := fun _ => 0) (G := F) fun m _ => H m
  rw [boxes_zero] at h
  exact h
theorem ap_nn : ∀ (w : Nat) (l t : List Nat), 0 ≤ ap w l t
  | 0, l, t => boxes_nn fun m => by split <;> decide
  | w + 1, l, t => boxes_nn fun m => ap_nn w m t
/-- One more that stays behind: there are no more than so many for each. -/
theorem ap_more : ∀ (w : Nat) {a b : Nat} {l : List Nat} {s : Nat} {t : List Nat}, a < b → b < 7 → ap w (a :: b :: l) (s :: t) ≤ way w a s * ap w (b :: l) t
  | 0, a, b, l, s, t, h, hb => by
    show bs a b (fun h => boxes (b :: l) fun m => if h :: m = s :: t then 1 else 0) ≤ (if a ≤ s then 1 else 0) * boxes (b :: l) fun m => if m = t then 1 else 0
    have h0 : 0 ≤ boxes (b :: l) fun m => if m = t then (1 : Int) else 0 := boxes_nn fun m => by split <;> decide
    have e : ∀ h, (boxes (b :: l) fun m => if h :: m = s :: t then (1 : Int) else 0) = (if h = s then 1 else 0) * boxes (b :: l) fun m => if m = t then 1 else 0 := fun h => by
      rw [← boxes_by]
      refine boxes_congr fun m _ => ?_
      by_cases h1 : h = s
      · by_cases h2 : m = t
        · rw [if_pos (by rw [h1, h2]), if_pos h1, if_pos h2]; rfl
        · rw [if_neg (fun e => h2 (List.cons.inj e).2), if_neg h2, Int.mul_zero]
      · rw [if_neg (fun e => h1 (List.cons.inj e).1), if_neg h1, Int.zero_mul]
    rw [bs_congr fun t _ _ => e t, bs_by]
    refine Int.mul_le_mul_of_nonneg_right ?_ h0
    by_cases h1 : a ≤ s ∧ s < b
    · rw [if_pos h1.1]
      unfold bs
      rw [sg_one (k := s - a) (by omega) fun i _ hi => if_neg (by omega), if_pos (by omega)]
      exact Int.le_refl _
    · rw [bs_congr (g := fun _ => 0) fun t _ _ => if_neg (by omega), bs_zero]
      split <;> decide
  | w + 1, a, b, l, s, t, h, hb => by
    show bs a b (fun h => boxes (b :: l) fun m => ap w (h :: m) (s :: t)) ≤ (bs a 7 fun h => way w h s) * boxes (b :: l) fun m => ap w m t
    have h0 : 0 ≤ boxes (b :: l) fun m => ap w m t := boxes_nn fun m => ap_nn w m t
    have h1 : bs a b (fun h => boxes (b :: l) fun m => ap w (h :: m) (s :: t)) ≤ bs a b (fun h => way w h s * boxes (b :: l) fun m => ap w m t) := bs_le fun h' e1 e2 => by
      rw [← boxes_by]
      refine boxes_le fun m hm => ?_
      cases l with
      | nil =>
        match m, hm with
        | [x], hm => exact ap_more w (by have := hm.1; omega) hm.2
      | cons c l =>
        match m, hm with
        | x :: m, hm =>
          refine ap_more w (by have := hm.1.1; omega) ?_
          have : c < 7 ∨ 7 ≤ c := by omega
          have up : ∀ {l m : List Nat} {x c : Nat}, Bx (c :: l) m → c < 7 := fun {l} => by
            induction l with
            | nil =>
              intro m x c h
              match m, h with
              | [y], h => have := h.1; have := h.2; omega
            | cons d l ih =>
              intro m x c h
              match m, h with
              | y :: m, h => have := ih (x := 0) h.2; have := h.1.1; have := h.1.2; omega
          have := up (x := 0) hm.2
          have := hm.1.2
          omega
    refine Int.le_trans h1 ?_
    rw [bs_by]
    refine Int.mul_le_mul_of_nonneg_right ?_ h0
    rw [bs_cut (show a ≤ b by omega) (show b ≤ 7 by omega) (fun h => way w h s)]
    have := bs_nn (lo := b) (hi := 7) (f := fun h => way w h s) fun h _ _ => way_nn w h s
    omega
/-- Three rows. -/
def D3 (x0 x1 x2 y0 y1 y2 z0 z1 z2 : Int) : Int := x0 * (y1 * z2 - y2 * z1) + x1 * (y2 * z0 - y0 * z2) + x2 * (y0 * z1 - y1 * z0)
theorem dt_d1 (f : Nat → Nat → Int) : dt 1 f = f 0 0 := by show 0 + 1 * f 0 0 * 1 = _; grind
theorem dt_d2 (f : Nat → Nat → Int) : dt 2 f = f 0 0 * f 1 1 - f 0 1 * f 1 0 := by
  show 0 + 1 * f 0 0 * (0 + 1 * f 1 1 * 1) + (-1) * f 0 1 * (0 + 1 * f 1 0 * 1) = _
  grind
theorem dt_d3 (f : Nat → Nat → Int) : dt 3 f = D3 (f 0 0) (f 0 1) (f 0 2) (f 1 0) (f 1 1) (f 1 2) (f 2 0) (f 2 1) (f 2 2) := by
  show 0 + 1 * f 0 0 * (0 + 1 * f 1 1 * (0 + 1 * f 2 2 * 1) + (-1) * f 1 2 * (0 + 1 * f 2 1 * 1)) + (-1) * f 0 1 * (0 + 1 * f 1 0 * (0 + 1 * f 2 2 * 1) + (-1) * f 1 2 * (0 + 1 * f 2 0 * 1)) + 1 * f 0 2 * (0 + 1 * f 1 0 * (0 + 1 * f 2 1 * 1) + (-1) * f 1 1 * (0 + 1 * f 2 0 * 1)) = _
  unfold D3
  grind
theorem bs_lin3 (lo hi : Nat) (f g k : Nat → Int) (x y z : Int) : bs lo hi (fun t => f t * x + g t * y + k t * z) = bs lo hi f * x + bs lo hi g * y + bs lo hi k * z := by
  rw [bs_add lo hi (fun t => f t * x + g t * y) (fun t => k t * z), bs_add lo hi (fun t => f t * x) (fun t => g t * y), bs_by, bs_by, bs_by]
/-- The matrix of rows at told heights. -/
def rw' (q : Nat → Nat → Int) (l : List Nat) : Nat → Nat → Int := fun i j => q (l.getD i 0) j
theorem box1 (q : Nat → Nat → Int) {a : Nat} : boxes [a] (fun m => dt 1 (rw' q m)) = dt 1 (rw' (fun x j => bs x 7 fun h => q h j) [a]) := by
  rw [dt_d1]
  exact bs_congr fun t _ _ => dt_d1 _
theorem box2 (q : Nat → Nat → Int) {a b : Nat} (h1 : a < b) (h2 : b < 7) : boxes [a, b] (fun m => dt 2 (rw' q m)) = dt 2 (rw' (fun x j => bs x 7 fun h => q h j) [a, b]) := by
  rw [dt_d2]
  show bs a b (fun h => bs b 7 fun i => dt 2 (rw' q [h, i])) = (bs a 7 fun h => q h 0) * (bs b 7 fun h => q h 1) - (bs a 7 fun h => q h 1) * (bs b 7 fun h => q h 0)
  have e : ∀ h, (bs b 7 fun i => dt 2 (rw' q [h, i])) = q h 0 * (bs b 7 fun i => q i 1) + q h 1 * -(bs b 7 fun i => q i 0) + 0 * 0 := fun h => by
    rw [bs_congr (g := fun i => q i 1 * q h 0 + q i 0 * -(q h 1) + 0 * 0) fun i _ _ => by
      rw [dt_d2]; show q h 0 * q i 1 - q h 1 * q i 0 = _; grind]
    rw [bs_lin3 b 7 (fun i => q i 1) (fun i => q i 0) (fun _ => 0), bs_zero]
    grind
  rw [bs_congr fun h _ _ => e h, bs_lin3 a b (fun h => q h 0) (fun h => q h 1) (fun _ => 0), bs_zero]
  rw [bs_cut (show a ≤ b by omega) (show b ≤ 7 by omega) (fun h => q h 0), bs_cut (show a ≤ b by omega) (show b ≤ 7 by omega) (fun h => q h 1)]
  grind
theorem box3 (q : Nat → Nat → Int) {a b c : Nat} (h1 : a < b) (h2 : b < c) (h3 : c < 7) : boxes [a, b, c] (fun m => dt 3 (rw' q m)) = dt 3 (rw' (fun x j => bs x 7 fun h => q h j) [a, b, c]) := by
  rw [dt_d3]
  show bs a b (fun h => bs b c fun i => bs c 7 fun k => dt 3 (rw' q [h, i, k])) = D3 (bs a 7 fun h => q h 0) (bs a 7 fun h => q h 1) (bs a 7 fun h => q h 2) (bs b 7 fun h => q h 0) (bs b 7 fun h => q h 1) (bs b 7 fun h => q h 2) (bs c 7 fun h => q h 0) (bs c 7 fun h => q h 1) (bs c 7 fun h => q h 2)
  have e : ∀ h i, (bs c 7 fun k => dt 3 (rw' q [h, i, k])) = D3 (q h 0) (q h 1) (q h 2) (q i 0) (q i 1) (q i 2) (bs c 7 fun k => q k 0) (bs c 7 fun k => q k 1) (bs c 7 fun k => q k 2) := fun h i => by
    rw [bs_congr (g := fun k => q k 0 * (q h 1 * q i 2 - q h 2 * q i 1) + q k 1 * (q h 2 * q i 0 - q h 0 * q i 2) + q k 2 * (q h 0 * q i 1 - q h 1 * q i 0)) fun k _ _ => by
      rw [dt_d3]; show D3 (q h 0) (q h 1) (q h 2) (q i 0) (q i 1) (q i 2) (q k 0) (q k 1) (q k 2) = _; unfold D3; grind]
    rw [bs_lin3 c 7 (fun i => q i 0) (fun i => q i 1) (fun i => q i 2)]
    unfold D3
    grind
  have e2 : ∀ h, (bs b c fun i => bs c 7 fun k => dt 3 (rw' q [h, i, k])) = D3 (q h 0) (q h 1) (q h 2) (bs b c fun k => q k 0) (bs b c fun k => q k 1) (bs b c fun k => q k 2) (bs c 7 fun k => q k 0) (bs c 7 fun k => q k 1) (bs c 7 fun k => q k 2) := fun h => by
    rw [bs_congr fun i _ _ => e h i]
    generalize (bs c 7 fun k => q k 0) = z0
    generalize (bs c 7 fun k => q k 1) = z1
    generalize (bs c 7 fun k => q k 2) = z2
    rw [bs_congr (g := fun i => q i 0 * (q h 2 * z1 - q h 1 * z2) + q i 1 * (q h 0 * z2 - q h 2 * z0) + q i 2 * (q h 1 * z0 - q h 0 * z1)) fun i _ _ => by
      unfold D3; grind]
    rw [bs_lin3 b c (fun i => q i 0) (fun i => q i 1) (fun i => q i 2)]
    unfold D3
    grind
  rw [bs_congr fun h _ _ => e2 h]
  rw [bs_cut (show a ≤ b by omega) (show b ≤ 7 by omega) (fun h => q h 0), bs_cut (show a ≤ b by omega) (show b ≤ 7 by omega) (fun h => q h 1), bs_cut (show a ≤ b by omega) (show b ≤ 7 by omega) (fun h => q h 2),
    bs_cut (show b ≤ c by omega) (show c ≤ 7 by omega) (fun h => q h 0), bs_cut (show b ≤ c by omega) (show c ≤ 7 by omega) (fun h => q h 1), bs_cut (show b ≤ c by omega) (show c ≤ 7 by omega) (fun h => q h 2)]
  generalize (bs c 7 fun k => q k 0) = z0
  generalize (bs c 7 fun k => q k 1) = z1
  generalize (bs c 7 fun k => q k 2) = z2
  generalize (bs b c fun k => q k 0) = y0
  generalize (bs b c fun k => q k 1) = y1
  generalize (bs b c fun k => q k 2) = y2
  rw [bs_congr (g := fun h => q h 0 * (y1 * z2 - y2 * z1) + q h 1 * (y2 * z0 - y0 * z2) + q h 2 * (y0 * z1 - y1 * z0)) fun h _ _ => by
    unfold D3; rfl]
  rw [bs_lin3 a b (fun i => q i 0) (fun i => q i 1) (fun i => q i 2)]
  generalize (bs a b fun k => q k 0) = x0
  generalize (bs a b fun k => q k 1) = x1
  generalize (bs a b fun k => q k 2) = x2
  unfold D3
  grind
/-- Where each must end. -/
theorem end1 {h t : Nat} : (if [h] = [t] then (1 : Int) else 0) = dt 1 (rw' (fun x j => if x = [t].getD j 0 then 1 else 0) [h]) := by
  rw [dt_d1]
  show _ = if h = t then (1 : Int) else 0
  by_cases e : h = t
  · rw [if_pos (by rw [e]), if_pos e]
  · rw [if_neg (fun e' => e (List.cons.inj e').1), if_neg e]
theorem end2 {h i t u : Nat} (h1 : h < i) (h2 : t < u) : (if [h, i] = [t, u] then (1 : Int) else 0) = dt 2 (rw' (fun x j => if x = [t, u].getD j 0 then 1 else 0) [h, i]) := by
  rw [dt_d2]
  show _ = (if h = t then (1 : Int) else 0) * (if i = u then 1 else 0) - (if h = u then 1 else 0) * (if i = t then 1 else 0)
  by_cases e : [h, i] = [t, u]
  · have e1 := (List.cons.inj e).1
    have e2 := (List.cons.inj (List.cons.inj e).2).1
    rw [if_pos e, if_pos e1, if_pos e2, if_neg (show ¬h = u by omega)]; grind
  · rw [if_neg e]
    have e' : ¬(h = t ∧ i = u) := fun e3 => e (by rw [e3.1, e3.2])
    by_cases c1 : h = u
    · rw [if_neg (show ¬h = t by omega), if_neg (show ¬i = t by omega)]; grind
    · rw [if_neg c1]
      by_cases c2 : h = t
      · rw [if_neg (show ¬i = u from fun c3 => e' ⟨c2, c3⟩)]; grind
      · rw [if_neg c2]; grind
theorem end3 {h i k t u v : Nat} (h1 : h < i) (h2 : i < k) (h3 : t < u) (h4 : u < v) : (if [h, i, k] = [t, u, v] then (1 : Int) else 0) = dt 3 (rw' (fun x j => if x = [t, u, v].getD j 0 then 1 else 0) [h, i, k]) := by
  rw [dt_d3]
  show _ = D3 (if h = t then 1 else 0) (if h = u then 1 else 0) (if h = v then 1 else 0) (if i = t then 1 else 0) (if i = u then 1 else 0) (if i = v then 1 else 0) (if k = t then 1 else 0) (if k = u then 1 else 0) (if k = v then 1 else 0)
  unfold D3
  by_cases e : [h, i, k] = [t, u, v]
  · have e1 := (List.cons.inj e).1
    have e2 := (List.cons.inj (List.cons.inj e).2).1
    have e3 := (List.cons.inj (List.cons.inj (List.cons.inj e).2).2).1
    rw [if_pos e, if_pos e1, if_pos e2, if_pos e3, if_neg (show ¬h = u by omega), if_neg (show ¬h = v by omega), if_neg (show ¬i = t by omega), if_neg (show ¬i = v by omega), if_neg (show ¬k = t by omega), if_neg (show ¬k = u by omega)]; rfl
  · rw [if_neg e]
    have e' : ¬(h = t ∧ i = u ∧ k = v) := fun e3 => e (by rw [e3.1, e3.2.1, e3.2.2])
    clear e
    -- at most one of each row and column, and rising
    by_cases c1 : h = t
    · rw [if_neg (show ¬h = u by omega), if_neg (show ¬h = v by omega), if_neg (show ¬i = t by omega), if_neg (show ¬k = t by omega)]
      by_cases c2 : i = u
      · rw [if_neg (show ¬k = u by omega), if_neg (show ¬k = v from fun c3 => e' ⟨c1, c2, c3⟩)]; grind
      · rw [if_neg c2]
        by_cases c3 : i = v
        · rw [if_neg (show ¬k = u by omega)]; grind
        · rw [if_neg c3]; grind
    · rw [if_neg c1]
      by_cases c2 : h = u
      · rw [if_neg (show ¬h = v by omega), if_neg (show ¬i = t by omega), if_neg (show ¬k = t by omega)]; grind
      · rw [if_neg c2]
        by_cases c3 : h = v
        · rw [if_neg (show ¬i = t by omega), if_neg (show ¬k = t by omega), if_neg (show ¬i = u by omega), if_neg (show ¬k = u by omega)]; grind
        · rw [if_neg c3]; grind
theorem way_zero {a t : Nat} (h : t < 7) : (bs a 7 fun x => if x = t then (1 : Int) else 0) = way 0 a t := by
  show _ = if a ≤ t then (1 : Int) else 0
  by_cases e : a ≤ t
  · rw [if_pos e]
    unfold bs
    rw [sg_one (k := t - a) (by omega) fun i _ hi => if_neg (by omega), if_pos (by omega)]
  · rw [if_neg e, bs_congr (g := fun _ => 0) fun x _ _ => if_neg (by omega), bs_zero]
/-- Lindstrom; Gessel, Viennot. -/
theorem ap1 : ∀ (w : Nat) {a t : Nat}, t < 7 → ap w [a] [t] = dt 1 (rw' (fun x j => way w x ([t].getD j 0)) [a])
  | 0, a, t, h => by
    refine ((boxes_congr fun m hm => ?_).trans (box1 (a := a) fun x j => if x = [t].getD j 0 then 1 else 0)).trans ?_
    · match m, hm with
      | [x], hm => exact end1
    · rw [dt_d1, dt_d1]; exact way_zero h
  | w + 1, a, t, h => by
    refine ((boxes_congr fun m hm => ?_).trans (box1 (a := a) fun x j => way w x ([t].getD j 0))).trans rfl
    match m, hm with
    | [x], hm => exact ap1 w h
theorem ap2 : ∀ (w : Nat) {a b t u : Nat}, a < b → b < 7 → t < u → u < 7 → ap w [a, b] [t, u] = dt 2 (rw' (fun x j => way w x ([t, u].getD j 0)) [a, b])
  | 0, a, b, t, u, h1, h2, h3, h4 => by
    refine ((boxes_congr fun m hm => ?_).trans (box2 (a := a) (b := b) (fun x j => if x = [t, u].getD j 0 then 1 else 0) h1 h2)).trans ?_
    · match m, hm with
      | [x, y], hm => exact end2 (by have := hm.1.2; have := hm.2.1; omega) h3
    · rw [dt_d2, dt_d2]
      show (bs a 7 fun x => if x = t then (1 : Int) else 0) * (bs b 7 fun x => if x = u then (1 : Int) else 0) - (bs a 7 fun x => if x = u then (1 : Int) else 0) * (bs b 7 fun x => if x = t then (1 : Int) else 0) = _
      rw [way_zero h4, way_zero h4, way_zero (show t < 7 by omega), way_zero (show t < 7 by omega)]; rfl
  | w + 1, a, b, t, u, h1, h2, h3, h4 => by
    refine ((boxes_congr fun m hm => ?_).trans (box2 (a := a) (b := b) (fun x j => way w x ([t, u].getD j 0)) h1 h2)).trans rfl
    match m, hm with
    | [x, y], hm => exact ap2 w (by have := hm.1.2; have := hm.2.1; omega) hm.2.2 h3 h4
theorem ap3 : ∀ (w : Nat) {a b c t u v : Nat}, a < b → b < c → c < 7 → t < u → u < v → v < 7 → ap w [a, b, c] [t, u, v] = dt 3 (rw' (fun x j => way w x ([t, u, v].getD j 0)) [a, b, c])
  | 0, a, b, c, t, u, v, h1, h2, h3, h4, h5, h6 => by
    refine ((boxes_congr fun m hm => ?_).trans (box3 (a := a) (b := b) (c := c) (fun x j => if x = [t, u, v].getD j 0 then 1 else 0) h1 h2 h3)).trans ?_
    · match m, hm with
      | [x, y, z], hm => exact end3 (by have := hm.1.2; have := hm.2.1.1; omega) (by have := hm.2.1.2; have := hm.2.2.1; omega) h4 h5
    · rw [dt_d3, dt_d3]
      show D3 (bs a 7 fun x => if x = t then (1 : Int) else 0) (bs a 7 fun x => if x = u then (1 : Int) else 0) (bs a 7 fun x => if x = v then (1 : Int) else 0) (bs b 7 fun x => if x = t then (1 : Int) else 0) (bs b 7 fun x => if x = u then (1 : Int) else 0) (bs b 7 fun x => if x = v then (1 : Int) else 0) (bs c 7 fun x => if x = t then (1 : Int) else 0) (bs c 7 fun x => if x = u then (1 : Int) else 0) (bs c 7 fun x => if x = v then (1 : Int) else 0) = _
      have t7 : t < 7 := by omega
      have u7 : u < 7 := by omega
      rw [way_zero t7, way_zero t7, way_zero t7, way_zero u7, way_zero u7, way_zero u7, way_zero h6, way_zero h6, way_zero h6]; rfl
  | w + 1, a, b, c, t, u, v, h1, h2, h3, h4, h5, h6 => by
    refine ((boxes_congr fun m hm => ?_).trans (box3 (a := a) (b := b) (c := c) (fun x j => way w x ([t, u, v].getD j 0)) h1 h2 h3)).trans rfl
    match m, hm with
    | [x, y, z], hm => exact ap3 w (by have := hm.1.2; have := hm.2.1.1; omega) (by have := hm.2.1.2; have := hm.2.2.1; omega) hm.2.2.2 h4 h5 h6
/-- Seen from the end. -/
theorem way_mirror (w : Nat) {a t : Nat} (ha : a < 7) (ht : t < 7) : way w (6 - t) (6 - a) = way w a t := by
  by_cases h : a ≤ t
  · rw [way_is w (t - a) ht (by omega), way_is w (t - a) (by omega) (by omega)]
  · rw [way_out w (show t < a by omega), way_out w (by omega)]
theorem ap1_mirror (w : Nat) {a t : Nat} (ha : a < 7) (ht : t < 7) : ap w [6 - t] [6 - a] = ap w [a] [t] := by
  rw [ap1 w ht, ap1 w (by omega), dt_d1, dt_d1]
  exact way_mirror w ha ht
theorem ap2_mirror (w : Nat) {a b t u : Nat} (h1 : a < b) (h2 : b < 7) (h3 : t < u) (h4 : u < 7) : ap w [6 - u, 6 - t] [6 - b, 6 - a] = ap w [a, b] [t, u] := by
  rw [ap2 w h1 h2 h3 h4, ap2 w (by omega) (by omega) (by omega) (by omega), dt_d2, dt_d2]
  show way w (6 - u) (6 - b) * way w (6 - t) (6 - a) - way w (6 - u) (6 - a) * way w (6 - t) (6 - b) = way w a t * way w b u - way w a u * way w b t
  rw [way_mirror w h2 h4, way_mirror w (show a < 7 by omega) (show t < 7 by omega), way_mirror w (show a < 7 by omega) h4, way_mirror w h2 (show t < 7 by omega)]
  grind
theorem ap3_mirror (w : Nat) {a b c t u v : Nat} (h1 : a < b) (h2 : b < c) (h3 : c < 7) (h4 : t < u) (h5 : u < v) (h6 : v < 7) : ap w [6 - v, 6 - u, 6 - t] [6 - c, 6 - b, 6 - a] = ap w [a, b, c] [t, u, v] := by
  rw [ap3 w h1 h2 h3 h4 h5 h6, ap3 w (by omega) (by omega) (by omega) (by omega) (by omega) (by omega), dt_d3, dt_d3]
  show D3 (way w (6 - v) (6 - c)) (way w (6 - v) (6 - b)) (way w (6 - v) (6 - a)) (way w (6 - u) (6 - c)) (way w (6 - u) (6 - b)) (way w (6 - u) (6 - a)) (way w (6 - t) (6 - c)) (way w (6 - t) (6 - b)) (way w (6 - t) (6 - a)) =
    D3 (way w a t) (way w a u) (way w a v) (way w b t) (way w b u) (way w b v) (way w c t) (way w c u) (way w c v)
  have a7 : a < 7 := by omega
  have b7 : b < 7 := by omega
  have t7 : t < 7 := by omega
  have u7 : u < 7 := by omega
  rw [way_mirror w h3 h6, way_mirror w b7 h6, way_mirror w a7 h6, way_mirror w h3 u7, way_mirror w b7 u7, way_mirror w a7 u7, way_mirror w h3 t7, way_mirror w b7 t7, way_mirror w a7 t7]
  unfold D3
  grind
/-- Pascal's square. -/
theorem pascal {n : Nat} (h : n ≤ 5) : dt n (fun i j => wy i j) = 1 := by
  have c : n = 0 ∨ n = 1 ∨ n = 2 ∨ n = 3 ∨ n = 4 ∨ n = 5 := by omega
  rcases c with rfl | rfl | rfl | rfl | rfl | rfl <;> decide +kernel
end Go.Proofs.Ytolkdbijenbchaa.Zx
