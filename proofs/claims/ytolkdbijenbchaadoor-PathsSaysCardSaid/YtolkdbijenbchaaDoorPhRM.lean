/- What the document's way of counting families goes through: column by column, height by height. No program is named here. -/
import Derived.Test.YtolkdbijenbchaaDoorPhM
namespace Go.Proofs.YtolkdbijenbchaaDoor.Zx
set_option linter.unusedVariables false

/-- What is left of the width behind a column. -/
def rest (t : List Nat) : Nat → List Nat → Int
  | 0, m => if m = t then 1 else 0
  | w + 1, m => ap w m t
theorem ap_rest (w : Nat) (l t : List Nat) : ap w l t = boxes l (rest t w) := by cases w <;> rfl
/-- What comes of those that have come in and some that have left. -/
def rap (t : List Nat) (w : Nat) (c v : List Nat) : Int := boxes (c.drop v.length) fun m => rest t w (v ++ m)
theorem rap_none (t : List Nat) (w : Nat) (c : List Nat) : rap t w c [] = ap w c t := (ap_rest w c t).symm
theorem rap_full {t : List Nat} {w : Nat} {c v : List Nat} (h : v.length = c.length) : rap t w c v = rest t w v := by
  unfold rap
  rw [h, List.drop_length]
  show rest t w (v ++ []) = _
  rw [List.append_nil]
/-- Below this the next one leaves. -/
def lhi (c : List Nat) (i : Nat) : Nat := if i + 1 < c.length then c.getD (i + 1) 0 else 7
theorem rap_next {t : List Nat} {w : Nat} {c v : List Nat} (h : v.length < c.length) : rap t w c v = bs (c.getD v.length 0) (lhi c v.length) fun x => rap t w c (v ++ [x]) := by
  have e : ∀ x, rap t w c (v ++ [x]) = boxes (c.drop (v.length + 1)) fun m => rest t w (v ++ x :: m) := fun x => by
    unfold rap
    rw [List.length_append, List.length_singleton]
    exact boxes_congr fun m _ => by rw [List.append_assoc]; rfl
  rw [bs_congr fun x _ _ => e x]
  unfold rap lhi
  have d : c.drop v.length = c.getD v.length 0 :: c.drop (v.length + 1) := by
    rw [List.drop_eq_getElem_cons h, List.getD_eq_getElem?_getD, List.getElem?_eq_getElem h]; rfl
  rw [d]
  by_cases h1 : v.length + 1 < c.length
  · rw [if_pos h1]
    have d2 : c.drop (v.length + 1) = c.getD (v.length + 1) 0 :: c.drop (v.length + 1 + 1) := by
      rw [List.drop_eq_getElem_cons h1, List.getD_eq_getElem?_getD, List.getElem?_eq_getElem h1]; rfl
    rw [d2]; rfl
  · rw [if_neg h1, List.drop_eq_nil_of_le (show c.length ≤ v.length + 1 by omega)]; rfl
/-- In the last column whoever does not leave where it ends counts for nothing. -/
theorem rap_pin {t c v : List Nat} {x : Nat} (h : x ≠ t.getD v.length 0) : rap t 0 c (v ++ [x]) = 0 := by
  unfold rap
  refine (boxes_congr (G := fun _ => 0) fun m _ => if_neg fun e => h ?_).trans (boxes_zero _)
  rw [← e, List.append_assoc, List.getD_eq_getElem?_getD, List.getElem?_append_right (Nat.le_refl _), Nat.sub_self]; rfl
/-- All below 7. -/
def L7 (l : List Nat) : Prop := ∀ i, l.getD i 0 < 7
theorem L7.snoc {l : List Nat} (h : L7 l) {x : Nat} (hx : x < 7) : L7 (l ++ [x]) := fun i => by
  rw [List.getD_eq_getElem?_getD]
  rcases Nat.lt_trichotomy i l.length with h1 | h1 | h1
  · rw [List.getElem?_append_left h1, ← List.getD_eq_getElem?_getD]; exact h i
  · rw [List.getElem?_append_right (by omega), h1, Nat.sub_self]; exact hx
  · rw [List.getElem?_append_right (by omega), List.getElem?_eq_none (by rw [List.length_singleton]; omega)]; show 0 < 7; decide
theorem L7.append {l m : List Nat} (h : L7 l) (k : L7 m) : L7 (l ++ m) := fun i => by
  rw [List.getD_eq_getElem?_getD]
  rcases Nat.lt_or_ge i l.length with h1 | h1
  · rw [List.getElem?_append_left h1, ← List.getD_eq_getElem?_getD]; exact h i
  · rw [List.getElem?_append_right h1, ← List.getD_eq_getElem?_getD]; exact k _
theorem L7.nil : L7 [] := fun i => by rw [List.getD_eq_getElem?_getD, List.getElem?_nil]; show 0 < 7; decide
theorem L7.drop {l : List Nat} (h : L7 l) (k : Nat) : L7 (l.drop k) := fun i => by
  rw [List.getD_eq_getElem?_getD, List.getElem?_drop, ← List.getD_eq_getElem?_getD]; exact h _
theorem L7.head {a : Nat} {l : List Nat} (h : L7 (a :: l)) : a < 7 := h 0
theorem L7.tail {a : Nat} {l : List Nat} (h : L7 (a :: l)) : L7 l := fun i => h (i + 1)
theorem L7.cons {a : Nat} {l : List Nat} (ha : a < 7) (h : L7 l) : L7 (a :: l) := fun i => by
  cases i with
  | zero => exact ha
  | succ i => exact h i
theorem bx_l7 : ∀ {l m : List Nat}, L7 l → Bx l m → m.length = l.length ∧ L7 m
  | [], [], _, _ => ⟨rfl, L7.nil⟩
  | [a], [h], _, hb => ⟨rfl, L7.cons hb.2 L7.nil⟩
  | a :: b :: l, h :: m, hl, hb => by
    obtain ⟨h1, h2⟩ := bx_l7 (l := b :: l) (m := m) hl.tail hb.2
    have := hl.tail.head
    have := hb.1.2
    exact ⟨by rw [List.length_cons, h1]; rfl, L7.cons (by omega) h2⟩
theorem bs_bound {lo hi : Nat} (h7 : hi ≤ 7) {f : Nat → Int} {b : Int} (hb : 0 ≤ b) (h : ∀ x, lo ≤ x → x < hi → 0 ≤ f x ∧ f x ≤ b) : 0 ≤ bs lo hi f ∧ bs lo hi f ≤ 7 * b := by
  refine ⟨bs_nn fun x h1 h2 => (h x h1 h2).1, ?_⟩
  have h1 := bs_le (lo := lo) (hi := hi) (f := f) (g := fun _ => b) fun x h1 h2 => (h x h1 h2).2
  have h2 : ∀ n : Nat, sg n (fun _ => b) = (n : Int) * b := fun n => by
    induction n with
    | zero => rw [sg_zero]; omega
    | succ n ih => rw [sg_succ, ih, show ((n + 1 : Nat) : Int) = (n : Int) + 1 by omega, Int.add_mul, Int.one_mul]
  unfold bs at h1
  rw [h2] at h1
  have h3 : ((hi - lo : Nat) : Int) * b ≤ 7 * b := Int.mul_le_mul_of_nonneg_right (by omega) hb
  unfold bs
  omega
theorem boxes_bound {b : Int} (hb : 0 ≤ b) : ∀ {l : List Nat} {F : List Nat → Int}, L7 l → (∀ m, m.length = l.length → L7 m → 0 ≤ F m ∧ F m ≤ b) → 0 ≤ boxes l F ∧ boxes l F ≤ 7 ^ l.length * b
  | [], F, _, h => by
    have := h [] rfl L7.nil
    show 0 ≤ F [] ∧ F [] ≤ 1 * b
    omega
  | [a], F, hl, h => by
    have := bs_bound (lo := a) (hi := 7) (Nat.le_refl 7) (f := fun x => F [x]) hb fun x _ hx => h [x] rfl (L7.cons hx L7.nil)
    exact this
  | a :: c :: l, F, hl, h => by
    have h1 : ∀ x, a ≤ x → x < c → 0 ≤ boxes (c :: l) (fun m => F (x :: m)) ∧ boxes (c :: l) (fun m => F (x :: m)) ≤ 7 ^ (c :: l).length * b := fun x _ hx =>
      boxes_bound hb hl.tail fun m hm h7 => h (x :: m) (by rw [List.length_cons, hm]; rfl) (L7.cons (by have := hl.tail.head; omega) h7)
    have h2 := bs_bound (lo := a) (hi := c) (by have := hl.tail.head; omega) (Int.mul_nonneg (Int.le_of_lt (Int.pow_pos (by decide))) hb) h1
    have e : 7 * (7 ^ (c :: l).length * b) = 7 ^ (a :: c :: l).length * b := by rw [List.length_cons (a := a), Int.pow_succ, ← Int.mul_assoc, Int.mul_comm 7]
    rw [← e]
    exact h2
theorem ap_bound7 {t : List Nat} : ∀ (w : Nat) {l : List Nat}, L7 l → 0 ≤ ap w l t ∧ ap w l t ≤ 7 ^ (l.length * (w + 1))
  | 0, l, h => by
    have := boxes_bound (b := 1) (by decide) h (F := fun m => if m = t then 1 else 0) fun m _ _ => by
      show 0 ≤ (if m = t then (1 : Int) else 0) ∧ (if m = t then (1 : Int) else 0) ≤ 1
      split <;> decide
    rw [Int.mul_one] at this
    rw [Nat.zero_add, Nat.mul_one]
    exact this
  | w + 1, l, h => by
    have := boxes_bound (b := 7 ^ (l.length * (w + 1))) (Int.le_of_lt (Int.pow_pos (by decide))) h (F := fun m => ap w m t) fun m hm h7 => by
      have := ap_bound7 (t := t) w h7
      rwa [hm] at this
    rw [← Int.pow_add] at this
    rw [show l.length * (w + 1 + 1) = l.length + l.length * (w + 1) by rw [Nat.mul_add l.length (w + 1) 1]; omega]
    exact this
theorem rest_bound {t : List Nat} (w : Nat) {m : List Nat} (h : L7 m) : 0 ≤ rest t w m ∧ rest t w m ≤ 7 ^ (m.length * w) := by
  cases w with
  | zero => 
    show 0 ≤ (if m = t then (1 : Int) else 0) ∧ (if m = t then (1 : Int) else 0) ≤ 7 ^ (m.length * 0)
    rw [Nat.mul_zero]
    split <;> decide
  | succ w => exact ap_bound7 w h
theorem rap_bound {t : List Nat} {w : Nat} {c v : List Nat} (hw : w ≤ 4) (h3 : c.length ≤ 3) (hv : v.length ≤ c.length) (hc : L7 c) (h7 : L7 v) : 0 ≤ rap t w c v ∧ rap t w c v ≤ 4747561509943 := by
  have h1 := boxes_bound (b := 7 ^ (c.length * w)) (Int.le_of_lt (Int.pow_pos (by decide))) (hc.drop v.length) (F := fun m => rest t w (v ++ m)) fun m hm hm7 => by
    have := rest_bound (t := t) w (h7.append hm7)
    rw [List.length_append, hm, List.length_drop, show v.length + (c.length - v.length) = c.length by omega] at this
    exact this
  rw [← Int.pow_add, List.length_drop] at h1
  have e : c.length - v.length + c.length * w ≤ 15 := by
    have := Nat.mul_le_mul h3 hw
    omega
  have p : ∀ {a b : Nat}, a ≤ b → (7 : Int) ^ a ≤ 7 ^ b := fun {a b} h => by
    have := Nat.pow_le_pow_right (show 0 < 7 by decide) h
    exact_mod_cast this
  have := p e
  rw [show (7 : Int) ^ 15 = 4747561509943 by decide] at this
  exact ⟨h1.1, Int.le_trans h1.2 this⟩
end Go.Proofs.YtolkdbijenbchaaDoor.Zx
