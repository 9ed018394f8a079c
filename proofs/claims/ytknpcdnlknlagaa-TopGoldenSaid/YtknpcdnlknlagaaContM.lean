/- Continued fractions, in plain numbers: terms, convergents, and what Lagrange says of them. -/
import Derived.Test.YtknpcdnlknlagaaNum
namespace Go.Proofs.Ytknpcdnlknlagaa.Cont
open Num
set_option linter.unusedVariables false

abbrev Fr := Int × Int

/-- The terms of a / b: the quotients of the Euclidean algorithm. -/
def terms (a b : Nat) : List Int := if h : b = 0 then [] else ((a / b : Nat) : Int) :: terms b (a % b)
termination_by b
decreasing_by exact Nat.mod_lt _ (Nat.pos_of_ne_zero h)

theorem terms_zero (a : Nat) : terms a 0 = [] := by rw [terms]; simp
theorem terms_pos (a b : Nat) (h : 0 < b) : terms a b = ((a / b : Nat) : Int) :: terms b (a % b) := by rw [terms]; simp [Nat.ne_of_gt h]

/-- What terms come to, from their end. -/
def frac : List Int → Fr
  | [] => (1, 0)
  | x :: l => (x * (frac l).1 + (frac l).2, (frac l).1)

/-- The next convergent. -/
def nx (b t : Fr) (x : Int) : Fr := (x * t.1 + b.1, x * t.2 + b.2)
/-- The last two convergents behind some terms. -/
def fw (s : Fr × Fr) (l : List Int) : Fr × Fr := l.foldl (fun s x => (s.2, nx s.1 s.2 x)) s
def s0 : Fr × Fr := ((0, 1), (1, 0))

theorem fw_nil (s : Fr × Fr) : fw s [] = s := rfl
theorem fw_cons (s : Fr × Fr) (x : Int) (l : List Int) : fw s (x :: l) = fw (s.2, nx s.1 s.2 x) l := rfl
theorem fw_snoc (s : Fr × Fr) (l : List Int) (x : Int) : fw s (l ++ [x]) = ((fw s l).2, nx (fw s l).1 (fw s l).2 x) := by
  unfold fw; rw [List.foldl_append]; rfl

theorem take_succ' (l : List Int) (k : Nat) (h : k < l.length) : l.take (k + 1) = l.take k ++ [l.getD k 0] := by
  rw [List.take_add_one, List.getElem?_eq_getElem h, List.getD_eq_getElem?_getD, List.getElem?_eq_getElem h]; rfl

theorem fw_take (s : Fr × Fr) (l : List Int) (k : Nat) (h : k < l.length) :
    fw s (l.take (k + 1)) = ((fw s (l.take k)).2, nx (fw s (l.take k)).1 (fw s (l.take k)).2 (l.getD k 0)) := by
  rw [take_succ' l k h, fw_snoc]

theorem fw_frac : ∀ (l : List Int) (s : Fr × Fr), (fw s l).2 = ((frac l).1 * s.2.1 + (frac l).2 * s.1.1, (frac l).1 * s.2.2 + (frac l).2 * s.1.2) := by
  intro l
  induction l with
  | nil => intro s; simp [fw, frac]
  | cons x l ih =>
    intro s
    rw [fw_cons, ih]
    simp only [nx, frac]
    refine Prod.ext ?_ ?_ <;> simp only [] <;> grind

theorem fw_start (l : List Int) : (fw s0 l).2 = frac l := by
  rw [fw_frac]; simp [s0]

/-- The convergent number i. -/
def cv (l : List Int) (i : Nat) : Fr := (fw s0 (l.take (i + 1))).2
/-- The first k convergents. -/
def nearsUp (l : List Int) (k : Nat) : List Fr := (List.range k).map (cv l)
theorem nearsUp_zero (l : List Int) : nearsUp l 0 = [] := rfl
theorem nearsUp_succ (l : List Int) (k : Nat) : nearsUp l (k + 1) = nearsUp l k ++ [cv l k] := by
  unfold nearsUp; rw [List.range_succ, List.map_append]; rfl
theorem nearsUp_len (l : List Int) (k : Nat) : (nearsUp l k).length = k := by simp [nearsUp]
theorem nearsUp_at (l : List Int) (k i : Nat) (h : i < k) (d : Fr) : (nearsUp l k).getD i d = cv l i := by
  simp [nearsUp, List.getD_eq_getElem?_getD, List.getElem?_range h]

theorem cv_frac (l : List Int) (i : Nat) : cv l i = frac (l.take (i + 1)) := fw_start _
theorem cv_next (l : List Int) (k : Nat) (h : k < l.length) : cv l k = nx (fw s0 (l.take k)).1 (fw s0 (l.take k)).2 (l.getD k 0) := by
  unfold cv; rw [fw_take s0 l k h]
theorem fw_two (l : List Int) (k : Nat) (h : k + 1 < l.length) : fw s0 (l.take (k + 2)) = (cv l k, cv l (k + 1)) := by
  rw [fw_take s0 l (k + 1) h]
  unfold cv
  rw [fw_take s0 l (k + 1) h]
theorem fw_last (l : List Int) (k : Nat) : (fw s0 (l.take (k + 1))).2 = cv l k := rfl

def OkT (l : List Int) : Prop := ∀ k, k < l.length → (0 ≤ l.getD k 0 ∧ l.getD k 0 ≤ 1000000 ∧ (0 < k → 1 ≤ l.getD k 0))
def Sm (f : Fr) : Prop := f.1 ≤ 1000000 ∧ f.2 ≤ 1000000
instance (f : Fr) : Decidable (Sm f) := inferInstanceAs (Decidable (_ ∧ _))

/-- What the convergents of proper terms keep. -/
theorem fw_ge (l : List Int) (hl : OkT l) : ∀ k, k ≤ l.length → 0 ≤ (fw s0 (l.take k)).1.1 ∧ 0 ≤ (fw s0 (l.take k)).1.2 ∧ 0 ≤ (fw s0 (l.take k)).2.1 ∧ 0 ≤ (fw s0 (l.take k)).2.2 ∧
    (1 ≤ k → 1 ≤ (fw s0 (l.take k)).2.2) ∧ (2 ≤ k → 1 ≤ (fw s0 (l.take k)).1.2 ∧ (fw s0 (l.take k)).1.2 ≤ (fw s0 (l.take k)).2.2) := by
  intro k
  induction k with
  | zero => intro _; simp [fw, s0]
  | succ k ih =>
    intro hk
    obtain ⟨h1, h2, h3, h4, h5, h6⟩ := ih (by omega)
    obtain ⟨t1, t2, t3⟩ := hl k (by omega)
    rw [fw_take s0 l k (by omega)]
    generalize l.getD k 0 = x at t1 t2 t3
    have hz : k = 0 → fw s0 (l.take k) = s0 := fun h => by subst h; rfl
    revert h1 h2 h3 h4 h5 h6 hz
    generalize fw s0 (l.take k) = s
    intro h1 h2 h3 h4 h5 h6 hz
    have m1 : 0 ≤ x * s.2.1 := Int.mul_nonneg t1 h3
    have m2 : 0 ≤ x * s.2.2 := Int.mul_nonneg t1 h4
    have m3 : 0 < k → s.2.2 ≤ x * s.2.2 := fun h => by
      have := Int.mul_le_mul_of_nonneg_right (t3 h) h4
      rwa [Int.one_mul] at this
    refine ⟨h3, h4, by simp only [nx]; omega, by simp only [nx]; omega, fun _ => ?_, fun h => ?_⟩
    · simp only [nx]
      rcases Nat.eq_zero_or_pos k with h0 | h0
      · rw [hz h0]; simp [s0]
      · have := h5 h0; have := m3 h0; omega
    · have := h5 (by omega); have := m3 (by omega)
      simp only [nx]; omega

theorem cv_ge (l : List Int) (hl : OkT l) (i : Nat) (hi : i < l.length) : 0 ≤ (cv l i).1 ∧ 1 ≤ (cv l i).2 := by
  obtain ⟨_, _, h3, _, h5, _⟩ := fw_ge l hl (i + 1) (by omega)
  exact ⟨h3, h5 (by omega)⟩
theorem cv_up (l : List Int) (hl : OkT l) (i : Nat) (hi : i + 1 < l.length) : (cv l i).2 ≤ (cv l (i + 1)).2 := by
  have h := (fw_ge l hl (i + 2) (by omega)).2.2.2.2.2 (by omega)
  rw [fw_two l i hi] at h
  exact h.2
theorem cv_zero (l : List Int) (h : 0 < l.length) : cv l 0 = (l.getD 0 0, 1) := by
  rw [cv_next l 0 h]; simp [fw, s0, nx]

/-- The products crosswise. -/
def sg : Nat → Int
  | 0 => 1
  | k + 1 => - sg k
theorem sg_sq : ∀ k, sg k = 1 ∨ sg k = -1 := by
  intro k
  induction k with
  | zero => exact .inl rfl
  | succ k ih => simp only [sg]; omega
theorem fw_det (l : List Int) : ∀ k, k ≤ l.length → (fw s0 (l.take k)).2.1 * (fw s0 (l.take k)).1.2 - (fw s0 (l.take k)).1.1 * (fw s0 (l.take k)).2.2 = sg k := by
  intro k
  induction k with
  | zero => intro _; simp [fw, s0, sg]
  | succ k ih =>
    intro hk
    have h := ih (by omega)
    rw [fw_take s0 l k (by omega)]
    simp only [nx, sg]
    grind
theorem cv_det (l : List Int) (i : Nat) (hi : i + 1 < l.length) : (cv l (i + 1)).1 * (cv l i).2 - (cv l i).1 * (cv l (i + 1)).2 = sg (i + 2) := by
  have h := fw_det l (i + 2) (by omega)
  rw [fw_two l i hi] at h
  exact h

/-- Whether all convergents are small. -/
def Small' (l : List Int) : Prop := ∀ i, i < l.length → Sm (cv l i)

/-- What Near answers: the error's number, the convergents. -/
def NearAns (l : List Int) (c : Nat) (out : List Fr) : Prop :=
  (l = [] ∧ c = 5 ∧ out = []) ∨ (30 < l.length ∧ c = 4 ∧ out = []) ∨ (0 < l.length ∧ l.length ≤ 30 ∧ ¬ OkT l ∧ c = 1 ∧ out = []) ∨
  (0 < l.length ∧ l.length ≤ 30 ∧ OkT l ∧ ¬ Small' l ∧ c = 4 ∧ out = []) ∨ (0 < l.length ∧ l.length ≤ 30 ∧ OkT l ∧ Small' l ∧ c = 0 ∧ out = nearsUp l l.length)

theorem near_one {l : List Int} {c c' : Nat} {o o' : List Fr} (h : NearAns l c o) (h' : NearAns l c' o') : c = c' ∧ o = o' := by
  unfold NearAns at h h'
  have hn : l = [] → l.length = 0 := fun h => by rw [h]; rfl
  rcases h with ⟨h1, rfl, rfl⟩ | ⟨h1, rfl, rfl⟩ | ⟨h1, h2, h3, rfl, rfl⟩ | ⟨h1, h2, h3, h4, rfl, rfl⟩ | ⟨h1, h2, h3, h4, rfl, rfl⟩ <;>
  rcases h' with ⟨g1, rfl, rfl⟩ | ⟨g1, rfl, rfl⟩ | ⟨g1, g2, g3, rfl, rfl⟩ | ⟨g1, g2, g3, g4, rfl, rfl⟩ | ⟨g1, g2, g3, g4, rfl, rfl⟩ <;>
  first
  | exact ⟨rfl, rfl⟩
  | (exfalso; have := hn h1; omega)
  | (exfalso; have := hn g1; omega)
  | (exfalso; omega)
  | contradiction

theorem near_code {l : List Int} {c : Nat} {o : List Fr} (h : NearAns l c o) : (c = 0 ∧ o.length = l.length) ∨ ((c = 1 ∨ c = 4 ∨ c = 5) ∧ o = []) := by
  rcases h with ⟨rfl, rfl, rfl⟩ | ⟨h1, rfl, rfl⟩ | ⟨h1, h2, h3, rfl, rfl⟩ | ⟨h1, h2, h3, h4, rfl, rfl⟩ | ⟨h1, h2, h3, h4, rfl, rfl⟩
  · exact .inr ⟨by omega, rfl⟩
  · exact .inr ⟨by omega, rfl⟩
  · exact .inr ⟨by omega, rfl⟩
  · exact .inr ⟨by omega, rfl⟩
  · exact .inl ⟨rfl, nearsUp_len _ _⟩

-- The document's own way: from the end.
/-- Proper terms behind the first: what is made from the end grows towards the front. -/
def Pos (l : List Int) : Prop := ∀ x ∈ l, 1 ≤ x
theorem frac_pos : ∀ l : List Int, Pos l → 1 ≤ (frac l).1 ∧ 0 ≤ (frac l).2 ∧ (frac l).2 ≤ (frac l).1 := by
  intro l
  induction l with
  | nil => intro _; simp [frac]
  | cons x l ih =>
    intro h
    obtain ⟨h1, h2, h3⟩ := ih fun y hy => h y (List.mem_cons_of_mem _ hy)
    have hx := h x (List.mem_cons_self ..)
    have := Int.mul_le_mul_of_nonneg_right hx (show 0 ≤ (frac l).1 by omega)
    rw [Int.one_mul] at this
    simp only [frac]
    omega
theorem frac_drop : ∀ (l : List Int) (i : Nat), Pos l → (frac (l.drop i)).1 ≤ (frac l).1 := by
  intro l
  induction l with
  | nil => intro i _; simp
  | cons x l ih =>
    intro i h
    have hl : Pos l := fun y hy => h y (List.mem_cons_of_mem _ hy)
    cases i with
    | zero => simp
    | succ i =>
      have h' := ih i hl
      have hf := (frac_pos (x :: l) h).2.2
      rw [List.drop_succ_cons]
      simp only [frac] at hf ⊢
      omega
theorem pos_drop (l : List Int) (i : Nat) (h : Pos l) : Pos (l.drop i) := fun x hx => h x (List.mem_of_mem_drop hx)
theorem okT_tail (l : List Int) (h : OkT l) : Pos (l.drop 1) := fun x hx => by
  obtain ⟨i, hi, rfl⟩ := List.getElem_of_mem hx
  rw [List.length_drop] at hi
  have := (h (1 + i) (by omega)).2.2 (by omega)
  rwa [List.getD_eq_getElem?_getD, List.getElem?_eq_getElem (by omega), Option.getD_some, ← List.getElem_drop (h := by rw [List.length_drop]; omega)] at this
theorem frac_at (l : List Int) (i : Nat) (h : i < l.length) : frac (l.drop i) = (l.getD i 0 * (frac (l.drop (i + 1))).1 + (frac (l.drop (i + 1))).2, (frac (l.drop (i + 1))).1) := by
  rw [List.drop_eq_getElem_cons h, List.getD_eq_getElem?_getD, List.getElem?_eq_getElem h]; rfl
theorem okT_take (l : List Int) (h : OkT l) (k : Nat) : OkT (l.take k) := fun i hi => by
  rw [List.length_take] at hi
  have := h i (by omega)
  rwa [List.getD_eq_getElem?_getD, List.getElem?_take_of_lt (by omega), ← List.getD_eq_getElem?_getD]

/-- No number on the way is great, where the convergents before are small. -/
theorem next_le (l : List Int) (hl : OkT l) (k : Nat) (hk : k < l.length) (hs : ∀ i, i < k → Sm (cv l i)) :
    (fw s0 (l.take k)).1.1 ≤ 1000000 ∧ (fw s0 (l.take k)).1.2 ≤ 1000000 ∧ (fw s0 (l.take k)).2.1 ≤ 1000000 ∧ (fw s0 (l.take k)).2.2 ≤ 1000000 ∧
    (cv l k).1 ≤ 1000001000000 ∧ (cv l k).2 ≤ 1000001000000 := by
  have h2 : (fw s0 (l.take k)).2.1 ≤ 1000000 ∧ (fw s0 (l.take k)).2.2 ≤ 1000000 := by
    cases k with
    | zero => simp [fw, s0]
    | succ k => exact hs k (by omega)
  have h1 : (fw s0 (l.take k)).1.1 ≤ 1000000 ∧ (fw s0 (l.take k)).1.2 ≤ 1000000 := by
    match k, hk, hs with
    | 0, _, _ => simp [fw, s0]
    | 1, hk, _ => rw [fw_take s0 l 0 (by omega)]; simp [fw, s0]
    | k + 2, hk, hs => rw [fw_two l k (by omega)]; exact hs k (by omega)
  obtain ⟨g1, g2, g3, g4, _⟩ := fw_ge l hl k (by omega)
  obtain ⟨t1, t2, _⟩ := hl k hk
  refine ⟨h1.1, h1.2, h2.1, h2.2, ?_⟩
  rw [cv_next l k hk]
  have m1 := Int.mul_le_mul t2 h2.1 g3 (by omega)
  have m2 := Int.mul_le_mul t2 h2.2 g4 (by omega)
  simp only [nx]
  omega

theorem tail_le (l : List Int) (hl : OkT l) (k : Nat) (hk : k < l.length) (hs : ∀ i, i < k → Sm (cv l i)) (i : Nat) (hi : 1 ≤ i) :
    0 ≤ (frac ((l.take (k + 1)).drop i)).2 ∧ (frac ((l.take (k + 1)).drop i)).2 ≤ (frac ((l.take (k + 1)).drop i)).1 ∧ (frac ((l.take (k + 1)).drop i)).1 ≤ 1000001000000 := by
  have hT := okT_tail _ (okT_take l hl (k + 1))
  have e : (l.take (k + 1)).drop i = ((l.take (k + 1)).drop 1).drop (i - 1) := by rw [List.drop_drop]; congr 1; omega
  obtain ⟨_, a2, a3⟩ := frac_pos _ (pos_drop _ (i - 1) hT)
  have a4 := frac_drop _ (i - 1) hT
  have a5 : (frac ((l.take (k + 1)).drop 1)).1 = (cv l k).2 := by
    rw [cv_frac]
    have := frac_at (l.take (k + 1)) 0 (by rw [List.length_take]; omega)
    rw [List.drop_zero] at this
    rw [this]
  have := (next_le l hl k hk hs).2.2.2.2.2
  rw [e]
  omega

-- The terms of a fraction.
theorem terms_len : ∀ (n a b : Nat), b ≤ n → (terms a b).length = st a b := by
  intro n
  induction n with
  | zero => intro a b h; obtain rfl : b = 0 := by omega
            rw [terms_zero, st_zero]; rfl
  | succ n ih =>
    intro a b h
    rcases Nat.eq_zero_or_pos b with rfl | hb
    · rw [terms_zero, st_zero]; rfl
    · have := Nat.mod_lt a hb
      rw [terms_pos a b hb, st_pos a b hb, List.length_cons, ih b (a % b) (by omega)]; omega

theorem terms_ge : ∀ (n b r : Nat), r ≤ n → r < b → ∀ x ∈ terms b r, 1 ≤ x ∧ x ≤ b := by
  intro n
  induction n with
  | zero => intro b r h _ x hx; obtain rfl : r = 0 := by omega
            rw [terms_zero] at hx; cases hx
  | succ n ih =>
    intro b r h hr x hx
    rcases Nat.eq_zero_or_pos r with rfl | h0
    · rw [terms_zero] at hx; cases hx
    · have hm := Nat.mod_lt b h0
      rw [terms_pos b r h0] at hx
      rcases List.mem_cons.1 hx with rfl | hx
      · have h1 : 1 ≤ b / r := Nat.div_pos (by omega) h0
        have h2 : b / r ≤ b := Nat.div_le_self _ _
        omega
      · have := ih r (b % r) (by omega) hm x hx
        omega

theorem terms_ok (a b : Nat) (hb : 0 < b) (h1 : a ≤ 1000000) (h2 : b ≤ 1000000) : OkT (terms a b) := fun k hk => by
  rw [terms_pos a b hb] at hk ⊢
  cases k with
  | zero =>
    have : a / b ≤ a := Nat.div_le_self _ _
    rw [List.getD_cons_zero]
    generalize a / b = q at *
    refine ⟨?_, ?_, fun h => absurd h (by omega)⟩ <;> omega
  | succ k =>
    rw [List.length_cons] at hk
    have hm := Nat.mod_lt a hb
    have hx : (terms b (a % b)).getD k 0 ∈ terms b (a % b) := by
      rw [List.getD_eq_getElem?_getD, List.getElem?_eq_getElem (by omega)]
      exact List.getElem_mem _
    have := terms_ge _ b (a % b) (Nat.le_refl _) hm _ hx
    rw [List.getD_cons_succ]
    omega

theorem fib30 : fib 31 = 1346269 := by decide +kernel
theorem st_le28 (a b : Nat) (hb : 0 < b) (h : b < a) (ha : a ≤ 1000000) : st a b ≤ 28 := by
  rcases Nat.lt_or_ge 28 (st a b) with hgt | hle
  · have h1 := (lame b a b (Nat.le_refl _) hb h).2
    have h2 := fib_mono 31 (st a b + 2) (by omega)
    rw [fib30] at h2
    omega
  · exact hle
theorem terms_few (a b : Nat) (hb : 0 < b) (h1 : a ≤ 1000000) (h2 : b ≤ 1000000) : (terms a b).length ≤ 29 := by
  rw [terms_len b a b (Nat.le_refl _), st_pos a b hb]
  rcases Nat.eq_zero_or_pos (a % b) with h0 | h0
  · rw [h0, st_zero]; omega
  · have := st_le28 b (a % b) h0 (Nat.mod_lt a hb) h2
    omega
theorem terms_some (a b : Nat) (hb : 0 < b) : 0 < (terms a b).length := by rw [terms_pos a b hb]; simp

theorem terms_frac : ∀ (n a b : Nat), b ≤ n → (frac (terms a b)).1 * (Nat.gcd a b : Int) = a ∧ (frac (terms a b)).2 * (Nat.gcd a b : Int) = b := by
  intro n
  induction n with
  | zero => intro a b h; obtain rfl : b = 0 := by omega
            rw [terms_zero]; simp [frac]
  | succ n ih =>
    intro a b h
    rcases Nat.eq_zero_or_pos b with rfl | hb
    · rw [terms_zero]; simp [frac]
    · have hm := Nat.mod_lt a hb
      obtain ⟨i1, i2⟩ := ih b (a % b) (by omega)
      rw [gcd_step a b] at i1 i2
      rw [terms_pos a b hb]
      simp only [frac]
      refine ⟨?_, i1⟩
      rw [Int.add_mul, i2, Int.mul_assoc, i1]
      have := Nat.div_add_mod a b
      rw [Nat.mul_comm] at this
      exact_mod_cast this

theorem terms_last : ∀ (n b r : Nat), r ≤ n → 0 < r → r < b → 1 < (terms b r).getD ((terms b r).length - 1) 0 := by
  intro n
  induction n with
  | zero => intro b r h h0 _; omega
  | succ n ih =>
    intro b r h h0 hr
    have hm := Nat.mod_lt b h0
    rw [terms_pos b r h0]
    rcases Nat.eq_zero_or_pos (b % r) with e | e
    · rw [e, terms_zero]
      have := Nat.div_add_mod b r
      rw [e] at this
      have h2 : 1 < b / r := by
        generalize b / r = q at *
        match q, this with
        | 0, this => simp at this; omega
        | 1, this => simp at this; omega
        | q + 2, _ => omega
      generalize b / r = q at *
      simp; omega
    · have hl := terms_some r (b % r) e
      have := ih r (b % r) (by omega) e hm
      rw [List.length_cons, Nat.add_sub_cancel]
      obtain ⟨k, hk⟩ : ∃ k, (terms r (b % r)).length = k + 1 := ⟨(terms r (b % r)).length - 1, by omega⟩
      rw [hk] at this ⊢
      rw [List.getD_cons_succ]
      exact this

theorem terms_end (a b : Nat) (hb : 0 < b) (k : Nat) (hk : (terms a b).length = k + 1) : k = 0 ∨ 1 < (terms a b).getD k 0 := by
  rw [terms_pos a b hb] at hk ⊢
  rcases Nat.eq_zero_or_pos (a % b) with e | e
  · rw [e, terms_zero] at hk; simp at hk; exact .inl hk
  · have h := terms_last _ b (a % b) (Nat.le_refl _) e (Nat.mod_lt a hb)
    have hl := terms_some b (a % b) e
    rw [List.length_cons] at hk
    obtain ⟨j, rfl⟩ : ∃ j, k = j + 1 := ⟨k - 1, by omega⟩
    right
    rw [List.getD_cons_succ]
    have : (terms b (a % b)).length - 1 = j := by omega
    rwa [this] at h
theorem terms_back (a b : Nat) (k : Nat) (hk : (terms a b).length = k + 1) : (cv (terms a b) k).1 * (Int.gcd a b : Int) = a ∧ (cv (terms a b) k).2 * (Int.gcd a b : Int) = b := by
  rw [cv_frac, List.take_of_length_le (by omega)]
  exact terms_frac _ a b (Nat.le_refl _)

/-- What is left of a / b behind k steps. -/
def rem (a b : Nat) : Nat → Nat × Nat
  | 0 => (a, b)
  | k + 1 => rem b (a % b) k
theorem rem_lt : ∀ (k a b : Nat), 1 ≤ k → k ≤ (terms a b).length → (rem a b k).2 < (rem a b k).1 := by
  intro k
  induction k with
  | zero => intro a b h; omega
  | succ k ih =>
    intro a b _ hk
    rcases Nat.eq_zero_or_pos b with rfl | hb
    · rw [terms_zero] at hk; simp at hk
    · rw [terms_pos a b hb, List.length_cons] at hk
      simp only [rem]
      rcases Nat.eq_zero_or_pos k with rfl | h0
      · exact Nat.mod_lt a hb
      · exact ih b (a % b) h0 (by omega)
theorem rem_fw : ∀ (k a b : Nat) (s : Fr × Fr), k ≤ (terms a b).length →
    (a : Int) * s.2.1 + b * s.1.1 = (rem a b k).1 * (fw s ((terms a b).take k)).2.1 + (rem a b k).2 * (fw s ((terms a b).take k)).1.1 ∧
    (a : Int) * s.2.2 + b * s.1.2 = (rem a b k).1 * (fw s ((terms a b).take k)).2.2 + (rem a b k).2 * (fw s ((terms a b).take k)).1.2 := by
  intro k
  induction k with
  | zero => intro a b s _; simp [rem, fw]
  | succ k ih =>
    intro a b s hk
    rcases Nat.eq_zero_or_pos b with rfl | hb
    · rw [terms_zero] at hk; simp at hk
    · rw [terms_pos a b hb] at hk ⊢
      rw [List.length_cons] at hk
      rw [List.take_succ_cons, fw_cons]
      simp only [rem]
      obtain ⟨i1, i2⟩ := ih b (a % b) (s.2, nx s.1 s.2 ((a / b : Nat) : Int)) (by omega)
      rw [← i1, ← i2]
      have e : (a : Int) = (b : Int) * ((a / b : Nat) : Int) + ((a % b : Nat) : Int) := by exact_mod_cast (Nat.div_add_mod a b).symm
      generalize ((a / b : Nat) : Int) = q at e ⊢
      generalize ((a % b : Nat) : Int) = r at e ⊢
      rw [e]
      simp only [nx]
      constructor <;> grind

theorem le_of_mix (N a' b' l b : Int) (h : N = a' * l + b' * b) (ha : 1 ≤ a') (hb : 0 ≤ b') (hl : 0 ≤ l) (hb' : 0 ≤ b) : l ≤ N := by
  have h1 := Int.mul_le_mul_of_nonneg_right ha hl
  have h2 := Int.mul_nonneg hb hb'
  rw [Int.one_mul] at h1
  omega

theorem terms_small (a b : Nat) (hb : 0 < b) (h1 : a ≤ 1000000) (h2 : b ≤ 1000000) : Small' (terms a b) := fun i hi => by
  have hr := rem_lt (i + 1) a b (by omega) (by omega)
  obtain ⟨e1, e2⟩ := rem_fw (i + 1) a b s0 (by omega)
  obtain ⟨g1, g2, g3, g4, _⟩ := fw_ge (terms a b) (terms_ok a b hb h1 h2) (i + 1) (by omega)
  simp [s0] at e1 e2
  have c1 := le_of_mix _ _ _ _ _ e1 (by omega) (by omega) g3 g1
  have c2 := le_of_mix _ _ _ _ _ e2 (by omega) (by omega) g4 g2
  exact ⟨show (fw ((0, 1), 1, 0) _).2.1 ≤ _ by omega, show (fw ((0, 1), 1, 0) _).2.2 ≤ _ by omega⟩

theorem terms_near (a b : Nat) (hb : 0 < b) (h1 : a ≤ 1000000) (h2 : b ≤ 1000000) : NearAns (terms a b) 0 (nearsUp (terms a b) (terms a b).length) :=
  .inr (.inr (.inr (.inr ⟨terms_some a b hb, by have := terms_few a b hb h1 h2; omega, terms_ok a b hb h1 h2, terms_small a b hb h1 h2, rfl, rfl⟩)))

/-- What Terms answers. -/
def OkF (n d : Int) : Prop := 0 ≤ n ∧ n ≤ 1000000 ∧ 1 ≤ d ∧ d ≤ 1000000
instance (n d : Int) : Decidable (OkF n d) := inferInstanceAs (Decidable (_ ∧ _))
def TermsAns (n d : Int) (c : Nat) (out : List Int) : Prop := (¬ OkF n d ∧ c = 1 ∧ out = []) ∨ (OkF n d ∧ c = 0 ∧ out = terms n.toNat d.toNat)
theorem termsAns_one {n d : Int} {c c' : Nat} {o o' : List Int} (h : TermsAns n d c o) (h' : TermsAns n d c' o') : c = c' ∧ o = o' := by
  rcases h with ⟨h1, rfl, rfl⟩ | ⟨h1, rfl, rfl⟩ <;> rcases h' with ⟨g1, rfl, rfl⟩ | ⟨g1, rfl, rfl⟩ <;> first | exact ⟨rfl, rfl⟩ | contradiction

/-- The last of the first k convergents with a lower number that is not greater. -/
def bestUp (l : List Int) (most : Int) : Nat → Fr
  | 0 => (0, 0)
  | k + 1 => if (cv l k).2 ≤ most then cv l k else bestUp l most k
theorem best_is (l : List Int) (most : Int) (hm : 1 ≤ most) (hl : 0 < l.length) : ∀ k, 1 ≤ k → ∃ i, i < k ∧ bestUp l most k = cv l i ∧ (cv l i).2 ≤ most := by
  intro k
  induction k with
  | zero => intro h; omega
  | succ k ih =>
    intro _
    simp only [bestUp]
    by_cases h : (cv l k).2 ≤ most
    · rw [if_pos h]; exact ⟨k, by omega, rfl, h⟩
    · rw [if_neg h]
      rcases Nat.eq_zero_or_pos k with rfl | h0
      · rw [cv_zero l hl] at h; simp at h; omega
      · obtain ⟨i, hi, e, hd⟩ := ih h0
        exact ⟨i, by omega, e, hd⟩
def BestAns (n d most : Int) (c : Nat) (f : Fr) : Prop :=
  (¬ (OkF n d ∧ 1 ≤ most ∧ most ≤ 1000000) ∧ c = 1 ∧ f = (0, 0)) ∨
  (OkF n d ∧ 1 ≤ most ∧ most ≤ 1000000 ∧ c = 0 ∧ f = bestUp (terms n.toNat d.toNat) most (terms n.toNat d.toNat).length)
theorem best_one {n d most : Int} {c c' : Nat} {o o' : Fr} (h : BestAns n d most c o) (h' : BestAns n d most c' o') : c = c' ∧ o = o' := by
  rcases h with ⟨h1, rfl, rfl⟩ | ⟨h1, h2, h3, rfl, rfl⟩ <;> rcases h' with ⟨g1, rfl, rfl⟩ | ⟨g1, g2, g3, rfl, rfl⟩
  · exact ⟨rfl, rfl⟩
  · exact absurd ⟨g1, g2, g3⟩ h1
  · exact absurd ⟨h1, h2, h3⟩ g1
  · exact ⟨rfl, rfl⟩

/-- Lagrange. -/
theorem lagrange_core (u v a' b' l b q : Int) (hq : q = u * l + v * b) (h1 : 1 ≤ q) (h2 : q ≤ l) (hb : 1 ≤ b) (hab : b' < a') (hb0 : 0 ≤ b') : b' ≤ (v * a' - u * b').natAbs := by
  have hl : 1 ≤ l := by omega
  rcases Int.lt_trichotomy v 0 with hv | hv | hv
  · have hvb : v * b ≤ -1 := by
      have h3 := Int.mul_le_mul_of_nonneg_right (show v ≤ -1 by omega) (show 0 ≤ b by omega)
      omega
    have hu : 1 ≤ u := by
      rcases Int.lt_or_le u 1 with h | h
      · have := Int.mul_le_mul_of_nonneg_right (show u ≤ 0 by omega) (show 0 ≤ l by omega)
        omega
      · exact h
    have h4 := Int.mul_le_mul_of_nonneg_right hu hb0
    have h5 := Int.mul_le_mul_of_nonneg_right (show v ≤ -1 by omega) (show 0 ≤ a' by omega)
    omega
  · subst hv
    have hu : 1 ≤ u := by
      rcases Int.lt_or_le u 1 with h | h
      · have := Int.mul_le_mul_of_nonneg_right (show u ≤ 0 by omega) (show 0 ≤ l by omega)
        omega
      · exact h
    have h4 := Int.mul_le_mul_of_nonneg_right hu hb0
    omega
  · have hvb : 1 ≤ v * b := by
      have h3 := Int.mul_le_mul_of_nonneg_right (show 1 ≤ v by omega) (show 0 ≤ b by omega)
      omega
    have hu : u ≤ 0 := by
      rcases Int.lt_or_le 0 u with h | h
      · have := Int.mul_le_mul_of_nonneg_right (show 1 ≤ u by omega) (show 0 ≤ l by omega)
        omega
      · exact h
    have h4 := Int.mul_le_mul_of_nonneg_right hu hb0
    have h5 := Int.mul_le_mul_of_nonneg_right (show 1 ≤ v by omega) (show 0 ≤ a' by omega)
    omega

theorem lagrange (a b : Nat) (hb : 0 < b) (h1 : a ≤ 1000000) (h2 : b ≤ 1000000) (i : Nat) (hi : i + 1 < (terms a b).length) (p q : Int) (hq1 : 1 ≤ q) (hq2 : q ≤ (cv (terms a b) (i + 1)).2) :
    ((a : Int) * (cv (terms a b) (i + 1)).2 - (cv (terms a b) (i + 1)).1 * b).natAbs ≤ ((a : Int) * q - p * b).natAbs := by
  have hr := rem_lt (i + 2) a b (by omega) (by omega)
  obtain ⟨e1, e2⟩ := rem_fw (i + 2) a b s0 (by omega)
  have hd := cv_det (terms a b) i hi
  have hbf := (cv_ge (terms a b) (terms_ok a b hb h1 h2) i (by omega)).2
  rw [fw_two (terms a b) i hi] at e1 e2
  simp only [s0, Int.mul_one, Int.mul_zero, Int.add_zero, Int.zero_add] at e1 e2
  generalize cv (terms a b) (i + 1) = L at *
  generalize cv (terms a b) i = B at *
  have ha0 : ((rem a b (i + 2)).2 : Int) < ((rem a b (i + 2)).1 : Int) := by omega
  have hb0 : (0 : Int) ≤ ((rem a b (i + 2)).2 : Int) := by omega
  generalize ((rem a b (i + 2)).2 : Int) = b' at *
  generalize ((rem a b (i + 2)).1 : Int) = a' at *
  generalize (a : Int) = N at *
  generalize (b : Int) = D at *
  have hs := sg_sq (i + 2)
  generalize sg (i + 2) = s at *
  have hss : s * s = 1 := by rcases hs with rfl | rfl <;> rfl
  have q1 : q = ((p * B.2 - q * B.1) * s) * L.2 + ((L.1 * q - p * L.2) * s) * B.2 := by
    have : ((p * B.2 - q * B.1) * s) * L.2 + ((L.1 * q - p * L.2) * s) * B.2 = q * (s * (L.1 * B.2 - B.1 * L.2)) := by grind
    rw [this, hd, hss, Int.mul_one]
  have hc := lagrange_core _ _ a' b' L.2 B.2 q q1 hq1 hq2 hbf ha0 hb0
  have l1 : N * L.2 - L.1 * D = - (b' * s) := by rw [e1, e2, ← hd]; grind
  have l2 : N * q - p * D = s * ((L.1 * q - p * L.2) * s * a' - (p * B.2 - q * B.1) * s * b') := by
    have : s * ((L.1 * q - p * L.2) * s * a' - (p * B.2 - q * B.1) * s * b') = (s * s) * ((L.1 * q - p * L.2) * a' - (p * B.2 - q * B.1) * b') := by grind
    rw [this, hss, e1, e2]
    grind
  rw [l1, l2]
  generalize (L.1 * q - p * L.2) * s * a' - (p * B.2 - q * B.1) * s * b' = X at hc ⊢
  rcases hs with rfl | rfl <;> simp <;> omega

end Go.Proofs.Ytknpcdnlknlagaa.Cont
