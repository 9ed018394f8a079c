/- Mathematics of products of rows of whole numbers: sums, a product place by place, halves (Karatsuba). -/
import Init
namespace Go.Proofs.Ytgfhmffkdhfoeaa
set_option linter.unusedVariables false
namespace Ka

/-- The sum of the first n values. -/
def sm : Nat → (Nat → Int) → Int
  | 0, _ => 0
  | n + 1, f => sm n f + f n
theorem sm_congr {n : Nat} {f g : Nat → Int} (h : ∀ i, i < n → f i = g i) : sm n f = sm n g := by
  induction n with
  | zero => rfl
  | succ n ih => rw [sm, sm, ih fun i hi => h i (by omega), h n (by omega)]
theorem sm_add (n : Nat) (f g : Nat → Int) : sm n (fun i => f i + g i) = sm n f + sm n g := by
  induction n with
  | zero => rfl
  | succ n ih => rw [sm, sm, sm, ih]; omega
theorem sm_mul (n : Nat) (f : Nat → Int) (c : Int) : sm n (fun i => f i * c) = sm n f * c := by
  induction n with
  | zero => simp [sm]
  | succ n ih => rw [sm, sm, ih, Int.add_mul]
theorem sm_none {n : Nat} {f : Nat → Int} (h : ∀ i, i < n → f i = 0) : sm n f = 0 := by
  induction n with
  | zero => rfl
  | succ n ih => rw [sm, ih fun i hi => h i (by omega), h n (by omega)]; rfl
theorem sm_more (m n : Nat) (f : Nat → Int) : sm (m + n) f = sm m f + sm n (fun i => f (m + i)) := by
  induction n with
  | zero => simp [sm]
  | succ n ih => rw [← Nat.add_assoc, sm, sm, ih]; omega
theorem sm_stop {m n : Nat} {f : Nat → Int} (hmn : m ≤ n) (h : ∀ i, m ≤ i → i < n → f i = 0) : sm n f = sm m f := by
  obtain ⟨d, rfl⟩ : ∃ d, n = m + d := ⟨n - m, by omega⟩
  rw [sm_more, sm_none (f := fun i => f (m + i)) fun i hi => h _ (by omega) (by omega)]; omega
theorem sm_front (n : Nat) (f : Nat → Int) : sm (n + 1) f = f 0 + sm n (fun i => f (i + 1)) := by
  induction n with
  | zero => simp [sm]
  | succ n ih => rw [sm, ih, sm]; omega
theorem sm_rev (n : Nat) (f : Nat → Int) : sm n f = sm n (fun i => f (n - 1 - i)) := by
  induction n with
  | zero => rfl
  | succ n ih =>
    rw [sm_front n (fun i => f (n + 1 - 1 - i)), sm, ih]
    have e : sm n (fun i => f (n - 1 - i)) = sm n (fun i => f (n + 1 - 1 - (i + 1))) := sm_congr fun i hi => by
      rw [show n + 1 - 1 - (i + 1) = n - 1 - i by omega]
    rw [e, show n + 1 - 1 - 0 = n by omega]; omega
theorem sm_bound {n : Nat} {f : Nat → Int} {M : Int} (h : ∀ i, i < n → -M ≤ f i ∧ f i ≤ M) : -((n : Int) * M) ≤ sm n f ∧ sm n f ≤ (n : Int) * M := by
  induction n with
  | zero => simp [sm]
  | succ n ih =>
    have h1 := ih fun i hi => h i (by omega)
    have h2 := h n (by omega)
    rw [sm, Int.natCast_add, Int.add_mul]
    omega

/-- The factor at place k of a product. -/
def cv (f g : Nat → Int) (k : Nat) : Int := sm (k + 1) (fun i => f i * g (k - i))
theorem cv_comm (f g : Nat → Int) (k : Nat) : cv f g k = cv g f k := by
  unfold cv
  rw [sm_rev]
  refine sm_congr fun i hi => ?_
  rw [show k + 1 - 1 - i = k - i by omega, show k - (k - i) = i by omega, Int.mul_comm]
theorem cv_congr {f g f' g' : Nat → Int} (k : Nat) (h1 : ∀ i, f i = f' i) (h2 : ∀ i, g i = g' i) : cv f g k = cv f' g' k := by
  rw [funext h1, funext h2]
theorem cv_add (f f' g : Nat → Int) (k : Nat) : cv (fun i => f i + f' i) g k = cv f g k + cv f' g k := by
  unfold cv
  rw [← sm_add]
  exact sm_congr fun i _ => Int.add_mul _ _ _
theorem cv_add' (f g g' : Nat → Int) (k : Nat) : cv f (fun i => g i + g' i) k = cv f g k + cv f g' k := by
  rw [cv_comm, cv_add, cv_comm g, cv_comm g']
/-- What is shifted by h places. -/
def sh (h : Nat) (f : Nat → Int) (k : Nat) : Int := if k < h then 0 else f (k - h)
theorem sh_congr {f g : Nat → Int} (h k : Nat) (e : ∀ i, f i = g i) : sh h f k = sh h g k := by rw [funext e]
theorem cv_sh (f g : Nat → Int) (h k : Nat) : cv (sh h f) g k = sh h (cv f g) k := by
  by_cases hk : k < h
  · rw [sh, if_pos hk, cv]
    exact sm_none fun i hi => by rw [sh, if_pos (by omega), Int.zero_mul]
  · rw [sh, if_neg hk]
    obtain ⟨m, rfl⟩ : ∃ m, k = h + m := ⟨k - h, by omega⟩
    rw [cv, Nat.add_assoc, sm_more, sm_none (fun i hi => by rw [sh, if_pos (by omega), Int.zero_mul]), Int.zero_add, show h + m - h = m by omega, cv]
    refine sm_congr fun i hi => ?_
    rw [sh, if_neg (by omega), show h + i - h = i by omega, show h + m - (h + i) = m - i by omega]
theorem cv_sh' (f g : Nat → Int) (h k : Nat) : cv f (sh h g) k = sh h (cv f g) k := by
  rw [cv_comm, cv_sh]; exact sh_congr h k fun i => cv_comm _ _ i
theorem sh_sh (f : Nat → Int) (h k : Nat) : sh h (sh h f) k = sh (2 * h) f k := by
  unfold sh
  by_cases h1 : k < h
  · rw [if_pos h1, if_pos (by omega)]
  · rw [if_neg h1]
    by_cases h2 : k - h < h
    · rw [if_pos h2, if_pos (by omega)]
    · rw [if_neg h2, if_neg (by omega), show k - h - h = k - 2 * h by omega]
/-- Karatsuba's: three products of halves are enough. -/
theorem halves (a b c d : Nat → Int) (h k : Nat) :
    cv (fun i => a i + sh h b i) (fun i => c i + sh h d i) k
      = cv a c k + sh h (fun j => cv (fun i => a i + b i) (fun i => c i + d i) j - cv a c j - cv b d j) k + sh (2 * h) (cv b d) k := by
  rw [cv_add, cv_add', cv_add', cv_sh', cv_sh, cv_sh, sh_congr h k (fun i => cv_sh' b d h i), sh_sh]
  have e : ∀ j, cv (fun i => a i + b i) (fun i => c i + d i) j - cv a c j - cv b d j = cv a d j + cv b c j := fun j => by
    rw [cv_add, cv_add', cv_add']; omega
  rw [sh_congr h k e]
  have e2 : sh h (fun j => cv a d j + cv b c j) k = sh h (cv a d) k + sh h (cv b c) k := by
    unfold sh; split <;> rfl
  rw [e2]; omega
/-- A product has no factor where both together have none. -/
theorem cv_none {f g : Nat → Int} {n k : Nat} (hf : ∀ i, n ≤ i → f i = 0) (hg : ∀ i, n ≤ i → g i = 0) (h : 2 * n ≤ k + 1) : cv f g k = 0 := by
  refine sm_none fun i hi => ?_
  by_cases hin : n ≤ i
  · rw [hf i hin, Int.zero_mul]
  · rw [hg (k - i) (by omega), Int.mul_zero]
theorem mul_bounds {x y M : Int} (hx : -M ≤ x ∧ x ≤ M) (hy : -M ≤ y ∧ y ≤ M) : -(M * M) ≤ x * y ∧ x * y ≤ M * M := by
  have hM : 0 ≤ M := by omega
  have a1 : 0 ≤ M - x := by omega
  have a2 : 0 ≤ M + x := by omega
  have b1 : 0 ≤ M - y := by omega
  have b2 : 0 ≤ M + y := by omega
  have p1 := Int.mul_nonneg a1 b1
  have p2 := Int.mul_nonneg a2 b2
  have p3 := Int.mul_nonneg a1 b2
  have p4 := Int.mul_nonneg a2 b1
  constructor <;> grind
theorem cv_bound {f g : Nat → Int} {n : Nat} {M : Nat} (k : Nat) (hf : ∀ i, n ≤ i → f i = 0) (hg : ∀ i, n ≤ i → g i = 0) (bf : ∀ i, -(M : Int) ≤ f i ∧ f i ≤ M) (bg : ∀ i, -(M : Int) ≤ g i ∧ g i ≤ M) (hM : n * M ≤ 16000) (hn : M ≤ 16000) :
    -512000000 ≤ cv f g k ∧ cv f g k ≤ 512000000 := by
  by_cases h : 2 * n ≤ k + 1
  · rw [cv_none hf hg h]; decide
  · have hb := sm_bound (n := k + 1) (f := fun i => f i * g (k - i)) (M := (M : Int) * M) fun i _ => mul_bounds (bf i) (bg _)
    have h1 : (k + 1) * (M * M) ≤ 2 * n * (M * M) := Nat.mul_le_mul_right _ (by omega)
    have h2 : 2 * n * (M * M) = 2 * (n * M) * M := by grind
    have h3 : 2 * (n * M) * M ≤ 32000 * 16000 := Nat.mul_le_mul (by omega) hn
    have h4 : ((k + 1 : Nat) : Int) * ((M : Int) * M) = (((k + 1) * (M * M) : Nat) : Int) := by simp
    rw [h4] at hb
    unfold cv
    omega
/-- What a product comes to at 1. -/
theorem sm_cv (N : Nat) (f g : Nat → Int) : sm N (cv f g) = sm N (fun i => f i * sm (N - i) g) := by
  induction N with
  | zero => rfl
  | succ N ih =>
    rw [sm, ih, cv, sm, sm, ← Int.add_assoc, ← sm_add]
    congr 1
    · refine sm_congr fun i hi => ?_
      rw [show N + 1 - i = (N - i) + 1 by omega, sm, Int.mul_add]
    · rw [show N - N = 0 by omega, show N + 1 - N = 1 by omega]; simp [sm]
theorem sm_prod {f g : Nat → Int} {n : Nat} (hf : ∀ i, n ≤ i → f i = 0) (hg : ∀ i, n ≤ i → g i = 0) : sm (2 * n - 1) (cv f g) = sm n f * sm n g := by
  rw [sm_cv, sm_stop (m := n) (by omega) (fun i hi _ => by rw [hf i hi, Int.zero_mul]), ← sm_mul]
  refine sm_congr fun i hi => ?_
  rw [sm_stop (m := n) (n := 2 * n - 1 - i) (by omega) (fun j hj _ => hg j hj)]

/-- The number at a place; behind the end 0. -/
def at' (l : List Int) (k : Nat) : Int := l.getD k 0
theorem at_out {l : List Int} {k : Nat} (h : l.length ≤ k) : at' l k = 0 := by
  unfold at'; rw [List.getD_eq_getElem?_getD, List.getElem?_eq_none h]; rfl
/-- A list from a rule. -/
def row (n : Nat) (g : Nat → Int) : List Int := (List.range n).map g
theorem len_row (n : Nat) (g : Nat → Int) : (row n g).length = n := by simp [row]
theorem at_row (n : Nat) (g : Nat → Int) (k : Nat) : at' (row n g) k = if k < n then g k else 0 := by
  unfold at' row
  by_cases h : k < n
  · rw [List.getD_eq_getElem?_getD, List.getElem?_map, List.getElem?_range h, if_pos h]; rfl
  · rw [if_neg h, List.getD_eq_getElem?_getD, List.getElem?_eq_none (by simpa using h)]; rfl
theorem row_ext {n : Nat} {g g' : Nat → Int} (h : ∀ k, k < n → g k = g' k) : row n g = row n g' := by
  unfold row
  exact List.map_congr_left fun k hk => h k (by simpa using hk)
theorem list_ext {l m : List Int} (h : l.length = m.length) (h2 : ∀ k, k < l.length → at' l k = at' m k) : l = m := by
  refine List.ext_getElem h fun k h3 h4 => ?_
  have := h2 k h3
  unfold at' at this
  rwa [List.getD_eq_getElem?_getD, List.getD_eq_getElem?_getD, List.getElem?_eq_getElem h3, List.getElem?_eq_getElem h4] at this
theorem row_self (l : List Int) : row l.length (at' l) = l := list_ext (len_row _ _) fun k hk => by
  rw [len_row] at hk
  rw [at_row, if_pos hk]
theorem row_snoc (n : Nat) (g : Nat → Int) : row (n + 1) g = row n g ++ [g n] := by
  unfold row; rw [List.range_succ, List.map_append]; rfl
theorem row_zeros (n : Nat) (g : Nat → Int) (h : ∀ k, k < n → g k = 0) : List.replicate n (0 : Int) = row n g := by
  refine list_ext (by rw [List.length_replicate, len_row]) fun k hk => ?_
  rw [List.length_replicate] at hk
  rw [at_row, if_pos hk, h k hk]
  unfold at'; rw [List.getD_eq_getElem?_getD, List.getElem?_replicate]; simp [hk]
theorem row_set (n : Nat) (g g' : Nat → Int) (j : Nat) (v : Int) (hj : g' j = v) (h : ∀ k, k ≠ j → g' k = g k) : (row n g).set j v = row n g' := by
  refine list_ext (by rw [List.length_set, len_row, len_row]) fun k hk => ?_
  rw [List.length_set, len_row] at hk
  rw [at_row, if_pos hk]
  unfold at'
  rw [List.getD_eq_getElem?_getD, List.getElem?_set]
  by_cases e : j = k
  · subst e; simp [hj, len_row, hk]
  · rw [if_neg e, h k (fun h => e h.symm), ← List.getD_eq_getElem?_getD]
    have := at_row n g k
    rw [if_pos hk] at this; exact this

theorem at_take (l : List Int) (h k : Nat) : at' (l.take h) k = if k < h then at' l k else 0 := by
  unfold at'
  by_cases e : k < h
  · rw [if_pos e, List.getD_eq_getElem?_getD, List.getD_eq_getElem?_getD, List.getElem?_take_of_lt e]
  · rw [if_neg e, List.getD_eq_getElem?_getD, List.getElem?_eq_none (by rw [List.length_take]; omega)]; rfl
theorem at_drop (l : List Int) (h k : Nat) : at' (l.drop h) k = at' l (h + k) := by
  unfold at'
  rw [List.getD_eq_getElem?_getD, List.getD_eq_getElem?_getD, List.getElem?_drop]
theorem at_parts (l : List Int) (h k : Nat) : at' l k = at' (l.take h) k + sh h (at' (l.drop h)) k := by
  rw [at_take]
  unfold sh
  by_cases e : k < h
  · rw [if_pos e, if_pos e]; omega
  · rw [if_neg e, if_neg e, at_drop, show h + (k - h) = k by omega]; omega

/-- The sum of two rows of n numbers, and their product. -/
def plus (n : Nat) (l m : List Int) : List Int := row n (fun k => at' l k + at' m k)
def prod (n : Nat) (l m : List Int) : List Int := row (2 * n - 1) (cv (at' l) (at' m))
theorem len_plus (n : Nat) (l m : List Int) : (plus n l m).length = n := len_row _ _
theorem len_prod (n : Nat) (l m : List Int) : (prod n l m).length = 2 * n - 1 := len_row _ _
theorem at_plus {n : Nat} {l m : List Int} (hl : l.length = n) (hm : m.length = n) (k : Nat) : at' (plus n l m) k = at' l k + at' m k := by
  unfold plus
  rw [at_row]
  by_cases h : k < n
  · rw [if_pos h]
  · rw [if_neg h, at_out (by omega), at_out (by omega)]; rfl
theorem at_prod {n : Nat} {l m : List Int} (hl : l.length = n) (hm : m.length = n) (k : Nat) : at' (prod n l m) k = cv (at' l) (at' m) k := by
  unfold prod
  rw [at_row]
  by_cases h : k < 2 * n - 1
  · rw [if_pos h]
  · rw [if_neg h, cv_none (n := n) (fun i hi => at_out (by omega)) (fun i hi => at_out (by omega)) (by omega)]
theorem prod_comm (n : Nat) (l m : List Int) : prod n l m = prod n m l := row_ext fun k _ => cv_comm _ _ k
theorem prod_plus {n : Nat} {l m o : List Int} (hm : m.length = n) (ho : o.length = n) (k : Nat) (hk : k < 2 * n - 1) : at' (prod n l (plus n m o)) k = at' (prod n l m) k + at' (prod n l o) k := by
  unfold prod
  rw [at_row, at_row, at_row, if_pos hk, if_pos hk, if_pos hk, ← cv_add']
  exact cv_congr k (fun _ => rfl) (fun i => at_plus hm ho i)
theorem prod_one {l m : List Int} : prod 1 l m = [at' l 0 * at' m 0] := by
  show [cv (at' l) (at' m) 0] = _
  simp [cv, sm]

/-- All numbers lie from -M to M. -/
def Bd (M : Nat) (l : List Int) : Prop := ∀ k, -(M : Int) ≤ at' l k ∧ at' l k ≤ M
theorem Bd.take {M : Nat} {l : List Int} (h : Bd M l) (n : Nat) : Bd M (l.take n) := fun k => by
  rw [at_take]; split
  · exact h k
  · omega
theorem Bd.drop {M : Nat} {l : List Int} (h : Bd M l) (n : Nat) : Bd M (l.drop n) := fun k => by rw [at_drop]; exact h _
theorem Bd.plus {M : Nat} {l m : List Int} (hl : Bd M l) (hm : Bd M m) (n : Nat) : Bd (2 * M) (plus n l m) := fun k => by
  unfold Ka.plus
  rw [at_row]
  have h1 := hl k
  have h2 := hm k
  split <;> omega
theorem prod_bound {n M : Nat} {l m : List Int} (hl : l.length = n) (hm : m.length = n) (bl : Bd M l) (bm : Bd M m) (h : n * M ≤ 16000) (h2 : M ≤ 16000) (k : Nat) :
    -512000000 ≤ at' (prod n l m) k ∧ at' (prod n l m) k ≤ 512000000 := by
  rw [at_prod hl hm]
  exact cv_bound k (fun i hi => at_out (by omega)) (fun i hi => at_out (by omega)) bl bm h h2

/-- The row behind i, j, c rounds: L, what is between, H, each where it belongs. -/
def mix (h : Nat) (L B H : List Int) (i j c : Nat) (k : Nat) : Int :=
  (if k < i then at' L k else 0) + (if h ≤ k ∧ k < h + j then at' B (k - h) - at' L (k - h) - at' H (k - h) else 0) + (if 2 * h ≤ k ∧ k < 2 * h + c then at' H (k - 2 * h) else 0)
theorem mix_zero (h : Nat) (L B H : List Int) (k : Nat) : mix h L B H 0 0 0 k = 0 := by
  unfold mix
  rw [if_neg (by omega), if_neg (by omega), if_neg (by omega)]; rfl
theorem mix_low (n h : Nat) (L B H : List Int) (i j c : Nat) : (row n (mix h L B H i j c)).set i (mix h L B H i j c i + at' L i) = row n (mix h L B H (i + 1) j c) := by
  refine row_set _ _ _ _ _ ?_ fun k hk => ?_
  · unfold mix; rw [if_pos (by omega : i < i + 1), if_neg (by omega : ¬ i < i)]; omega
  · unfold mix
    by_cases e : k < i
    · rw [if_pos e, if_pos (by omega)]
    · rw [if_neg e, if_neg (by omega)]
theorem mix_mid (n h : Nat) (L B H : List Int) (i j c p : Nat) (hp : p = j + h) : (row n (mix h L B H i j c)).set p (mix h L B H i j c p + (at' B j - at' L j - at' H j)) = row n (mix h L B H i (j + 1) c) := by
  subst hp
  refine row_set _ _ _ _ _ ?_ fun k hk => ?_
  · unfold mix
    rw [if_pos (by omega : h ≤ j + h ∧ j + h < h + (j + 1)), if_neg (by omega : ¬ (h ≤ j + h ∧ j + h < h + j)), show j + h - h = j by omega]; omega
  · unfold mix
    by_cases e : h ≤ k ∧ k < h + j
    · rw [if_pos e, if_pos (show h ≤ k ∧ k < h + (j + 1) by omega)]
    · rw [if_neg e, if_neg (show ¬ (h ≤ k ∧ k < h + (j + 1)) by omega)]
theorem mix_high (n h : Nat) (L B H : List Int) (i j c p : Nat) (hp : p = c + 2 * h) : (row n (mix h L B H i j c)).set p (mix h L B H i j c p + at' H c) = row n (mix h L B H i j (c + 1)) := by
  subst hp
  refine row_set _ _ _ _ _ ?_ fun k hk => ?_
  · unfold mix
    rw [if_pos (by omega : 2 * h ≤ c + 2 * h ∧ c + 2 * h < 2 * h + (c + 1)), if_neg (by omega : ¬ (2 * h ≤ c + 2 * h ∧ c + 2 * h < 2 * h + c)), show c + 2 * h - 2 * h = c by omega]; omega
  · unfold mix
    by_cases e : 2 * h ≤ k ∧ k < 2 * h + c
    · rw [if_pos e, if_pos (show 2 * h ≤ k ∧ k < 2 * h + (c + 1) by omega)]
    · rw [if_neg e, if_neg (show ¬ (2 * h ≤ k ∧ k < 2 * h + (c + 1)) by omega)]
theorem mix_bound {h : Nat} {L B H : List Int} (bL : ∀ k, -512000000 ≤ at' L k ∧ at' L k ≤ 512000000) (bB : ∀ k, -512000000 ≤ at' B k ∧ at' B k ≤ 512000000) (bH : ∀ k, -512000000 ≤ at' H k ∧ at' H k ≤ 512000000) (i j c k : Nat) :
    -3000000000 ≤ mix h L B H i j c k ∧ mix h L B H i j c k ≤ 3000000000 := by
  have h1 := bL k
  have h2 := bB (k - h)
  have h3 := bL (k - h)
  have h4 := bH (k - h)
  have h5 := bH (k - 2 * h)
  unfold mix
  repeat' split
  all_goals omega
/-- The whole row is the product. -/
theorem mix_all {n h q : Nat} {l m : List Int} (hn : n = 2 * h) (hq : q + 1 = n) (hl : l.length = n) (hm : m.length = n) :
    row (2 * n - 1) (mix h (prod h (l.take h) (m.take h)) (prod h (plus h (l.take h) (l.drop h)) (plus h (m.take h) (m.drop h))) (prod h (l.drop h) (m.drop h)) q q q) = prod n l m := by
  have l1 : (l.take h).length = h := by rw [List.length_take]; omega
  have l2 : (l.drop h).length = h := by rw [List.length_drop]; omega
  have m1 : (m.take h).length = h := by rw [List.length_take]; omega
  have m2 : (m.drop h).length = h := by rw [List.length_drop]; omega
  refine row_ext fun k hk => ?_
  rw [cv_congr k (at_parts l h) (at_parts m h), halves]
  unfold mix
  have z1 : ∀ j, q ≤ j → cv (at' (l.take h)) (at' (m.take h)) j = 0 := fun j hj => cv_none (n := h) (fun i hi => at_out (by omega)) (fun i hi => at_out (by omega)) (by omega)
  have z2 : ∀ j, q ≤ j → cv (at' (l.drop h)) (at' (m.drop h)) j = 0 := fun j hj => cv_none (n := h) (fun i hi => at_out (by omega)) (fun i hi => at_out (by omega)) (by omega)
  have z3 : ∀ j, q ≤ j → cv (fun i => at' (l.take h) i + at' (l.drop h) i) (fun i => at' (m.take h) i + at' (m.drop h) i) j = 0 := fun j hj =>
    cv_none (n := h) (fun i hi => by rw [at_out (by omega), at_out (by omega)]; rfl) (fun i hi => by rw [at_out (by omega), at_out (by omega)]; rfl) (by omega)
  have e3 : ∀ j, at' (prod h (plus h (l.take h) (l.drop h)) (plus h (m.take h) (m.drop h))) j = cv (fun i => at' (l.take h) i + at' (l.drop h) i) (fun i => at' (m.take h) i + at' (m.drop h) i) j := fun j => by
    rw [at_prod (len_plus _ _ _) (len_plus _ _ _)]
    exact cv_congr j (at_plus l1 l2) (at_plus m1 m2)
  congr 1
  · congr 1
    · by_cases e : k < q
      · rw [if_pos e, at_prod l1 m1]
      · rw [if_neg e, z1 k (by omega)]
    · unfold sh
      by_cases e : k < h
      · rw [if_neg (by omega), if_pos e]
      · rw [if_neg e]
        by_cases e2 : k < h + q
        · rw [if_pos ⟨by omega, e2⟩, at_prod l1 m1, at_prod l2 m2, e3]
        · rw [if_neg (by omega)]
          simp only []
          rw [z1 _ (by omega), z2 _ (by omega), z3 _ (by omega)]; rfl
  · unfold sh
    by_cases e : k < 2 * h
    · rw [if_neg (by omega), if_pos e]
    · rw [if_neg e]
      by_cases e2 : k < 2 * h + q
      · rw [if_pos ⟨by omega, e2⟩, at_prod l2 m2]
      · rw [if_neg (by omega), z2 _ (by omega)]

end Ka
end Go.Proofs.Ytgfhmffkdhfoeaa
