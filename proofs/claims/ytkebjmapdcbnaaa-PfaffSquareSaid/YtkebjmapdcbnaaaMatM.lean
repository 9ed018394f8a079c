/- Plain facts on matrices: tables from a rule, sums in the field, products, powers, turned. No program is named here. -/
import Derived.Test.YtkebjmapdcbnaaaFp
namespace Go.Proofs.Ytkebjmapdcbnaaa.Mx
open Fp
set_option linter.unusedVariables false

/-- A row from a rule. -/
def row (n : Nat) (g : Nat → Int) : List Int := (List.range n).map g
theorem len_row (n : Nat) (g : Nat → Int) : (row n g).length = n := by simp [row]
theorem row_at (n : Nat) (g : Nat → Int) (k : Nat) (h : k < n) : (row n g).getD k 0 = g k := by simp [row, h]
theorem row_out (n : Nat) (g : Nat → Int) (k : Nat) (h : n ≤ k) : (row n g).getD k 0 = 0 := by simp [row, h]
theorem row_ext {n : Nat} {g h : Nat → Int} (e : ∀ k, k < n → g k = h k) : row n g = row n h := List.map_congr_left fun k hk => e k (List.mem_range.1 hk)
theorem row_snoc (n : Nat) (g : Nat → Int) : row (n + 1) g = row n g ++ [g n] := by simp [row, List.range_succ]
theorem is_row (l : List Int) : l = row l.length fun j => l.getD j 0 := by
  refine List.ext_getElem (len_row _ _).symm fun k h1 h2 => ?_
  simp [row, h1]
theorem row_set (n : Nat) (g : Nat → Int) (k : Nat) (x : Int) : (row n g).set k x = row n fun j => if j = k then x else g j := by
  refine List.ext_getElem (by simp [row]) fun j h1 h2 => ?_
  simp only [row, List.getElem_set, List.getElem_map, List.getElem_range]
  by_cases e : k = j
  · subst e; simp
  · rw [if_neg e, if_neg (fun e' => e e'.symm)]
theorem row_inj {n m : Nat} {g h : Nat → Int} (e : row n g = row m h) : n = m ∧ ∀ k, k < n → g k = h k := by
  have hl : n = m := by have := congrArg List.length e; rwa [len_row, len_row] at this
  refine ⟨hl, fun k hk => ?_⟩
  have := congrArg (fun l => l.getD k 0) e
  rwa [row_at _ _ _ hk, row_at _ _ _ (by omega)] at this
theorem row_rep (n : Nat) (x : Int) : List.replicate n x = row n fun _ => x := by
  refine List.ext_getElem (by simp [row]) fun j h1 h2 => ?_
  simp [row]

/-- A matrix from a rule. -/
def tab (r c : Nat) (g : Nat → Nat → Int) : List (List Int) := (List.range r).map fun i => row c (g i)
theorem len_tab (r c : Nat) (g : Nat → Nat → Int) : (tab r c g).length = r := by simp [tab]
theorem tab_at (r c : Nat) (g : Nat → Nat → Int) (i : Nat) (h : i < r) : (tab r c g).getD i [] = row c (g i) := by simp [tab, h]
theorem tab_len (r c : Nat) (g : Nat → Nat → Int) (i : Nat) (h : i < r) : ((tab r c g).getD i []).length = c := by rw [tab_at r c g i h, len_row]
theorem tab_el (r c : Nat) (g : Nat → Nat → Int) (i j : Nat) (h : i < r) (hj : j < c) : ((tab r c g).getD i []).getD j 0 = g i j := by rw [tab_at r c g i h, row_at _ _ _ hj]
theorem tab_ext {r c : Nat} {g h : Nat → Nat → Int} (e : ∀ i j, i < r → j < c → g i j = h i j) : tab r c g = tab r c h :=
  List.map_congr_left fun i hi => row_ext fun j hj => e i j (List.mem_range.1 hi) hj
theorem tab_snoc (r c : Nat) (g : Nat → Nat → Int) : tab (r + 1) c g = tab r c g ++ [row c (g r)] := by simp [tab, List.range_succ]
theorem tab_zero (c : Nat) (g : Nat → Nat → Int) : tab 0 c g = [] := rfl
theorem tab_inj {r c r' c' : Nat} {g h : Nat → Nat → Int} (hr : 0 < r) (e : tab r c g = tab r' c' h) : r = r' ∧ c = c' ∧ ∀ i j, i < r → j < c → g i j = h i j := by
  have hl : r = r' := by have := congrArg List.length e; rwa [len_tab, len_tab] at this
  subst hl
  have hrow : ∀ i, i < r → row c (g i) = row c' (h i) := fun i hi => by
    have := congrArg (fun l => l.getD i []) e
    rwa [tab_at _ _ _ _ hi, tab_at _ _ _ _ hi] at this
  exact ⟨rfl, (row_inj (hrow 0 hr)).1, fun i j hi hj => (row_inj (hrow i hi)).2 j hj⟩
theorem tab_set (r c : Nat) (g : Nat → Nat → Int) (i j : Nat) (hi : i < r) (x : Int) :
    (tab r c g).set i (((tab r c g).getD i []).set j x) = tab r c fun a b => if a = i ∧ b = j then x else g a b := by
  rw [tab_at _ _ _ _ hi, row_set]
  refine List.ext_getElem (by simp [tab]) fun k h1 h2 => ?_
  simp only [tab, List.getElem_set, List.getElem_map, List.getElem_range]
  by_cases e : i = k
  · subst e; simp
  · rw [if_neg e]
    exact row_ext fun b _ => by rw [if_neg (fun h => e h.1.symm)]
theorem tab_rep (r c : Nat) (x : Int) : List.replicate r (List.replicate c x) = tab r c fun _ _ => x := by
  rw [row_rep]
  refine List.ext_getElem (by simp [tab]) fun j h1 h2 => ?_
  simp [tab]
theorem is_tab {m : List (List Int)} {c : Nat} (h : ∀ i, i < m.length → (m.getD i []).length = c) : m = tab m.length c fun i j => (m.getD i []).getD j 0 := by
  refine List.ext_getElem (by rw [len_tab]) fun i h1 h2 => ?_
  have e := h i h1
  simp only [tab, List.getElem_map, List.getElem_range]
  have e' : m.getD i [] = m[i] := by simp [h1]
  rw [e'] at e ⊢
  rw [← e]
  exact is_row _

/-- What is wrong with one row that should be so long. -/
def rcode (lo hi : Int) (c : Nat) (l : List Int) : Nat := if l.length ≠ c then 3 else if ∀ n ∈ l, lo ≤ n ∧ n ≤ hi then 0 else 1
/-- What is wrong with the first wrong row. -/
def rows (lo hi : Int) (c : Nat) : List (List Int) → Nat
  | [] => 0
  | l :: t => if rcode lo hi c l = 0 then rows lo hi c t else rcode lo hi c l
/-- What is wrong with a matrix. -/
def mcode (most : Nat) (lo hi : Int) (m : List (List Int)) : Nat :=
  if m.length = 0 ∨ (m.getD 0 []).length = 0 then 5 else if most < m.length ∨ most < (m.getD 0 []).length then 4 else rows lo hi (m.getD 0 []).length m

theorem mem_getD {l : List Int} {p : Int → Prop} : (∀ n ∈ l, p n) ↔ ∀ k, k < l.length → p (l.getD k 0) := by
  constructor
  · intro h k hk
    have : l.getD k 0 = l[k] := by simp [hk]
    rw [this]; exact h _ (List.getElem_mem _)
  · intro h n hn
    obtain ⟨k, hk, rfl⟩ := List.mem_iff_getElem.1 hn
    have := h k hk
    simpa [hk] using this
theorem rcode_ok {lo hi : Int} {c : Nat} {l : List Int} (h1 : l.length = c) (h2 : ∀ k, k < l.length → lo ≤ l.getD k 0 ∧ l.getD k 0 ≤ hi) : rcode lo hi c l = 0 := by
  unfold rcode; rw [if_neg (by omega), if_pos (mem_getD.2 h2)]
theorem rcode_len {lo hi : Int} {c : Nat} {l : List Int} (h1 : l.length ≠ c) : rcode lo hi c l = 3 := by unfold rcode; rw [if_pos h1]
theorem rcode_bad {lo hi : Int} {c : Nat} {l : List Int} (h1 : l.length = c) {k : Nat} (hk : k < l.length) (h2 : ¬ (lo ≤ l.getD k 0 ∧ l.getD k 0 ≤ hi)) : rcode lo hi c l = 1 := by
  unfold rcode; rw [if_neg (by omega), if_neg fun h => h2 (mem_getD.1 h k hk)]
theorem rcode_bad' {lo hi : Int} {c : Nat} {l : List Int} (h1 : l.length = c) (h2 : ¬ ∀ k, k < l.length → lo ≤ l.getD k 0 ∧ l.getD k 0 ≤ hi) : rcode lo hi c l = 1 := by
  unfold rcode; rw [if_neg (by omega), if_neg fun h => h2 (mem_getD.1 h)]
theorem rcode_zero {lo hi : Int} {c : Nat} {l : List Int} (h : rcode lo hi c l = 0) : l.length = c ∧ ∀ k, k < l.length → lo ≤ l.getD k 0 ∧ l.getD k 0 ≤ hi := by
  unfold rcode at h
  by_cases h1 : l.length ≠ c
  · rw [if_pos h1] at h; cases h
  · rw [if_neg h1] at h
    by_cases h2 : ∀ n ∈ l, lo ≤ n ∧ n ≤ hi
    · exact ⟨by omega, mem_getD.1 h2⟩
    · rw [if_neg h2] at h; cases h
theorem rows_drop {lo hi : Int} {c : Nat} {m : List (List Int)} {k : Nat} (hk : k < m.length) :
    rows lo hi c (m.drop k) = if rcode lo hi c (m.getD k []) = 0 then rows lo hi c (m.drop (k + 1)) else rcode lo hi c (m.getD k []) := by
  have e : m.getD k [] = m[k] := by simp [hk]
  rw [List.drop_eq_getElem_cons hk, e]; rfl
theorem rows_end {lo hi : Int} {c : Nat} {m : List (List Int)} {k : Nat} (hk : m.length ≤ k) : rows lo hi c (m.drop k) = 0 := by rw [List.drop_eq_nil_of_le hk]; rfl
theorem rows_zero {lo hi : Int} {c : Nat} {m : List (List Int)} (h : rows lo hi c m = 0) : ∀ i, i < m.length → rcode lo hi c (m.getD i []) = 0 := by
  induction m with
  | nil => intro i hi; simp at hi
  | cons l t ih =>
    have h' : (if rcode lo hi c l = 0 then rows lo hi c t else rcode lo hi c l) = 0 := h
    by_cases h0 : rcode lo hi c l = 0
    · rw [if_pos h0] at h'
      intro i hi
      cases i with
      | zero => simpa using h0
      | succ i => simpa using ih h' i (by simpa using hi)
    · rw [if_neg h0] at h'; exact absurd h' h0
theorem rows_ok {lo hi : Int} {c : Nat} {m : List (List Int)} (h : ∀ i, i < m.length → rcode lo hi c (m.getD i []) = 0) : rows lo hi c m = 0 := by
  induction m with
  | nil => rfl
  | cons l t ih =>
    have h0 : rcode lo hi c l = 0 := by simpa using h 0 (by simp)
    show (if rcode lo hi c l = 0 then rows lo hi c t else rcode lo hi c l) = 0
    rw [if_pos h0]
    exact ih fun i hi => by simpa using h (i + 1) (by simpa using hi)
theorem rcode_some (lo hi : Int) (c : Nat) (l : List Int) : rcode lo hi c l = 0 ∨ rcode lo hi c l = 1 ∨ rcode lo hi c l = 3 := by
  unfold rcode; split
  · simp
  · split <;> simp
theorem rows_some (lo hi : Int) (c : Nat) (m : List (List Int)) : rows lo hi c m = 0 ∨ rows lo hi c m = 1 ∨ rows lo hi c m = 3 := by
  induction m with
  | nil => exact .inl rfl
  | cons l t ih =>
    show (if rcode lo hi c l = 0 then rows lo hi c t else rcode lo hi c l) = 0 ∨ (if rcode lo hi c l = 0 then rows lo hi c t else rcode lo hi c l) = 1 ∨ (if rcode lo hi c l = 0 then rows lo hi c t else rcode lo hi c l) = 3
    by_cases h0 : rcode lo hi c l = 0
    · rw [if_pos h0]; exact ih
    · rw [if_neg h0]; exact rcode_some _ _ _ _
theorem mcode_le (most : Nat) (lo hi : Int) (m : List (List Int)) : mcode most lo hi m ≤ 5 := by
  unfold mcode
  split
  · omega
  · split
    · omega
    · have := rows_some lo hi (m.getD 0 []).length m; omega

/-- The matrix of numbers of the field. -/
def matl (r c : Nat) (f : Nat → Nat → F) : List (List Int) := tab r c fun i j => ((f i j).val : Int)
theorem len_matl (r c : Nat) (f : Nat → Nat → F) : (matl r c f).length = r := len_tab _ _ _
theorem matl_ext {r c : Nat} {f g : Nat → Nat → F} (h : ∀ i j, i < r → j < c → f i j = g i j) : matl r c f = matl r c g := tab_ext fun i j hi hj => by rw [h i j hi hj]
theorem matl_inj {r c r' c' : Nat} {f g : Nat → Nat → F} (hr : 0 < r) (e : matl r c f = matl r' c' g) : r = r' ∧ c = c' ∧ ∀ i j, i < r → j < c → f i j = g i j := by
  obtain ⟨h1, h2, h3⟩ := tab_inj hr e
  exact ⟨h1, h2, fun i j hi hj => Fin.ext (by have := h3 i j hi hj; omega)⟩
theorem mcode_zero {most : Nat} {m : List (List Int)} (h : mcode most 0 9972 m = 0) :
    ∃ r c f, m = matl r c f ∧ 0 < r ∧ r ≤ most ∧ 0 < c ∧ c ≤ most := by
  unfold mcode at h
  by_cases h1 : m.length = 0 ∨ (m.getD 0 []).length = 0
  · rw [if_pos h1] at h; cases h
  · rw [if_neg h1] at h
    by_cases h2 : most < m.length ∨ most < (m.getD 0 []).length
    · rw [if_pos h2] at h; cases h
    · rw [if_neg h2] at h
      have hr := rows_zero h
      refine ⟨m.length, (m.getD 0 []).length, fun i j => ofInt ((m.getD i []).getD j 0), ?_, by omega, by omega, by omega, by omega⟩
      conv => lhs; rw [is_tab fun i hi => (rcode_zero (hr i hi)).1]
      refine tab_ext fun i j hi hj => ?_
      obtain ⟨e1, e2⟩ := rcode_zero (hr i hi)
      have := e2 j (by omega)
      exact (ofInt_of _ this.1 (by omega)).symm
theorem mcode_matl {most r c : Nat} (f : Nat → Nat → F) (h1 : 0 < r) (h2 : r ≤ most) (h3 : 0 < c) (h4 : c ≤ most) : mcode most 0 9972 (matl r c f) = 0 := by
  unfold mcode
  rw [matl, tab_len _ _ _ _ h1, len_tab, if_neg (by omega), if_neg (by omega)]
  refine rows_ok fun i hi => ?_
  rw [len_tab] at hi
  refine rcode_ok (tab_len _ _ _ _ hi) fun k hk => ?_
  rw [tab_len _ _ _ _ hi] at hk
  rw [tab_el _ _ _ _ _ hi hk]
  have := (f i k).isLt
  omega

/-- The sum of the first n values. -/
def sg : Nat → (Nat → F) → F
  | 0, _ => 0
  | n + 1, f => sg n f + f n
theorem sg_zero (f : Nat → F) : sg 0 f = 0 := rfl
theorem sg_succ (n : Nat) (f : Nat → F) : sg (n + 1) f = sg n f + f n := rfl
theorem sg_congr {n : Nat} {f g : Nat → F} (h : ∀ i, i < n → f i = g i) : sg n f = sg n g := by
  induction n with
  | zero => rfl
  | succ n ih => rw [sg, sg, ih fun i hi => h i (by omega), h n (by omega)]
theorem sg_none (n : Nat) : sg n (fun _ => 0) = 0 := by
  induction n with
  | zero => rfl
  | succ n ih => rw [sg, ih]; grind
theorem sg_add (n : Nat) (f g : Nat → F) : sg n (fun i => f i + g i) = sg n f + sg n g := by
  induction n with
  | zero => simp only [sg]; grind
  | succ n ih => rw [sg, sg, sg, ih]; grind
theorem sg_times (n : Nat) (a : F) (f : Nat → F) : sg n (fun i => a * f i) = a * sg n f := by
  induction n with
  | zero => simp only [sg]; grind
  | succ n ih => rw [sg, sg, ih]; grind
theorem sg_by (n : Nat) (a : F) (f : Nat → F) : sg n (fun i => f i * a) = sg n f * a := by
  induction n with
  | zero => simp only [sg]; grind
  | succ n ih => rw [sg, sg, ih]; grind
theorem sg_swap (n m : Nat) (f : Nat → Nat → F) : sg n (fun i => sg m (f i)) = sg m (fun j => sg n (fun i => f i j)) := by
  induction n with
  | zero => simp only [sg]; exact (sg_none m).symm
  | succ n ih => rw [sg, ih, ← sg_add]; rfl
/-- A sum in which one term alone is not nought. -/
theorem sg_one {n : Nat} {f : Nat → F} {k : Nat} (hk : k < n) (h : ∀ i, i < n → i ≠ k → f i = 0) : sg n f = f k := by
  induction n with
  | zero => omega
  | succ n ih =>
    rw [sg]
    by_cases e : k = n
    · subst e
      rw [sg_congr (g := fun _ => 0) fun i hi => h i (by omega) (by omega), sg_none]; grind
    · rw [ih (by omega) fun i hi => h i (by omega), h n (by omega) (fun e' => e e'.symm)]; grind
theorem zero_sum (a b : F) : 0 + a * b = a * b := by grind

/-- Products, the one that changes nothing, powers, turned. -/
def mul (k : Nat) (f g : Nat → Nat → F) : Nat → Nat → F := fun i j => sg k fun x => f i x * g x j
def plus (f g : Nat → Nat → F) : Nat → Nat → F := fun i j => f i j + g i j
def one : Nat → Nat → F := fun i j => if i = j then 1 else 0
def flip (f : Nat → Nat → F) : Nat → Nat → F := fun i j => f j i
/-- Powers. -/
def pwm (n : Nat) (f : Nat → Nat → F) : Nat → Nat → Nat → F
  | 0 => one
  | k + 1 => mul n f (pwm n f k)

/-- Alike on the first rows and columns. -/
def Eqm (r c : Nat) (f g : Nat → Nat → F) : Prop := ∀ i j, i < r → j < c → f i j = g i j
theorem Eqm.rfl' (r c : Nat) (f : Nat → Nat → F) : Eqm r c f f := fun _ _ _ _ => rfl
theorem Eqm.symm {r c : Nat} {f g : Nat → Nat → F} (h : Eqm r c f g) : Eqm r c g f := fun i j hi hj => (h i j hi hj).symm
theorem Eqm.trans {r c : Nat} {f g k : Nat → Nat → F} (h : Eqm r c f g) (h' : Eqm r c g k) : Eqm r c f k := fun i j hi hj => (h i j hi hj).trans (h' i j hi hj)
theorem Eqm.mat {r c : Nat} {f g : Nat → Nat → F} (h : Eqm r c f g) : matl r c f = matl r c g := matl_ext h
theorem Eqm.of {r c : Nat} {f g : Nat → Nat → F} (hr : 0 < r) (h : matl r c f = matl r c g) : Eqm r c f g := (matl_inj hr h).2.2
theorem Eqm.mul {r k c : Nat} {f f' g g' : Nat → Nat → F} (h : Eqm r k f f') (h' : Eqm k c g g') : Eqm r c (Mx.mul k f g) (Mx.mul k f' g') := fun i j hi hj =>
  sg_congr fun x hx => by rw [h i x hi hx, h' x j hx hj]
theorem Eqm.plus {r c : Nat} {f f' g g' : Nat → Nat → F} (h : Eqm r c f f') (h' : Eqm r c g g') : Eqm r c (Mx.plus f g) (Mx.plus f' g') := fun i j hi hj => by
  show f i j + g i j = f' i j + g' i j
  rw [h i j hi hj, h' i j hi hj]

theorem mul_assoc (m n : Nat) (f g h : Nat → Nat → F) : mul n (mul m f g) h = mul m f (mul n g h) := by
  funext i j
  show sg n (fun y => sg m (fun x => f i x * g x y) * h y j) = sg m fun x => f i x * sg n fun y => g x y * h y j
  have e1 : (fun y => sg m (fun x => f i x * g x y) * h y j) = fun y => sg m fun x => f i x * (g x y * h y j) := by
    funext y
    rw [← sg_by]
    exact sg_congr fun x _ => by grind
  have e2 : (fun x => f i x * sg n fun y => g x y * h y j) = fun x => sg n fun y => f i x * (g x y * h y j) := by
    funext x
    rw [← sg_times]
  rw [e1, e2, sg_swap]
theorem mul_plus (n : Nat) (f g h : Nat → Nat → F) : mul n f (plus g h) = plus (mul n f g) (mul n f h) := by
  funext i j
  show sg n (fun x => f i x * (g x j + h x j)) = sg n (fun x => f i x * g x j) + sg n fun x => f i x * h x j
  rw [← sg_add]
  exact sg_congr fun x _ => by grind
theorem plus_mul (n : Nat) (f g h : Nat → Nat → F) : mul n (plus f g) h = plus (mul n f h) (mul n g h) := by
  funext i j
  show sg n (fun x => (f i x + g i x) * h x j) = sg n (fun x => f i x * h x j) + sg n fun x => g i x * h x j
  rw [← sg_add]
  exact sg_congr fun x _ => by grind
theorem one_mul (r c : Nat) (f : Nat → Nat → F) : Eqm r c (mul r one f) f := fun i j hi hj => by
  show sg r (fun x => (if i = x then (1 : F) else 0) * f x j) = f i j
  rw [sg_one hi fun x _ hne => by rw [if_neg fun e => hne e.symm]; grind]
  rw [if_pos rfl]; grind
theorem mul_one (r c : Nat) (f : Nat → Nat → F) : Eqm r c (mul c f one) f := fun i j hi hj => by
  show sg c (fun x => f i x * (if x = j then (1 : F) else 0)) = f i j
  rw [sg_one hj fun x _ hne => by rw [if_neg hne]; grind]
  rw [if_pos rfl]; grind
theorem flip_mul (k : Nat) (f g : Nat → Nat → F) : flip (mul k f g) = mul k (flip g) (flip f) := by
  funext i j
  exact sg_congr fun x _ => by show f j x * g x i = g x i * f j x; grind
theorem flip_flip (f : Nat → Nat → F) : flip (flip f) = f := rfl

theorem Eqm.pwm {n : Nat} {f g : Nat → Nat → F} (h : Eqm n n f g) (k : Nat) : Eqm n n (Mx.pwm n f k) (Mx.pwm n g k) := by
  induction k with
  | zero => exact Eqm.rfl' _ _ _
  | succ k ih => exact h.mul ih
theorem pwm_add (n : Nat) (f : Nat → Nat → F) (a b : Nat) : Eqm n n (mul n (pwm n f a) (pwm n f b)) (pwm n f (a + b)) := by
  induction a with
  | zero => rw [Nat.zero_add]; exact one_mul n n _
  | succ a ih =>
    rw [show a + 1 + b = (a + b) + 1 by omega]
    show Eqm n n (mul n (mul n f (pwm n f a)) (pwm n f b)) (mul n f (pwm n f (a + b)))
    rw [mul_assoc]
    exact (Eqm.rfl' _ _ _).mul ih
theorem pwm_one (n : Nat) (f : Nat → Nat → F) : Eqm n n (pwm n f 1) f := mul_one n n f
theorem pwm_snoc (n : Nat) (f : Nat → Nat → F) (k : Nat) : Eqm n n (mul n (pwm n f k) f) (pwm n f (k + 1)) :=
  ((Eqm.rfl' n n _).mul (pwm_one n f).symm).trans (pwm_add n f k 1)
theorem pwm_mul (n : Nat) (f : Nat → Nat → F) (a b : Nat) : Eqm n n (pwm n (pwm n f a) b) (pwm n f (a * b)) := by
  induction b with
  | zero => exact Eqm.rfl' _ _ _
  | succ b ih =>
    rw [show a * (b + 1) = a + a * b by rw [Nat.mul_succ, Nat.add_comm]]
    exact ((Eqm.rfl' n n _).mul ih).trans (pwm_add n f a (a * b))
/-- One round of the quick way. -/
theorem pwm_half (n : Nat) (f p : Nat → Nat → F) (k : Nat) : Eqm n n (mul n (if k % 2 = 1 then mul n p f else p) (pwm n (mul n f f) (k / 2))) (mul n p (pwm n f k)) := by
  have e2 : Eqm n n (pwm n (mul n f f) (k / 2)) (pwm n f (2 * (k / 2))) :=
    (Eqm.pwm (((Eqm.rfl' n n f).mul (pwm_one n f).symm).trans (Eqm.rfl' n n (pwm n f 2))) (k / 2)).trans (pwm_mul n f 2 (k / 2))
  by_cases h : k % 2 = 1
  · rw [if_pos h, mul_assoc]
    refine (Eqm.rfl' n n p).mul (((Eqm.rfl' n n f).mul e2).trans ?_)
    have : k = 2 * (k / 2) + 1 := by omega
    conv => rhs; rw [this]
    exact Eqm.rfl' _ _ _
  · rw [if_neg h]
    have : k = 2 * (k / 2) := by omega
    conv => rhs; rw [this]
    exact (Eqm.rfl' n n p).mul e2

/-- What comes of the places that were gone to, one behind the other: each adds its share. -/
def acc (r c : Nat) (g : Nat → Nat → F) : List Nat → Nat → Nat → F
  | [], _, _ => 0
  | k :: t, a, b => (if a = k / c % r ∧ b = k % c then g a b else 0) + acc r c g t a b
theorem acc_snoc (r c : Nat) (g : Nat → Nat → F) (l : List Nat) (k a b : Nat) : acc r c g (l ++ [k]) a b = acc r c g l a b + if a = k / c % r ∧ b = k % c then g a b else 0 := by
  induction l with
  | nil => simp only [List.nil_append, acc]; grind
  | cons x l ih => rw [List.cons_append, acc, acc, ih]; grind
theorem place {r c k a b : Nat} (hr : k < r * c) (hb : b < c) : (a = k / c % r ∧ b = k % c) ↔ k = a * c + b := by
  have hc : 0 < c := by omega
  have h1 : k / c < r := (Nat.div_lt_iff_lt_mul hc).2 hr
  rw [Nat.mod_eq_of_lt h1]
  constructor
  · rintro ⟨rfl, rfl⟩
    have := Nat.div_add_mod k c
    rw [Nat.mul_comm] at this
    exact this.symm
  · rintro rfl
    rw [Nat.mul_comm a c, Nat.mul_add_div hc, Nat.div_eq_of_lt hb, Nat.mul_add_mod, Nat.mod_eq_of_lt hb]
    exact ⟨rfl, rfl⟩
theorem acc_range (r c : Nat) (g : Nat → Nat → F) (n a b : Nat) (hn : n ≤ r * c) (hb : b < c) : acc r c g (List.range n) a b = if a * c + b < n then g a b else 0 := by
  induction n with
  | zero => rfl
  | succ n ih =>
    rw [List.range_succ, acc_snoc, ih (by omega)]
    have hp := place (r := r) (c := c) (k := n) (a := a) (b := b) (by omega) hb
    by_cases h : n = a * c + b
    · rw [if_pos (hp.2 h), if_neg (by omega), if_pos (by omega)]; grind
    · rw [if_neg fun e => h (hp.1 e)]
      by_cases h2 : a * c + b < n
      · rw [if_pos h2, if_pos (by omega)]; grind
      · rw [if_neg h2, if_neg (by omega)]; grind
theorem place_lt {r c a b : Nat} (ha : a < r) (hb : b < c) : a * c + b < r * c := by
  have := Nat.mul_le_mul_right c (show a + 1 ≤ r by omega)
  rw [Nat.add_mul] at this
  omega
theorem acc_all (r c : Nat) (g : Nat → Nat → F) : Eqm r c (acc r c g (List.range (r * c))) g := fun a b ha hb => by
  rw [acc_range r c g _ a b (Nat.le_refl _) hb, if_pos (place_lt ha hb)]

/-- The same where each place is set. -/
def setl (r c : Nat) (g : Nat → Nat → F) : List Nat → Nat → Nat → F
  | [], _, _ => 0
  | k :: t, a, b => if a = k / c % r ∧ b = k % c then g a b else setl r c g t a b
theorem setl_snoc (r c : Nat) (g : Nat → Nat → F) (l : List Nat) (k a b : Nat) : setl r c g (l ++ [k]) a b = if a = k / c % r ∧ b = k % c then g a b else setl r c g l a b := by
  induction l with
  | nil => rfl
  | cons x l ih =>
    rw [List.cons_append, setl, setl, ih]
    by_cases h1 : a = x / c % r ∧ b = x % c
    · rw [if_pos h1, if_pos h1]; split <;> rfl
    · rw [if_neg h1, if_neg h1]
theorem setl_range (r c : Nat) (g : Nat → Nat → F) (n a b : Nat) (hn : n ≤ r * c) (hb : b < c) : setl r c g (List.range n) a b = if a * c + b < n then g a b else 0 := by
  induction n with
  | zero => rfl
  | succ n ih =>
    rw [List.range_succ, setl_snoc, ih (by omega)]
    have hp := place (r := r) (c := c) (k := n) (a := a) (b := b) (by omega) hb
    by_cases h : n = a * c + b
    · rw [if_pos (hp.2 h), if_pos (by omega)]
    · rw [if_neg fun e => h (hp.1 e)]
      by_cases h2 : a * c + b < n
      · rw [if_pos h2, if_pos (by omega)]
      · rw [if_neg h2, if_neg (by omega)]
theorem setl_all (r c : Nat) (g : Nat → Nat → F) : Eqm r c (setl r c g (List.range (r * c))) g := fun a b ha hb => by
  rw [setl_range r c g _ a b (Nat.le_refl _) hb, if_pos (place_lt ha hb)]

theorem val_plus (a b : F) : ((a.val : Int) + (b.val : Int)) % 9973 = ((a + b).val : Int) := by rw [val_add]; omega
theorem val_more (s a b : F) : ((s.val : Int) + (a.val : Int) * (b.val : Int)) % 9973 = ((s + a * b).val : Int) := by
  rw [val_add, val_mul, ← Int.natCast_mul]; omega
end Go.Proofs.Ytkebjmapdcbnaaa.Mx
