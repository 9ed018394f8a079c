/- Places on the diagonal and above it, and the sum of a form over them (no program). -/
import Derived.Test.YtlnehhhlpdaebaaMatP
namespace Go.Proofs.Ytlnehhhlpdaebaa.Zx
set_option linter.unusedVariables false

/-- The first m places of row k, from the diagonal on. -/
def trow (c k m : Nat) : List Nat := (List.range m).map fun t => k * c + (k + t)
/-- The places of the first k rows. -/
def tris (c : Nat) : Nat → List Nat
  | 0 => []
  | k + 1 => tris c k ++ trow c k (c - k)
theorem trow_zero (c k : Nat) : trow c k 0 = [] := rfl
theorem trow_succ (c k m : Nat) : trow c k (m + 1) = trow c k m ++ [k * c + (k + m)] := by unfold trow; rw [List.range_succ, List.map_append]; rfl
theorem len_trow (c k m : Nat) : (trow c k m).length = m := by unfold trow; rw [List.length_map, List.length_range]
theorem len_tris (c : Nat) : ∀ k, (tris c k).length ≤ k * c
  | 0 => by simp [tris]
  | k + 1 => by
    have := len_tris c k
    show (tris c k ++ trow c k (c - k)).length ≤ _
    rw [List.length_append, len_trow, Nat.add_mul, Nat.one_mul]
    omega
theorem tris_mem {c i j : Nat} (hj : i ≤ j) (hc : j < c) : ∀ k, i < k → i * c + j ∈ tris c k
  | 0, h => absurd h (by omega)
  | k + 1, h => by
    show _ ∈ tris c k ++ trow c k (c - k)
    rw [List.mem_append]
    by_cases e : i = k
    · right
      subst e
      unfold trow
      rw [List.mem_map]
      exact ⟨j - i, by rw [List.mem_range]; omega, by rw [Nat.add_sub_cancel' hj]⟩
    · exact .inl (tris_mem hj hc k (by omega))

/-- A sum over a list of places. -/
def zsum (g : Nat → Int) (l : List Nat) : Int := l.foldl (fun s k => s + g k) 0
theorem zsum_snoc (g : Nat → Int) (l : List Nat) (k : Nat) : zsum g (l ++ [k]) = zsum g l + g k := by unfold zsum; rw [List.foldl_append]; rfl
theorem zsum_bound {g : Nat → Int} {b : Nat} (h : ∀ k, (g k).natAbs ≤ b) (l : List Nat) : (zsum g l).natAbs ≤ l.length * b := by
  rw [← List.reverse_reverse l]
  induction l.reverse with
  | nil => simp [zsum]
  | cons a t ih =>
    rw [List.reverse_cons, zsum_snoc, List.length_append, Nat.add_mul]
    have := h a
    simp only [List.length_cons, List.length_nil, Nat.zero_add, Nat.one_mul]
    omega
theorem zsum_trow (g : Nat → Int) (c k : Nat) (l : List Nat) : ∀ m, zsum g (l ++ trow c k m) = zsum g l + sg m fun t => g (k * c + (k + t))
  | 0 => by rw [trow_zero, List.append_nil, sg_zero]; omega
  | m + 1 => by rw [trow_succ, ← List.append_assoc, zsum_snoc, zsum_trow g c k l m, sg_succ]; omega
theorem zsum_tris (g : Nat → Int) (c : Nat) : ∀ k, zsum g (tris c k) = sg k fun i => sg (c - i) fun t => g (i * c + (i + t))
  | 0 => rfl
  | k + 1 => by
    show zsum g (tris c k ++ trow c k (c - k)) = _
    rw [zsum_trow, zsum_tris g c k, sg_succ]

/-- What a place adds: twice as much beside the diagonal. -/
def tt (f : Nat → Nat → Int) (x : Nat → Int) (i j : Nat) : Int := if i = j then f i j * x i * x j else f i j * x i * x j * 2
theorem qf_grow (f : Nat → Nat → Int) (x : Nat → Int) {n : Nat} (h : Sym (n + 1) f) :
    qf (n + 1) f x = qf n f x + (sg n fun i => tt f x i n) + tt f x n n := by
  unfold qf bf mv
  rw [sg_succ]
  have e1 : (sg n fun i => x i * sg (n + 1) fun j => f i j * x j) = (sg n fun i => x i * sg n fun j => f i j * x j) + sg n fun i => x i * (f i n * x n) := by
    rw [← sg_add]
    exact sg_congr fun i hi => by rw [sg_succ]; grind
  have e2 : (x n * sg (n + 1) fun j => f n j * x j) = (sg n fun i => x i * (f i n * x n)) + tt f x n n := by
    rw [sg_succ]
    have e3 : (x n * sg n fun j => f n j * x j) = sg n fun i => x i * (f i n * x n) := by
      rw [← sg_times]
      exact sg_congr fun i hi => by rw [h n i (by omega) (by omega)]; grind
    have e4 : tt f x n n = f n n * x n * x n := if_pos rfl
    rw [e4, Int.mul_add, e3]; grind
  have e5 : (sg n fun i => tt f x i n) = (sg n fun i => x i * (f i n * x n)) + sg n fun i => x i * (f i n * x n) := by
    rw [← sg_add]
    refine sg_congr fun i hi => ?_
    unfold tt
    rw [if_neg (by omega)]; grind
  rw [e1, e2, e5]; omega
theorem tri_all (f : Nat → Nat → Int) (x : Nat → Int) : ∀ (n : Nat), Sym n f → (sg n fun i => sg (n - i) fun t => tt f x i (i + t)) = qf n f x
  | 0, _ => rfl
  | n + 1, h => by
    rw [qf_grow f x h, ← tri_all f x n (h.less (by omega)), sg_succ]
    have e1 : (sg n fun i => sg (n + 1 - i) fun t => tt f x i (i + t)) = (sg n fun i => sg (n - i) fun t => tt f x i (i + t)) + sg n fun i => tt f x i n := by
      rw [← sg_add]
      refine sg_congr fun i hi => ?_
      rw [show n + 1 - i = (n - i) + 1 by omega, sg_succ, show i + (n - i) = n by omega]
    have e2 : (sg (n + 1 - n) fun t => tt f x n (n + t)) = tt f x n n := by
      rw [show n + 1 - n = 1 by omega, sg_succ, sg_zero]
      show 0 + tt f x n n = _
      omega
    rw [e1, e2]
/-- A form's sum over the places. -/
theorem zsum_form {n : Nat} {f : Nat → Nat → Int} (x : Nat → Int) (h : Sym n f) {g : Nat → Int} (hg : ∀ i j, i < n → j < n → g (i * n + j) = tt f x i j) : zsum g (tris n n) = qf n f x := by
  rw [zsum_tris, ← tri_all f x n h]
  refine sg_congr fun i hi => sg_congr fun t ht => ?_
  rw [hg i (i + t) hi (by omega)]
theorem tt_bound {f : Nat → Nat → Int} {x : Nat → Int} {i j : Nat} (h1 : -9 ≤ f i j ∧ f i j ≤ 9) (h2 : -100 ≤ x i ∧ x i ≤ 100) (h3 : -100 ≤ x j ∧ x j ≤ 100) :
    (f i j * x i).natAbs ≤ 900 ∧ (f i j * x i * x j).natAbs ≤ 90000 ∧ (tt f x i j).natAbs ≤ 180000 := by
  have a : (f i j * x i).natAbs ≤ 9 * 100 := by rw [Int.natAbs_mul]; exact Nat.mul_le_mul (by omega) (by omega)
  have b : (f i j * x i * x j).natAbs ≤ 900 * 100 := by rw [Int.natAbs_mul]; exact Nat.mul_le_mul (by omega) (by omega)
  refine ⟨a, b, ?_⟩
  unfold tt
  split <;> omega
end Go.Proofs.Ytlnehhhlpdaebaa.Zx
