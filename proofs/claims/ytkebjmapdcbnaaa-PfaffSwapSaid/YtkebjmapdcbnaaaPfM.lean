/- Plain facts: the program's partitions into pairs, and that their sum, each with its sign, is the Pfaffian of at most six rows. No program is named here. -/
import Derived.Test.YtkebjmapdcbnaaaPfD
import Derived.Test.YtkebjmapdcbnaaaDeM
import Derived.Test.YtkebjmapdcbnaaaNz
namespace Go.Proofs.Ytkebjmapdcbnaaa.Zx
set_option linter.unusedVariables false

/-- The partitions that have the k-th number behind the first one beside it, given those of what is left. -/
def prk (F : List Nat → List (List Nat)) (a : Nat) (t : List Nat) (k : Nat) : List (List Nat) := (F (t.take k ++ t.drop (k + 1))).map fun r => a :: t.getD k 0 :: r
/-- Those of the first k. -/
def prt (F : List Nat → List (List Nat)) (a : Nat) (t : List Nat) : Nat → List (List Nat)
  | 0 => []
  | k + 1 => prt F a t k ++ prk F a t k
/-- All partitions of a list into pairs. -/
def prs : Nat → List Nat → List (List Nat)
  | _, [] => [[]]
  | 0, _ :: _ => []
  | u + 1, a :: t => prt (prs u) a t t.length
theorem prt_len (F : List Nat → List (List Nat)) (a : Nat) (t : List Nat) {j k : Nat} (h : j ≤ k) : (prt F a t j).length ≤ (prt F a t k).length := by
  induction k with
  | zero => rw [show j = 0 by omega]; exact Nat.le_refl _
  | succ k ih =>
    by_cases e : j = k + 1
    · rw [e]; exact Nat.le_refl _
    · have := ih (by omega)
      show _ ≤ (prt F a t k ++ prk F a t k).length
      rw [List.length_append]; omega
theorem prk_mem {F : List Nat → List (List Nat)} {a : Nat} {t : List Nat} {k : Nat} {r : List Nat} (h : r ∈ F (t.take k ++ t.drop (k + 1))) : a :: t.getD k 0 :: r ∈ prk F a t k := List.mem_map.2 ⟨r, h, rfl⟩
theorem prt_mem {F : List Nat → List (List Nat)} {a : Nat} {t : List Nat} {k : Nat} {x : List Nat} (h : x ∈ prk F a t k) {n : Nat} (hk : k < n) : x ∈ prt F a t n := by
  induction n with
  | zero => omega
  | succ n ih =>
    show x ∈ prt F a t n ++ prk F a t n
    by_cases e : k = n
    · subst e; exact List.mem_append.2 (.inr h)
    · exact List.mem_append.2 (.inl (ih (by omega)))
theorem mem_prt {F : List Nat → List (List Nat)} {a : Nat} {t : List Nat} {x : List Nat} : ∀ {n : Nat}, x ∈ prt F a t n → ∃ k, k < n ∧ x ∈ prk F a t k
  | 0, h => by cases h
  | n + 1, h => by
    rcases List.mem_append.1 h with h | h
    · obtain ⟨k, hk, hx⟩ := mem_prt h
      exact ⟨k, by omega, hx⟩
    · exact ⟨n, by omega, h⟩
theorem prs_length : ∀ (u : Nat) (l r : List Nat), r ∈ prs u l → r.length = l.length
  | 0, [], r, h => by rw [List.mem_singleton.1 h]
  | 0, _ :: _, r, h => by cases h
  | u + 1, [], r, h => by rw [List.mem_singleton.1 h]
  | u + 1, a :: t, r, h => by
    obtain ⟨k, hk, hx⟩ := mem_prt (show r ∈ prt (prs u) a t t.length from h)
    obtain ⟨r', hr, rfl⟩ := List.mem_map.1 hx
    have := prs_length u _ r' hr
    rw [List.length_append, List.length_take, List.length_drop] at this
    simp only [List.length_cons]
    omega
/-- The sum over orders. -/
def osum (F : List Nat → Int) : List (List Nat) → Int
  | [] => 0
  | o :: t => F o + osum F t
theorem osum_snoc (F : List Nat → Int) (l : List (List Nat)) (o : List Nat) : osum F (l ++ [o]) = osum F l + F o := by
  induction l with
  | nil => show F o + 0 = 0 + F o; omega
  | cons a t ih => show F a + osum F (t ++ [o]) = F a + osum F t + F o; rw [ih]; omega
/-- The product over the first k pairs. -/
def ledTo (f : Nat → Nat → Int) (o : List Nat) (s : Int) : Nat → Int
  | 0 => s
  | k + 1 => ledTo f o s k * f (o.getD (k + k) 0) (o.getD (k + k + 1) 0)
theorem ledTo_cons (f : Nat → Nat → Int) (a b : Nat) (t : List Nat) (s : Int) (k : Nat) : ledTo f (a :: b :: t) s (k + 1) = ledTo f t (s * f a b) k := by
  induction k with
  | zero => rfl
  | succ k ih =>
    show ledTo f (a :: b :: t) s (k + 1) * f ((a :: b :: t).getD (k + 1 + (k + 1)) 0) ((a :: b :: t).getD (k + 1 + (k + 1) + 1) 0) = ledTo f t (s * f a b) k * f (t.getD (k + k) 0) (t.getD (k + k + 1) 0)
    rw [ih, show k + 1 + (k + 1) = k + k + 1 + 1 by omega]
    rfl
theorem lead_to (f : Nat → Nat → Int) : ∀ (h : Nat) (o : List Nat) (s : Int), o.length / 2 = h → lead f s o = ledTo f o s h
  | 0, [], s, _ => rfl
  | 0, [a], s, _ => rfl
  | 0, a :: b :: t, s, h => by simp only [List.length_cons] at h; omega
  | h + 1, [], s, e => by simp only [List.length_nil] at e; omega
  | h + 1, [a], s, e => by simp only [List.length_cons, List.length_nil] at e; omega
  | h + 1, a :: b :: t, s, e => by
    show lead f (s * f a b) t = _
    rw [ledTo_cons, lead_to f h t (s * f a b) (by simp only [List.length_cons] at e; omega)]
/-- What one order adds. -/
def oval (f : Nat → Nat → Int) (o : List Nat) : Int := lead f (osg o) o
/-- What the partitions of the first n numbers are like. -/
def pgood (n : Nat) (o : List Nat) : Bool := decide (o.length = n ∧ n % 2 = 0 ∧ (∀ k, k < n → o.getD k 0 < n) ∧ (∀ k : Nat, k < n → ∃ i, i < n ∧ ((o.getD i 0 : Nat) : Int) = (k : Int)) ∧ Fp.ofInt (osg o) = Mx.inv n (fun i => ((o.getD i 0 : Nat) : Int)))
theorem prs_good : ∀ n, 1 ≤ n → n ≤ 6 → ∀ o, o ∈ prs n (List.range n) → pgood n o = true := by
  intro n h1 h6
  have : n = 1 ∨ n = 2 ∨ n = 3 ∨ n = 4 ∨ n = 5 ∨ n = 6 := by omega
  rcases this with rfl | rfl | rfl | rfl | rfl | rfl <;> decide +kernel
theorem prs_few : ∀ n, 1 ≤ n → n ≤ 6 → (prs n (List.range n)).length ≤ 15 := by
  intro n h1 h6
  have : n = 1 ∨ n = 2 ∨ n = 3 ∨ n = 4 ∨ n = 5 ∨ n = 6 := by omega
  rcases this with rfl | rfl | rfl | rfl | rfl | rfl <;> decide +kernel
theorem fold_pm {α : Type} (g : Int → α → Int) (hg : ∀ s a, s = 1 ∨ s = -1 → g s a = 1 ∨ g s a = -1) : ∀ (l : List α) (s : Int), s = 1 ∨ s = -1 → l.foldl g s = 1 ∨ l.foldl g s = -1
  | [], s, h => h
  | a :: t, s, h => fold_pm g hg t (g s a) (hg s a h)
theorem osg_pm (o : List Nat) : osg o = 1 ∨ osg o = -1 := by
  unfold osg
  refine fold_pm _ (fun s i h => fold_pm _ (fun s k h => ?_) _ s h) _ 1 (.inl rfl)
  by_cases e : o.getD k 0 > o.getD i 0
  · rw [if_pos e]; omega
  · rw [if_neg e]; exact h
/-- The sign of a good order is that of its inversions. -/
theorem pgood_sign {n : Nat} {o : List Nat} (h : pgood n o = true) {x : Int} (hx : Mx.SgnIs (Mx.sp n fun i => (nz o).getD i 0) x) : x = osg o := by
  obtain ⟨h1, h2, h3, h4, h5⟩ := of_decide_eq_true h
  refine hx.one ⟨?_, ?_⟩
  · rcases osg_pm o with h | h
    · exact .inl h
    · exact .inr (.inl h)
  · rw [h5, Mx.inv_sp h4]
    exact Mx.sp_congr fun i hi => (nz_at (by omega)).symm
theorem ledTo_bound {f : Nat → Nat → Int} {n : Nat} (hf : ∀ i j, i < n → j < n → -9 ≤ f i j ∧ f i j ≤ 9) {o : List Nat} (ho : ∀ k, k < n → o.getD k 0 < n) {s : Int} (hs : s = 1 ∨ s = -1) : ∀ k, k + k ≤ n → (ledTo f o s k).natAbs ≤ 9 ^ k
  | 0, _ => by show s.natAbs ≤ 1; omega
  | k + 1, hk => by
    have h1 := ledTo_bound hf ho hs k (by omega)
    have h2 := hf _ _ (ho (k + k) (by omega)) (ho (k + k + 1) (by omega))
    show (ledTo f o s k * f _ _).natAbs ≤ 9 ^ k * 9
    rw [Int.natAbs_mul]
    exact Nat.mul_le_mul h1 (by omega)
theorem oval_bound {f : Nat → Nat → Int} {n : Nat} (h6 : n ≤ 6) (hf : ∀ i j, i < n → j < n → -9 ≤ f i j ∧ f i j ≤ 9) {o : List Nat} (h : pgood n o = true) : (oval f o).natAbs ≤ 729 := by
  obtain ⟨h1, h2, h3, _, _⟩ := of_decide_eq_true h
  unfold oval
  rw [lead_to f (n / 2) o (osg o) (by rw [h1])]
  exact Nat.le_trans (ledTo_bound hf h3 (osg_pm o) (n / 2) (by omega)) (Nat.le_trans (Nat.pow_le_pow_right (by decide) (by omega : n / 2 ≤ 3)) (by decide))

theorem prs_pf1 (f : Nat → Nat → Int) : osum (oval f) (prs 1 (List.range 1)) = pf 1 f := by
  have e : osum (oval f) (prs 1 (List.range 1)) = 0 := rfl
  rw [e, pf_odd 1 f rfl]
theorem prs_pf2 (f : Nat → Nat → Int) : osum (oval f) (prs 2 (List.range 2)) = pf 2 f := by
  have e : osum (oval f) (prs 2 (List.range 2)) = (1 : Int) * f 0 1 + 0 := rfl
  rw [e, pf_two]; unfold P2; grind
theorem prs_pf3 (f : Nat → Nat → Int) : osum (oval f) (prs 3 (List.range 3)) = pf 3 f := by
  have e : osum (oval f) (prs 3 (List.range 3)) = 0 := rfl
  rw [e, pf_odd 3 f rfl]
theorem prs_pf4 (f : Nat → Nat → Int) : osum (oval f) (prs 4 (List.range 4)) = pf 4 f := by
  have e : osum (oval f) (prs 4 (List.range 4)) = ((1 : Int) * f 0 1 * f 2 3) + (((-1 : Int) * f 0 2 * f 1 3) + (((1 : Int) * f 0 3 * f 1 2) + 0)) := rfl
  rw [e, pf_four]; unfold P4; grind
theorem prs_pf5 (f : Nat → Nat → Int) : osum (oval f) (prs 5 (List.range 5)) = pf 5 f := by
  have e : osum (oval f) (prs 5 (List.range 5)) = 0 := rfl
  rw [e, pf_odd 5 f rfl]
theorem prs_pf6 (f : Nat → Nat → Int) : osum (oval f) (prs 6 (List.range 6)) = pf 6 f := by
  have e : osum (oval f) (prs 6 (List.range 6)) = (((1 : Int) * f 0 1 * f 2 3 * f 4 5) + (((-1 : Int) * f 0 1 * f 2 4 * f 3 5) + (((1 : Int) * f 0 1 * f 2 5 * f 3 4) + (((-1 : Int) * f 0 2 * f 1 3 * f 4 5) + (((1 : Int) * f 0 2 * f 1 4 * f 3 5) + (((-1 : Int) * f 0 2 * f 1 5 * f 3 4) + (((1 : Int) * f 0 3 * f 1 2 * f 4 5) + (((-1 : Int) * f 0 3 * f 1 4 * f 2 5) + (((1 : Int) * f 0 3 * f 1 5 * f 2 4) + (((-1 : Int) * f 0 4 * f 1 2 * f 3 5) + (((1 : Int) * f 0 4 * f 1 3 * f 2 5) + (((-1 : Int) * f 0 4 * f 1 5 * f 2 3) + (((1 : Int) * f 0 5 * f 1 2 * f 3 4) + (((-1 : Int) * f 0 5 * f 1 3 * f 2 4) + (((1 : Int) * f 0 5 * f 1 4 * f 2 3) + 0))))))))))))))) := rfl
  rw [e, pf_six]; unfold P6; grind
/-- The sum over the partitions is the Pfaffian. -/
theorem prs_pf {n : Nat} (h1 : 1 ≤ n) (h6 : n ≤ 6) (f : Nat → Nat → Int) : osum (oval f) (prs n (List.range n)) = pf n f := by
  have : n = 1 ∨ n = 2 ∨ n = 3 ∨ n = 4 ∨ n = 5 ∨ n = 6 := by omega
  rcases this with rfl | rfl | rfl | rfl | rfl | rfl
  · exact prs_pf1 f
  · exact prs_pf2 f
  · exact prs_pf3 f
  · exact prs_pf4 f
  · exact prs_pf5 f
  · exact prs_pf6 f
end Go.Proofs.Ytkebjmapdcbnaaa.Zx
