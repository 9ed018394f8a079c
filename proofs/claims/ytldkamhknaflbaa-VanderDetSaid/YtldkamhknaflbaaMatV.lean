/- Plain facts on the matrix of powers (Vandermonde). No program is named here. -/
import Derived.Test.YtldkamhknaflbaaMatU
import Derived.Test.YtldkamhknaflbaaMatC
namespace Go.Proofs.Ytldkamhknaflbaa.Mx
open Fp
set_option linter.unusedVariables false

/-- The powers of some numbers, row by row. -/
def vm (X : Nat → F) : Nat → Nat → F := fun i j => pw (X i) j
/-- The product of all differences. -/
def df : Nat → (Nat → F) → F
  | 0, _ => 1
  | n + 1, X => df n X * pr n fun i => X n - X i
theorem df_congr : ∀ (n : Nat) {X Y : Nat → F}, (∀ i, i < n → X i = Y i) → df n X = df n Y
  | 0, _, _, _ => rfl
  | n + 1, X, Y, h => by
    show df n X * _ = df n Y * _
    rw [df_congr n fun i hi => h i (by omega), pr_congr (h := fun i => Y n - Y i) fun i hi => by rw [h n (by omega), h i (by omega)]]
theorem pr_last (n : Nat) (g : Nat → F) : pr (n + 1) g = pr n g * g n := rfl
theorem df_front : ∀ (n : Nat) (X : Nat → F), df (n + 1) X = (pr n fun i => X (i + 1) - X 0) * df n fun i => X (i + 1)
  | 0, X => rfl
  | n + 1, X => by
    show df (n + 1) X * (pr (n + 1) fun i => X (n + 1) - X i) = _
    rw [df_front n X, pr_front n fun i => X (n + 1) - X i]
    show _ = (pr (n + 1) fun i => X (i + 1) - X 0) * (df n (fun i => X (i + 1)) * pr n fun i => X (n + 1) - X (i + 1))
    rw [pr_last n fun i => X (i + 1) - X 0]
    grind
theorem df_zero {n : Nat} {X : Nat → F} {i j : Nat} (hij : i < j) (hj : j < n) (h : X i = X j) : df n X = 0 := by
  induction n with
  | zero => omega
  | succ n ih =>
    show df n X * (pr n fun i => X n - X i) = 0
    by_cases e : j = n
    · have : (pr n fun i => X n - X i) = 0 := by
        have aux : ∀ (m : Nat) (g : Nat → F), i < m → g i = 0 → pr m g = 0 := fun m g => by
          induction m with
          | zero => intro h; omega
          | succ m ih =>
            intro h1 h2
            rw [pr_last]
            by_cases e : i = m
            · rw [← e, h2]; grind
            · rw [ih (by omega) h2]; grind
        exact aux n _ (by omega) (by rw [h, e]; grind)
      rw [this]; grind
    · rw [ih (by omega)]; grind
theorem df_ne {n : Nat} {X : Nat → F} (h : ∀ i j, i < j → j < n → X i ≠ X j) : df n X ≠ 0 := by
  induction n with
  | zero => show (1 : F) ≠ 0; decide
  | succ n ih =>
    intro e
    rcases mul_zero_or (show df n X * (pr n fun i => X n - X i) = 0 from e) with e | e
    · exact ih (fun i j h1 h2 => h i j h1 (by omega)) e
    · have aux : ∀ (m : Nat) (g : Nat → F), (∀ i, i < m → g i ≠ 0) → pr m g ≠ 0 := fun m g => by
        induction m with
        | zero => intro _; show (1 : F) ≠ 0; decide
        | succ m ih =>
          intro h1 h2
          rw [pr_last] at h2
          rcases mul_zero_or h2 with h2 | h2
          · exact ih (fun i hi => h1 i (by omega)) h2
          · exact h1 m (by omega) h2
      exact aux n _ (fun i hi h0 => h i n hi (by omega) (by grind)) e
/-- The determinant of powers. -/
theorem dt_vm : ∀ (n : Nat) (X : Nat → F), dt n (vm X) = df n X
  | 0, _ => rfl
  | n + 1, X => by
    -- each column less the first number times the one ahead of it
    let u : Nat → Nat → F := fun i j => if i = j then 1 else if i + 1 = j then -(X 0) else 0
    have hu : dt (n + 1) u = 1 := by
      rw [dt_up (n + 1) u fun i j _ _ hlt => by show (if i = j then (1 : F) else if i + 1 = j then _ else 0) = 0; rw [if_neg (by omega), if_neg (by omega)]]
      exact pr_ones fun i _ => by show (if i = i then (1 : F) else _) = 1; rw [if_pos rfl]
    have hm : dt (n + 1) (mul (n + 1) (vm X) u) = dt (n + 1) (vm X) := by rw [dt_mul, hu]; grind
    have c0 : ∀ i, mul (n + 1) (vm X) u i 0 = 1 := fun i => by
      unfold mul
      rw [sg_one (k := 0) (by omega) fun k _ hk => by show _ * (if k = 0 then (1 : F) else if k + 1 = 0 then _ else 0) = 0; rw [if_neg hk, if_neg (by omega)]; grind]
      show pw (X i) 0 * (if 0 = 0 then (1 : F) else _) = 1
      rw [if_pos rfl, pw_zero]; grind
    have cs : ∀ i j, j + 1 < n + 1 → mul (n + 1) (vm X) u i (j + 1) = (X i - X 0) * pw (X i) j := fun i j hj => by
      unfold mul
      rw [sg_two (k := j) (l := j + 1) (by omega) hj (by omega) fun k _ h1 h2 => by show _ * (if k = j + 1 then (1 : F) else if k + 1 = j + 1 then _ else 0) = 0; rw [if_neg h2, if_neg (by omega)]; grind]
      show pw (X i) j * (if j = j + 1 then (1 : F) else if j + 1 = j + 1 then -(X 0) else 0) + pw (X i) (j + 1) * (if j + 1 = j + 1 then (1 : F) else _) = _
      rw [if_neg (by omega), if_pos rfl, if_pos rfl, pw_succ]; grind
    rw [← hm, dt_succ, sg_one (k := 0) (by omega) fun j hj h0 => by
      obtain ⟨j, rfl⟩ : ∃ t, j = t + 1 := ⟨j - 1, by omega⟩
      rw [cs 0 j hj]; grind, c0 0]
    have h2 : dt n (del 0 (mul (n + 1) (vm X) u)) = (pr n fun i => X (i + 1) - X 0) * df n fun i => X (i + 1) := by
      rw [← dt_vm n fun i => X (i + 1)]
      -- each row by its own number
      let w : Nat → Nat → F := fun i j => if i = j then X (i + 1) - X 0 else 0
      have hw : dt n w = pr n fun i => X (i + 1) - X 0 := by
        rw [dt_up n w fun i j _ _ hlt => by show (if i = j then _ else (0 : F)) = 0; rw [if_neg (by omega)]]
        exact pr_congr fun i _ => by show (if i = i then _ else (0 : F)) = _; rw [if_pos rfl]
      rw [← hw, ← dt_mul]
      refine dt_congr n fun i j hi hj => ?_
      show mul (n + 1) (vm X) u (i + 1) (sk 0 j) = sg n fun k => w i k * pw (X (k + 1)) j
      rw [sk_zero, cs _ _ (by omega), sg_one hi fun k _ hk => by show (if i = k then _ else (0 : F)) * _ = 0; rw [if_neg fun e => hk e.symm]; grind]
      show _ = (if i = i then _ else (0 : F)) * _
      rw [if_pos rfl]
    rw [h2, df_front, show sgn 0 = 1 from rfl]; grind
/-- What it takes factors to is what they come to. -/
theorem vm_to (n : Nat) (X c : Nat → F) (i : Nat) : (sg (n + 1) fun j => vm X i j * c j) = vx n c (X i) := by
  unfold vx vm
  exact sg_congr fun j _ => by grind

end Go.Proofs.Ytldkamhknaflbaa.Mx
