/- Plain facts on determinants over the field: by any row (Laplace), what is left without a row and a column (the adjugate), Cramer's rule. No program is named here. -/
import Derived.Test.YtkebjmapdcbnaaaMatA
import Derived.Test.YtkebjmapdcbnaaaCt
namespace Go.Proofs.Ytkebjmapdcbnaaa.Mx
open Fp
set_option linter.unusedVariables false

/-- Row i first, the others behind it in their order. -/
def tau (i a : Nat) : Nat := if a = 0 then i else sk i (a - 1)
theorem tau_zero (a : Nat) : tau 0 a = a := by
  unfold tau
  by_cases h : a = 0
  · rw [if_pos h, h]
  · rw [if_neg h, sk_zero]; omega
theorem tau_next (i a : Nat) : tau (i + 1) a = sw i (i + 1) (tau i a) := by
  unfold tau
  by_cases h : a = 0
  · rw [if_pos h, if_pos h, sw_left]
  · rw [if_neg h, if_neg h]
    unfold sk
    rcases Nat.lt_trichotomy (a - 1) i with e | e | e
    · rw [if_pos (by omega), if_pos e, sw_none (by omega) (by omega)]
    · rw [if_pos (by omega), if_neg (by omega), e, sw_right]
    · rw [if_neg (by omega), if_neg (by omega), sw_none (by omega) (by omega)]
theorem dt_tau {n : Nat} : ∀ (i : Nat) (f : Nat → Nat → F), i < n → dt n (fun a b => f (tau i a) b) = sgn i * dt n f
  | 0, f, _ => by
    rw [show (fun a b => f (tau 0 a) b) = f from funext fun a => by rw [tau_zero]]
    show _ = (if 0 % 2 = 0 then (1 : F) else -1) * _
    rw [if_pos rfl]; grind
  | i + 1, f, h => by
    have h1 := dt_tau (n := n) i (fun r b => f (sw i (i + 1) r) b) (by omega)
    rw [show (fun a b => f (sw i (i + 1) (tau i a)) b) = fun a b => f (tau (i + 1) a) b from funext fun a => by rw [tau_next]] at h1
    rw [h1, dt_rswap f (a := i) (b := i + 1) (by omega) h (by omega), sgn_succ]
    grind
theorem sgn_two (i : Nat) : sgn i * sgn i = 1 := by unfold sgn; split <;> grind
theorem sgn_add (i j : Nat) : sgn (i + j) = sgn i * sgn j := by
  unfold sgn
  by_cases h1 : i % 2 = 0
  · by_cases h2 : j % 2 = 0
    · rw [if_pos h1, if_pos h2, if_pos (by omega)]; grind
    · rw [if_pos h1, if_neg h2, if_neg (by omega)]; grind
  · by_cases h2 : j % 2 = 0
    · rw [if_neg h1, if_pos h2, if_neg (by omega)]; grind
    · rw [if_neg h1, if_neg h2, if_pos (by omega)]; grind
/-- By row i. -/
theorem laplace (p i : Nat) (f : Nat → Nat → F) (hi : i ≤ p) : (sg (p + 1) fun j => sgn (i + j) * f i j * dt p (wo f i j)) = dt (p + 1) f := by
  have h1 := dt_tau i f (Nat.lt_succ_of_le hi)
  rw [dt_succ] at h1
  have h2 : (sg (p + 1) fun j => sgn j * f (tau i 0) j * dt p (del j fun a b => f (tau i a) b)) = sg (p + 1) fun j => sgn j * f i j * dt p (wo f i j) := sg_congr fun j _ => by
    rw [show (del j fun a b => f (tau i a) b) = wo f i j from funext fun a => funext fun b => by
      show f (tau i (a + 1)) (sk j b) = f (sk i a) (sk j b)
      unfold tau
      rw [if_neg (Nat.succ_ne_zero a), Nat.add_sub_cancel]]
    show sgn j * f (if 0 = 0 then i else _) j * _ = _
    rw [if_pos rfl]
  rw [h2] at h1
  have h3 : (sg (p + 1) fun j => sgn (i + j) * f i j * dt p (wo f i j)) = sgn i * sg (p + 1) fun j => sgn j * f i j * dt p (wo f i j) := by
    rw [← sg_times]
    exact sg_congr fun j _ => by rw [sgn_add]; grind
  rw [h3, h1]
  have := sgn_two i
  grind
theorem wo_setr (i j : Nat) (u : Nat → F) (f : Nat → Nat → F) : wo (setr i u f) i j = wo f i j := by
  funext a b
  show (if sk i a = i then u (sk j b) else f (sk i a) (sk j b)) = _
  rw [if_neg (sk_ne i a)]; rfl
/-- With the numbers of another row in its place. -/
theorem laplace_row (p i : Nat) (u : Nat → F) (f : Nat → Nat → F) (hi : i ≤ p) : (sg (p + 1) fun j => sgn (i + j) * u j * dt p (wo f i j)) = dt (p + 1) (setr i u f) := by
  rw [← laplace p i (setr i u f) hi]
  exact sg_congr fun j _ => by
    rw [wo_setr]
    show _ = _ * (if i = i then u j else f i j) * _
    rw [if_pos rfl]
theorem laplace_other (p i k : Nat) (f : Nat → Nat → F) (hi : i ≤ p) (hk : k ≤ p) : (sg (p + 1) fun j => sgn (i + j) * f k j * dt p (wo f i j)) = if i = k then dt (p + 1) f else 0 := by
  rw [laplace_row p i (fun j => f k j) f hi]
  by_cases h : i = k
  · rw [if_pos h, h, setr_self]
  · rw [if_neg h]
    refine dt_rows (r := i) (s := k) (by omega) (by omega) h fun j _ => ?_
    show (if i = i then f k j else f i j) = (if k = i then f k j else f k j)
    rw [if_pos rfl]; split <;> rfl

/-- The adjugate: at row i and column j what is left without row j and column i, with its sign. -/
def adj (p : Nat) (f : Nat → Nat → F) : Nat → Nat → F := fun i j => sgn (i + j) * dt p (wo f j i)
/-- So many times the one. -/
def scal (d : F) : Nat → Nat → F := fun i j => if i = j then d else 0
theorem adj_right (p : Nat) (f : Nat → Nat → F) : Eqm (p + 1) (p + 1) (mul (p + 1) f (adj p f)) (scal (dt (p + 1) f)) := fun k i hk hi => by
  show (sg (p + 1) fun j => f k j * (sgn (j + i) * dt p (wo f i j))) = if k = i then _ else 0
  have := laplace_other p i k f (by omega) (by omega)
  rw [show (sg (p + 1) fun j => f k j * (sgn (j + i) * dt p (wo f i j))) = sg (p + 1) fun j => sgn (i + j) * f k j * dt p (wo f i j) from sg_congr fun j _ => by rw [Nat.add_comm i j]; grind, this]
  by_cases h : i = k
  · rw [if_pos h, if_pos h.symm]
  · rw [if_neg h, if_neg fun h' => h h'.symm]
theorem adj_flip (p : Nat) (f : Nat → Nat → F) : adj p (flip f) = flip (adj p f) := by
  funext i j
  show sgn (i + j) * dt p (wo (flip f) j i) = sgn (j + i) * dt p (wo f i j)
  rw [Nat.add_comm i j, show wo (flip f) j i = flip (wo f i j) from rfl, dt_flip]
theorem adj_left (p : Nat) (f : Nat → Nat → F) : Eqm (p + 1) (p + 1) (mul (p + 1) (adj p f) f) (scal (dt (p + 1) f)) := fun k i hk hi => by
  have h := adj_right p (flip f) i k hi hk
  rw [adj_flip, dt_flip] at h
  have e : mul (p + 1) (flip f) (flip (adj p f)) i k = mul (p + 1) (adj p f) f k i := sg_congr fun x _ => by
    show f x i * adj p f k x = adj p f k x * f x i
    grind
  rw [← e, h]
  show (if i = k then _ else _) = if k = i then _ else _
  by_cases h : i = k
  · rw [if_pos h, if_pos h.symm]
  · rw [if_neg h, if_neg fun h' => h h'.symm]
theorem dt_scal (d : F) : ∀ n, dt n (scal d) = pw d n
  | 0 => rfl
  | n + 1 => by
    rw [dt_succ, sg_one (Nat.succ_pos n) fun i hi hne => by
      show sgn i * (if 0 = i then d else 0) * _ = 0
      rw [if_neg fun h => hne h.symm]; grind]
    have e : del 0 (scal d) = scal d := by
      funext a b
      show (if a + 1 = sk 0 b then d else 0) = if a = b then d else 0
      rw [sk_zero]
      by_cases h : a = b
      · rw [if_pos h, if_pos (by omega)]
      · rw [if_neg h, if_neg (by omega)]
    rw [e, dt_scal d n]
    show (if 0 % 2 = 0 then (1 : F) else -1) * (if 0 = 0 then d else 0) * pw d n = pw d (n + 1)
    rw [if_pos rfl, if_pos rfl, pw_succ]; grind
theorem adj_dt (p : Nat) (f : Nat → Nat → F) : dt (p + 1) (adj p f) = pw (dt (p + 1) f) p := by
  have h1 : dt (p + 1) f * dt (p + 1) (adj p f) = pw (dt (p + 1) f) (p + 1) := by rw [← dt_mul, dt_congr _ (adj_right p f), dt_scal]
  by_cases h : dt (p + 1) f = 0
  · rcases Nat.eq_zero_or_pos p with h0 | h0
    · subst h0
      rw [show pw (dt 1 f) 0 = 1 from rfl]
      show sg 1 (fun j => sgn j * (sgn (0 + j) * dt 0 (wo f j 0)) * dt 0 (del j (adj 0 f))) = 1
      rw [sg_succ, sg_zero]
      show 0 + sgn 0 * (sgn (0 + 0) * 1) * 1 = 1
      have := sgn_two 0
      grind
    · obtain ⟨q, rfl⟩ : ∃ q, p = q + 1 := ⟨p - 1, by omega⟩
      rw [h, pw_succ]
      refine (?_ : dt (q + 1 + 1) (adj (q + 1) f) = 0).trans (by grind)
      apply Classical.byContradiction
      intro hne
      obtain ⟨t, ht⟩ := undo hne
      -- all numbers are noughts then, and what is left too
      have hz : ∀ i j, i < q + 1 + 1 → j < q + 1 + 1 → f i j = 0 := fun i j hi hj => by
        have e1 := one_mul (q + 1 + 1) (q + 1 + 1) f i j hi hj
        have e2 := (ht.mul (Eqm.rfl' (q + 1 + 1) (q + 1 + 1) f)) i j hi hj
        rw [mul_assoc] at e2
        have e3 : mul (q + 1 + 1) t (mul (q + 1 + 1) (adj (q + 1) f) f) i j = 0 := by
          show sg (q + 1 + 1) (fun x => t i x * mul (q + 1 + 1) (adj (q + 1) f) f x j) = 0
          rw [sg_congr (g := fun _ => 0) fun x hx => by
            rw [adj_left (q + 1) f x j hx hj, h]
            show t i x * (if x = j then 0 else 0) = 0
            split <;> grind]
          exact sg_none _
        rw [← e1, ← e2, e3]
      apply hne
      refine dt_zrow (k := 0) (Nat.succ_pos _) fun j hj => ?_
      show sgn (0 + j) * dt (q + 1) (wo f j 0) = 0
      rw [dt_zrow (k := 0) (Nat.succ_pos _) fun b hb => show f (sk j 0) (sk 0 b) = 0 from hz _ _ (sk_lt (Nat.succ_pos q)) (sk_lt hb)]
      grind
  · rw [pw_succ] at h1
    refine mul_cancel h ?_
    rw [Fin.mul_comm (dt (p + 1) (adj p f))]
    exact h1
/-- Cramer: with what a row comes to in the place of column j. -/
theorem cramer (n j : Nat) (f : Nat → Nat → F) (x : Nat → F) (hj : j < n) : dt n (setc j (fun i => sg n fun t => f i t * x t) f) = dt n f * x j := by
  have h := dt_sum n j hj f x (fun t i => f i t) n
  rw [show (fun i => sg n fun t => x t * f i t) = fun i => sg n fun t => f i t * x t from funext fun i => sg_congr fun t _ => by grind] at h
  rw [h, sg_one hj fun t ht hne => by rw [dt_copy hj ht (fun e => hne e.symm)]; grind, setc_self]
  grind

end Go.Proofs.Ytkebjmapdcbnaaa.Mx
