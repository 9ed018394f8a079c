/- Plain facts on rows that go on by factors: the row, its step as a matrix, and that matrix's factors. No program is named here. -/
import Derived.Test.YtldkamhknaflbaaMatC3
namespace Go.Proofs.Ytldkamhknaflbaa.Mx
open Fp
set_option linter.unusedVariables false

/-- x goes on by n factors. -/
def Goes (n : Nat) (c x : Nat → F) : Prop := ∀ i, n ≤ i → x i = sg n fun k => c k * x (i - 1 - k)
/-- The first numbers of the row that begins with s and goes on by c. -/
def sql (n : Nat) (c s : Nat → F) : Nat → List F
  | 0 => []
  | i + 1 => sql n c s i ++ [if i < n then s i else sg n fun k => c k * (sql n c s i).getD (i - 1 - k) 0]
def sq (n : Nat) (c s : Nat → F) (i : Nat) : F := (sql n c s (i + 1)).getD i 0
theorem sql_len (n : Nat) (c s : Nat → F) : ∀ i, (sql n c s i).length = i
  | 0 => rfl
  | i + 1 => by rw [sql, List.length_append, sql_len n c s i]; rfl
theorem sql_at (n : Nat) (c s : Nat → F) (j : Nat) : ∀ i, j < i → (sql n c s i).getD j 0 = sq n c s j
  | 0, h => absurd h (by omega)
  | i + 1, h => by
    by_cases e : j = i
    · rw [e]; rfl
    · rw [sql, List.getD_eq_getElem?_getD, List.getElem?_append_left (by rw [sql_len]; omega), ← List.getD_eq_getElem?_getD, sql_at n c s j i (by omega)]
theorem sq_val (n : Nat) (c s : Nat → F) (i : Nat) : sq n c s i = if i < n then s i else sg n fun k => c k * (sql n c s i).getD (i - 1 - k) 0 := by
  unfold sq
  rw [sql, List.getD_eq_getElem?_getD, List.getElem?_append_right (by rw [sql_len]; omega), sql_len, Nat.sub_self]; rfl
theorem sq_start (n : Nat) (c s : Nat → F) {i : Nat} (h : i < n) : sq n c s i = s i := by rw [sq_val, if_pos h]
theorem sq_goes (n : Nat) (c s : Nat → F) (hn : 0 < n) : Goes n c (sq n c s) := fun i h => by
  rw [sq_val, if_neg (by omega)]
  exact sg_congr fun k hk => by rw [sql_at n c s _ i (by omega)]
/-- There is but one such row. -/
theorem Goes.one {n : Nat} {c x y : Nat → F} (hx : Goes n c x) (hy : Goes n c y) (h : ∀ i, i < n → x i = y i) : ∀ i, x i = y i := fun i => by
  induction i using Nat.strongRecOn with
  | _ i ih =>
    by_cases hi : i < n
    · exact h i hi
    · rw [hx i (by omega), hy i (by omega)]
      exact sg_congr fun k hk => by rw [ih (i - 1 - k) (by omega)]
theorem Goes.is {n : Nat} (hn : 0 < n) {c x : Nat → F} (hx : Goes n c x) : ∀ i, x i = sq n c x i := hx.one (sq_goes n c x hn) fun i hi => (sq_start n c x hi).symm
theorem Goes.plus {n : Nat} {c x y : Nat → F} (hx : Goes n c x) (hy : Goes n c y) : Goes n c fun i => x i + y i := fun i hi => by
  dsimp only
  rw [hx i hi, hy i hi, ← sg_add]
  exact sg_congr fun k _ => by grind
theorem Goes.later {n : Nat} {c x : Nat → F} (hx : Goes n c x) (j : Nat) : Goes n c fun i => x (i + j) := fun i hi => by
  dsimp only
  rw [hx (i + j) (by omega)]
  exact sg_congr fun k hk => by rw [show i + j - 1 - k = i - 1 - k + j by omega]

/-- The step of a row as a matrix: the newest number first. -/
def cmp (n : Nat) (c : Nat → F) : Nat → Nat → F := fun i j => if i = 0 then c j else if j + 1 = i then 1 else 0
theorem cmp_step {n : Nat} {c x : Nat → F} (hx : Goes n c x) (i : Nat) {a : Nat} (ha : a < n) : (sg n fun b => cmp n c a b * x (i + (n - 1 - b))) = x (i + 1 + (n - 1 - a)) := by
  rcases a with _ | a
  · rw [hx (i + 1 + (n - 1 - 0)) (by omega)]
    exact sg_congr fun k hk => by
      unfold cmp; rw [if_pos rfl, show i + 1 + (n - 1 - 0) - 1 - k = i + (n - 1 - k) by omega]
  · rw [sg_one (k := a) (by omega) fun j hj hne => by unfold cmp; rw [if_neg (by omega), if_neg (by omega)]; grind]
    unfold cmp
    rw [if_neg (by omega), if_pos rfl, show i + (n - 1 - a) = i + 1 + (n - 1 - (a + 1)) by omega]; grind
/-- Its powers tell the row. -/
theorem cmp_pow {n : Nat} {c x : Nat → F} (hx : Goes n c x) : ∀ (k i a : Nat), a < n → (sg n fun b => pwm n (cmp n c) k a b * x (i + (n - 1 - b))) = x (i + k + (n - 1 - a))
  | 0, i, a, ha => by
    rw [sg_one ha fun j hj hne => by
      show (if a = j then (1 : F) else 0) * _ = 0
      rw [if_neg fun e => hne e.symm]; grind]
    show (if a = a then (1 : F) else 0) * _ = _
    rw [if_pos rfl, Nat.add_zero]; grind
  | k + 1, i, a, ha => by
    have h1 : (sg n fun b => pwm n (cmp n c) (k + 1) a b * x (i + (n - 1 - b))) = sg n fun b => mul n (pwm n (cmp n c) k) (cmp n c) a b * x (i + (n - 1 - b)) := sg_congr fun b hb => by
      rw [← pwm_snoc n (cmp n c) k a b ha hb]
    have h2 : (sg n fun b => mul n (pwm n (cmp n c) k) (cmp n c) a b * x (i + (n - 1 - b))) = sg n fun t => pwm n (cmp n c) k a t * sg n fun b => cmp n c t b * x (i + (n - 1 - b)) := by
      rw [sg_congr (g := fun b => sg n fun t => pwm n (cmp n c) k a t * (cmp n c t b * x (i + (n - 1 - b)))) fun b _ => by
        unfold mul; rw [← sg_by]; exact sg_congr fun t _ => by grind, sg_swap]
      exact sg_congr fun t _ => by rw [sg_times]
    rw [h1, h2, sg_congr (g := fun t => pwm n (cmp n c) k a t * x (i + 1 + (n - 1 - t))) fun t ht => by rw [cmp_step hx i ht], cmp_pow hx k (i + 1) a ha]
    congr 1; omega

/-- Noughts above the middle, -1 in it. -/
theorem dt_mid (d : F) : ∀ (n : Nat) (g : Nat → Nat → F), (∀ i j, i < n → j < n → i < j → g i j = 0) → (∀ i, i < n → g i i = d) → dt n g = pw d n
  | 0, g, _, _ => rfl
  | n + 1, g, h, hd => by
    have e := dt_right 1 n g fun i j hi hj hj2 => h i j (by omega) (by omega) (by omega)
    rw [Nat.add_comm 1 n] at e
    rw [e, dt_mid d n (fun i j => g (1 + i) (1 + j)) (fun i j hi hj hij => h _ _ (by omega) (by omega) (by omega)) (fun i hi => hd _ (by omega)), dt_succ, sg_succ, sg_zero, hd 0 (by omega), show sgn 0 = 1 from rfl, pw_succ]
    show (0 + 1 * d * 1) * pw d n = _
    grind
/-- x times the one, less the step. -/
theorem cmp_dt (c : Nat → F) (x : F) : ∀ n, dt (n + 1) (chm (cmp (n + 1) c) x) = pw x (n + 1) - sg (n + 1) fun k => c k * pw x (n - k)
  | 0 => by
    rw [dt_succ, sg_succ, sg_zero, sg_succ, sg_zero, pw_one, show sgn 0 = 1 from rfl]
    show 0 + 1 * (x - c 0) * 1 = x - (0 + c 0 * 1)
    grind
  | n + 1 => by
    have ih := cmp_dt c x n
    -- by the last row of what is flipped: the last column
    rw [← dt_flip, ← laplace (n + 1) (n + 1) _ (Nat.le_refl _)]
    have hz : ∀ j, j < n + 1 + 1 → j ≠ 0 → j ≠ n + 1 → sgn (n + 1 + j) * flip (chm (cmp (n + 1 + 1) c) x) (n + 1) j * dt (n + 1) (wo (flip (chm (cmp (n + 1 + 1) c) x)) (n + 1) j) = 0 := fun j hj h0 h1 => by
      have : flip (chm (cmp (n + 1 + 1) c) x) (n + 1) j = 0 := by
        show (if j = n + 1 then x else 0) - cmp (n + 1 + 1) c j (n + 1) = 0
        unfold cmp
        rw [if_neg h1, if_neg h0, if_neg (by omega)]; grind
      rw [this]; grind
    rw [sg_two (k := 0) (l := n + 1) (by omega) (by omega) (by omega) (fun j hj h0 h1 => hz j hj h0 h1)]
    have v0 : flip (chm (cmp (n + 1 + 1) c) x) (n + 1) 0 = -(c (n + 1)) := by
      show (if 0 = n + 1 then x else 0) - cmp (n + 1 + 1) c 0 (n + 1) = _
      unfold cmp
      rw [if_neg (by omega), if_pos rfl]; grind
    have v1 : flip (chm (cmp (n + 1 + 1) c) x) (n + 1) (n + 1) = x := by
      show (if n + 1 = n + 1 then x else 0) - cmp (n + 1 + 1) c (n + 1) (n + 1) = _
      unfold cmp
      rw [if_pos rfl, if_neg (by omega), if_neg (by omega)]; grind
    have w0 : dt (n + 1) (wo (flip (chm (cmp (n + 1 + 1) c) x)) (n + 1) 0) = pw (-1) (n + 1) := by
      refine dt_mid (-1) (n + 1) _ (fun i j hi hj hij => ?_) (fun i hi => ?_)
      · show (if sk 0 j = sk (n + 1) i then x else 0) - cmp (n + 1 + 1) c (sk 0 j) (sk (n + 1) i) = 0
        rw [sk_zero, show sk (n + 1) i = i by unfold sk; rw [if_pos hi]]
        unfold cmp
        rw [if_neg (by omega), if_neg (by omega), if_neg (by omega)]; grind
      · show (if sk 0 i = sk (n + 1) i then x else 0) - cmp (n + 1 + 1) c (sk 0 i) (sk (n + 1) i) = -1
        rw [sk_zero, show sk (n + 1) i = i by unfold sk; rw [if_pos hi]]
        unfold cmp
        rw [if_neg (by omega), if_neg (by omega), if_pos rfl]; grind
    have w1 : dt (n + 1) (wo (flip (chm (cmp (n + 1 + 1) c) x)) (n + 1) (n + 1)) = dt (n + 1) (chm (cmp (n + 1) c) x) := by
      rw [← dt_flip (n + 1) (chm (cmp (n + 1) c) x)]
      refine dt_congr _ fun i j hi hj => ?_
      show (if sk (n + 1) j = sk (n + 1) i then x else 0) - cmp (n + 1 + 1) c (sk (n + 1) j) (sk (n + 1) i) = (if j = i then x else 0) - cmp (n + 1) c j i
      rw [show sk (n + 1) i = i by unfold sk; rw [if_pos hi], show sk (n + 1) j = j by unfold sk; rw [if_pos hj]]; rfl
    have sp : sgn (n + 1 + 0) * pw (-1) (n + 1) = 1 := by
      have : ∀ k, sgn k * pw (-1) k = 1 := fun k => by
        induction k with
        | zero => rfl
        | succ k ih => rw [sgn_succ, pw_succ]; grind
      exact this (n + 1)
    rw [v0, v1, w0, w1, ih, show sgn (n + 1 + (n + 1)) = 1 by rw [sgn_add, sgn_two], sg_succ (n + 1) fun k => c k * pw x (n + 1 - k), Nat.sub_self, pw_zero]
    have e : (sg (n + 1) fun k => c k * pw x (n + 1 - k)) = x * sg (n + 1) fun k => c k * pw x (n - k) := by
      rw [← sg_times]
      exact sg_congr fun k hk => by rw [show n + 1 - k = (n - k) + 1 by omega, pw_succ]; grind
    rw [e, pw_succ x (n + 1)]
    grind
/-- The factors of the step are those of the row. -/
theorem cmp_ch {n : Nat} (hn : n + 1 < 9973) (c : Nat → F) : ∀ k, k ≤ n → ch (n + 1) (cmp (n + 1) c) (n - k) = -(c k) := fun k hk => by
  have h := vx_eq (d := n + 1) hn (c := ch (n + 1) (cmp (n + 1) c)) (e := fun j => if j = n + 1 then 1 else -(c (n - j))) (fun x => by
    rw [← ch_is, cmp_dt]
    rw [vx_succ]
    rw [if_pos rfl]
    have : (vx n (fun j => if j = n + 1 then 1 else -(c (n - j))) x) = -(sg (n + 1) fun k => c k * pw x (n - k)) := by
      unfold vx
      have e1 : (sg (n + 1) fun j => (if j = n + 1 then 1 else -(c (n - j))) * pw x j) = sg (n + 1) fun j => -(c (n - j)) * pw x j := sg_congr fun j hj => by rw [if_neg (by omega)]
      have e2 : ∀ m, m ≤ n + 1 → ∀ g : Nat → F, (sg m fun j => g (m - 1 - j)) = sg m g := by
        intro m
        induction m with
        | zero => intros; rfl
        | succ m ih =>
          intro hm g
          rw [sg_first, sg_succ m g]
          have := ih (by omega) g
          rw [← this]
          have e3 : (sg m fun i => g (m + 1 - 1 - (i + 1))) = sg m fun j => g (m - 1 - j) := sg_congr fun i hi => by congr 1; omega
          rw [e3]
          show g (m + 1 - 1 - 0) + _ = _ + g m
          rw [show m + 1 - 1 - 0 = m by omega]; grind
      have e4 := e2 (n + 1) (Nat.le_refl _) (fun k => c k * pw x (n - k))
      rw [e1, ← e4]
      have e5 : -(sg (n + 1) fun j => c (n + 1 - 1 - j) * pw x (n - (n + 1 - 1 - j))) = (-1) * sg (n + 1) fun j => c (n + 1 - 1 - j) * pw x (n - (n + 1 - 1 - j)) := by grind
      rw [e5, ← sg_times]
      exact sg_congr fun j hj => by
        rw [show n - (n + 1 - 1 - j) = j by omega, show n + 1 - 1 - j = n - j by omega]; grind
    rw [this]; grind) (n - k) (by omega)
  rw [h]
  rw [if_neg (by omega), show n - (n - k) = k by omega]

end Go.Proofs.Ytldkamhknaflbaa.Mx
