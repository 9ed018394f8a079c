/- Plain facts on the factors of a number times x less each of some whole numbers, built one by one. No program is named here. -/
import Derived.Test.YtbdpcpodmmhjaaaStS
namespace Go.Proofs.Ytbdpcpodmmhjaaa.Stu
set_option linter.unusedVariables false

/-- Times x less r. -/
def nrow (f : List Int) (r : Int) : List Int := (List.range (f.length + 1)).map fun i => (if 1 ≤ i then f.getD (i - 1) 0 else 0) - r * f.getD i 0
theorem nrow_len (f : List Int) (r : Int) : (nrow f r).length = f.length + 1 := by simp [nrow]
theorem nrow_val (f : List Int) (r : Int) (x : Rat) : iv (nrow f r) x = (x - r) * iv f x := by
  have over : ∀ l : List Int, l.getD l.length 0 = 0 := fun l => by rw [List.getD_eq_getElem?_getD, List.getElem?_eq_none (Nat.le_refl _)]; rfl
  unfold nrow
  rw [iv_row, iv_sum f]
  have e : (sm (f.length + 1) fun i => (((if 1 ≤ i then f.getD (i - 1) 0 else 0) - r * f.getD i 0 : Int) : Rat) * px x i) =
      (sm (f.length + 1) fun i => ((if 1 ≤ i then f.getD (i - 1) 0 else 0 : Int) : Rat) * px x i) - (r : Rat) * sm (f.length + 1) fun i => ((f.getD i 0 : Int) : Rat) * px x i := by
    rw [← sm_times, ← sm_sub]
    refine sm_congr fun i _ => ?_
    rw [Rat.intCast_sub, Rat.intCast_mul]; grind
  rw [e, sm_first, sm_succ f.length (fun i => ((f.getD i 0 : Int) : Rat) * px x i), over]
  have e2 : (sm f.length fun i => ((if 1 ≤ i + 1 then f.getD (i + 1 - 1) 0 else 0 : Int) : Rat) * px x (i + 1)) = x * sm f.length fun i => ((f.getD i 0 : Int) : Rat) * px x i := by
    rw [← sm_times]
    refine sm_congr fun i _ => ?_
    rw [if_pos (by omega), Nat.add_sub_cancel]
    have : px x (i + 1) = x * px x i := by
      have h := px_add x i 1
      have h1 : px x 1 = x := by show (1 : Rat) * x = x; grind
      rw [h, h1]; grind
    rw [this]; grind
  rw [e2, if_neg (by omega)]
  have z : ((0 : Int) : Rat) = 0 := rfl
  rw [z]
  generalize (sm f.length fun i => ((f.getD i 0 : Int) : Rat) * px x i) = s
  grind
theorem nrow_tp {f : List Int} (r : Int) (h : f ≠ []) : tp (nrow f r) = tp f := by
  have l := List.length_pos_iff.2 h
  unfold tp
  rw [nrow_len]
  unfold nrow
  rw [Nat.add_sub_cancel, List.getD_eq_getElem?_getD, List.getElem?_map, List.getElem?_range (by omega)]
  show (if 1 ≤ f.length then f.getD (f.length - 1) 0 else 0) - r * f.getD f.length 0 = _
  rw [if_pos (show 1 ≤ f.length from l), show f.getD f.length 0 = 0 by rw [List.getD_eq_getElem?_getD, List.getElem?_eq_none (Nat.le_refl _)]; rfl]
  omega
theorem nrow_bn {f : List Int} {r B : Int} (h : Bn B f) (hB : 0 ≤ B) (hr : -20 ≤ r ∧ r ≤ 20) : Bn (B * 21) (nrow f r) := fun z hz => by
  unfold nrow at hz
  obtain ⟨i, _, rfl⟩ := List.mem_map.1 hz
  have a := h.at hB i
  have b := h.at hB (i - 1)
  have m := prod_bd hr a
  rw [Int.mul_comm 20 B] at m
  split <;> omega
theorem fold_len : ∀ (rs : List Int) (f : List Int), (rs.foldl nrow f).length = f.length + rs.length
  | [], _ => rfl
  | r :: rs, f => by rw [List.foldl_cons, fold_len rs, nrow_len, List.length_cons]; omega
theorem fold_val : ∀ (rs : List Int) (f : List Int) (x : Rat), iv (rs.foldl nrow f) x = iv f x * Pr rs x
  | [], f, x => by show _ = _ * (1 : Rat); rw [List.foldl_nil]; grind
  | r :: rs, f, x => by
    rw [List.foldl_cons, fold_val rs, nrow_val]
    show _ = iv f x * ((x - r) * Pr rs x)
    grind
theorem fold_tp : ∀ (rs : List Int) (f : List Int), f ≠ [] → tp (rs.foldl nrow f) = tp f
  | [], _, _ => rfl
  | r :: rs, f, h => by
    rw [List.foldl_cons, fold_tp rs _ (fun e => by have := congrArg List.length e; rw [nrow_len] at this; simp at this), nrow_tp r h]
theorem fold_bn : ∀ (rs : List Int) (f : List Int) (B : Int), 0 ≤ B → Bn B f → Bn 20 rs → Bn (B * 21 ^ rs.length) (rs.foldl nrow f)
  | [], f, B, _, h, _ => by
    rw [List.foldl_nil, List.length_nil, Int.pow_zero, Int.mul_one]; exact h
  | r :: rs, f, B, hB, h, hr => by
    rw [List.foldl_cons, List.length_cons, Int.pow_succ]
    have := fold_bn rs (nrow f r) (B * 21) (by omega) (nrow_bn h hB (hr r (by simp))) fun z hz => hr z (List.mem_cons_of_mem _ hz)
    rw [show B * (21 ^ rs.length * 21) = B * 21 * 21 ^ rs.length by grind]
    exact this
/-- What stands in the row behind j steps of the inner loop. -/
def nst (f : List Int) (r : Int) (j i : Nat) : Int := (if 1 ≤ i ∧ i ≤ j then f.getD (i - 1) 0 else 0) - (if i < j then r * f.getD i 0 else 0)
theorem nst_zero (f : List Int) (r : Int) (i : Nat) : nst f r 0 i = 0 := by unfold nst; rw [if_neg (by omega), if_neg (by omega)]; rfl
theorem nst_next (f : List Int) (r : Int) (j : Nat) : nst f r j (j + 1) = 0 := by unfold nst; rw [if_neg (by omega), if_neg (by omega)]; rfl
theorem nst_step (f : List Int) (r : Int) (j i : Nat) : nst f r (j + 1) i = if i = j then nst f r j j - r * f.getD j 0 else if i = j + 1 then f.getD j 0 else nst f r j i := by
  unfold nst
  by_cases h1 : i = j
  · subst h1
    rw [if_pos rfl, if_pos (show i < i + 1 by omega), if_neg (show ¬ i < i by omega), Int.sub_zero]
    by_cases h : 1 ≤ i
    · rw [if_pos (by omega), if_pos (by omega)]
    · rw [if_neg (by omega), if_neg (by omega)]
  · rw [if_neg h1]
    by_cases h2 : i = j + 1
    · subst h2
      rw [if_pos rfl, if_pos (by omega), if_neg (by omega), Int.sub_zero]; rfl
    · rw [if_neg h2]
      by_cases h3 : i < j
      · rw [if_pos (show i < j + 1 by omega), if_pos h3]
        by_cases h : 1 ≤ i
        · rw [if_pos (by omega), if_pos (by omega)]
        · rw [if_neg (by omega), if_neg (by omega)]
      · rw [if_neg (show ¬ i < j + 1 by omega), if_neg h3, if_neg (by omega), if_neg (by omega)]
theorem nst_all (f : List Int) (r : Int) : ((List.range (f.length + 1)).map fun i => nst f r f.length i) = nrow f r := by
  unfold nrow
  refine List.map_congr_left fun i hi => ?_
  have hi := List.mem_range.1 hi
  unfold nst
  by_cases h : i < f.length
  · rw [if_pos h]
    by_cases h1 : 1 ≤ i
    · rw [if_pos (by omega), if_pos h1]
    · rw [if_neg (by omega), if_neg h1]
  · rw [if_neg h, show f.getD i 0 = 0 by rw [List.getD_eq_getElem?_getD, List.getElem?_eq_none (by omega)]; rfl, Int.mul_zero]
    by_cases h1 : 1 ≤ i
    · rw [if_pos (by omega), if_pos h1]
    · rw [if_neg (by omega), if_neg h1]
theorem nst_bd {f : List Int} {r B : Int} (h : Bn B f) (hB : 0 ≤ B) (hr : -20 ≤ r ∧ r ≤ 20) (j i : Nat) : -(B * 21) ≤ nst f r j i ∧ nst f r j i ≤ B * 21 := by
  have a := h.at hB i
  have b := h.at hB (i - 1)
  have m := prod_bd hr a
  rw [Int.mul_comm 20 B] at m
  unfold nst
  split <;> split <;> omega
theorem cn_snoc : ∀ (l : List Int) (r : Int) (x y : Rat), cn (l ++ [r]) x y = cn l x y + if x < (r : Rat) ∧ (r : Rat) ≤ y then 1 else 0
  | [], r, x, y => by show (_ + 0) = 0 + _; omega
  | a :: l, r, x, y => by
    show _ + cn (l ++ [r]) x y = _ + cn l x y + _
    rw [cn_snoc l r x y]; omega
theorem cn_le : ∀ (l : List Int) (x y : Rat), cn l x y ≤ l.length
  | [], _, _ => Nat.le_refl _
  | a :: l, x, y => by
    have := cn_le l x y
    show (if _ then 1 else 0) + cn l x y ≤ l.length + 1
    split <;> omega
theorem dd_len : ∀ (l : List Int), (dd l).length ≤ l.length := fun l => by
  unfold dd
  rw [← List.length_reverse (as := l)]
  generalize l.reverse = m
  induction m with
  | nil => exact Nat.le_refl _
  | cons a m ih =>
    rw [ddr, List.length_cons]
    split
    · omega
    · rw [List.length_append, List.length_singleton]; omega

end Go.Proofs.Ytbdpcpodmmhjaaa.Stu
