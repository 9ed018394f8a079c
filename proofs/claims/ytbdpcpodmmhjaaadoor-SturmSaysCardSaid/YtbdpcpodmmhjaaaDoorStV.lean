/- Plain facts on a division and what is counted in it, step by step, and how large it gets. No program is named here. -/
import Derived.Test.YtbdpcpodmmhjaaaDoorStT
namespace Go.Proofs.YtbdpcpodmmhjaaaDoor.Stu
set_option linter.unusedVariables false

/-- What is counted, after s steps. -/
def qst : Nat → List Int → List Int → List Int → List Int
  | 0, _, _, Q => Q
  | s + 1, f, g, Q => qst s (nx f g) g (qn Q f g)
theorem qst_succ : ∀ (s : Nat) (f g Q : List Int), qst (s + 1) f g Q = qn (qst s f g Q) (nxs s f g) g
  | 0, _, _, _ => rfl
  | s + 1, f, g, Q => qst_succ s (nx f g) g (qn Q f g)
theorem qst_len : ∀ (s : Nat) (f g Q : List Int), (qst s f g Q).length = Q.length
  | 0, _, _, _ => rfl
  | s + 1, f, g, Q => by rw [qst, qst_len s, qn_len]
theorem spl_qst : ∀ (n s : Nat) (g f Q : List Int), f.length + 1 - g.length = s → f.length ≤ n → 0 < g.length → (spl n g f Q).1 = qst s f g Q
  | 0, s, g, f, Q, hs, hn, h0 => by
    obtain rfl : s = 0 := by omega
    rfl
  | n + 1, 0, g, f, Q, hs, hn, h0 => by rw [spl, if_neg (by omega)]; rfl
  | n + 1, s + 1, g, f, Q, hs, hn, h0 => by
    rw [spl, if_pos (by omega)]
    exact spl_qst n s g (nx f g) _ (by rw [nx_len]; omega) (by rw [nx_len]; omega) h0
theorem dq_qst (f g : List Int) (h0 : 0 < g.length) : dq f g = pl (qst (f.length + 1 - g.length) f g (List.replicate 8 0)) := by
  unfold dq; rw [spl_qst f.length _ g f _ rfl (Nat.le_refl _) h0]
theorem dr_nxs (f g : List Int) (h0 : 0 < g.length) : dr f g = pl (nxs (f.length + 1 - g.length) f g) := by
  unfold dr; rw [spl_nxs f.length _ g f _ rfl (Nat.le_refl _) h0]
/-- Number by number. -/
theorem qn_at (Q f g : List Int) (i : Nat) (h : f.length - g.length < Q.length) : (qn Q f g).getD i 0 = if i = f.length - g.length then Q.getD i 0 * az (tp g) + tq f g else Q.getD i 0 * az (tp g) := by
  unfold qn
  by_cases e : i = f.length - g.length
  · subst e
    rw [if_pos rfl, List.getD_eq_getElem?_getD, List.getElem?_set_self (by rw [List.length_map]; exact h)]
    show _ = _
    rw [getD_scale]; rfl
  · rw [if_neg e, List.getD_eq_getElem?_getD, List.getElem?_set_ne (fun h => e h.symm), ← List.getD_eq_getElem?_getD, getD_scale]
theorem qst_bn : ∀ (s : Nat) (g f : List Int) (X Y : Int), 0 ≤ X → 1 ≤ Y → Bn X f → Bn Y g → Bn (X * (2 * Y) ^ s) (qst s f g (List.replicate 8 0)) := by
  intro s g f X Y hX hY hf hg
  induction s with
  | zero => exact bn_zeros 8 _ (by rw [Int.pow_zero, Int.mul_one]; exact hX)
  | succ s ih =>
    rw [qst_succ]
    have p := pow_le Y hY s
    have b0 := Int.mul_nonneg hX (show 0 ≤ (2 * Y) ^ s by omega)
    have h1 := qn_bn (Q := qst s f g (List.replicate 8 0)) b0 (show 0 ≤ Y by omega) b0 (nxs_bn s g f X Y hX hY hf hg) hg ih
    refine h1.le ?_
    rw [Int.pow_succ]
    have e : X * ((2 * Y) ^ s * (2 * Y)) = X * (2 * Y) ^ s * Y + X * (2 * Y) ^ s * Y := by grind
    have := Int.mul_le_mul_of_nonneg_left hY b0
    omega
/-- What Fit says of all steps. -/
theorem Fit.all {a b : List Int} (h : Fit a b) (la : a.length ≤ 4) (hb : 1 ≤ b.length) : ∃ X Y : Int, 0 ≤ X ∧ 1 ≤ Y ∧ Bn X a ∧ Bn Y b ∧ X * (2 * Y) ^ (a.length + 1 - b.length) ≤ 4000000000000000000 ∧ Y ≤ 1000000 ∧ X ≤ 1000000000000 := by
  obtain ⟨X, Y, hX, hY, ba, bb, cX, cY, h⟩ := h
  refine ⟨X, Y, hX, hY, ba, bb, ?_, cY, cX⟩
  rcases h with h | ⟨h, k⟩ | ⟨h, k⟩ | ⟨h, k1, k2⟩
  · rcases show a.length + 1 - b.length = 0 ∨ a.length + 1 - b.length = 1 by omega with e | e <;> rw [e]
    · rw [Int.pow_zero]; omega
    · rw [Int.pow_succ, Int.pow_zero]
      have := prod_bd (a := X) (b := Y) (X := 1000000000000) (Y := 1000000) (by omega) (by omega)
      have e2 : X * (1 * (2 * Y)) = 2 * (X * Y) := by grind
      omega
  · rw [show a.length + 1 - b.length = 2 by omega, Int.pow_succ, Int.pow_succ, Int.pow_zero]
    have e2 : X * (1 * (2 * Y) * (2 * Y)) = 4 * (X * Y * Y) := by grind
    omega
  · subst h
    rcases show a.length + 1 - b.length = 0 ∨ a.length + 1 - b.length = 1 ∨ a.length + 1 - b.length = 2 ∨ a.length + 1 - b.length = 3 ∨ a.length + 1 - b.length = 4 by omega with e | e | e | e | e <;> rw [e]
    · rw [Int.pow_zero]; omega
    · rw [show ((2 : Int) * 1) ^ 1 = 2 from rfl]; omega
    · rw [show ((2 : Int) * 1) ^ 2 = 4 from rfl]; omega
    · rw [show ((2 : Int) * 1) ^ 3 = 8 from rfl]; omega
    · rw [show ((2 : Int) * 1) ^ 4 = 16 from rfl]; omega
  · rw [show a.length + 1 - b.length = 3 by omega, Int.pow_succ, Int.pow_succ, Int.pow_succ, Int.pow_zero]
    have m1 := prod_bd (a := Y) (b := Y) (X := 20) (Y := 20) (by omega) (by omega)
    have m2 := prod_bd (a := Y * Y) (b := Y) (X := 400) (Y := 20) (by omega) (by omega)
    have m3 := prod_bd (a := X) (b := Y * Y * Y) (X := 20) (Y := 8000) (by omega) (by omega)
    have e2 : X * (1 * (2 * Y) * (2 * Y) * (2 * Y)) = 8 * (X * (Y * Y * Y)) := by grind
    omega

end Go.Proofs.YtbdpcpodmmhjaaaDoor.Stu
