/- Plain facts on rows that go on by factors: the step as a matrix that moves the numbers on by one place, its powers, rows written as far as a place. No program is named here. -/
import Derived.Test.YtldkamhknaflbaaMatQ
import Derived.Test.YtldkamhknaflbaaSoC1
namespace Go.Proofs.Ytldkamhknaflbaa
open Fp
set_option linter.unusedVariables false

namespace Mx
/-- Turned round, a sum is the same. -/
theorem sg_back : ∀ (n : Nat) (g : Nat → F), (sg n fun j => g (n - 1 - j)) = sg n g
  | 0, _ => rfl
  | n + 1, g => by
    rw [sg_first]
    have h := sg_back n g
    rw [sg_succ, ← h, show n + 1 - 1 - 0 = n by omega, sg_congr (g := fun j => g (n - 1 - j)) fun j hj => by rw [show n + 1 - 1 - (j + 1) = n - 1 - j by omega]]
    grind
/-- The step that moves the numbers on by one place. -/
def stp (n : Nat) (c : Nat → F) : Nat → Nat → F := fun i j => if i + 1 = n then c (n - 1 - j) else if j = i + 1 then 1 else 0
theorem stp_step {n : Nat} {c x : Nat → F} (hx : Goes n c x) (i : Nat) {a : Nat} (ha : a < n) : (sg n fun b => stp n c a b * x (i + b)) = x (i + 1 + a) := by
  by_cases e : a + 1 = n
  · rw [hx (i + 1 + a) (by omega), ← sg_back n fun k => c k * x (i + 1 + a - 1 - k)]
    exact sg_congr fun k hk => by
      unfold stp; rw [if_pos e, show i + 1 + a - 1 - (n - 1 - k) = i + k by omega]
  · rw [sg_one (k := a + 1) (by omega) fun j hj hne => by unfold stp; rw [if_neg e, if_neg hne]; grind]
    unfold stp
    rw [if_neg e, if_pos rfl, show i + (a + 1) = i + 1 + a by omega]; grind
/-- Its powers tell the row. -/
theorem stp_pow {n : Nat} {c x : Nat → F} (hx : Goes n c x) : ∀ (k i a : Nat), a < n → (sg n fun b => pwm n (stp n c) k a b * x (i + b)) = x (i + k + a)
  | 0, i, a, ha => by
    rw [sg_one ha fun j hj hne => by
      show (if a = j then (1 : F) else 0) * _ = 0
      rw [if_neg fun e => hne e.symm]; grind]
    show (if a = a then (1 : F) else 0) * _ = _
    rw [if_pos rfl, Nat.add_zero]; grind
  | k + 1, i, a, ha => by
    have h1 : (sg n fun b => pwm n (stp n c) (k + 1) a b * x (i + b)) = sg n fun b => mul n (pwm n (stp n c) k) (stp n c) a b * x (i + b) := sg_congr fun b hb => by
      rw [← pwm_snoc n (stp n c) k a b ha hb]
    have h2 : (sg n fun b => mul n (pwm n (stp n c) k) (stp n c) a b * x (i + b)) = sg n fun t => pwm n (stp n c) k a t * sg n fun b => stp n c t b * x (i + b) := by
      rw [sg_congr (g := fun b => sg n fun t => pwm n (stp n c) k a t * (stp n c t b * x (i + b))) fun b _ => by
        unfold mul; rw [← sg_by]; exact sg_congr fun t _ => by grind, sg_swap]
      exact sg_congr fun t _ => by rw [sg_times]
    rw [h1, h2, sg_congr (g := fun t => pwm n (stp n c) k a t * x (i + 1 + t)) fun t ht => by rw [stp_step hx i ht], stp_pow hx k (i + 1) a ha]
    congr 1; omega
/-- The number at a place is told by the first row of the step's power. -/
theorem stp_term {n : Nat} {c s : Nat → F} (hn : 0 < n) (k : Nat) : (sg n fun b => pwm n (stp n c) k 0 b * s b) = sq n c s k := by
  have h := stp_pow (sq_goes n c s hn) k 0 0 hn
  rw [show 0 + k + 0 = k by omega] at h
  rw [← h]
  exact sg_congr fun b hb => by rw [show 0 + b = b by omega, sq_start n c s hb]
end Mx

/-- The first i numbers of x, then noughts. -/
def far (x : Nat → Fp.F) (i : Nat) : Nat → Fp.F := fun j => if j < i then x j else 0
theorem far_step (x : Nat → Fp.F) {N i : Nat} (h : i < N) : (rowF N (far x i)).set i ((x i).val : Int) = rowF N (far x (i + 1)) := by
  unfold rowF
  rw [Mx.row_set]
  refine Mx.row_ext fun j hj => ?_
  unfold far
  by_cases e : j = i
  · subst e; rw [if_pos rfl, if_pos (by omega)]
  · rw [if_neg e]
    by_cases e2 : j < i
    · rw [if_pos e2, if_pos (by omega)]
    · rw [if_neg e2, if_neg (by omega)]
theorem far_all (x : Nat → Fp.F) (N : Nat) : rowF N (far x N) = rowF N x := Mx.row_ext fun j hj => by unfold far; rw [if_pos hj]
theorem far_take (x : Nat → Fp.F) {N i : Nat} (h : i ≤ N) : (rowF N (far x i)).take i = rowF i x := by
  refine List.ext_getElem (by rw [List.length_take, Mx.len_row, Mx.len_row]; omega) fun j h1 h2 => ?_
  rw [Mx.len_row] at h2
  simp [rowF, Mx.row, far, h2]
theorem far_start (s x : Nat → Fp.F) {N n m : Nat} (hm : m = min N n) (h : ∀ j, j < m → x j = s j) : (rowF n s).take m ++ List.replicate (N - m) 0 = rowF N (far x m) := by
  refine List.ext_getElem (by simp [rowF, Mx.row]; omega) fun j h1 h2 => ?_
  rw [Mx.len_row] at h2
  by_cases e : j < m
  · rw [List.getElem_append_left (by simp [rowF, Mx.row]; omega)]
    simp [rowF, Mx.row, far, e, h j e]
  · rw [List.getElem_append_right (by simp [rowF, Mx.row]; omega)]
    simp [rowF, Mx.row, far, e]

/-- What is wrong with factors and a beginning, as a number. -/
noncomputable def rcd (L S : List Int) : Nat :=
  open Classical in if L.length = 0 then 5 else if 5 < L.length then 4 else if S.length ≠ L.length then 3 else if ¬ (AllIn L 0 9972 ∧ AllIn S 0 9972) then 1 else 0
theorem rcd_none {L S : List Int} (h : L.length = 0) : rcd L S = 5 := by unfold rcd; rw [if_pos h]
theorem rcd_full {L S : List Int} (h : 5 < L.length) : rcd L S = 4 := by unfold rcd; rw [if_neg (by omega), if_pos h]
theorem rcd_shape {L S : List Int} (h0 : L.length ≠ 0) (h : ¬ 5 < L.length) (h1 : S.length ≠ L.length) : rcd L S = 3 := by unfold rcd; rw [if_neg h0, if_neg h, if_pos h1]
theorem rcd_range {L S : List Int} (h0 : L.length ≠ 0) (h : ¬ 5 < L.length) (h1 : S.length = L.length) (h3 : ¬ (AllIn L 0 9972 ∧ AllIn S 0 9972)) : rcd L S = 1 := by
  unfold rcd; rw [if_neg h0, if_neg h, if_neg (by omega), if_pos h3]
theorem rcd_ok {L S : List Int} (h0 : L.length ≠ 0) (h : ¬ 5 < L.length) (h1 : S.length = L.length) (h3 : AllIn L 0 9972) (h4 : AllIn S 0 9972) : rcd L S = 0 := by
  unfold rcd; rw [if_neg h0, if_neg h, if_neg (by omega), if_neg (fun e => e ⟨h3, h4⟩)]
theorem rcd_some (L S : List Int) : rcd L S = 0 ∨ rcd L S = 1 ∨ rcd L S = 3 ∨ rcd L S = 4 ∨ rcd L S = 5 := by
  unfold rcd; repeat' split
  all_goals simp
theorem rcd_zero {L S : List Int} (h : rcd L S = 0) : L.length ≠ 0 ∧ L.length ≤ 5 ∧ S.length = L.length ∧ AllIn L 0 9972 ∧ AllIn S 0 9972 := by
  by_cases h0 : L.length = 0
  · rw [rcd_none h0] at h; cases h
  · by_cases h1 : 5 < L.length
    · rw [rcd_full h1] at h; cases h
    · by_cases h2 : S.length = L.length
      · by_cases h3 : AllIn L 0 9972 ∧ AllIn S 0 9972
        · exact ⟨h0, by omega, h2, h3⟩
        · rw [rcd_range h0 h1 h2 h3] at h; cases h
      · rw [rcd_shape h0 h1 h2] at h; cases h

/-- Factors and a beginning, as many. -/
structure Rc (n : Nat) (c s : Nat → Fp.F) (L S : List Int) : Prop where
  fac : L = rowF n c
  beg : S = rowF n s
  pos : 0 < n
  le : n ≤ 5
theorem rrow_of {l : List Int} (h : AllIn l 0 9972) : ∃ t : Nat → Fp.F, l = rowF l.length t := by
  refine ⟨fun j => Fp.ofInt (l.getD j 0), ?_⟩
  refine (Mx.is_row l).trans (Mx.row_ext fun k hk => ?_)
  show l.getD k 0 = ((Fp.ofInt (l.getD k 0)).val : Int)
  rw [Fp.ofInt_val]
  have := h k hk
  omega
theorem rrow_in (q : Nat) (t : Nat → Fp.F) : AllIn (rowF q t) 0 9972 := fun k hk => by
  rw [Mx.len_row] at hk
  rw [Mx.row_at _ _ _ hk]
  exact Fp.val_bound (t k)
theorem rc_or (L S : List Int) : (∃ n c s, Rc n c s L S) ∨ rcd L S ≠ 0 := by
  by_cases h : rcd L S = 0
  · obtain ⟨h0, h1, h2, h3, h4⟩ := rcd_zero h
    obtain ⟨c, hc⟩ := rrow_of h3
    obtain ⟨s, hs⟩ := rrow_of h4
    rw [h2] at hs
    exact .inl ⟨L.length, c, s, hc, hs, by omega, h1⟩
  · exact .inr h
theorem Rc.code {n : Nat} {c s : Nat → Fp.F} {L S : List Int} (h : Rc n c s L S) : rcd L S = 0 := by
  have h1 := h.le
  have h2 := h.pos
  have e1 : L.length = n := by rw [h.fac, Mx.len_row]
  have e2 : S.length = n := by rw [h.beg, Mx.len_row]
  refine rcd_ok (by omega) (by omega) (by omega) ?_ ?_
  · rw [h.fac]; exact rrow_in _ _
  · rw [h.beg]; exact rrow_in _ _

end Go.Proofs.Ytldkamhknaflbaa
