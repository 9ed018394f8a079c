/- Plain facts on the fewest factors of a row: what is wrong with a row as a number, where Berlekamp's and Massey's steps are behind the first numbers, the mended factors as rows. No program is named here. -/
import Derived.Test.YtpffekaldpllkaaDoorMatY
import Derived.Test.YtpffekaldpllkaaDoorRcM
namespace Go.Proofs.YtpffekaldpllkaaDoor
open Fp
set_option linter.unusedVariables false

namespace Mx
theorem mend_none (l : Nat) (c b : Nat → F) (a : F) (s lb k : Nat) (h : lb = 0) : mend l lb c b a s k = (if k < l then c k else 0) + (if k + 1 = s then a else 0) := by
  unfold mend
  rw [if_neg (c := s ≤ k ∧ k < s + lb) (by omega)]; grind
theorem mend_other (l : Nat) (c b : Nat → F) (a : F) (s j k : Nat) (h : k ≠ s + j) : mend l (j + 1) c b a s k = mend l j c b a s k := by
  unfold mend
  by_cases e : s ≤ k ∧ k < s + j
  · rw [if_pos e, if_pos (c := s ≤ k ∧ k < s + (j + 1)) (by omega)]
  · rw [if_neg e, if_neg (c := s ≤ k ∧ k < s + (j + 1)) (by omega)]
theorem mend_here (l : Nat) (c b : Nat → F) (a : F) (s j : Nat) : mend l (j + 1) c b a s (s + j) = mend l j c b a s (s + j) - a * b j := by
  unfold mend
  rw [if_neg (c := s ≤ s + j ∧ s + j < s + j) (by omega), if_pos (c := s ≤ s + j ∧ s + j < s + (j + 1)) (by omega), Nat.add_sub_cancel_left]; grind

/-- Where the program is behind the first i numbers of x: l factors c; the last failure that made them more was at m, by lb factors b, which missed d. -/
structure Ber (x : Nat → F) (i l : Nat) (c : Nat → F) (m : Int) (lb : Nat) (b : Nat → F) (d : F) : Prop where
  few : Few i l x
  gn : Gn i l c x
  was : (l = 0 ∧ m = -1 ∧ lb = 0 ∧ d = 1) ∨ (∃ M : Nat, m = (M : Int) ∧ M < i ∧ lb ≤ M ∧ Gn M lb b x ∧ dsc lb b x M = d ∧ d ≠ 0 ∧ l + lb = M + 1)
theorem Ber.start (x c b : Nat → F) : Ber x 0 0 c (-1) 0 b 1 :=
  ⟨⟨⟨c, Gn.far c x (Nat.le_refl 0)⟩, fun m hm => absurd hm (by omega)⟩, Gn.far c x (Nat.le_refl 0), .inl ⟨rfl, rfl, rfl, rfl⟩⟩
theorem Ber.ne {x : Nat → F} {i l : Nat} {c : Nat → F} {m : Int} {lb : Nat} {b : Nat → F} {d : F} (h : Ber x i l c m lb b d) : d ≠ 0 := by
  rcases h.was with ⟨_, _, _, e⟩ | ⟨_, _, _, _, _, _, e, _⟩
  · rw [e]; exact Fp.one_ne
  · exact e
theorem Ber.len {x : Nat → F} {i l : Nat} {c : Nat → F} {m : Int} {lb : Nat} {b : Nat → F} {d : F} (h : Ber x i l c m lb b d) : l ≤ i := h.few.top
theorem Ber.old {x : Nat → F} {i l : Nat} {c : Nat → F} {m : Int} {lb : Nat} {b : Nat → F} {d : F} (h : Ber x i l c m lb b d) : -1 ≤ m ∧ m < i ∧ lb ≤ i := by
  rcases h.was with ⟨_, e, e2, _⟩ | ⟨M, e, h1, h2, _⟩ <;> omega
theorem Ber.keep {x : Nat → F} {i l : Nat} {c : Nat → F} {m : Int} {lb : Nat} {b : Nat → F} {d : F} (h : Ber x i l c m lb b d) (h0 : dsc l c x i = 0) : Ber x (i + 1) l c m lb b d := by
  have hg : Gn (i + 1) l c x := h.gn.next fun _ => dsc_not h0
  refine ⟨⟨⟨c, hg⟩, fun k hk ⟨e, he⟩ => h.few.2 k hk ⟨e, he.less (Nat.le_succ i)⟩⟩, hg, ?_⟩
  rcases h.was with e | ⟨M, e1, e2, e3⟩
  · exact .inl e
  · exact .inr ⟨M, e1, by omega, e3⟩
/-- How many factors there are, mended. -/
theorem Ber.many {x : Nat → F} {i l : Nat} {c : Nat → F} {m : Int} {lb : Nat} {b : Nat → F} {d : F} (h : Ber x i l c m lb b d) {s : Nat} (hs : (s : Int) = (i : Int) - m) : 0 < s ∧ s + lb + l = i + 1 := by
  rcases h.was with ⟨e1, e2, e3, _⟩ | ⟨M, e1, e2, e3, _, _, _, e4⟩ <;> omega
theorem Ber.mended {x : Nat → F} {i l : Nat} {c : Nat → F} {m : Int} {lb : Nat} {b : Nat → F} {d : F} (h : Ber x i l c m lb b d) (h0 : dsc l c x i ≠ 0) {s : Nat} (hs : (s : Int) = (i : Int) - m) {a : F} (ha : a * d = dsc l c x i) {L : Nat} (hl : l ≤ L) (hL : s + lb ≤ L) (hmx : L = l ∨ L = s + lb) :
    Few (i + 1) L x ∧ Gn (i + 1) L (mend l lb c b a s) x := by
  have hg : Gn (i + 1) L (mend l lb c b a s) x := by
    rcases h.was with ⟨e1, e2, e3, _⟩ | ⟨M, e1, e2, e3, e4, e5, e6, e7⟩
    · exact Gn.far _ x (by omega)
    · obtain rfl : s = i - M := by omega
      exact gn_mend e2 h.gn e4 e3 (by rw [e5]; exact e6) (by rw [e5]; exact ha) hl hL
  refine ⟨⟨⟨_, hg⟩, fun k hk ⟨e, he⟩ => ?_⟩, hg⟩
  have h1 := gn_apart h.len h.gn (fun hh => h0 (dsc_zero hh)) he
  have h2 := h.few.le (he.less (Nat.le_succ i))
  have h3 := (h.many hs).2
  omega
theorem Ber.more {x : Nat → F} {i l : Nat} {c : Nat → F} {m : Int} {lb : Nat} {b : Nat → F} {d : F} (h : Ber x i l c m lb b d) {v : F} (hv : dsc l c x i = v) (h0 : v ≠ 0) {s : Nat} (hs : (s : Int) = (i : Int) - m) {a : F} (ha : a * d = v) {L : Nat} (hl : l < L) (hmx : L = s + lb) :
    Ber x (i + 1) L (mend l lb c b a s) (i : Int) l c v := by
  subst hv
  have h1 := h.mended h0 hs ha (Nat.le_of_lt hl) (Nat.le_of_eq hmx.symm) (.inr hmx)
  refine ⟨h1.1, h1.2, .inr ⟨i, rfl, Nat.lt_succ_self i, h.len, h.gn, rfl, h0, ?_⟩⟩
  have h3 := (h.many hs).2
  omega
theorem Ber.same {x : Nat → F} {i l : Nat} {c : Nat → F} {m : Int} {lb : Nat} {b : Nat → F} {d : F} (h : Ber x i l c m lb b d) {v : F} (hv : dsc l c x i = v) (h0 : v ≠ 0) {s : Nat} (hs : (s : Int) = (i : Int) - m) {a : F} (ha : a * d = v) (hl : s + lb ≤ l) :
    Ber x (i + 1) l (mend l lb c b a s) m lb b d := by
  subst hv
  have h1 := h.mended h0 hs ha (Nat.le_refl l) hl (.inl rfl)
  have h3 := (h.many hs).2
  refine ⟨h1.1, h1.2, ?_⟩
  rcases h.was with ⟨e1, e2, e3, _⟩ | ⟨M, e1, e2, e3⟩
  · omega
  · exact .inr ⟨M, e1, by omega, e3⟩

/-- A row that goes on from where another one begins, by the same factors, is the same. -/
theorem gn_equal {N n : Nat} {c x y : Nat → F} (hx : Gn N n c x) (hy : Gn N n c y) (h : ∀ j, j < n → x j = y j) : ∀ i, i < N → x i = y i := fun i => by
  induction i using Nat.strongRecOn with
  | _ i ih =>
    intro hi
    by_cases e : i < n
    · exact h i e
    · rw [hx i (by omega) hi, hy i (by omega) hi]
      exact sg_congr fun k hk => by rw [ih (i - 1 - k) (by omega) (by omega)]
/-- By no factors, the numbers are noughts. -/
theorem gn_none {N : Nat} {c x : Nat → F} (h : Gn N 0 c x) : ∀ i, i < N → x i = 0 := fun i hi => h i (Nat.zero_le _) hi
theorem sg_val_ofInt (a : F) : Fp.ofInt (a.val : Int) = a := Fp.ofInt_self a
end Mx

/-- What is wrong with a row, as a number. -/
noncomputable def scd (L : List Int) : Nat := open Classical in if 16 < L.length then 4 else if ¬ AllIn L 0 9972 then 1 else 0
theorem scd_full {L : List Int} (h : 16 < L.length) : scd L = 4 := by unfold scd; rw [if_pos h]
theorem scd_range {L : List Int} (h : ¬ 16 < L.length) (h2 : ¬ AllIn L 0 9972) : scd L = 1 := by unfold scd; rw [if_neg h, if_pos h2]
theorem scd_ok {L : List Int} (h : ¬ 16 < L.length) (h2 : AllIn L 0 9972) : scd L = 0 := by unfold scd; rw [if_neg h, if_neg fun e => e h2]
theorem scd_some (L : List Int) : scd L = 0 ∨ scd L = 1 ∨ scd L = 4 := by
  unfold scd; repeat' split
  all_goals simp
theorem scd_zero {L : List Int} (h : scd L = 0) : L.length ≤ 16 ∧ AllIn L 0 9972 := by
  by_cases h1 : 16 < L.length
  · rw [scd_full h1] at h; cases h
  · by_cases h2 : AllIn L 0 9972
    · exact ⟨by omega, h2⟩
    · rw [scd_range h1 h2] at h; cases h
/-- A row of at most sixteen numbers. -/
structure Sr (N : Nat) (x : Nat → Fp.F) (L : List Int) : Prop where
  row : L = rowF N x
  le : N ≤ 16
theorem Sr.code {N : Nat} {x : Nat → Fp.F} {L : List Int} (h : Sr N x L) : scd L = 0 := by
  have := h.le
  rw [h.row]
  exact scd_ok (by rw [Mx.len_row]; omega) (rrow_in _ _)
theorem Sr.len {N : Nat} {x : Nat → Fp.F} {L : List Int} (h : Sr N x L) : L.length = N := by rw [h.row, Mx.len_row]
theorem sr_of {L : List Int} (h : scd L = 0) : ∃ x, Sr L.length x L := by
  obtain ⟨h1, h2⟩ := scd_zero h
  obtain ⟨x, hx⟩ := rrow_of h2
  exact ⟨x, hx, h1⟩
theorem sr_or (L : List Int) : (∃ N x, Sr N x L) ∨ scd L ≠ 0 := by
  by_cases h : scd L = 0
  · obtain ⟨x, hx⟩ := sr_of h
    exact .inl ⟨_, x, hx⟩
  · exact .inr h

/-- A step of mending, in the row. -/
theorem mend_set {L l j s : Nat} (c b : Nat → Fp.F) (a : Fp.F) (h : s + j < L) {z : Int} (hz : z = ((Mx.mend l j c b a s (s + j) - a * b j : Fp.F).val : Int)) :
    (rowF L (Mx.mend l j c b a s)).set (s + j) z = rowF L (Mx.mend l (j + 1) c b a s) := by
  unfold rowF
  rw [Mx.row_set]
  refine Mx.row_ext fun k hk => ?_
  by_cases e : k = s + j
  · subst e; rw [if_pos rfl, Mx.mend_here, hz]
  · rw [if_neg e, Mx.mend_other _ _ _ _ _ _ _ e]
theorem mend_first {L l q s : Nat} (c b : Nat → Fp.F) (a : Fp.F) (hq : q + 1 = s) {z : Int} (hz : z = (((if q < l then c q else 0) + a : Fp.F).val : Int)) :
    (rowF L fun k => if k < l then c k else 0).set q z = rowF L (Mx.mend l 0 c b a s) := by
  unfold rowF
  rw [Mx.row_set]
  refine Mx.row_ext fun k hk => ?_
  rw [Mx.mend_none _ _ _ _ _ _ _ rfl]
  by_cases e : k = q
  · subst e; rw [if_pos rfl, if_pos hq, hz]
  · rw [if_neg e, if_neg (c := k + 1 = s) (by omega)]
    show _ = (((if k < l then c k else 0) + 0 : Fp.F).val : Int)
    rw [show ((if k < l then c k else 0) + 0 : Fp.F) = if k < l then c k else 0 by grind]
theorem row_beg {L l m : Nat} (c : Nat → Fp.F) (hl : l ≤ L) (hm : m = min L l) : (rowF l c).take m ++ List.replicate (L - m) 0 = rowF L fun k => if k < l then c k else 0 := by
  refine List.ext_getElem (by simp [rowF, Mx.row]; omega) fun j h1 h2 => ?_
  rw [Mx.len_row] at h2
  by_cases e : j < m
  · rw [List.getElem_append_left (by simp [rowF, Mx.row]; omega)]
    have : j < l := by omega
    simp [rowF, Mx.row, this]
  · rw [List.getElem_append_right (by simp [rowF, Mx.row]; omega)]
    have : ¬ j < l := by omega
    simp [rowF, Mx.row, this]

end Go.Proofs.YtpffekaldpllkaaDoor
