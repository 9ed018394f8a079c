/- Plain facts on the document's chain: its rows' values fit; its last row; how large what is left of a division is. No program is named here. -/
import Derived.Test.YtbdpcpodmmhjaaaDoorStV
import Derived.Test.YtbdpcpodmmhjaaaDoorStN
namespace Go.Proofs.YtbdpcpodmmhjaaaDoor.Stu
set_option linter.unusedVariables false

theorem Sz.less {g : List Int} {k : Int} (hk : 0 < k) (h : Sz (g.map (· * k))) : Sz g := by
  obtain ⟨h4, B, hB, hb, hS⟩ := h
  rw [List.length_map] at h4 hS
  refine ⟨h4, B, hB, fun x hx => ?_, hS⟩
  have := hb (x * k) (List.mem_map.2 ⟨x, hx, rfl⟩)
  rcases Int.le_total 0 x with h | h
  · have := Int.mul_le_mul_of_nonneg_left (show 1 ≤ k by omega) h
    omega
  · have := Int.mul_le_mul_of_nonneg_left (show 1 ≤ k by omega) (show 0 ≤ -x by omega)
    have e : -x * k = -(x * k) := Int.neg_mul ..
    omega
theorem Al.sz {P C : List (List Int)} (a : Al P C) (h : ∀ g ∈ P, Sz g) : ∀ g ∈ C, Sz g := by
  induction a with
  | nil => exact fun _ hg => absurd hg (by simp)
  | @cons g k P C hk t ih =>
    intro g' hg'
    rcases List.mem_cons.1 hg' with rfl | hm
    · exact Sz.less hk (h _ (by simp))
    · exact ih (fun g'' h'' => h g'' (List.mem_cons_of_mem _ h'')) g' hm
theorem pch_sz3 {f : List Int} (h2 : 2 ≤ f.length) (h3 : f.length ≤ 3) (t : Tp f) (hB : Bn 56000 f) : ∀ g ∈ pch f, Sz g := by
  obtain ⟨ts, ns⟩ := slp_tp h2 t
  have ls := slp_len f
  have bs := slp_bn (show (0 : Int) ≤ 56000 by omega) hB (by omega)
  have p : ∀ n : Nat, n ≤ 3 → (200 : Int) ^ n ≤ 8000000 := fun n hn => by
    rcases show n = 0 ∨ n = 1 ∨ n = 2 ∨ n = 3 by omega with rfl | rfl | rfl | rfl <;> decide
  have a : Sz f := sz_of (by omega) hB (by omega) (by have := p f.length h3; omega)
  have b : Sz (slp f) := sz_of (by omega) bs (by omega) (by have := p (slp f).length (by omega); omega)
  have c : Goo f (slp f) := by
    rcases show f.length = 2 ∨ f.length = 3 by omega with h | h
    · exact .one (by omega)
    · exact goo_three (X := 56000) (Y := 168000) (by omega) (by omega) (by omega) hB bs h (by omega) ts (by omega)
  unfold pch
  rw [if_neg ns]
  intro g hg
  rcases List.mem_cons.1 hg with rfl | hg
  · exact a
  · rcases List.mem_cons.1 hg with rfl | hg
    · exact b
    · exact goo_sz c ts ns 8 g hg
theorem chain_sz {f : List Int} (h0 : f ≠ []) (h4 : f.length ≤ 4) (t : Tp f) (hB : Bn 20 f) : ∀ g ∈ chain f, Sz g := by
  have l1 := List.length_pos_iff.2 h0
  have a := (pch_al h0 t).sz (pch_sz h0 h4 t hB)
  unfold chain
  by_cases hl : (lst (rst f)).length < 2
  · rw [if_pos hl]; exact a
  · rw [if_neg hl]
    by_cases h1 : f.length = 1
    · exfalso
      obtain ⟨x, rfl⟩ : ∃ x, f = [x] := by
        match f, h1 with
        | [x], _ => exact ⟨x, rfl⟩
      have e : rst [x] = [pl [x]] := by unfold rst; rw [if_pos (by rfl)]
      rw [e] at hl
      have : (lst [pl [x]]).length = (pl [x]).length := rfl
      rw [this, pl_len] at hl
      have := (tm_facts [x]).2.1
      simp at this; omega
    · have g := (chain_fits hB (by omega) h4 t).2 hl
      have hq : dq (pl f) (lst (rst f)) ≠ [] := fun e => by have := g.lo; rw [e] at this; simp at this
      exact (pch_al hq g.tq).sz (pch_sz3 g.lo g.hi g.tq g.bn)
theorem chain_len4 {f : List Int} (h0 : f ≠ []) (h4 : f.length ≤ 4) (t : Tp f) : (chain f).length ≤ 4 ∧ ∀ g ∈ chain f, g ≠ [] ∧ Tp g := by
  have l1 := List.length_pos_iff.2 h0
  by_cases h1 : f.length = 1
  · obtain ⟨_, _, e⟩ := sturm_one h1 t
    rw [e]
    refine ⟨by simp, fun g hg => ?_⟩
    rw [List.mem_singleton.1 hg]
    have ht : tm f ≠ [] := by rw [tm_tp t]; exact h0
    exact ⟨fun e => ht (pl_nil.1 e), (pl_val f ht).2.1⟩
  · obtain ⟨g1, g2, _⟩ := chain_good (show 2 ≤ f.length by omega) h4 t
    exact ⟨by omega, g1⟩
theorem lst_at (l : List (List Int)) (h : l ≠ []) : lst l = l.getD (l.length - 1) [] := by
  unfold lst
  rw [List.getLast?_eq_getElem?, List.getD_eq_getElem?_getD]
theorem dr_bd {a b : List Int} {X Y : Int} (hX : 0 ≤ X) (hY : 1 ≤ Y) (ba : Bn X a) (bb : Bn Y b) (h0 : 0 < b.length) (fit : X * (2 * Y) ^ (a.length + 1 - b.length) ≤ 4000000000000000000) : Bn 4000000000000000000 (dr a b) := by
  rw [dr_nxs a b h0]
  exact (pl_bn (nxs_bn _ b a X Y hX hY ba bb)).le fit
theorem rst_len (f : List Int) : (rst f).length ≤ 10 ∧ rst f ≠ [] := by
  unfold rst
  have tlen : ∀ (n : Nat) (a b : List Int), (tl n a b).length ≤ n := fun n => by
    induction n with
    | zero => intro a b; exact Nat.le_refl _
    | succ n ih =>
      intro a b
      rw [tl]
      split
      · exact Nat.zero_le _
      · rw [List.length_cons]; have := ih b ((dr a b).map (- ·)); omega
  split
  · exact ⟨by simp, by simp⟩
  · have := tlen 8 (pl f) (pl (slp f))
    exact ⟨by rw [List.length_cons, List.length_cons]; omega, by simp⟩

end Go.Proofs.YtbdpcpodmmhjaaaDoor.Stu
