/- Contracts of package poly, third part: divide. -/
import Derived.Test.YteaonlmiifpjfaaDoorPolC2
namespace Go.Proofs.YteaonlmiifpjfaaDoor
open Go.ChangeShapes Go.WideShapes Go.ChangeAt Go.RowKit
set_option linter.unusedVariables false

/-- The answer is two rows of factors, and no error. -/
def GivesTwo (q r : List Fp.F) (w : World) (e : Ending) (w' : World) : Prop :=
  ∃ A c B d, e = .returned (.tuple #[.slice A q.length c, .slice B r.length d, .nilIface]) ∧ Lies w' A (Pol.vals q) ∧ q.length ≤ c ∧ Lies w' B (Pol.vals r) ∧ r.length ≤ d ∧ Kp w w'

theorem msub_bound (t c : Fp.F) : 0 ≤ (9973 - (t.val : Int)) * (c.val : Int) ∧ (9973 - (t.val : Int)) * (c.val : Int) ≤ 99450756 := by
  have h1 := Fp.val_bound t
  have h2 := Fp.val_bound c
  have := Int.mul_le_mul (show 9973 - (t.val : Int) ≤ 9973 by omega) h2.2 h2.1 (by omega)
  exact ⟨Int.mul_nonneg (by omega) h2.1, by omega⟩

/-- What dividing keeps: so many places of the quotient are still to come. -/
structure Left (p g R Q : List Fp.F) (j : Nat) : Prop where
  lr : R.length = p.length
  lq : Q.length = p.length - (g.length - 1)
  eq : ∀ x, Pol.ev p x = Pol.ev g x * Pol.ev Q x + Pol.ev R x
  zr : ∀ k, j + (g.length - 1) ≤ k → Pol.co R k = 0
  zq : ∀ k, k < j → Pol.co Q k = 0

theorem co_zeros (n k : Nat) : Pol.co (List.replicate n 0) k = 0 := by
  unfold Pol.co
  rw [List.getD_eq_getElem?_getD, List.getElem?_replicate]
  split <;> rfl

theorem left_start (p g : List Fp.F) : Left p g p (List.replicate (p.length - (g.length - 1)) 0) (p.length - (g.length - 1)) :=
  ⟨rfl, List.length_replicate .., fun x => by rw [Pol.ev_zeros]; grind, fun k hk => Pol.co_out _ _ (by omega), fun k _ => co_zeros _ k⟩

theorem left_step (p g R Q : List Fp.F) (j : Nat) (hg : Pol.Tr g) (g0 : g ≠ []) (hj : j + 1 ≤ p.length - (g.length - 1)) (h : Left p g R Q (j + 1)) (t : Fp.F) (ht : t = Pol.co R (j + (g.length - 1)) * Fp.inv (Pol.top g)) :
    Left p g (Pol.addAt R (-t) g j g.length) (Q.set j t) j := by
  have l := List.length_pos_iff.2 g0
  have lr := h.lr
  have lq := h.lq
  have tg := Pol.top_ne hg g0
  refine ⟨by rw [Pol.len_addAt, lr], by rw [List.length_set, lq], fun x => ?_, fun k hk => ?_, fun k hk => ?_⟩
  · rw [Pol.ev_set _ _ _ _ (by omega), Pol.ev_addAt _ _ _ _ _ (by omega), List.take_length, h.zq j (by omega), h.eq]; grind
  · by_cases e : k = j + (g.length - 1)
    · have e1 := Pol.co_addAt_top R (-t) g j (g.length - 1) (by omega)
      rw [Nat.sub_add_cancel (by omega)] at e1
      rw [e, e1, ht]
      exact Pol.cancel _ _ _ (Fp.inv_mul tg)
    · rw [Pol.co_addAt_far _ _ _ _ _ _ (by omega) (by omega)]
      exact h.zr k (by omega)
  · rw [Pol.co_set _ _ _ _ (by omega), if_neg (by omega)]
    exact h.zq k (by omega)

theorem left_end (p g R Q : List Fp.F) (hp : Pol.Tr p) (hg : Pol.Tr g) (g0 : g ≠ []) (lp : p.length ≤ 1000) (lg : g.length ≤ 1000) (h : Left p g R Q 0) : Pol.Dv p g Q (Pol.trim R) := by
  have l := List.length_pos_iff.2 g0
  refine Pol.Dv.full hp hg lp lg g0 h.lq ?_ h.eq
  have := Pol.trim_short R (g.length - 1) fun k hk => h.zr k (by omega)
  omega

end Go.Proofs.YteaonlmiifpjfaaDoor
