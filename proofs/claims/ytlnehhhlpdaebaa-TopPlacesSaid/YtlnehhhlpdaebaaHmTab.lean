/- A matrix with a determinant, given as a rule: what hermite says of it. -/
import Derived.Test.YtlnehhhlpdaebaaHmC5
namespace Go.Proofs.Ytlnehhhlpdaebaa
open Go.ChangeShapes Go.WideShapes Go.ChangeAt Go.RowKit
set_option linter.unusedVariables false

/-- A matrix with a determinant, given as a rule: good, or with too large numbers. -/
theorem hm_tab {n : Nat} (y : Nat → Nat → Int) (h0 : 0 < n) (h3 : n ≤ 3) (hd : Zx.dt n y ≠ 0) : Hm n y (Mx.tab n n y) ∨ hcd (Mx.tab n n y) = 1 := by
  rcases shh_or (Mx.tab n n y) (Mx.len_tab n n y) with ⟨x', s⟩ | h
  · left
    refine ⟨⟨rfl, h0, h3, fun i j hi hj => ?_⟩, hd⟩
    have e := tab_eq.1 s.eq i j hi hj
    rw [e]; exact s.ab i j hi hj
  · right
    have e0 : ((Mx.tab n n y).getD 0 []).length = n := Mx.tab_len n n y 0 h0
    have hm : Mx.mcode 3 (-20) 20 (Mx.tab n n y) = Mx.rows (-20) 20 n (Mx.tab n n y) := by
      unfold Mx.mcode
      rw [Mx.len_tab, e0, if_neg (by omega), if_neg (by omega)]
    have hq : qcode 3 (-20) 20 (Mx.tab n n y) = Mx.rows (-20) 20 n (Mx.tab n n y) := by
      unfold qcode
      rw [Mx.len_tab, e0, if_neg (fun h => h.2 rfl), hm]
    have hc : hcd (Mx.tab n n y) = Mx.rows (-20) 20 n (Mx.tab n n y) := by
      unfold hcd; rw [if_pos h, hq]
    rw [hq] at h
    have key : ∀ m : List (List Int), (∀ k, k < m.length → (m.getD k []).length = n) → Mx.rows (-20) 20 n m ≠ 3 := by
      intro m
      induction m with
      | nil => intro _ h; cases h
      | cons l t ih =>
        intro hl h
        have h1 := hl 0 (by simp)
        have h1' : l.length = n := h1
        unfold Mx.rows at h
        split at h
        · exact ih (fun k hk => hl (k + 1) (by simpa using hk)) h
        · unfold Mx.rcode at h
          rw [if_neg (fun e => e h1')] at h
          split at h <;> cases h
    rw [hc]
    rcases Mx.rows_some (-20) 20 n (Mx.tab n n y) with e | e | e
    · exact absurd e h
    · exact e
    · exact absurd e (key _ fun k hk => by rw [Mx.len_tab] at hk; exact Mx.tab_len n n y k hk)

end Go.Proofs.Ytlnehhhlpdaebaa
