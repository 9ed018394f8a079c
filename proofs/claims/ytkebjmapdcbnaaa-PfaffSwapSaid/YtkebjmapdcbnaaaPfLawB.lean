/- How large a Pfaffian gets. -/
import Derived.Test.YtkebjmapdcbnaaaPfC1
import Derived.Test.YtkebjmapdcbnaaaPfM
namespace Go.Proofs.Ytkebjmapdcbnaaa
set_option linter.unusedVariables false

theorem osum_bound {F : List Nat → Int} {B : Nat} : ∀ (l : List (List Nat)), (∀ o, o ∈ l → (F o).natAbs ≤ B) → (Zx.osum F l).natAbs ≤ l.length * B
  | [], _ => Nat.zero_le _
  | o :: t, h => by
    have h1 := h o (List.mem_cons_self ..)
    have h2 := osum_bound t fun x hx => h x (List.mem_cons_of_mem _ hx)
    show (F o + Zx.osum F t).natAbs ≤ (t.length + 1) * B
    rw [Nat.add_mul, Nat.one_mul]
    omega
theorem Pz.bound {n : Nat} {f : Nat → Nat → Int} {m : List (List Int)} (s : Pz n f m) : (Zx.pf n f).natAbs ≤ 10935 := by
  rw [← Zx.prs_pf s.n0 s.n6 f]
  have h1 := osum_bound (F := Zx.oval f) (B := 729) (Zx.prs n (List.range n)) fun o ho => Zx.oval_bound s.n6 s.ab (Zx.prs_good n s.n0 s.n6 o ho)
  have h2 := Zx.prs_few n s.n0 s.n6
  omega
end Go.Proofs.Ytkebjmapdcbnaaa
