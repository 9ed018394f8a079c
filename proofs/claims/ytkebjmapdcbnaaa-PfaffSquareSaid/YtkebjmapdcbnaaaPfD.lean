/- Plain facts on the document's Pfaffian: the sum over all ways to part rows into pairs is the one by the first row, of up to six rows. No program is named here. (Made by tools/gen_PfD.py.) -/
import Derived.Test.YtkebjmapdcbnaaaPf
namespace Go.Proofs.Ytkebjmapdcbnaaa.Zx
set_option linter.unusedVariables false

/-- The first number from k on that is not in a list. -/
def frs (o : List Nat) : Nat → Nat → Nat
  | 0, k => k
  | u + 1, k => if o.contains k then frs o u (k + 1) else k
/-- The sign of an order by its inversions. -/
def osg (o : List Nat) : Int := (List.range o.length).foldl (fun s i => (List.range i).foldl (fun s k => if o.getD k 0 > o.getD i 0 then -s else s) s) 1
/-- The product over the pairs of an order. -/
def lead (f : Nat → Nat → Int) : Int → List Nat → Int
  | s, a :: b :: t => lead f (s * f a b) t
  | s, _ => s
/-- A sum over those that count. -/
def psm (c : Nat → Bool) (g : Nat → Int) : Nat → Int
  | 0 => 0
  | t + 1 => if c t then psm c g t + g t else psm c g t
/-- The sum over all ways to part into pairs what is not in the order yet. -/
def pfo (n : Nat) (f : Nat → Nat → Int) : Nat → List Nat → Int
  | 0, o => lead f (osg o) o
  | u + 1, o => if o.length = n then lead f (osg o) o else psm (fun j => decide (frs o n 0 < j) && !(o.contains j)) (fun j => pfo n f u (o ++ [frs o n 0, j])) n
theorem pfo_1 (f : Nat → Nat → Int) : pfo 1 f 1 [] = pf 1 f := by
  have e : pfo 1 f 1 [] = (0 : Int) := rfl
  rw [e, pf_odd 1 f rfl]
theorem pfo_2 (f : Nat → Nat → Int) : pfo 2 f 2 [] = pf 2 f := by
  have e : pfo 2 f 2 [] = ((0 : Int) + ((1 : Int) * f 0 1)) := rfl
  rw [e, pf_two]; unfold P2; grind
theorem pfo_3 (f : Nat → Nat → Int) : pfo 3 f 2 [] = pf 3 f := by
  have e : pfo 3 f 2 [] = (((0 : Int) + (0 : Int)) + (0 : Int)) := rfl
  rw [e, pf_odd 3 f rfl]; grind
theorem pfo_4 (f : Nat → Nat → Int) : pfo 4 f 3 [] = pf 4 f := by
  have e : pfo 4 f 3 [] = ((((0 : Int) + ((0 : Int) + (((1 : Int) * f 0 1) * f 2 3))) + ((0 : Int) + (((-1 : Int) * f 0 2) * f 1 3))) + ((0 : Int) + (((1 : Int) * f 0 3) * f 1 2))) := rfl
  rw [e, pf_four]; unfold P4; grind
theorem pfo_5 (f : Nat → Nat → Int) : pfo 5 f 3 [] = pf 5 f := by
  have e : pfo 5 f 3 [] = (((((0 : Int) + (((0 : Int) + (0 : Int)) + (0 : Int))) + (((0 : Int) + (0 : Int)) + (0 : Int))) + (((0 : Int) + (0 : Int)) + (0 : Int))) + (((0 : Int) + (0 : Int)) + (0 : Int))) := rfl
  rw [e, pf_odd 5 f rfl]; grind
theorem pfo_6 (f : Nat → Nat → Int) : pfo 6 f 4 [] = pf 6 f := by
  have e : pfo 6 f 4 [] = ((((((0 : Int) + ((((0 : Int) + ((0 : Int) + ((((1 : Int) * f 0 1) * f 2 3) * f 4 5))) + ((0 : Int) + ((((-1 : Int) * f 0 1) * f 2 4) * f 3 5))) + ((0 : Int) + ((((1 : Int) * f 0 1) * f 2 5) * f 3 4)))) + ((((0 : Int) + ((0 : Int) + ((((-1 : Int) * f 0 2) * f 1 3) * f 4 5))) + ((0 : Int) + ((((1 : Int) * f 0 2) * f 1 4) * f 3 5))) + ((0 : Int) + ((((-1 : Int) * f 0 2) * f 1 5) * f 3 4)))) + ((((0 : Int) + ((0 : Int) + ((((1 : Int) * f 0 3) * f 1 2) * f 4 5))) + ((0 : Int) + ((((-1 : Int) * f 0 3) * f 1 4) * f 2 5))) + ((0 : Int) + ((((1 : Int) * f 0 3) * f 1 5) * f 2 4)))) + ((((0 : Int) + ((0 : Int) + ((((-1 : Int) * f 0 4) * f 1 2) * f 3 5))) + ((0 : Int) + ((((1 : Int) * f 0 4) * f 1 3) * f 2 5))) + ((0 : Int) + ((((-1 : Int) * f 0 4) * f 1 5) * f 2 3)))) + ((((0 : Int) + ((0 : Int) + ((((1 : Int) * f 0 5) * f 1 2) * f 3 4))) + ((0 : Int) + ((((-1 : Int) * f 0 5) * f 1 3) * f 2 4))) + ((0 : Int) + ((((1 : Int) * f 0 5) * f 1 4) * f 2 3)))) := rfl
  rw [e, pf_six]; unfold P6; grind
theorem pfo_pf {n : Nat} (h1 : 1 ≤ n) (h6 : n ≤ 6) (f : Nat → Nat → Int) : pfo n f (n / 2 + 1) [] = pf n f := by
  have : n = 1 ∨ n = 2 ∨ n = 3 ∨ n = 4 ∨ n = 5 ∨ n = 6 := by omega
  rcases this with rfl | rfl | rfl | rfl | rfl | rfl
  · exact pfo_1 f
  · exact pfo_2 f
  · exact pfo_3 f
  · exact pfo_4 f
  · exact pfo_5 f
  · exact pfo_6 f
end Go.Proofs.Ytkebjmapdcbnaaa.Zx
