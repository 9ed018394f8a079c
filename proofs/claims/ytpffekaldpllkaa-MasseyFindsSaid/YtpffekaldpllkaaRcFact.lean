/- Package recur in the laws' words: what comes in is a recurrence, or every call fails; the closed fact. -/
import Derived.Test.YtpffekaldpllkaaRcC2
namespace Go.Proofs.Ytpffekaldpllkaa
open Go.ChangeShapes Go.WideShapes Go.ChangeAt Go.RowKit
set_option linter.unusedVariables false

/-- An error, and no row. -/
def NoRow (w : World) (e : Ending) (w' : World) : Prop := ∃ z : Nat, e = .returned (.tuple #[.slice none 0 0, .iface 46 (.int .i64 (z : Int))]) ∧ Kp w w'
def NoTerm (w : World) (e : Ending) (w' : World) : Prop := ∃ z : Nat, e = .returned (.tuple #[.int .i64 0, .iface 46 (.int .i64 (z : Int))]) ∧ Kp w w'
theorem Row_or (L S : List Int) (m : Int) :
    (∃ n f s N, Rc n f s L S ∧ m = ((N : Nat) : Int) ∧ N ≤ 1000) ∨
    ∀ (A B : Option Addr) (c d : Nat) (w : World), Lies w A L → Lies w B S → Calls Try.prog 7 #[.slice A L.length c, .slice B S.length d, .int .i64 m] w fun e w' => NoRow w e w' := by
  rcases rc_or L S with ⟨n, f, s, h⟩ | h
  · by_cases hm : 0 ≤ m ∧ m ≤ 1000
    · exact .inl ⟨n, f, s, m.toNat, h, by omega, by omega⟩
    · refine .inr fun A B c d w ha hb => ?_
      rw [h.fac] at ha ⊢
      rw [h.beg] at hb ⊢
      rw [Mx.len_row, Mx.len_row]
      exact (Row_range A B n c d f s m w ha hb h.pos h.le hm).mono fun e w' h' => ⟨1, by rw [h'.1]; rfl, h'.2⟩
  · exact .inr fun A B c d w ha hb => (Row_bad A B L S c d m w ha hb h).mono fun e w' h' => ⟨rcd L S, by rw [h'.1, errOf_ne _ h], h'.2⟩
theorem Row_rc {n : Nat} {f s : Nat → Fp.F} {L S : List Int} (h : Rc n f s L S) (A B : Option Addr) (c d N : Nat) (w : World) (ha : Lies w A L) (hb : Lies w B S) (hN : N ≤ 1000) :
    Calls Try.prog 7 #[.slice A n c, .slice B n d, .int .i64 (N : Int)] w fun e w' => ∃ g, e = .returned (.tuple #[.slice (some ⟨g, 0, none⟩) N N, .nilIface]) ∧ Row w' g (rowF N (Mx.sq n f s)) ∧ w.heap.size ≤ g ∧ Kp w w' := by
  rw [h.fac] at ha
  rw [h.beg] at hb
  have h2 := Row_ok A B n c d N f s w ha hb h.pos h.le hN
  unfold GivesR at h2
  rw [Mx.len_row] at h2
  exact h2
theorem Rc.fl {n : Nat} {f s : Nat → Fp.F} {L S : List Int} (h : Rc n f s L S) : L.length = n := by rw [h.fac, Mx.len_row]
theorem Rc.sl {n : Nat} {f s : Nat → Fp.F} {L S : List Int} (h : Rc n f s L S) : S.length = n := by rw [h.beg, Mx.len_row]


def ones2 : Nat → Fp.F := fun _ => 1
def nought1 : Nat → Fp.F := fun i => if i = 0 then 0 else 1
theorem rc_fib : Rc 2 ones2 nought1 [1, 1] [0, 1] := ⟨by decide +kernel, by decide +kernel, by decide, by decide⟩
theorem sq_two {c s : Nat → Fp.F} (i : Nat) : Mx.sq 2 c s (i + 2) = c 0 * Mx.sq 2 c s (i + 1) + c 1 * Mx.sq 2 c s i := by
  rw [Mx.sq_goes 2 c s (by decide) (i + 2) (by omega), Mx.sg_succ, Mx.sg_succ, Mx.sg_zero, show i + 2 - 1 - 0 = i + 1 by omega, show i + 2 - 1 - 1 = i by omega]
  grind
/-- The pair at place i, from any beginning. -/
def pairAt (a b : Int) : Nat → Int × Int
  | 0 => (a, b)
  | i + 1 => ((pairAt a b i).2, ((pairAt a b i).1 + (pairAt a b i).2) % 9973)
theorem pair_sq {s : Nat → Fp.F} {a b : Int} (h0 : ((s 0).val : Int) = a) (h1 : ((s 1).val : Int) = b) : ∀ i, pairAt a b i = (((Mx.sq 2 ones2 s i).val : Int), ((Mx.sq 2 ones2 s (i + 1)).val : Int))
  | 0 => by rw [Mx.sq_start 2 ones2 s (by decide), Mx.sq_start 2 ones2 s (by decide), h0, h1]; rfl
  | i + 1 => by
    show ((pairAt a b i).2, ((pairAt a b i).1 + (pairAt a b i).2) % 9973) = _
    rw [pair_sq h0 h1 i, sq_two]
    simp only [ones2]
    rw [show (1 : Fp.F) * Mx.sq 2 ones2 s (i + 1) + 1 * Mx.sq 2 ones2 s i = Mx.sq 2 ones2 s i + Mx.sq 2 ones2 s (i + 1) by grind, Fp.add_val]
theorem fib_row (s : Nat → Fp.F) {a b : Int} (h0 : ((s 0).val : Int) = a) (h1 : ((s 1).val : Int) = b) (N : Nat) : rowF N (Mx.sq 2 ones2 s) = Mx.row N fun i => (pairAt a b i).1 := Mx.row_ext fun k _ => by rw [pair_sq h0 h1 k]
theorem fib_val (s : Nat → Fp.F) {a b : Int} (h0 : ((s 0).val : Int) = a) (h1 : ((s 1).val : Int) = b) (i : Nat) : ((Mx.sq 2 ones2 s i).val : Int) = (pairAt a b i).1 := by rw [pair_sq h0 h1 i]
theorem fib8 : rowF 8 (Mx.sq 2 ones2 nought1) = [0, 1, 1, 2, 3, 5, 8, 13] := by rw [fib_row nought1 (a := 0) (b := 1) rfl rfl]; decide +kernel
theorem fib20 : ((Mx.sq 2 ones2 nought1 20).val : Int) = 6765 := by rw [fib_val nought1 (a := 0) (b := 1) rfl rfl]; decide +kernel


end Go.Proofs.Ytpffekaldpllkaa
