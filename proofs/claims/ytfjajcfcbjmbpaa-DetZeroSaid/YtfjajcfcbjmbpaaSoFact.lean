/- The closed fact of package solve, outright; what its functions say of whatever comes in. -/
import Derived.Test.YtfjajcfcbjmbpaaSoC4
import Derived.Test.YtfjajcfcbjmbpaaSoC5
import Derived.Test.YtfjajcfcbjmbpaaMtSh
import Derived.Test.YtfjajcfcbjmbpaaSame
namespace Go.Proofs.Ytfjajcfcbjmbpaa
open Go.ChangeShapes Go.WideShapes Go.ChangeAt Go.RowKit
set_option linter.unusedVariables false

/-- One row of two, and its head, just laid down. -/
theorem lit12_lies (w : World) (g : Nat) (a b : Int) (h : g = w.heap.size) : LiesM ((w.alloc (.cells #[.int .i64 a, .int .i64 b] 3)).alloc (.cells #[.slice (some ⟨g, 0, none⟩) 2 2] 35)) (some ⟨g + 1, 0, none⟩) [[a, b]] := by
  subst h
  have h0 : Lies (w.alloc (.cells #[.int .i64 a, .int .i64 b] 3)) (some ⟨w.heap.size, 0, none⟩) [a, b] := lies_new' w _ [a, b] _ rfl
  have k1 := (Kp.rfl' (w.alloc (.cells #[.int .i64 a, .int .i64 b] 3))).new (.cells #[.slice (some ⟨w.heap.size, 0, none⟩) 2 2] 35)
  intro k hk
  have e : k = 0 := by simp at hk; omega
  subst e
  exact ⟨_, some ⟨w.heap.size, 0, none⟩, 2, rfl, by simp, by rw [add_at, cell_just _ _ _ _ _ (by simp)]; rfl, by simp, h0.keep k1⟩
theorem modest12 (a b : Int) : Modest [[a, b]] := ⟨by simp, fun k hk => by
  have e : k = 0 := by simpa using hk
  subst e
  simp⟩

def fo : Nat → Nat → Fp.F := f22 1 1 0 2
def t34 : Nat → Fp.F := fun j => if j = 0 then 3 else 4
theorem fo_mat : Mx.tab 2 2 (n22 1 1 0 2) = Mx.matl 2 2 fo := by decide +kernel
theorem t34_row : rowF 2 t34 = [3, 4] := by decide +kernel
theorem fo_ans {b : List Nat} {x : Nat → Fp.F} (h : Mx.Ans 2 2 fo t34 b x) : rowF 2 x = [1, 2] := by
  have h1 : (0 + 0 * x 0) + 2 * x 1 = 4 := h.sol 1 (by decide)
  have h0 : (0 + 1 * x 0) + 1 * x 1 = 3 := h.sol 0 (by decide)
  have e1 : x 1 = 2 := by
    have h2 : (x 1 - 2) * 2 = 0 := by grind
    rcases Fp.mul_zero_or h2 with e | e
    · grind
    · exact absurd e (by decide)
  have e0 : x 0 = 1 := by rw [e1] at h0; grind
  show [(((x 0).val : Nat) : Int), (((x 1).val : Nat) : Int)] = [1, 2]
  rw [e0, e1]; rfl
theorem fo_some (h : Mx.NoAns 2 2 fo t34) : False := h ⟨fun j => if j = 0 then 1 else 2, fun i hi => by
  have : i = 0 ∨ i = 1 := by omega
  rcases this with rfl | rfl <;> decide⟩
def fn : Nat → Nat → Fp.F := fun _ j => if j = 0 then 1 else 2
theorem fn_mat : [[1, 2]] = Mx.matl 1 2 fn := by decide +kernel
theorem fn_inv : Fp.inv (fn 0 0) = 1 := (inv_unique (by decide) (by decide)).symm
theorem fn_stair : Stair 1 2 2 fn [0] (Mx.nxt 0 0 0 fn) := by
  have h1 := (Stair.start 1 2 fn).next (a := 0) (by decide) (by decide) (by decide)
  exact h1.skip fun i h1 h2 => absurd h2 (by simp at h1; omega)
theorem fn_null {g : Nat → Nat → Fp.F} (h : Mx.Eqm 1 2 g (Mx.nxt 0 0 0 fn)) : Mx.matl 1 2 (Mx.nm [0] g 2) = [[9971, 1]] := by
  have e : g 0 1 = 2 := by
    rw [h 0 1 (by decide) (by decide)]
    unfold Mx.nxt
    rw [if_pos rfl, fn_inv]; decide
  have h2 : Mx.matl 1 2 (Mx.nm [0] g 2) = Mx.matl 1 2 (fun _ j => if j = 0 then -2 else 1) := Mx.matl_ext fun i j hi hj => by
    obtain rfl : i = 0 := by omega
    have : j = 0 ∨ j = 1 := by omega
    rcases this with rfl | rfl
    · show -(g 0 1) = if 0 = 0 then -2 else 1
      rw [e, if_pos rfl]
    · show (1 : Fp.F) = if 1 = 0 then -2 else 1
      rw [if_neg (by decide)]
  rw [h2]; decide +kernel


theorem Null_or (A : Option Addr) (m : List (List Int)) (n d : Nat) (hn : m.length = n) :
    (∃ r c f, Sh r c f m) ∨ ∀ (w : World), LiesM w A m → Calls Try.prog 17 #[.slice A n d] w fun e w' => ∃ z : Nat, e = .returned (.tuple #[.slice none 0 0, .iface 50 (.int .i64 (z : Int))]) ∧ Kp w w' := by
  rcases sh_or m with ⟨_, h⟩ | h
  · exact .inl h
  · exact .inr fun w ha => ((Null_bad A m n d w ha hn h).mono fun e w' h' => ⟨Mx.mcode 5 0 9972 m, by rw [h'.1, errOf_ne _ h], h'.2⟩)
theorem Null_sh {A : Option Addr} {m : List (List Int)} {r c : Nat} {f : Nat → Nat → Fp.F} (s : Sh r c f m) (d : Nat) (w : World) (ha : LiesM w A m) :
    Calls Try.prog 17 #[.slice A r d] w fun e w' => GotNull r c f w e w' := by
  rw [s.eq] at ha
  exact Null_ok A f r c d w ha s.r0 s.r5 s.c0 s.c5
/-- A list of numbers of the field is a row of them. -/
theorem row_of {l : List Int} (h : ∀ k, k < l.length → 0 ≤ l.getD k 0 ∧ l.getD k 0 ≤ 9972) : ∃ t : Nat → Fp.F, l = rowF l.length t := by
  refine ⟨fun j => Fp.ofInt (l.getD j 0), ?_⟩
  refine (Mx.is_row l).trans (Mx.row_ext fun k hk => ?_)
  show l.getD k 0 = ((Fp.ofInt (l.getD k 0)).val : Int)
  rw [Fp.ofInt_val]
  have := h k hk
  omega
theorem rowF_in (q : Nat) (t : Nat → Fp.F) : AllIn (rowF q t) 0 9972 := fun k hk => by
  rw [Mx.len_row] at hk
  rw [Mx.row_at _ _ _ hk]
  exact gval (t k)
end Go.Proofs.Ytfjajcfcbjmbpaa
