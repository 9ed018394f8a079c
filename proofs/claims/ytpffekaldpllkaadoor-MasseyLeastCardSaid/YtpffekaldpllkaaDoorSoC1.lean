/- Contracts of package solve, first part: what keeps what, unit, checkSide, the function that valueOf makes. -/
import Derived.Test.YtpffekaldpllkaaDoorGaC3
import Derived.Test.YtpffekaldpllkaaDoorMatS
namespace Go.Proofs.YtpffekaldpllkaaDoor
open Go.ChangeShapes Go.WideShapes Go.ChangeAt Go.RowKit
set_option linter.unusedVariables false

/-- Nothing but what stands in some blocks has turned. -/
structure Save (S : Nat → Prop) (w w' : World) : Prop where
  os : w'.os = w.os
  tape : w'.tape = w.tape
  output : w'.output = w.output
  size : w.heap.size ≤ w'.heap.size
  block : ∀ b, b < w.heap.size → ¬ S b → w'.heap[b]? = w.heap[b]?
theorem Save.of {S : Nat → Prop} {w w' : World} (h : Kp w w') : Save S w w' := ⟨h.os, h.tape, h.output, h.size, fun b hb _ => h.block b hb⟩
theorem Save.refl (S : Nat → Prop) (w : World) : Save S w w := Save.of (Kp.rfl' w)
theorem Save.trans {S : Nat → Prop} {a b c : World} (h : Save S a b) (k : Save S b c) : Save S a c :=
  ⟨k.os.trans h.os, k.tape.trans h.tape, k.output.trans h.output, Nat.le_trans h.size k.size, fun i hi hn => (k.block i (Nat.lt_of_lt_of_le hi h.size) hn).trans (h.block i hi hn)⟩
theorem Save.drewN {S : Nat → Prop} {a b : World} (h : Save S a b) (n : Nat) : Save S a (b.drewN n) := h.trans (Save.of ((Kp.rfl' b).drewN n))
theorem Save.put {S : Nat → Prop} {a b : World} (h : Save S a b) {p : Addr} (hp : S p.block) (u : Value) : Save S a (b.setCell p u) :=
  h.trans ⟨rfl, rfl, rfl, by simp [World.setCell], fun k _ hn => Below.heap_setCell _ _ _ _ (fun e => hn (by rw [e]; exact hp))⟩
theorem Save.below {S : Nat → Prop} {B : Nat} {w0 w w' : World} (h : Save S w w') (hb : Below B w0 w) (hB : B ≤ w.heap.size) (hS : ∀ b, S b → B ≤ b) : Below B w0 w' :=
  hb.trans ⟨h.os, h.tape, h.output, h.size, fun k hk => h.block k (by omega) fun e => by have := hS k e; omega⟩
theorem Save.cell {S : Nat → Prop} {w w' : World} (h : Save S w w') {a : Addr} {v : Value} (hc : w.cell? a = some v) (hn : ¬ S a.block) : w'.cell? a = some v :=
  (World.cell?_of_block (w := w) (h.block a.block (cell_lt hc) hn)).trans hc
theorem ownsRow_save {S : Nat → Prop} {w w' : World} {B n : Nat} {e : TypeId} {v : Value} {xs : List Value} (h : w.ownsRow B e 1 v n xs) (hk : Save S w w') (hn : ∀ b, v.ownBlock = some b → ¬ S b) : w'.ownsRow B e 1 v n xs := by
  obtain ⟨h1, h2⟩ := h
  refine ⟨h1, ?_⟩
  rcases h2 with h2 | ⟨g, cap, cur, rfl, hg, hh, r⟩
  · exact .inl h2
  · refine .inr ⟨g, cap, cur, rfl, hg, ?_, r⟩
    rw [hk.block g ?_ (hn g rfl)]; exact hh
    rcases Nat.lt_or_ge g w.heap.size with hlt | hge
    · exact hlt
    · rw [Array.getElem?_eq_none hge] at hh; cases hh
theorem Own.save {S : Nat → Prop} {w w' : World} {B : Nat} {v : Value} {l : List Int} (h : Own w B v l) (hk : Save S w w') (hn : ∀ b, v.ownBlock = some b → ¬ S b) : Own w' B v l := ownsRow_save h hk hn
theorem OwnM.save {S : Nat → Prop} {w w' : World} {B : Nat} {v : Value} {G C : Nat → Nat} {m : List (List Int)} (h : OwnM w B v G C m) (hk : Save S w w') (hn : ∀ b, v.ownBlock = Option.some b → ¬ S b) (hr : ∀ i, i < m.length → ¬ S (G i)) : OwnM w' B v G C m :=
  ⟨ownsRow_save h.top hk hn, fun i hi => (h.row i hi).save hk fun b hb => by
    have : G i = b := Option.some.inj hb
    rw [← this]; exact hr i hi, h.apart⟩

/-- A row of numbers of the field. -/
abbrev rowF (c : Nat) (u : Nat → Fp.F) : List Int := Mx.row c fun j => ((u j).val : Int)
theorem matl_row {n c : Nat} (W : Nat → Nat → Fp.F) {k : Nat} (hk : k < n) : (Mx.matl n c W).getD k [] = rowF c (W k) := Mx.tab_at _ _ _ _ hk

theorem more_mod (s a b : Fp.F) : ((s.val : Int) + (a.val : Int) * (b.val : Int)).tmod 9973 = ((s + a * b).val : Int) := by
  have h := times_bound a b
  rw [Int.tmod_eq_emod_of_nonneg (by have := gval s; omega), Mx.val_more]
theorem sub_mod (a b : Fp.F) : ((a.val : Int) - (b.val : Int) + 9973).tmod 9973 = ((a - b).val : Int) := by
  have h1 := gval a
  have h2 := gval b
  rw [Int.tmod_eq_emod_of_nonneg (by omega), ← Fp.ofInt_val]
  have h : Fp.ofInt ((a.val : Int) - (b.val : Int) + 9973) + b = a := by
    have := Fp.ofInt_add ((a.val : Int) - (b.val : Int) + 9973) (b.val : Int)
    rw [Fp.ofInt_self, show (a.val : Int) - (b.val : Int) + 9973 + (b.val : Int) = (a.val : Int) + 9973 by omega, Fp.ofInt_add, Fp.ofInt_self, show Fp.ofInt 9973 = 0 from rfl] at this
    rw [← this]; grind
  have : Fp.ofInt ((a.val : Int) - (b.val : Int) + 9973) = a - b := by rw [← h]; grind
  rw [this]

/-- The function that valueOf made stands over row i of f: its box names the row, which lies in what was there. -/
structure Val (w : World) (gp B0 c : Nat) (f : Nat → Nat → Fp.F) (i : Nat) : Prop where
  ex : ∃ A1 d1, w.cell? ⟨gp, 0, none⟩ = some (.slice A1 c d1) ∧ LiesIn w B0 A1 (rowF c (f i))
theorem Val.save {S : Nat → Prop} {w w' : World} {gp B0 c : Nat} {f : Nat → Nat → Fp.F} {i : Nat} (h : Val w gp B0 c f i) (hk : Save S w w') (hg : ¬ S gp) (hS : ∀ b, S b → B0 ≤ b) (hB : B0 ≤ w.heap.size) : Val w' gp B0 c f i := by
  obtain ⟨A1, d1, h1, h2⟩ := h.ex
  exact ⟨A1, d1, hk.cell h1 hg, h2.below (hk.below (Below.refl B0 w) hB hS)⟩
theorem Val.keep {w w' : World} {gp B0 c : Nat} {f : Nat → Nat → Fp.F} {i : Nat} (h : Val w gp B0 c f i) (hk : Kp w w') (hB : B0 ≤ w.heap.size) : Val w' gp B0 c f i :=
  h.save (Save.of (S := fun _ => False) hk) (fun h => h) (fun _ h => h.elim) hB





end Go.Proofs.YtpffekaldpllkaaDoor
