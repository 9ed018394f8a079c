/- A row of heads of the call's own, whatever they point to: append of one, and the matrix that lies. For all packages. -/
import Derived.Test.YtkebjmapdcbnaaaOwnM
namespace Go.Proofs.Ytkebjmapdcbnaaa
open Go.ChangeShapes Go.WideShapes Go.ChangeAt Go.RowKit
set_option linter.unusedVariables false

/-- The slice value v is the call's own and holds k heads. -/
def HdsV (w : World) (B : Nat) (v : Value) (k : Nat) (H : Nat → Value) : Prop := w.ownsRow B 32 1 v k ((List.range k).map H)
theorem hdsV_none (w : World) (B : Nat) (H : Nat → Value) : HdsV w B (.slice none 0 0) 0 H := World.ownsRow_nil _ _ _ _
theorem HdsV.kp {w w' : World} {B k : Nat} {v : Value} {H : Nat → Value} (h : HdsV w B v k H) (hk : Kp w w') : HdsV w' B v k H := ownsRow_kp h hk
theorem HdsV.new {w : World} {B k : Nat} {v : Value} {H : Nat → Value} (h : HdsV w B v k H) (o : Obj) : HdsV (w.alloc o) B v k H := h.kp ((Kp.rfl' w).new o)
/-- Where they lie, and what lies beneath. -/
theorem HdsV.form {w : World} {B k : Nat} {v : Value} {H : Nat → Value} (h : HdsV w B v k H) : ∃ A c, v = .slice A k c ∧ k ≤ c ∧ ∀ i, i < k → ∃ ad, A = some ad ∧ ad.block < w.heap.size ∧ w.cell? (ad.add i) = some (H i) := by
  rcases h.2 with ⟨rfl, h0⟩ | ⟨g, cap, cur, hv, hg, hh, hc, hm, hs, ht⟩
  · obtain rfl : k = 0 := h0
    exact ⟨Option.none, 0, rfl, Nat.le_refl _, fun i hi => absurd hi (by omega)⟩
  · refine ⟨_, cap, hv, hc, fun i hi => ⟨_, rfl, ?_, ?_⟩⟩
    · rcases Nat.lt_or_ge g w.heap.size with h' | h'
      · exact h'
      · rw [Array.getElem?_eq_none h'] at hh; cases hh
    · have ht' : cur.toList.take k = (List.range k).map H := by simpa using ht
      rw [add_at, cell_of_row _ _ i _ _ (0, 0) hh, ← Array.getElem?_toList, ← List.getElem?_take_of_lt hi, ht']
      simp [hi]
theorem HdsV.lies {w : World} {B k : Nat} {v : Value} {H : Nat → Value} {m : List (List Int)} (h : HdsV w B v k H) (hm : m.length = k) (hr : ∀ i, i < k → ∃ A' c, H i = .slice A' (m.getD i []).length c ∧ (m.getD i []).length ≤ c ∧ Lies w A' (m.getD i [])) : ∃ A c, v = .slice A k c ∧ k ≤ c ∧ LiesM w A m := by
  obtain ⟨A, c, hv, hc, hx⟩ := h.form
  refine ⟨A, c, hv, hc, fun i hi => ?_⟩
  obtain ⟨ad, e, hl, hcell⟩ := hx i (by omega)
  obtain ⟨A', c', e2, h2, h3⟩ := hr i (by omega)
  exact ⟨ad, A', c', e, hl, by rw [hcell, e2], h2, h3⟩

section
variable {ops : Array Oper} {rest : List Oper} {o : Oper} {a : Act} {w : World} {K : Act → World → Prop} {Q : Exit → Act → World → Prop}
/-- out = append(out, head). -/
theorem wpList_pushV (hgd : o.guard = Option.none) (s x : Operand) (ho : o.op = .call { callee := .builtin .append, args := #[s, x], argTypes := #[22, 22] })
    (B : Nat) (v : Value) (k : Nat) (H : Nat → Value) (u : Value) (gb cb : Nat) (hs : a.eval s = v) (hx : a.eval x = .slice (some ⟨gb, 0, none⟩) 1 cb) (hown : HdsV w B v k H)
    (hcell : w.cell? ⟨gb, 0, none⟩ = some u) (hu : u.oneCell' = true) (hlen : k + 1 ≤ 1000000) (hB : B ≤ w.heap.size)
    (h : ∀ v' w', HdsV w' B v' (k + 1) (fun i => if i = k then u else H i) → (∀ w0 : World, w0.heap.size ≤ B → Kp w0 w → Kp w0 w') → wpList Try.prog ops Q rest (a.put o.dst v') w') : wpList Try.prog ops Q (o :: rest) a w := by
  obtain ⟨i0, hi, hz0, hz1, hz2⟩ := info_parts ints_info
  obtain ⟨v', w', hrun, h1, h2, _, h3⟩ := run_append_own_at (P := Try.prog) w B 22 o.type 32 i0 (.slice Option.none 0 0) 1 24 Try.underlying22 hi hz0 hz1 hz2 rfl (by decide) v k ((List.range k).map H) hown ⟨gb, 0, Option.none⟩ 1 cb [u] rfl
    (fun j u' hj => by
      match j, hj with
      | 0, hj => simp at hj; subst hj; rw [add_at]; exact hcell) (fun u' hu' => by simp at hu'; subst hu'; exact hu) (by unfold maxLen; omega) (by omega) hB
  refine wpList_plain hgd fun _ hK => ?_
  unfold Oper.wp execOp
  simp only [ho, resolve, invoke, builtin, Sem.run_bind, Sem.run_pure, Result.andThen_ok, List.map_toArray, List.map_cons, List.map_nil, hs, hx, hrun]
  refine hK _ _ (h v' w' ?_ fun w0 hw0 hk0 => Below.grown hk0 h2 hk0.size fun k hk => Nat.le_trans hw0 (World.ownsRow.lt hown k hk).1)
  have e1 : (List.range k).map (fun i => if i = k then u else H i) = (List.range k).map H := List.map_congr_left fun i hi => by
    have := List.mem_range.1 hi
    rw [if_neg (by omega)]
  have e2 : (List.range (k + 1)).map (fun i => if i = k then u else H i) = (List.range k).map H ++ [u] := by
    rw [List.range_succ, List.map_append, e1, List.map_singleton, if_pos rfl]
  unfold HdsV
  rw [e2]
  exact h1
end

end Go.Proofs.Ytkebjmapdcbnaaa
