/- Slices of fractions (api.Frac, two cells each) in memory, and those that the call itself made. -/
import Derived.Test.YtknpcdnlknlagaaOwn
import Derived.Test.YtknpcdnlknlagaaContM
namespace Go.Proofs.Ytknpcdnlknlagaa
open Go.RowKit
open Cont (Fr)
set_option linter.unusedVariables false

theorem frac_info : (Try.prog.info? 43).map (fun i => (i.zero, i.size, i.bytes)) = some (some (.agg #[.int .i64 0, .int .i64 0]), 2, 16) := by kernel_rfl

/-- The numbers of fractions, one behind the other. -/
def flat (fs : List Fr) : List Int := fs.flatMap fun f => [f.1, f.2]
theorem flat_nil : flat [] = [] := rfl
theorem flat_snoc (fs : List Fr) (f : Fr) : flat (fs ++ [f]) = flat fs ++ [f.1, f.2] := by simp [flat]
theorem flat_len (fs : List Fr) : (flat fs).length = fs.length * 2 := by
  induction fs with
  | nil => rfl
  | cons f fs ih => simp [flat] at ih ⊢; omega
theorem flat_at : ∀ (fs : List Fr) (k : Nat), k < fs.length → (flat fs).getD (2 * k) 0 = (fs.getD k (0, 0)).1 ∧ (flat fs).getD (2 * k + 1) 0 = (fs.getD k (0, 0)).2 := by
  intro fs
  induction fs with
  | nil => intro k h; simp at h
  | cons f fs ih =>
    intro k h
    have e : flat (f :: fs) = f.1 :: f.2 :: flat fs := rfl
    rw [e]
    cases k with
    | zero => exact ⟨rfl, rfl⟩
    | succ k =>
      have := ih k (by simpa using h)
      have e1 : 2 * (k + 1) = 2 * k + 1 + 1 := by omega
      rw [e1]
      simp only [List.getD_cons_succ]
      exact this

/-- From address A on the fractions of fs lie in the world, two cells each. -/
def LiesF (w : World) (A : Option Addr) (fs : List Fr) : Prop := Lies w A (flat fs)
theorem LiesF.keep {w w' : World} {A : Option Addr} {fs : List Fr} (h : LiesF w A fs) (hb : Kp w w') : LiesF w' A fs := Lies.keep h hb
theorem LiesF.empty (w : World) (A : Option Addr) : LiesF w A [] := Lies.empty w A
theorem LiesF.at {w : World} {A : Option Addr} {fs : List Fr} (h : LiesF w A fs) (k : Nat) (hk : k < fs.length) :
    ∃ ad, A = some ad ∧ ad.block < w.heap.size ∧ w.cell? (ad.add (2 * k)) = some (.int .i64 (fs.getD k (0, 0)).1) ∧ w.cell? (ad.add (2 * k + 1)) = some (.int .i64 (fs.getD k (0, 0)).2) := by
  obtain ⟨e1, e2⟩ := flat_at fs k hk
  have hl := flat_len fs
  obtain ⟨ad, ha, hb, hc⟩ := h (2 * k) (by omega)
  obtain ⟨ad', ha', _, hd⟩ := h (2 * k + 1) (by omega)
  rw [ha] at ha'
  injection ha' with ha'
  subst ha'
  rw [e1] at hc
  rw [e2] at hd
  exact ⟨ad, ha, hb, hc, hd⟩

/-- The slice value v is the call's own and holds the fractions of fs. -/
def OwnF (w : World) (B : Nat) (v : Value) (fs : List Fr) : Prop := w.ownsRow B 43 2 v fs.length (ints (flat fs))
theorem OwnF.none (w : World) (B : Nat) : OwnF w B (.slice none 0 0) [] := World.ownsRow_nil _ _ _ _
theorem OwnF.drewN {w : World} {B : Nat} {v : Value} {l : List Fr} (h : OwnF w B v l) (n : Nat) : OwnF (w.drewN n) B v l := h
theorem OwnF.new {w : World} {B : Nat} {v : Value} {l : List Fr} (h : OwnF w B v l) (o : Obj) : OwnF (w.alloc o) B v l := World.ownsRow.alloc h o
theorem OwnF.kp {w w' : World} {B : Nat} {v : Value} {l : List Fr} (h : OwnF w B v l) (hk : Kp w w') : OwnF w' B v l := by
  obtain ⟨h1, h2⟩ := h
  refine ⟨h1, ?_⟩
  rcases h2 with h2 | ⟨g, cap, cur, hv, hg, hh, r⟩
  · exact .inl h2
  · refine .inr ⟨g, cap, cur, hv, hg, ?_, r⟩
    rw [hk.block g ?_]; exact hh
    rcases Nat.lt_or_ge g w.heap.size with hlt | hge
    · exact hlt
    · rw [Array.getElem?_eq_none hge] at hh; cases hh
/-- What turns another block leaves the row. -/
theorem OwnF.other {w w' : World} {B : Nat} {v : Value} {l : List Fr} (h : OwnF w B v l) (hk : ∀ g, v.ownBlock = some g → w'.heap[g]? = w.heap[g]?) : OwnF w' B v l := by
  obtain ⟨h1, h2⟩ := h
  refine ⟨h1, ?_⟩
  rcases h2 with h2 | ⟨g, cap, cur, hv, hg, hh, r⟩
  · exact .inl h2
  · refine .inr ⟨g, cap, cur, hv, hg, ?_, r⟩
    rw [hk g (by rw [hv]; rfl)]; exact hh
theorem OwnF.lies {w : World} {B : Nat} {v : Value} {fs : List Fr} (h : OwnF w B v fs) : ∃ A c, v = .slice A fs.length c ∧ LiesF w A fs := by
  have hl := flat_len fs
  rcases Nat.eq_zero_or_pos fs.length with h0 | h0
  · obtain rfl : fs = [] := List.eq_nil_of_length_eq_zero h0
    rcases h.2 with ⟨rfl, _⟩ | ⟨g, cap, cur, rfl, _⟩
    · exact ⟨Option.none, 0, rfl, LiesF.empty _ _⟩
    · exact ⟨_, cap, rfl, LiesF.empty _ _⟩
  · obtain ⟨g, cap, hv, _, hlt⟩ := World.ownsRow.form h h0
    refine ⟨_, cap, hv, fun k hk => ⟨_, rfl, hlt, ?_⟩⟩
    refine World.ownsRow.cells h (g := g) (by rw [hv]; rfl) k _ ?_
    simp [hk]
theorem OwnF.lt {w : World} {B : Nat} {v : Value} {fs : List Fr} (h : OwnF w B v fs) {g : Nat} (hg : v.ownBlock = some g) : B ≤ g ∧ g < w.heap.size := World.ownsRow.lt h g hg

/-- Behind an append to a row of the call's own, below the row nothing has turned. -/
theorem ownF_below {a w w' : World} {B B' : Nat} {v : Value} {l : List Fr} (h : OwnF w B' v l) (hb : B ≤ B') (ha : Below B a w) (hB : B ≤ w.heap.size) (hg : w.grownBy w' v.ownBlock) : Below B a w' :=
  ha.grown hg hB fun k hk => Nat.le_trans hb (World.ownsRow.lt h k hk).1
theorem OwnF.mono {w : World} {B B' : Nat} {v : Value} {l : List Fr} (h : OwnF w B' v l) (hb : B ≤ B') : OwnF w B v l := by
  obtain ⟨h1, h2⟩ := h
  refine ⟨h1, ?_⟩
  rcases h2 with h2 | ⟨g, cap, cur, hv, hg, r⟩
  · exact .inl h2
  · exact .inr ⟨g, cap, cur, hv, Nat.le_trans hb hg, r⟩

section
variable {ops : Array Oper} {rest : List Oper} {o : Oper} {a : Act} {w : World} {K : Act → World → Prop} {Q : Exit → Act → World → Prop}

/-- out = append(out, f): at an operation. -/
theorem wp_pushF (s x : Operand) (ho : o.op = .call { callee := .builtin .append, args := #[s, x], argTypes := #[39, 39] })
    (B : Nat) (v : Value) (l : List Fr) (f : Fr) (g c : Nat) (hs : a.eval s = v) (hx : a.eval x = .slice (some ⟨g, 0, none⟩) 1 c) (hown : OwnF w B v l)
    (hc : w.cell? ⟨g, 0, none⟩ = some (.int .i64 f.1)) (hd : w.cell? ⟨g, 1, none⟩ = some (.int .i64 f.2)) (hlen : l.length + 1 ≤ 1000000000000) (hB : B ≤ w.heap.size)
    (h : ∀ v' w', OwnF w' B v' (l ++ [f]) → w.grownBy w' v.ownBlock → At w v v' → K (a.put o.dst v') w') : o.wp Try.prog a w K Q := by
  obtain ⟨i0, hi, hz0, hz1, hz2⟩ := info_parts frac_info
  obtain ⟨v', w', hrun, h1, h2, _, h3⟩ := run_append_own_at (P := Try.prog) w B 39 o.type 43 i0 (.agg #[.int .i64 0, .int .i64 0]) 2 16 Try.underlying39 hi hz0 hz1 hz2 rfl (by decide) v l.length (ints (flat l)) hown ⟨g, 0, none⟩ 1 c [.int .i64 f.1, .int .i64 f.2] rfl
    (fun j u hj => by
      match j, hj with
      | 0, hj => simp at hj; subst hj; rw [add_at]; exact hc
      | 1, hj => simp at hj; subst hj; rw [add_at]; exact hd) (fun u hu => by simp at hu; rcases hu with rfl | rfl <;> rfl) (by unfold maxLen; omega) (by omega) hB
  unfold Oper.wp execOp
  simp only [ho, resolve, invoke, builtin, Sem.run_bind, Sem.run_pure, Result.andThen_ok, List.map_toArray, List.map_cons, List.map_nil, hs, hx, hrun]
  refine h v' w' ?_ h2 h3
  unfold OwnF
  rw [List.length_append, flat_snoc, ints, List.map_append]
  exact h1

theorem wpList_pushF (hgd : o.guard = Option.none) (s x : Operand) (ho : o.op = .call { callee := .builtin .append, args := #[s, x], argTypes := #[39, 39] })
    (B : Nat) (v : Value) (l : List Fr) (f : Fr) (g c : Nat) (hs : a.eval s = v) (hx : a.eval x = .slice (some ⟨g, 0, none⟩) 1 c) (hown : OwnF w B v l)
    (hc : w.cell? ⟨g, 0, none⟩ = some (.int .i64 f.1)) (hd : w.cell? ⟨g, 1, none⟩ = some (.int .i64 f.2)) (hlen : l.length + 1 ≤ 1000000000000) (hB : B ≤ w.heap.size)
    (h : ∀ v' w', OwnF w' B v' (l ++ [f]) → w.grownBy w' v.ownBlock → At w v v' → wpList Try.prog ops Q rest (a.put o.dst v') w') : wpList Try.prog ops Q (o :: rest) a w :=
  wpList_plain hgd fun _ hK => wp_pushF s x ho B v l f g c hs hx hown hc hd hlen hB fun v' w' h1 h2 h3 => hK _ _ (h v' w' h1 h2 h3)
end

end Go.Proofs.Ytknpcdnlknlagaa
