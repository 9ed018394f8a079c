/- Several texts, one behind the other: BaC3, BaC4, LawIn, RowsG, TpReal. -/
import Derived.Test.YtbdpcpodmmhjaaaTopRealProofG3
import Derived.Test.YtbdpcpodmmhjaaaTopRealProofG1
import Derived.Test.YtbdpcpodmmhjaaaTopRealProofG2

/- What stands in memory while package bareiss eliminates: a row of functions of the call's own, each over a row, a list of columns, and the minors. -/
namespace Go.Proofs.Ytbdpcpodmmhjaaa
open Go.ChangeShapes Go.WideShapes Go.ChangeAt Go.RowKit
set_option linter.unusedVariables false

theorem func_info : (Try.prog.info? 49).map (fun i => (i.zero, i.size, i.bytes)) = some (some .nilFunc, 1, 8) := by kernel_rfl

/-- The slice value v is the call's own and holds k functions. -/
def FnsV (w : World) (B : Nat) (v : Value) (k : Nat) (H : Nat → Value) : Prop := w.ownsRow B 49 1 v k ((List.range k).map H)
theorem fnsV_none (w : World) (B : Nat) (H : Nat → Value) : FnsV w B (.slice none 0 0) 0 H := World.ownsRow_nil _ _ _ _
theorem FnsV.kp {w w' : World} {B k : Nat} {v : Value} {H : Nat → Value} (h : FnsV w B v k H) (hk : Kp w w') : FnsV w' B v k H := ownsRow_kp h hk
theorem FnsV.form {w : World} {B k : Nat} {v : Value} {H : Nat → Value} (h : FnsV w B v k H) : ∃ A c, v = .slice A k c ∧ k ≤ c ∧ ∀ i, i < k → ∃ ad, A = some ad ∧ ad.block < w.heap.size ∧ w.cell? (ad.add i) = some (H i) := by
  rcases h.2 with ⟨rfl, h0⟩ | ⟨g, cap, cur, hv, hg, hh, hc, hm, hs, ht⟩
  · obtain rfl : k = 0 := h0
    exact ⟨Option.none, 0, rfl, Nat.le_refl _, fun i hi => absurd hi (by omega)⟩
  · refine ⟨_, cap, hv, hc, fun i hi => ⟨_, rfl, ?_, ?_⟩⟩
    · rcases Nat.lt_or_ge g w.heap.size with h' | h'
      · exact h'
      · rw [Array.getElem?_eq_none h'] at hh; cases hh
    · have ht' : cur.toList.take k = (List.range k).map H := by simpa using ht
      rw [add_at, cell_of_row _ _ i _ _ (0, 0) hh, ← Array.getElem?_toList, ← List.getElem?_take_of_lt hi, ht']
      simp [hi]
/-- The block of the functions is no row's of numbers. -/
theorem fns_ne {w : World} {B B' k : Nat} {u v : Value} {H : Nat → Value} {l : List Int} (h : FnsV w B u k H) (hr : Own w B' v l) {g : Nat} (hg : u.ownBlock = some g) : v.ownBlock ≠ some g := fun e => by
  rcases h.2 with ⟨rfl, _⟩ | ⟨g1, cap1, cur1, rfl, _, hh1, _⟩
  · cases hg
  · rcases hr.2 with ⟨rfl, _⟩ | ⟨g2, cap2, cur2, rfl, _, hh2, _⟩
    · cases e
    · have e1 : g1 = g := Option.some.inj hg
      have e2 : g2 = g := Option.some.inj e
      subst e1; subst e2
      rw [hh1] at hh2
      cases hh2

section
variable {ops : Array Oper} {rest : List Oper} {o : Oper} {a : Act} {w : World} {K : Act → World → Prop} {Q : Exit → Act → World → Prop}
/-- out = append(out, function). -/
theorem wpList_pushF (hgd : o.guard = Option.none) (s x : Operand) (ho : o.op = .call { callee := .builtin .append, args := #[s, x], argTypes := #[48, 48] })
    (B : Nat) (v : Value) (k : Nat) (H : Nat → Value) (u : Value) (gb cb : Nat) (hs : a.eval s = v) (hx : a.eval x = .slice (some ⟨gb, 0, none⟩) 1 cb) (hown : FnsV w B v k H)
    (hcell : w.cell? ⟨gb, 0, none⟩ = some u) (hu : u.oneCell' = true) (hlen : k + 1 ≤ 1000000) (hB : B ≤ w.heap.size)
    (h : ∀ v' w', FnsV w' B v' (k + 1) (fun i => if i = k then u else H i) → w.grownBy w' v.ownBlock → At w v v' → wpList Try.prog ops Q rest (a.put o.dst v') w') : wpList Try.prog ops Q (o :: rest) a w := by
  obtain ⟨i0, hi, hz0, hz1, hz2⟩ := info_parts func_info
  obtain ⟨v', w', hrun, h1, h2, _, h3⟩ := run_append_own_at (P := Try.prog) w B 48 o.type 49 i0 .nilFunc 1 8 Try.underlying48 hi hz0 hz1 hz2 rfl (by decide) v k ((List.range k).map H) hown ⟨gb, 0, Option.none⟩ 1 cb [u] rfl
    (fun j u' hj => by
      match j, hj with
      | 0, hj => simp at hj; subst hj; rw [add_at]; exact hcell) (fun u' hu' => by simp at hu'; subst hu'; exact hu) (by unfold maxLen; omega) (by omega) hB
  refine wpList_plain hgd fun _ hK => ?_
  unfold Oper.wp execOp
  simp only [ho, resolve, invoke, builtin, Sem.run_bind, Sem.run_pure, Result.andThen_ok, List.map_toArray, List.map_cons, List.map_nil, hs, hx, hrun]
  refine hK _ _ (h v' w' ?_ h2 h3)
  have e1 : (List.range k).map (fun i => if i = k then u else H i) = (List.range k).map H := List.map_congr_left fun i hi => by
    have := List.mem_range.1 hi
    rw [if_neg (by omega)]
  have e2 : (List.range (k + 1)).map (fun i => if i = k then u else H i) = (List.range k).map H ++ [u] := by
    rw [List.range_succ, List.map_append, e1, List.map_singleton, if_pos rfl]
  unfold FnsV
  rw [e2]
  exact h1
end

/-- A block that none of what is still written lies in. -/
def Free (w : World) (g0 : Nat) (u v : Value) (b : Nat) : Prop := g0 < b ∧ b < w.heap.size ∧ u.ownBlock ≠ some b ∧ v.ownBlock ≠ some b
theorem Free.more {w w' : World} {g0 b : Nat} {u v : Value} (h : Free w g0 u v b) (hs : w.heap.size ≤ w'.heap.size) : Free w' g0 u v b := ⟨h.1, Nat.lt_of_lt_of_le h.2.1 hs, h.2.2⟩
theorem Free.left {w w' : World} {g0 b : Nat} {u u' v : Value} (h : Free w g0 u v b) (hs : w.heap.size ≤ w'.heap.size) (ha : At w u u') : Free w' g0 u' v b :=
  ⟨h.1, Nat.lt_of_lt_of_le h.2.1 hs, by
    rcases ha with e | e
    · rw [e]; exact h.2.2.1
    · rw [e]; intro e2; have := Option.some.inj e2; have := h.2.1; omega, h.2.2.2⟩
theorem Free.right {w w' : World} {g0 b : Nat} {u v v' : Value} (h : Free w g0 u v b) (hs : w.heap.size ≤ w'.heap.size) (ha : At w v v') : Free w' g0 u v' b :=
  ⟨h.1, Nat.lt_of_lt_of_le h.2.1 hs, h.2.2.1, by
    rcases ha with e | e
    · rw [e]; exact h.2.2.2
    · rw [e]; intro e2; have := Option.some.inj e2; have := h.2.1; omega⟩

theorem StepAt.move {w w' : World} {u : Value} {P R L Z n c pv : Nat} {last : Int} {by' : Nat → Int} (h : StepAt w u P R L Z n c pv last by')
    (hk : ∀ (a : Addr) (x : Value), a.block = P ∨ a.block = R ∨ a.block = L ∨ a.block = Z → w.cell? a = some x → w'.cell? a = some x) : StepAt w' u P R L Z n c pv last by' :=
  ⟨h.fn, hk _ _ (.inl rfl) h.piv, hk _ _ (.inr (.inl rfl)) h.row, hk _ _ (.inr (.inr (.inl rfl))) h.last, fun j hj => hk _ _ (.inr (.inr (.inr rfl))) (h.el j hj)⟩
theorem StepAt.keep {w w' : World} {u : Value} {P R L Z n c pv : Nat} {last : Int} {by' : Nat → Int} (h : StepAt w u P R L Z n c pv last by') (hk : Kp w w') : StepAt w' u P R L Z n c pv last by' :=
  h.move fun a x _ hc => (hk.cell (p := a) (cell_lt hc)).trans hc

/-- Step i of an elimination, somewhere free. -/
def StepFree (w : World) (g0 : Nat) (u v : Value) (f : Value) (n : Nat) (x : Nat → Nat → Int) (p : Nat → Nat) (i : Nat) : Prop :=
  ∃ P R L Z c, StepAt w f P R L Z n c (p i) (Zx.lp x p i) (Zx.bd x p i i) ∧ Free w g0 u v P ∧ Free w g0 u v R ∧ Free w g0 u v L ∧ Free w g0 u v Z
theorem StepFree.keep {w w' : World} {g0 : Nat} {u v f : Value} {n : Nat} {x : Nat → Nat → Int} {p : Nat → Nat} {i : Nat} (h : StepFree w g0 u v f n x p i) (hk : Kp w w') : StepFree w' g0 u v f n x p i := by
  obtain ⟨P, R, L, Z, c, h0, h1, h2, h3, h4⟩ := h
  exact ⟨P, R, L, Z, c, h0.keep hk, h1.more hk.size, h2.more hk.size, h3.more hk.size, h4.more hk.size⟩
theorem StepFree.left {w w' : World} {g0 : Nat} {u u' v f : Value} {n : Nat} {x : Nat → Nat → Int} {p : Nat → Nat} {i : Nat} (h : StepFree w g0 u v f n x p i) (hg : w.grownBy w' u.ownBlock) (ha : At w u u') : StepFree w' g0 u' v f n x p i := by
  obtain ⟨P, R, L, Z, c, h0, h1, h2, h3, h4⟩ := h
  refine ⟨P, R, L, Z, c, h0.move fun a x hb hc => hg.cell hc fun e => ?_, h1.left hg.size ha, h2.left hg.size ha, h3.left hg.size ha, h4.left hg.size ha⟩
  rcases hb with b | b | b | b <;> rw [b] at e
  · exact h1.2.2.1 e.symm
  · exact h2.2.2.1 e.symm
  · exact h3.2.2.1 e.symm
  · exact h4.2.2.1 e.symm
theorem StepFree.right {w w' : World} {g0 : Nat} {u v v' f : Value} {n : Nat} {x : Nat → Nat → Int} {p : Nat → Nat} {i : Nat} (h : StepFree w g0 u v f n x p i) (hg : w.grownBy w' v.ownBlock) (ha : At w v v') : StepFree w' g0 u v' f n x p i := by
  obtain ⟨P, R, L, Z, c, h0, h1, h2, h3, h4⟩ := h
  refine ⟨P, R, L, Z, c, h0.move fun a x hb hc => hg.cell hc fun e => ?_, h1.right hg.size ha, h2.right hg.size ha, h3.right hg.size ha, h4.right hg.size ha⟩
  rcases hb with b | b | b | b <;> rw [b] at e
  · exact h1.2.2.2 e.symm
  · exact h2.2.2.2 e.symm
  · exact h3.2.2.2 e.symm
  · exact h4.2.2.2 e.symm
theorem StepFree.upd {w : World} {g0 : Nat} {u v f : Value} {n : Nat} {x : Nat → Nat → Int} {p : Nat → Nat} {i k q : Nat} (h : StepFree w g0 u v f n x p i) (hi : i < k) : StepFree w g0 u v f n x (Zx.upd p k q) i := by
  obtain ⟨P, R, L, Z, c, h0, r⟩ := h
  refine ⟨P, R, L, Z, c, ?_, r⟩
  rw [Zx.upd_lt hi, Zx.lp_upd (by omega), show Zx.bd x (Zx.upd p k q) i i = Zx.bd x p i i from funext fun j => Zx.bd_upd (by omega) i j]
  exact h0

/-- The minors in block g0, the functions, the columns. -/
structure Run (w0 w : World) (g0 : Nat) (u v : Value) (H : Nat → Value) (k : Nat) (pl ml : List Int) (n : Nat) (x : Nat → Nat → Int) (p : Nat → Nat) : Prop where
  kp : Kp w0 w
  b0 : w0.heap.size ≤ g0
  min : Row w g0 ml
  st : FnsV w (g0 + 1) u k H
  pv : Own w (g0 + 1) v pl
  fn : ∀ i, i < k → StepFree w g0 u v (H i) n x p i
theorem Run.keep {w0 w w' : World} {g0 : Nat} {u v : Value} {H : Nat → Value} {k : Nat} {pl ml : List Int} {n : Nat} {x : Nat → Nat → Int} {p : Nat → Nat} (h : Run w0 w g0 u v H k pl ml n x p) (hk : Kp w w') : Run w0 w' g0 u v H k pl ml n x p :=
  ⟨h.kp.trans hk, h.b0, h.min.keep hk, h.st.kp hk, h.pv.kp hk, fun i hi => (h.fn i hi).keep hk⟩
theorem Run.left {w0 w w' : World} {g0 : Nat} {u u' v f : Value} {H : Nat → Value} {k : Nat} {pl ml : List Int} {n : Nat} {x : Nat → Nat → Int} {p : Nat → Nat} {q : Nat} (h : Run w0 w g0 u v H k pl ml n x p)
    (hs : FnsV w' (g0 + 1) u' (k + 1) (fun i => if i = k then f else H i)) (hg : w.grownBy w' u.ownBlock) (ha : At w u u') (hn : StepFree w g0 u v f n x (Zx.upd p k q) k) :
    Run w0 w' g0 u' v (fun i => if i = k then f else H i) (k + 1) pl ml n x (Zx.upd p k q) := by
  refine ⟨h.kp.grown hg h.kp.size fun b hb => ?_, h.b0, ?_, hs, ?_, fun i hi => ?_⟩
  · have := (World.ownsRow.lt h.st b hb).1
    have := h.b0
    omega
  · unfold Row
    rw [hg.block g0 h.min.lt fun e => by have := (World.ownsRow.lt h.st g0 e.symm).1; omega]
    exact h.min
  · refine World.ownsRow.kept h.pv hg ?_
    cases hu : v.ownBlock with
    | none => exact .inl rfl
    | some b => right; intro e; exact fns_ne h.st h.pv e.symm hu
  · by_cases e : i = k
    · rw [e]; simp only [if_true]; exact hn.left hg ha
    · simp only [if_neg e]
      exact ((h.fn i (by omega)).left hg ha).upd (by omega)
theorem Run.right {w0 w w' : World} {g0 : Nat} {u v v' : Value} {H : Nat → Value} {k : Nat} {pl pl' ml : List Int} {n : Nat} {x : Nat → Nat → Int} {p : Nat → Nat} (h : Run w0 w g0 u v H k pl ml n x p)
    (hs : Own w' (g0 + 1) v' pl') (hg : w.grownBy w' v.ownBlock) (ha : At w v v') : Run w0 w' g0 u v' H k pl' ml n x p := by
  refine ⟨h.kp.grown hg h.kp.size fun b hb => ?_, h.b0, ?_, ?_, hs, fun i hi => (h.fn i hi).right hg ha⟩
  · have := (World.ownsRow.lt h.pv b hb).1
    have := h.b0
    omega
  · unfold Row
    rw [hg.block g0 h.min.lt fun e => by have := (World.ownsRow.lt h.pv g0 e.symm).1; omega]
    exact h.min
  · refine World.ownsRow.kept h.st hg ?_
    cases hu : u.ownBlock with
    | none => exact .inl rfl
    | some b => right; intro e; exact fns_ne h.st h.pv hu e.symm
theorem grown_set (w : World) (a : Addr) (x : Value) : w.grownBy (w.setCell a x) (some a.block) :=
  ⟨rfl, rfl, rfl, by simp [World.setCell], fun k _ hn => Below.heap_setCell _ _ _ _ (fun e => hn (by rw [e]))⟩
theorem Run.store {w0 w : World} {g0 : Nat} {u v : Value} {H : Nat → Value} {k : Nat} {pl ml : List Int} {n : Nat} {x : Nat → Nat → Int} {p : Nat → Nat} (h : Run w0 w g0 u v H k pl ml n x p) (i : Nat) (y : Int) :
    Run w0 (w.setCell ⟨g0, i, none⟩ (.int .i64 y)) g0 u v H k pl (ml.set i y) n x p := by
  have hg := grown_set w ⟨g0, i, none⟩ (.int .i64 y)
  refine ⟨h.kp.put (p := ⟨g0, i, none⟩) h.b0 _, h.b0, h.min.put i y, ?_, ?_, fun j hj => ?_⟩
  · refine World.ownsRow.kept h.st hg ?_
    cases hu : u.ownBlock with
    | none => exact .inl rfl
    | some b => right; intro e; have e2 : b = g0 := Option.some.inj e; have := (World.ownsRow.lt h.st b hu).1; omega
  · refine World.ownsRow.kept h.pv hg ?_
    cases hu : v.ownBlock with
    | none => exact .inl rfl
    | some b => right; intro e; have e2 : b = g0 := Option.some.inj e; have := (World.ownsRow.lt h.pv b hu).1; omega
  · obtain ⟨P, R, L, Z, c, h0, h1, h2, h3, h4⟩ := h.fn j hj
    refine ⟨P, R, L, Z, c, h0.move fun a x hb hc => hg.cell hc fun e => ?_, h1.more hg.size, h2.more hg.size, h3.more hg.size, h4.more hg.size⟩
    have e2 : a.block = g0 := Option.some.inj e
    have := h1.1
    have := h2.1
    have := h3.1
    have := h4.1
    omega

theorem Run.free {w0 w w' : World} {g0 : Nat} {u v : Value} {H : Nat → Value} {k : Nat} {pl ml : List Int} {n : Nat} {x : Nat → Nat → Int} {p : Nat → Nat} (h : Run w0 w g0 u v H k pl ml n x p) {b : Nat} (h1 : w.heap.size ≤ b) (h2 : b < w'.heap.size) : Free w' g0 u v b :=
  ⟨Nat.lt_of_lt_of_le h.min.lt h1, h2, fun e => by have := (World.ownsRow.lt h.st b e).2; omega, fun e => by have := (World.ownsRow.lt h.pv b e).2; omega⟩

theorem sign_sp {n : Nat} {s : Nat → Int} {y : Int} (h : Mx.SgnIs (Mx.sp n s) y) : y = Zx.sp n s := by
  refine h.one ⟨Zx.sp_some s, ?_⟩
  unfold Zx.sp Mx.sp
  rw [Zx.dt_ofInt]
  congr 1
  funext i j
  split <;> rfl

end Go.Proofs.Ytbdpcpodmmhjaaa

/- Contracts of package bareiss, third part: Leading, Of. -/
namespace Go.Proofs.Ytbdpcpodmmhjaaa
open Go.ChangeShapes Go.WideShapes Go.ChangeAt Go.RowKit
set_option linter.unusedVariables false

/-- The determinants of the first rows and columns. -/
def leads (n : Nat) (x : Nat → Nat → Int) : List Int := Mx.row n fun i => Zx.dt (i + 1) x
def GotLead (n : Nat) (x : Nat → Nat → Int) (w : World) (e : Ending) (w' : World) : Prop := ∃ g, e = .returned (.tuple #[.slice (some ⟨g, 0, none⟩) n n, .nilIface]) ∧ Row w' g (leads n x) ∧ Kp w w'

set_option maxRecDepth 100000 in
set_option maxHeartbeats 1600000 in
theorem Lead_bad (A : Option Addr) (m : List (List Int)) (n d : Nat) (w : World) (ha : LiesM w A m) (hn : m.length = n) (h : qcode 5 (-9) 9 m ≠ 0) :
    Calls Try.prog 24 #[.slice A n d] w fun e w' => e = .returned (.tuple #[.slice none 0 0, errOf (qcode 5 (-9) 9 m)]) ∧ Kp w w' := by
  have CK := Lib.hid (BChk_any A m n d w ha hn)
  rw [errOf_ne _ h] at CK ⊢
  generalize qcode 5 (-9) 9 m = z at *
  clear ha hn h
  go_enter Try.func24, Try.ntmps24
  go_wp2_with fail
  refine (CK.out).mono ?_; rintro e w' ⟨rfl, rfl⟩
  go_wp2_with fail
  go_ret2
  exact ⟨rfl, Kp.rfl' w⟩

set_option maxRecDepth 100000 in
set_option maxHeartbeats 6400000 in
theorem Lead_ok (A : Option Addr) (x : Nat → Nat → Int) (m : List (List Int)) (n d : Nat) (w : World) (ha : LiesM w A m) (s : Shz n x m) :
    Calls Try.prog 24 #[.slice A n d] w fun e w' => GotLead n x w e w' := by
  have CK := Lib.hid (BChk_any A m n d w ha s.len)
  rw [s.code, errOf_zero] at CK
  rw [s.eq] at ha
  have HA := Lib.hid ha
  have S5 := s.n5
  have NN := Lib.hid s.nine
  clear ha s
  obtain ⟨i0, hi, hz0, hz1, hz2⟩ := info_parts int_info
  go_enter Try.func24, Try.ntmps24
  go_wp2_with fail
  refine (CK.out).mono ?_; rintro e w' ⟨rfl, rfl⟩
  go_wp2_with (at_make; refine wpList_make_full _ rfl _ _ 22 rfl w.heap.size 3 i0 (.int .i64 0) 1 Try.underlying22 hi hz0 hz1 _ _ _ _ n rfl rfl rfl rfl (by rw [hz2]; omega) (by unfold maxLen; omega) (Nat.le_refl _) ?_; intro w1 hown hgrow)
  have HR := Lib.hid (row_made hown)
  have HK := Lib.hid (show Kp w w1 from (Kp.rfl' w).grown hgrow (by simp) (fun k hk => by cases hk))
  obtain ⟨g, hg⟩ : ∃ g, g = w.heap.size := ⟨_, rfl⟩
  rw [← hg] at HR ⊢
  have HG := Lib.hid (show w.heap.size ≤ g by omega)
  clear hown hgrow hg hi hz0 hz1 hz2
  go_loopw [6, 7, 8, 24] (fun u v l i wr => ∃ (k : Nat) (p : Nat → Nat) (H : Nat → Value), k ≤ n ∧ i = .int .i64 (k : Int) ∧ l = .int .i64 (Zx.lp x p k) ∧ Zx.El n x p k ∧
    Run w wr g u v H k (Mx.row k fun i => (p i : Int)) (Mx.row n fun i => if i < k then Zx.dt (i + 1) x else 0) n x p) (fun _ _ _ i _ => n - (intOf i).toNat)
  case atStart =>
    refine ⟨0, fun _ => 0, fun _ => .nilFunc, Nat.zero_le _, rfl, rfl, Zx.El.start n x _, ⟨HK.out, HG.out, ?_, fnsV_none _ _ _, Own.none _ _, fun i hi => absurd hi (by omega)⟩⟩
    have := HR.out
    rw [Mx.row_rep] at this
    rw [show (Mx.row n fun i => if i < 0 then Zx.dt (i + 1) x else 0) = Mx.row n fun _ => 0 from Mx.row_ext fun i _ => by rw [if_neg (by omega)]]
    exact this
  case round =>
    obtain ⟨k, p, H, hk, rfl, rfl, hel, hrun⟩ := hrel
    obtain ⟨wo, hwo⟩ : ∃ y, y = wr := ⟨_, rfl⟩
    subst hwo
    have EL := Lib.hid hel
    have RN := Lib.hid hrun
    clear HR HK
    by_cases hlt : k < n
    · obtain ⟨ad, A1, d1, rfl, _, x1, _, l1⟩ := (HA.out.keep hrun.kp).row hlt
      have CL := Lib.hid (sclone_any A1 (Mx.row n (x k)) d1 wo l1 (by rw [Mx.len_row]; omega))
      rw [Mx.len_row] at CL
      obtain ⟨Au, cu, hu, hcu, _⟩ := hrun.st.form
      have hku : k ≤ 1000 := by omega
      clear l1 hel hrun
      go_wp2_with fail
      refine (CL.out).mono ?_; rintro e w1 ⟨vr, rfl, hor, hkr⟩
      obtain ⟨z, cz, rfl, hz, hcz⟩ := own_some hor (by rw [Mx.len_row]; omega)
      rw [Mx.len_row] at hor hcz ⊢
      have HOR := Lib.hid hor
      have HKR := Lib.hid hkr
      clear hor hkr
      subst hu
      go_wp2_with fail
      go_loopw [34] (fun j wq => ∃ t : Nat, t ≤ k ∧ j = .int .i64 (t : Int) ∧ Own wq wo.heap.size (.slice (some ⟨z, 0, none⟩) n cz) (Mx.row n (Zx.bd x p t k)) ∧ Kp wo wq) (fun j _ => k - (intOf j).toNat)
      case atStart => exact ⟨0, Nat.zero_le _, rfl, by
        rw [show Mx.row n (Zx.bd x p 0 k) = Mx.row n (x k) from Mx.row_ext fun j _ => Zx.bd_zero x p k j]
        exact HOR.out, HKR.out⟩
      case round =>
        obtain ⟨t, ht, rfl, ho, hkq⟩ := hrel
        have HO := Lib.hid ho
        have HQ := Lib.hid hkq
        clear HOR HKR ho hkq
        by_cases htk : t < k
        · obtain ⟨Au', cu', e', _, hx⟩ := (RN.out.keep HQ.out).st.form
          cases e'
          obtain ⟨ad1, rfl, _, x2⟩ := hx t htk
          obtain ⟨P, R, L, Z, cc, hs, f1, f2, f3, f4⟩ := RN.out.fn t htk
          rw [(hs.keep HQ.out).fn] at x2
          have hb := fun j (hj : j < n) => EL.out.bound S5 NN.out (t := t) (r := k) (by omega) (by omega) hlt hj
          have hb2 := fun j (hj : j < n) => EL.out.bound S5 NN.out (t := t) (r := t) (by omega) (by omega) (by omega) hj
          have ST := Lib.hid (step_any _ P R L Z n cc (p t) (Zx.lp x p t) (Zx.bd x p t t) (Zx.bd x p t k) wr wo.heap.size z cz (hs.keep HQ.out) HO.out
            (by have := f1.2.1; omega) (by have := f2.2.1; omega) (by have := f3.2.1; omega) (by have := f4.2.1; omega) (EL.out.lt t htk) (by omega) (EL.out.ne (by omega)) hb hb2)
          rw [show (Mx.row n fun j => (Zx.bd x p t k j * Zx.bd x p t t (p t) - Zx.bd x p t k (p t) * Zx.bd x p t t j).tdiv (Zx.lp x p t)) = Mx.row n (Zx.bd x p (t + 1) k) from Mx.row_ext fun j _ => EL.out.step htk k j] at ST
          clear hs f1 f2 f3 f4 hb hb2 hx
          go_wp2_with fail
          refine (ST.out).mono ?_; rintro e w2 ⟨rfl, ho2, hk2⟩
          have HO2 := Lib.hid ho2
          have HQ2 := Lib.hid (hk2 wo hz HQ.out)
          clear ho2 hk2
          go_wp2_with fail
          go_roundw
          case rel => exact ⟨t + 1, by omega, by go_num, HO2.out, HQ2.out⟩
          case measure => simp [intOf]; omega
        · obtain rfl : t = k := by omega
          obtain ⟨Az, cz', ez, lz, _⟩ := HO.out.cap
          rw [Mx.len_row] at ez
          cases ez
          have IX := Lib.hid (idx_any (some ⟨z, 0, none⟩) (Mx.row n (Zx.bd x p t t)) n cz wr lz (Mx.len_row _ _) (by omega))
          clear lz
          go_wp2_with fail
          refine (IX.out).mono ?_; rintro e w2 ⟨hc, rfl⟩
          rcases hc with ⟨q, hq, hq1, hq2, rfl⟩ | ⟨hall, rfl⟩
          · rw [Mx.row_at _ _ _ hq] at hq1
            have EL2 := Lib.hid (EL.out.next hq hq1 fun j hj => by have := hq2 j hj; rw [Mx.row_at _ _ _ (by omega)] at this; exact this)
            have hqn : ¬ ((q : Int) < 0) := by omega
            have EM := Lib.hid (fun w => elim_any (some ⟨z, 0, none⟩) n cz (q : Int) (Zx.lp x p t) w)
            clear hq1 hq2
            go_wp2_with fail
            refine (EM.out _).mono ?_; rintro e w3 ⟨P, R, L, rfl, ⟨b1, b2, b3⟩, y1, y2, y3, k3⟩
            have R3 := Lib.hid (RN.out.keep (HQ.out.trans k3))
            have c3 := (k3.cell (p := ⟨z, q, none⟩) (cell_lt (own_cell HO.out q (by rw [Mx.len_row]; exact hq)))).trans (own_cell HO.out q (by rw [Mx.len_row]; exact hq))
            rw [Mx.row_at _ _ _ hq] at c3
            have hzl := cell_lt c3
            have hws := HQ.out.size
            have FZ := Lib.hid (fun (w' : World) (hs : w3.heap.size ≤ w'.heap.size) => RN.out.free (w' := w') hz (Nat.lt_of_lt_of_le hzl hs))
            have SF := Lib.hid (show StepFree w3 g (.slice Au t cu) u7 (.func (.func 36) #[] #[.pointer (some ⟨P, 0, none⟩), .pointer (some ⟨R, 0, none⟩), .pointer (some ⟨L, 0, none⟩)]) n x (Zx.upd p t q) t by
              refine ⟨P, R, L, z, cz, ⟨rfl, ?_, y2, ?_, fun j hj => ?_⟩, RN.out.free (Nat.le_trans hws b1) (cell_lt y1), RN.out.free (Nat.le_trans hws b2) (cell_lt y2), RN.out.free (Nat.le_trans hws b3) (cell_lt y3), RN.out.free hz hzl⟩
              · rw [Zx.upd_self]; exact y1
              · rw [Zx.lp_upd (Nat.le_refl t)]; exact y3
              · rw [Zx.bd_upd (Nat.le_refl t)]
                have := (k3.cell (p := ⟨z, j, none⟩) (cell_lt (own_cell HO.out j (by rw [Mx.len_row]; exact hj)))).trans (own_cell HO.out j (by rw [Mx.len_row]; exact hj))
                rw [Mx.row_at _ _ _ hj] at this
                exact this)
            have hg3 := R3.out.min.lt
            clear y1 y2 y3 k3 b1 b2 b3
            have epl : (Mx.row t fun i => (p i : Int)) ++ [(q : Int)] = Mx.row (t + 1) fun i => (Zx.upd p t q i : Int) := by
              rw [Mx.row_snoc, Zx.upd_self]
              congr 1
              exact Mx.row_ext fun i hi => by rw [Zx.upd_lt hi]
            have EP := Lib.hid epl
            have hyb := EL.out.bound S5 NN.out (t := t) (r := t) (Nat.le_refl _) (Nat.le_refl _) hlt hq
            have LP := Lib.hid (Zx.lp_next x p t q)
            obtain ⟨y, hy⟩ : ∃ y, y = Zx.bd x p t t q := ⟨_, rfl⟩
            rw [← hy] at c3 hyb LP
            clear hy epl
            go_wp2_with (at_builtin; first
              | (refine wpList_pushF rfl _ _ rfl (g + 1) _ t H _ w3.heap.size 1 rfl rfl (R3.out.keep ((Kp.rfl' w3).new _)).st (cell_made _ _ _ _ 0 rfl) rfl (by omega) (by simp; omega) ?_
                 intro u' w5 h1 h2 h3
                 have R5 := Lib.hid ((R3.out.keep ((Kp.rfl' w3).new _)).left (q := q) h1 h2 h3 (SF.out.keep ((Kp.rfl' w3).new _)))
                 have c5 := h2.cell (((Kp.rfl' w3).new _).cell (p := ⟨z, q, none⟩) hzl |>.trans c3) (fun e => (FZ.out w3 (Nat.le_refl _)).2.2.1 e.symm)
                 have hg5 := R5.out.min.lt
                 clear h1 h2 h3 c3)
              | (refine wpList_push rfl _ _ rfl (g + 1) _ (Mx.row t fun i => (p i : Int)) (q : Int) w5.heap.size 1 rfl rfl (R5.out.keep ((Kp.rfl' w5).new _)).pv (cell_made _ _ _ _ 0 rfl) (by rw [Mx.len_row]; omega) (by simp; omega) ?_
                 intro v' w6 h1 h2 h3
                 rw [EP.out] at h1
                 have R6 := Lib.hid ((R5.out.keep ((Kp.rfl' w5).new _)).right h1 h2 h3)
                 have c6 := h2.cell (((Kp.rfl' w5).new _).cell (p := ⟨z, q, none⟩) (cell_lt c5) |>.trans c5) (fun e => (FZ.out w3 (Nat.le_refl _)).2.2.2 e.symm)
                 obtain ⟨Av, cv, rfl, lv, _⟩ := h1.cap
                 rw [Mx.len_row] at R6 ⊢
                 have SG := Lib.hid (Sign_any Av (Mx.row (t + 1) fun i => (Zx.upd p t q i : Int)) (t + 1) cv w6 lv (Mx.len_row _ _) (by omega))
                 clear h1 h2 h3 c5 lv))
            refine (SG.out).mono ?_; rintro e w7 ⟨sv, rfl, hsg, k7⟩
            have R7 := Lib.hid (R6.out.keep k7)
            have hsb := hsg.bound
            have hw7 : IntKind.i64.wrap (sv * y) = sv * y := IntWalk.i64_in _ (by have := mul_within sv y (by omega) hyb; omega)
            have z1 := R7.out.min.cell t (by rw [Mx.len_row]; exact hlt)
            have z2 := R7.out.min.free t
            have DT := Lib.hid (show sv * y = Zx.dt (t + 1) x by
              have e1 := sign_sp hsg
              rw [Zx.sp_congr fun i hi => Mx.row_at _ _ _ hi] at e1
              rw [e1, ← LP.out]
              exact EL2.out.lead)
            clear hsg k7 hsb hyb c6
            go_wp2_with fail
            go_roundw
            case rel =>
              have := R7.out.store t (sv * y)
              rw [Mx.row_set] at this
              have ee : (Mx.row n fun j => if j = t then sv * y else if j < t then Zx.dt (j + 1) x else 0) = Mx.row n fun i => if i < t + 1 then Zx.dt (i + 1) x else 0 := Mx.row_ext fun j _ => by
                by_cases e : j = t
                · rw [if_pos e, if_pos (by omega), e, DT.out]
                · rw [if_neg e]
                  by_cases e2 : j < t
                  · rw [if_pos e2, if_pos (by omega)]
                  · rw [if_neg e2, if_neg (by omega)]
              rw [ee] at this
              exact ⟨t + 1, Zx.upd p t q, _, by omega, by go_num, by rw [LP.out], EL2.out, this⟩
            case measure => simp [intOf]; omega
          · have R2 := Lib.hid (RN.out.keep HQ.out)
            have ML := Lib.hid (show (Mx.row n fun i => if i < t then Zx.dt (i + 1) x else 0) = leads n x from Mx.row_ext fun i hi => by
              by_cases e : i < t
              · rw [if_pos e]
              · rw [if_neg e]
                exact (EL.out.null (fun j hj => by have := hall j hj; rw [Mx.row_at _ _ _ hj] at this; exact this) (by omega) (by omega)).symm)
            clear hall
            go_wp2_with fail
            go_ret2
            exact ⟨g, rfl, by rw [← ML.out]; exact R2.out.min, R2.out.kp⟩
    · obtain rfl : k = n := by omega
      have R2 := Lib.hid (show Row wo g (leads k x) by
        rw [show leads k x = Mx.row k fun i => if i < k then Zx.dt (i + 1) x else 0 from Mx.row_ext fun i hi => by rw [if_pos hi]]
        exact hrun.min)
      clear hel hrun
      go_wp2_with fail
      go_ret2
      exact ⟨g, rfl, R2.out, RN.out.kp⟩

set_option maxRecDepth 100000 in
set_option maxHeartbeats 1600000 in
theorem BOf_bad (A : Option Addr) (m : List (List Int)) (n d : Nat) (w : World) (ha : LiesM w A m) (hn : m.length = n) (h : qcode 5 (-9) 9 m ≠ 0) :
    Calls Try.prog 18 #[.slice A n d] w fun e w' => e = .returned (.tuple #[.int .i64 0, errOf (qcode 5 (-9) 9 m)]) ∧ Kp w w' := by
  have LB := Lib.hid (Lead_bad A m n d w ha hn h)
  rw [errOf_ne _ h] at LB ⊢
  generalize qcode 5 (-9) 9 m = z at *
  clear ha hn h
  go_enter Try.func18, Try.ntmps18
  go_wp2_with fail
  refine (LB.out).mono ?_; rintro e w' ⟨rfl, hk⟩
  have HK := Lib.hid hk
  clear hk
  go_wp2_with fail
  go_ret2
  exact ⟨rfl, HK.out⟩

set_option maxRecDepth 100000 in
set_option maxHeartbeats 1600000 in
theorem BOf_ok (A : Option Addr) (x : Nat → Nat → Int) (m : List (List Int)) (n d : Nat) (w : World) (ha : LiesM w A m) (s : Shz n x m) :
    Calls Try.prog 18 #[.slice A n d] w fun e w' => e = .returned (.tuple #[.int .i64 (Zx.dt n x), .nilIface]) ∧ Kp w w' := by
  have LO := Lib.hid (Lead_ok A x m n d w ha s)
  have h0 := s.n0
  have h5 := s.n5
  obtain ⟨k, hk⟩ : ∃ k, n = k + 1 := ⟨n - 1, by omega⟩
  have HN := Lib.hid hk
  have hk5 : k < 5 := by omega
  have e1 : (n : Int) - 1 = (k : Int) := by omega
  have hkn : k < n := by omega
  clear ha s hk
  go_enter Try.func18, Try.ntmps18
  go_wp2_with fail
  refine (LO.out).mono ?_; rintro e w' ⟨g, rfl, hr, hk⟩
  have x1 := hr.cell k (by unfold leads; rw [Mx.len_row]; exact hkn)
  unfold leads at x1
  rw [Mx.row_at _ _ _ hkn, ← HN.out] at x1
  have HK := Lib.hid hk
  clear hr hk
  go_wp2_with fail
  go_ret2
  exact ⟨rfl, HK.out⟩

end Go.Proofs.Ytbdpcpodmmhjaaa

/- The laws' small function 'in'. -/
namespace Go.Proofs.Ytbdpcpodmmhjaaa
open Go.ChangeShapes Go.WideShapes Go.ChangeAt Go.RowKit
set_option linter.unusedVariables false


theorem law3In_any (n a b : Int) (w : World) (t : Bool) (h : (decide (a ≤ n) && decide (n ≤ b)) = t) :
    Calls Try.prog 10 #[.int .i64 n, .int .i64 a, .int .i64 b] w fun e w' => e = .returned (.bool t) ∧ w = w' := by
  have H := Lib.hid h
  clear h
  by_cases h1 : a ≤ n
  · by_cases h2 : n ≤ b
    · go_enter Try.func10, Try.ntmps10
      go_wp2
      go_ret
      exact ⟨ret_bool (by rw [← H.out]; simp [h1, h2]), rfl⟩
    · go_enter Try.func10, Try.ntmps10
      go_wp2
      go_ret
      exact ⟨ret_bool (by rw [← H.out]; simp [h1]; omega), rfl⟩
  · go_enter Try.func10, Try.ntmps10
    go_wp2
    go_ret
    exact ⟨ret_bool (by rw [← H.out]; simp; omega), rfl⟩

theorem topIn_any (n a b : Int) (w : World) (t : Bool) (h : (decide (a ≤ n) && decide (n ≤ b)) = t) :
    Calls Try.prog 17 #[.int .i64 n, .int .i64 a, .int .i64 b] w fun e w' => e = .returned (.bool t) ∧ w = w' := by
  have H := Lib.hid h
  clear h
  by_cases h1 : a ≤ n
  · by_cases h2 : n ≤ b
    · go_enter Try.func17, Try.ntmps17
      go_wp2
      go_ret
      exact ⟨ret_bool (by rw [← H.out]; simp [h1, h2]), rfl⟩
    · go_enter Try.func17, Try.ntmps17
      go_wp2
      go_ret
      exact ⟨ret_bool (by rw [← H.out]; simp [h1]; omega), rfl⟩
  · go_enter Try.func17, Try.ntmps17
    go_wp2
    go_ret
    exact ⟨ret_bool (by rw [← H.out]; simp; omega), rfl⟩


end Go.Proofs.Ytbdpcpodmmhjaaa

/- Comparing rows and matrices, small matrices just laid down: for all packages. -/
namespace Go.Proofs.Ytbdpcpodmmhjaaa
open Go.ChangeShapes Go.WideShapes Go.ChangeAt Go.RowKit
set_option linter.unusedVariables false

theorem rows_same (a b : List (List Int)) (h : a.length = b.length) (h2 : ∀ k, k < a.length → a.getD k [] = b.getD k []) : a = b := by
  refine List.ext_getElem h fun k h3 h4 => ?_
  have := h2 k h3
  rwa [List.getD_eq_getElem?_getD, List.getD_eq_getElem?_getD, List.getElem?_eq_getElem h3, List.getElem?_eq_getElem h4] at this

/-- No row is longer than a slice may be. -/
def Modest (m : List (List Int)) : Prop := m.length ≤ 1000000 ∧ ∀ k, k < m.length → (m.getD k []).length ≤ 1000000
theorem modest_tab {r c : Nat} (g : Nat → Nat → Int) (hr : r ≤ 1000000) (hc : c ≤ 1000000) : Modest (Mx.tab r c g) :=
  ⟨by rw [Mx.len_tab]; exact hr, fun k hk => by rw [Mx.len_tab] at hk; rw [Mx.tab_len _ _ _ _ hk]; exact hc⟩
theorem modest_nil : Modest [] := ⟨by decide, fun k hk => absurd hk (by simp)⟩


theorem cell_just (w : World) (cs : Array Value) (e : TypeId) (g k : Nat) (h : g = w.heap.size) : (w.alloc (.cells cs e)).cell? ⟨g, k, none⟩ = cs[k]? := by
  subst h
  exact cell_of_row _ _ k _ e (0, 0) (heap_alloc_new w _)
/-- What came in: the rows up to the capacity, each with its numbers up to its own; its rows are the first of them. -/
theorem liesM_open {w : World} {a : Addr} {len cap : Nat} {A : Nat → Option Addr} {L C : Nat → Nat} {Z : Nat → List Int} (hl : len ≤ cap)
    (h : ∀ r, r < cap → w.cell? (a.add r) = some (.slice (A r) (L r) (C r)) ∧ L r ≤ C r ∧ C r ≤ maxLen ∧ (Z r).length = C r ∧ (∀ n ∈ Z r, (Lit.int .i64 n).wf = true) ∧ (A r = none → C r = 0) ∧
      ∀ a', A r = some a' → 0 ≤ a'.block ∧ ∀ c, c < C r → w.cell? (a'.add c) = some (.int .i64 ((Z r).getD c 0))) :
    ((List.range len).map fun r => (Z r).take (L r)).length = len ∧ LiesM w (some a) ((List.range len).map fun r => (Z r).take (L r)) := by
  refine ⟨by simp, fun k hk => ?_⟩
  have hk' : k < len := by simpa using hk
  obtain ⟨h1, h2, _, h4, _, h6, h7⟩ := h k (by omega)
  have e : ((List.range len).map fun r => (Z r).take (L r)).getD k [] = (Z k).take (L k) := by simp [hk']
  have el : ((Z k).take (L k)).length = L k := by rw [List.length_take]; omega
  rw [e, el]
  refine ⟨a, A k, C k, rfl, ?_, h1, h2, ?_⟩
  · have := cell_lt h1; rwa [block_add] at this
  · cases hA : A k with
    | none =>
      intro j hj
      have := h6 hA
      rw [el] at hj
      omega
    | some a' => exact (lies_take (w := w) (x := a') h2 h4 (fun i hi => (h7 a' hA).2 i (by omega))).2
/-- Two rows of two, and the heads of both, just laid down. -/
def laid22 (w : World) (x : Nat → Nat → Int) : World :=
  ((w.alloc (.cells #[.int .i64 (x 0 0), .int .i64 (x 0 1)] 3)).alloc (.cells #[.int .i64 (x 1 0), .int .i64 (x 1 1)] 3)).alloc (.cells #[.slice (some ⟨w.heap.size, 0, none⟩) 2 2, .slice (some ⟨w.heap.size + 1, 0, none⟩) 2 2] 22)
theorem laid22_kp (w : World) (x : Nat → Nat → Int) : Kp w (laid22 w x) := (((Kp.rfl' w).new _).new _).new _
theorem laid22_size (w : World) (x : Nat → Nat → Int) : (laid22 w x).heap.size = w.heap.size + 3 := by simp [laid22]
theorem laid22_lies (w : World) (x : Nat → Nat → Int) : LiesM (laid22 w x) (some ⟨w.heap.size + 2, 0, none⟩) (Mx.tab 2 2 x) := by
  have h0 : Lies (w.alloc (.cells #[.int .i64 (x 0 0), .int .i64 (x 0 1)] 3)) (some ⟨w.heap.size, 0, none⟩) (Mx.row 2 (x 0)) := lies_new' w _ [x 0 0, x 0 1] _ rfl
  have h1 : Lies ((w.alloc (.cells #[.int .i64 (x 0 0), .int .i64 (x 0 1)] 3)).alloc (.cells #[.int .i64 (x 1 0), .int .i64 (x 1 1)] 3)) (some ⟨w.heap.size + 1, 0, none⟩) (Mx.row 2 (x 1)) :=
    lies_new' (w.alloc _) _ [x 1 0, x 1 1] _ (by simp)
  have k2 := ((Kp.rfl' (w.alloc (.cells #[.int .i64 (x 0 0), .int .i64 (x 0 1)] 3))).new (.cells #[.int .i64 (x 1 0), .int .i64 (x 1 1)] 3)).new (.cells #[.slice (some ⟨w.heap.size, 0, none⟩) 2 2, .slice (some ⟨w.heap.size + 1, 0, none⟩) 2 2] 22)
  have k3 := (Kp.rfl' ((w.alloc (.cells #[.int .i64 (x 0 0), .int .i64 (x 0 1)] 3)).alloc (.cells #[.int .i64 (x 1 0), .int .i64 (x 1 1)] 3))).new (.cells #[.slice (some ⟨w.heap.size, 0, none⟩) 2 2, .slice (some ⟨w.heap.size + 1, 0, none⟩) 2 2] 22)
  have hs : w.heap.size + 2 < (laid22 w x).heap.size := by rw [laid22_size]; omega
  intro k hk
  rw [Mx.len_tab] at hk
  match k, hk with
  | 0, _ => exact ⟨_, some ⟨w.heap.size, 0, none⟩, 2, rfl, hs, by rw [add_at]; unfold laid22; rw [cell_just _ _ _ _ _ (by simp)]; simp [Mx.tab, Mx.row], by simp [Mx.tab, Mx.row], h0.keep k2⟩
  | 1, _ => exact ⟨_, some ⟨w.heap.size + 1, 0, none⟩, 2, rfl, hs, by rw [add_at]; unfold laid22; rw [cell_just _ _ _ _ _ (by simp)]; simp [Mx.tab, Mx.row], by simp [Mx.tab, Mx.row], h1.keep k3⟩

def n22 (a b c d : Int) : Nat → Nat → Int := fun i j => if i = 0 then (if j = 0 then a else b) else (if j = 0 then c else d)
/-- The same with the numbers and the block as they stand in a walk. -/
abbrev lit22 (w : World) (g : Nat) (a b c d : Int) : World :=
  ((w.alloc (.cells #[.int .i64 a, .int .i64 b] 3)).alloc (.cells #[.int .i64 c, .int .i64 d] 3)).alloc (.cells #[.slice (some ⟨g, 0, none⟩) 2 2, .slice (some ⟨g + 1, 0, none⟩) 2 2] 22)
theorem lit22_lies (w : World) (g : Nat) (a b c d : Int) (h : g = w.heap.size) : LiesM (lit22 w g a b c d) (some ⟨g + 1 + 1, 0, none⟩) (Mx.tab 2 2 (n22 a b c d)) := by
  subst h
  exact laid22_lies w (n22 a b c d)
theorem lit22_kp (w : World) (g : Nat) (a b c d : Int) : Kp w (lit22 w g a b c d) := (((Kp.rfl' w).new _).new _).new _
theorem lit22_size (w : World) (g : Nat) (a b c d : Int) : (lit22 w g a b c d).heap.size = w.heap.size + 1 + 1 + 1 := by simp [lit22]

end Go.Proofs.Ytbdpcpodmmhjaaa

/- The law TopReal, walked. -/
namespace Go.Proofs.Ytbdpcpodmmhjaaa
open Go.ChangeShapes Go.WideShapes Go.ChangeAt Go.RowKit
set_option linter.unusedVariables false

theorem whl_01 : Whl 2 [0, 1] := ⟨rfl, by decide, by decide, fun z hz => by simp at hz; omega, fun _ => by decide⟩
theorem ends_01 : Stu.ends (Stu.chain [0, 1]) = 1 := by
  have h1 := Stu.odd_ends (f := [0, 1]) (by decide) (by decide) whl_01.tp rfl
  have h2 := (whl_01.sturm.parts whl_01.ne).2.1
  have h3 : ([0, 1] : List Int).length = 2 := rfl
  omega
theorem isq_nn (x : Int) : 0 ≤ x * x := by
  rcases Int.le_total 0 x with h | h
  · exact Int.mul_nonneg h h
  · have := Int.mul_nonneg (show 0 ≤ -x by omega) (show 0 ≤ -x by omega)
    rwa [Int.neg_mul_neg] at this
theorem sq_sum {x y : Int} (h : x * x + y * y = 0) : x = 0 ∧ y = 0 := by
  have a := isq_nn x
  have b := isq_nn y
  exact ⟨(Int.mul_eq_zero.1 (show x * x = 0 by omega)).elim id id, (Int.mul_eq_zero.1 (show y * y = 0 by omega)).elim id id⟩
theorem sym_ends (a b c : Int) : (a = c ∧ b = 0 → Stu.ends (Stu.chain [a * c - b * b, -a - c, 1]) = 1) ∧ (¬ (a = c ∧ b = 0) → Stu.ends (Stu.chain [a * c - b * b, -a - c, 1]) = 2) := by
  have e : (-a - c) * (-a - c) - 4 * (a * c - b * b) = (a - c) * (a - c) + 2 * b * (2 * b) := by grind
  obtain ⟨h1, h2⟩ := Stu.square_ends (a * c - b * b) (-a - c)
  rw [e] at h1 h2
  constructor
  · rintro ⟨rfl, rfl⟩
    exact h2 (by simp)
  · intro h
    refine h1 ?_
    have a1 := isq_nn (a - c)
    have a2 := isq_nn (2 * b)
    rcases Int.lt_or_eq_of_le (show 0 ≤ (a - c) * (a - c) + 2 * b * (2 * b) by omega) with q | q
    · exact q
    · have := sq_sum q.symm
      exact absurd ⟨by omega, by omega⟩ h

set_option maxRecDepth 100000 in
set_option maxHeartbeats 3200000 in
theorem walk_TopReal (a b c : Int) (w : World) :
    Calls Try.prog 7 #[.int .i64 a, .int .i64 b, .int .i64 c] w fun e w' => e = .returned (.bool true) ∧ Kp w w' := by
  have R1 := Lib.hid (fun (w1 : World) (A : Option Addr) (h1 : Lies w1 A [0, 1]) => UAll_ok A [0, 1] 2 2 w1 h1 whl_01 (by decide))
  rw [ends_01] at R1
  have INY := Lib.hid (fun (z lo hi : Int) (h1 : lo ≤ z) (h2 : z ≤ hi) (w' : World) => topIn_any z lo hi w' true (by rw [decide_eq_true h1, decide_eq_true h2]; rfl))
  have INN := Lib.hid (fun (z lo hi : Int) (h : ¬ (lo ≤ z ∧ z ≤ hi)) (w' : World) => topIn_any z lo hi w' false (by
    by_cases h1 : lo ≤ z
    · rw [decide_eq_false (show ¬ z ≤ hi from fun h2 => h ⟨h1, h2⟩), Bool.and_false]
    · rw [decide_eq_false h1]; rfl))
  by_cases pa : -9 ≤ a ∧ a ≤ 9
  · by_cases pb : -4 ≤ b ∧ b ≤ 4
    · by_cases pc : -9 ≤ c ∧ c ≤ 9
      · have IA := Lib.hid (INY.out a (-9) 9 pa.1 pa.2)
        have IB := Lib.hid (INY.out b (-4) 4 pb.1 pb.2)
        have IC := Lib.hid (INY.out c (-9) 9 pc.1 pc.2)
        have sh : Shz 2 (n22 a b b c) (Mx.tab 2 2 (n22 a b b c)) := ⟨rfl, by decide, by decide, fun i j hi hj => by unfold n22; split <;> split <;> omega⟩
        have dt : Zx.dt 2 (n22 a b b c) = a * c - b * b := Zx.dt_pair _
        have O1 := Lib.hid (fun (w' : World) => BOf_ok (some ⟨w'.heap.size + 1 + 1, 0, none⟩) _ _ 2 2 (lit22 w' w'.heap.size a b b c) (lit22_lies w' _ a b b c rfl) sh)
        rw [dt] at O1
        have b1 := Stu.prod_bd pa pc
        have b2 := Stu.prod_bd pb pb
        obtain ⟨S1, S2⟩ := sym_ends a b c
        obtain ⟨U, hU⟩ : ∃ U, U = a * c := ⟨_, rfl⟩
        obtain ⟨V, hV⟩ : ∃ V, V = b * b := ⟨_, rfl⟩
        rw [← hU] at b1 O1 S1 S2
        rw [← hV] at b2 O1 S1 S2
        obtain ⟨D, hD⟩ : ∃ D, D = U - V := ⟨_, rfl⟩
        rw [← hD] at O1 S1 S2
        obtain ⟨p, hp⟩ : ∃ p, p = -a - c := ⟨_, rfl⟩
        rw [← hp] at S1 S2
        have hw1 : IntKind.i64.wrap (a * c) = U := by rw [← hU]; exact IntWalk.i64_in _ (by omega)
        have hw2 : IntKind.i64.wrap (b * b) = V := by rw [← hV]; exact IntWalk.i64_in _ (by omega)
        have hw3 : IntKind.i64.wrap (U - V) = D := by rw [← hD]; exact IntWalk.i64_in _ (by omega)
        have hw4 : IntKind.i64.wrap (-a) = -a := IntWalk.i64_in _ (by omega)
        have hw5 : IntKind.i64.wrap (-a - c) = p := by rw [← hp]; exact IntWalk.i64_in _ (by omega)
        have pp : -18 ≤ p ∧ p ≤ 18 := by omega
        have PP := Lib.hid pp
        clear hU hV hD hp b1 b2 sh dt pp pa pb pc
        by_cases hd : -20 ≤ D ∧ D ≤ 20
        · have wh : Whl 3 [D, p, 1] := ⟨rfl, by decide, by decide, fun z hz => by have := PP.out; simp at hz; omega, fun _ => by show (1 : Int) ≠ 0; decide⟩
          have R2 := Lib.hid (fun (w1 : World) (A : Option Addr) (h1 : Lies w1 A [D, p, 1]) => UAll_ok A [D, p, 1] 3 3 w1 h1 wh (by decide))
          clear wh hd
          by_cases ac : a = c
          · by_cases b0 : b = 0
            · rw [S1 ⟨ac, b0⟩] at R2
              have eac : (a == c) = true := by rw [beq_iff_eq]; exact ac
              have eb : (b == 0) = true := by rw [beq_iff_eq]; exact b0
              clear S1 S2 ac b0
              go_enter Try.func7, Try.ntmps7
              go_wp2_with fail
              refine (R1.out _ _ (lies_new w _ [0, 1])).mono ?_; rintro e w1 ⟨rfl, k1⟩
              have K1 := Lib.hid (((Kp.rfl' w).new _).trans k1)
              clear k1
              go_wp2_with fail
              refine (IA.out _).mono ?_; rintro e w' ⟨rfl, rfl⟩
              go_wp2_with fail
              refine (IB.out _).mono ?_; rintro e w' ⟨rfl, rfl⟩
              go_wp2_with fail
              refine (IC.out _).mono ?_; rintro e w' ⟨rfl, rfl⟩
              go_wp2_with fail
              refine (O1.out w1).mono ?_; rintro e w2 ⟨rfl, k2⟩
              have K2 := Lib.hid (K1.out.trans ((lit22_kp w1 w1.heap.size a b b c).trans k2))
              clear k2
              go_wp2_with fail
              refine (R2.out _ _ (lies_new w2 _ [D, p, 1])).mono ?_; rintro e w3 ⟨rfl, k3⟩
              have K3 := Lib.hid ((K2.out.new _).trans k3)
              clear k3
              go_wp2_with fail
              go_ret
              exact ⟨rfl, K3.out⟩
            · rw [S2 fun h => b0 h.2] at R2
              have eac : (a == c) = true := by rw [beq_iff_eq]; exact ac
              have eb : (b == 0) = false := by rw [beq_eq_false_iff_ne]; exact b0
              clear S1 S2 ac b0
              go_enter Try.func7, Try.ntmps7
              go_wp2_with fail
              refine (R1.out _ _ (lies_new w _ [0, 1])).mono ?_; rintro e w1 ⟨rfl, k1⟩
              have K1 := Lib.hid (((Kp.rfl' w).new _).trans k1)
              clear k1
              go_wp2_with fail
              refine (IA.out _).mono ?_; rintro e w' ⟨rfl, rfl⟩
              go_wp2_with fail
              refine (IB.out _).mono ?_; rintro e w' ⟨rfl, rfl⟩
              go_wp2_with fail
              refine (IC.out _).mono ?_; rintro e w' ⟨rfl, rfl⟩
              go_wp2_with fail
              refine (O1.out w1).mono ?_; rintro e w2 ⟨rfl, k2⟩
              have K2 := Lib.hid (K1.out.trans ((lit22_kp w1 w1.heap.size a b b c).trans k2))
              clear k2
              go_wp2_with fail
              refine (R2.out _ _ (lies_new w2 _ [D, p, 1])).mono ?_; rintro e w3 ⟨rfl, k3⟩
              have K3 := Lib.hid ((K2.out.new _).trans k3)
              clear k3
              go_wp2_with fail
              go_ret
              exact ⟨rfl, K3.out⟩
          · rw [S2 fun h => ac h.1] at R2
            have eac : (a == c) = false := by rw [beq_eq_false_iff_ne]; exact ac
            clear S1 S2 ac
            go_enter Try.func7, Try.ntmps7
            go_wp2_with fail
            refine (R1.out _ _ (lies_new w _ [0, 1])).mono ?_; rintro e w1 ⟨rfl, k1⟩
            have K1 := Lib.hid (((Kp.rfl' w).new _).trans k1)
            clear k1
            go_wp2_with fail
            refine (IA.out _).mono ?_; rintro e w' ⟨rfl, rfl⟩
            go_wp2_with fail
            refine (IB.out _).mono ?_; rintro e w' ⟨rfl, rfl⟩
            go_wp2_with fail
            refine (IC.out _).mono ?_; rintro e w' ⟨rfl, rfl⟩
            go_wp2_with fail
            refine (O1.out w1).mono ?_; rintro e w2 ⟨rfl, k2⟩
            have K2 := Lib.hid (K1.out.trans ((lit22_kp w1 w1.heap.size a b b c).trans k2))
            clear k2
            go_wp2_with fail
            refine (R2.out _ _ (lies_new w2 _ [D, p, 1])).mono ?_; rintro e w3 ⟨rfl, k3⟩
            have K3 := Lib.hid ((K2.out.new _).trans k3)
            clear k3
            go_wp2_with fail
            go_ret
            exact ⟨rfl, K3.out⟩
        · have bad : ucd [D, p, 1] ≠ 0 := by
            rw [ucd_range (L := [D, p, 1]) (by show ¬ (3 : Nat) = 0; decide) (by show ¬ 4 < 3; decide) fun h => hd (h 0 (by show 0 < 3; decide))]; decide
          have R2 := Lib.hid (fun (w1 : World) (A : Option Addr) (h1 : Lies w1 A [D, p, 1]) => UAll_bad A [D, p, 1] 3 w1 h1 bad)
          rw [errOf_ne _ bad] at R2
          have ID := Lib.hid (INN.out D (-20) 20 hd)
          generalize ucd [D, p, 1] = q at *
          clear hd bad S1 S2
          go_enter Try.func7, Try.ntmps7
          go_wp2_with fail
          refine (R1.out _ _ (lies_new w _ [0, 1])).mono ?_; rintro e w1 ⟨rfl, k1⟩
          have K1 := Lib.hid (((Kp.rfl' w).new _).trans k1)
          clear k1
          go_wp2_with fail
          refine (IA.out _).mono ?_; rintro e w' ⟨rfl, rfl⟩
          go_wp2_with fail
          refine (IB.out _).mono ?_; rintro e w' ⟨rfl, rfl⟩
          go_wp2_with fail
          refine (IC.out _).mono ?_; rintro e w' ⟨rfl, rfl⟩
          go_wp2_with fail
          refine (O1.out w1).mono ?_; rintro e w2 ⟨rfl, k2⟩
          have K2 := Lib.hid (K1.out.trans ((lit22_kp w1 w1.heap.size a b b c).trans k2))
          clear k2
          go_wp2_with fail
          refine (R2.out _ _ (lies_new w2 _ [D, p, 1])).mono ?_; rintro e w3 ⟨rfl, k3⟩
          have K3 := Lib.hid ((K2.out.new _).trans k3)
          clear k3
          go_wp2_with fail
          refine (ID.out _).mono ?_; rintro e w' ⟨rfl, rfl⟩
          go_wp2_with fail
          go_ret
          exact ⟨rfl, K3.out⟩
      · have IA := Lib.hid (INY.out a (-9) 9 pa.1 pa.2)
        have IB := Lib.hid (INY.out b (-4) 4 pb.1 pb.2)
        have IC := Lib.hid (INN.out c (-9) 9 pc)
        clear pa pb pc
        go_enter Try.func7, Try.ntmps7
        go_wp2_with fail
        refine (R1.out _ _ (lies_new w _ [0, 1])).mono ?_; rintro e w1 ⟨rfl, k1⟩
        have K1 := Lib.hid (((Kp.rfl' w).new _).trans k1)
        clear k1
        go_wp2_with fail
        refine (IA.out _).mono ?_; rintro e w' ⟨rfl, rfl⟩
        go_wp2_with fail
        refine (IB.out _).mono ?_; rintro e w' ⟨rfl, rfl⟩
        go_wp2_with fail
        refine (IC.out _).mono ?_; rintro e w' ⟨rfl, rfl⟩
        go_wp2_with fail
        go_ret
        exact ⟨rfl, K1.out⟩
    · have IA := Lib.hid (INY.out a (-9) 9 pa.1 pa.2)
      have IB := Lib.hid (INN.out b (-4) 4 pb)
      clear pa pb
      go_enter Try.func7, Try.ntmps7
      go_wp2_with fail
      refine (R1.out _ _ (lies_new w _ [0, 1])).mono ?_; rintro e w1 ⟨rfl, k1⟩
      have K1 := Lib.hid (((Kp.rfl' w).new _).trans k1)
      clear k1
      go_wp2_with fail
      refine (IA.out _).mono ?_; rintro e w' ⟨rfl, rfl⟩
      go_wp2_with fail
      refine (IB.out _).mono ?_; rintro e w' ⟨rfl, rfl⟩
      go_wp2_with fail
      go_ret
      exact ⟨rfl, K1.out⟩
  · have IA := Lib.hid (INN.out a (-9) 9 pa)
    clear pa
    go_enter Try.func7, Try.ntmps7
    go_wp2_with fail
    refine (R1.out _ _ (lies_new w _ [0, 1])).mono ?_; rintro e w1 ⟨rfl, k1⟩
    have K1 := Lib.hid (((Kp.rfl' w).new _).trans k1)
    clear k1
    go_wp2_with fail
    refine (IA.out _).mono ?_; rintro e w' ⟨rfl, rfl⟩
    go_wp2_with fail
    go_ret
    exact ⟨rfl, K1.out⟩

end Go.Proofs.Ytbdpcpodmmhjaaa
