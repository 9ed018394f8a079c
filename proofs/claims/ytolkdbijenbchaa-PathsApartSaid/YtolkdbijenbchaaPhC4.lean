/- Contracts of package paths, fourth part: families, Apart. -/
import Derived.Test.YtolkdbijenbchaaPhC3
namespace Go.Proofs.Ytolkdbijenbchaa
open Go.ChangeShapes Go.WideShapes Go.ChangeAt Go.RowKit Go.Shelf
set_option linter.unusedVariables false
attribute [local go_sem] Oper.semAt_some

/-- Two arrays of three heights are compared. -/
theorem h3_eq (x0 x1 x2 y0 y1 y2 : Nat) (w : World) : (Op.equalIn 10000 38 (hv x0 x1 x2) (hv y0 y1 y2)).run Try.prog w = .ok (decide ([x0, x1, x2] = [y0, y1, y2])) w := by
  obtain ⟨i0, hi, hz0, hz1, hz2⟩ := info_parts int_info
  have hcell : Try.prog.cellsOf 3 = 1 := by kernel_rfl
  have hag : Try.prog.underlying 3 = some (.int .i64) := Try.underlying3
  have pt : ∀ (cs : Array Value) (k : Nat) (x : Value) (w : World), cs[k]? = some x → (part 3 cs k).run Try.prog w = .ok x w := fun cs k x w h => by
    simp [part, isAgg, run_underlying hag, h, Sem.run_bind, Sem.run_pure, Result.andThen]
  rw [show (10000 : Nat) = 9999 + 1 from rfl, run_equalIn_array w 9999 _ _ Try.underlying38 hi, hcell]
  show (Op.eqItems 9999 3 1 _ _ [0, 1, 2]).run _ _ = _
  have eq : ∀ (a b : Int) (w : World), (Op.equalIn 9999 3 (.int .i64 a) (.int .i64 b)).run Try.prog w = .ok (a == b) w := fun a b w => run_equalIn_int w 9998 _ _ _ a b hag
  simp only [Op.eqItems, Sem.run_bind]
  have yes : ∀ {x y : Nat}, x = y → ((x : Int) == (y : Int)) = true := fun h => by rw [beq_iff_eq, h]
  have no : ∀ {x y : Nat}, ¬ x = y → ((x : Int) == (y : Int)) = false := fun h => by rw [beq_eq_false_iff_ne]; omega
  rw [pt _ _ (.int .i64 (x0 : Int)) w rfl, Result.andThen_ok, pt _ _ (.int .i64 (y0 : Int)) w rfl, Result.andThen_ok, eq, Result.andThen_ok]
  by_cases e0 : x0 = y0
  · rw [yes e0]
    simp only [Bool.not_true, Bool.false_eq_true, if_false, Sem.run_bind]
    rw [pt _ _ (.int .i64 (x1 : Int)) w rfl, Result.andThen_ok, pt _ _ (.int .i64 (y1 : Int)) w rfl, Result.andThen_ok, eq, Result.andThen_ok]
    by_cases e1 : x1 = y1
    · rw [yes e1]
      simp only [Bool.not_true, Bool.false_eq_true, if_false, Sem.run_bind]
      rw [pt _ _ (.int .i64 (x2 : Int)) w rfl, Result.andThen_ok, pt _ _ (.int .i64 (y2 : Int)) w rfl, Result.andThen_ok, eq, Result.andThen_ok]
      by_cases e2 : x2 = y2
      · rw [yes e2]
        simp only [Bool.not_true, Bool.false_eq_true, if_false, Sem.run_pure]
        rw [decide_eq_true (by rw [e0, e1, e2])]
      · rw [no e2]
        simp only [Bool.not_false, if_true, Sem.run_pure]
        rw [decide_eq_false (fun h => e2 (List.cons.inj (List.cons.inj (List.cons.inj h).2).2).1)]
    · rw [no e1]
      simp only [Bool.not_false, if_true, Sem.run_pure]
      rw [decide_eq_false (fun h => e1 (List.cons.inj (List.cons.inj h).2).1)]
  · rw [no e0]
    simp only [Bool.not_false, if_true, Sem.run_pure]
    rw [decide_eq_false (fun h => e0 (List.cons.inj h).1)]

theorem h3_three {x : List Nat} (h : Zx.H3 x) : ∃ a b c, x = [a, b, c] := by
  match x, h.len with
  | [a, b, c], _ => exact ⟨a, b, c, rfl⟩
theorem kept_setCell {T : Nat → Prop} {A W : World} (h : Kept T A W) (p : Addr) (v : Value) (ht : T p.block) : Kept T A (W.setCell p v) :=
  h.trans ⟨rfl, rfl, rfl, by simp, fun k _ hn => Below.heap_setCell W p v k fun e => hn (e ▸ ht)⟩
/-- What is known between two rounds: the width, where they end, how many there are so far. -/
structure FamI (w0 : World) (gw gt gc wd t u v : Nat) (F : List Nat → Int) (pre : List (List Nat)) (W : World) : Prop where
  wb : W.cell? ⟨gw, 0, none⟩ = some (.int .i64 (wd : Int))
  tb : Cl 38 W gt (hr t u v)
  cb : W.cell? ⟨gc, 0, none⟩ = some (.int .i64 (Zx.lsm pre F))
  cf : W.frozen? ⟨gc, 0, none⟩ = false
  b0 : 0 ≤ Zx.lsm pre F
  b1 : Zx.lsm pre F ≤ (pre.length : Int) * 1000000000000
  kp : Kp w0 W
theorem FamI.below {w0 : World} {gw gt gc wd t u v B : Nat} {F : List Nat → Int} {pre : List (List Nat)} {A A' : World} (h : FamI w0 gw gt gc wd t u v F pre A) (k : Below B A A') (h1 : gw < B) (h2 : gt < B) (h3 : gc < B) (h4 : w0.heap.size ≤ B) : FamI w0 gw gt gc wd t u v F pre A' :=
  ⟨(k.cell (p := ⟨gw, 0, none⟩) h1).trans h.wb, by unfold Cl; rw [k.block gt h2]; exact h.tb, (k.cell (p := ⟨gc, 0, none⟩) h3).trans h.cb, (k.frozen (p := ⟨gc, 0, none⟩) h3).trans h.cf, h.b0, h.b1, Below.trans h.kp (k.mono h4)⟩
theorem FamI.same {w0 : World} {gw gt gc wd t u v : Nat} {F : List Nat → Int} {pre : List (List Nat)} {A : World} {x : List Nat} (h : FamI w0 gw gt gc wd t u v F pre A) (hF : F x = 0) : FamI w0 gw gt gc wd t u v F (pre ++ [x]) A := by
  have e : Zx.lsm (pre ++ [x]) F = Zx.lsm pre F := by rw [Zx.lsm_snoc, hF, Int.add_zero]
  refine ⟨h.wb, h.tb, by rw [e]; exact h.cb, h.cf, by rw [e]; exact h.b0, ?_, h.kp⟩
  rw [e, List.length_append, List.length_singleton]; have := h.b1; omega
/-- One more. -/
theorem FamI.more {w0 : World} {gw gt gc wd t u v : Nat} {F : List Nat → Int} {pre : List (List Nat)} {A A' : World} {x : List Nat} {z : Int} (h : FamI w0 gw gt gc wd t u v F pre A) (k : Kp A A') (hz : z = F x) (hF : 0 ≤ F x ∧ F x ≤ 1000000000000) (h1 : gw ≠ gc) (h2 : gt ≠ gc) (h4 : w0.heap.size ≤ gc) :
    FamI w0 gw gt gc wd t u v F (pre ++ [x]) (A'.setCell ⟨gc, 0, none⟩ (.int .i64 (Zx.lsm pre F + z))) := by
  have e := Zx.lsm_snoc pre x F
  subst hz
  have hc := (k.cell (p := ⟨gc, 0, none⟩) (cell_lt h.cb)).trans h.cb
  have hf := (k.frozen (p := ⟨gc, 0, none⟩) (cell_lt h.cb)).trans h.cf
  refine ⟨?_, (h.tb.keep k).far h2 _, ?_, by simp [hf], ?_, ?_, (h.kp.trans k).put (p := ⟨gc, 0, none⟩) h4 _⟩
  · have hw := (k.cell (p := ⟨gw, 0, none⟩) (cell_lt h.wb)).trans h.wb
    rw [World.cell?_setCell_other (h := fun e => h1 (by cases e; rfl)), hw]
  · rw [e]; exact World.cell?_setCell_same _ _ _ hc
  · rw [e]; have := h.b0; omega
  · rw [e, List.length_append, List.length_singleton]; have := h.b1; omega

set_option maxRecDepth 100000 in
set_option maxHeartbeats 6400000 in
theorem fam_round (wd : Nat) (hw : wd ≤ 4) (t u v : Nat) (st : Zx.H3 [t, u, v]) (F : List Nat → Int) (hF : ∀ m, Zx.H3 m → 0 ≤ F m ∧ F m ≤ 1000000000000) (h0 : wd = 0 → ∀ m, F m = if m = [t, u, v] then 1 else 0)
    (hS : 0 < wd → ∀ (x y z : Nat) (w : World), Zx.H3 [x, y, z] → Calls Try.prog 14 #[.int .i64 ((wd : Int) - 1), hv x y z, hv t u v] w fun e w' => e = .returned (.int .i64 (F [x, y, z])) ∧ Kp w w')
    (a b c : Nat) (sh : Zx.H3 [a, b, c]) (w : World) :
    Calls Try.prog 14 #[.int .i64 (wd : Int), hv a b c, hv t u v] w fun e w' => e = .returned (.int .i64 (Zx.lsm (Zx.rsn [t, u, v] 3 0 [a, b, c]) F)) ∧ Kp w w' := by
  refine (callsIn_wide (n := 12)).1 ?_
  refine callsIn_of_wp_marks Try.func14 rfl trivial ?_ rfl
  simp only [Try.ntmps14, List.size_toArray, List.length_cons, List.length_nil, Nat.reduceAdd, Nat.reduceSub, Array.replicate_succ, Array.replicate_zero, List.push_toArray, List.append_toArray, List.nil_append, List.cons_append]
  gi_wp2
  refine ⟨trivial, ?_⟩
  obtain ⟨W0, hW0⟩ : ∃ x, x = (((w.alloc (.cells #[.int .i64 (wd : Int)] 3)).alloc (.cells #[.int .i64 (a : Int), .int .i64 (b : Int), .int .i64 (c : Int)] 38)).alloc (.cells #[.int .i64 (t : Int), .int .i64 (u : Int), .int .i64 (v : Int)] 38)).alloc (.cells #[.int .i64 0] 3) := ⟨_, rfl⟩
  rw [← hW0]
  have s0 : W0.heap.size = w.heap.size + 4 := by rw [hW0]; simp
  have i0 : FamI w w.heap.size (w.heap.size + 1 + 1) (w.heap.size + 1 + 1 + 1) wd t u v F [] W0 := by
    obtain ⟨Wa, hWa⟩ : ∃ x, x = w.alloc (.cells #[.int .i64 (wd : Int)] 3) := ⟨_, rfl⟩
    obtain ⟨Wb, hWb⟩ : ∃ x, x = Wa.alloc (.cells #[.int .i64 (a : Int), .int .i64 (b : Int), .int .i64 (c : Int)] 38) := ⟨_, rfl⟩
    obtain ⟨Wc, hWc⟩ : ∃ x, x = Wb.alloc (.cells #[.int .i64 (t : Int), .int .i64 (u : Int), .int .i64 (v : Int)] 38) := ⟨_, rfl⟩
    rw [← hWa, ← hWb, ← hWc] at hW0
    have sa : Wa.heap.size = w.heap.size + 1 := by rw [hWa]; simp
    have sb : Wb.heap.size = w.heap.size + 1 + 1 := by rw [hWb]; simp [sa]
    have sc : Wc.heap.size = w.heap.size + 1 + 1 + 1 := by rw [hWc]; simp [sb]
    have ka : Kp w Wa := by rw [hWa]; exact (Kp.rfl' w).new _
    have kb : Kp Wa Wb := by rw [hWb]; exact (Kp.rfl' Wa).new _
    have kc : Kp Wb Wc := by rw [hWc]; exact (Kp.rfl' Wb).new _
    have kd : Kp Wc W0 := by rw [hW0]; exact (Kp.rfl' Wc).new _
    refine ⟨?_, ?_, ?_, ?_, Int.le_refl _, ?_, ((ka.trans kb).trans kc).trans kd⟩
    · rw [((kb.trans kc).trans kd).cell (p := ⟨w.heap.size, 0, none⟩) (by show w.heap.size < _; omega), hWa]; exact (Cl.made (ty := 3) w [(wd : Int)]).cell 0 (by show 0 < 1; decide)
    · have := Cl.made (ty := 38) Wb (hr t u v)
      rw [sb] at this
      refine Cl.keep ?_ kd
      rw [hWc]; exact this
    · have := (Cl.made (ty := 3) Wc [0]).cell 0 (by show 0 < 1; decide)
      rw [sc] at this
      rw [hW0]; exact this
    · have := (Cl.made (ty := 3) Wc [0]).free 0
      rw [sc] at this
      rw [hW0]; exact this
    · show (0 : Int) ≤ ((0 : Nat) : Int) * _; decide
  clear hW0
  refine (callsIn_wide.2 (rises_any a b c t u v W0)).mono ?_; rintro e w1 ⟨rfl, hw1⟩
  have k1 : Kp W0 w1 := by rw [hw1]; exact ((Kp.rfl' W0).new _).new _
  have s1 : w1.heap.size = w.heap.size + 6 := by rw [hw1]; simp [s0]
  have c0 : Cl 38 w1 W0.heap.size (hr a b c) := by rw [hw1]; exact (Cl.made W0 (hr a b c)).new _
  have c1 : Cl 38 w1 (W0.heap.size + 1) (hr t u v) := by
    have := Cl.made (ty := 38) (W0.alloc (.cells (ints (hr a b c)).toArray 38)) (hr t u v)
    rw [← hw1] at this
    rwa [World.size_alloc] at this
  clear hw1
  have i1 := i0.below k1 (by omega) (by omega) (by omega) (by omega)
  clear i0
  rw [s0] at c0 c1
  gi_wp2
  refine wpIn_rangeLow (F := Fence.wide) (n := 12) rfl (by decide) (gf := 26) (lb := #[.pointer (some ⟨w.heap.size + 4, 0, none⟩), .pointer (some ⟨w.heap.size + 4 + 1, 0, none⟩)]) rfl trivial (enters_of Try.func26 (by kernel_rfl) rfl) (T0 := fun k => k = w.heap.size + 1 + 1 + 1)
    (fun k h => by omega)
    (rises_in 11 (w.heap.size + 4) (w.heap.size + 4 + 1) a b c t u v st sh (fun k => k = w.heap.size + 1 + 1 + 1 ∨ k = w1.heap.size + 1) (by omega) (by omega) w1 c0 c1) (fun _ => rfl)
    (fun (pre : List (List Nat)) Wc => FamI w w.heap.size (w.heap.size + 1 + 1) (w.heap.size + 1 + 1 + 1) wd t u v F pre Wc)
    (fun s A B h k => h.below k (by omega) (by omega) (by omega) (by omega))
    i1
    (fun x a' Wc => ∃ x0 x1 x2, x = [x0, x1, x2] ∧ Zx.H3 x ∧ ∃ Bx, w1.heap.size + 1 < Bx ∧ Cl 38 Wc Bx (hr x0 x1 x2) ∧
      a' = { tmps := #[.int .i64 (wd : Int), hv a b c, hv t u v, .pointer (some ⟨w.heap.size, 0, none⟩), .pointer (some ⟨w.heap.size + 1, 0, none⟩), .pointer (some ⟨w.heap.size + 1 + 1, 0, none⟩), .int .i64 0, .pointer (some ⟨w.heap.size + 1 + 1 + 1, 0, none⟩), .pointer (some ⟨Bx, 0, none⟩), hv a b c, hv t u v,
        .func (.func 26) #[] #[.pointer (some ⟨w.heap.size + 4, 0, none⟩), .pointer (some ⟨w.heap.size + 4 + 1, 0, none⟩)], hv x0 x1 x2, undef, undef, undef, undef, undef, undef, undef, undef, undef, undef, undef, undef, undef, undef, undef], defers := [] })
    (fun x a' A r o hr ⟨x0, x1, x2, e, hx, Bx, h1, h2, h3⟩ => ⟨x0, x1, x2, e, hx, Bx, h1, (World.putObj_heap_other (by omega)).trans h2, h3⟩)
    ?assign ?body ?done
  case assign =>
    rintro pre x Wc K hlt hi hx hK
    obtain ⟨x0, x1, x2, rfl⟩ := h3_three hx
    have e : hEnc [x0, x1, x2] = #[hv x0 x1 x2] := rfl
    rw [e]
    clear s0 s1 c0 c1 i1 k1
    gi_wp2
    exact hK _ _ ((Kp.rfl' Wc).new _) ⟨x0, x1, x2, rfl, hx, Wc.heap.size, hlt, Cl.made Wc (hr x0 x1 x2), rfl⟩
  case done =>
    rintro xs Wc hlt hS' hi hD
    rw [hS'] at hi
    have y := hi.cb
    have K := Lib.hid (Below.trans hi.kp (below_putObj (B := w.heap.size) Wc w1.heap.size (.deferred none) (by omega)))
    have HD := Lib.hid hD
    clear s0 s1 c0 c1 i1 k1 hD
    gi_wp2
    refine ⟨by simp, .inl ⟨_, _, rfl, run_takeDeferred HD.out, ?_⟩⟩
    exact ⟨.int .i64 (Zx.lsm (Zx.rsn [t, u, v] 3 0 [a, b, c]) F), by simp [results, Try.results14, go_sem], rfl, K.out⟩
  case body =>
    rintro pre x a' Wc hlt ⟨r, hr⟩ hi ⟨x0, x1, x2, rfl, hx, Bx, g1, g2, rfl⟩ hlen
    have HI := Lib.hid hi
    have w0 := hi.wb
    have w1' := hi.cb
    have w2 := hi.cf
    have y0 := g2.x0
    have y1 := g2.x1
    have y2 := g2.x2
    have z0 := hi.tb.x0
    have z1 := hi.tb.x1
    have z2 := hi.tb.x2
    have hb0 := hi.b0
    have hb1 := hi.b1
    have fb := hF [x0, x1, x2] hx
    have FB := Lib.hid fb
    have LE := Lib.hid (show Zx.lsm pre F ≤ 1000000000000000 by omega)
    have NE := Lib.hid (show w.heap.size ≠ w.heap.size + 1 + 1 + 1 ∧ w.heap.size + 1 + 1 ≠ w.heap.size + 1 + 1 + 1 ∧ w.heap.size ≤ w.heap.size + 1 + 1 + 1 by omega)
    by_cases hz : wd = 0
    · have FX := h0 hz [x0, x1, x2]
      have hwz : (wd : Int) ≤ 0 := by omega
      have q := h3_eq x0 x1 x2 t u v Wc
      have hm : Try.prog.eqGuardType Try.prog.depth 38 = false := by kernel_rfl
      by_cases e : [x0, x1, x2] = [t, u, v]
      · rw [decide_eq_true e] at q
        rw [if_pos e] at FX
        have MORE := Lib.hid (hi.more (Kp.rfl' Wc) FX.symm fb NE.out.1 NE.out.2.1 NE.out.2.2)
        have KT := Lib.hid (kept_setCell (Kept.rfl' (fun k => k = w.heap.size + 1 + 1 + 1) Wc) ⟨w.heap.size + 1 + 1 + 1, 0, none⟩ (.int .i64 (Zx.lsm pre F + 1)) rfl)
        have hwr : IntKind.i64.wrap (Zx.lsm pre F + 1) = Zx.lsm pre F + 1 := IntWalk.i64_in _ (by have := LE.out; omega)
        generalize Zx.lsm pre F = s at *
        clear s0 s1 c0 c1 i1 k1 hi hb1 fb hz FX e g2 hr hlt hlen hF h0 hS
        gi_wp2
        exact ⟨KT.out, MORE.out⟩
      · rw [decide_eq_false e] at q
        rw [if_neg e] at FX
        have MORE := Lib.hid (hi.same FX)
        have KT := Lib.hid (Kept.rfl' (fun k => k = w.heap.size + 1 + 1 + 1) Wc)
        clear s0 s1 c0 c1 i1 k1 hi hb1 fb hz FX e g2 hr hlt hlen hF h0 hS
        gi_wp2
        exact ⟨KT.out, MORE.out⟩
    · have hwz : 0 < (wd : Int) := by omega
      have CA := Lib.hid (fun (A' : World) => hS (by omega) x0 x1 x2 A' hx)
      have hw1 : IntKind.i64.wrap ((wd : Int) - 1) = (wd : Int) - 1 := IntWalk.i64_in _ (by omega)
      obtain ⟨f, hf⟩ : ∃ f, f = F [x0, x1, x2] := ⟨_, rfl⟩
      have MORE := Lib.hid (fun (A3 : World) (k : Kp Wc A3) => hi.more k hf fb NE.out.1 NE.out.2.1 NE.out.2.2)
      have KT := Lib.hid (fun (A3 : World) (k : Kp Wc A3) => kept_setCell (Kept.of (T := fun k => k = w.heap.size + 1 + 1 + 1) k) ⟨w.heap.size + 1 + 1 + 1, 0, none⟩ (.int .i64 (Zx.lsm pre F + f)) rfl)
      have AT := Lib.hid (fun (A3 : World) (k : Kp Wc A3) => (show A3.cell? ⟨w.heap.size + 1 + 1 + 1, 0, none⟩ = some (.int .i64 (Zx.lsm pre F)) ∧ A3.frozen? ⟨w.heap.size + 1 + 1 + 1, 0, none⟩ = false from
        ⟨(k.cell (p := ⟨w.heap.size + 1 + 1 + 1, 0, none⟩) (cell_lt hi.cb)).trans hi.cb, (k.frozen (p := ⟨w.heap.size + 1 + 1 + 1, 0, none⟩) (cell_lt hi.cb)).trans hi.cf⟩))
      have hwr : IntKind.i64.wrap (Zx.lsm pre F + f) = Zx.lsm pre F + f := IntWalk.i64_in _ (by have := LE.out; have := FB.out; rw [← hf] at this; omega)
      rw [← hf] at CA
      generalize Zx.lsm pre F = s at *
      have d0 : Wc.drew.cell? ⟨w.heap.size, 0, none⟩ = some (.int .i64 (wd : Int)) := w0
      have d1 : Wc.drew.cell? ⟨w.heap.size + 1 + 1 + 1, 0, none⟩ = some (.int .i64 s) := w1'
      have e0 : Wc.drew.cell? ⟨Bx, 0, none⟩ = some (.int .i64 (x0 : Int)) := y0
      have e1 : Wc.drew.cell? ⟨Bx, 1, none⟩ = some (.int .i64 (x1 : Int)) := y1
      have e2 : Wc.drew.cell? ⟨Bx, 2, none⟩ = some (.int .i64 (x2 : Int)) := y2
      have f0 : Wc.drew.cell? ⟨w.heap.size + 1 + 1, 0, none⟩ = some (.int .i64 (t : Int)) := z0
      have f1 : Wc.drew.cell? ⟨w.heap.size + 1 + 1, 1, none⟩ = some (.int .i64 (u : Int)) := z1
      have f2 : Wc.drew.cell? ⟨w.heap.size + 1 + 1, 2, none⟩ = some (.int .i64 (v : Int)) := z2
      have hmix : Try.prog.follows .mixedOrders = true := by kernel_rfl
      clear s0 s1 c0 c1 i1 k1 hi hb0 hb1 fb hz g2 hr hlt hlen hF h0 hS hf HI
      gi_wp2
      gi_region_with_o (refine ⟨trivial, ?_⟩; refine (CallsIn.inRound _ (callsIn_wide.2 (CA.out _))).mono ?_; rintro e A3 ⟨rfl, k3⟩; have K3 := Lib.hid (((Kp.rfl' Wc).drewN 1).trans k3); have cA3 := AT.out A3 K3.out; obtain ⟨cb1, cb2⟩ := cA3; clear k3)
      all_goals
        gi_wp2
        exact ⟨KT.out A3 K3.out, MORE.out A3 K3.out⟩
end Go.Proofs.Ytolkdbijenbchaa
