/- Contracts of package smith, fourth part: divisor, Parts, Index. -/
import Derived.Test.YtlnehhhlpdaebaaSmC3
import Derived.Test.YtlnehhhlpdaebaaHmC5
import Derived.Test.YtlnehhhlpdaebaaBz
namespace Go.Proofs.Ytlnehhhlpdaebaa
open Go.ChangeShapes Go.WideShapes Go.ChangeAt Go.RowKit Go.Shelf
set_option linter.unusedVariables false
attribute [local go_sem] Oper.semAt_some

theorem boxed_low {W W' : World} {B C : Nat} {t : TypeId} {v : Value} (h : Boxed W B t v) (k : Below C W W') (hB : B < C) : Boxed W' B t v := (k.block B hB).trans h
theorem boxed_keptT {T : Nat → Prop} {W W' : World} {B : Nat} {t : TypeId} {v : Value} (h : Boxed W B t v) (k : Kept T W W') (hB : ¬ T B) : Boxed W' B t v := (k.block B h.lt hB).trans h
theorem kept_setCell {T : Nat → Prop} (W : World) (p : Addr) (v : Value) (h : T p.block) : Kept T W (W.setCell p v) :=
  ⟨rfl, rfl, rfl, by simp [World.setCell], fun k hk ht => Below.heap_setCell W p v k fun e => ht (e ▸ h)⟩

set_option maxRecDepth 100000 in
set_option maxHeartbeats 3200000 in
/-- smith.divisor of the determinants: what divides them all. -/
theorem divisor_all (B0 B1 n dm many : Nat) (M : Option Addr) (f : Nat → Nat → Int) (hf : ∀ i j, i < n → j < n → (f i j).natAbs ≤ 20) (hn3 : n ≤ 3) (hm : many ≤ 3) (hm1 : 1 ≤ many)
    (wm : World) (hM : LiesM wm M (Mx.tab n n f)) (w : World) (km : Kp wm w) (c0 : w.cell? ⟨B0, 0, none⟩ = some (.slice M n dm)) (c1 : w.cell? ⟨B1, 0, none⟩ = some (.int .i64 (many : Int))) :
    Calls Try.prog 52 #[.func (.func 56) #[] #[.pointer (some ⟨B0, 0, none⟩), .pointer (some ⟨B1, 0, none⟩)]] w fun e w' =>
      e = .returned (.tuple #[.int .i64 (Zx.dvs n f many : Int), .nilIface]) ∧ Kp w w' := by
  have b0 : B0 < w.heap.size := cell_lt c0
  have b1 : B1 < w.heap.size := cell_lt c1
  refine callsIn_wide.1 (callsIn_of_wp_marks (F := Fence.wide) (n := 13) Try.func52 rfl trivial ?_ rfl)
  simp only [Try.ntmps52, List.size_toArray, List.length_cons, List.length_nil, Nat.reduceAdd, Nat.reduceSub, Array.replicate_succ, Array.replicate_zero, List.push_toArray, List.append_toArray, List.nil_append, List.cons_append]
  gi_wp2
  obtain ⟨w3, hw3⟩ : ∃ y, y = ((w.alloc (.cells #[.int .i64 0] 3)).alloc (.cells #[.nilIface] 26)).alloc (.cells #[.int .i64 0] 3) := ⟨_, rfl⟩
  rw [← hw3]
  have s3 : w3.heap.size = w.heap.size + 3 := by rw [hw3]; simp
  have k3 : Kp w w3 := by rw [hw3]; exact (((Kp.rfl' w).new _).new _).new _
  have r0 : Boxed w3 w.heap.size 3 (.int .i64 0) := by rw [hw3]; exact ((Boxed.new w _ _).alloc _).alloc _
  have r1 : Boxed w3 (w.heap.size + 1) 26 .nilIface := by
    rw [hw3]; have := (Boxed.new (w.alloc (.cells #[.int .i64 0] 3)) 26 .nilIface).alloc (.cells #[.int .i64 0] 3); rw [World.size_alloc] at this; exact this
  have r2 : Boxed w3 (w.heap.size + 1 + 1) 3 (.int .i64 0) := by
    rw [hw3]; have := Boxed.new ((w.alloc (.cells #[.int .i64 0] 3)).alloc (.cells #[.nilIface] 26)) 3 (.int .i64 0); rw [World.size_alloc, World.size_alloc] at this; exact this
  clear hw3
  have S3 := Lib.hid s3
  have km3 : Kp wm w3 := km.trans k3
  have wmw := km.size
  have MI := Lib.hid (minors_in B0 B1 n dm many M f hf hn3 hm hm1 (fun k => k = w.heap.size + 1 + 1 ∨ k = w3.heap.size + 1) (by omega) (by omega) wm hM (fun k h => by omega) w3 km3 ((k3.cell (p := ⟨B0, 0, none⟩) b0).trans c0) ((k3.cell (p := ⟨B1, 0, none⟩) b1).trans c1))
  have hI : ∀ (s : List Int) (A B : World), ((∀ y, y ∈ s → y.natAbs ≤ 216000) ∧ Boxed A (w.heap.size + 1 + 1) 3 (.int .i64 (Zx.gl s : Int)) ∧ Boxed A w.heap.size 3 (.int .i64 0) ∧ Boxed A (w.heap.size + 1) 26 .nilIface ∧ Kp w A) → Below w3.heap.size A B →
      ((∀ y, y ∈ s → y.natAbs ≤ 216000) ∧ Boxed B (w.heap.size + 1 + 1) 3 (.int .i64 (Zx.gl s : Int)) ∧ Boxed B w.heap.size 3 (.int .i64 0) ∧ Boxed B (w.heap.size + 1) 26 .nilIface ∧ Kp w B) := fun s A B h k =>
    ⟨h.1, boxed_low h.2.1 k (by omega), boxed_low h.2.2.1 k (by omega), boxed_low h.2.2.2.1 k (by omega), Below.trans h.2.2.2.2 (k.mono (by omega))⟩
  have s4 : w.heap.size + 1 + 1 < w3.heap.size := by omega
  clear s3 hf hM c0 c1 km km3 hn3 hm hm1
  refine wpIn_rangeLow (F := Fence.wide) (n := 13) rfl (by decide) (gf := 56) (lb := #[.pointer (some ⟨B0, 0, none⟩), .pointer (some ⟨B1, 0, none⟩)]) rfl trivial (enters_of Try.func56 (by kernel_rfl) rfl) (T0 := fun k => k = w.heap.size + 1 + 1)
    (fun k h => by omega)
    MI.out (fun _ => rfl)
    (fun (s : List Int) A => (∀ y, y ∈ s → y.natAbs ≤ 216000) ∧ Boxed A (w.heap.size + 1 + 1) 3 (.int .i64 (Zx.gl s : Int)) ∧ Boxed A w.heap.size 3 (.int .i64 0) ∧ Boxed A (w.heap.size + 1) 26 .nilIface ∧ Kp w A)
    hI
    ⟨fun y hy => (by cases hy), r2, r0, r1, k3⟩
    (fun x a' A => x.natAbs ≤ 216000 ∧ a' = { tmps := #[.func (.func 56) #[] #[.pointer (some ⟨B0, 0, none⟩), .pointer (some ⟨B1, 0, none⟩)], undef, .pointer (some ⟨w.heap.size, 0, none⟩), .pointer (some ⟨w.heap.size + 1, 0, none⟩), .pointer (some ⟨w.heap.size + 1 + 1, 0, none⟩),
      .int .i64 x, undef, undef, .func (.func 56) #[] #[.pointer (some ⟨B0, 0, none⟩), .pointer (some ⟨B1, 0, none⟩)], .int .i64 x, undef, undef, undef, undef, undef, undef, undef, undef, undef, undef, undef], defers := [] })
    (fun x a' A r o hr h => h)
    ?assign ?body ?done
  case assign =>
    rintro pre x A K hlt hi hx hK
    unfold miEnc
    gi_wp2
    exact hK _ _ (Kp.rfl' _) ⟨hx, rfl⟩
  case body =>
    rintro pre x a' A hlt ⟨r, hr⟩ ⟨hb, i2, i0, i1, hk⟩ ⟨hx, rfl⟩ _
    have ca := i2.cell
    have fa := i2.frozen
    have gb := Zx.gl_le hb
    have GC := Lib.hid (gcd_in (Zx.gl pre : Int) x A (by omega) (by omega) (by omega) (by omega))
    have SN := Lib.hid (show Int.gcd (Zx.gl pre : Int) x = Zx.gl (pre ++ [x]) from (Zx.gl_snoc pre x).symm)
    generalize Int.gcd (Zx.gl pre : Int) x = q at *
    have FIN := Lib.hid (fun (A2 : World) (k : Kp A A2) => (show A2.cell? ⟨w.heap.size + 1 + 1, 0, none⟩ = some (.int .i64 (Zx.gl pre : Int)) ∧ A2.frozen? ⟨w.heap.size + 1 + 1, 0, none⟩ = false ∧ ∀ B, B = A2.setCell ⟨w.heap.size + 1 + 1, 0, none⟩ (.int .i64 (q : Int)) →
      Kept (fun k => k = w.heap.size + 1 + 1) A B ∧ ((∀ y, y ∈ pre ++ [x] → y.natAbs ≤ 216000) ∧ Boxed B (w.heap.size + 1 + 1) 3 (.int .i64 (Zx.gl (pre ++ [x]) : Int)) ∧ Boxed B w.heap.size 3 (.int .i64 0) ∧ Boxed B (w.heap.size + 1) 26 .nilIface ∧ Kp w B) from by
        have j2 := boxed_low i2 k i2.lt
        refine ⟨j2.cell, j2.frozen, fun B hB => ?_⟩
        have ks := kept_setCell (T := fun k => k = w.heap.size + 1 + 1) A2 ⟨w.heap.size + 1 + 1, 0, none⟩ (.int .i64 (q : Int)) rfl
        rw [← hB] at ks
        refine ⟨(Kept.of k).trans ks, fun y hy => ?_, ?_, boxed_keptT (boxed_low i0 k i0.lt) ks (by omega), boxed_keptT (boxed_low i1 k i1.lt) ks (by omega), Below.trans (hk.trans k) (ks.below (fun i hi ht => by omega) (hk.trans k).size)⟩
        · rcases List.mem_append.1 hy with hy | hy
          · exact hb y hy
          · rw [List.mem_singleton.1 hy]; exact hx
        · rw [hB, ← SN.out]; exact j2.set _))
    clear hb i2 i0 i1 hk hx gb hr
    gi_wp2
    refine ⟨trivial, ?_⟩
    refine (CallsIn.inRound _ (callsIn_wide.2 GC.out)).mono ?_; rintro e A2 ⟨rfl, hd⟩
    obtain ⟨x1, x2, x3⟩ := FIN.out A2 hd.kp
    have X3 := Lib.hid x3
    clear hd ca fa x3
    gi_wp2
    exact X3.out _ rfl
  case done =>
    rintro xs A hlt rfl ⟨hb, i2, i0, i1, hk⟩ hD
    have ca := i2.cell
    have x0 := i0.cell
    have f0 := i0.frozen
    have x1 := i1.cell
    have f1 := i1.frozen
    have ne1 : w.heap.size ≠ w.heap.size + 1 := by omega
    have DV := Lib.hid (show Zx.gl (Zx.mns f (Zx.chn n many) (Zx.chn n many)) = Zx.dvs n f many from rfl)
    have II := Lib.hid (show Boxed A w.heap.size 3 (.int .i64 0) ∧ Boxed A (w.heap.size + 1) 26 .nilIface ∧ Kp w A from ⟨i0, i1, hk⟩)
    have HD := Lib.hid hD
    generalize Zx.gl (Zx.mns f (Zx.chn n many) (Zx.chn n many)) = g at *
    clear hb i2 i0 i1 hk hD
    gi_wp2
    obtain ⟨W', hW'⟩ : ∃ W', W' = ((A.setCell ⟨w.heap.size, 0, none⟩ (.int .i64 (g : Int))).setCell ⟨w.heap.size + 1, 0, none⟩ .nilIface) := ⟨_, rfl⟩
    rw [← hW']
    have j0 : Boxed W' w.heap.size 3 (.int .i64 (g : Int)) := by rw [hW']; exact (II.out.1.set _).other ne1 _
    have j1 : Boxed W' (w.heap.size + 1) 26 .nilIface := by rw [hW']; exact (II.out.2.1.other ne1.symm _).set _
    have kW : Kp w W' := by rw [hW']; exact (II.out.2.2.put (p := ⟨w.heap.size, 0, none⟩) (Nat.le_refl _) _).put (p := ⟨w.heap.size + 1, 0, none⟩) (Nat.le_succ _) _
    have hK : W'.heap[w3.heap.size]? = some (.deferred (some [])) := by
      rw [hW', Below.heap_setCell _ ⟨w.heap.size + 1, 0, none⟩ _ w3.heap.size (by show w3.heap.size ≠ w.heap.size + 1; omega), Below.heap_setCell _ ⟨w.heap.size, 0, none⟩ _ w3.heap.size (by show w3.heap.size ≠ w.heap.size; omega)]
      exact HD.out
    refine ⟨by simp, .inl ⟨_, _, rfl, run_takeDeferred hK, ?_⟩⟩
    have q0 := (boxed_low j0 (below_putObj (B := w3.heap.size) W' w3.heap.size (.deferred none) (Nat.le_refl _)) (by omega)).cell
    have q1 := (boxed_low j1 (below_putObj (B := w3.heap.size) W' w3.heap.size (.deferred none) (Nat.le_refl _)) (by omega)).cell
    refine ⟨.tuple #[.int .i64 (g : Int), .nilIface], by simp [results, Try.results52, go_sem, q0, q1], by rw [← DV.out], Below.trans kW (below_putObj W' _ _ (by omega))⟩
end Go.Proofs.Ytlnehhhlpdaebaa
