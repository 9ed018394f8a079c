/- Contract of package pfaff, second part: the iterator over all partitions into pairs: a range over an iterator in a loop of a function (a mark each round), and the iterator calls itself. -/
import Derived.RangeFuncWrites
import Derived.Maps.AppendAt
import Derived.Shelf.RegionOpen
import Derived.Deep.RegionHeld3
import Derived.Deep.RegionLaw
import Derived.Test.YtkebjmapdcbnaaaRnd
import Derived.Test.YtkebjmapdcbnaaaLow
import Derived.Test.YtkebjmapdcbnaaaCatS
import Derived.Test.YtkebjmapdcbnaaaOwnM
import Derived.Test.YtkebjmapdcbnaaaPfM
namespace Go.Proofs.Ytkebjmapdcbnaaa
open Go.ChangeShapes Go.WideShapes Go.ChangeAt Go.RowKit Go.Shelf
set_option linter.unusedVariables false
attribute [local go_sem] Oper.semAt_some

/-- Where no depth is asked an iterator's promise is one for any depth. -/
theorem SeqLo.any {α : Type} {n m : Nat} {P : Program} {g : Nat} {lb : Array Value} {encs : α → Array Value} {Wt : α → World → Prop} {T : Nat → Prop} {S : List α → Prop} {N : Nat} {w0 : World} (h : SeqLo Fence.wide n P g lb encs Wt T S N w0) : SeqLo Fence.wide m P g lb encs Wt T S N w0 :=
  fun l J W h1 h2 h3 hy h0 => callsIn_wide.2 (callsIn_wide.1 (h l J W h1 h2 h3 (fun pre x W1 a b c d => yieldAt_any _ (hy pre x W1 a b c d)) h0))
/-- A mark that a range over an iterator has left among the deferred calls. -/
def mkd (r : Nat) : Deferred := { target := .collected r, args := #[] }
structure Mkd (B : Nat) (rs : List Nat) (w : World) : Prop where
  nd : rs.Nodup
  at_ : ∀ r, r ∈ rs → B ≤ r ∧ w.heap[r]? = some (.deferred (some []))
theorem Mkd.none (B : Nat) (w : World) : Mkd B [] w := ⟨List.nodup_nil, fun r h => by cases h⟩
theorem Mkd.lt {B : Nat} {rs : List Nat} {w : World} (h : Mkd B rs w) {r : Nat} (hr : r ∈ rs) : r < w.heap.size := (Array.getElem?_eq_some_iff.1 (h.at_ r hr).2).1
theorem Mkd.kept {B : Nat} {rs : List Nat} {w w' : World} {T : Nat → Prop} (h : Mkd B rs w) (k : Kept T w w') (hT : ∀ r, T r → r < B) : Mkd B rs w' :=
  ⟨h.nd, fun r hr => ⟨(h.at_ r hr).1, (k.block r (h.lt hr) fun ht => by have := hT r ht; have := (h.at_ r hr).1; omega).trans (h.at_ r hr).2⟩⟩
theorem Mkd.below {B C : Nat} {rs : List Nat} {w w' : World} (h : Mkd B rs w) (k : Below C w w') (hC : ∀ r, r ∈ rs → r < C) : Mkd B rs w' :=
  ⟨h.nd, fun r hr => ⟨(h.at_ r hr).1, (k.block r (hC r hr)).trans (h.at_ r hr).2⟩⟩
theorem Mkd.more {B : Nat} {rs : List Nat} {w : World} {s : Nat} (h : Mkd B rs w) (hs : ∀ r, r ∈ rs → r < s) (hB : B ≤ s) (hm : w.heap[s]? = some (.deferred (some []))) : Mkd B (s :: rs) w :=
  ⟨List.nodup_cons.2 ⟨fun e => by have := hs s e; omega, h.nd⟩, fun r hr => by
    rcases List.mem_cons.1 hr with rfl | e
    · exact ⟨hB, hm⟩
    · exact h.at_ r e⟩
/-- A function that has left marks goes out: each mark is shut. -/
theorem leaves_marks {F : Fence} {n : Nat} {P : Program} {fn : Func} {tmps : Array Value} {R : Ending → World → Prop} {B : Nat} : ∀ (rs : List Nat) (w : World), Mkd B rs w →
    (∀ w', Below B w w' → LeavesInM F n P fn tmps R [] .returning w') → LeavesInM F n P fn tmps R (rs.map mkd) .returning w
  | [], w, _, h => h w (Below.refl B w)
  | r :: rs, w, hM, h => by
    have hr := hM.at_ r (List.mem_cons_self ..)
    have hnd := List.nodup_cons.1 hM.nd
    refine ⟨by simp, .inl ⟨r, _, rfl, run_takeDeferred hr.2, leaves_marks rs _ ⟨hnd.2, fun s hs => ?_⟩ fun w' k => h w' (Below.trans (below_putObj w r _ hr.1) k)⟩⟩
    have := hM.at_ s (List.mem_cons_of_mem _ hs)
    exact ⟨this.1, (World.putObj_heap_other (by intro e; subst e; exact hnd.1 hs)).trans this.2⟩

set_option maxHeartbeats 800000 in
theorem pairings_any (A : Option Addr) (n c : Nat) (w : World) :
    Calls Try.prog 15 #[.slice A n c] w fun e w' =>
      e = .returned (.func (.func 22) #[] #[.pointer (some ⟨w.heap.size, 0, none⟩)]) ∧ w' = w.alloc (.cells #[.slice A n c] 32) := by
  go_enter Try.func15, Try.ntmps15
  go_wp2
  go_ret
  exact ⟨rfl, rfl⟩

/-- An order: the numbers, and where they lie. -/
abbrev Orw := List Nat × Option Addr × Nat
def orEnc (x : Orw) : Array Value := #[.slice x.2.1 x.1.length x.2.2]
/-- What is known of an order when it is handed on. -/
def OrW (L : List (List Nat)) (x : Orw) (W : World) : Prop := Lies W x.2.1 (nz x.1) ∧ x.1.length ≤ x.2.2 ∧ x.1 ∈ L
theorem prs_nil (u : Nat) : Zx.prs u [] = [[]] := by cases u <;> rfl

set_option maxRecDepth 100000 in
set_option maxHeartbeats 1600000 in
theorem pairings_nil (u c : Nat) (A : Option Addr) (B0 : Nat) (T : Nat → Prop) (t0 : ¬ T B0) (w0 : World) (c0 : w0.cell? ⟨B0, 0, none⟩ = some (.slice A 0 c)) :
    SeqLo Fence.wide 12 Try.prog 22 #[.pointer (some ⟨B0, 0, none⟩)] orEnc (OrW (Zx.prs u [])) T (fun ys => ys.map (·.1) = Zx.prs u []) (Zx.prs u []).length w0 := by
  rw [prs_nil]
  intro yl J W hW hT hJ hY h0
  have b0 := cell_lt c0
  have x0 := (hW.cell (p := ⟨B0, 0, none⟩) b0).trans c0
  have lt0 : B0 < W.heap.size := Nat.lt_of_lt_of_le b0 hW.size
  clear c0 b0 hW
  have k1 : Kp W (W.alloc (.cells #[.func (.yield yl) #[] #[]] 46)) := (Kp.rfl' W).new _
  obtain ⟨fn, tmps, assign, body, hy, hR⟩ := hY [] ([], none, 0) (W.alloc (.cells #[.func (.yield yl) #[] #[]] 46)) (hJ _ _ _ h0 k1) (by simp) ⟨fun k hk => by simp [nz] at hk, Nat.le_refl _, by simp⟩ (by simp)
  unfold orEnc at hy
  have RR := Lib.hid hR
  dsimp only [List.length_nil] at hy
  clear hR hY hT hJ h0 k1
  refine callsIn_of_wp_marks Try.func22 rfl trivial ?_ rfl
  simp only [Try.ntmps22, List.size_toArray, List.length_cons, List.length_nil, Nat.reduceAdd, Nat.reduceSub, Array.replicate_succ, Array.replicate_zero, List.push_toArray, List.append_toArray, List.nil_append, List.cons_append]
  gi_wp2
  refine (RR.out).mono ?_
  rintro e W3 ⟨rfl, hJ3, hk3⟩
  gi_wp2
  exact ⟨_, results_none rfl _ _ _, ⟨_, rfl⟩, [([], none, 0)], rfl, hJ3⟩

/-- What a round keeps: the variables of the iterator, and the row it goes through. -/
structure Pr2 (Y B0 yl n c : Nat) (A : Option Addr) (l : List Nat) (W : World) : Prop where
  y : W.cell? ⟨Y, 0, none⟩ = some (.func (.yield yl) #[] #[])
  v : W.cell? ⟨B0, 0, none⟩ = some (.slice A n c)
  row : Lies W A (nz l)
theorem lies_kept {T : Nat → Prop} {W W' : World} {A : Option Addr} {l : List Int} (h : Lies W A l) (k : Kept T W W') (tA : ∀ ad, A = some ad → ¬ T ad.block) : Lies W' A l := fun i hi => by
  obtain ⟨ad, e, hl, hc⟩ := h i hi
  exact ⟨ad, e, Nat.lt_of_lt_of_le hl k.size, (k.cell (p := ad.add i) (by rw [block_add]; exact hl) (by rw [block_add]; exact tA ad e)).trans hc⟩
theorem Pr2.kept {Y B0 yl n c : Nat} {A : Option Addr} {l : List Nat} {T : Nat → Prop} {W W' : World} (h : Pr2 Y B0 yl n c A l W) (k : Kept T W W') (h0 : ¬ T Y) (h1 : ¬ T B0) (h2 : ∀ ad, A = some ad → ¬ T ad.block) : Pr2 Y B0 yl n c A l W' :=
  ⟨(k.cell (p := ⟨Y, 0, none⟩) (cell_lt h.y) h0).trans h.y, (k.cell (p := ⟨B0, 0, none⟩) (cell_lt h.v) h1).trans h.v, lies_kept h.row k h2⟩
theorem Pr2.keep {Y B0 yl n c : Nat} {A : Option Addr} {l : List Nat} {W W' : World} (h : Pr2 Y B0 yl n c A l W) (k : Kp W W') : Pr2 Y B0 yl n c A l W' :=
  h.kept (T := fun _ => False) (Kept.of k) id id fun _ _ => id

/-- An operation that goes on, so. -/
def Onl (R : Act → World → Prop) : Exit → Act → World → Prop
  | .normal, a, w => R a w
  | _, _, _ => False
theorem region_onl {P : Program} {c : Code} {Q : Exit → Act → World → Prop} {a : Act} {w : World} (R : Act → World → Prop) (h : c.wp P (Onl R) a w) (k : ∀ a' w', R a' w' → Q .normal a' w') : c.wpIn Fence.wide 12 P Q a w := by
  refine wpIn_wide.2 (Code.wp_mono (Q := Onl R) (fun e a' w' q => ?_) h)
  cases e with
  | normal => exact k a' w' q
  | ret => exact q.elim
  | exit id => exact q.elim
  | goto l => exact q.elim
  | panic c => exact q.elim
  | outgrown => exact q.elim
theorem roundIn_one {m m' a : Nat} {P : Program} {l : Nat} {f : FuncId} {tmps : Array Value} {assign body : Code} {w : World} {R : Ending → World → Prop} (h : RoundIn Fence.wide m P l f tmps assign body w R) : RoundIn (Fence.wide.inRound a) m' P l f tmps assign body w R := roundIn_any h
theorem Kept.ofBelow {B : Nat} {w w' : World} (h : Below B w w') : Kept (fun k => B ≤ k) w w' := ⟨h.os, h.tape, h.output, h.size, fun k _ ht => h.block k (by omega)⟩
/-- A row of two has been made, and a variable that holds it. -/
structure PairAt (w w' : World) (Pb R : Nat) (x y : Int) : Prop where
  b : w.heap.size ≤ Pb
  r : w.heap.size ≤ R
  v : w'.cell? ⟨Pb, 0, none⟩ = some (.slice (some ⟨R, 0, none⟩) 2 2)
  x0 : w'.cell? ⟨R, 0, none⟩ = some (.int .i64 x)
  x1 : w'.cell? ⟨R, 1, none⟩ = some (.int .i64 y)
  kp : Kp w w'
/-- What of it is looked at later on. -/
structure PrC (Pb R : Nat) (x y : Int) (w : World) : Prop where
  v : w.cell? ⟨Pb, 0, none⟩ = some (.slice (some ⟨R, 0, none⟩) 2 2)
  x0 : w.cell? ⟨R, 0, none⟩ = some (.int .i64 x)
  x1 : w.cell? ⟨R, 1, none⟩ = some (.int .i64 y)
theorem PrC.kept {Pb R : Nat} {x y : Int} {T : Nat → Prop} {w w' : World} (h : PrC Pb R x y w) (k : Kept T w w') (h0 : ¬ T Pb) (h1 : ¬ T R) : PrC Pb R x y w' :=
  ⟨(k.cell (p := ⟨Pb, 0, none⟩) (cell_lt h.v) h0).trans h.v, (k.cell (p := ⟨R, 0, none⟩) (cell_lt h.x0) h1).trans h.x0, (k.cell (p := ⟨R, 1, none⟩) (cell_lt h.x1) h1).trans h.x1⟩
theorem PrC.keep {Pb R : Nat} {x y : Int} {w w' : World} (h : PrC Pb R x y w) (k : Kp w w') : PrC Pb R x y w' := h.kept (T := fun _ => False) (Kept.of k) id id
theorem PrC.lies {Pb R : Nat} {x y : Nat} {w : World} (h : PrC Pb R (x : Int) (y : Int) w) : Lies w (some ⟨R, 0, none⟩) (nz [x, y]) := fun i hi => by
  refine ⟨_, rfl, cell_lt h.x0, ?_⟩
  rw [nz_len] at hi
  simp only [List.length_cons, List.length_nil] at hi
  rcases (by omega : i = 0 ∨ i = 1) with rfl | rfl
  · exact h.x0
  · exact h.x1
theorem pair_one (w : World) (x y : Int) : PairAt w ((w.alloc (.cells #[.int .i64 x, .int .i64 y] 3)).alloc (.cells #[.slice (some ⟨w.heap.size, 0, none⟩) 2 2] 32)).drew (w.heap.size + 1) w.heap.size x y := by
  have k : Kp (w.alloc (.cells #[.int .i64 x, .int .i64 y] 3)) (((w.alloc (.cells #[.int .i64 x, .int .i64 y] 3)).alloc (.cells #[.slice (some ⟨w.heap.size, 0, none⟩) 2 2] 32)).drew) := ((Kp.rfl' _).new _).drewN 1
  refine ⟨Nat.le_succ _, Nat.le_refl _, ?_, ?_, ?_, (((Kp.rfl' w).new _).new _).drewN 1⟩
  · exact (cell_made _ _ _ (w.heap.size + 1) 0 (by simp)).trans rfl
  · exact (k.cell (p := ⟨w.heap.size, 0, none⟩) (by simp)).trans ((cell_made w _ _ w.heap.size 0 rfl).trans rfl)
  · exact (k.cell (p := ⟨w.heap.size, 1, none⟩) (by simp)).trans ((cell_made w _ _ w.heap.size 1 rfl).trans rfl)
theorem pair_two (w : World) (x y : Int) : PairAt w ((w.alloc (.cells #[.slice (some ⟨w.heap.size + 1, 0, none⟩) 2 2] 32)).alloc (.cells #[.int .i64 x, .int .i64 y] 3)).drew w.heap.size (w.heap.size + 1) x y := by
  have k : Kp (w.alloc (.cells #[.slice (some ⟨w.heap.size + 1, 0, none⟩) 2 2] 32)) (((w.alloc (.cells #[.slice (some ⟨w.heap.size + 1, 0, none⟩) 2 2] 32)).alloc (.cells #[.int .i64 x, .int .i64 y] 3)).drew) := ((Kp.rfl' _).new _).drewN 1
  refine ⟨Nat.le_refl _, Nat.le_succ _, ?_, ?_, ?_, (((Kp.rfl' w).new _).new _).drewN 1⟩
  · exact (k.cell (p := ⟨w.heap.size, 0, none⟩) (by simp)).trans ((cell_made w _ _ w.heap.size 0 rfl).trans rfl)
  · exact (cell_made _ _ _ (w.heap.size + 1) 0 (by simp)).trans rfl
  · exact (cell_made _ _ _ (w.heap.size + 1) 1 (by simp)).trans rfl

set_option maxRecDepth 100000 in
set_option maxHeartbeats 6400000 in
theorem pairings_step (u : Nat) (hu : u ≤ 5)
    (ih : ∀ (l : List Nat) (n c : Nat) (A : Option Addr) (B0 : Nat) (T : Nat → Prop) (w0 : World), l.length = n → n ≤ u → n ≤ c → ¬ T B0 → (∀ ad, A = some ad → ¬ T ad.block) → Lies w0 A (nz l) → w0.cell? ⟨B0, 0, none⟩ = some (.slice A n c) →
      SeqLo Fence.wide 12 Try.prog 22 #[.pointer (some ⟨B0, 0, none⟩)] orEnc (OrW (Zx.prs u l)) T (fun ys => ys.map (·.1) = Zx.prs u l) (Zx.prs u l).length w0)
    (a : Nat) (t : List Nat) (p n c : Nat) (A : Option Addr) (B0 : Nat) (T : Nat → Prop) (w0 : World) (hp : t.length = p) (hn : n = p + 1) (hpu : p ≤ u) (hpc : n ≤ c) (t0 : ¬ T B0) (tA : ∀ ad, A = some ad → ¬ T ad.block) (hA : Lies w0 A (nz (a :: t))) (c0 : w0.cell? ⟨B0, 0, none⟩ = some (.slice A n c)) :
    SeqLo Fence.wide 12 Try.prog 22 #[.pointer (some ⟨B0, 0, none⟩)] orEnc (OrW (Zx.prs (u + 1) (a :: t))) T (fun ys => ys.map (·.1) = Zx.prs (u + 1) (a :: t)) (Zx.prs (u + 1) (a :: t)).length w0 := by
  have ePRS : Zx.prs (u + 1) (a :: t) = Zx.prt (Zx.prs u) a t p := by rw [← hp]; rfl
  rw [ePRS]
  intro yl J W hW hT hJ hY h0
  have b0 := cell_lt c0
  have x0 := (hW.cell (p := ⟨B0, 0, none⟩) b0).trans c0
  have lt0 : B0 < W.heap.size := Nat.lt_of_lt_of_le b0 hW.size
  have lA := hA.keep hW
  clear c0 b0 hW hA ePRS
  have HT := Lib.hid hT
  have HJ := Lib.hid hJ
  have HY := Lib.hid hY
  have HP := Lib.hid hp
  have PU := Lib.hid hpu
  have H0 := Lib.hid h0
  have LA := Lib.hid lA
  have TY : ¬ T W.heap.size := fun h => by have := hT _ h; omega
  clear hT hJ hY hp h0 lA
  have e0 : ((n : Int) == 0) = false := by rw [beq_eq_false_iff_ne]; omega
  have NP := Lib.hid hn
  have n7 : n ≤ 7 := by omega
  clear hn hpu
  refine callsIn_of_wp_marks Try.func22 rfl trivial ?_ rfl
  simp only [Try.ntmps22, List.size_toArray, List.length_cons, List.length_nil, Nat.reduceAdd, Nat.reduceSub, Array.replicate_succ, Array.replicate_zero, List.push_toArray, List.append_toArray, List.nil_append, List.cons_append]
  gi_wp2
  obtain ⟨W1, hW1⟩ : ∃ x, x = W.alloc (.cells #[.func (.yield yl) #[] #[]] 46) := ⟨_, rfl⟩
  rw [← hW1]
  have k1 : Kp W W1 := by rw [hW1]; exact (Kp.rfl' W).new _
  have s1 : W1.heap.size = W.heap.size + 1 := by rw [hW1]; simp
  have P1 : Pr2 W.heap.size B0 yl n c A (a :: t) W1 := ⟨by rw [hW1]; exact (cell_made W _ _ W.heap.size 0 rfl).trans rfl, (k1.cell (p := ⟨B0, 0, none⟩) lt0).trans x0, LA.out.keep k1⟩
  clear hW1 x0
  refine wpIn_loop (fun a' w' => ∃ (k j : Nat) (ys : List Orw) (rs : List Nat) (u4 u5 u11 u12 u13 u14 u15 u16 u17 u18 u19 u20 u21 u22 u23 u24 u25 u26 u27 u28 u29 u30 u31 u32 u33 u34 u35 u36 u37 u38 u39 u40 u41 u42 : Value), j = k + 1 ∧ j ≤ n ∧ a' = { tmps := #[.func (.yield yl) #[] #[], .pointer (some ⟨B0, 0, none⟩), .pointer (some ⟨W.heap.size, 0, none⟩), .int .i64 (j : Int), u4, u5, .slice A n c, .int .i64 (n : Int), .bool false, undef, undef, u11, u12, u13, u14, u15, u16, u17, u18, u19, u20, u21, u22, u23, u24, u25, u26, u27, u28, u29, u30, u31, u32, u33, u34, u35, u36, u37, u38, u39, u40, u41, u42], defers := rs.map mkd } ∧
      ys.map (·.1) = Zx.prt (Zx.prs u) a t k ∧ J ys w' ∧ Pr2 W.heap.size B0 yl n c A (a :: t) w' ∧ W.heap.size + 1 ≤ w'.heap.size ∧ Mkd W.heap.size rs w') (fun a' _ => n - (intOf (a'.tmps.getD 3 undef)).toNat) ?_ ?_
  · exact ⟨0, 1, [], [], undef, undef, undef, undef, undef, undef, undef, undef, undef, undef, undef, undef, undef, undef, undef, undef, undef, undef, undef, undef, undef, undef, undef, undef, undef, undef, undef, undef, undef, undef, undef, undef, undef, undef, rfl, by have := NP.out; omega, rfl, rfl, HJ.out _ _ _ H0.out k1, P1, by omega, Mkd.none _ _⟩
  rintro a' wr ⟨k, j, ys, rs, u4, u5, u11, u12, u13, u14, u15, u16, u17, u18, u19, u20, u21, u22, u23, u24, u25, u26, u27, u28, u29, u30, u31, u32, u33, u34, u35, u36, u37, u38, u39, u40, u41, u42, hjk, hjn, rfl, hys, hJs, hP, hsz, hM⟩
  clear k1 s1 P1 H0
  have v0 := hP.v
  have y0 := hP.y
  by_cases hlt : j < n
  · obtain ⟨ad, rfl, hla, xa⟩ := hP.row.num (k := 0) (by simp)
    rw [show (a :: t).getD 0 0 = a from rfl] at xa
    obtain ⟨ad', ea, _, xj⟩ := hP.row.num (k := j) (by have := HP.out; have := NP.out; rw [List.length_cons]; omega)
    obtain rfl := Option.some.inj ea
    obtain ⟨tk, htk⟩ : ∃ tk, tk = (a :: t).getD j 0 := ⟨_, rfl⟩
    rw [← htk] at xj
    have JK := Lib.hid hjk
    have KN := Lib.hid (show k < p by have := NP.out; omega)
    have TK := Lib.hid (show tk = t.getD k 0 by rw [htk, hjk]; rfl)
    rw [add_zero'] at xa
    have XV := Lib.hid (fun w' (q : Kp wr w') => (show (w'.cell? ⟨B0, 0, none⟩ = some (.slice (some ad) n c) ∧ w'.cell? ad = some (.int .i64 (a : Int))) ∧ w'.cell? (ad.add j) = some (.int .i64 (tk : Int)) from
      ⟨⟨(q.cell (p := ⟨B0, 0, none⟩) (cell_lt v0)).trans v0, (q.cell (p := ad) hla).trans xa⟩, (q.cell (p := ad.add j) (by rw [block_add]; exact hla)).trans xj⟩))
    have HYS := Lib.hid hys
    have HJS := Lib.hid hJs
    have HPP := Lib.hid hP
    have HMM := Lib.hid hM
    have HSZ := Lib.hid hsz
    have KK0 := Lib.hid (Kp.rfl' wr)
    clear hys hJs hP hM hsz htk hjk ea
    gi_wp2
    refine region_onl (fun a' w' => ∃ (Pb R : Nat) (u17 u18 u19 u20 u21 u22 u23 u24 : Value), a' = { tmps := #[.func (.yield yl) #[] #[], .pointer (some ⟨B0, 0, none⟩), .pointer (some ⟨W.heap.size, 0, none⟩), .int .i64 (j : Int), .pointer (some ⟨Pb, 0, none⟩), u5, .slice (some ad) n c, .int .i64 (n : Int), .bool false, undef, undef, .int .i64 (j : Int), .slice (some ad) n c, .int .i64 (n : Int), .bool true, u15, u16, u17, u18, u19, u20, u21, u22, u23, u24, u25, u26, u27, u28, u29, u30, u31, u32, u33, u34, u35, u36, u37, u38, u39, u40, u41, u42], defers := rs.map mkd } ∧ PairAt wr w' Pb R (a : Int) (tk : Int)) ?reg6 ?after6
    case reg6 =>
      have n0 : 0 < n := by omega
      have n0i : (0 : Int) < (n : Int) := by omega
      go_region_held3 (fun w' => (w'.cell? ⟨B0, 0, none⟩ = some (.slice (some ad) n c) ∧ w'.cell? ad = some (.int .i64 (a : Int))) ∧ w'.cell? (ad.add j) = some (.int .i64 (tk : Int)))
        (first
        | exact XV.out _ (Kp.rfl' _)
        | exact XV.out _ ((Kp.rfl' _).drewN 1)
        | exact XV.out _ (((Kp.rfl' _).drewN 1).new _)
        | exact XV.out _ ((((Kp.rfl' _).drewN 1).new _).new _)
        | exact XV.out _ (((((Kp.rfl' _).drewN 1).new _).new _).put (by simp) _))
        ((first
        | fail))
      all_goals
        first
        | exact ⟨_, _, _, _, _, _, _, _, _, _, rfl, pair_one wr _ _⟩
        | exact ⟨_, _, _, _, _, _, _, _, _, _, rfl, pair_two wr _ _⟩
    case after6 =>
      rintro a' w1 ⟨Pb, R, u17, u18, u19, u20, u21, u22, u23, u24, rfl, hPA⟩
      have v1 := (XV.out w1 hPA.kp).1.1
      have K1 := Lib.hid hPA.kp
      have PA := Lib.hid hPA
      have CC := Lib.hid (fun (g : Nat) (A1 A2 : Option Addr) (e1 e2 : Nat) (w' : World) (kw : Kp wr w') (h1 : 1 < j → A1 = some (ad.add 1)) (h2 : j + 1 < n → A2 = some (ad.add (j + 1)))
          (c0 : w'.cell? ⟨g, 0, none⟩ = some (.slice A1 (j - 1) e1)) (c1 : w'.cell? ⟨g, 1, none⟩ = some (.slice A2 (n - (j + 1)) e2)) =>
        (show Calls Try.prog 23 #[.slice (some ⟨g, 0, none⟩) 2 2] w' fun e w'' => ∃ C cc, e = .returned (.slice C (n - 2) cc) ∧ n - 2 ≤ cc ∧ Lies w'' C (nz (t.take k ++ t.drop (k + 1))) ∧ (∀ ad, C = some ad → w'.heap.size ≤ ad.block ∧ ad.block < w''.heap.size) ∧ Kp w' w'' from by
          have hrow := HPP.out.row.keep kw
          have hlen : (nz t).length = p := by rw [nz_len, HP.out]
          have hnp := NP.out
          have hjk := JK.out
          have hkp := KN.out
          refine (concat_all g (j - 1) (n - (j + 1)) e1 e2 A1 A2 ((nz t).take k) ((nz t).drop (k + 1)) w' c0 c1 (fun i hi => ?_) (fun i hi => ?_) (by rw [List.length_take]; omega) (by rw [List.length_drop]; omega) (by omega)).mono fun e w'' ⟨v, he, ho, hk'⟩ => ?_
          · rw [List.length_take] at hi
            rw [h1 (by omega)]
            exact (hrow.drop 1).take k i (by rw [List.length_take]; show i < min k (nz t).length; omega)
          · rw [List.length_drop] at hi
            rw [h2 (by omega), hjk]
            exact hrow.drop (k + 1 + 1) i (by rw [List.length_drop]; show i < (nz t).length + 1 - (k + 1 + 1); omega)
          · rw [← nz_less] at ho
            have e1 : (nz (t.take k ++ t.drop (k + 1))).length = n - 2 := by rw [nz_len, List.length_append, List.length_take, List.length_drop, HP.out]; omega
            obtain ⟨C, cc, rfl, hl, hle⟩ := ho.cap
            rw [e1] at he hle
            rcases ho.2 with ⟨hv, _⟩ | ⟨g', cap, cur, hv, hg, hgs, _⟩
            · injection hv with hv1 hv2 hv3
              subst hv1
              exact ⟨_, cc, he, hle, hl, (fun ad e => by cases e), hk'⟩
            · injection hv with hv1 hv2 hv3
              subst hv1
              exact ⟨_, cc, he, hle, hl, (fun ad e => by cases e; exact ⟨hg, (Array.getElem?_eq_some_iff.1 hgs).1⟩), hk'⟩))
      have PN := Lib.hid (fun (C : Option Addr) (cc : Nat) (w' : World) => pairings_any C (n - 2) cc w')
      clear xa xj
      gi_wp2
      refine region_onl (fun a' w' => ∃ (Bn cc : Nat) (C : Option Addr) (u25 u26 u27 u28 u29 u30 u31 u32 u33 : Value), a' = { tmps := #[.func (.yield yl) #[] #[], .pointer (some ⟨B0, 0, none⟩), .pointer (some ⟨W.heap.size, 0, none⟩), .int .i64 (j : Int), .pointer (some ⟨Pb, 0, none⟩), u5, .slice (some ad) n c, .int .i64 (n : Int), .bool false, undef, undef, .int .i64 (j : Int), .slice (some ad) n c, .int .i64 (n : Int), .bool true, u15, u16, u17, u18, u19, u20, u21, u22, u23, u24, u25, u26, u27, u28, u29, u30, u31, u32, u33, .func (.func 22) #[] #[.pointer (some ⟨Bn, 0, none⟩)], u35, u36, u37, u38, u39, u40, u41, u42], defers := rs.map mkd } ∧
        w1.heap.size ≤ Bn ∧ w'.cell? ⟨Bn, 0, none⟩ = some (.slice C (n - 2) cc) ∧ n - 2 ≤ cc ∧ Lies w' C (nz (t.take k ++ t.drop (k + 1))) ∧ (∀ ad, C = some ad → w1.heap.size ≤ ad.block ∧ ad.block < w'.heap.size) ∧ Bn < w'.heap.size ∧ Kp w1 w') ?reg7 ?after7
      case reg7 =>
        have j1 : 1 ≤ j := by have := JK.out; omega
        have ji1 : (1 : Int) ≤ (j : Int) := by omega
        have jc : j ≤ c := by omega
        have jc1 : j + 1 ≤ c := by omega
        have jn1 : j + 1 ≤ n := by omega
        have jin : (j : Int) + 1 ≤ (n : Int) := by omega
        have j0 : (0 : Int) ≤ (j : Int) + 1 := by omega
        have hw1 : IntKind.i64.wrap ((j : Int) + 1) = (j : Int) + 1 := IntWalk.i64_in _ (by omega)
        have c1 : ¬ c = 1 := by omega
        have HA1 := Lib.hid (show (some ⟨ad.block, ad.off + 1, none⟩ : Option Addr) = some (ad.add 1) by rw [Addr.add_succ'])
        have HA2 := Lib.hid (show (some ⟨ad.block, ad.off + (j + 1), none⟩ : Option Addr) = some (ad.add (j + 1)) by rw [Addr.add_succ'])
        clear PA hPA HJ HY HT ih HP PU XV HYS HJS HPP HMM HSZ KK0
        go_region_law (first
          | (go_simp; go_at_call 23; refine (CC.out w1.heap.size (some ⟨ad.block, ad.off + 1, none⟩) (if c = j + 1 then some ad else some ⟨ad.block, ad.off + (j + 1), none⟩) (c - 1) (c - (j + 1)) _ ((K1.out.new _).drewN 1) (fun _ => HA1.out) (fun h => by rw [if_neg (by omega)]; exact HA2.out) ((cell_made w1 _ _ _ 0 rfl).trans rfl) ((cell_made w1 _ _ _ 1 rfl).trans rfl)).mono ?_; rintro e w2 ⟨C, cc, rfl, hcc, hlC, hbC, hk2⟩; have HCC := Lib.hid hcc; have HLC := Lib.hid hlC; have HBC := Lib.hid hbC; have K2 := Lib.hid hk2; clear hcc hlC hbC hk2)
          | (go_simp; go_at_call 15; refine (PN.out C cc w2).mono ?_; rintro e w3 ⟨rfl, rfl⟩))
        all_goals
          have kn : Kp w2 (w2.alloc (.cells #[.slice C (n - 2) cc] 32)) := (Kp.rfl' w2).new _
          refine ⟨w2.heap.size, cc, C, _, _, _, _, _, _, _, _, _, rfl, ?_, (cell_made w2 _ _ _ 0 rfl).trans rfl, HCC.out, HLC.out.keep kn, fun ad e => ⟨Nat.le_trans (by simp) (HBC.out ad e).1, Nat.lt_of_lt_of_le (HBC.out ad e).2 (by simp)⟩, by simp, (((Kp.rfl' w1).new _).drewN 1).trans (K2.out.trans kn)⟩
          exact Nat.le_trans (by simp) K2.out.size
      case after7 =>
        rintro a' w3 ⟨Bn, cc, C, u25, u26, u27, u28, u29, u30, u31, u32, u33, rfl, hBn, xC, hcc, hlC, hCb, hBs, hk3⟩
        have hlen : (t.take k ++ t.drop (k + 1)).length = n - 2 := by
          rw [List.length_append, List.length_take, List.length_drop, HP.out]; have := NP.out; have := KN.out; omega
        have hle : n - 2 ≤ u := by have := PU.out; have := NP.out; omega
        have sz1 := K1.out.size
        have sz3 := hk3.size
        have szW := HSZ.out
        have hPb := PA.out.b
        have hRb := PA.out.r
        have hPl : Pb < w1.heap.size := cell_lt PA.out.v
        have hRl : R < w1.heap.size := cell_lt PA.out.x0
        have hTl : ∀ x, T x → x < W.heap.size := HT.out
        have hnb : ∀ x, W.heap.size ≤ x → x < w3.heap.size → ¬ (T x ∨ x = w3.heap.size + 1) := fun x h1 h2 h => by
          rcases h with h | h
          · have := hTl x h; omega
          · omega
        have hnt : ∀ x, W.heap.size ≤ x → ¬ T x := fun x h1 h => by have := hTl x h; omega
        have KW3 := Lib.hid (K1.out.trans hk3)
        obtain ⟨RL, hRL⟩ : ∃ RL, RL = Zx.prs u (t.take k ++ t.drop (k + 1)) := ⟨_, rfl⟩
        have SEQ := Lib.hid (SeqLo.any (m := 11) (ih (t.take k ++ t.drop (k + 1)) (n - 2) cc C Bn (fun x => T x ∨ x = w3.heap.size + 1) w3 hlen hle hcc (hnb Bn (by omega) hBs) (fun ad e => by
          have := hCb ad e
          exact hnb _ (by omega) (by omega)) hlC xC))
        rw [← hRL] at SEQ
        have PRK := Lib.hid (show Zx.prt (Zx.prs u) a t (k + 1) = Zx.prt (Zx.prs u) a t k ++ RL.map fun r => a :: tk :: r by rw [hRL, TK.out]; rfl)
        have MEM := Lib.hid (fun r (h : r ∈ RL) => (show a :: tk :: r ∈ Zx.prt (Zx.prs u) a t p from Zx.prt_mem (k := k) (by rw [TK.out]; exact Zx.prk_mem (hRL ▸ h)) KN.out))
        have LEN := Lib.hid (show (Zx.prt (Zx.prs u) a t k).length + RL.length ≤ (Zx.prt (Zx.prs u) a t p).length by
          have := Zx.prt_len (Zx.prs u) a t (j := k + 1) (k := p) KN.out
          rw [PRK.out, List.length_append, List.length_map] at this
          exact this)
        have YL := Lib.hid (show ys.length = (Zx.prt (Zx.prs u) a t k).length by rw [← HYS.out, List.length_map])
        have RLEN := Lib.hid (fun r (h : r ∈ RL) => (show r.length ≤ 7 by have := Zx.prs_length u _ r (hRL ▸ h); omega))
        clear hRL ih xC hlC hcc hCb hlen hle
        gi_wp2
        have hmE : ∀ x : Orw, (orEnc x).size = 1 := fun _ => rfl
        refine wpIn_rangeLow (F := Fence.wide) (n := 12) rfl (by decide) (gf := 22) (lb := #[.pointer (some ⟨Bn, 0, none⟩)]) rfl trivial (enters_of Try.func22 (by kernel_rfl) rfl) (T0 := T)
          (fun x h => by have := hTl x h; omega)
          SEQ.out (fun _ => rfl)
          (fun (s : List Orw) V => ∃ zs : List Orw, zs.map (·.1) = s.map (fun y => a :: tk :: y.1) ∧ J (ys ++ zs) V ∧ Pr2 W.heap.size B0 yl n c (some ad) (a :: t) V ∧ PrC Pb R (a : Int) (tk : Int) V ∧ Mkd W.heap.size rs V ∧ w3.heap.size ≤ V.heap.size)
          ?hI ?h0
          (fun x a' V => OrW RL x V ∧ a' = { tmps := #[.func (.yield yl) #[] #[], .pointer (some ⟨B0, 0, none⟩), .pointer (some ⟨W.heap.size, 0, none⟩), .int .i64 (j : Int), .pointer (some ⟨Pb, 0, none⟩), .slice x.2.1 x.1.length x.2.2, .slice (some ad) n c, .int .i64 (n : Int), .bool false, undef, undef, .int .i64 (j : Int), .slice (some ad) n c, .int .i64 (n : Int), .bool true, u15, u16, u17, u18, u19, u20, u21, u22, u23, u24, u25, u26, u27, u28, u29, u30, u31, u32, u33, .func (.func 22) #[] #[.pointer (some ⟨Bn, 0, none⟩)], .slice x.2.1 x.1.length x.2.2, u36, u37, u38, u39, u40, u41, u42], defers := [] })
          (fun x a' V r o hr ⟨h4, h5⟩ => ⟨⟨h4.1.putLoop hr o, h4.2⟩, h5⟩)
          ?assign ?body ?done
        case hI =>
          rintro s V V' ⟨zs, h1, h2, h3, h4, h5, h6⟩ q
          have qk := Kept.ofBelow q
          refine ⟨zs, h1, HJ.out _ _ _ h2 (q.mono (by omega)), h3.kept qk (by omega) (by omega) (fun ad' e => by cases e; omega), h4.kept qk (by omega) (by omega), h5.below q (fun r hr => by have := HMM.out.lt hr; omega), Nat.le_trans h6 q.size⟩
        case h0 =>
          refine ⟨[], rfl, ?_, HPP.out.keep KW3.out, ?_, HMM.out.below KW3.out (fun r hr => HMM.out.lt hr), Nat.le_refl _⟩
          · rw [List.append_nil]; exact HJ.out _ _ _ HJS.out (Below.mono KW3.out (by omega))
          · exact PrC.keep ⟨PA.out.v, PA.out.x0, PA.out.x1⟩ hk3
        case assign =>
          rintro pre x V K hlt hs hx hK
          unfold orEnc
          gi_wp2
          exact hK _ _ (Kp.rfl' _) ⟨hx, rfl⟩
        case done =>
          rintro xs V hlt hS ⟨zs, h1, h2, h3, h4, h5, h6⟩ hD
          have hw1 : IntKind.i64.wrap ((j : Int) + 1) = (j : Int) + 1 := IntWalk.i64_in _ (by omega)
          gi_wp2
          refine ⟨⟨k + 1, j + 1, ys ++ zs, w3.heap.size :: rs, _, _, _, _, _, _, _, _, _, _, _, _, _, _, _, _, _, _, _, _, _, _, _, _, _, _, _, _, _, _, _, _, _, _, by rw [JK.out], by omega, rfl, ?_, h2, h3, by omega, h5.more (fun r hr => by have := HMM.out.lt hr; omega) (by omega) hD⟩, ?_⟩
          · rw [List.map_append, HYS.out, h1, PRK.out, ← hS, List.map_map]; rfl
          · simp [intOf]; omega
        case body =>
          rintro pre x a' V hlt ⟨r, hr⟩ ⟨zs, h1, h2, h3, h4, h5, h6⟩ ⟨hx, rfl⟩ hlen
          have hxl := RLEN.out x.1 hx.2.2
          obtain ⟨O, hO⟩ : ∃ O : Obj, O = .cells #[.slice (some ⟨R, 0, none⟩) 2 2, .slice x.2.1 x.1.length x.2.2] 32 := ⟨_, rfl⟩
          have CO := Lib.hid (fun (g : Nat) (V' : World) (kv : Kp V V') (c0 : V'.cell? ⟨g, 0, none⟩ = some (.slice (some ⟨R, 0, none⟩) 2 2)) (c1 : V'.cell? ⟨g, 1, none⟩ = some (.slice x.2.1 x.1.length x.2.2)) =>
            (show Calls Try.prog 23 #[.slice (some ⟨g, 0, none⟩) 2 2] V' fun e V'' => ∃ D dd, e = .returned (.slice D (x.1.length + 1 + 1) dd) ∧ x.1.length + 1 + 1 ≤ dd ∧ Lies V'' D (nz (a :: tk :: x.1)) ∧ Kp V' V'' from by
              refine (concat_all g 2 x.1.length 2 x.2.2 (some ⟨R, 0, none⟩) x.2.1 (nz [a, tk]) (nz x.1) V' c0 c1 ((h4.keep kv).lies) (hx.1.keep kv) (by rw [nz_len]; rfl) (by rw [nz_len]) (by omega)).mono fun e w'' ⟨v, he, ho, hk'⟩ => ?_
              have e1 : nz [a, tk] ++ nz x.1 = nz (a :: tk :: x.1) := by unfold nz; rw [← List.map_append]; rfl
              rw [e1] at ho
              obtain ⟨D, dd, rfl, hl, hle⟩ := ho.cap
              have e2 : (nz (a :: tk :: x.1)).length = x.1.length + 1 + 1 := by rw [nz_len]; rfl
              rw [e2] at he hle
              exact ⟨D, dd, he, hle, hl, hk'⟩))
          have YV := Lib.hid (fun (V' : World) (q : Kp V V') => (show V'.cell? ⟨W.heap.size, 0, none⟩ = some (.func (.yield yl) #[] #[]) from (q.cell (p := ⟨W.heap.size, 0, none⟩) (cell_lt h3.y)).trans h3.y))
          have zl : zs.length = pre.length := by have := congrArg List.length h1; rwa [List.length_map, List.length_map] at this
          have YLD := Lib.hid (fun (V' : World) (q : Kp V V') (D : Option Addr) (dd : Nat) (hd : x.1.length + 1 + 1 ≤ dd) (hl : Lies V' D (nz (a :: tk :: x.1))) =>
            yieldAt_any 8 (HY.out (ys ++ zs) (a :: tk :: x.1, D, dd) V' (HJ.out _ _ _ h2 (Below.mono q (by omega))) (by have := q.size; omega) ⟨hl, hd, MEM.out x.1 hx.2.2⟩ (by rw [List.length_append, YL.out, zl]; have := LEN.out; omega)))
          have FIN := Lib.hid (fun (V3 V4 : World) (D : Option Addr) (dd : Nat) (q : Kp V V3) (j4 : J (ys ++ zs ++ [(a :: tk :: x.1, D, dd)]) V4) (k4 : Kept T V3 V4) =>
            (show Kept T V V4 ∧ ∃ zs' : List Orw, zs'.map (·.1) = (pre ++ [x]).map (fun y => a :: tk :: y.1) ∧ J (ys ++ zs') V4 ∧ Pr2 W.heap.size B0 yl n c (some ad) (a :: t) V4 ∧ PrC Pb R (a : Int) (tk : Int) V4 ∧ Mkd W.heap.size rs V4 ∧ w3.heap.size ≤ V4.heap.size from by
              have kk : Kept T V V4 := (Kept.of q).trans k4
              refine ⟨kk, zs ++ [(a :: tk :: x.1, D, dd)], ?_, ?_, h3.kept kk TY t0 tA, h4.kept kk (hnt _ (by omega)) (hnt _ (by omega)), h5.kept kk hTl, Nat.le_trans h6 kk.size⟩
              · rw [List.map_append, h1, List.map_append]; rfl
              · rw [← List.append_assoc]; exact j4))
          have cP : V.drew.cell? ⟨Pb, 0, none⟩ = some (.slice (some ⟨R, 0, none⟩) 2 2) := h4.v
          have cY := YV.out V.drew ((Kp.rfl' V).drewN 1)
          have cY1 := YV.out (V.drew.alloc O) (((Kp.rfl' V).drewN 1).new O)
          have cY2 := YV.out (V.alloc O).drew (((Kp.rfl' V).new O).drewN 1)
          have hmix : Try.prog.follows .mixedOrders = true := by kernel_rfl
          rw [hO] at cY1 cY2
          have KV1 := Lib.hid (show Kp V (V.alloc O).drew from ((Kp.rfl' V).new O).drewN 1)
          rw [hO] at KV1
          clear hO h1 h2 h3 h4 h5 h6 hx hlen hr hlt zl hxl hnb hnt hTl TY t0 tA SEQ PRK MEM LEN YL HYS HJS HPP HMM HSZ KW3 HY HJ HT XV CC PN PA
          gi_wp2
          gi_region_with_o (first
            | (refine ⟨trivial, ?_⟩; refine (CallsIn.inRound _ (callsIn_wide.2 (CO.out V.heap.size _ KV1.out ((cell_made V _ _ _ 0 rfl).trans rfl) ((cell_made V _ _ _ 1 rfl).trans rfl)))).mono ?_; rintro e V3 ⟨D, dd, rfl, hdd, hlD, k3⟩; have K3 := Lib.hid (KV1.out.trans k3); have cY3 := YV.out V3 K3.out; obtain ⟨fn, tmps, assign, body, hyy, hR⟩ := YLD.out V3 K3.out D dd hdd hlD; unfold orEnc at hyy; dsimp only [List.length_cons] at hyy; have RR := Lib.hid hR; clear hR k3 hdd hlD)
            | (refine (roundIn_one RR.out).mono ?_; rintro e V4 ⟨rfl, j4, k4⟩; have F4 := Lib.hid (FIN.out V3 V4 D dd K3.out j4 k4); clear j4 k4))
          all_goals
            gi_wp2
            exact F4.out
  · obtain rfl : j = n := by omega
    gi_wp2
    refine leaves_marks rs wr hM fun w' k' => ?_
    exact ⟨_, results_none rfl _ _ _, ⟨_, rfl⟩, ys, by rw [hys, show k = p by have := NP.out; omega], HJ.out _ _ _ hJs k'⟩

set_option maxHeartbeats 1600000 in
/-- The iterator over all partitions into pairs, of at most six numbers. -/
theorem pairings_in : ∀ (u : Nat), u ≤ 6 → ∀ (l : List Nat) (n c : Nat) (A : Option Addr) (B0 : Nat) (T : Nat → Prop) (w0 : World), l.length = n → n ≤ u → n ≤ c → ¬ T B0 → (∀ ad, A = some ad → ¬ T ad.block) → Lies w0 A (nz l) → w0.cell? ⟨B0, 0, none⟩ = some (.slice A n c) →
      SeqLo Fence.wide 12 Try.prog 22 #[.pointer (some ⟨B0, 0, none⟩)] orEnc (OrW (Zx.prs u l)) T (fun ys => ys.map (·.1) = Zx.prs u l) (Zx.prs u l).length w0
  | u, _, [], n, c, A, B0, T, w0, hl, _, _, t0, _, _, c0 => by
    subst hl
    exact pairings_nil u c A B0 T t0 w0 c0
  | 0, _, a :: t, n, c, A, B0, T, w0, hl, hn, _, _, _, _, _ => by
    rw [List.length_cons] at hl
    omega
  | u + 1, hu, a :: t, n, c, A, B0, T, w0, hl, hn, hc, t0, tA, hA, c0 => by
    rw [List.length_cons] at hl
    exact pairings_step u (by omega) (pairings_in u (by omega)) a t t.length n c A B0 T w0 rfl hl.symm (by omega) hc t0 tA hA c0
end Go.Proofs.Ytkebjmapdcbnaaa
