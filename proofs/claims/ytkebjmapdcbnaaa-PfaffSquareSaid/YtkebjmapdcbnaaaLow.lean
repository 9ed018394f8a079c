/- A range over an iterator that writes memory of its own, by a body that always goes on: what both sides promise; the law for a loop in a function and for one within a round. For all packages; no program is named. -/
import Derived.RangeFuncNested
import Derived.RangeFuncBound
import Derived.RangeFuncLeaves
import Derived.Test.YtkebjmapdcbnaaaMem
namespace Go.Proofs.Ytkebjmapdcbnaaa
open Go.RowKit
set_option linter.unusedVariables false

/-- All blocks but those of T lie as they lay. -/
structure Kept (T : Nat → Prop) (w w' : World) : Prop where
  os : w'.os = w.os
  tape : w'.tape = w.tape
  output : w'.output = w.output
  size : w.heap.size ≤ w'.heap.size
  block : ∀ k, k < w.heap.size → ¬ T k → w'.heap[k]? = w.heap[k]?
theorem Kept.rfl' (T : Nat → Prop) (w : World) : Kept T w w := ⟨rfl, rfl, rfl, Nat.le_refl _, fun _ _ _ => rfl⟩
theorem Kept.trans {T : Nat → Prop} {a b c : World} (h : Kept T a b) (k : Kept T b c) : Kept T a c :=
  ⟨k.os.trans h.os, k.tape.trans h.tape, k.output.trans h.output, Nat.le_trans h.size k.size, fun i hi ht => (k.block i (Nat.lt_of_lt_of_le hi h.size) ht).trans (h.block i hi ht)⟩
theorem Kept.mono {T U : Nat → Prop} {a b : World} (h : Kept T a b) (hT : ∀ k, T k → U k) : Kept U a b := ⟨h.os, h.tape, h.output, h.size, fun k hk hu => h.block k hk fun ht => hu (hT k ht)⟩
theorem Kept.of {T : Nat → Prop} {a b : World} (h : Kp a b) : Kept T a b := ⟨h.os, h.tape, h.output, h.size, fun k hk _ => h.block k hk⟩
theorem Kept.below {T : Nat → Prop} {a b : World} {B : Nat} (h : Kept T a b) (hT : ∀ k, k < B → ¬ T k) (hB : B ≤ a.heap.size) : Below B a b := ⟨h.os, h.tape, h.output, h.size, fun k hk => h.block k (Nat.lt_of_lt_of_le hk hB) (hT k hk)⟩
theorem Kept.next {T : Nat → Prop} {a b c : World} {B : Nat} (h : Kept T a b) (k : Below B b c) (hB : a.heap.size ≤ B) : Kept T a c :=
  ⟨k.os.trans h.os, k.tape.trans h.tape, k.output.trans h.output, Nat.le_trans h.size k.size, fun i hi ht => (k.block i (Nat.lt_of_lt_of_le hi hB)).trans (h.block i hi ht)⟩
theorem Kept.cell {T : Nat → Prop} {a b : World} (h : Kept T a b) {p : Addr} (hp : p.block < a.heap.size) (ht : ¬ T p.block) : b.cell? p = a.cell? p := World.cell?_of_block (w := a) (h.block p.block hp ht)
theorem Kept.frozen {T : Nat → Prop} {a b : World} (h : Kept T a b) {p : Addr} (hp : p.block < a.heap.size) (ht : ¬ T p.block) : b.frozen? p = a.frozen? p := World.frozen?_of_block (w := a) (h.block p.block hp ht)
theorem below_putObj {B : Nat} (W : World) (l : Nat) (o : Obj) (h : B ≤ l) : Below B W (W.putObj l o) := ⟨rfl, rfl, rfl, by simp, fun k hk => World.putObj_heap_other (by omega)⟩
theorem kept_putObj {T : Nat → Prop} (W : World) (l : Nat) (o : Obj) (h : T l) : Kept T W (W.putObj l o) := ⟨rfl, rfl, rfl, by simp, fun k hk ht => World.putObj_heap_other fun e => ht (e ▸ h)⟩

/-- What an iterator promises to a body that always goes on, and what it asks: the body turns blocks of T alone; what it knows of memory hangs on what lay when the iterator began. -/
def SeqLo {α : Type} (F : Fence) (n : Nat) (P : Program) (g : Nat) (lb : Array Value) (encs : α → Array Value) (Wt : α → World → Prop) (T : Nat → Prop) (S : List α → Prop) (N : Nat) (w0 : World) : Prop :=
  ∀ (l : Nat) (J : List α → World → Prop) (W : World), Kp w0 W → (∀ k, T k → k < W.heap.size) → (∀ s A B, J s A → Below W.heap.size A B → J s B) →
    (∀ pre x W1, J pre W1 → W.heap.size ≤ W1.heap.size → Wt x W1 → pre.length < N → YieldAt F (n - 1) P l (encs x) W1 fun e W' => e = .returned (.bool true) ∧ J (pre ++ [x]) W' ∧ Kept T W1 W') →
    J [] W → CallsIn F n P g (#[.func (.yield l) #[] #[]] ++ lb) W fun e W' => (∃ v, e = .returned v) ∧ ∃ xs, S xs ∧ J xs W'
theorem SeqLo.inRound {α : Type} {F : Fence} {n : Nat} {P : Program} {g : Nat} {lb : Array Value} {encs : α → Array Value} {Wt : α → World → Prop} {T : Nat → Prop} {S : List α → Prop} {N : Nat} {w0 : World} (l : Nat) (h : SeqLo F n P g lb encs Wt T S N w0) : SeqLo (F.inRound l) n P g lb encs Wt T S N w0 := h

/-- How a body is left: it goes on. -/
def lowPost {α : Type} (T : Nat → Prop) (I : List α → World → Prop) (pre : List α) (W : World) : Exit → Act → World → Prop
  | .normal, _, W' => Kept T W W' ∧ I pre W'
  | _, _, _ => False

section
variable {α : Type} {F : Fence} {n : Nat} {P : Program}
/-- What is known between two rounds: the body's own, and the loop's record. -/
def lowJ (I : List α → World → Prop) (s l : Nat) (W1 : World) (rec : Loop) (pre : List α) (W : World) : Prop :=
  I pre W ∧ W.heap[l]? = some (.loop rec) ∧ W1.heap.size ≤ W.heap.size ∧ ∀ k, s ≤ k → k < W1.heap.size → k ≠ l → W.heap[k]? = W1.heap[k]?
theorem lowJ_below {I : List α → World → Prop} {s l : Nat} {W1 : World} {rec : Loop} (hI : ∀ s' A B, I s' A → Below s A B → I s' B) (hl : l < W1.heap.size) (hs : s ≤ W1.heap.size) :
    ∀ s' A B, lowJ I s l W1 rec s' A → Below W1.heap.size A B → lowJ I s l W1 rec s' B := fun s' A B h k =>
  ⟨hI s' A B h.1 (k.mono hs), (k.block l hl).trans h.2.1, Nat.le_trans h.2.2.1 k.size, fun i h1 h2 h3 => (k.block i h2).trans (h.2.2.2 i h1 h2 h3)⟩
theorem low_round {ps : Array Tmp} {assign body : Code} {tmps : Array Value} {fn : FuncId} {defers : Nat} {encs : α → Array Value} {Wt : α → World → Prop} {T0 : Nat → Prop} {N : Nat} {I : List α → World → Prop} {s l : Nat} {W1 : World}
    (hfn : F.fn fn) (hs : s ≤ l) (hl : l < W1.heap.size) (hT : ∀ k, T0 k → k < s) (hps : ∀ x, (encs x).size = ps.size) (hI : ∀ s' A B, I s' A → Below s A B → I s' B)
    (Ax : α → Act → World → Prop) (hAx : ∀ x a' A r o, A.heap[l]? = some (.loop r) → Ax x a' A → Ax x a' (A.putObj l o))
    (hassign : ∀ pre x W (K : Act → World → Prop), l < W.heap.size → I pre W → Wt x W → (∀ a' W', Kp W W' → Ax x a' W' → K a' W') →
      assign.wpIn (F.inRound l) n P (Exit.then K (fun _ _ _ => False)) { tmps := (ps.zip (encs x)).foldl (fun t (p, v) => t.setIfInBounds p v) tmps, defers := [] } W)
    (hbody : ∀ pre x a' W, l < W.heap.size → (∃ r, W.heap[l]? = some (.loop r)) → I pre W → Ax x a' W → pre.length < N → body.wpIn (F.inRound l) n P (lowPost T0 I (pre ++ [x]) W) a' W)
    (pre : List α) (x : α) (W : World)
    (hJ : lowJ I s l W1 { state := .ready, pending := none, fn, tmps, params := ps, assign, body, defers } pre W) (hW : W1.heap.size ≤ W.heap.size) (hx : Wt x W) (hlen : pre.length < N) :
    YieldAt F n P l (encs x) W fun e W' => e = .returned (.bool true) ∧ lowJ I s l W1 { state := .ready, pending := none, fn, tmps, params := ps, assign, body, defers } (pre ++ [x]) W' ∧ Kept (fun k => T0 k ∨ k = l) W W' := by
  obtain ⟨rec, hrec⟩ : ∃ rec : LoopState → Loop, rec = fun st => { state := st, pending := none, fn, tmps, params := ps, assign, body, defers } := ⟨_, rfl⟩
  have hR : ({ state := .ready, pending := none, fn, tmps, params := ps, assign, body, defers } : Loop) = rec .ready := by rw [hrec]
  rw [hR] at hJ ⊢
  obtain ⟨hi, hl1, hsz, hsm⟩ := hJ
  have hy := run_yield (P := P) (args := encs x) hl1 (by rw [hrec]; exact hps x)
  rw [hrec] at hy
  refine ⟨fn, _, assign, body, hy, roundIn_of_wpIn hfn (hassign pre x W _ (by omega) hi hx ?_)⟩
  clear hy
  intro a' Wa hka hax
  have hla : Wa.heap[l]? = some (.loop (rec .ready)) := (hka.block l (by omega)).trans hl1
  have hlt : l < Wa.heap.size := (Array.getElem?_eq_some_iff.1 hla).1
  refine ⟨_, run_beginRound hla (by rw [hrec]), ?_⟩
  obtain ⟨W2, hW2⟩ : ∃ W2, W2 = Wa.putObj l (.loop { rec .ready with state := .busy }) := ⟨_, rfl⟩
  have hl2 : W2.heap[l]? = some (.loop { rec .ready with state := .busy }) := by rw [hW2]; exact World.putObj_heap_same hlt
  have ka2 : Kept (fun k => T0 k ∨ k = l) W W2 := by rw [hW2]; exact (Kept.of hka).trans (kept_putObj Wa l _ (.inr rfl))
  have hax2 : Ax x a' W2 := by rw [hW2]; exact hAx x a' Wa _ _ hla hax
  have hi2 : I pre W2 := by rw [hW2]; exact hI _ _ _ (hI _ _ _ hi (hka.mono (by omega))) (below_putObj Wa l _ hs)
  have hlt2 : l < W2.heap.size := (Array.getElem?_eq_some_iff.1 hl2).1
  rw [← hW2]
  clear hW2
  refine wpIn_mono (hbody pre x a' W2 hlt2 ⟨_, hl2⟩ hi2 hax2 hlen) ?_
  rintro e a3 W3 hp
  cases e with
  | normal =>
    obtain ⟨hk3, hi3⟩ := hp
    have hl3 : W3.heap[l]? = some (.loop { rec .ready with state := .busy }) := (hk3.block l hlt2 fun ht => by have := hT l ht; omega).trans hl2
    have hlt3 : l < W3.heap.size := (Array.getElem?_eq_some_iff.1 hl3).1
    have hr := run_endRound (P := P) none hl3
    have k3 : Kept (fun k => T0 k ∨ k = l) W W3 := ka2.trans (hk3.mono fun k h => .inl h)
    have k4 : Kept (fun k => T0 k ∨ k = l) W (W3.putObj l (.loop { { rec .ready with state := .busy } with state := if (none : Option Code).isNone then .ready else .done, pending := none })) := k3.trans (kept_putObj W3 l _ (.inr rfl))
    refine ⟨_, _, hr, rfl, ⟨hI _ _ _ hi3 (below_putObj W3 l _ hs), ?_, Nat.le_trans hsz k4.size, fun k h1 h2 h3 => ?_⟩, k4⟩
    · rw [World.putObj_heap_same hlt3, hrec]; rfl
    · exact (k4.block k (by omega) (by rintro (h | h); · have := hT k h; omega
                                       · exact h3 h)).trans (hsm k h1 h2 h3)
  | ret => exact hp.elim
  | exit id => exact hp.elim
  | goto t => exact hp.elim
  | panic ch => exact hp.elim
  | outgrown => exact hp.elim

/-- A loop in a function of its own. -/
theorem wpIn_rangeLow {g : Operand} {ps : Array Tmp} {assign body : Code} {Q : Exit → Act → World → Prop} {a : Act} {w : World}
    (hro : F.round = none) (h1 : 1 ≤ n) {gf : Nat} {lb : Array Value} (hg : a.eval g = .func (.func gf) #[] lb) (hFg : F.fn gf) (eg : ∀ args w, (callFunc gf args).run P w = .ok (.enter gf args) w)
    {encs : α → Array Value} {Wt : α → World → Prop} {T0 : Nat → Prop} {S : List α → Prop} {N : Nat} (hT : ∀ k, T0 k → k < w.heap.size)
    (hseq : SeqLo F (n - 1) P gf lb encs Wt (fun k => T0 k ∨ k = w.heap.size + 1) S N w) (hps : ∀ x, (encs x).size = ps.size)
    (I : List α → World → Prop) (hI : ∀ s A B, I s A → Below w.heap.size A B → I s B) (h0 : I [] w)
    (Ax : α → Act → World → Prop) (hAx : ∀ x a' A r o, A.heap[w.heap.size + 1]? = some (.loop r) → Ax x a' A → Ax x a' (A.putObj (w.heap.size + 1) o))
    (hassign : ∀ pre x W (K : Act → World → Prop), w.heap.size + 1 < W.heap.size → I pre W → Wt x W → (∀ a' W', Kp W W' → Ax x a' W' → K a' W') →
      assign.wpIn (F.inRound (w.heap.size + 1)) (n - 1 - 1) P (Exit.then K (fun _ _ _ => False)) { tmps := (ps.zip (encs x)).foldl (fun t (p, v) => t.setIfInBounds p v) a.tmps, defers := [] } W)
    (hbody : ∀ pre x a' W, w.heap.size + 1 < W.heap.size → (∃ r, W.heap[w.heap.size + 1]? = some (.loop r)) → I pre W → Ax x a' W → pre.length < N → body.wpIn (F.inRound (w.heap.size + 1)) (n - 1 - 1) P (lowPost T0 I (pre ++ [x]) W) a' W)
    (hdone : ∀ xs W, w.heap.size + 1 < W.heap.size → S xs → I xs W → W.heap[w.heap.size]? = some (.deferred (some [])) → Q .normal { a with defers := { target := .collected w.heap.size, args := #[] } :: a.defers } W) :
    (Code.rangeFunc g ps assign body).wpIn F n P Q a w := by
  refine wpIn_rangeFunc ?_
  intro fn hfn
  rw [hro]
  obtain ⟨W1, hW1⟩ : ∃ W1, (w.alloc (.deferred (some []))).alloc (.loop { state := .ready, pending := none, fn, tmps := a.tmps, params := ps, assign, body, defers := w.heap.size }) = W1 := ⟨_, rfl⟩
  have k1 : Kp w W1 := by rw [← hW1]; exact ((Kp.rfl' w).new _).new _
  have s1 : W1.heap.size = w.heap.size + 2 := by rw [← hW1]; simp
  have hL1 : W1.heap[w.heap.size + 1]? = some (.loop { state := .ready, pending := none, fn, tmps := a.tmps, params := ps, assign, body, defers := w.heap.size }) := by
    rw [← hW1]; have := World.alloc_heap_new (w.alloc (.deferred (some []))) (.loop { state := .ready, pending := none, fn, tmps := a.tmps, params := ps, assign, body, defers := w.heap.size }); rwa [World.size_alloc] at this
  have hK1 : W1.heap[w.heap.size]? = some (.deferred (some [])) := by
    rw [← hW1]; exact (Below.heap_alloc _ _ _ (by simp)).trans (World.alloc_heap_new w _)
  refine ⟨w.heap.size + 1, [{ target := .collected w.heap.size, args := #[] }], W1, { target := .fn (.func gf) lb, args := #[.func (.yield (w.heap.size + 1)) #[] #[]] }, W1, gf,
    #[.func (.yield (w.heap.size + 1)) #[] #[]] ++ lb, W1, ?_, ?_, ?_, ?_, fun _ => h1, ?_⟩
  · rw [← hW1]; exact run_enterLoop_outer _ _ _ _ _
  · simp only [resolve, hg]
    simp [go_sem]
  · intro f' hf'; simp [Target.leads] at hf'; subst hf'; exact hFg
  · simp [invoke, go_sem, eg]
  · refine (hseq (w.heap.size + 1) (lowJ I w.heap.size (w.heap.size + 1) W1 _) W1 k1 (by rintro k (h | h); · have := hT k h; omega
                                                                                         · omega) (lowJ_below hI (by omega) (by omega))
      (fun pre x W hJ hW hx hlen => low_round (n := n - 1 - 1) hfn (Nat.le_succ _) (by omega) hT hps hI Ax hAx hassign hbody pre x W hJ hW hx hlen)
      ⟨hI _ _ _ h0 k1, hL1, Nat.le_refl _, fun _ _ _ _ => rfl⟩).mono ?_
    rintro e W2 ⟨⟨v, rfl⟩, xs, hS, hi, hl, hsz, hsm⟩
    refine ⟨none, _, run_endLoop (P := P) hl (by simp), ?_⟩
    exact hdone xs _ (by simp; omega) hS (hI _ _ _ hi (below_putObj W2 _ _ (Nat.le_succ _))) ((World.putObj_heap_other (by omega)).trans ((hsm _ (Nat.le_refl _) (by omega) (by omega)).trans hK1))

/-- A loop within a round of another one. -/
theorem wpIn_rangeLowN {l₀ : Nat} {r₀ : Loop} {g : Operand} {ps : Array Tmp} {assign body : Code} {Q : Exit → Act → World → Prop} {a : Act} {w : World}
    (hro : F.round = some l₀) (hl₀ : w.heap[l₀]? = some (.loop r₀)) (h1 : 1 ≤ n) {gf : Nat} {lb : Array Value} (hg : a.eval g = .func (.func gf) #[] lb) (hFg : F.fn gf) (eg : ∀ args w, (callFunc gf args).run P w = .ok (.enter gf args) w)
    {encs : α → Array Value} {Wt : α → World → Prop} {T0 : Nat → Prop} {S : List α → Prop} {N : Nat} (hT : ∀ k, T0 k → k < w.heap.size)
    (hseq : SeqLo F (n - 1) P gf lb encs Wt (fun k => T0 k ∨ k = w.heap.size) S N w) (hps : ∀ x, (encs x).size = ps.size)
    (I : List α → World → Prop) (hI : ∀ s A B, I s A → Below w.heap.size A B → I s B) (h0 : I [] w)
    (Ax : α → Act → World → Prop) (hAx : ∀ x a' A r o, A.heap[w.heap.size]? = some (.loop r) → Ax x a' A → Ax x a' (A.putObj w.heap.size o))
    (hassign : ∀ pre x W (K : Act → World → Prop), w.heap.size < W.heap.size → I pre W → Wt x W → (∀ a' W', Kp W W' → Ax x a' W' → K a' W') →
      assign.wpIn (F.inRound w.heap.size) (n - 1 - 1) P (Exit.then K (fun _ _ _ => False)) { tmps := (ps.zip (encs x)).foldl (fun t (p, v) => t.setIfInBounds p v) a.tmps, defers := [] } W)
    (hbody : ∀ pre x a' W, w.heap.size < W.heap.size → (∃ r, W.heap[w.heap.size]? = some (.loop r)) → I pre W → Ax x a' W → pre.length < N → body.wpIn (F.inRound w.heap.size) (n - 1 - 1) P (lowPost T0 I (pre ++ [x]) W) a' W)
    (hdone : ∀ xs W, w.heap.size < W.heap.size → S xs → I xs W → Q .normal a W) :
    (Code.rangeFunc g ps assign body).wpIn F n P Q a w := by
  refine wpIn_rangeFunc ?_
  intro fn hfn
  rw [hro]
  obtain ⟨W1, hW1⟩ : ∃ W1, w.alloc (.loop { state := .ready, pending := none, fn, tmps := a.tmps, params := ps, assign, body, defers := r₀.defers }) = W1 := ⟨_, rfl⟩
  have k1 : Kp w W1 := by rw [← hW1]; exact (Kp.rfl' w).new _
  have s1 : W1.heap.size = w.heap.size + 1 := by rw [← hW1]; simp
  have hL1 : W1.heap[w.heap.size]? = some (.loop { state := .ready, pending := none, fn, tmps := a.tmps, params := ps, assign, body, defers := r₀.defers }) := by rw [← hW1]; exact World.alloc_heap_new w _
  refine ⟨w.heap.size, [], W1, { target := .fn (.func gf) lb, args := #[.func (.yield w.heap.size) #[] #[]] }, W1, gf,
    #[.func (.yield w.heap.size) #[] #[]] ++ lb, W1, ?_, ?_, ?_, ?_, fun _ => h1, ?_⟩
  · rw [← hW1]; exact run_enterLoop_inner hl₀ _ _ _ _ _
  · simp only [resolve, hg]
    simp [go_sem]
  · intro f' hf'; simp [Target.leads] at hf'; subst hf'; exact hFg
  · simp [invoke, go_sem, eg]
  · refine (hseq w.heap.size (lowJ I w.heap.size w.heap.size W1 _) W1 k1 (by rintro k (h | h); · have := hT k h; omega
                                                                             · omega) (lowJ_below hI (by omega) (by omega))
      (fun pre x W hJ hW hx hlen => low_round (n := n - 1 - 1) hfn (Nat.le_refl _) (by omega) hT hps hI Ax hAx hassign hbody pre x W hJ hW hx hlen)
      ⟨hI _ _ _ h0 k1, hL1, Nat.le_refl _, fun _ _ _ _ => rfl⟩).mono ?_
    rintro e W2 ⟨⟨v, rfl⟩, xs, hS, hi, hl, hsz, hsm⟩
    refine ⟨none, _, run_endLoop (P := P) hl (by simp), ?_⟩
    exact hdone xs _ (by simp; omega) hS (hI _ _ _ hi (below_putObj W2 _ _ (Nat.le_refl _)))
end

/-- Where no depth is asked a round may be begun from anywhere. -/
theorem roundIn_any {m m' : Nat} {P : Program} {l : Nat} {f : FuncId} {tmps : Array Value} {assign body : Code} {w : World} {R : Ending → World → Prop} (h : RoundIn Fence.wide m P l f tmps assign body w R) : RoundIn Fence.wide m' P l f tmps assign body w R :=
  ⟨h.1, fun c cs _ => h.2 c cs fun d e => by cases e⟩
theorem roundIn_deep {m m' a b : Nat} {P : Program} {l : Nat} {f : FuncId} {tmps : Array Value} {assign body : Code} {w : World} {R : Ending → World → Prop} (h : RoundIn Fence.wide m P l f tmps assign body w R) : RoundIn ((Fence.wide.inRound a).inRound b) m' P l f tmps assign body w R := roundIn_any h
theorem callsIn_deep {m a b : Nat} {P : Program} {f : FuncId} {args : Array Value} {w : World} {R : Ending → World → Prop} (h : Calls P f args w R) : CallsIn ((Fence.wide.inRound a).inRound b) m P f args w R := CallsIn.inRound b (CallsIn.inRound a (callsIn_wide.2 h))
theorem yieldAt_any {m : Nat} (m' : Nat) {P : Program} {l : Nat} {args : Array Value} {W : World} {R : Ending → World → Prop} (h : YieldAt Fence.wide m P l args W R) : YieldAt Fence.wide m' P l args W R := by
  obtain ⟨fn, tmps, assign, body, hy, hR⟩ := h
  exact ⟨fn, tmps, assign, body, hy, roundIn_any hR⟩
/-- What memory holds lies on where the blocks that may turn are others. -/
theorem LiesIn.kept {T : Nat → Prop} {w w' : World} {B : Nat} {A : Option Addr} {l : List Int} (h : LiesIn w B A l) (k : Kept T w w') (hB : B ≤ w.heap.size) (ht : ∀ ad, A = some ad → ¬ T ad.block) : LiesIn w' B A l := fun i hi => by
  obtain ⟨ad, e, hl, hc⟩ := h i hi
  exact ⟨ad, e, hl, (k.cell (p := ad.add i) (by rw [block_add]; omega) (by rw [block_add]; exact ht ad e)).trans hc⟩
/-- What memory holds lies on when a loop's record turns. -/
theorem Lies.putLoop {w : World} {A : Option Addr} {l : List Int} (h : Lies w A l) {b : Nat} {r : Loop} (hb : w.heap[b]? = some (.loop r)) (o : Obj) : Lies (w.putObj b o) A l := fun k hk => by
  obtain ⟨ad, e, h1, h2⟩ := h k hk
  exact ⟨ad, e, by simpa using h1, cell_kept h2 (grownBy_putObj' w b o) fun r' e' => by cases e'; exact ⟨_, hb, rfl⟩⟩
end Go.Proofs.Ytkebjmapdcbnaaa
