/- Plain facts for the laws on Pfaffians: how large they get; all numbers below 0; heads of rows written. -/
import Derived.Test.YtkebjmapdcbnaaaPfFact
import Derived.Test.YtkebjmapdcbnaaaPfLawB
namespace Go.Proofs.Ytkebjmapdcbnaaa
open Go.ChangeShapes Go.WideShapes Go.ChangeAt Go.RowKit
set_option linter.unusedVariables false

theorem pf_neg {n : Nat} (h6 : n ≤ 6) {f g : Nat → Nat → Int} (h : ∀ a b, g a b = -(f a b)) : (n % 4 = 2 → Zx.pf n g = -(Zx.pf n f)) ∧ (n % 4 ≠ 2 → Zx.pf n g = Zx.pf n f) := by
  have : n = 0 ∨ n = 1 ∨ n = 2 ∨ n = 3 ∨ n = 4 ∨ n = 5 ∨ n = 6 := by omega
  rcases this with rfl | rfl | rfl | rfl | rfl | rfl | rfl
  · exact ⟨fun e => by omega, fun _ => rfl⟩
  · exact ⟨fun e => by omega, fun _ => by rw [Zx.pf_odd 1 g rfl, Zx.pf_odd 1 f rfl]⟩
  · refine ⟨fun _ => ?_, fun e => by omega⟩
    rw [Zx.pf_two, Zx.pf_two, h]; rfl
  · exact ⟨fun e => by omega, fun _ => by rw [Zx.pf_odd 3 g rfl, Zx.pf_odd 3 f rfl]⟩
  · refine ⟨fun e => by omega, fun _ => ?_⟩
    rw [Zx.pf_four, Zx.pf_four, h, h, h, h, h, h]; unfold Zx.P4; grind
  · exact ⟨fun e => by omega, fun _ => by rw [Zx.pf_odd 5 g rfl, Zx.pf_odd 5 f rfl]⟩
  · refine ⟨fun _ => ?_, fun e => by omega⟩
    rw [Zx.pf_six, Zx.pf_six, h, h, h, h, h, h, h, h, h, h, h, h, h, h, h]; unfold Zx.P6; grind
theorem Pz.flip {n : Nat} {f : Nat → Nat → Int} {m : List (List Int)} (s : Pz n f m) : Pz n (Zx.flip f) (Mx.tab n n (Zx.flip f)) :=
  ⟨rfl, s.n0, s.n6, fun i j hi hj => s.ab j i hj hi, fun i j => s.skw j i⟩
theorem Pz.swap {n : Nat} {f : Nat → Nat → Int} {m : List (List Int)} (s : Pz n f m) {p q : Nat} (hp : p < n) (hq : q < n) : Pz n (fun a b => f (Mx.sw p q a) (Mx.sw p q b)) (Mx.tab n n fun a b => f (Mx.sw p q a) (Mx.sw p q b)) := by
  have hs : ∀ a, a < n → Mx.sw p q a < n := fun a ha => by unfold Mx.sw; split <;> (try split) <;> omega
  exact ⟨rfl, s.n0, s.n6, fun i j hi hj => s.ab _ _ (hs i hi) (hs j hj), fun i j => s.skw _ _⟩
theorem POf_or (A : Option Addr) (m : List (List Int)) (n d : Nat) (hn : m.length = n) :
    (∃ f, Pz n f m) ∨ (∃ z : Nat, pfcd m = z ∧ z ≠ 0 ∧ ∀ (w : World), LiesM w A m → Calls Try.prog 7 #[.slice A n d] w fun e w' => e = .returned (.tuple #[.int .i64 0, .iface 44 (.int .i64 (z : Int))]) ∧ Kp w w') := by
  rcases pz_or m hn with h | h
  · exact .inl h
  · exact .inr ⟨_, rfl, h, fun w ha => POf_bad A m n d w ha hn h⟩

/-- A matrix whose heads are the call's own: they may be written. -/
structure MxW (B g n : Nat) (f : Nat → Nat → Int) (w : World) : Prop where
  lies : LiesM w (some ⟨g, 0, none⟩) (Mx.tab n n f)
  free : ∀ p, w.frozen? ⟨g, p, none⟩ = false
  far : B ≤ g
theorem ownM_topFreeP {w : World} {B : Nat} {G C : Nat → Nat} {r c g n cap : Nat} {f : Nat → Nat → Int} (h : OwnM w B (.slice (some ⟨g, 0, none⟩) n cap) G C (Mx.tab r c f)) (i : Nat) : w.frozen? ⟨g, i, none⟩ = false := h.weak.topFree i
theorem MxW.of {B g n gc : Nat} {f : Nat → Nat → Int} {G C : Nat → Nat} {w : World} (h : OwnM w B (.slice (some ⟨g, 0, none⟩) n gc) G C (Mx.tab n n f)) (hg : B ≤ g) : MxW B g n f w := by
  refine ⟨?_, fun p => ownM_topFreeP h p, hg⟩
  exact h.liesM
theorem MxW.head {B g n : Nat} {f : Nat → Nat → Int} {w : World} (h : MxW B g n f w) {p : Nat} (hp : p < n) : ∃ A1 d1, w.cell? ⟨g, p, none⟩ = some (.slice A1 n d1) ∧ n ≤ d1 ∧ Lies w A1 (Mx.row n (f p)) := by
  obtain ⟨ad, A1, d1, e, _, hc, hd, hl⟩ := h.lies.row hp
  cases e
  rw [add_at] at hc
  exact ⟨A1, d1, hc, hd, hl⟩
theorem lies_headPut {w : World} {A : Option Addr} {l : List Int} (h : Lies w A l) {g p : Nat} {A1 : Option Addr} {n d : Nat} (hc : w.cell? ⟨g, p, none⟩ = some (.slice A1 n d)) (v : Value) : Lies (w.setCell ⟨g, p, none⟩ v) A l := fun k hk => by
  obtain ⟨ad, e, hl, hx⟩ := h k hk
  refine ⟨ad, e, by simpa using hl, ?_⟩
  rw [World.cell?_setCell_other (h := fun e' => by rw [← e', hc] at hx; cases hx)]
  exact hx
theorem MxW.put {B g n : Nat} {f : Nat → Nat → Int} {w : World} (h : MxW B g n f w) {p : Nat} (hp : p < n) {A1 : Option Addr} {d1 : Nat} {u : Nat → Int} (hl : Lies w A1 (Mx.row n u)) (hd : n ≤ d1) : MxW B g n (Zx.setr p u f) (w.setCell ⟨g, p, none⟩ (.slice A1 n d1)) := by
  have := h.lies.rowSet (i := p) (A1 := A1) (l := Mx.row n u) (c1 := d1) (by rw [Mx.len_tab]; exact hp) hl (by rw [Mx.len_row]; exact hd)
  rw [Mx.len_row, tab_setr] at this
  exact ⟨this, fun q => by have := h.free q; simpa using this, h.far⟩

end Go.Proofs.Ytkebjmapdcbnaaa
