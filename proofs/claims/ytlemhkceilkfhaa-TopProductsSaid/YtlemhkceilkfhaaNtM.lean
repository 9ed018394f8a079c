/- Mathematics of the transform of eight numbers below 257: sums of powers of a root, there and back, folding. No program is named here. -/
import Derived.Test.YtlemhkceilkfhaaKaM
namespace Go.Proofs.Ytlemhkceilkfhaa
set_option linter.unusedVariables false
namespace Nt

/-- The field of the document: the numbers below 257. -/
abbrev G := Fin 257

/-- The sum of the first n values. -/
def sg : Nat → (Nat → G) → G
  | 0, _ => 0
  | n + 1, f => sg n f + f n
theorem sg_congr {n : Nat} {f g : Nat → G} (h : ∀ i, i < n → f i = g i) : sg n f = sg n g := by
  induction n with
  | zero => rfl
  | succ n ih => rw [sg, sg, ih fun i hi => h i (by omega), h n (by omega)]
/-- Powers. -/
def pw (b : G) : Nat → G
  | 0 => 1
  | n + 1 => pw b n * b

/-- What is turned by the root b: place i. -/
def tr (b : G) (f : Nat → G) (i : Nat) : G := sg 8 (fun k => f k * pw b (i * k % 8))
theorem tr_congr {b : G} {f g : Nat → G} (h : ∀ k, k < 8 → f k = g k) (i : Nat) : tr b f i = tr b g i := sg_congr fun k hk => by rw [h k hk]
/-- What is turned back. -/
def bk (f : Nat → G) (i : Nat) : G := tr 253 f i * 225
theorem bk_congr {f g : Nat → G} (h : ∀ k, k < 8 → f k = g k) (i : Nat) : bk f i = bk g i := by unfold bk; rw [tr_congr h]
/-- Folded: the place p. -/
def fo (f g : Nat → G) (p : Nat) : G := sg 8 (fun k => f k * g ((p + 8 - k) % 8))

theorem eight {P : Nat → Prop} (h0 : P 0) (h1 : P 1) (h2 : P 2) (h3 : P 3) (h4 : P 4) (h5 : P 5) (h6 : P 6) (h7 : P 7) : ∀ i, i < 8 → P i := fun i hi => by
  match i, hi with
  | 0, _ => exact h0
  | 1, _ => exact h1
  | 2, _ => exact h2
  | 3, _ => exact h3
  | 4, _ => exact h4
  | 5, _ => exact h5
  | 6, _ => exact h6
  | 7, _ => exact h7
  | n + 8, h => exact absurd h (by omega)

theorem p64 : pw 64 0 = 1 ∧ pw 64 1 = 64 ∧ pw 64 2 = 241 ∧ pw 64 3 = 4 ∧ pw 64 4 = 256 ∧ pw 64 5 = 193 ∧ pw 64 6 = 16 ∧ pw 64 7 = 253 := by decide
theorem p253 : pw 253 0 = 1 ∧ pw 253 1 = 253 ∧ pw 253 2 = 16 ∧ pw 253 3 = 193 ∧ pw 253 4 = 256 ∧ pw 253 5 = 4 ∧ pw 253 6 = 241 ∧ pw 253 7 = 64 := by decide

theorem tr64 (f : Nat → G) : tr 64 f 0 = f 0 + f 1 + f 2 + f 3 + f 4 + f 5 + f 6 + f 7
    ∧ tr 64 f 1 = f 0 + f 1 * 64 + f 2 * 241 + f 3 * 4 + f 4 * 256 + f 5 * 193 + f 6 * 16 + f 7 * 253
    ∧ tr 64 f 2 = f 0 + f 1 * 241 + f 2 * 256 + f 3 * 16 + f 4 + f 5 * 241 + f 6 * 256 + f 7 * 16
    ∧ tr 64 f 3 = f 0 + f 1 * 4 + f 2 * 16 + f 3 * 64 + f 4 * 256 + f 5 * 253 + f 6 * 241 + f 7 * 193
    ∧ tr 64 f 4 = f 0 + f 1 * 256 + f 2 + f 3 * 256 + f 4 + f 5 * 256 + f 6 + f 7 * 256
    ∧ tr 64 f 5 = f 0 + f 1 * 193 + f 2 * 241 + f 3 * 253 + f 4 * 256 + f 5 * 64 + f 6 * 16 + f 7 * 4
    ∧ tr 64 f 6 = f 0 + f 1 * 16 + f 2 * 256 + f 3 * 241 + f 4 + f 5 * 16 + f 6 * 256 + f 7 * 241
    ∧ tr 64 f 7 = f 0 + f 1 * 253 + f 2 * 16 + f 3 * 193 + f 4 * 256 + f 5 * 4 + f 6 * 241 + f 7 * 64 := by
  obtain ⟨e0, e1, e2, e3, e4, e5, e6, e7⟩ := p64
  refine ⟨?_, ?_, ?_, ?_, ?_, ?_, ?_, ?_⟩ <;> simp only [tr, sg, Nat.zero_mul, Nat.mul_zero, Nat.one_mul, Nat.reduceMul, Nat.reduceMod, e0, e1, e2, e3, e4, e5, e6, e7] <;> grind
theorem tr253 (f : Nat → G) : tr 253 f 0 = f 0 + f 1 + f 2 + f 3 + f 4 + f 5 + f 6 + f 7
    ∧ tr 253 f 1 = f 0 + f 1 * 253 + f 2 * 16 + f 3 * 193 + f 4 * 256 + f 5 * 4 + f 6 * 241 + f 7 * 64
    ∧ tr 253 f 2 = f 0 + f 1 * 16 + f 2 * 256 + f 3 * 241 + f 4 + f 5 * 16 + f 6 * 256 + f 7 * 241
    ∧ tr 253 f 3 = f 0 + f 1 * 193 + f 2 * 241 + f 3 * 253 + f 4 * 256 + f 5 * 64 + f 6 * 16 + f 7 * 4
    ∧ tr 253 f 4 = f 0 + f 1 * 256 + f 2 + f 3 * 256 + f 4 + f 5 * 256 + f 6 + f 7 * 256
    ∧ tr 253 f 5 = f 0 + f 1 * 4 + f 2 * 16 + f 3 * 64 + f 4 * 256 + f 5 * 253 + f 6 * 241 + f 7 * 193
    ∧ tr 253 f 6 = f 0 + f 1 * 241 + f 2 * 256 + f 3 * 16 + f 4 + f 5 * 241 + f 6 * 256 + f 7 * 16
    ∧ tr 253 f 7 = f 0 + f 1 * 64 + f 2 * 241 + f 3 * 4 + f 4 * 256 + f 5 * 193 + f 6 * 16 + f 7 * 253 := by
  obtain ⟨e0, e1, e2, e3, e4, e5, e6, e7⟩ := p253
  refine ⟨?_, ?_, ?_, ?_, ?_, ?_, ?_, ?_⟩ <;> simp only [tr, sg, Nat.zero_mul, Nat.mul_zero, Nat.one_mul, Nat.reduceMul, Nat.reduceMod, e0, e1, e2, e3, e4, e5, e6, e7] <;> grind

/-- There and back. -/
theorem bk_tr (f : Nat → G) : ∀ i, i < 8 → bk (tr 64 f) i = f i := by
  obtain ⟨t0, t1, t2, t3, t4, t5, t6, t7⟩ := tr64 f
  obtain ⟨u0, u1, u2, u3, u4, u5, u6, u7⟩ := tr253 (tr 64 f)
  rw [t0, t1, t2, t3, t4, t5, t6, t7] at u0 u1 u2 u3 u4 u5 u6 u7
  refine eight ?_ ?_ ?_ ?_ ?_ ?_ ?_ ?_ <;> unfold bk
  · rw [u0]; grind
  · rw [u1]; grind
  · rw [u2]; grind
  · rw [u3]; grind
  · rw [u4]; grind
  · rw [u5]; grind
  · rw [u6]; grind
  · rw [u7]; grind
/-- Back and there. -/
theorem tr_bk (f : Nat → G) : ∀ i, i < 8 → tr 64 (bk f) i = f i := by
  obtain ⟨t0, t1, t2, t3, t4, t5, t6, t7⟩ := tr64 (bk f)
  obtain ⟨u0, u1, u2, u3, u4, u5, u6, u7⟩ := tr253 f
  simp only [bk, u0, u1, u2, u3, u4, u5, u6, u7] at t0 t1 t2 t3 t4 t5 t6 t7
  refine eight ?_ ?_ ?_ ?_ ?_ ?_ ?_ ?_
  · rw [t0]; grind
  · rw [t1]; grind
  · rw [t2]; grind
  · rw [t3]; grind
  · rw [t4]; grind
  · rw [t5]; grind
  · rw [t6]; grind
  · rw [t7]; grind

/-- Twice there: eight times, the other way round. -/
theorem twice (f : Nat → G) : ∀ i, i < 8 → tr 64 (tr 64 f) i = 8 * f ((8 - i) % 8) := by
  obtain ⟨t0, t1, t2, t3, t4, t5, t6, t7⟩ := tr64 f
  obtain ⟨u0, u1, u2, u3, u4, u5, u6, u7⟩ := tr64 (tr 64 f)
  rw [t0, t1, t2, t3, t4, t5, t6, t7] at u0 u1 u2 u3 u4 u5 u6 u7
  refine eight ?_ ?_ ?_ ?_ ?_ ?_ ?_ ?_
  · rw [u0]; show _ = 8 * f 0; grind
  · rw [u1]; show _ = 8 * f 7; grind
  · rw [u2]; show _ = 8 * f 6; grind
  · rw [u3]; show _ = 8 * f 5; grind
  · rw [u4]; show _ = 8 * f 4; grind
  · rw [u5]; show _ = 8 * f 3; grind
  · rw [u6]; show _ = 8 * f 2; grind
  · rw [u7]; show _ = 8 * f 1; grind
/-- Four times there. -/
theorem four (f : Nat → G) (i : Nat) (hi : i < 8) : tr 64 (tr 64 (tr 64 (tr 64 f))) i = f i * 64 := by
  rw [twice _ i hi, twice _ _ (Nat.mod_lt _ (by decide))]
  have e : (8 - (8 - i) % 8) % 8 = i := by omega
  rw [e]; grind

/-- A step round. -/
def st (f : Nat → G) (k : Nat) : G := f ((k + 7) % 8)
theorem tr_st (f : Nat → G) : ∀ i, i < 8 → tr 64 (st f) i = tr 64 f i * pw 64 i := by
  obtain ⟨e0, e1, e2, e3, e4, e5, e6, e7⟩ := p64
  obtain ⟨t0, t1, t2, t3, t4, t5, t6, t7⟩ := tr64 f
  obtain ⟨v0, v1, v2, v3, v4, v5, v6, v7⟩ := tr64 (st f)
  simp only [st, Nat.reduceAdd, Nat.reduceMod] at v0 v1 v2 v3 v4 v5 v6 v7
  refine eight ?_ ?_ ?_ ?_ ?_ ?_ ?_ ?_
  · rw [v0, t0, e0]; grind
  · rw [v1, t1, e1]; grind
  · rw [v2, t2, e2]; grind
  · rw [v3, t3, e3]; grind
  · rw [v4, t4, e4]; grind
  · rw [v5, t5, e5]; grind
  · rw [v6, t6, e6]; grind
  · rw [v7, t7, e7]; grind

theorem sg_mul (n : Nat) (f : Nat → G) (c : G) : sg n (fun i => f i * c) = sg n f * c := by
  induction n with
  | zero => show (0 : G) = 0 * c; grind
  | succ n ih => rw [sg, sg, ih]; grind
theorem sg_add (n : Nat) (f g : Nat → G) : sg n (fun i => f i + g i) = sg n f + sg n g := by
  induction n with
  | zero => rfl
  | succ n ih => rw [sg, sg, sg, ih]; grind
theorem sg_swap (n m : Nat) (h : Nat → Nat → G) : sg n (fun i => sg m (fun j => h i j)) = sg m (fun j => sg n (fun i => h i j)) := by
  induction n with
  | zero =>
    show (0 : G) = sg m (fun _ => 0)
    induction m with
    | zero => rfl
    | succ m ih => rw [sg, ← ih]; rfl
  | succ n ih => rw [sg, ih, ← sg_add]; rfl
/-- k steps round. -/
theorem tr_steps (g : Nat → G) : ∀ i, i < 8 → ∀ k, k < 8 → tr 64 (fun p => g ((p + 8 - k) % 8)) i = pw 64 (i * k % 8) * tr 64 g i := by
  intro i hi k
  induction k with
  | zero =>
    intro _
    rw [tr_congr (g := g) fun p hp => by rw [show (p + 8 - 0) % 8 = p by omega]]
    rw [show i * 0 % 8 = 0 by omega]; show _ = 1 * _; grind
  | succ k ih =>
    intro hk
    have e : tr 64 (fun p => g ((p + 8 - (k + 1)) % 8)) i = tr 64 (st (fun p => g ((p + 8 - k) % 8))) i := tr_congr (fun p hp => by
      show _ = g (((p + 7) % 8 + 8 - k) % 8)
      congr 1; omega) i
    rw [e, tr_st _ i hi, ih (by omega)]
    have hp : ∀ i, i < 8 → ∀ k, k < 8 → pw 64 (i * (k + 1) % 8) = pw 64 (i * k % 8) * pw 64 i := by decide
    rw [hp i hi k (by omega)]; grind
/-- Turned, folding is multiplying. -/
theorem fold_tr (f g : Nat → G) : ∀ i, i < 8 → tr 64 (fo f g) i = tr 64 f i * tr 64 g i := by
  intro i hi
  have e1 : tr 64 (fo f g) i = sg 8 (fun p => sg 8 (fun k => f k * g ((p + 8 - k) % 8) * pw 64 (i * p % 8))) := sg_congr fun p _ => (sg_mul 8 _ _).symm
  rw [e1, sg_swap]
  have e2 : sg 8 (fun j => sg 8 (fun p => f j * g ((p + 8 - j) % 8) * pw 64 (i * p % 8))) = sg 8 (fun j => f j * pw 64 (i * j % 8) * tr 64 g i) := sg_congr fun j hj => by
    have h := tr_steps g i hi j hj
    have e3 : sg 8 (fun p => f j * g ((p + 8 - j) % 8) * pw 64 (i * p % 8)) = sg 8 (fun p => g ((p + 8 - j) % 8) * pw 64 (i * p % 8) * f j) := sg_congr fun p _ => by grind
    rw [e3, sg_mul]
    show tr 64 (fun p => g ((p + 8 - j) % 8)) i * f j = _
    rw [h]; grind
  rw [e2, sg_mul]; rfl
theorem fold_bk (f g : Nat → G) (i : Nat) (hi : i < 8) : bk (fun k => tr 64 f k * tr 64 g k) i = fo f g i := by
  rw [← bk_tr (fo f g) i hi]
  exact bk_congr (fun k hk => (fold_tr f g k hk).symm) i


end Nt
end Go.Proofs.Ytlemhkceilkfhaa
