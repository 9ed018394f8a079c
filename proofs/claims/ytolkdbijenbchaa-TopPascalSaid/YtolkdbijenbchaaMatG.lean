/- Plain facts for matrices in steps, as programs make them: clean, the next step, ranks, what can be undone. No program is named here. -/
import Derived.Test.YtolkdbijenbchaaMatE
import Derived.Test.YtolkdbijenbchaaMatD
namespace Go.Proofs.Ytolkdbijenbchaa
set_option linter.unusedVariables false

/-- The first row from row i on that is not nought at column j; or how many rows there are. -/
def First (r : Nat) (f : Nat → Nat → Fp.F) (i j k : Nat) : Prop := i ≤ k ∧ k ≤ r ∧ (∀ t, i ≤ t → t < k → f t j = 0) ∧ (k < r → f k j ≠ 0)
/-- A row is taken from another one, so many times. -/
def less (f : Nat → Nat → Fp.F) (a i : Nat) (x : Fp.F) : Nat → Nat → Fp.F := fun p q => if p = a then f a q - x * f i q else f p q

/-- Row i begins with 1 at column j, and is taken from all others. -/
def cln (f : Nat → Nat → Fp.F) (i j : Nat) : Nat → Nat → Fp.F := fun p q =>
  if p = i then f i q * Fp.inv (f i j) else f p q - f p j * (f i q * Fp.inv (f i j))
/-- The same, for the rows before row k alone. -/
def clnTo (f : Nat → Nat → Fp.F) (i j k : Nat) : Nat → Nat → Fp.F := fun p q =>
  if p = i then f i q * Fp.inv (f i j) else if p < k then f p q - f p j * (f i q * Fp.inv (f i j)) else f p q
theorem clnTo_same (f : Nat → Nat → Fp.F) (i j : Nat) (p q : Nat) : clnTo f i j i p q = clnTo f i j (i + 1) p q := by
  unfold clnTo
  by_cases e : p = i
  · rw [if_pos e, if_pos e]
  · rw [if_neg e, if_neg e]
    by_cases h : p < i
    · rw [if_pos h, if_pos (by omega)]
    · rw [if_neg h, if_neg (by omega)]
theorem clnTo_next (f : Nat → Nat → Fp.F) {i j k : Nat} (hk : k ≠ i) (p q : Nat) : less (clnTo f i j k) k i (f k j) p q = clnTo f i j (k + 1) p q := by
  unfold less clnTo
  by_cases e : p = k
  · subst e
    rw [if_pos rfl, if_neg hk, if_neg (by omega), if_pos rfl, if_neg hk, if_pos (by omega)]
  · rw [if_neg e]
    by_cases e2 : p = i
    · rw [if_pos e2, if_pos e2]
    · rw [if_neg e2, if_neg e2]
      by_cases h : p < k
      · rw [if_pos h, if_pos (by omega)]
      · rw [if_neg h, if_neg (by omega)]

/-- The columns of the pivots as numbers. -/
def cols (b : List Nat) : List Int := b.map fun (k : Nat) => (k : Int)
theorem len_cols (b : List Nat) : (cols b).length = b.length := by simp [cols]
theorem cols_snoc (b : List Nat) (k : Nat) : cols (b ++ [k]) = cols b ++ [(k : Int)] := by simp [cols]
theorem cols_inj {b d : List Nat} (h : b = d) : cols b = cols d := by rw [h]

/-- In steps as far as the first k columns, and the rows come of the rows of f. -/
structure Stair (r c k : Nat) (f : Nat → Nat → Fp.F) (b : List Nat) (g : Nat → Nat → Fp.F) : Prop where
  steps : Mx.Steps r k b g
  req : Mx.Req r c f g
theorem Stair.start (r c : Nat) (f : Nat → Nat → Fp.F) : Stair r c 0 f [] f := ⟨Mx.steps_none r f, Mx.Req.refl r c f⟩
theorem Stair.one {r c : Nat} {f : Nat → Nat → Fp.F} {b d : List Nat} {g h : Nat → Nat → Fp.F} (s : Stair r c c f b g) (t : Stair r c c f d h) : b = d ∧ Mx.Eqm r c g h :=
  s.steps.unique t.steps (s.req.symm.trans t.req)
/-- What comes of the two heads that changed places, and of clean. -/
theorem cln_nxt (g : Nat → Nat → Fp.F) (p a k : Nat) : cln (fun i => if i = a then g p else if i = p then g a else g i) p k = Mx.nxt p a k g := by
  have hp : (fun i => if i = a then g p else if i = p then g a else g i) p = g a := by
    by_cases e : p = a
    · subst e; simp
    · show (if p = a then g p else if p = p then g a else g p) = g a
      rw [if_neg e, if_pos rfl]
  funext i j
  unfold cln Mx.nxt
  rw [hp]
  by_cases e : i = p
  · rw [if_pos e, if_pos e]
  · rw [if_neg e, if_neg e]
    have hs : (if i = a then g p else if i = p then g a else g i) = g (Mx.swp p a i) := by
      unfold Mx.swp
      rw [if_neg e, if_neg e]
      by_cases e2 : i = a
      · rw [if_pos e2, if_pos e2]
      · rw [if_neg e2, if_neg e2]
    show (if i = a then g p else if i = p then g a else g i) j - (if i = a then g p else if i = p then g a else g i) k * _ = _
    rw [hs]
theorem Stair.next {r c k : Nat} {f : Nat → Nat → Fp.F} {b : List Nat} {g : Nat → Nat → Fp.F} (s : Stair r c k f b g) {a : Nat} (ha : b.length ≤ a) (hr : a < r) (h0 : g a k ≠ 0) : Stair r c (k + 1) f (b ++ [k]) (Mx.nxt b.length a k g) :=
  ⟨s.steps.next ha hr h0, s.req.trans (Mx.req_next g (by omega) hr h0)⟩
theorem Stair.skip {r c k : Nat} {f : Nat → Nat → Fp.F} {b : List Nat} {g : Nat → Nat → Fp.F} (s : Stair r c k f b g) (h0 : ∀ i, b.length ≤ i → i < r → g i k = 0) : Stair r c (k + 1) f b g :=
  ⟨s.steps.skip h0, s.req⟩

theorem Stair.thru {r c : Nat} {f : Nat → Nat → Fp.F} {b : List Nat} {g : Nat → Nat → Fp.F} (s : Stair r c c f b g) : Mx.Thru r c b.length f := s.steps.thru s.req
theorem Stair.sees {r c : Nat} {f : Nat → Nat → Fp.F} {b : List Nat} {g : Nat → Nat → Fp.F} (s : Stair r c c f b g) : Mx.Sees r c b.length f := s.steps.sees s.req
theorem Stair.le {r c k : Nat} {f : Nat → Nat → Fp.F} {b : List Nat} {g : Nat → Nat → Fp.F} (s : Stair r c k f b g) : b.length ≤ r := s.steps.le
theorem rank_flip {r c : Nat} {f : Nat → Nat → Fp.F} {b d : List Nat} {g h : Nat → Nat → Fp.F} (s : Stair r c c f b g) (t : Stair c r r (Mx.flip f) d h) : d.length = b.length :=
  Nat.le_antisymm (Mx.sees_thru t.sees s.thru.flip) (Mx.sees_thru s.sees.flip t.thru)
theorem rank_mul {r q c : Nat} {f f' : Nat → Nat → Fp.F} {b1 b2 b3 : List Nat} {g1 g2 g3 : Nat → Nat → Fp.F} (s1 : Stair r q q f b1 g1) (s2 : Stair q c c f' b2 g2) (s3 : Stair r c c (Mx.mul q f f') b3 g3) :
    b3.length ≤ b1.length ∧ b3.length ≤ b2.length ∧ b1.length + b2.length ≤ b3.length + q :=
  ⟨Mx.sees_thru s3.sees (s1.thru.mul_left f'), Mx.sees_thru s3.sees (s2.thru.mul_right f), Mx.sylvester s1.sees s2.sees s3.thru⟩
theorem rank_plus {r c : Nat} {f f' : Nat → Nat → Fp.F} {b1 b2 b3 : List Nat} {g1 g2 g3 : Nat → Nat → Fp.F} (s1 : Stair r c c f b1 g1) (s2 : Stair r c c f' b2 g2) (s3 : Stair r c c (Mx.plus f f') b3 g3) :
    b3.length ≤ b1.length + b2.length ∧ b1.length ≤ b3.length + b2.length ∧ b2.length ≤ b3.length + b1.length := by
  refine ⟨Mx.sees_thru s3.sees (s1.thru.plus s2.thru), Mx.sees_thru s1.sees ?_, Mx.sees_thru s2.sees ?_⟩
  · refine (s3.thru.plus s2.thru.neg).eqm fun i j _ _ => ?_
    show f i j = (f i j + f' i j) + -(f' i j)
    grind
  · refine (s3.thru.plus s1.thru.neg).eqm fun i j _ _ => ?_
    show f' i j = (f i j + f' i j) + -(f i j)
    grind

theorem Stair.again {r c : Nat} {f : Nat → Nat → Fp.F} {b d : List Nat} {g h : Nat → Nat → Fp.F} (s : Stair r c c f b g) (t : Stair r c c g d h) : b = d ∧ Mx.Eqm r c g h := s.steps.unique t.steps t.req
theorem Stair.undone {r c : Nat} {f k : Nat → Nat → Fp.F} {b d : List Nat} {g h : Nat → Nat → Fp.F} (s : Stair r c c f b g) (hk : Mx.dt r k ≠ 0) (t : Stair r c c (Mx.mul r k f) d h) : b = d ∧ Mx.Eqm r c g h := by
  obtain ⟨u, hu⟩ := Mx.undo hk
  exact s.steps.unique t.steps ((s.req.symm.trans (Mx.req_undo hu f)).trans t.req)
end Go.Proofs.Ytolkdbijenbchaa
