/- Plain facts on forms over the whole numbers: which are above 0 at all rows but noughts, by their first determinants (Sylvester), both ways. No program is named here. -/
import Derived.Test.YtlnehhhlpdaebaaMatZ
namespace Go.Proofs.Ytlnehhhlpdaebaa.Zx
set_option linter.unusedVariables false

/-- What a matrix takes a row to. -/
def mv (n : Nat) (f : Nat → Nat → Int) (x : Nat → Int) : Nat → Int := fun i => sg n fun j => f i j * x j
/-- The form at two rows. -/
def bf (n : Nat) (f : Nat → Nat → Int) (x y : Nat → Int) : Int := sg n fun i => x i * mv n f y i
/-- The form at a row. -/
def qf (n : Nat) (f : Nat → Nat → Int) (x : Nat → Int) : Int := bf n f x x
def Sym (n : Nat) (f : Nat → Nat → Int) : Prop := ∀ i j, i < n → j < n → f i j = f j i
theorem Sym.less {n p : Nat} {f : Nat → Nat → Int} (h : Sym n f) (hp : p ≤ n) : Sym p f := fun i j hi hj => h i j (by omega) (by omega)
theorem mv_congr {n : Nat} {f : Nat → Nat → Int} {x y : Nat → Int} (h : ∀ j, j < n → x j = y j) (i : Nat) : mv n f x i = mv n f y i := sg_congr fun j hj => by rw [h j hj]
theorem bf_congr {n : Nat} {f g : Nat → Nat → Int} {x x' y y' : Nat → Int} (hf : ∀ i j, i < n → j < n → f i j = g i j) (hx : ∀ j, j < n → x j = x' j) (hy : ∀ j, j < n → y j = y' j) : bf n f x y = bf n g x' y' :=
  sg_congr fun i hi => by
    rw [hx i hi]
    congr 1
    exact sg_congr fun j hj => by rw [hf i j hi hj, hy j hj]
theorem qf_congr {n : Nat} {f g : Nat → Nat → Int} {x y : Nat → Int} (hf : ∀ i j, i < n → j < n → f i j = g i j) (hx : ∀ j, j < n → x j = y j) : qf n f x = qf n g y := bf_congr hf hx hx
theorem mv_lin (n : Nat) (f : Nat → Nat → Int) (a b : Int) (x y : Nat → Int) (i : Nat) : mv n f (fun j => a * x j + b * y j) i = a * mv n f x i + b * mv n f y i := by
  unfold mv
  rw [← sg_times, ← sg_times, ← sg_add]
  exact sg_congr fun j _ => by grind
theorem bf_left (n : Nat) (f : Nat → Nat → Int) (a b : Int) (x y z : Nat → Int) : bf n f (fun j => a * x j + b * y j) z = a * bf n f x z + b * bf n f y z := by
  unfold bf
  rw [← sg_times, ← sg_times, ← sg_add]
  exact sg_congr fun j _ => by grind
theorem bf_right (n : Nat) (f : Nat → Nat → Int) (a b : Int) (x y z : Nat → Int) : bf n f z (fun j => a * x j + b * y j) = a * bf n f z x + b * bf n f z y := by
  unfold bf
  rw [← sg_times, ← sg_times, ← sg_add]
  exact sg_congr fun j _ => by rw [mv_lin]; grind
theorem bf_turn {n : Nat} {f : Nat → Nat → Int} (h : Sym n f) (x y : Nat → Int) : bf n f x y = bf n f y x := by
  have e1 : bf n f x y = sg n fun i => sg n fun j => x i * (f i j * y j) := sg_congr fun i _ => (sg_times n (x i) _).symm
  have e2 : bf n f y x = sg n fun j => sg n fun i => y j * (f j i * x i) := sg_congr fun j _ => (sg_times n (y j) _).symm
  rw [e1, e2, sg_swap]
  exact sg_congr fun j hj => sg_congr fun i hi => by rw [h i j hi hj]; grind
theorem qf_lin {n : Nat} {f : Nat → Nat → Int} (h : Sym n f) (a b : Int) (x y : Nat → Int) : qf n f (fun j => a * x j + b * y j) = a * a * qf n f x + 2 * (a * b * bf n f y x) + b * b * qf n f y := by
  unfold qf
  rw [bf_left, bf_right, bf_right, bf_turn h x y]
  generalize bf n f x x = u
  generalize bf n f y y = v
  generalize bf n f y x = w
  grind
/-- What both, their sum and their difference come to. -/
theorem qf_both (n : Nat) (f : Nat → Nat → Int) (x y : Nat → Int) : qf n f (fun j => x j + y j) + qf n f (fun j => x j - y j) = 2 * qf n f x + 2 * qf n f y := by
  have e1 : qf n f (fun j => x j + y j) = qf n f (fun j => 1 * x j + 1 * y j) := qf_congr (fun _ _ _ _ => rfl) fun j _ => by grind
  have e2 : qf n f (fun j => x j - y j) = qf n f (fun j => 1 * x j + (-1) * y j) := qf_congr (fun _ _ _ _ => rfl) fun j _ => by grind
  rw [e1, e2]
  unfold qf
  rw [bf_left, bf_right, bf_right, bf_left, bf_right, bf_right]
  grind
theorem qf_times (n : Nat) (f : Nat → Nat → Int) (a : Int) (x : Nat → Int) : qf n f (fun j => a * x j) = a * a * qf n f x := by
  have e1 : qf n f (fun j => a * x j) = qf n f (fun j => a * x j + 0 * x j) := qf_congr (fun _ _ _ _ => rfl) fun j _ => by grind
  rw [e1]
  unfold qf
  rw [bf_left, bf_right]
  grind
theorem qf_plus (n : Nat) (f g : Nat → Nat → Int) (x : Nat → Int) : qf n (fun i j => f i j + g i j) x = qf n f x + qf n g x := by
  unfold qf bf mv
  rw [← sg_add]
  refine sg_congr fun i _ => ?_
  rw [← Int.mul_add, ← sg_add]
  congr 1
  exact sg_congr fun j _ => by grind
/-- A row with nought at its end. -/
theorem qf_short {p : Nat} {f : Nat → Nat → Int} {z : Nat → Int} (h : z p = 0) : qf (p + 1) f z = qf p f z := by
  unfold qf bf mv
  rw [sg_succ, h, Int.zero_mul, Int.add_zero]
  refine sg_congr fun i _ => ?_
  rw [sg_succ, h, Int.mul_zero, Int.add_zero]
theorem qf_none {n : Nat} {f : Nat → Nat → Int} {z : Nat → Int} (h : ∀ i, i < n → z i = 0) : qf n f z = 0 := by
  unfold qf bf
  rw [show (sg n fun i => z i * mv n f z i) = sg n fun _ => 0 from sg_congr fun i hi => by rw [h i hi, Int.zero_mul], sg_none]

/-- The last column of what nearly undoes. -/
def lastc (p : Nat) (f : Nat → Nat → Int) : Nat → Int := fun i => adj p f i p
theorem lastc_end (p : Nat) (f : Nat → Nat → Int) : lastc p f p = dt p f := by
  unfold lastc adj
  rw [show sgn (p + p) = 1 by unfold sgn; rw [if_pos (by omega)], Int.one_mul]
  refine dt_congr p fun i j hi hj => ?_
  unfold wo
  rw [show Mx.sk p i = i by unfold Mx.sk; rw [if_pos hi], show Mx.sk p j = j by unfold Mx.sk; rw [if_pos hj]]
theorem mv_lastc (p : Nat) (f : Nat → Nat → Int) {i : Nat} (hi : i < p + 1) : mv (p + 1) f (lastc p f) i = if i = p then dt (p + 1) f else 0 := by
  have := adj_right p f i p hi (by omega)
  unfold scal at this
  exact this
theorem bf_lastc (p : Nat) (f : Nat → Nat → Int) (z : Nat → Int) : bf (p + 1) f z (lastc p f) = z p * dt (p + 1) f := by
  unfold bf
  rw [sg_one (k := p) (by omega) (fun i hi hne => by rw [mv_lastc p f hi, if_neg hne, Int.mul_zero]), mv_lastc p f (by omega), if_pos rfl]
/-- The square of the last number, set apart. -/
theorem qf_apart {p : Nat} {f : Nat → Nat → Int} (h : Sym (p + 1) f) (x : Nat → Int) :
    dt p f * dt p f * qf (p + 1) f x = x p * x p * (dt (p + 1) f * dt p f) + qf p f (fun i => dt p f * x i - x p * lastc p f i) := by
  obtain ⟨z, hz⟩ : ∃ z : Nat → Int, z = fun i => dt p f * x i - x p * lastc p f i := ⟨_, rfl⟩
  have hzp : z p = 0 := by rw [hz]; show dt p f * x p - x p * lastc p f p = 0; rw [lastc_end]; grind
  rw [← hz, ← qf_times (p + 1) f (dt p f) x, ← qf_short hzp]
  have e1 : qf (p + 1) f (fun j => dt p f * x j) = qf (p + 1) f (fun j => x p * lastc p f j + 1 * z j) := qf_congr (fun _ _ _ _ => rfl) fun j _ => by rw [hz]; grind
  have e2 : qf (p + 1) f (lastc p f) = dt p f * dt (p + 1) f := by unfold qf; rw [bf_lastc, lastc_end]
  rw [e1, qf_lin h, bf_lastc, hzp, e2]
  generalize qf (p + 1) f z = y
  grind
theorem pos_of {a q : Int} (ha : 0 < a) (h : 0 < a * q) : 0 < q := by
  rcases Int.lt_or_le 0 q with h1 | h1
  · exact h1
  · have := Int.mul_nonneg (Int.le_of_lt ha) (show 0 ≤ -q by omega)
    rw [Int.mul_neg] at this
    omega
/-- Sylvester: where all first determinants are above 0 the form is. -/
theorem qf_pos : ∀ (n : Nat) (f : Nat → Nat → Int), Sym n f → (∀ k, 1 ≤ k → k ≤ n → 0 < dt k f) → ∀ x : Nat → Int, (∃ i, i < n ∧ x i ≠ 0) → 0 < qf n f x
  | 0, _, _, _, _, ⟨i, hi, _⟩ => absurd hi (by omega)
  | p + 1, f, h, hd, x, ⟨i, hi, hx⟩ => by
    have d1 := hd (p + 1) (by omega) (by omega)
    have d0 : 0 < dt p f := by
      rcases Nat.eq_zero_or_pos p with e | e
      · subst e; show (0 : Int) < 1; omega
      · exact hd p e (by omega)
    have ih := qf_pos p f (h.less (by omega)) fun k h1 h2 => hd k h1 (by omega)
    have e := qf_apart h x
    have hdd := Int.mul_pos d1 d0
    refine pos_of (Int.mul_pos d0 d0) ?_
    rw [e]
    by_cases hp : x p = 0
    · rw [hp]
      have hi' : i < p := by
        rcases Nat.lt_or_ge i p with h' | h'
        · exact h'
        · have : i = p := by omega
          rw [this] at hx; exact absurd hp hx
      have := ih (fun i => dt p f * x i - 0 * lastc p f i) ⟨i, hi', fun e => by
        have e2 : dt p f * x i = 0 := by omega
        rcases Int.mul_eq_zero.1 e2 with e3 | e3
        · omega
        · exact hx e3⟩
      omega
    · have hsq : 0 < x p * x p := by
        rcases Int.lt_or_gt_of_ne hp with h1 | h1
        · exact Int.mul_pos_of_neg_of_neg h1 h1
        · exact Int.mul_pos h1 h1
      have h1 := Int.mul_pos hsq hdd
      have h2 : 0 ≤ qf p f (fun i => dt p f * x i - x p * lastc p f i) := by
        by_cases hz : ∃ i, i < p ∧ dt p f * x i - x p * lastc p f i ≠ 0
        · exact Int.le_of_lt (ih _ hz)
        · rw [qf_none fun i hi => Classical.byContradiction fun hne => hz ⟨i, hi, hne⟩]; exact Int.le_refl 0
      omega
/-- And the other way. -/
theorem dt_pos : ∀ (n : Nat) (f : Nat → Nat → Int), Sym n f → (∀ x : Nat → Int, (∃ i, i < n ∧ x i ≠ 0) → 0 < qf n f x) → ∀ k, k ≤ n → 0 < dt k f
  | 0, f, _, _, k, hk => by
    obtain rfl : k = 0 := by omega
    show (0 : Int) < 1; omega
  | p + 1, f, h, hq, k, hk => by
    have ih := dt_pos p f (h.less (by omega)) fun x ⟨i, hi, hx⟩ => by
      have := hq (fun j => if j = p then 0 else x j) ⟨i, by omega, by simp only [if_neg (show i ≠ p by omega)]; exact hx⟩
      rw [qf_short (by simp)] at this
      rwa [qf_congr (g := f) (y := x) (fun _ _ _ _ => rfl) fun j hj => by rw [if_neg (by omega)]] at this
    by_cases e : k = p + 1
    · subst e
      have d0 := ih p (Nat.le_refl p)
      have := hq (lastc p f) ⟨p, by omega, by rw [lastc_end]; omega⟩
      unfold qf at this
      rw [bf_lastc, lastc_end] at this
      exact pos_of d0 this
    · exact ih k (by omega)
/-- Above 0 at all rows but noughts. -/
def Pos (n : Nat) (f : Nat → Nat → Int) : Prop := ∀ x : Nat → Int, (∃ i, i < n ∧ x i ≠ 0) → 0 < qf n f x
theorem pos_iff {n : Nat} {f : Nat → Nat → Int} (h : Sym n f) : Pos n f ↔ ∀ k, 1 ≤ k → k ≤ n → 0 < dt k f :=
  ⟨fun hp k _ hk => dt_pos n f h hp k hk, fun hd => qf_pos n f h hd⟩
theorem Pos.plus {n : Nat} {f g : Nat → Nat → Int} (h : Pos n f) (h' : Pos n g) : Pos n fun i j => f i j + g i j := fun x hx => by
  rw [qf_plus]
  have := h x hx
  have := h' x hx
  omega
/-- A sum from its end. -/
theorem sg_rev : ∀ (n : Nat) (g : Nat → Int), (sg n fun i => g (n - 1 - i)) = sg n g
  | 0, _ => rfl
  | n + 1, g => by
    have e := sg_split 1 n fun i => g (n + 1 - 1 - i)
    rw [show 1 + n = n + 1 by omega] at e
    rw [e, sg_succ n g]
    have e1 : (sg 1 fun i => g (n + 1 - 1 - i)) = g n := by show 0 + g (n + 1 - 1 - 0) = g n; rw [Int.zero_add]; rfl
    have e2 : (sg n fun i => g (n + 1 - 1 - (1 + i))) = sg n fun i => g (n - 1 - i) := sg_congr fun i _ => by
      rw [show n + 1 - 1 - (1 + i) = n - 1 - i by omega]
    rw [e1, e2, sg_rev n g]; omega
def rev (n : Nat) (f : Nat → Nat → Int) : Nat → Nat → Int := fun i j => f (n - 1 - i) (n - 1 - j)
theorem qf_rev (n : Nat) (f : Nat → Nat → Int) (x : Nat → Int) : qf n (rev n f) x = qf n f fun i => x (n - 1 - i) := by
  have hrr : ∀ i, i < n → n - 1 - (n - 1 - i) = i := fun i hi => by omega
  unfold qf bf mv
  rw [← sg_rev n fun i => x (n - 1 - i) * sg n fun j => f i j * x (n - 1 - j)]
  refine sg_congr fun i hi => ?_
  rw [hrr i hi, ← sg_rev n fun j => f (n - 1 - i) j * x (n - 1 - j)]
  congr 1
  exact sg_congr fun j hj => by
    show f (n - 1 - i) (n - 1 - j) * x j = _
    rw [hrr j hj]
theorem Sym.rev {n : Nat} {f : Nat → Nat → Int} (h : Sym n f) : Sym n (rev n f) := fun i j hi hj => h _ _ (by omega) (by omega)
theorem pos_rev {n : Nat} {f : Nat → Nat → Int} : Pos n (rev n f) ↔ Pos n f := by
  refine ⟨fun h x ⟨i, hi, hx⟩ => ?_, fun h x ⟨i, hi, hx⟩ => ?_⟩
  · have := h (fun i => x (n - 1 - i)) ⟨n - 1 - i, by omega, by show x (n - 1 - (n - 1 - i)) ≠ 0; rw [show n - 1 - (n - 1 - i) = i by omega]; exact hx⟩
    rw [qf_rev] at this
    rwa [qf_congr (g := f) (y := x) (fun _ _ _ _ => rfl) fun j hj => by show x (n - 1 - (n - 1 - j)) = x j; rw [show n - 1 - (n - 1 - j) = j by omega]] at this
  · rw [qf_rev]
    exact h _ ⟨n - 1 - i, by omega, by show x (n - 1 - (n - 1 - i)) ≠ 0; rw [show n - 1 - (n - 1 - i) = i by omega]; exact hx⟩
/-- A row with two numbers that may not be nought. -/
def two (i j : Nat) (a b : Int) : Nat → Int := fun k => if k = i then a else if k = j then b else 0
theorem mv_two {n i j : Nat} (hi : i < n) (hj : j < n) (hne : i ≠ j) (f : Nat → Nat → Int) (a b : Int) (k : Nat) : mv n f (two i j a b) k = f k i * a + f k j * b := by
  unfold mv
  rw [sg_two hi hj hne fun q _ h1 h2 => by unfold two; rw [if_neg h1, if_neg h2, Int.mul_zero]]
  unfold two
  rw [if_pos rfl, if_neg (Ne.symm hne), if_pos rfl]
theorem qf_two {n i j : Nat} (hi : i < n) (hj : j < n) (hne : i ≠ j) (f : Nat → Nat → Int) (a b : Int) : qf n f (two i j a b) = a * (f i i * a + f i j * b) + b * (f j i * a + f j j * b) := by
  unfold qf bf
  rw [sg_two hi hj hne fun q _ h1 h2 => by unfold two; rw [if_neg h1, if_neg h2, Int.zero_mul], mv_two hi hj hne, mv_two hi hj hne]
  unfold two
  rw [if_pos rfl, if_neg (Ne.symm hne), if_pos rfl]
def one1 (i : Nat) (a : Int) : Nat → Int := fun k => if k = i then a else 0
theorem qf_one {n i : Nat} (hi : i < n) (f : Nat → Nat → Int) (a : Int) : qf n f (one1 i a) = a * (f i i * a) := by
  unfold qf bf mv
  rw [sg_one (k := i) hi fun q _ h => by rw [show one1 i a q = 0 from if_neg h, Int.zero_mul], sg_one (k := i) hi fun q _ h => by rw [show one1 i a q = 0 from if_neg h, Int.mul_zero], show one1 i a i = a from if_pos rfl]
/-- The middle of such a form, and what is beside it. -/
theorem Pos.mid {n : Nat} {f : Nat → Nat → Int} (h : Pos n f) {i : Nat} (hi : i < n) : 0 < f i i := by
  have := h (one1 i 1) ⟨i, hi, by rw [show one1 i 1 i = 1 from if_pos rfl]; omega⟩
  rw [qf_one hi] at this
  omega
theorem Pos.side {n : Nat} {f : Nat → Nat → Int} (h : Pos n f) (hs : Sym n f) {i j : Nat} (hi : i < n) (hj : j < n) (hne : i ≠ j) : f i j * f i j < f i i * f j j := by
  have hjj := h.mid hj
  have := h (two i j (f j j) (-(f i j))) ⟨i, hi, by unfold two; rw [if_pos rfl]; omega⟩
  rw [qf_two hi hj hne, hs j i hj hi] at this
  have e : f j j * (f i i * f j j + f i j * -(f i j)) + -(f i j) * (f i j * f j j + f j j * -(f i j)) = f j j * (f i i * f j j - f i j * f i j) := by grind
  rw [e] at this
  have := pos_of hjj this
  omega
end Go.Proofs.Ytlnehhhlpdaebaa.Zx
