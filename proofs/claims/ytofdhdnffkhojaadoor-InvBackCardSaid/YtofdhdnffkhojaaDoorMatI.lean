/- Plain facts on what undoes a matrix over the field: it is one, from either side; products, the adjugate, steps of a matrix with the one beside it; a change of rank one (Sherman, Morrison). No program is named here. -/
import Derived.Test.YtofdhdnffkhojaaDoorMatL
namespace Go.Proofs.YtofdhdnffkhojaaDoor.Mx
open Fp
set_option linter.unusedVariables false

/-- t undoes f, from either side. -/
structure Unm (n : Nat) (f t : Nat → Nat → F) : Prop where
  left : Eqm n n (mul n t f) one
  right : Eqm n n (mul n f t) one
theorem Unm.symm {n : Nat} {f t : Nat → Nat → F} (h : Unm n f t) : Unm n t f := ⟨h.right, h.left⟩
theorem Unm.congr {n : Nat} {f f' t t' : Nat → Nat → F} (h : Unm n f t) (e : Eqm n n f f') (e' : Eqm n n t t') : Unm n f' t' :=
  ⟨(e'.symm.mul e.symm).trans h.left, (e.symm.mul e'.symm).trans h.right⟩
/-- What undoes from the left is what undoes from the right. -/
theorem sides {n : Nat} {f t s : Nat → Nat → F} (h : Eqm n n (mul n t f) one) (h' : Eqm n n (mul n f s) one) : Eqm n n t s := by
  have e1 : Eqm n n (mul n (mul n t f) s) s := (h.mul (Eqm.rfl' n n s)).trans (one_mul n n s)
  have e2 : Eqm n n (mul n t (mul n f s)) t := ((Eqm.rfl' n n t).mul h').trans (mul_one n n t)
  rw [mul_assoc] at e1
  exact e2.symm.trans e1
theorem Unm.one_of {n : Nat} {f t s : Nat → Nat → F} (h : Unm n f t) (h' : Unm n f s) : Eqm n n t s := sides h.left h'.right
theorem Unm.dt {n : Nat} {f t : Nat → Nat → F} (h : Unm n f t) : Mx.dt n t * Mx.dt n f = 1 := by rw [← dt_mul, dt_congr n h.left, dt_one]
theorem Unm.ne {n : Nat} {f t : Nat → Nat → F} (h : Unm n f t) : Mx.dt n f ≠ 0 := fun e => by
  have := h.dt
  rw [e] at this
  exact absurd (this.symm.trans (by grind : Mx.dt n t * 0 = 0)) (by decide)
/-- The inverse, by the adjugate. -/
def invm (p : Nat) (f : Nat → Nat → F) : Nat → Nat → F := fun i j => Fp.inv (Mx.dt (p + 1) f) * adj p f i j
theorem unm_invm (p : Nat) (f : Nat → Nat → F) (h : Mx.dt (p + 1) f ≠ 0) : Unm (p + 1) f (invm p f) := by
  have hi := inv_mul h
  refine ⟨fun i j hx hy => ?_, fun i j hx hy => ?_⟩
  · have := adj_left p f i j hx hy
    show (sg (p + 1) fun x => Fp.inv (Mx.dt (p + 1) f) * adj p f i x * f x j) = if i = j then 1 else 0
    rw [show (sg (p + 1) fun x => Fp.inv (Mx.dt (p + 1) f) * adj p f i x * f x j) = Fp.inv (Mx.dt (p + 1) f) * mul (p + 1) (adj p f) f i j from by
      show _ = Fp.inv (Mx.dt (p + 1) f) * sg (p + 1) (fun x => adj p f i x * f x j)
      rw [← sg_times]; exact sg_congr fun x _ => by grind]
    rw [this]
    show Fp.inv (Mx.dt (p + 1) f) * (if i = j then Mx.dt (p + 1) f else 0) = _
    split
    · exact hi
    · grind
  · have := adj_right p f i j hx hy
    show (sg (p + 1) fun x => f i x * (Fp.inv (Mx.dt (p + 1) f) * adj p f x j)) = if i = j then 1 else 0
    rw [show (sg (p + 1) fun x => f i x * (Fp.inv (Mx.dt (p + 1) f) * adj p f x j)) = Fp.inv (Mx.dt (p + 1) f) * mul (p + 1) f (adj p f) i j from by
      show _ = Fp.inv (Mx.dt (p + 1) f) * sg (p + 1) (fun x => f i x * adj p f x j)
      rw [← sg_times]; exact sg_congr fun x _ => by grind]
    rw [this]
    show Fp.inv (Mx.dt (p + 1) f) * (if i = j then Mx.dt (p + 1) f else 0) = _
    split
    · exact hi
    · grind
theorem unm_some {n : Nat} {f : Nat → Nat → F} (h : Mx.dt n f ≠ 0) : ∃ t, Unm n f t := by
  cases n with
  | zero => exact ⟨one, fun i j hi => absurd hi (by omega), fun i j hi => absurd hi (by omega)⟩
  | succ p => exact ⟨_, unm_invm p f h⟩
/-- From the left is enough. -/
theorem unm_left {n : Nat} {f t : Nat → Nat → F} (h : Eqm n n (mul n t f) one) : Unm n f t := by
  have hne : Mx.dt n f ≠ 0 := fun e => by
    have h1 : Mx.dt n t * Mx.dt n f = 1 := by rw [← dt_mul, dt_congr n h, dt_one]
    rw [e] at h1
    exact absurd (h1.symm.trans (by grind : Mx.dt n t * 0 = 0)) (by decide)
  obtain ⟨s, hs⟩ := unm_some hne
  exact hs.congr (Eqm.rfl' n n f) (sides h hs.right).symm
theorem Unm.mul {n : Nat} {f g t s : Nat → Nat → F} (h : Unm n f t) (h' : Unm n g s) : Unm n (Mx.mul n f g) (Mx.mul n s t) := by
  refine unm_left ?_
  have e1 : Mx.mul n (Mx.mul n s t) (Mx.mul n f g) = Mx.mul n s (Mx.mul n (Mx.mul n t f) g) := by rw [mul_assoc, mul_assoc]
  rw [e1]
  exact ((Eqm.rfl' n n s).mul ((h.left.mul (Eqm.rfl' n n g)).trans (one_mul n n g))).trans h'.left

/-- With another matrix beside it. -/
def beside (n : Nat) (f g : Nat → Nat → F) : Nat → Nat → F := fun i j => if j < n then f i j else g i (j - n)
theorem beside_left {n : Nat} (f g : Nat → Nat → F) {i j : Nat} (h : j < n) : beside n f g i j = f i j := if_pos h
theorem beside_right (n : Nat) (f g : Nat → Nat → F) (i j : Nat) : beside n f g i (n + j) = g i j := by
  unfold beside
  rw [if_neg (by omega), Nat.add_sub_cancel_left]
/-- In steps as far as the first half goes, with the one beside it: the second half undoes. -/
theorem unm_steps {n : Nat} {b : List Nat} {f g : Nat → Nat → F} (hs : Steps n n b g) (hr : Req n (n + n) (beside n f one) g) (hd : Mx.dt n f ≠ 0) : b.length = n ∧ Unm n f fun i j => g i (n + j) := by
  have hr1 : Req n n f g := by
    obtain ⟨⟨s, h1⟩, ⟨t, h2⟩⟩ := hr
    refine ⟨⟨s, fun i j hi hj => ?_⟩, ⟨t, fun i j hi hj => ?_⟩⟩
    · rw [← beside_left f one hj]
      exact h1 i j hi (by omega)
    · rw [h2 i j hi (by omega)]
      exact sg_congr fun x _ => by rw [beside_left f one hj]
  have hl : b.length = n := by
    apply Classical.byContradiction
    intro hne
    obtain ⟨y, k, hk, hy, hz⟩ := hs.null hr1 (by have := hs.le; omega)
    exact hd (dt_null hk hy hz)
  obtain ⟨_, ⟨t, h2⟩⟩ := hr
  refine ⟨hl, unm_left ?_⟩
  have ht : Eqm n n (fun i j => g i (n + j)) t := fun i j hi hj => by
    show g i (n + j) = t i j
    rw [h2 i (n + j) hi (by omega)]
    show (sg n fun x => t i x * beside n f one x (n + j)) = t i j
    rw [sg_congr (g := fun x => t i x * one x j) fun x _ => by rw [beside_right]]
    exact mul_one n n t i j hi hj
  have hf : Eqm n n (Mx.mul n t f) g := fun i j hi hj => by
    rw [h2 i j hi (by omega)]
    exact sg_congr fun x _ => by rw [beside_left f one hj]
  exact ((ht.mul (Eqm.rfl' n n f)).trans hf).trans (hs.full hl)
/-- Fewer steps than rows: nothing undoes it. -/
theorem short_steps {n c : Nat} {b : List Nat} {f g : Nat → Nat → F} (hs : Steps n n b g) (hr : Req n (n + c) (beside n f one) g) (hl : b.length ≠ n) : Mx.dt n f = 0 := by
  have hr1 : Req n n f g := by
    obtain ⟨⟨s, h1⟩, ⟨t, h2⟩⟩ := hr
    refine ⟨⟨s, fun i j hi hj => ?_⟩, ⟨t, fun i j hi hj => ?_⟩⟩
    · rw [← beside_left f one hj]
      exact h1 i j hi (by omega)
    · rw [h2 i j hi (by omega)]
      exact sg_congr fun x _ => by rw [beside_left f one hj]
  obtain ⟨y, k, hk, hy, hz⟩ := hs.null hr1 (by have := hs.le; omega)
  exact dt_null hk hy hz

/-- The products of a column and a row. -/
def outer (u v : Nat → F) : Nat → Nat → F := fun i j => u i * v j
/-- The one and such products in the first k columns. -/
def bend (k : Nat) (a v : Nat → F) : Nat → Nat → F := fun i j => if j < k then one i j + a i * v j else one i j
theorem bend_step (n k : Nat) (a v : Nat → F) : bend (k + 1) a v = setc k (fun i => one i k + v k * a i) (bend k a v) := by
  funext i j
  show (if j < k + 1 then one i j + a i * v j else one i j) = if j = k then one i k + v k * a i else if j < k then one i j + a i * v j else one i j
  rcases Nat.lt_trichotomy j k with h | h | h
  · rw [if_pos (by omega), if_neg (by omega), if_pos h]
  · rw [if_pos (by omega), if_pos h, h]; grind
  · rw [if_neg (by omega), if_neg (by omega), if_neg (by omega)]
theorem bend_same (k : Nat) (a v : Nat → F) : setc k (fun i => one i k) (bend k a v) = bend k a v := by
  have := setc_self k (bend k a v)
  rw [show (fun i => bend k a v i k) = fun i => one i k from funext fun i => by unfold bend; rw [if_neg (Nat.lt_irrefl k)]] at this
  exact this
/-- With the column itself in the place of column t. -/
theorem bend_put (n t : Nat) (a v : Nat → F) (ht : t < n) : ∀ k, k ≤ t → Mx.dt n (setc t a (bend k a v)) = a t
  | 0, _ => by
    rw [show bend 0 a v = one from funext fun i => funext fun j => if_neg (Nat.not_lt_zero j)]
    have h := cramer n t one a ht
    rw [dt_one] at h
    rw [show Mx.dt n (setc t a one) = Mx.dt n (setc t (fun i => sg n fun x => one i x * a x) one) from dt_congr n fun i j hi hj => by
      show (if j = t then a i else one i j) = if j = t then sg n (fun x => one i x * a x) else one i j
      split
      · show a i = sg n fun x => (if i = x then (1 : F) else 0) * a x
        rw [sg_one hi fun x _ hne => by rw [if_neg fun e => hne e.symm]; grind]
        rw [if_pos rfl]; grind
      · rfl]
    rw [h]; grind
  | k + 1, hk => by
    have ih := bend_put n t a v ht k (by omega)
    have hlin := dt_lin n k (by omega) 1 (v k) (fun i => one i k) a (setc t a (bend k a v))
    rw [bend_step n, setc_comm (show t ≠ k by omega)]
    rw [show (fun i => one i k + v k * a i) = fun i => 1 * one i k + v k * a i from funext fun i => by grind, hlin]
    rw [dt_equal (show k < n by omega) ht (by omega) a (bend k a v), setc_comm (show k ≠ t by omega), bend_same, ih]
    grind
theorem dt_bend (n : Nat) (a v : Nat → F) : ∀ k, k ≤ n → Mx.dt n (bend k a v) = 1 + sg k fun t => v t * a t
  | 0, _ => by
    rw [show bend 0 a v = one from funext fun i => funext fun j => if_neg (Nat.not_lt_zero j), dt_one, sg_zero]; grind
  | k + 1, hk => by
    have ih := dt_bend n a v k (by omega)
    have hlin := dt_lin n k (by omega) 1 (v k) (fun i => one i k) a (bend k a v)
    rw [bend_step n, show (fun i => one i k + v k * a i) = fun i => 1 * one i k + v k * a i from funext fun i => by grind, hlin, bend_same, ih,
      bend_put n k a v (by omega) k (Nat.le_refl k), sg_succ]
    grind

/-- A column and a row taken by a matrix. -/
def colv (n : Nat) (t : Nat → Nat → F) (u : Nat → F) : Nat → F := fun i => sg n fun j => t i j * u j
def rowv (n : Nat) (v : Nat → F) (t : Nat → Nat → F) : Nat → F := fun j => sg n fun i => v i * t i j
/-- What a change comes to. -/
def bent (n : Nat) (t : Nat → Nat → F) (u v : Nat → F) : F := 1 + sg n fun i => v i * colv n t u i
theorem colv_mul (n : Nat) (f t : Nat → Nat → F) (u : Nat → F) : colv n f (colv n t u) = colv n (mul n f t) u := by
  funext i
  show (sg n fun x => f i x * sg n fun j => t x j * u j) = sg n fun j => (sg n fun x => f i x * t x j) * u j
  rw [show (fun x => f i x * sg n fun j => t x j * u j) = fun x => sg n fun j => f i x * t x j * u j from funext fun x => by
    rw [← sg_times]; exact sg_congr fun j _ => by grind, sg_swap]
  exact sg_congr fun j _ => by rw [← sg_by]
theorem colv_one (n : Nat) (u : Nat → F) {i : Nat} (hi : i < n) : colv n one u i = u i := by
  show (sg n fun j => (if i = j then (1 : F) else 0) * u j) = u i
  rw [sg_one hi fun x _ hne => by rw [if_neg fun e => hne e.symm]; grind]
  rw [if_pos rfl]; grind
theorem mul_outer (n : Nat) (f : Nat → Nat → F) (u v : Nat → F) : mul n f (outer u v) = outer (colv n f u) v := by
  funext i j
  show (sg n fun x => f i x * (u x * v j)) = (sg n fun x => f i x * u x) * v j
  rw [← sg_by]
  exact sg_congr fun x _ => by grind
theorem outer_mul (n : Nat) (f : Nat → Nat → F) (u v : Nat → F) : mul n (outer u v) f = outer u (rowv n v f) := by
  funext i j
  show (sg n fun x => u i * v x * f x j) = u i * sg n fun x => v x * f x j
  rw [← sg_times]
  exact sg_congr fun x _ => by grind
/-- The determinant of a matrix with such products added. -/
theorem dt_bent {n : Nat} {f t : Nat → Nat → F} (h : Unm n f t) (u v : Nat → F) : Mx.dt n (plus f (outer u v)) = Mx.dt n f * bent n t u v := by
  have e : Eqm n n (plus f (outer u v)) (mul n f (bend n (colv n t u) v)) := fun i j hi hj => by
    have e1 : (mul n f (bend n (colv n t u) v)) i j = plus (mul n f one) (mul n f (outer (colv n t u) v)) i j := by
      rw [← mul_plus]
      exact sg_congr fun x _ => by
        show f i x * (if j < n then one x j + colv n t u x * v j else one x j) = f i x * (one x j + colv n t u x * v j)
        rw [if_pos hj]
    rw [e1]
    show f i j + u i * v j = mul n f one i j + mul n f (outer (colv n t u) v) i j
    rw [mul_one n n f i j hi hj, mul_outer, colv_mul]
    show _ = f i j + colv n (mul n f t) u i * v j
    have e2 : colv n (mul n f t) u i = colv n one u i := sg_congr fun x hx => by rw [h.right i x hi hx]
    rw [e2, colv_one n u hi]
  rw [dt_congr n e, dt_mul, dt_bend n _ _ n (Nat.le_refl n)]
  rfl
/-- Sherman and Morrison: what undoes it. -/
def shm (n : Nat) (t : Nat → Nat → F) (u v : Nat → F) : Nat → Nat → F := fun i j => t i j - colv n t u i * rowv n v t j * Fp.inv (bent n t u v)
theorem unm_bent {n : Nat} {f t : Nat → Nat → F} (h : Unm n f t) (u v : Nat → F) (hk : bent n t u v ≠ 0) : Unm n (plus f (outer u v)) (shm n t u v) := by
  refine (unm_left (n := n) (f := shm n t u v) (t := plus f (outer u v)) fun i j hi hj => ?_).symm
  obtain ⟨c, hc⟩ : ∃ c, c = Fp.inv (bent n t u v) := ⟨_, rfl⟩
  have hci : c * bent n t u v = 1 := by rw [hc]; exact inv_mul hk
  have e0 : shm n t u v = plus t (outer (fun i => -c * colv n t u i) (rowv n v t)) := by
    funext a b
    show t a b - colv n t u a * rowv n v t b * Fp.inv (bent n t u v) = t a b + -c * colv n t u a * rowv n v t b
    rw [← hc]; grind
  rw [e0, plus_mul, mul_plus, mul_plus, mul_outer, outer_mul, outer_mul]
  show mul n f t i j + colv n f (fun i => -c * colv n t u i) i * rowv n v t j + (u i * rowv n v t j + u i * rowv n v (outer (fun i => -c * colv n t u i) (rowv n v t)) j) = one i j
  have e1 : colv n f (fun i => -c * colv n t u i) i = -c * u i := by
    show (sg n fun x => f i x * (-c * colv n t u x)) = _
    rw [show (fun x => f i x * (-c * colv n t u x)) = fun x => -c * (f i x * colv n t u x) from funext fun x => by grind, sg_times]
    have e2 : (sg n fun x => f i x * colv n t u x) = colv n (mul n f t) u i := congrFun (colv_mul n f t u) i
    have e3 : colv n (mul n f t) u i = colv n one u i := sg_congr fun x hx => by rw [h.right i x hi hx]
    rw [e2, e3, colv_one n u hi]
  have e4 : rowv n v (outer (fun i => -c * colv n t u i) (rowv n v t)) j = -c * (bent n t u v - 1) * rowv n v t j := by
    show (sg n fun x => v x * (-c * colv n t u x * rowv n v t j)) = _
    rw [show (fun x => v x * (-c * colv n t u x * rowv n v t j)) = fun x => (-c * rowv n v t j) * (v x * colv n t u x) from funext fun x => by grind, sg_times]
    have e5 : bent n t u v - 1 = sg n fun x => v x * colv n t u x := by unfold bent; grind
    rw [e5]; grind
  rw [h.right i j hi hj, e1, e4]
  generalize bent n t u v = k at *
  grind

end Go.Proofs.YtofdhdnffkhojaaDoor.Mx
