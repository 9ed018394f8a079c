/- Plain facts on matrices over the field: how few rows and columns they go through (rank), row steps, the one form in steps and that there is but one. No program is named here. -/
import Derived.Test.YtkebjmapdcbnaaaMatM
namespace Go.Proofs.Ytkebjmapdcbnaaa.Mx
open Fp
set_option linter.unusedVariables false

theorem sg_split (n m : Nat) (f : Nat → F) : sg (n + m) f = sg n f + sg m (fun i => f (n + i)) := by
  induction m with
  | zero => rw [Nat.add_zero, sg_zero]; grind
  | succ m ih => rw [← Nat.add_assoc, sg_succ, sg_succ, ih]; grind
/-- Terms of nought behind the first n. -/
theorem sg_less {n m : Nat} {f : Nat → F} (h : n ≤ m) (h0 : ∀ i, n ≤ i → i < m → f i = 0) : sg m f = sg n f := by
  obtain ⟨d, rfl⟩ := Nat.exists_eq_add_of_le h
  rw [sg_split, sg_congr (g := fun _ => 0) fun i hi => h0 (n + i) (by omega) (by omega), sg_none]; grind
/-- A sum that is not nought has a term that is not. -/
theorem sg_ne {n : Nat} {f : Nat → F} (h : sg n f ≠ 0) : ∃ i, i < n ∧ f i ≠ 0 := by
  refine Classical.byContradiction fun hn => h ?_
  rw [sg_congr (g := fun _ => 0) fun i hi => Classical.byContradiction fun he => hn ⟨i, hi, he⟩, sg_none]

/-- Passing over one place. -/
def sk (a i : Nat) : Nat := if i < a then i else i + 1
theorem sk_lt {a i p : Nat} (h : i < p) : sk a i < p + 1 := by unfold sk; split <;> omega
theorem sk_ne (a i : Nat) : sk a i ≠ a := by unfold sk; split <;> omega
theorem sk_inj {a i j : Nat} (h : sk a i = sk a j) : i = j := by unfold sk at h; split at h <;> split at h <;> omega
theorem one_sk (a i j : Nat) : one (sk a i) (sk a j) = one i j := by
  unfold one
  by_cases h : i = j
  · rw [if_pos h, if_pos (by rw [h])]
  · rw [if_neg h, if_neg (fun e => h (sk_inj e))]

/-- The one of p rows does not go through fewer than p. -/
theorem dim : ∀ (k p : Nat) (u v : Nat → Nat → F), Eqm p p (mul k u v) one → p ≤ k
  | 0, p, u, v, h => by
    refine Nat.le_of_not_lt fun hp => ?_
    have := h 0 0 hp hp
    exact one_ne (this.symm : (1 : F) = 0)
  | k + 1, p, u, v, h => by
    by_cases hz : ∀ i, i < p → u i k = 0
    · refine Nat.le_succ_of_le (dim k p u v fun i j hi hj => ?_)
      have := h i j hi hj
      have e : mul (k + 1) u v i j = mul k u v i j + u i k * v k j := rfl
      rw [e, hz i hi] at this
      rw [← this]; grind
    · obtain ⟨a, hn⟩ := Classical.not_forall.1 hz
      obtain ⟨ha, h0⟩ := Classical.not_imp.1 hn
      obtain ⟨q, rfl⟩ : ∃ q, p = q + 1 := ⟨p - 1, by omega⟩
      refine Nat.succ_le_succ (dim k q (fun i x => u (sk a i) x - u (sk a i) k * inv (u a k) * u a x) (fun x j => v x (sk a j)) fun i j hi hj => ?_)
      have e1 := h (sk a i) (sk a j) (sk_lt hi) (sk_lt hj)
      have e2 := h a (sk a j) ha (sk_lt hj)
      rw [one_sk] at e1
      have e3 : one a (sk a j) = 0 := by unfold one; rw [if_neg (fun e => sk_ne a j e.symm)]
      rw [e3] at e2
      have hi := inv_mul h0
      have d1 : mul (k + 1) u v (sk a i) (sk a j) = mul k u v (sk a i) (sk a j) + u (sk a i) k * v k (sk a j) := rfl
      have d2 : mul (k + 1) u v a (sk a j) = mul k u v a (sk a j) + u a k * v k (sk a j) := rfl
      rw [d1] at e1
      rw [d2] at e2
      have d3 : mul k (fun i x => u (sk a i) x - u (sk a i) k * inv (u a k) * u a x) (fun x j => v x (sk a j)) i j = mul k u v (sk a i) (sk a j) - u (sk a i) k * inv (u a k) * mul k u v a (sk a j) := by
        show sg k (fun x => (u (sk a i) x - u (sk a i) k * inv (u a k) * u a x) * v x (sk a j)) = sg k (fun x => u (sk a i) x * v x (sk a j)) - u (sk a i) k * inv (u a k) * sg k (fun x => u a x * v x (sk a j))
        rw [← sg_times]
        have : sg k (fun x => (u (sk a i) x - u (sk a i) k * inv (u a k) * u a x) * v x (sk a j)) + sg k (fun x => u (sk a i) k * inv (u a k) * (u a x * v x (sk a j))) = sg k (fun x => u (sk a i) x * v x (sk a j)) := by
          rw [← sg_add]; exact sg_congr fun x _ => by grind
        grind
      rw [d3]
      generalize mul k u v (sk a i) (sk a j) = m1 at *
      generalize mul k u v a (sk a j) = m2 at *
      generalize u (sk a i) k = c1 at *
      generalize v k (sk a j) = c2 at *
      generalize inv (u a k) = c3 at *
      generalize u a k = c4 at *
      have h2 : m2 = -(c4 * c2) := by grind
      rw [← e1, h2]
      have : c1 * c3 * -(c4 * c2) = -(c1 * c2 * (c3 * c4)) := by grind
      rw [this, hi]; grind

/-- It goes through k; it shows the one of p. -/
def Thru (r c k : Nat) (f : Nat → Nat → F) : Prop := ∃ u v, Eqm r c f (mul k u v)
def Sees (r c p : Nat) (f : Nat → Nat → F) : Prop := ∃ x y, Eqm p p (mul r x (mul c f y)) one
theorem sees_thru {r c p k : Nat} {f : Nat → Nat → F} (h : Sees r c p f) (h' : Thru r c k f) : p ≤ k := by
  obtain ⟨x, y, hs⟩ := h
  obtain ⟨u, v, ht⟩ := h'
  refine dim k p (mul r x u) (mul c v y) (Eqm.trans ?_ hs)
  have e : mul k (mul r x u) (mul c v y) = mul r x (mul c (mul k u v) y) := by rw [mul_assoc, mul_assoc]
  rw [e]
  exact (Eqm.rfl' p r x).mul (ht.symm.mul (Eqm.rfl' c p y))
theorem flip_one : flip one = one := by
  funext i j
  show (if j = i then (1 : F) else 0) = if i = j then 1 else 0
  by_cases h : i = j
  · rw [if_pos h, if_pos h.symm]
  · rw [if_neg h, if_neg (fun e => h e.symm)]
theorem Eqm.flip {r c : Nat} {f g : Nat → Nat → F} (h : Eqm r c f g) : Eqm c r (Mx.flip f) (Mx.flip g) := fun i j hi hj => h j i hj hi
theorem Thru.flip {r c k : Nat} {f : Nat → Nat → F} (h : Thru r c k f) : Thru c r k (Mx.flip f) := by
  obtain ⟨u, v, h⟩ := h
  refine ⟨Mx.flip v, Mx.flip u, ?_⟩
  rw [← flip_mul]; exact h.flip
theorem Sees.flip {r c p : Nat} {f : Nat → Nat → F} (h : Sees r c p f) : Sees c r p (Mx.flip f) := by
  obtain ⟨x, y, h⟩ := h
  refine ⟨Mx.flip y, Mx.flip x, ?_⟩
  have := h.flip
  rw [flip_mul, flip_mul, flip_one, mul_assoc] at this
  exact this
theorem Thru.mul_left {r q c k : Nat} {f : Nat → Nat → F} (h : Thru r q k f) (g : Nat → Nat → F) : Thru r c k (mul q f g) := by
  obtain ⟨u, v, h⟩ := h
  refine ⟨u, mul q v g, ?_⟩
  rw [← mul_assoc]; exact h.mul (Eqm.rfl' q c g)
theorem Thru.mul_right {r q c k : Nat} {g : Nat → Nat → F} (h : Thru q c k g) (f : Nat → Nat → F) : Thru r c k (mul q f g) := by
  obtain ⟨u, v, h⟩ := h
  refine ⟨mul q f u, v, ?_⟩
  rw [mul_assoc]; exact (Eqm.rfl' r q f).mul h
theorem Thru.plus {r c k l : Nat} {f g : Nat → Nat → F} (h : Thru r c k f) (h' : Thru r c l g) : Thru r c (k + l) (plus f g) := by
  obtain ⟨u, v, h⟩ := h
  obtain ⟨u', v', h'⟩ := h'
  refine ⟨fun i x => if x < k then u i x else u' i (x - k), fun x j => if x < k then v x j else v' (x - k) j, fun i j hi hj => ?_⟩
  show f i j + g i j = sg (k + l) (fun x => (if x < k then u i x else u' i (x - k)) * (if x < k then v x j else v' (x - k) j))
  rw [h i j hi hj, h' i j hi hj, sg_split]
  congr 1
  · exact sg_congr fun x hx => by rw [if_pos hx, if_pos hx]
  · exact sg_congr fun x hx => by rw [if_neg (by omega), if_neg (by omega), Nat.add_sub_cancel_left]
def neg (f : Nat → Nat → F) : Nat → Nat → F := fun i j => -(f i j)
theorem Thru.neg {r c k : Nat} {f : Nat → Nat → F} (h : Thru r c k f) : Thru r c k (neg f) := by
  obtain ⟨u, v, h⟩ := h
  refine ⟨Mx.neg u, v, fun i j hi hj => ?_⟩
  show -(f i j) = sg k (fun x => -(u i x) * v x j)
  rw [h i j hi hj]
  have : sg k (fun x => -(u i x) * v x j) = (-1 : F) * sg k (fun x => u i x * v x j) := by rw [← sg_times]; exact sg_congr fun x _ => by grind
  rw [this]
  show -(sg k (fun x => u i x * v x j)) = _
  grind
theorem Thru.eqm {r c k : Nat} {f g : Nat → Nat → F} (h : Thru r c k f) (e : Eqm r c g f) : Thru r c k g := by
  obtain ⟨u, v, h⟩ := h
  exact ⟨u, v, e.trans h⟩
theorem Thru.rows (r c : Nat) (f : Nat → Nat → F) : Thru r c r f := ⟨one, f, (one_mul r c f).symm⟩

theorem mul_neg (n : Nat) (f g : Nat → Nat → F) : mul n f (neg g) = neg (mul n f g) := by
  funext i j
  show sg n (fun x => f i x * -(g x j)) = -(sg n fun x => f i x * g x j)
  have : sg n (fun x => f i x * -(g x j)) = (-1 : F) * sg n (fun x => f i x * g x j) := by rw [← sg_times]; exact sg_congr fun x _ => by grind
  rw [this]; grind
theorem neg_mul (n : Nat) (f g : Nat → Nat → F) : mul n (neg f) g = neg (mul n f g) := by
  funext i j
  show sg n (fun x => -(f i x) * g x j) = -(sg n fun x => f i x * g x j)
  have : sg n (fun x => -(f i x) * g x j) = (-1 : F) * sg n (fun x => f i x * g x j) := by rw [← sg_times]; exact sg_congr fun x _ => by grind
  rw [this]; grind
/-- Sylvester: a product goes through no fewer than both show, less what they have in common. -/
theorem sylvester {r q c n l k : Nat} {a b : Nat → Nat → F} (ha : Sees r q n a) (hb : Sees q c l b) (ht : Thru r c k (mul q a b)) : n + l ≤ k + q := by
  obtain ⟨x', y', ea⟩ := ha
  obtain ⟨x, y, eb⟩ := hb
  obtain ⟨u, v, et⟩ := ht
  -- x' : n r, y' : q n, x : l q, y : c l, u : r k, v : k c
  have hU : l + n ≤ q + k := by
    refine dim (q + k) (l + n)
      (fun i z => if i < l then (if z < q then x i z - mul q x (mul n y' (mul r x' a)) i z else -(mul q x (mul n y' (mul r x' u)) i (z - q)))
        else (if z < q then mul r x' a (i - l) z else mul r x' u (i - l) (z - q)))
      (fun z j => if z < q then (if j < l then mul c b y z j else y' z (j - l)) else (if j < l then -(mul c v y (z - q) j) else 0)) fun i j hi hj => ?_
    show sg (q + k) _ = _
    rw [sg_split]
    -- what the blocks come to
    have ab : Eqm n l (mul r x' (mul q a (mul c b y))) (mul r x' (mul k u (mul c v y))) := by
      refine (Eqm.rfl' n r x').mul ?_
      rw [← mul_assoc, ← mul_assoc]
      exact et.mul (Eqm.rfl' c l y)
    by_cases h1 : i < l
    · by_cases h2 : j < l
      · have s1 : sg q (fun z => (if i < l then (if z < q then x i z - mul q x (mul n y' (mul r x' a)) i z else -(mul q x (mul n y' (mul r x' u)) i (z - q))) else (if z < q then mul r x' a (i - l) z else mul r x' u (i - l) (z - q))) *
            (if z < q then (if j < l then mul c b y z j else y' z (j - l)) else (if j < l then -(mul c v y (z - q) j) else 0))) = mul q x (mul c b y) i j - mul q (mul q x (mul n y' (mul r x' a))) (mul c b y) i j := by
          rw [sg_congr (g := fun z => (x i z - mul q x (mul n y' (mul r x' a)) i z) * mul c b y z j) fun z hz => by rw [if_pos h1, if_pos hz, if_pos hz, if_pos h2]]
          have : sg q (fun z => (x i z - mul q x (mul n y' (mul r x' a)) i z) * mul c b y z j) + sg q (fun z => mul q x (mul n y' (mul r x' a)) i z * mul c b y z j) = sg q (fun z => x i z * mul c b y z j) := by
            rw [← sg_add]; exact sg_congr fun z _ => by grind
          show _ = sg q (fun z => x i z * mul c b y z j) - sg q (fun z => mul q x (mul n y' (mul r x' a)) i z * mul c b y z j)
          grind
        have s2 : sg k (fun z => (if i < l then (if q + z < q then x i (q + z) - mul q x (mul n y' (mul r x' a)) i (q + z) else -(mul q x (mul n y' (mul r x' u)) i (q + z - q))) else (if q + z < q then mul r x' a (i - l) (q + z) else mul r x' u (i - l) (q + z - q))) *
            (if q + z < q then (if j < l then mul c b y (q + z) j else y' (q + z) (j - l)) else (if j < l then -(mul c v y (q + z - q) j) else 0))) = mul k (mul q x (mul n y' (mul r x' u))) (mul c v y) i j := by
          refine sg_congr fun z hz => ?_
          rw [if_pos h1, if_neg (by omega), if_neg (by omega), if_pos h2, Nat.add_sub_cancel_left]; grind
        rw [s1, s2]
        have e1 : mul q (mul q x (mul n y' (mul r x' a))) (mul c b y) = mul q x (mul n y' (mul r x' (mul q a (mul c b y)))) := by rw [mul_assoc, mul_assoc, mul_assoc]
        have e2 : mul k (mul q x (mul n y' (mul r x' u))) (mul c v y) = mul q x (mul n y' (mul r x' (mul k u (mul c v y)))) := by rw [mul_assoc, mul_assoc, mul_assoc]
        have e3 := ((Eqm.rfl' l q x).mul ((Eqm.rfl' q n y').mul ab)) i j h1 h2
        rw [e1, e2, e3, eb i j h1 h2]; grind
      · have s1 : sg q (fun z => (if i < l then (if z < q then x i z - mul q x (mul n y' (mul r x' a)) i z else -(mul q x (mul n y' (mul r x' u)) i (z - q))) else (if z < q then mul r x' a (i - l) z else mul r x' u (i - l) (z - q))) *
            (if z < q then (if j < l then mul c b y z j else y' z (j - l)) else (if j < l then -(mul c v y (z - q) j) else 0))) = mul q x y' i (j - l) - mul q (mul q x (mul n y' (mul r x' a))) y' i (j - l) := by
          rw [sg_congr (g := fun z => (x i z - mul q x (mul n y' (mul r x' a)) i z) * y' z (j - l)) fun z hz => by rw [if_pos h1, if_pos hz, if_pos hz, if_neg h2]]
          have : sg q (fun z => (x i z - mul q x (mul n y' (mul r x' a)) i z) * y' z (j - l)) + sg q (fun z => mul q x (mul n y' (mul r x' a)) i z * y' z (j - l)) = sg q (fun z => x i z * y' z (j - l)) := by
            rw [← sg_add]; exact sg_congr fun z _ => by grind
          show _ = sg q (fun z => x i z * y' z (j - l)) - sg q (fun z => mul q x (mul n y' (mul r x' a)) i z * y' z (j - l))
          grind
        rw [s1, sg_congr (n := k) (g := fun _ => 0) fun z hz => by dsimp only; rw [if_pos h1, if_neg (by omega), if_neg (by omega), if_neg h2]; grind, sg_none]
        have e1 : mul q (mul q x (mul n y' (mul r x' a))) y' = mul q x (mul n y' (mul r x' (mul q a y'))) := by rw [mul_assoc, mul_assoc, mul_assoc]
        have e2 : Eqm l n (mul q x (mul n y' (mul r x' (mul q a y')))) (mul q x (mul n y' one)) := (Eqm.rfl' l q x).mul ((Eqm.rfl' q n y').mul ea)
        have e3 : Eqm l n (mul q x (mul n y' one)) (mul q x y') := (Eqm.rfl' l q x).mul (mul_one q n y')
        rw [e1, e2 i (j - l) h1 (by omega), e3 i (j - l) h1 (by omega)]
        show _ = (if i = j then (1 : F) else 0)
        rw [if_neg (by omega)]; grind
    · by_cases h2 : j < l
      · rw [sg_congr (n := q) (g := fun z => mul r x' a (i - l) z * mul c b y z j) fun z hz => by dsimp only; rw [if_neg h1, if_pos hz, if_pos hz, if_pos h2]]
        rw [sg_congr (n := k) (g := fun z => mul r x' u (i - l) z * -(mul c v y z j)) fun z hz => by dsimp only; rw [if_neg h1, if_neg (by omega), if_neg (by omega), if_pos h2, Nat.add_sub_cancel_left]]
        have e1 : sg q (fun z => mul r x' a (i - l) z * mul c b y z j) = mul r x' (mul q a (mul c b y)) (i - l) j := by
          show mul q (mul r x' a) (mul c b y) (i - l) j = _
          rw [mul_assoc]
        have e2 : sg k (fun z => mul r x' u (i - l) z * -(mul c v y z j)) = -(mul r x' (mul k u (mul c v y)) (i - l) j) := by
          show mul k (mul r x' u) (neg (mul c v y)) (i - l) j = _
          rw [mul_neg, mul_assoc]; rfl
        rw [e1, e2, ab (i - l) j (by omega) h2]
        show _ = (if i = j then (1 : F) else 0)
        rw [if_neg (by omega)]; grind
      · rw [sg_congr (n := q) (g := fun z => mul r x' a (i - l) z * y' z (j - l)) fun z hz => by dsimp only; rw [if_neg h1, if_pos hz, if_pos hz, if_neg h2]]
        rw [sg_congr (n := k) (g := fun _ => 0) fun z hz => by dsimp only; rw [if_neg h1, if_neg (by omega), if_neg (by omega), if_neg h2]; grind, sg_none]
        have e1 : sg q (fun z => mul r x' a (i - l) z * y' z (j - l)) = mul r x' (mul q a y') (i - l) (j - l) := by
          show mul q (mul r x' a) y' (i - l) (j - l) = _
          rw [mul_assoc]
        rw [e1, ea (i - l) (j - l) (by omega) (by omega)]
        show (if i - l = j - l then (1 : F) else 0) + 0 = if i = j then 1 else 0
        by_cases e : i = j
        · rw [if_pos e, if_pos (by rw [e])]; grind
        · rw [if_neg e, if_neg (by omega)]; grind
  omega

end Go.Proofs.Ytkebjmapdcbnaaa.Mx
