/- Bands: noughts but in the middle and beside it. Their determinant goes on by the two ahead of it, from either end. No program in it. -/
import Derived.Test.YtbmkkcpdlakgbaaDoorMatA
namespace Go.Proofs.YtbmkkcpdlakgbaaDoor.Mx
open Fp

/-- A band: m in the middle, a above it, b below it. -/
def bnd (m a b : Nat → F) : Nat → Nat → F := fun i j => if i = j then m i else if i + 1 = j then a i else if j + 1 = i then b j else 0
theorem bnd_mid (m a b : Nat → F) (i : Nat) : bnd m a b i i = m i := by unfold bnd; rw [if_pos rfl]
theorem bnd_up (m a b : Nat → F) (i : Nat) : bnd m a b i (i + 1) = a i := by unfold bnd; rw [if_neg (by omega), if_pos rfl]
theorem bnd_low (m a b : Nat → F) (i : Nat) : bnd m a b (i + 1) i = b i := by unfold bnd; rw [if_neg (by omega), if_neg (by omega), if_pos rfl]
theorem bnd_out (m a b : Nat → F) {i j : Nat} (h1 : i ≠ j) (h2 : i + 1 ≠ j) (h3 : j + 1 ≠ i) : bnd m a b i j = 0 := by unfold bnd; rw [if_neg h1, if_neg h2, if_neg h3]
theorem bnd_next (m a b : Nat → F) (i j : Nat) : bnd m a b (i + 1) (j + 1) = bnd (fun k => m (k + 1)) (fun k => a (k + 1)) (fun k => b (k + 1)) i j := by
  unfold bnd
  by_cases h1 : i = j
  · rw [if_pos (by omega), if_pos h1]
  · rw [if_neg (by omega), if_neg h1]
    by_cases h2 : i + 1 = j
    · rw [if_pos (by omega), if_pos h2]
    · rw [if_neg (by omega), if_neg h2]
      by_cases h3 : j + 1 = i
      · rw [if_pos (by omega), if_pos h3]
      · rw [if_neg (by omega), if_neg h3]

/-- From the front: m in the middle, c the products beside it. -/
def ko : Nat → (Nat → F) → (Nat → F) → F
  | 0, _, _ => 1
  | 1, m, _ => m 0
  | n + 2, m, c => m 0 * ko (n + 1) (fun k => m (k + 1)) (fun k => c (k + 1)) - c 0 * ko n (fun k => m (k + 2)) (fun k => c (k + 2))
theorem ko_front (n : Nat) (m c : Nat → F) : ko (n + 2) m c = m 0 * ko (n + 1) (fun k => m (k + 1)) (fun k => c (k + 1)) - c 0 * ko n (fun k => m (k + 2)) (fun k => c (k + 2)) := rfl
theorem ko_two (m c : Nat → F) : ko 2 m c = m 0 * m 1 - c 0 := by
  rw [ko_front]; simp only [ko]; grind
/-- And from the end. -/
theorem ko_next : ∀ (n : Nat) (m c : Nat → F), ko (n + 2) m c = m (n + 1) * ko (n + 1) m c - c n * ko n m c
  | 0, m, c => by rw [ko_two]; simp only [ko]; grind
  | 1, m, c => by
    rw [ko_front, ko_two, ko_two]
    simp only [ko]
    grind
  | n + 2, m, c => by
    have h1 := ko_next (n + 1) (fun k => m (k + 1)) (fun k => c (k + 1))
    have h2 := ko_next n (fun k => m (k + 2)) (fun k => c (k + 2))
    have e1 := ko_front (n + 2) m c
    have e2 := ko_front (n + 1) m c
    have e3 := ko_front n m c
    rw [e1, e2, e3, h1, h2]
    grind
theorem ko_congr : ∀ (n : Nat) {m m' c c' : Nat → F}, (∀ i, i < n → m i = m' i) → (∀ i, i + 1 < n → c i = c' i) → ko n m c = ko n m' c'
  | 0, _, _, _, _, _, _ => rfl
  | 1, _, _, _, _, h, _ => h 0 (by omega)
  | n + 2, m, m', c, c', hm, hc => by
    rw [ko_front, ko_front, hm 0 (by omega), hc 0 (by omega), ko_congr (n + 1) (fun i hi => hm (i + 1) (by omega)) (fun i hi => hc (i + 1) (by omega)),
      ko_congr n (fun i hi => hm (i + 2) (by omega)) (fun i hi => hc (i + 2) (by omega))]
/-- Turned about it is the same. -/
theorem ko_turn : ∀ (n : Nat) (m c : Nat → F), ko n (fun i => m (n - 1 - i)) (fun i => c (n - 2 - i)) = ko n m c
  | 0, _, _ => rfl
  | 1, _, _ => rfl
  | n + 2, m, c => by
    rw [ko_front, ko_next]
    congr 1
    · congr 1
      rw [← ko_turn (n + 1) m c]
      exact ko_congr _ (fun i hi => by congr 1; omega) (fun i hi => by congr 1; omega)
    · congr 1
      rw [← ko_turn n m c]
      exact ko_congr _ (fun i hi => by congr 1; omega) (fun i hi => by congr 1; omega)

theorem dt_zcol {n : Nat} {f : Nat → Nat → F} {k : Nat} (hk : k < n) (h : ∀ i, i < n → f i k = 0) : dt n f = 0 := by
  rw [← dt_flip]; exact dt_zrow hk h
/-- The determinant of a band. -/
theorem dt_bnd : ∀ (n : Nat) (m a b : Nat → F), dt n (bnd m a b) = ko n m (fun i => a i * b i)
  | 0, _, _, _ => rfl
  | 1, m, a, b => by
    rw [dt_succ, sg_succ, sg_zero, bnd_mid]
    simp only [dt, ko, sgn]
    grind
  | n + 2, m, a, b => by
    have r1 := dt_bnd (n + 1) (fun k => m (k + 1)) (fun k => a (k + 1)) (fun k => b (k + 1))
    have r2 := dt_bnd n (fun k => m (k + 2)) (fun k => a (k + 2)) (fun k => b (k + 2))
    rw [dt_succ, sg_two (k := 0) (l := 1) (by omega) (by omega) (by omega) (fun i hi h0 h1 => by
      obtain ⟨j, rfl⟩ : ∃ j, i = j + 2 := ⟨i - 2, by omega⟩
      rw [bnd_out m a b (by omega) (by omega) (by omega)]; grind), bnd_mid, bnd_up m a b 0]
    have e0 : dt (n + 1) (del 0 (bnd m a b)) = ko (n + 1) (fun k => m (k + 1)) (fun k => a (k + 1) * b (k + 1)) := by
      rw [← r1]
      refine dt_congr _ fun i j _ _ => ?_
      show bnd m a b (i + 1) (sk 0 j) = _
      rw [sk_zero, bnd_next]
    have e1 : dt (n + 1) (del 1 (bnd m a b)) = b 0 * ko n (fun k => m (k + 2)) (fun k => a (k + 2) * b (k + 2)) := by
      rw [← r2, dt_succ, sg_one (k := 0) (by omega) (fun j hj h0 => ?_)]
      · have e : del 1 (bnd m a b) 0 0 = b 0 := by show bnd m a b 1 (sk 1 0) = _; rw [show sk 1 0 = 0 from rfl]; exact bnd_low m a b 0
        rw [e, show sgn 0 = 1 from rfl]
        have : dt n (del 0 (del 1 (bnd m a b))) = dt n (bnd (fun k => m (k + 2)) (fun k => a (k + 2)) (fun k => b (k + 2))) := by
          refine dt_congr _ fun i j _ _ => ?_
          show bnd m a b (i + 1 + 1) (sk 1 (sk 0 j)) = _
          rw [sk_zero, show sk 1 (j + 1) = j + 1 + 1 by unfold sk; rw [if_neg (by omega)], bnd_next, bnd_next]
        rw [this]; grind
      · have : dt n (del j (del 1 (bnd m a b))) = 0 := by
          refine dt_zcol (k := 0) (by omega) fun i _ => ?_
          show bnd m a b (i + 1 + 1) (sk 1 (sk j 0)) = 0
          rw [show sk j 0 = 0 by unfold sk; rw [if_pos (by omega)], show sk 1 0 = 0 from rfl]
          exact bnd_out m a b (by omega) (by omega) (by omega)
        rw [this]; grind
    rw [e0, e1, ko_front, show sgn 0 = 1 from rfl, show sgn 1 = -1 from rfl]
    grind

end Go.Proofs.YtbmkkcpdlakgbaaDoor.Mx
