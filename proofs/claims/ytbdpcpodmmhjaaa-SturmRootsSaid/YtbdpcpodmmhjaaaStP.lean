/- Plain facts on the chain of a row, its slope and the rests, none of them divided by anything: row by row it is a number above 0 times the document's. No program is named here. -/
import Derived.Test.YtbdpcpodmmhjaaaStL
namespace Go.Proofs.Ytbdpcpodmmhjaaa.Stu
set_option linter.unusedVariables false

theorem getD_scale (l : List Int) (k : Int) (i : Nat) : (l.map (· * k)).getD i 0 = l.getD i 0 * k := by
  rw [List.getD_eq_getElem?_getD, List.getD_eq_getElem?_getD, List.getElem?_map]
  cases l[i]? with
  | none => show (0 : Int) = 0 * k; rw [Int.zero_mul]
  | some a => rfl
theorem tp_scale (l : List Int) (k : Int) : tp (l.map (· * k)) = tp l * k := by
  unfold tp; rw [getD_scale, List.length_map]
theorem az_scale (z : Int) {m : Int} (hm : 0 < m) : az (z * m) = az z * m := by
  unfold az
  by_cases h : z < 0
  · rw [if_pos h, if_pos (Int.mul_neg_of_neg_of_pos h hm), Int.neg_mul]
  · rw [if_neg h, if_neg (by have := Int.mul_nonneg (show 0 ≤ z by omega) (show 0 ≤ m by omega); omega)]
theorem neg_scale (z : Int) {m : Int} (hm : 0 < m) : z * m < 0 ↔ z < 0 := by
  constructor
  · intro h
    refine Classical.byContradiction fun hn => ?_
    have := Int.mul_nonneg (show 0 ≤ z by omega) (show 0 ≤ m by omega); omega
  · intro h; exact Int.mul_neg_of_neg_of_pos h hm
theorem tq_scale (f g : List Int) (k : Int) {m : Int} (hm : 0 < m) : tq (f.map (· * k)) (g.map (· * m)) = tq f g * k := by
  unfold tq
  rw [tp_scale, tp_scale]
  by_cases h : tp g < 0
  · rw [if_pos ((neg_scale _ hm).2 h), if_pos h, Int.neg_mul]
  · rw [if_neg (fun e => h ((neg_scale _ hm).1 e)), if_neg h]
theorem nx_scale (f g : List Int) (k : Int) {m : Int} (hm : 0 < m) : nx (f.map (· * k)) (g.map (· * m)) = (nx f g).map (· * (k * m)) := by
  unfold nx
  rw [List.map_map, List.length_map, List.length_map]
  refine List.map_congr_left fun i _ => ?_
  rw [getD_scale, tp_scale, az_scale _ hm, tq_scale _ _ _ hm, getD_scale]
  show _ = (_ - _) * (k * m)
  split <;> grind
theorem spl_scale : ∀ (n : Nat) (g f Q Q' : List Int) (k m : Int), 0 < k → 0 < m → ∃ K : Int, 0 < K ∧ (spl n (g.map (· * m)) (f.map (· * k)) Q').2 = (spl n g f Q).2.map (· * K)
  | 0, g, f, Q, Q', k, m, hk, hm => ⟨k, hk, rfl⟩
  | n + 1, g, f, Q, Q', k, m, hk, hm => by
    rw [spl, spl, List.length_map, List.length_map]
    by_cases h : g.length ≤ f.length
    · rw [if_pos h, if_pos h, nx_scale _ _ _ hm]
      exact spl_scale n g (nx f g) _ _ (k * m) m (Int.mul_pos hk hm) hm
    · rw [if_neg h, if_neg h]
      exact ⟨k, hk, rfl⟩
theorem tm_map (h : Int → Int) (h0 : ∀ z, h z = 0 ↔ z = 0) (l : List Int) : tm (l.map h) = (tm l).map h := by
  refine tm_ind (fun l => tm (l.map h) = (tm l).map h) rfl (fun l ih => ?_) (fun l a ha => ?_) l
  · rw [List.map_append, List.map_cons, List.map_nil, (h0 0).2 rfl, tm_zero, tm_zero]; exact ih
  · rw [tm_not _ ha, List.map_append, List.map_cons, List.map_nil, tm_not _ (fun e => ha ((h0 a).1 e))]
theorem tm_scale (l : List Int) {k : Int} (hk : 0 < k) : tm (l.map (· * k)) = (tm l).map (· * k) :=
  tm_map _ (fun z => ⟨fun e => (Int.mul_eq_zero.1 e).resolve_right (by omega), fun e => by rw [e, Int.zero_mul]⟩) l
theorem tm_negs (l : List Int) : tm (l.map (- ·)) = (tm l).map (- ·) := tm_map _ (fun z => by omega) l
/-- What is left of a division, times a number above 0, with its sign turned, and without noughts at the end. -/
def nr (f g : List Int) : List Int := tm ((spl f.length g f []).2.map (- ·))
theorem map_one (l : List Int) : l.map (· * (1 : Int)) = l := by
  conv => rhs; rw [← List.map_id l]
  exact List.map_congr_left fun x _ => Int.mul_one x
theorem pl_times {l : List Int} (h : tm l ≠ []) : (pl l).map (· * gcl (tm l)) = tm l := map_cancel (tm l) _ fun x hx => gcl_dvd _ hx
theorem pl_any (l : List Int) : ∃ k : Int, 0 < k ∧ tm l = (pl l).map (· * k) := by
  by_cases h : tm l = []
  · exact ⟨1, by omega, by rw [h, pl_nil.2 h]; rfl⟩
  · exact ⟨gcl (tm l), (pl_val l h).1, (pl_times h).symm⟩
theorem nr_scale (a b : List Int) {k m : Int} (hk : 0 < k) (hm : 0 < m) : ∃ K : Int, 0 < K ∧ nr (a.map (· * k)) (b.map (· * m)) = ((dr a b).map (- ·)).map (· * K) := by
  unfold nr dr
  rw [List.length_map]
  obtain ⟨K, hK, e⟩ := spl_scale a.length b a (List.replicate 8 0) [] k m hk hm
  obtain ⟨K2, hK2, e2⟩ := pl_any (spl a.length b a (List.replicate 8 0)).2
  refine ⟨K2 * K, Int.mul_pos hK2 hK, ?_⟩
  rw [e, tm_negs, tm_scale _ hK, e2, List.map_map, List.map_map, List.map_map]
  refine List.map_congr_left fun x _ => ?_
  show -(x * K2 * K) = -x * (K2 * K)
  grind
/-- Row by row a number above 0 times the other one. -/
inductive Al : List (List Int) → List (List Int) → Prop
  | nil : Al [] []
  | cons {g : List Int} {k : Int} {P C : List (List Int)} (hk : 0 < k) (t : Al P C) : Al (g.map (· * k) :: P) (g :: C)
/-- The rests behind two rows. -/
def ptl : Nat → List Int → List Int → List (List Int)
  | 0, _, _ => []
  | k + 1, a, b => if nr a b = [] then [] else nr a b :: ptl k b (nr a b)
/-- A row, its slope and the rests. -/
def pch (f : List Int) : List (List Int) := if slp f = [] then [f] else f :: slp f :: ptl 8 f (slp f)
theorem ptl_al : ∀ (n : Nat) (a b : List Int) (k m : Int), 0 < k → 0 < m → Al (ptl n (a.map (· * k)) (b.map (· * m))) (tl n a b)
  | 0, _, _, _, _, _, _ => .nil
  | n + 1, a, b, k, m, hk, hm => by
    rw [ptl, tl]
    obtain ⟨K, hK, e⟩ := nr_scale a b hk hm
    rw [e]
    by_cases h : dr a b = []
    · rw [if_pos (by rw [h]; rfl), if_pos h]; exact .nil
    · rw [if_neg (by simpa using h), if_neg h]
      exact .cons hK (ptl_al n b _ m K hm hK)
theorem pch_al {f : List Int} (h0 : f ≠ []) (t : Tp f) : Al (pch f) (rst f) := by
  obtain ⟨k, hk, e⟩ := pl_any f
  rw [tm_tp t] at e
  obtain ⟨m, hm, e2⟩ := pl_any (slp f)
  unfold pch rst
  by_cases h : f.length = 1
  · have h1 : slp f = [] := List.eq_nil_of_length_eq_zero (by rw [slp_len]; omega)
    have h2 : pl (slp f) = [] := by rw [h1]; rfl
    rw [if_pos h1, if_pos h2]
    have := Al.cons (g := pl f) hk Al.nil
    rwa [← e] at this
  · have h2 : 2 ≤ f.length := by have := List.length_pos_iff.2 h0; omega
    obtain ⟨ts, ns⟩ := slp_tp h2 t
    rw [tm_tp ts] at e2
    have n2 : pl (slp f) ≠ [] := fun e' => ns (by rw [e2, e']; rfl)
    rw [if_neg ns, if_neg n2]
    have a1 := ptl_al 8 (pl f) (pl (slp f)) k m hk hm
    rw [← e, ← e2] at a1
    have a2 := Al.cons (g := pl (slp f)) hm a1
    rw [← e2] at a2
    have a3 := Al.cons (g := pl f) hk a2
    rwa [← e] at a3
theorem Al.vs {P C : List (List Int)} (a : Al P C) (x : Rat) : vs P x = vs C x := by
  have : (P.map fun g => sq (iv g x)) = C.map fun g => sq (iv g x) := by
    induction a with
    | nil => rfl
    | cons hk t ih => rw [List.map_cons, List.map_cons, ih, iv_scale, sq_mul, sq_pos (Rat.intCast_pos.2 hk), Int.one_mul]
  unfold Stu.vs
  rw [this]
theorem Al.good {P C : List (List Int)} (a : Al P C) (h : Good C) : Good P := by
  induction a with
  | nil => exact fun _ hg => absurd hg (by simp)
  | @cons g k P C hk t ih =>
    intro g' hg'
    obtain ⟨n, tg⟩ := h g (by simp)
    rcases List.mem_cons.1 hg' with rfl | hm
    · refine ⟨by simpa using n, fun _ => ?_⟩
      rw [tp_scale]
      exact Int.mul_ne_zero (tg n) (by omega)
    · exact ih (fun g'' h'' => h g'' (List.mem_cons_of_mem _ h'')) g' hm

end Go.Proofs.Ytbdpcpodmmhjaaa.Stu
