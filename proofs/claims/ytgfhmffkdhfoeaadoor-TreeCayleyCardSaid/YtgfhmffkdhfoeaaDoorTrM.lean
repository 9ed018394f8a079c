/- Plain facts on graphs: how many choices of pairs there are, whatever the points are called and in whatever order the pairs stand; a pair taken out, or its points made one. No program is named here. -/
import Derived.Test.YtgfhmffkdhfoeaaDoorMatTr
namespace Go.Proofs.YtgfhmffkdhfoeaaDoor.Zx
set_option linter.unusedVariables false

/-- The pairs, their points told otherwise. -/
def rel (f : Nat → Nat) (l : List (Nat × Nat)) : List (Nat × Nat) := l.map fun e => (f e.1, f e.2)
/-- What the points are called does not matter. -/
theorem trs_told (S : Nat → Prop) (p f : Nat → Nat) (inj : ∀ a b, S a → S b → p a = p b → a = b) : ∀ (l : List (Nat × Nat)) (w w' : Nat → Nat) (k : Nat),
    (∀ e, e ∈ l → S (w e.1) ∧ S (w e.2) ∧ w' (f e.1) = p (w e.1) ∧ w' (f e.2) = p (w e.2)) → trs w l k = trs w' (rel f l) k
  | l, w, w', 0, _ => by cases l <;> rfl
  | [], w, w', k + 1, _ => rfl
  | e :: l, w, w', k + 1, h => by
    obtain ⟨s1, s2, e1, e2⟩ := h e (List.mem_cons_self ..)
    have ht : ∀ e', e' ∈ l → _ := fun e' he' => h e' (List.mem_cons_of_mem _ he')
    show (if w e.1 = w e.2 then trs w l (k + 1) else trs (join w (w e.1) (w e.2)) l k + trs w l (k + 1)) = (if w' (f e.1) = w' (f e.2) then trs w' (rel f l) (k + 1) else trs (join w' (w' (f e.1)) (w' (f e.2))) (rel f l) k + trs w' (rel f l) (k + 1))
    rw [← trs_told S p f inj l w w' (k + 1) ht, e1, e2]
    by_cases hs : w e.1 = w e.2
    · rw [if_pos hs, if_pos (by rw [hs])]
    · rw [if_neg hs, if_neg fun y => hs (inj _ _ s1 s2 y)]
      congr 1
      refine trs_told S p f inj l _ _ k fun e' he' => ?_
      obtain ⟨t1, t2, f1, f2⟩ := ht e' he'
      have one : ∀ x, S (w x) → w' (f x) = p (w x) → S (join w (w e.1) (w e.2) x) ∧ join w' (p (w e.1)) (p (w e.2)) (f x) = p (join w (w e.1) (w e.2) x) := fun x hx hf => by
        unfold join
        by_cases hb : w x = w e.2
        · rw [if_pos hb, if_pos (by rw [hf, hb])]; exact ⟨s1, rfl⟩
        · rw [if_neg hb, if_neg (by rw [hf]; exact fun y => hb (inj _ _ hx s2 y))]; exact ⟨hx, hf⟩
      exact ⟨(one _ t1 f1).1, (one _ t2 f2).1, (one _ t1 f1).2, (one _ t2 f2).2⟩
/-- Pairs of one point alone do not matter. -/
theorem trs_filter (p : Nat × Nat → Bool) : ∀ (l : List (Nat × Nat)) (w : Nat → Nat) (k : Nat), (∀ e, e ∈ l → p e = false → w e.1 = w e.2) → trs w (l.filter p) k = trs w l k
  | l, w, 0, _ => by
    show trs w (l.filter p) 0 = trs w l 0
    have : ∀ m, trs w m 0 = 1 := fun m => by cases m <;> rfl
    rw [this, this]
  | [], w, k + 1, _ => rfl
  | e :: l, w, k + 1, h => by
    have ht : ∀ e', e' ∈ l → p e' = false → w e'.1 = w e'.2 := fun e' he' => h e' (List.mem_cons_of_mem _ he')
    cases hp : p e
    · rw [List.filter_cons_of_neg (by rw [hp]; decide), trs_filter p l w (k + 1) ht]
      show _ = if w e.1 = w e.2 then _ else _
      rw [if_pos (h e (List.mem_cons_self ..) hp)]
    · rw [List.filter_cons_of_pos hp]
      show (if w e.1 = w e.2 then trs w (l.filter p) (k + 1) else trs (join w (w e.1) (w e.2)) (l.filter p) k + trs w (l.filter p) (k + 1)) = if w e.1 = w e.2 then trs w l (k + 1) else trs (join w (w e.1) (w e.2)) l k + trs w l (k + 1)
      rw [trs_filter p l w (k + 1) ht, trs_filter p l _ k fun e' he' h2 => by unfold join; rw [ht e' he' h2]]
/-- Too few pairs. -/
theorem trs_few : ∀ (l : List (Nat × Nat)) (w : Nat → Nat) (k : Nat), l.length < k → trs w l k = 0
  | _, _, 0, h => absurd h (by omega)
  | [], _, _ + 1, _ => rfl
  | e :: l, w, k + 1, h => by
    rw [List.length_cons] at h
    show (if w e.1 = w e.2 then trs w l (k + 1) else trs (join w (w e.1) (w e.2)) l k + trs w l (k + 1)) = 0
    rw [trs_few l w (k + 1) (by omega), trs_few l _ k (by omega)]
    split <;> rfl
/-- How many choices there are at most. -/
def chz : Nat → Nat → Nat
  | _, 0 => 1
  | 0, _ + 1 => 0
  | m + 1, k + 1 => chz m k + chz m (k + 1)
theorem trs_chz : ∀ (l : List (Nat × Nat)) (w : Nat → Nat) (k : Nat), trs w l k ≤ chz l.length k
  | l, _, 0 => by cases l <;> exact Nat.le_refl _
  | [], _, _ + 1 => Nat.le_refl _
  | e :: l, w, k + 1 => by
    rw [List.length_cons]
    show (if w e.1 = w e.2 then trs w l (k + 1) else trs (join w (w e.1) (w e.2)) l k + trs w l (k + 1)) ≤ chz l.length k + chz l.length (k + 1)
    have h1 := trs_chz l w (k + 1)
    have h2 := trs_chz l (join w (w e.1) (w e.2)) k
    split <;> omega
theorem chz_le : ∀ m, m < 16 → ∀ k, k < 6 → chz m k ≤ 3003 := by decide +kernel
theorem trs_le {l : List (Nat × Nat)} {w : Nat → Nat} {k : Nat} (h1 : l.length ≤ 15) (h2 : k ≤ 5) : trs w l k ≤ 3003 := Nat.le_trans (trs_chz l w k) (chz_le _ (by omega) _ (by omega))
/-- The matrix pair by pair, wherever each stands. -/
theorem lap_cat (w : Nat → Nat) : ∀ (a b : List (Nat × Nat)) (i j : Nat), lap w (a ++ b) i j = lap w a i j + lap w b i j
  | [], b, i, j => by show lap w b i j = 0 + lap w b i j; omega
  | e :: a, b, i, j => by show ed _ _ i j + lap w (a ++ b) i j = ed _ _ i j + lap w a i j + lap w b i j; rw [lap_cat w a b]; omega
theorem lab_id (n : Nat) : Lab n fun i => i := ⟨fun _ h => h, fun _ _ => rfl⟩
theorem cnt_id : ∀ n, cnt (fun i => i) n = n
  | 0 => rfl
  | n + 1 => by
    show cnt _ n + (if Rep (fun i => i) n then 1 else 0) = n + 1
    rw [cnt_id n, if_pos (show Rep (fun i => i) n from rfl)]
theorem okp_cat {n : Nat} {a b : List (Nat × Nat)} : Okp n (a ++ b) ↔ Okp n a ∧ Okp n b :=
  ⟨fun h => ⟨fun e he => h e (List.mem_append_left _ he), fun e he => h e (List.mem_append_right _ he)⟩, fun h e he => (List.mem_append.1 he).elim (h.1 e) (h.2 e)⟩
/-- In whatever order the pairs stand. -/
theorem trs_move {p : Nat} {a b : List (Nat × Nat)} {e : Nat × Nat} (h : Okp (p + 1) (a ++ e :: b)) : trs (fun i => i) (a ++ e :: b) p = trs (fun i => i) (e :: (a ++ b)) p := by
  have h' : Okp (p + 1) (e :: (a ++ b)) := fun x hx => h x (by
    rw [List.mem_cons, List.mem_append] at hx
    rw [List.mem_append, List.mem_cons]
    rcases hx with hx | hx | hx
    · exact .inr (.inl hx)
    · exact .inl hx
    · exact .inr (.inr hx))
  have e1 := trees_dt (a ++ e :: b) (fun i => i) p 0 (lab_id _) h (cnt_id _) (by omega) rfl
  have e2 := trees_dt (e :: (a ++ b)) (fun i => i) p 0 (lab_id _) h' (cnt_id _) (by omega) rfl
  have : gd (fun i => i) (a ++ e :: b) 0 = gd (fun i => i) (e :: (a ++ b)) 0 := by
    funext i j
    unfold gd
    split
    · rfl
    · show _ = ed _ _ i j + lap _ (a ++ b) i j
      rw [lap_cat, lap_cat]
      show _ + (ed _ _ i j + lap _ b i j) = _
      omega
  rw [this, e2] at e1
  exact (Int.ofNat_inj.1 e1).symm
/-- What the law makes of a pair's point: b is a, and the last one is b. -/
def sq1 (a b : Nat) (x : Nat) : Nat := if x = b then a else x
def sq2 (n b : Nat) (x : Nat) : Nat := if x = n - 1 then b else x
def sqz (n a b : Nat) (x : Nat) : Nat := sq2 n b (sq1 a b x)
/-- A pair is there, or it is not and its points are one. -/
theorem trs_cut {p : Nat} {a b : List (Nat × Nat)} {e : Nat × Nat} (h : Okp (p + 2) (a ++ e :: b)) (hne : e.1 ≠ e.2) :
    trs (fun i => i) (a ++ e :: b) (p + 1) = trs (fun i => i) (a ++ b) (p + 1) + trs (fun i => i) ((rel (sqz (p + 2) e.1 e.2) (a ++ b)).filter fun x => decide (x.1 ≠ x.2)) p := by
  rw [trs_move (p := p + 1) h, trs_filter _ _ _ _ fun x _ hx => by simpa using hx]
  show (if e.1 = e.2 then _ else trs (join (fun i => i) e.1 e.2) (a ++ b) p + trs (fun i => i) (a ++ b) (p + 1)) = _
  rw [if_neg hne, Nat.add_comm]
  congr 1
  refine trs_told (fun x => x ≠ e.2) (sq2 (p + 2) e.2) (sqz (p + 2) e.1 e.2) (fun x y hx hy hxy => ?_) (a ++ b) _ _ p fun x hx => ?_
  · unfold sq2 at hxy
    split at hxy <;> split at hxy <;> first | omega | exact absurd hxy.symm hy | exact absurd hxy hx
  · have q : ∀ z, (join (fun i => i) e.1 e.2 z ≠ e.2) ∧ sqz (p + 2) e.1 e.2 z = sq2 (p + 2) e.2 (join (fun i => i) e.1 e.2 z) := fun z => by
      unfold join sqz sq1
      by_cases hz : z = e.2
      · rw [if_pos hz]; exact ⟨hne, rfl⟩
      · rw [if_neg hz]; exact ⟨hz, rfl⟩
    exact ⟨(q _).1, (q _).1, (q _).2, (q _).2⟩
theorem sqz_lt {p a b x : Nat} (ha : a < p + 2) (hb : b < p + 2) (hne : a ≠ b) (hx : x < p + 2) : sqz (p + 2) a b x < p + 1 := by
  unfold sqz sq2 sq1
  split <;> split <;> omega
/-- Kirchhoff, with a row and the same column left out. -/
theorem kir {p r : Nat} {l : List (Nat × Nat)} (h : Okp (p + 1) l) (hr : r ≤ p) : dt p (wo (lap (fun i => i) l) r r) = (trs (fun i => i) l p : Int) := by
  rw [← trees_dt l (fun i => i) p r (lab_id _) h (cnt_id _) (by omega) rfl, ← laplace p r _ hr, sg_one (k := r) (by omega) fun j hj hne => by
    show sgn (r + j) * gd _ l r r j * _ = 0
    unfold gd
    rw [if_pos (.inr rfl), un1_ne hne]; grind]
  have e1 : gd (fun i => i) l r r r = 1 := by unfold gd; rw [if_pos (.inr rfl), un1_self]
  rw [e1, sgn_add, sgn_two, Int.one_mul, Int.one_mul]
  refine dt_congr p fun i j hi hj => ?_
  unfold wo gd
  rw [if_neg fun y => y.elim (fun z => z rfl) (Mx.sk_ne r i)]
/-- Sizes. -/
theorem ed_ab {a b : Nat} (i j : Nat) : -1 ≤ ed a b i j ∧ ed a b i j ≤ 1 := by
  have u : ∀ k, un1 a k = 0 ∨ un1 a k = 1 := fun k => by unfold un1; split; exact .inr rfl; exact .inl rfl
  have v : ∀ k, un1 b k = 0 ∨ un1 b k = 1 := fun k => by unfold un1; split; exact .inr rfl; exact .inl rfl
  unfold ed
  rcases u i with h1 | h1 <;> rcases u j with h2 | h2 <;> rcases v i with h3 | h3 <;> rcases v j with h4 | h4 <;> rw [h1, h2, h3, h4] <;> decide
theorem lap_ab (w : Nat → Nat) : ∀ (l : List (Nat × Nat)) (i j : Nat), -(l.length : Int) ≤ lap w l i j ∧ lap w l i j ≤ l.length
  | [], i, j => by show -((0 : Nat) : Int) ≤ 0 ∧ (0 : Int) ≤ ((0 : Nat) : Int); omega
  | e :: l, i, j => by
    have h1 := ed_ab (a := w e.1) (b := w e.2) i j
    have h2 := lap_ab w l i j
    rw [List.length_cons]
    show _ ≤ ed _ _ i j + lap w l i j ∧ ed _ _ i j + lap w l i j ≤ _
    omega
/-- The middle: each pair stands there twice. -/
theorem lap_mid {n : Nat} : ∀ {l : List (Nat × Nat)}, Okp n l → (∀ e, e ∈ l → e.1 ≠ e.2) → (sg n fun i => lap (fun i => i) l i i) = 2 * (l.length : Int)
  | [], _, _ => sg_none n
  | e :: l, h, hd => by
    have he := h e (List.mem_cons_self ..)
    show (sg n fun i => ed e.1 e.2 i i + lap _ l i i) = _
    rw [sg_add, lap_mid (fun x hx => h x (List.mem_cons_of_mem _ hx)) fun x hx => hd x (List.mem_cons_of_mem _ hx), sg_congr (g := fun i => un1 e.1 i + un1 e.2 i) fun i _ => by
      unfold ed
      by_cases h1 : i = e.1
      · rw [h1, un1_self, un1_ne (hd e (List.mem_cons_self ..))]; rfl
      · rw [un1_ne h1]; unfold un1; split <;> decide, sg_add, sg_un1 he.1, sg_un1 he.2, List.length_cons]
    omega
/-- How many pairs two points stand in together. -/
def btw (a b : Nat) : List (Nat × Nat) → Nat
  | [] => 0
  | e :: l => btw a b l + if e.1 = a ∧ e.2 = b ∨ e.1 = b ∧ e.2 = a then 1 else 0
theorem btw_cat (a b : Nat) : ∀ (l m : List (Nat × Nat)), btw a b (l ++ m) = btw a b l + btw a b m
  | [], m => by show btw a b m = 0 + btw a b m; omega
  | e :: l, m => by show btw a b (l ++ m) + _ = btw a b l + _ + btw a b m; rw [btw_cat a b l m]; omega
theorem btw_le (a b : Nat) : ∀ l : List (Nat × Nat), btw a b l ≤ l.length
  | [] => Nat.le_refl _
  | e :: l => by
    have := btw_le a b l
    rw [List.length_cons]
    show btw a b l + (if _ then 1 else 0) ≤ _
    split <;> omega
theorem btw_lap {a b : Nat} (hne : a ≠ b) : ∀ {l : List (Nat × Nat)}, (∀ e, e ∈ l → e.1 ≠ e.2) → lap (fun i => i) l a b = -(btw a b l : Int)
  | [], _ => rfl
  | e :: l, h => by
    have he := h e (List.mem_cons_self ..)
    show ed e.1 e.2 a b + lap _ l a b = -((btw a b l + (if e.1 = a ∧ e.2 = b ∨ e.1 = b ∧ e.2 = a then 1 else 0) : Nat) : Int)
    rw [btw_lap hne fun x hx => h x (List.mem_cons_of_mem _ hx)]
    unfold ed
    by_cases c1 : a = e.1
    · rw [c1, un1_self, un1_ne he]
      by_cases c2 : b = e.2
      · rw [c2, un1_self, un1_ne he.symm, if_pos (.inl ⟨rfl, rfl⟩)]; omega
      · rw [un1_ne c2, un1_ne (fun y => hne (by rw [c1, y])), if_neg (by omega)]; omega
    · rw [un1_ne c1]
      by_cases c2 : a = e.2
      · rw [c2, un1_self]
        by_cases c3 : b = e.1
        · rw [c3, un1_self, un1_ne he, if_pos (.inr ⟨rfl, rfl⟩)]; omega
        · rw [un1_ne c3, un1_ne (fun y => hne (by rw [c2, y])), if_neg (by omega)]; omega
      · rw [un1_ne c2, if_neg (by omega)]; omega
/-- All pairs of n points, in the law's order: the last k rows of them. -/
def rowp (i : Nat) : Nat → List (Nat × Nat)
  | 0 => []
  | j + 1 => rowp i j ++ [(i, j)]
def full : Nat → List (Nat × Nat)
  | 0 => []
  | i + 1 => full i ++ rowp i i
theorem full_trs : ∀ n, n < 7 → 1 ≤ n → dt (n - 1) (wo (lap (fun i => i) (full n)) 0 0) = ((if n = 1 then 1 else n ^ (n - 2) : Nat) : Int) := by decide +kernel

end Go.Proofs.YtgfhmffkdhfoeaaDoor.Zx
