/- Plain facts on chains of rows of whole numbers: division times numbers above 0, without what divides all, and that such a chain is a chain over the rational numbers. No program is named here. -/
import Derived.Test.YtbdpcpodmmhjaaaStu
namespace Go.Proofs.Ytbdpcpodmmhjaaa.Stu
set_option linter.unusedVariables false

/-- Powers, sums. -/
def px (x : Rat) : Nat → Rat
  | 0 => 1
  | n + 1 => px x n * x
theorem px_add (x : Rat) (n : Nat) : ∀ m, px x (n + m) = px x n * px x m
  | 0 => by show px x n = px x n * 1; grind
  | m + 1 => by show px x (n + m) * x = px x n * (px x m * x); rw [px_add x n m]; grind
def sm : Nat → (Nat → Rat) → Rat
  | 0, _ => 0
  | n + 1, h => sm n h + h n
theorem sm_zero (h : Nat → Rat) : sm 0 h = 0 := rfl
theorem sm_succ (n : Nat) (h : Nat → Rat) : sm (n + 1) h = sm n h + h n := rfl
theorem sm_congr {n : Nat} {h k : Nat → Rat} (e : ∀ i, i < n → h i = k i) : sm n h = sm n k := by
  induction n with
  | zero => rfl
  | succ n ih => rw [sm_succ, sm_succ, ih fun i hi => e i (by omega), e n (by omega)]
theorem sm_first (n : Nat) (h : Nat → Rat) : sm (n + 1) h = h 0 + sm n fun i => h (i + 1) := by
  induction n with
  | zero => rw [sm_succ, sm_zero, sm_zero]; grind
  | succ n ih => rw [sm_succ, ih, sm_succ]; grind
theorem sm_times (c : Rat) (n : Nat) (h : Nat → Rat) : (sm n fun i => c * h i) = c * sm n h := by
  induction n with
  | zero => rw [sm_zero, sm_zero]; grind
  | succ n ih => rw [sm_succ, sm_succ, ih]; grind
theorem sm_sub (n : Nat) (h k : Nat → Rat) : (sm n fun i => h i - k i) = sm n h - sm n k := by
  induction n with
  | zero => rw [sm_zero, sm_zero, sm_zero]; grind
  | succ n ih => rw [sm_succ, sm_succ, sm_succ, ih]; grind
theorem sm_add (n : Nat) (h k : Nat → Rat) : (sm n fun i => h i + k i) = sm n h + sm n k := by
  induction n with
  | zero => rw [sm_zero, sm_zero, sm_zero]; grind
  | succ n ih => rw [sm_succ, sm_succ, sm_succ, ih]; grind
theorem sm_none (n : Nat) : sm n (fun _ => 0) = 0 := by
  induction n with
  | zero => rfl
  | succ n ih => rw [sm_succ, ih]; grind
theorem sm_from (a : Nat) (h : Nat → Rat) : ∀ n, (sm (a + n) fun i => if a ≤ i then h (i - a) else 0) = sm n h
  | 0 => by
    rw [Nat.add_zero, sm_congr (k := fun _ => 0) fun i hi => if_neg (by omega), sm_none]; rfl
  | n + 1 => by
    rw [← Nat.add_assoc, sm_succ, sm_from a h n, if_pos (by omega), show a + n - a = n by omega]; rfl

/-- The value of a row of whole numbers. -/
def iv (l : List Int) (x : Rat) : Rat := rv (l.map fun z : Int => (z : Rat)) x
theorem iv_nil (x : Rat) : iv [] x = 0 := rfl
theorem iv_cons (a : Int) (l : List Int) (x : Rat) : iv (a :: l) x = a + x * iv l x := rfl
theorem iv_sum : ∀ (l : List Int) (x : Rat), iv l x = sm l.length fun i => (l.getD i 0 : Int) * px x i
  | [], x => rfl
  | a :: l, x => by
    rw [iv_cons, iv_sum l x, List.length_cons, sm_first, ← sm_times]
    rw [show ((a :: l).getD 0 0 : Int) = a from rfl]
    have : (sm l.length fun i => x * (((l.getD i 0 : Int) : Rat) * px x i)) = sm l.length fun i => (((a :: l).getD (i + 1) 0 : Int) : Rat) * px x (i + 1) := sm_congr fun i _ => by
      rw [show ((a :: l).getD (i + 1) 0 : Int) = l.getD i 0 by simp]
      show _ = _ * (px x i * x)
      grind
    rw [this]
    show _ = (a : Rat) * 1 + _
    grind
theorem iv_row (n : Nat) (h : Nat → Int) (x : Rat) : iv ((List.range n).map h) x = sm n fun i => (h i : Rat) * px x i := by
  rw [iv_sum, List.length_map, List.length_range]
  exact sm_congr fun i hi => by rw [show ((List.range n).map h).getD i 0 = h i by simp [hi]]
theorem iv_snoc (l : List Int) (a : Int) (x : Rat) : iv (l ++ [a]) x = iv l x + a * px x l.length := by
  rw [iv_sum, iv_sum, List.length_append, List.length_singleton, sm_succ]
  rw [show ((l ++ [a]).getD l.length 0 : Int) = a by simp]
  congr 1
  exact sm_congr fun i hi => by rw [show ((l ++ [a]).getD i 0 : Int) = l.getD i 0 by simp [hi, List.getElem?_append]]
theorem iv_zeros : ∀ (n : Nat) (x : Rat), iv (List.replicate n 0) x = 0
  | 0, x => rfl
  | n + 1, x => by rw [List.replicate_succ, iv_cons, iv_zeros n x]; grind
theorem iv_scale (c : Int) : ∀ (l : List Int) (x : Rat), iv (l.map (· * c)) x = c * iv l x
  | [], x => by show (0 : Rat) = c * 0; grind
  | a :: l, x => by rw [List.map_cons, iv_cons, iv_cons, iv_scale c l x]; grind
theorem iv_neg : ∀ (l : List Int) (x : Rat), iv (l.map (- ·)) x = -(iv l x)
  | [], x => by show (0 : Rat) = -0; grind
  | a :: l, x => by rw [List.map_cons, iv_cons, iv_cons, iv_neg l x]; grind
theorem iv_set : ∀ (l : List Int) (k : Nat) (a : Int) (x : Rat), k < l.length → iv (l.set k a) x = iv l x + ((a - l.getD k 0 : Int) : Rat) * px x k
  | [], _, _, _, h => absurd h (by simp)
  | b :: l, 0, a, x, _ => by
    show (a : Rat) + x * iv l x = _ + x * iv l x + ((a - b : Int) : Rat) * 1
    grind
  | b :: l, k + 1, a, x, h => by
    have := iv_set l k a x (by simpa using h)
    show (b : Rat) + x * iv (l.set k a) x = (b : Rat) + x * iv l x + ((a - ((b :: l).getD (k + 1) 0) : Int) : Rat) * (px x k * x)
    rw [this, show ((b :: l).getD (k + 1) 0 : Int) = l.getD k 0 by simp]
    grind

/-- Without noughts at the end. -/
def tm (l : List Int) : List Int := (l.reverse.dropWhile (· == 0)).reverse
theorem tm_zero (l : List Int) : tm (l ++ [0]) = tm l := by simp [tm]
theorem tm_not (l : List Int) {a : Int} (h : a ≠ 0) : tm (l ++ [a]) = l ++ [a] := by simp [tm, h]
theorem tm_nil : tm [] = [] := rfl
/-- The last one. -/
def tp (l : List Int) : Int := l.getD (l.length - 1) 0
theorem tp_snoc (l : List Int) (a : Int) : tp (l ++ [a]) = a := by simp [tp]
/-- No nought at the end. -/
def Tp (l : List Int) : Prop := l ≠ [] → tp l ≠ 0
theorem snoc_or (l : List Int) : l = [] ∨ ∃ m a, l = m ++ [a] := by
  rcases List.eq_nil_or_concat l with h | ⟨m, a, h⟩
  · exact .inl h
  · exact .inr ⟨m, a, by rw [h, List.concat_eq_append]⟩
theorem tm_ind (P : List Int → Prop) (h0 : P []) (hz : ∀ l, P l → P (l ++ [0])) (hn : ∀ l a, a ≠ 0 → P (l ++ [a])) : ∀ l, P l := by
  have : ∀ n (l : List Int), l.length = n → P l := fun n => by
    induction n with
    | zero => intro l h; rw [List.eq_nil_of_length_eq_zero h]; exact h0
    | succ n ih =>
      intro l h
      rcases snoc_or l with rfl | ⟨m, a, rfl⟩
      · exact h0
      · by_cases ha : a = 0
        · subst ha; exact hz m (ih m (by simpa using h))
        · exact hn m a ha
  exact fun l => this _ l rfl
theorem tm_facts (l : List Int) : Tp (tm l) ∧ (tm l).length ≤ l.length ∧ ∀ x, iv (tm l) x = iv l x := by
  induction l using tm_ind with
  | h0 => exact ⟨fun h => absurd rfl h, Nat.le_refl _, fun _ => rfl⟩
  | hz l ih => rw [tm_zero]; exact ⟨ih.1, by simp; omega, fun x => by rw [ih.2.2, iv_snoc]; grind⟩
  | hn l a ha => rw [tm_not l ha]; exact ⟨fun _ => by rw [tp_snoc]; exact ha, Nat.le_refl _, fun _ => rfl⟩
theorem tm_tp {l : List Int} (h : Tp l) : tm l = l := by
  rcases snoc_or l with rfl | ⟨m, a, rfl⟩
  · rfl
  · have := h (by simp)
    rw [tp_snoc] at this
    exact tm_not m this

/-- What divides all. -/
def gcl (l : List Int) : Int := l.foldl (fun g x => (Int.gcd g x : Int)) 0
theorem gcl_from : ∀ (l : List Int) (g : Int), 0 ≤ g → 0 ≤ l.foldl (fun g x => (Int.gcd g x : Int)) g ∧ l.foldl (fun g x => (Int.gcd g x : Int)) g ∣ g ∧ ∀ x ∈ l, l.foldl (fun g x => (Int.gcd g x : Int)) g ∣ x
  | [], g, h => ⟨h, Int.dvd_refl _, fun x hx => by cases hx⟩
  | a :: l, g, h => by
    obtain ⟨h1, h2, h3⟩ := gcl_from l (Int.gcd g a : Int) (by omega)
    refine ⟨h1, Int.dvd_trans h2 (Int.gcd_dvd_left g a), fun x hx => ?_⟩
    rcases List.mem_cons.1 hx with rfl | hx
    · exact Int.dvd_trans h2 (Int.gcd_dvd_right g x)
    · exact h3 x hx
theorem gcl_nn (l : List Int) : 0 ≤ gcl l := (gcl_from l 0 (Int.le_refl _)).1
theorem gcl_dvd (l : List Int) {x : Int} (h : x ∈ l) : gcl l ∣ x := (gcl_from l 0 (Int.le_refl _)).2.2 x h
theorem tp_mem {l : List Int} (h : l ≠ []) : tp l ∈ l := by
  rcases snoc_or l with rfl | ⟨m, a, rfl⟩
  · exact absurd rfl h
  · rw [tp_snoc]; simp
theorem gcl_pos {l : List Int} (h : l ≠ []) (t : Tp l) : 0 < gcl l := by
  have h1 := gcl_nn l
  have h2 := gcl_dvd l (tp_mem h)
  rcases Int.lt_or_eq_of_le h1 with h3 | h3
  · exact h3
  · rw [← h3] at h2
    exact absurd (Int.zero_dvd.1 h2) (t h)
/-- Without noughts at the end, and without what divides all. -/
def pl (l : List Int) : List Int := (tm l).map fun x => x.tdiv (gcl (tm l))
theorem pl_len (l : List Int) : (pl l).length = (tm l).length := List.length_map ..
theorem pl_nil {l : List Int} : pl l = [] ↔ tm l = [] := by unfold pl; simp
theorem map_cancel (l : List Int) (g : Int) (h : ∀ x ∈ l, g ∣ x) : (l.map fun x => x.tdiv g).map (· * g) = l := by
  rw [List.map_map]
  conv => rhs; rw [← List.map_id l]
  exact List.map_congr_left fun x hx => Int.tdiv_mul_cancel (h x hx)
theorem pl_val (l : List Int) (h : tm l ≠ []) : 0 < gcl (tm l) ∧ Tp (pl l) ∧ ∀ x, iv l x = gcl (tm l) * iv (pl l) x := by
  obtain ⟨h1, h2, h3⟩ := tm_facts l
  have hp := gcl_pos h h1
  have hc := map_cancel (tm l) (gcl (tm l)) fun x hx => gcl_dvd _ hx
  refine ⟨hp, fun h0 => ?_, fun x => ?_⟩
  · intro e
    apply h1 h
    have : tp (tm l) = tp (pl l) * gcl (tm l) := by
      conv => lhs; rw [← hc]
      unfold tp
      rw [List.length_map]
      show _ = ((pl l).getD ((pl l).length - 1) 0) * _
      rw [show ((tm l).map fun x => x.tdiv (gcl (tm l))) = pl l from rfl, List.getD_eq_getElem?_getD, List.getElem?_map, List.getD_eq_getElem?_getD]
      rcases h4 : (pl l)[(pl l).length - 1]? with _ | z
      · simp
      · simp
    rw [this, e, Int.zero_mul]
  · rw [← h3 x]
    conv => lhs; rw [← hc]
    rw [iv_scale]; rfl

/-- The sign of a whole number, its size. -/
def az (n : Int) : Int := if n < 0 then -n else n
theorem az_pos {n : Int} (h : n ≠ 0) : 0 < az n := by unfold az; split <;> omega
/-- What is taken: the last one, with the divisor's sign. -/
def tq (f g : List Int) : Int := if tp g < 0 then -(tp f) else tp f
theorem tq_lead (f g : List Int) : az (tp g) * tp f = tq f g * tp g := by
  unfold az tq; split
  · rw [Int.neg_mul, Int.neg_mul, Int.mul_comm]
  · rw [Int.mul_comm]
/-- One step of a division. -/
def nx (f g : List Int) : List Int := (List.range (f.length - 1)).map fun i => f.getD i 0 * az (tp g) - (if f.length - 1 - (g.length - 1) ≤ i then tq f g * g.getD (i - (f.length - 1 - (g.length - 1))) 0 else 0)
theorem nx_len (f g : List Int) : (nx f g).length = f.length - 1 := by unfold nx; rw [List.length_map, List.length_range]
theorem nx_val (f g : List Int) (hg : g ≠ []) (h : g.length ≤ f.length) (x : Rat) :
    (az (tp g) : Rat) * iv f x = tq f g * px x (f.length - g.length) * iv g x + iv (nx f g) x := by
  have g0 := List.length_pos_iff.2 hg
  obtain ⟨n, hn⟩ : ∃ n, g.length = n + 1 := ⟨g.length - 1, by omega⟩
  obtain ⟨a, ha⟩ : ∃ a, f.length = a + n + 1 := ⟨f.length - g.length, by omega⟩
  have e1 := tq_lead f g
  unfold nx
  rw [iv_row, iv_sum f, iv_sum g, hn, ha, show a + n + 1 - (n + 1) = a by omega, show a + n + 1 - 1 - (n + 1 - 1) = a by omega, show a + n + 1 - 1 = a + n by omega, sm_succ, sm_succ]
  have e2 : (sm (a + n) fun i => ((f.getD i 0 * az (tp g) - (if a ≤ i then tq f g * g.getD (i - a) 0 else 0) : Int) : Rat) * px x i) =
      (az (tp g) : Rat) * (sm (a + n) fun i => ((f.getD i 0 : Int) : Rat) * px x i) - (tq f g : Rat) * px x a * sm n fun i => ((g.getD i 0 : Int) : Rat) * px x i := by
    rw [← sm_times, ← sm_times, ← sm_from a (fun i => (tq f g : Rat) * px x a * (((g.getD i 0 : Int) : Rat) * px x i)) n, ← sm_sub]
    refine sm_congr fun i hi => ?_
    by_cases h1 : a ≤ i
    · rw [if_pos h1, if_pos h1]
      have := px_add x a (i - a)
      rw [show a + (i - a) = i by omega] at this
      rw [this]
      grind
    · rw [if_neg h1, if_neg h1]; grind
  rw [e2]
  have e3 : ((f.getD (a + n) 0 : Int)) = tp f := by unfold tp; rw [ha]; rfl
  have e4 : ((g.getD n 0 : Int)) = tp g := by unfold tp; rw [hn]; rfl
  rw [e3, e4, px_add]
  have e5 : (az (tp g) : Rat) * (tp f : Rat) = (tq f g : Rat) * (tp g : Rat) := by
    rw [← Rat.intCast_mul, ← Rat.intCast_mul, e1]
  generalize (sm (a + n) fun i => ((f.getD i 0 : Int) : Rat) * px x i) = s1 at *
  generalize (sm n fun i => ((g.getD i 0 : Int) : Rat) * px x i) = s2 at *
  clear e2 e3 e4 e1
  grind
/-- What is counted in that step. -/
def qn (Q f g : List Int) : List Int := (Q.map (· * az (tp g))).set (f.length - g.length) ((Q.map (· * az (tp g))).getD (f.length - g.length) 0 + tq f g)
theorem qn_len (Q f g : List Int) : (qn Q f g).length = Q.length := by unfold qn; rw [List.length_set, List.length_map]
theorem qn_val (Q f g : List Int) (h : f.length - g.length < Q.length) (x : Rat) : iv (qn Q f g) x = az (tp g) * iv Q x + tq f g * px x (f.length - g.length) := by
  unfold qn
  rw [iv_set _ _ _ _ (by rw [List.length_map]; exact h), iv_scale]
  grind
/-- All steps. -/
def spl : Nat → List Int → List Int → List Int → List Int × List Int
  | 0, _, f, Q => (Q, f)
  | k + 1, g, f, Q => if g.length ≤ f.length then spl k g (nx f g) (qn Q f g) else (Q, f)
theorem spl_val : ∀ (k : Nat) (g f Q : List Int), g ≠ [] → tp g ≠ 0 → f.length ≤ k → f.length ≤ Q.length → (∃ c : Rat, 0 < c ∧ ∀ x, c * (iv f x + iv Q x * iv g x) = iv (spl k g f Q).1 x * iv g x + iv (spl k g f Q).2 x) ∧ (spl k g f Q).2.length < g.length ∧ (spl k g f Q).2.length ≤ f.length ∧ (spl k g f Q).1.length = Q.length
  | 0, g, f, Q, hg, ht, hk, _ => ⟨⟨1, by decide, fun x => by show (1 : Rat) * (iv f x + iv Q x * iv g x) = iv Q x * iv g x + iv f x; grind⟩, by
      have := List.length_pos_iff.2 hg
      show f.length < _; omega, Nat.le_refl _, rfl⟩
  | k + 1, g, f, Q, hg, ht, hk, hq => by
    rw [spl]
    have g0 := List.length_pos_iff.2 hg
    by_cases h : g.length ≤ f.length
    · rw [if_pos h]
      obtain ⟨⟨c, hc, he⟩, h2, h3, h4⟩ := spl_val k g (nx f g) (qn Q f g) hg ht (by rw [nx_len]; omega) (by rw [nx_len, qn_len]; omega)
      have hz := az_pos ht
      refine ⟨⟨c * az (tp g), Rat.mul_pos hc (Rat.intCast_pos.2 hz), fun x => ?_⟩, h2, by rw [nx_len] at h3; omega, by rw [h4, qn_len]⟩
      rw [← he x, qn_val Q f g (by omega)]
      have := nx_val f g hg h x
      generalize iv (nx f g) x = r at *
      generalize iv f x = u at *
      clear he
      grind
    · rw [if_neg h]
      exact ⟨⟨1, by decide, fun x => by show (1 : Rat) * (iv f x + iv Q x * iv g x) = iv Q x * iv g x + iv f x; grind⟩, by show f.length < _; omega, Nat.le_refl _, rfl⟩
/-- How often one goes into another one, and what is left. -/
def dq (f g : List Int) : List Int := pl (spl f.length g f (List.replicate 8 0)).1
def dr (f g : List Int) : List Int := pl (spl f.length g f (List.replicate 8 0)).2
/-- c times the first one is a times how often the second one goes, and e times what is left: all three are above 0. -/
theorem split_val (f g : List Int) (hg : g ≠ []) (ht : Tp g) (hf : f.length ≤ 8) :
    (dr f g).length < g.length ∧ (dr f g).length ≤ f.length ∧ Tp (dr f g) ∧ Tp (dq f g) ∧ ∃ c a e : Rat, 0 < c ∧ 0 < a ∧ 0 < e ∧ ∀ x, c * iv f x = a * iv (dq f g) x * iv g x + e * iv (dr f g) x := by
  obtain ⟨⟨c, hc, he⟩, h2, h3, h4⟩ := spl_val f.length g f (List.replicate 8 0) hg (ht hg) (Nat.le_refl _) (by simpa using hf)
  have tpl : ∀ l, Tp (pl l) := fun l => by
    by_cases h : tm l = []
    · intro h0; exact absurd (pl_nil.2 h) h0
    · exact (pl_val l h).2.1
  have lpl : ∀ l, (pl l).length ≤ l.length := fun l => by rw [pl_len]; exact (tm_facts l).2.1
  have any : ∀ l : List Int, ∃ k : Rat, 0 < k ∧ ∀ x, iv l x = k * iv (pl l) x := fun l => by
    by_cases h : tm l = []
    · exact ⟨1, by decide, fun x => by rw [← (tm_facts l).2.2 x, h, pl_nil.2 h, iv_nil]; grind⟩
    · obtain ⟨g1, _, g3⟩ := pl_val l h
      exact ⟨gcl (tm l), Rat.intCast_pos.2 g1, g3⟩
  refine ⟨Nat.lt_of_le_of_lt (lpl _) h2, Nat.le_trans (lpl _) h3, tpl _, tpl _, ?_⟩
  unfold dr dq
  generalize (spl f.length g f (List.replicate 8 0)).2 = r at *
  generalize (spl f.length g f (List.replicate 8 0)).1 = Q at *
  obtain ⟨k1, p1, v1⟩ := any Q
  obtain ⟨k2, p2, v2⟩ := any r
  refine ⟨c, k1, k2, hc, p1, p2, fun x => ?_⟩
  have := he x
  rw [iv_zeros] at this
  rw [← v1, ← v2, ← this]; grind
/-- The members of a chain behind the second one. -/
def tl : Nat → List Int → List Int → List (List Int)
  | 0, _, _ => []
  | k + 1, a, b => if dr a b = [] then [] else (dr a b).map (- ·) :: tl k b ((dr a b).map (- ·))
def rl (l : List Int) : List Rat := l.map fun z : Int => (z : Rat)
theorem rl_val (l : List Int) (x : Rat) : rv (rl l) x = iv l x := rfl
theorem tp_neg (l : List Int) : tp (l.map (- ·)) = -(tp l) := by
  rcases snoc_or l with rfl | ⟨m, a, rfl⟩
  · rfl
  · rw [List.map_append, List.map_cons, List.map_nil, tp_snoc, tp_snoc]
theorem Tp.neg {l : List Int} (h : Tp l) : Tp (l.map (- ·)) := fun h0 => by
  rw [tp_neg]
  have := h (by simpa using h0)
  omega
/-- If the last one is a number, it is a chain. -/
theorem tl_ch : ∀ (k : Nat) (a b : List Int), b ≠ [] → Tp b → b.length ≤ k → a.length ≤ 8 → b.length ≤ 8 → ((b :: tl k a b).getLast?.getD []).length = 1 → Ch (rl a) (rl b) ((tl k a b).map rl)
  | 0, a, b, hb, _, hk, _, _, _ => absurd (List.length_pos_iff.2 hb) (by omega)
  | k + 1, a, b, hb, tb, hk, la, lb, hl => by
    rw [tl] at hl ⊢
    obtain ⟨h1, h2, h3, _, c, u, e, hc, hu, he, hv⟩ := split_val a b hb tb la
    have hsc : ∀ x, rv ((dq a b).map fun z : Int => u * (z : Rat)) x = u * iv (dq a b) x := fun x => by
      generalize dq a b = l
      induction l with
      | nil => show (0 : Rat) = u * 0; grind
      | cons z l ih =>
        show u * (z : Rat) + x * rv (l.map fun z : Int => u * (z : Rat)) x = u * ((z : Rat) + x * iv l x)
        rw [ih]; grind
    by_cases h0 : dr a b = []
    · rw [if_pos h0] at hl ⊢
      simp at hl
      obtain ⟨z, rfl⟩ : ∃ z, b = [z] := by
        match b, hl with
        | [z], _ => exact ⟨z, rfl⟩
      have hz : z ≠ 0 := tb (by simp)
      exact Ch.last _ _ (c := (z : Rat)) (fun e => hz (Rat.intCast_eq_zero_iff.1 e)) fun x => by
        show (z : Rat) + x * 0 = z
        grind
    · rw [if_neg h0] at hl ⊢
      have hne : (dr a b).map (- ·) ≠ [] := by simpa using h0
      have hlen : ((dr a b).map (- ·)).length = (dr a b).length := List.length_map ..
      have ih := tl_ch k b ((dr a b).map (- ·)) hne h3.neg (by rw [hlen]; omega) lb (by rw [hlen]; omega) (by
        rw [List.getLast?_cons_cons] at hl
        exact hl)
      rw [List.map_cons]
      refine Ch.step ((dq a b).map fun z : Int => u * (z : Rat)) hc he (fun x => ?_) ih
      rw [hsc, rl_val, rl_val, rl_val, iv_neg, hv x]
      grind

end Go.Proofs.Ytbdpcpodmmhjaaa.Stu
