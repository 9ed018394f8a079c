/- Plain facts on trees of points and pairs (Kirchhoff): choices of pairs that hang all points together are a determinant. No program is named here. -/
import Derived.Test.YtgfhmffkdhfoeaaDoorMatLt
namespace Go.Proofs.YtgfhmffkdhfoeaaDoor.Zx
set_option linter.unusedVariables false

/-- A row with one number. -/
def un1 (k : Nat) : Nat → Int := fun j => if j = k then 1 else 0
/-- What a pair adds. -/
def ed (a b : Nat) : Nat → Nat → Int := fun i j => (un1 a i - un1 b i) * (un1 a j - un1 b j)
/-- The matrix of points and pairs, the points by what they are told to be. -/
def lap (w : Nat → Nat) : List (Nat × Nat) → Nat → Nat → Int
  | [], _, _ => 0
  | e :: l, i, j => ed (w e.1) (w e.2) i j + lap w l i j
theorem ed_same (a i j : Nat) : ed a a i j = 0 := by unfold ed; grind
theorem ed_flip (a b i j : Nat) : ed a b i j = ed a b j i := by unfold ed; grind
theorem lap_flip (w : Nat → Nat) : ∀ (l : List (Nat × Nat)) (i j : Nat), lap w l i j = lap w l j i
  | [], _, _ => rfl
  | e :: l, i, j => by show ed _ _ i j + lap w l i j = ed _ _ j i + lap w l j i; rw [ed_flip, lap_flip w l i j]
/-- The points that stand for themselves. -/
def Rep (w : Nat → Nat) (i : Nat) : Prop := w i = i
instance (w : Nat → Nat) (i : Nat) : Decidable (Rep w i) := inferInstanceAs (Decidable (_ = _))
/-- All pairs are of points. -/
def Okp (n : Nat) (l : List (Nat × Nat)) : Prop := ∀ e, e ∈ l → e.1 < n ∧ e.2 < n
structure Lab (n : Nat) (w : Nat → Nat) : Prop where
  lt : ∀ i, i < n → w i < n
  rep : ∀ i, i < n → w (w i) = w i
theorem un1_self (k : Nat) : un1 k k = 1 := if_pos rfl
theorem un1_ne {k j : Nat} (h : j ≠ k) : un1 k j = 0 := if_neg h
/-- With what does not stand for itself there is nothing. -/
theorem lap_out {n : Nat} {w : Nat → Nat} (hw : Lab n w) : ∀ {l : List (Nat × Nat)}, Okp n l → ∀ {i : Nat}, ¬ Rep w i → ∀ j, lap w l i j = 0
  | [], _, _, _, _ => rfl
  | e :: l, h, i, hi, j => by
    show ed (w e.1) (w e.2) i j + lap w l i j = 0
    have he := h e (List.mem_cons_self ..)
    rw [lap_out hw (fun e' he' => h e' (List.mem_cons_of_mem _ he')) hi j]
    unfold ed
    rw [un1_ne fun e1 => hi (by show w i = i; rw [e1, hw.rep _ he.1]), un1_ne fun e1 => hi (by show w i = i; rw [e1, hw.rep _ he.2])]
    grind
theorem sg_un1 {n k : Nat} (h : k < n) : (sg n fun j => un1 k j) = 1 := by rw [sg_one h fun i _ hi => un1_ne hi, un1_self]
theorem lap_sum {n : Nat} {w : Nat → Nat} (hw : Lab n w) : ∀ {l : List (Nat × Nat)}, Okp n l → ∀ i, (sg n fun j => lap w l i j) = 0
  | [], _, i => sg_none n
  | e :: l, h, i => by
    have he := h e (List.mem_cons_self ..)
    have ih := lap_sum hw (l := l) (fun e' he' => h e' (List.mem_cons_of_mem _ he')) i
    show (sg n fun j => ed (w e.1) (w e.2) i j + lap w l i j) = 0
    rw [sg_add, ih]
    have : (sg n fun j => ed (w e.1) (w e.2) i j) = (un1 (w e.1) i - un1 (w e.2) i) * ((sg n fun j => un1 (w e.1) j) + (-1) * sg n fun j => un1 (w e.2) j) := by
      rw [← sg_times n (-1), ← sg_add, ← sg_times]
      exact sg_congr fun j _ => by unfold ed; grind
    rw [this, sg_un1 (hw.lt _ he.1), sg_un1 (hw.lt _ he.2)]; grind

/-- The matrix with the points that don't stand for themselves, and one more, taken out. -/
def gd (w : Nat → Nat) (l : List (Nat × Nat)) (r : Nat) : Nat → Nat → Int := fun i j => if ¬ Rep w i ∨ i = r then un1 i j else lap w l i j
/-- With nothing taken out but what does not stand for itself. -/
def gk (w : Nat → Nat) (l : List (Nat × Nat)) : Nat → Nat → Int := fun i j => if ¬ Rep w i then un1 i j else lap w l i j
theorem gd_setr (w : Nat → Nat) (l : List (Nat × Nat)) (r : Nat) : gd w l r = setr r (un1 r) (gk w l) := by
  funext i j
  unfold gd setr gk
  by_cases h : i = r
  · rw [if_pos (.inr h), if_pos h, h]
  · rw [if_neg h]
    by_cases h2 : ¬ Rep w i
    · rw [if_pos (.inl h2), if_pos h2]
    · rw [if_neg (fun e => e.elim h2 h), if_neg h2]
/-- Whichever point is taken out. -/
theorem gd_any {n : Nat} {w : Nat → Nat} (hw : Lab n w) {l : List (Nat × Nat)} (hl : Okp n l) {r s : Nat} (hr : r < n) (hs : s < n) (rr : Rep w r) (rs : Rep w s) : dt n (gd w l r) = dt n (gd w l s) := by
  obtain ⟨p, rfl⟩ : ∃ p, n = p + 1 := ⟨n - 1, by omega⟩
  have hsym : ∀ i j, gk w l i j = gk w l j i := fun i j => by
    unfold gk
    by_cases h1 : ¬ Rep w i
    · rw [if_pos h1]
      by_cases h2 : ¬ Rep w j
      · rw [if_pos h2]; unfold un1; by_cases e : i = j
        · rw [e]
        · rw [if_neg (fun h => e h.symm), if_neg e]
      · rw [if_neg h2, lap_flip, lap_out hw hl h1, un1_ne fun e => h2 (by rw [e]; exact h1)]
    · rw [if_neg h1]
      by_cases h2 : ¬ Rep w j
      · rw [if_pos h2, lap_flip, lap_out hw hl h2, un1_ne fun e => h1 (by rw [e]; exact h2)]
      · rw [if_neg h2, lap_flip]
  -- a row with one number, wherever
  have move : ∀ a b, a < p + 1 → b < p + 1 → Rep w a → Rep w b → dt (p + 1) (setr a (un1 b) (gk w l)) = dt (p + 1) (setr a (un1 a) (gk w l)) := fun a b ha hb ra rb => by
    have h1 := dt_rlin (p + 1) a ha 1 (-1) (un1 b) (un1 a) (gk w l)
    have h2 : dt (p + 1) (setr a (fun j => 1 * un1 b j + -1 * un1 a j) (gk w l)) = 0 := by
      refine dt_null (y := fun j => if Rep w j then 1 else 0) (c := a) ha (by show (if Rep w a then (1 : Int) else 0) ≠ 0; rw [if_pos ra]; decide) fun i hi => ?_
      unfold setr
      by_cases e : i = a
      · rw [sg_congr (g := fun j => un1 b j * (if Rep w j then 1 else 0) + (-1) * (un1 a j * (if Rep w j then 1 else 0))) fun j _ => by rw [if_pos e]; grind, sg_add, sg_times]
        rw [sg_one hb fun j _ hj => by rw [un1_ne hj]; grind, sg_one ha fun j _ hj => by rw [un1_ne hj]; grind, un1_self, un1_self, if_pos ra, if_pos rb]; grind
      · by_cases hk : Rep w i
        · rw [sg_congr (g := fun j => lap w l i j) fun j _ => by
            rw [if_neg e]; unfold gk; rw [if_neg (fun h => h hk)]
            by_cases hj : Rep w j
            · rw [if_pos hj]; grind
            · rw [lap_flip, lap_out hw hl hj]; grind]
          exact lap_sum hw hl i
        · rw [sg_congr (g := fun _ => 0) fun j _ => by
            rw [if_neg e]; unfold gk; rw [if_pos hk]
            by_cases hj : j = i
            · rw [hj, if_neg hk]; grind
            · rw [un1_ne hj]; grind]
          exact sg_none _
    rw [h2] at h1
    omega
  have turn : ∀ a b, a < p + 1 → b < p + 1 → dt (p + 1) (setr a (un1 b) (gk w l)) = sgn (a + b) * dt p (wo (gk w l) a b) := fun a b ha hb => by
    rw [← laplace_row p a (un1 b) (gk w l) (by omega), sg_one hb fun j _ hj => by rw [un1_ne hj]; grind, un1_self]; grind
  rw [gd_setr, gd_setr, ← move r s hr hs rr rs, ← move s r hs hr rs rr, turn r s hr hs, turn s r hs hr, Nat.add_comm s r]
  congr 1
  rw [← dt_flip p (wo (gk w l) s r)]
  exact dt_congr p fun i j _ _ => hsym _ _

/-- Where a row has but its own number, its column does not matter. -/
theorem dt_own {n r : Nat} (hr : r < n) {f g : Nat → Nat → Int} (hf : ∀ j, j < n → f r j = un1 r j) (hg : ∀ j, j < n → g r j = un1 r j) (h : ∀ i j, i < n → j < n → i ≠ r → j ≠ r → f i j = g i j) : dt n f = dt n g := by
  obtain ⟨p, rfl⟩ : ∃ p, n = p + 1 := ⟨n - 1, by omega⟩
  have one : ∀ k : Nat → Nat → Int, (∀ j, j < p + 1 → k r j = un1 r j) → dt (p + 1) k = sgn (r + r) * dt p (wo k r r) := fun k hk => by
    rw [← laplace p r k (by omega), sg_one hr fun j hj hne => by rw [hk j hj, un1_ne hne]; grind, hk r hr, un1_self]; grind
  rw [one f hf, one g hg]
  congr 1
  exact dt_congr p fun i j hi hj => h _ _ (Mx.sk_lt hi) (Mx.sk_lt hj) (Mx.sk_ne r i) (Mx.sk_ne r j)

/-- Two made one: the lesser stands for both. -/
def join (w : Nat → Nat) (lo hi : Nat) : Nat → Nat := fun x => if w x = hi then lo else w x
theorem Lab.join {n : Nat} {w : Nat → Nat} (hw : Lab n w) {lo hi : Nat} (hlo : lo < n) (rlo : Rep w lo) (hne : lo ≠ hi) : Lab n (join w lo hi) :=
  ⟨fun i h => by unfold Zx.join; split; exact hlo; exact hw.lt i h, fun i h => by
    unfold Zx.join
    have r : w lo = lo := rlo
    by_cases e : w i = hi
    · rw [if_pos e, r, if_neg hne]
    · rw [if_neg e, hw.rep i h, if_neg e]⟩
theorem rep_join {n : Nat} {w : Nat → Nat} {lo hi : Nat} (rlo : Rep w lo) (rhi : Rep w hi) (hne : lo ≠ hi) (i : Nat) : Rep (join w lo hi) i ↔ Rep w i ∧ i ≠ hi := by
  unfold Rep join
  have r1 : w lo = lo := rlo
  have r2 : w hi = hi := rhi
  by_cases e : w i = hi
  · rw [if_pos e]
    constructor
    · intro h; subst h; rw [r1] at e; exact absurd e hne
    · intro h; rw [h.1] at e; exact absurd e h.2
  · rw [if_neg e]
    constructor
    · intro h; exact ⟨h, fun h2 => e (by rw [h2]; exact r2)⟩
    · exact fun h => h.1
/-- Away from both the matrix is the same. -/
theorem lap_join (w : Nat → Nat) {lo hi : Nat} : ∀ (l : List (Nat × Nat)) {i j : Nat}, i ≠ lo → i ≠ hi → j ≠ lo → j ≠ hi → lap (join w lo hi) l i j = lap w l i j
  | [], _, _, _, _, _, _ => rfl
  | e :: l, i, j, h1, h2, h3, h4 => by
    show ed (join w lo hi e.1) (join w lo hi e.2) i j + lap _ l i j = ed (w e.1) (w e.2) i j + lap w l i j
    rw [lap_join w l h1 h2 h3 h4]
    have u : ∀ x k, k ≠ lo → k ≠ hi → un1 (join w lo hi x) k = un1 (w x) k := fun x k hk1 hk2 => by
      unfold join
      by_cases e : w x = hi
      · rw [if_pos e, un1_ne hk1, e, un1_ne hk2]
      · rw [if_neg e]
    unfold ed
    rw [u _ _ h1 h2, u _ _ h1 h2, u _ _ h3 h4, u _ _ h3 h4]
/-- A pair is there, or its two points are one. -/
theorem gd_cut {n : Nat} {w : Nat → Nat} (hw : Lab n w) {l : List (Nat × Nat)} (hl : Okp n l) {e : Nat × Nat} {lo hi : Nat} (hlo : lo < n) (hhi : hi < n) (rlo : Rep w lo) (rhi : Rep w hi) (hne : lo ≠ hi)
    (he : (w e.1 = lo ∧ w e.2 = hi) ∨ (w e.1 = hi ∧ w e.2 = lo)) : dt n (gd w (e :: l) lo) = dt n (gd w l lo) + dt n (gd (join w lo hi) l lo) := by
  have hed : ∀ i j, ed (w e.1) (w e.2) i j = ed hi lo i j := fun i j => by
    rcases he with ⟨h1, h2⟩ | ⟨h1, h2⟩
    · rw [h1, h2]; unfold ed; grind
    · rw [h1, h2]
  have e1 : gd w (e :: l) lo = setr hi (fun j => gd w l lo hi j + (1 * un1 hi j + -1 * un1 lo j)) (gd w l lo) := by
    funext i j
    unfold setr
    by_cases h : i = hi
    · rw [if_pos h, h]
      unfold gd
      have hc : ¬ (¬ Rep w hi ∨ hi = lo) := fun x => x.elim (fun y => y rhi) (fun y => hne y.symm)
      rw [if_neg hc]; dsimp only; rw [if_neg hc]
      show ed (w e.1) (w e.2) hi j + lap w l hi j = _
      rw [hed]
      unfold ed
      rw [un1_self, un1_ne (fun y => hne y.symm)]; grind
    · rw [if_neg h]
      unfold gd
      by_cases h2 : ¬ Rep w i ∨ i = lo
      · rw [if_pos h2, if_pos h2]
      · rw [if_neg h2, if_neg h2]
        show ed (w e.1) (w e.2) i j + lap w l i j = _
        rw [hed]
        unfold ed
        rw [un1_ne h, un1_ne (fun y => h2 (.inr y))]; grind
  rw [e1, dt_rplus (gd w l lo) hhi, dt_rlin n hi hhi 1 (-1) (un1 hi) (un1 lo) (gd w l lo)]
  have z : dt n (setr hi (un1 lo) (gd w l lo)) = 0 := dt_rows hhi hlo (fun y => hne y.symm) fun j _ => by
    unfold setr
    rw [if_pos rfl, if_neg hne]
    unfold gd
    rw [if_pos (.inr rfl)]
  have k : dt n (setr hi (un1 hi) (gd w l lo)) = dt n (gd (join w lo hi) l lo) := by
    -- by a matrix in between: that of w with the column of lo as the other one has it
    let m : Nat → Nat → Int := fun i j => if j = lo then gd (join w lo hi) l lo i j else setr hi (un1 hi) (gd w l lo) i j
    have jhi : ¬ Rep (join w lo hi) hi := fun h => ((rep_join (n := n) rlo rhi hne hi).1 h).2 rfl
    have a1 : dt n (setr hi (un1 hi) (gd w l lo)) = dt n m := dt_own hlo (fun j _ => by unfold setr; rw [if_neg hne]; unfold gd; rw [if_pos (.inr rfl)]) (fun j _ => by
      show (if j = lo then gd (join w lo hi) l lo lo j else setr hi (un1 hi) (gd w l lo) lo j) = _
      by_cases h : j = lo
      · rw [if_pos h]; unfold gd; rw [if_pos (.inr rfl)]
      · rw [if_neg h]; unfold setr; rw [if_neg hne]; unfold gd; rw [if_pos (.inr rfl)]) (fun i j _ _ _ hj => by
      show _ = if j = lo then _ else _
      rw [if_neg hj])
    have a2 : dt n m = dt n (gd (join w lo hi) l lo) := dt_own hhi (fun j _ => by
      show (if j = lo then gd (join w lo hi) l lo hi j else setr hi (un1 hi) (gd w l lo) hi j) = _
      by_cases h : j = lo
      · rw [if_pos h]; unfold gd; rw [if_pos (.inl jhi)]
      · rw [if_neg h]; unfold setr; rw [if_pos rfl]) (fun j _ => by unfold gd; rw [if_pos (.inl jhi)]) (fun i j _ _ hi' hj => by
      show (if j = lo then gd (join w lo hi) l lo i j else setr hi (un1 hi) (gd w l lo) i j) = _
      by_cases h : j = lo
      · rw [if_pos h]
      · rw [if_neg h]
        unfold setr
        rw [if_neg hi']
        unfold gd
        have q := rep_join (n := n) rlo rhi hne i
        by_cases h2 : ¬ Rep w i ∨ i = lo
        · rw [if_pos h2, if_pos (h2.elim (fun y => .inl fun z => y (q.1 z).1) .inr)]
        · rw [if_neg h2, if_neg (fun y => y.elim (fun z => z (q.2 ⟨Classical.byContradiction fun t => h2 (.inl t), hi'⟩)) (fun z => h2 (.inr z)))]
          exact (lap_join w l (fun y => h2 (.inr y)) hi' h hj).symm)
    rw [a1, a2]
  rw [z, k]
  have s : setr hi (fun j => gd w l lo hi j) (gd w l lo) = gd w l lo := setr_self hi (gd w l lo)
  grind

/-- How many choices of pairs hang the points together without a ring. -/
def trs : (Nat → Nat) → List (Nat × Nat) → Nat → Nat
  | _, _, 0 => 1
  | _, [], _ + 1 => 0
  | w, e :: l, k + 1 => if w e.1 = w e.2 then trs w l (k + 1) else trs (join w (w e.1) (w e.2)) l k + trs w l (k + 1)
/-- How many points stand for themselves. -/
def cnt (w : Nat → Nat) : Nat → Nat
  | 0 => 0
  | n + 1 => cnt w n + if Rep w n then 1 else 0
theorem cnt_join {w : Nat → Nat} {lo hi : Nat} (rlo : Rep w lo) (rhi : Rep w hi) (hne : lo ≠ hi) : ∀ n, cnt w n = cnt (join w lo hi) n + if hi < n then 1 else 0
  | 0 => rfl
  | n + 1 => by
    have ih := cnt_join rlo rhi hne n
    show cnt w n + (if Rep w n then 1 else 0) = cnt (join w lo hi) n + (if Rep (join w lo hi) n then 1 else 0) + _
    have q := rep_join (n := n) rlo rhi hne n
    by_cases h1 : n = hi
    · rw [if_pos (by rw [h1]; exact rhi), if_neg (fun y => (q.1 y).2 h1), if_pos (by omega)]
      rw [if_neg (by omega)] at ih; omega
    · by_cases h2 : Rep w n
      · rw [if_pos h2, if_pos (q.2 ⟨h2, h1⟩)]
        by_cases h3 : hi < n
        · rw [if_pos h3] at ih; rw [if_pos (by omega)]; omega
        · rw [if_neg h3] at ih; rw [if_neg (by omega)]; omega
      · rw [if_neg h2, if_neg (fun y => h2 (q.1 y).1)]
        by_cases h3 : hi < n
        · rw [if_pos h3] at ih; rw [if_pos (by omega)]; omega
        · rw [if_neg h3] at ih; rw [if_neg (by omega)]; omega
theorem cnt_some {w : Nat → Nat} : ∀ {n k : Nat}, k ≤ cnt w n → 0 < k → ∃ i, i < n ∧ Rep w i
  | 0, k, h, h0 => by unfold cnt at h; omega
  | n + 1, k, h, h0 => by
    by_cases e : Rep w n
    · exact ⟨n, by omega, e⟩
    · have h : k ≤ cnt w n + (if Rep w n then 1 else 0) := h
      rw [if_neg e] at h
      obtain ⟨i, hi, hr⟩ := cnt_some (w := w) (n := n) (by omega : k ≤ cnt w n) h0
      exact ⟨i, by omega, hr⟩
theorem cnt_two {w : Nat → Nat} : ∀ {n r : Nat}, r < n → Rep w r → (1 < cnt w n ↔ ∃ s, s < n ∧ Rep w s ∧ s ≠ r)
  | 0, r, h, _ => absurd h (by omega)
  | n + 1, r, h, hr => by
    have aux : ∀ m, (∃ s, s < m ∧ Rep w s) → 0 < cnt w m := fun m => by
      induction m with
      | zero => rintro ⟨s, hs, _⟩; omega
      | succ m ih =>
        rintro ⟨s, hs, hs2⟩
        show 0 < cnt w m + if Rep w m then 1 else 0
        by_cases e : s = m
        · rw [if_pos (by rw [← e]; exact hs2)]; omega
        · have := ih ⟨s, by omega, hs2⟩; omega
    have no : ∀ m, (∀ s, s < m → ¬ Rep w s) → cnt w m = 0 := fun m => by
      induction m with
      | zero => intro _; rfl
      | succ m ih =>
        intro hh
        show cnt w m + (if Rep w m then 1 else 0) = 0
        rw [if_neg (hh m (by omega)), ih fun s hs => hh s (by omega)]
    show 1 < cnt w n + (if Rep w n then 1 else 0) ↔ _
    by_cases e : r = n
    · rw [if_pos (by rw [← e]; exact hr)]
      constructor
      · intro hc
        obtain ⟨s, hs, hs2⟩ := cnt_some (w := w) (n := n) (k := 1) (by omega) (by omega)
        exact ⟨s, by omega, hs2, by omega⟩
      · rintro ⟨s, hs, hs2, hs3⟩
        have := aux n ⟨s, by omega, hs2⟩
        omega
    · have ih := cnt_two (w := w) (n := n) (r := r) (by omega) hr
      by_cases e2 : Rep w n
      · rw [if_pos e2]
        constructor
        · exact fun _ => ⟨n, by omega, e2, fun y => e y.symm⟩
        · intro _
          have := aux n ⟨r, by omega, hr⟩
          omega
      · rw [if_neg e2, Nat.add_zero, ih]
        constructor
        · rintro ⟨s, hs, hs2, hs3⟩; exact ⟨s, by omega, hs2, hs3⟩
        · rintro ⟨s, hs, hs2, hs3⟩
          exact ⟨s, by
            rcases Nat.lt_or_ge s n with h | h
            · exact h
            · exfalso; exact e2 (by rw [show n = s by omega]; exact hs2), hs2, hs3⟩
/-- Kirchhoff: the choices are the determinant. -/
theorem trees_dt {n : Nat} : ∀ (l : List (Nat × Nat)) (w : Nat → Nat) (k r : Nat), Lab n w → Okp n l → cnt w n = k + 1 → r < n → Rep w r → dt n (gd w l r) = (trs w l k : Int) := by
  intro l
  have alone : ∀ (l : List (Nat × Nat)) (w : Nat → Nat) (r : Nat), cnt w n = 1 → r < n → Rep w r → dt n (gd w l r) = 1 := fun l w r hc hr rr => by
    rw [← dt_one n]
    refine dt_congr n fun i j hi hj => ?_
    have : ¬ Rep w i ∨ i = r := Classical.byContradiction fun h => by
      have := (cnt_two hr rr).2 ⟨i, hi, Classical.byContradiction fun y => h (.inl y), fun y => h (.inr y)⟩
      omega
    unfold gd
    rw [if_pos this]
    show (if j = i then (1 : Int) else 0) = if i = j then 1 else 0
    by_cases e : i = j
    · rw [if_pos e, if_pos e.symm]
    · rw [if_neg e, if_neg fun y => e y.symm]
  induction l with
  | nil =>
    intro w k r hw _ hc hr rr
    rcases k with _ | k
    · rw [alone [] w r hc hr rr]; simp [trs]
    · obtain ⟨s, hs, rs, hne⟩ := (cnt_two hr rr).1 (by omega)
      rw [dt_zrow (k := s) hs fun j _ => by unfold gd; rw [if_neg (fun y => y.elim (fun z => z rs) hne)]; rfl]
      simp [trs]
  | cons e l ih =>
    intro w k r hw ho hc hr rr
    have ho' : Okp n l := fun e' he' => ho e' (List.mem_cons_of_mem _ he')
    have he := ho e (List.mem_cons_self ..)
    rcases k with _ | k
    · rw [alone (e :: l) w r hc hr rr]; simp [trs]
    · by_cases hsame : w e.1 = w e.2
      · have : gd w (e :: l) r = gd w l r := by
          funext i j
          unfold gd
          split
          · rfl
          · show ed (w e.1) (w e.2) i j + lap w l i j = _
            rw [hsame, ed_same]; omega
        rw [this, ih w (k + 1) r hw ho' hc hr rr, trs, if_pos hsame]
      · have r1 : Rep w (w e.1) := hw.rep _ he.1
        have r2 : Rep w (w e.2) := hw.rep _ he.2
        have main : ∀ lo hi, lo < n → hi < n → Rep w lo → Rep w hi → lo ≠ hi → ((w e.1 = lo ∧ w e.2 = hi) ∨ (w e.1 = hi ∧ w e.2 = lo)) → dt n (gd w (e :: l) r) = (trs (join w lo hi) l k : Int) + (trs w l (k + 1) : Int) := fun lo hi hlo hhi rlo rhi hne hh => by
          have cj := cnt_join rlo rhi hne n
          rw [if_pos hhi] at cj
          rw [gd_any hw ho hr hlo rr rlo, gd_cut hw ho' hlo hhi rlo rhi hne hh, ih w (k + 1) lo hw ho' hc hlo rlo, ih (join w lo hi) k lo (hw.join hlo rlo hne) ho' (by omega) hlo ((rep_join (n := n) rlo rhi hne lo).2 ⟨rlo, hne⟩)]
          omega
        rw [trs, if_neg hsame]
        rw [main _ _ (hw.lt _ he.1) (hw.lt _ he.2) r1 r2 hsame (.inl ⟨rfl, rfl⟩)]; omega

end Go.Proofs.YtgfhmffkdhfoeaaDoor.Zx
