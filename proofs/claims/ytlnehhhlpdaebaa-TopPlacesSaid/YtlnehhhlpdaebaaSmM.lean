/- Plain facts on choices of rows and columns (Smith): what divides all determinants of so many rows and columns; the parts as their quotients. No program is named here. -/
import Derived.Test.YtlnehhhlpdaebaaMatSp
namespace Go.Proofs.Ytlnehhhlpdaebaa.Zx
set_option linter.unusedVariables false

/-- The determinant of some rows and as many columns, by the first row. -/
def mnr (f : Nat → Nat → Int) : List Nat → List Nat → Int
  | [], _ => 1
  | r :: rs, cs => sg cs.length fun k => sgn k * f r (cs.getD k 0) * mnr f rs (cs.take k ++ cs.drop (k + 1))
theorem mnr_nil (f : Nat → Nat → Int) (cs : List Nat) : mnr f [] cs = 1 := rfl
theorem mnr_cons (f : Nat → Nat → Int) (r : Nat) (rs cs : List Nat) : mnr f (r :: rs) cs = sg cs.length fun k => sgn k * f r (cs.getD k 0) * mnr f rs (cs.take k ++ cs.drop (k + 1)) := rfl
theorem sgn_abs (k : Nat) : (sgn k).natAbs = 1 := by unfold sgn; split <;> rfl
theorem sgn_next (k : Nat) : sgn (k + 1) = -sgn k := by
  unfold sgn
  by_cases h : k % 2 = 0
  · rw [if_pos h, if_neg (by omega)]
  · rw [if_neg h, if_pos (by omega)]; rfl
/-- All numbers of rs are less than n. -/
def Und (n : Nat) (rs : List Nat) : Prop := ∀ x, x ∈ rs → x < n
theorem Und.at {n : Nat} {rs : List Nat} (h : Und n rs) {k : Nat} (hk : k < rs.length) : rs.getD k 0 < n := by
  have e : rs.getD k 0 = rs[k] := by simp [List.getD_eq_getElem?_getD, hk]
  rw [e]; exact h _ (List.getElem_mem hk)
theorem Und.tail {n r : Nat} {rs : List Nat} (h : Und n (r :: rs)) : Und n rs := fun x hx => h x (List.mem_cons_of_mem _ hx)
theorem Und.head {n r : Nat} {rs : List Nat} (h : Und n (r :: rs)) : r < n := h r (List.mem_cons_self ..)
theorem Und.less {n : Nat} {cs : List Nat} (h : Und n cs) (k : Nat) : Und n (cs.take k ++ cs.drop (k + 1)) := fun x hx => by
  rcases List.mem_append.1 hx with hx | hx
  · exact h x (List.mem_of_mem_take hx)
  · exact h x (List.mem_of_mem_drop hx)
theorem len_less {cs : List Nat} {k : Nat} (hk : k < cs.length) : (cs.take k ++ cs.drop (k + 1)).length + 1 = cs.length := by
  rw [List.length_append, List.length_take, List.length_drop]; omega
theorem sg_bound {n B : Nat} {g : Nat → Int} (h : ∀ k, k < n → (g k).natAbs ≤ B) : ∀ t, t ≤ n → (sg t g).natAbs ≤ t * B
  | 0, _ => by rw [sg_zero]; simp
  | t + 1, ht => by
    have h1 := sg_bound h t (by omega)
    have h2 := h t (by omega)
    rw [sg_succ, Nat.add_mul, Nat.one_mul]
    omega
theorem mnr_term {n : Nat} {f : Nat → Nat → Int} (hf : ∀ i j, i < n → j < n → (f i j).natAbs ≤ 20) {r c : Nat} (hr : r < n) (hc : c < n) (k : Nat) {x : Int} {B : Nat} (hx : x.natAbs ≤ B) : (sgn k * f r c * x).natAbs ≤ 20 * B := by
  rw [Int.natAbs_mul, Int.natAbs_mul, sgn_abs, Nat.one_mul]
  exact Nat.mul_le_mul (hf r c hr hc) hx
/-- It is at most 60 times 60 and so on. -/
theorem mnr_bound {n : Nat} {f : Nat → Nat → Int} (hf : ∀ i j, i < n → j < n → (f i j).natAbs ≤ 20) : ∀ (rs cs : List Nat), Und n rs → Und n cs → cs.length ≤ 3 → (mnr f rs cs).natAbs ≤ 60 ^ rs.length
  | [], _, _, _, _ => Nat.le_refl _
  | r :: rs, cs, hr, hc, h3 => by
    rw [mnr_cons, List.length_cons, Nat.pow_succ]
    have h := sg_bound (g := fun k => sgn k * f r (cs.getD k 0) * mnr f rs (cs.take k ++ cs.drop (k + 1))) (n := cs.length) (B := 20 * 60 ^ rs.length) (fun k hk => by
      have hl := len_less hk
      exact mnr_term hf hr.head (hc.at hk) k (mnr_bound hf rs _ hr.tail (hc.less k) (by omega))) cs.length (Nat.le_refl _)
    refine Nat.le_trans h ?_
    have : cs.length * (20 * 60 ^ rs.length) ≤ 3 * (20 * 60 ^ rs.length) := Nat.mul_le_mul_right _ h3
    omega
theorem mnr_part {n : Nat} {f : Nat → Nat → Int} (hf : ∀ i j, i < n → j < n → (f i j).natAbs ≤ 20) {r : Nat} {rs cs : List Nat} (hr : Und n (r :: rs)) (hc : Und n cs) (h3 : cs.length ≤ 3) {t : Nat} (ht : t ≤ cs.length) :
    (sg t fun k => sgn k * f r (cs.getD k 0) * mnr f rs (cs.take k ++ cs.drop (k + 1))).natAbs ≤ 60 ^ (rs.length + 1) := by
  have h := sg_bound (g := fun k => sgn k * f r (cs.getD k 0) * mnr f rs (cs.take k ++ cs.drop (k + 1))) (n := cs.length) (B := 20 * 60 ^ rs.length) (fun k hk => by
    have hl := len_less hk
    exact mnr_term hf hr.head (hc.at hk) k (mnr_bound hf rs _ hr.tail (hc.less k) (by omega))) t ht
  refine Nat.le_trans h ?_
  have : t * (20 * 60 ^ rs.length) ≤ 3 * (20 * 60 ^ rs.length) := Nat.mul_le_mul_right _ (by omega)
  rw [Nat.pow_succ]
  omega

/-- The numbers below k that the set s has. -/
def bits (s : Nat) : Nat → List Nat
  | 0 => []
  | k + 1 => if s / 2 ^ k % 2 = 1 then bits s k ++ [k] else bits s k
theorem bits_und (s : Nat) : ∀ k, Und k (bits s k)
  | 0 => fun x hx => by cases hx
  | k + 1 => fun x hx => by
    unfold bits at hx
    split at hx
    · rcases List.mem_append.1 hx with h | h
      · have := bits_und s k x h; omega
      · have := List.mem_singleton.1 h; omega
    · have := bits_und s k x hx; omega
theorem bits_len (s : Nat) : ∀ k, (bits s k).length ≤ k
  | 0 => Nat.le_refl _
  | k + 1 => by
    unfold bits
    have := bits_len s k
    split
    · rw [List.length_append, List.length_singleton]; omega
    · omega
/-- Of the first t sets those that have so many of the numbers below n. -/
def chs (n many : Nat) : Nat → List (List Nat)
  | 0 => []
  | t + 1 => if (bits t n).length = many then chs n many t ++ [bits t n] else chs n many t
theorem chs_hit {n many t : Nat} (h : (bits t n).length = many) : chs n many (t + 1) = chs n many t ++ [bits t n] := by show (if _ then _ else _) = _; rw [if_pos h]
theorem chs_miss {n many t : Nat} (h : ¬ (bits t n).length = many) : chs n many (t + 1) = chs n many t := by show (if _ then _ else _) = _; rw [if_neg h]
theorem chs_len (n many : Nat) : ∀ t, (chs n many t).length ≤ t
  | 0 => Nat.le_refl _
  | t + 1 => by
    have := chs_len n many t
    by_cases h : (bits t n).length = many
    · rw [chs_hit h, List.length_append, List.length_singleton]; omega
    · rw [chs_miss h]; omega
theorem chs_mem {n many : Nat} : ∀ {t : Nat} {x : List Nat}, x ∈ chs n many t → Und n x ∧ x.length = many
  | 0, x, h => by cases h
  | t + 1, x, h => by
    by_cases e : (bits t n).length = many
    · rw [chs_hit e] at h
      rcases List.mem_append.1 h with h | h
      · exact chs_mem h
      · rw [List.mem_singleton.1 h]; exact ⟨bits_und t n, e⟩
    · rw [chs_miss e] at h; exact chs_mem h

/-- What divides all numbers of a list. -/
def gl : List Int → Nat
  | [] => 0
  | x :: l => Nat.gcd x.natAbs (gl l)
theorem gl_dvd {k : Nat} : ∀ {l : List Int}, k ∣ gl l ↔ ∀ x, x ∈ l → (k : Int) ∣ x
  | [] => ⟨fun _ x hx => (by cases hx), fun _ => ⟨0, rfl⟩⟩
  | y :: l => by
    show k ∣ Nat.gcd y.natAbs (gl l) ↔ _
    rw [Nat.dvd_gcd_iff, gl_dvd]
    constructor
    · rintro ⟨h1, h2⟩ x hx
      rcases List.mem_cons.1 hx with rfl | hx
      · exact Int.ofNat_dvd_left.2 h1
      · exact h2 x hx
    · exact fun h => ⟨Int.ofNat_dvd_left.1 (h y (List.mem_cons_self ..)), fun x hx => h x (List.mem_cons_of_mem _ hx)⟩
theorem gl_eq {l : List Int} {g : Nat} (h : ∀ k : Nat, k ∣ g ↔ ∀ x, x ∈ l → (k : Int) ∣ x) : gl l = g :=
  Nat.dvd_antisymm ((h _).2 (gl_dvd.1 (Nat.dvd_refl _))) (gl_dvd.2 ((h _).1 (Nat.dvd_refl _)))
theorem gl_snoc (l : List Int) (x : Int) : gl (l ++ [x]) = Nat.gcd (gl l) x.natAbs := gl_eq fun k => by
  rw [Nat.dvd_gcd_iff, gl_dvd]
  constructor
  · rintro ⟨h1, h2⟩ y hy
    rcases List.mem_append.1 hy with hy | hy
    · exact h1 y hy
    · rw [List.mem_singleton.1 hy]; exact Int.ofNat_dvd_left.2 h2
  · exact fun h => ⟨fun y hy => h y (List.mem_append.2 (.inl hy)), Int.ofNat_dvd_left.1 (h x (List.mem_append.2 (.inr (List.mem_singleton.2 rfl))))⟩
theorem gl_le {M : Nat} : ∀ {l : List Int}, (∀ x, x ∈ l → x.natAbs ≤ M) → gl l ≤ M
  | [], _ => Nat.zero_le _
  | y :: l, h => by
    have h1 := gl_le fun x hx => h x (List.mem_cons_of_mem y hx)
    have h2 := h y (List.mem_cons_self ..)
    show Nat.gcd y.natAbs (gl l) ≤ M
    rcases Nat.eq_zero_or_pos y.natAbs with e | e
    · rw [e, Nat.gcd_zero_left]; exact h1
    · exact Nat.le_trans (Nat.le_of_dvd e (Nat.gcd_dvd_left _ _)) h2

/-- The determinants of the rows of some choices and the columns of all of L. -/
def mns (f : Nat → Nat → Int) (L : List (List Nat)) : List (List Nat) → List Int
  | [] => []
  | r :: rs => L.map (mnr f r) ++ mns f L rs
theorem mns_snoc (f : Nat → Nat → Int) (L : List (List Nat)) : ∀ (M : List (List Nat)) (r : List Nat), mns f L (M ++ [r]) = mns f L M ++ L.map (mnr f r)
  | [], r => by show L.map (mnr f r) ++ [] = [] ++ _; rw [List.append_nil, List.nil_append]
  | m :: M, r => by show L.map (mnr f m) ++ mns f L (M ++ [r]) = L.map (mnr f m) ++ mns f L M ++ _; rw [mns_snoc f L M r, List.append_assoc]
theorem mns_mem {f : Nat → Nat → Int} {L : List (List Nat)} : ∀ {M : List (List Nat)} {x : Int}, x ∈ mns f L M ↔ ∃ r, r ∈ M ∧ ∃ c, c ∈ L ∧ x = mnr f r c
  | [], x => ⟨fun h => (by cases h), fun h => (by obtain ⟨r, h, _⟩ := h; cases h)⟩
  | m :: M, x => by
    show x ∈ L.map (mnr f m) ++ mns f L M ↔ _
    rw [List.mem_append, mns_mem, List.mem_map]
    constructor
    · rintro (⟨c, h1, h2⟩ | ⟨r, h1, h2⟩)
      · exact ⟨m, List.mem_cons_self .., c, h1, h2.symm⟩
      · exact ⟨r, List.mem_cons_of_mem _ h1, h2⟩
    · rintro ⟨r, h1, c, h2, h3⟩
      rcases List.mem_cons.1 h1 with rfl | h1
      · exact .inl ⟨c, h2, h3.symm⟩
      · exact .inr ⟨r, h1, c, h2, h3⟩
theorem mns_len (f : Nat → Nat → Int) (L : List (List Nat)) : ∀ M : List (List Nat), (mns f L M).length = M.length * L.length
  | [] => by simp [mns]
  | m :: M => by show (L.map (mnr f m) ++ mns f L M).length = _; rw [List.length_append, List.length_map, mns_len f L M, List.length_cons, Nat.add_mul]; omega

/-- All choices; the determinants of so many rows and columns; what divides them all. -/
def chn (n many : Nat) : List (List Nat) := chs n many (2 ^ n)
def dvs (n : Nat) (f : Nat → Nat → Int) (many : Nat) : Nat := gl (mns f (chn n many) (chn n many))
theorem dvs_dvd {n many k : Nat} {f : Nat → Nat → Int} : k ∣ dvs n f many ↔ ∀ r c, r ∈ chn n many → c ∈ chn n many → (k : Int) ∣ mnr f r c := by
  unfold dvs
  rw [gl_dvd]
  constructor
  · exact fun h r c hr hc => h _ (mns_mem.2 ⟨r, hr, c, hc, rfl⟩)
  · rintro h x hx
    obtain ⟨r, hr, c, hc, rfl⟩ := mns_mem.1 hx
    exact h r c hr hc
theorem dvs_eq {n many g : Nat} {f : Nat → Nat → Int} (h : ∀ k : Nat, k ∣ g ↔ ∀ r c, r ∈ chn n many → c ∈ chn n many → (k : Int) ∣ mnr f r c) : dvs n f many = g :=
  Nat.dvd_antisymm ((h _).2 (dvs_dvd.1 (Nat.dvd_refl _))) (dvs_dvd.2 ((h _).1 (Nat.dvd_refl _)))
theorem mns_bound {n : Nat} {f : Nat → Nat → Int} (hf : ∀ i j, i < n → j < n → (f i j).natAbs ≤ 20) (h3 : n ≤ 3) {many : Nat} (hm : many ≤ 3) {r c : List Nat} (hr : r ∈ chn n many) (hc : c ∈ chn n many) : (mnr f r c).natAbs ≤ 216000 := by
  obtain ⟨h1, h2⟩ := chs_mem hr
  obtain ⟨h4, h5⟩ := chs_mem hc
  refine Nat.le_trans (mnr_bound hf r c h1 h4 (by omega)) ?_
  rw [h2]
  rcases (by omega : many = 0 ∨ many = 1 ∨ many = 2 ∨ many = 3) with rfl | rfl | rfl | rfl <;> decide

theorem mnr_1 (f : Nat → Nat → Int) (a b : Nat) : mnr f [a] [b] = f a b := by
  show 0 + sgn 0 * f a b * 1 = f a b
  rw [show sgn 0 = 1 from rfl]; grind
theorem mnr_2 (f : Nat → Nat → Int) (a b c d : Nat) : mnr f [a, b] [c, d] = f a c * f b d - f a d * f b c := by
  have e : mnr f [a, b] [c, d] = 0 + sgn 0 * f a c * mnr f [b] [d] + sgn 1 * f a d * mnr f [b] [c] := rfl
  rw [e, mnr_1, mnr_1, show sgn 0 = 1 from rfl, show sgn 1 = -1 from rfl]; grind
theorem mnr_3 (f : Nat → Nat → Int) : mnr f [0, 1, 2] [0, 1, 2] = dt 3 f := by
  have e : mnr f [0, 1, 2] [0, 1, 2] = 0 + sgn 0 * f 0 0 * mnr f [1, 2] [1, 2] + sgn 1 * f 0 1 * mnr f [1, 2] [0, 2] + sgn 2 * f 0 2 * mnr f [1, 2] [0, 1] := rfl
  have d : dt 3 f = 0 + sgn 0 * f 0 0 * dt 2 (del 0 f) + sgn 1 * f 0 1 * dt 2 (del 1 f) + sgn 2 * f 0 2 * dt 2 (del 2 f) := rfl
  rw [e, d, mnr_2, mnr_2, mnr_2, dt_2, dt_2, dt_2]
  rfl
theorem dt_1 (f : Nat → Nat → Int) : dt 1 f = f 0 0 := by
  show 0 + sgn 0 * f 0 0 * 1 = f 0 0
  rw [show sgn 0 = 1 from rfl]; grind
theorem chn_11 : chn 1 1 = [[0]] := by decide
theorem chn_21 : chn 2 1 = [[0], [1]] := by decide
theorem chn_22 : chn 2 2 = [[0, 1]] := by decide
theorem chn_31 : chn 3 1 = [[0], [1], [2]] := by decide
theorem chn_32 : chn 3 2 = [[0, 1], [0, 2], [1, 2]] := by decide
theorem chn_33 : chn 3 3 = [[0, 1, 2]] := by decide
theorem dvs_one {n : Nat} (f : Nat → Nat → Int) (h : ∀ x, x ∈ chn n 1 ↔ ∃ a, a < n ∧ x = [a]) : dvs n f 1 = gg n f := dvs_eq fun k => by
  rw [gg_dvd]
  constructor
  · rintro hk r c hr hc
    obtain ⟨a, ha, rfl⟩ := (h r).1 hr
    obtain ⟨b, hb, rfl⟩ := (h c).1 hc
    rw [mnr_1]; exact hk a b ha hb
  · intro hk i j hi hj
    have := hk [i] [j] ((h _).2 ⟨i, hi, rfl⟩) ((h _).2 ⟨j, hj, rfl⟩)
    rwa [mnr_1] at this
theorem dvs_21 (f : Nat → Nat → Int) : dvs 2 f 1 = gg 2 f := dvs_one f fun x => by
  rw [chn_21]
  constructor
  · intro h
    simp only [List.mem_cons, List.not_mem_nil, or_false] at h
    rcases h with rfl | rfl
    · exact ⟨0, by decide, rfl⟩
    · exact ⟨1, by decide, rfl⟩
  · rintro ⟨a, ha, rfl⟩
    rcases (by omega : a = 0 ∨ a = 1) with rfl | rfl <;> simp
theorem dvs_31 (f : Nat → Nat → Int) : dvs 3 f 1 = gg 3 f := dvs_one f fun x => by
  rw [chn_31]
  constructor
  · intro h
    simp only [List.mem_cons, List.not_mem_nil, or_false] at h
    rcases h with rfl | rfl | rfl
    · exact ⟨0, by decide, rfl⟩
    · exact ⟨1, by decide, rfl⟩
    · exact ⟨2, by decide, rfl⟩
  · rintro ⟨a, ha, rfl⟩
    rcases (by omega : a = 0 ∨ a = 1 ∨ a = 2) with rfl | rfl | rfl <;> simp
theorem dvs_all {n : Nat} (f : Nat → Nat → Int) {l : List Nat} (h : chn n n = [l]) (e : mnr f l l = dt n f) : dvs n f n = (dt n f).natAbs := dvs_eq fun k => by
  rw [h, ← e]
  constructor
  · rintro hk r c hr hc
    rw [List.mem_singleton.1 hr, List.mem_singleton.1 hc]
    exact Int.ofNat_dvd_left.2 hk
  · intro hk
    exact Int.ofNat_dvd_left.1 (hk l l (List.mem_singleton.2 rfl) (List.mem_singleton.2 rfl))
theorem dvs_11 (f : Nat → Nat → Int) : dvs 1 f 1 = (dt 1 f).natAbs := dvs_all f chn_11 (by rw [mnr_1, dt_1])
theorem dvs_22 (f : Nat → Nat → Int) : dvs 2 f 2 = (dt 2 f).natAbs := dvs_all f chn_22 (by rw [mnr_2, dt_2])
theorem dvs_33 (f : Nat → Nat → Int) : dvs 3 f 3 = (dt 3 f).natAbs := dvs_all f chn_33 (mnr_3 f)
theorem dvs_32 (f : Nat → Nat → Int) : dvs 3 f 2 = gmi 2 f := dvs_eq fun k => by
  rw [gmi_is, gg_dvd, chn_32]
  have key : ∀ a b c d e g : Nat, mnr f [a, b] [c, d] = f a c * f b d - f a d * f b c := fun a b c d _ _ => mnr_2 f a b c d
  constructor
  · intro h r c hr hc
    simp only [List.mem_cons, List.not_mem_nil, or_false] at hr hc
    rcases hr with rfl | rfl | rfl <;> rcases hc with rfl | rfl | rfl
    · have := h 2 2 (by decide) (by decide); rw [dt_2] at this; rw [mnr_2]; exact this
    · have := h 2 1 (by decide) (by decide); rw [dt_2] at this; rw [mnr_2]; exact this
    · have := h 2 0 (by decide) (by decide); rw [dt_2] at this; rw [mnr_2]; exact this
    · have := h 1 2 (by decide) (by decide); rw [dt_2] at this; rw [mnr_2]; exact this
    · have := h 1 1 (by decide) (by decide); rw [dt_2] at this; rw [mnr_2]; exact this
    · have := h 1 0 (by decide) (by decide); rw [dt_2] at this; rw [mnr_2]; exact this
    · have := h 0 2 (by decide) (by decide); rw [dt_2] at this; rw [mnr_2]; exact this
    · have := h 0 1 (by decide) (by decide); rw [dt_2] at this; rw [mnr_2]; exact this
    · have := h 0 0 (by decide) (by decide); rw [dt_2] at this; rw [mnr_2]; exact this
  · intro h i j hi hj
    have h3 : ∀ i : Nat, i < 3 → ∃ l, l ∈ [[0, 1], [0, 2], [1, 2]] ∧ l = [Mx.sk i 0, Mx.sk i 1] := fun i hi => by
      rcases (by omega : i = 0 ∨ i = 1 ∨ i = 2) with rfl | rfl | rfl
      · exact ⟨[1, 2], by simp, rfl⟩
      · exact ⟨[0, 2], by simp, rfl⟩
      · exact ⟨[0, 1], by simp, rfl⟩
    obtain ⟨r, hr, rfl⟩ := h3 i hi
    obtain ⟨c, hc, rfl⟩ := h3 j hj
    have := h _ _ hr hc
    rw [mnr_2] at this
    rw [dt_2]; exact this

/-- What divides all of the determinants with so many rows, none: 1. -/
def pv (n : Nat) (f : Nat → Nat → Int) (k : Nat) : Nat := if k = 0 then 1 else dvs n f k
theorem pv_zero (n : Nat) (f : Nat → Nat → Int) : pv n f 0 = 1 := rfl
theorem pv_succ (n : Nat) (f : Nat → Nat → Int) (k : Nat) : pv n f (k + 1) = dvs n f (k + 1) := by unfold pv; rw [if_neg (by omega)]
theorem pv_pos {n : Nat} {f : Nat → Nat → Int} (h3 : n ≤ 3) (h0 : dt n f ≠ 0) {k : Nat} (hk : k ≤ n) : 0 < pv n f k := by
  cases k with
  | zero => exact Nat.one_pos
  | succ k =>
    rw [pv_succ]
    rcases (by omega : n = 1 ∨ n = 2 ∨ n = 3) with rfl | rfl | rfl
    · rw [show k = 0 by omega, dvs_11]; omega
    · rcases (by omega : k = 0 ∨ k = 1) with rfl | rfl
      · rw [dvs_21]; exact gg_pos (by decide) h0
      · rw [dvs_22]; omega
    · rcases (by omega : k = 0 ∨ k = 1 ∨ k = 2) with rfl | rfl | rfl
      · rw [dvs_31]; exact gg_pos (by decide) h0
      · rw [dvs_32]; exact gmi_pos (p := 2) h0
      · rw [dvs_33]; omega
/-- The quotients are the parts. -/
theorem pv_spp {n : Nat} (f : Nat → Nat → Int) (h1 : 0 < n) (h3 : n ≤ 3) : (Mx.row n fun k => ((pv n f (k + 1) / pv n f k : Nat) : Int)) = spp n f := by
  rcases (by omega : n = 1 ∨ n = 2 ∨ n = 3) with rfl | rfl | rfl
  · show [((pv 1 f 1 / pv 1 f 0 : Nat) : Int)] = [((dt 1 f).natAbs : Int)]
    rw [pv_succ, pv_zero, dvs_11, Nat.div_one]
  · show [((pv 2 f 1 / pv 2 f 0 : Nat) : Int), ((pv 2 f 2 / pv 2 f 1 : Nat) : Int)] = [(gg 2 f : Int), (((dt 2 f).natAbs / gg 2 f : Nat) : Int)]
    rw [pv_succ, pv_succ, pv_zero, dvs_21, dvs_22, Nat.div_one]
  · show [((pv 3 f 1 / pv 3 f 0 : Nat) : Int), ((pv 3 f 2 / pv 3 f 1 : Nat) : Int), ((pv 3 f 3 / pv 3 f 2 : Nat) : Int)] = [(gg 3 f : Int), ((gmi 2 f / gg 3 f : Nat) : Int), (((dt 3 f).natAbs / gmi 2 f : Nat) : Int)]
    rw [pv_succ, pv_succ, pv_succ, pv_zero, dvs_31, dvs_32, dvs_33, Nat.div_one]
theorem dvs_le {n : Nat} {f : Nat → Nat → Int} (hf : ∀ i j, i < n → j < n → (f i j).natAbs ≤ 20) (h3 : n ≤ 3) {many : Nat} (hm : many ≤ 3) : dvs n f many ≤ 216000 := gl_le fun x hx => by
  obtain ⟨r, hr, c, hc, rfl⟩ := mns_mem.1 hx
  exact mns_bound hf h3 hm hr hc
theorem pv_le {n : Nat} {f : Nat → Nat → Int} (hf : ∀ i j, i < n → j < n → (f i j).natAbs ≤ 20) (h3 : n ≤ 3) {k : Nat} (hm : k ≤ 3) : pv n f k ≤ 216000 := by
  unfold pv
  split
  · decide
  · exact dvs_le hf h3 hm
end Go.Proofs.Ytlnehhhlpdaebaa.Zx
