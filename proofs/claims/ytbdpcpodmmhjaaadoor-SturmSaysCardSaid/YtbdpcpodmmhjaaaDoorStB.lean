/- Plain facts on the document's chain of a row of at most four factors from -20 to 20: how large its numbers get. No program is named here. -/
import Derived.Test.YtbdpcpodmmhjaaaDoorStH
namespace Go.Proofs.YtbdpcpodmmhjaaaDoor.Stu
set_option linter.unusedVariables false

/-- From -m to m, all of them. -/
def Bn (m : Int) (l : List Int) : Prop := ∀ x ∈ l, -m ≤ x ∧ x ≤ m
theorem Bn.le {m n : Int} {l : List Int} (h : Bn m l) (hn : m ≤ n) : Bn n l := fun x hx => by have := h x hx; omega
theorem Bn.at {m : Int} {l : List Int} (h : Bn m l) (h0 : 0 ≤ m) (k : Nat) : -m ≤ l.getD k 0 ∧ l.getD k 0 ≤ m := by
  rw [List.getD_eq_getElem?_getD]
  rcases hk : l[k]? with _ | z
  · simp; omega
  · exact h z (List.mem_of_getElem? hk)
theorem Bn.neg {m : Int} {l : List Int} (h : Bn m l) : Bn m (l.map (- ·)) := fun x hx => by
  obtain ⟨y, hy, rfl⟩ := List.mem_map.1 hx
  have := h y hy
  omega
theorem prod_bd {a b X Y : Int} (ha : -X ≤ a ∧ a ≤ X) (hb : -Y ≤ b ∧ b ≤ Y) : -(X * Y) ≤ a * b ∧ a * b ≤ X * Y := by
  have h1 := Int.mul_nonneg (show 0 ≤ X - a by omega) (show 0 ≤ Y + b by omega)
  have h2 := Int.mul_nonneg (show 0 ≤ X + a by omega) (show 0 ≤ Y - b by omega)
  have h3 := Int.mul_nonneg (show 0 ≤ X - a by omega) (show 0 ≤ Y - b by omega)
  have h4 := Int.mul_nonneg (show 0 ≤ X + a by omega) (show 0 ≤ Y + b by omega)
  rw [Int.sub_mul, Int.mul_add, Int.mul_add] at h1
  rw [Int.add_mul, Int.mul_sub, Int.mul_sub] at h2
  rw [Int.sub_mul, Int.mul_sub, Int.mul_sub] at h3
  rw [Int.add_mul, Int.mul_add, Int.mul_add] at h4
  constructor <;> omega
theorem az_bd {z Y : Int} (h : -Y ≤ z ∧ z ≤ Y) : 0 ≤ az z ∧ az z ≤ Y := by unfold az; split <;> omega
theorem tq_bd {f g : List Int} {X : Int} (h0 : 0 ≤ X) (h : Bn X f) : -X ≤ tq f g ∧ tq f g ≤ X := by
  have := h.at h0 (f.length - 1)
  unfold tq tp; split <;> omega
/-- One step. -/
theorem nx_bn {f g : List Int} {X Y : Int} (h0 : 0 ≤ X) (h1 : 0 ≤ Y) (hf : Bn X f) (hg : Bn Y g) : Bn (2 * (X * Y)) (nx f g) := fun z hz => by
  unfold nx at hz
  obtain ⟨i, _, rfl⟩ := List.mem_map.1 hz
  have a1 := az_bd (hg.at h1 (g.length - 1))
  have p1 := prod_bd (hf.at h0 i) (show -Y ≤ az (tp g) ∧ az (tp g) ≤ Y by unfold tp; omega)
  have p2 := prod_bd (tq_bd (g := g) h0 hf) (hg.at h1 (i - (f.length - 1 - (g.length - 1))))
  have xy := Int.mul_nonneg h0 h1
  split <;> omega
theorem qn_bn {Q f g : List Int} {X Y M : Int} (h0 : 0 ≤ X) (h1 : 0 ≤ Y) (hm : 0 ≤ M) (hf : Bn X f) (hg : Bn Y g) (hq : Bn M Q) : Bn (M * Y + X) (qn Q f g) := by
  have a1 := az_bd (hg.at h1 (g.length - 1))
  have mp : Bn (M * Y) (Q.map (· * az (tp g))) := fun z hz => by
    obtain ⟨y, hy, rfl⟩ := List.mem_map.1 hz
    exact prod_bd (hq y hy) (show -Y ≤ az (tp g) ∧ az (tp g) ≤ Y by unfold tp; omega)
  have my := Int.mul_nonneg hm h1
  intro z hz
  unfold qn at hz
  rcases List.mem_or_eq_of_mem_set hz with h | h
  · have := mp z h; omega
  · have b1 := mp.at my (f.length - g.length)
    have b2 := tq_bd (g := g) h0 hf
    rw [h]; omega
theorem bn_zeros (n : Nat) (m : Int) (h : 0 ≤ m) : Bn m (List.replicate n 0) := fun x hx => by rw [(List.mem_replicate.1 hx).2]; omega
theorem tdiv_bd {x g m : Int} (h : -m ≤ x ∧ x ≤ m) (hg : 0 < g) (hd : g ∣ x) : -m ≤ x.tdiv g ∧ x.tdiv g ≤ m := by
  obtain ⟨c, rfl⟩ := hd
  rw [Int.mul_tdiv_cancel_left _ (by omega)]
  rcases Int.le_total 0 c with hc | hc
  · have := Int.mul_le_mul_of_nonneg_right (show 1 ≤ g by omega) hc
    omega
  · have := Int.mul_le_mul_of_nonneg_right (show 1 ≤ g by omega) (show 0 ≤ -c by omega)
    have e : g * -c = -(g * c) := Int.mul_neg ..
    omega
theorem tm_sub (l : List Int) : ∀ x ∈ tm l, x ∈ l := by
  induction l using tm_ind with
  | h0 => exact fun x h => h
  | hz l ih => rw [tm_zero]; exact fun x h => List.mem_append_left _ (ih x h)
  | hn l a ha => rw [tm_not l ha]; exact fun x h => h
theorem pl_bn {l : List Int} {m : Int} (h : Bn m l) : Bn m (pl l) := fun z hz => by
  have ht : tm l ≠ [] := fun e => by rw [pl_nil.2 e] at hz; cases hz
  unfold pl at hz
  obtain ⟨y, hy, rfl⟩ := List.mem_map.1 hz
  exact tdiv_bd (h y (tm_sub l y hy)) (gcl_pos ht (tm_facts l).1) (gcl_dvd _ hy)
theorem slp_bn {f : List Int} {m : Int} (h0 : 0 ≤ m) (h : Bn m f) (h4 : f.length ≤ 4) : Bn (3 * m) (slp f) := fun z hz => by
  unfold slp at hz
  obtain ⟨i, hi, rfl⟩ := List.mem_map.1 hz
  have hi := List.mem_range.1 hi
  have := h.at h0 (i + 1)
  have p := prod_bd (a := (i : Int) + 1) (X := 3) (show -3 ≤ (i : Int) + 1 ∧ (i : Int) + 1 ≤ 3 by omega) this
  exact p
theorem dr_bn1 {f g : List Int} {X Y : Int} (h0 : 0 ≤ X) (h1 : 0 ≤ Y) (hf : Bn X f) (hg : Bn Y g) (hl : f.length = g.length + 1) (g0 : 0 < g.length) :
    Bn (4 * (X * Y * Y)) (dr f g) ∧ Bn (3 * (X * Y) + X) (dq f g) := by
  have xy := Int.mul_nonneg h0 h1
  have n1 := nx_bn h0 h1 hf hg
  have n2 := nx_bn (by omega) h1 n1 hg
  have q1 := qn_bn (Q := List.replicate 8 0) (M := 0) h0 h1 (by omega) hf hg (bn_zeros 8 0 (by omega))
  have q2 := qn_bn (by omega) h1 (by omega) n1 hg q1
  have e : spl f.length g f (List.replicate 8 0) = (qn (qn (List.replicate 8 0) f g) (nx f g) g, nx (nx f g) g) := by
    obtain ⟨m, hm⟩ : ∃ m, f.length = m + 2 := ⟨f.length - 2, by omega⟩
    rw [hm, spl, if_pos (by omega), spl, if_pos (by rw [nx_len]; omega)]
    cases m with
    | zero => rfl
    | succ m => rw [spl, if_neg (by rw [nx_len, nx_len]; omega)]
  unfold dr dq
  rw [e]
  constructor
  · refine pl_bn (n2.le ?_)
    rw [show 2 * (2 * (X * Y) * Y) = 4 * (X * Y * Y) by rw [Int.mul_assoc 2 (X * Y) Y]; omega]
    exact Int.le_refl _
  · refine pl_bn (q2.le ?_)
    rw [Int.zero_mul, Int.zero_add]
    omega
/-- By a row of two, a row of four: how often it goes. -/
theorem dq_bn2 {f g : List Int} {X Y : Int} (h0 : 0 ≤ X) (h1 : 0 ≤ Y) (hf : Bn X f) (hg : Bn Y g) (hl : f.length = g.length + 2) (g0 : 0 < g.length) :
    Bn ((X * Y + 2 * (X * Y)) * Y + 2 * (2 * (X * Y) * Y)) (dq f g) := by
  have xy := Int.mul_nonneg h0 h1
  have xyy := Int.mul_nonneg xy h1
  have n1 := nx_bn h0 h1 hf hg
  have n2 := nx_bn (by omega) h1 n1 hg
  have q1 := qn_bn (Q := List.replicate 8 0) (M := 0) h0 h1 (by omega) hf hg (bn_zeros 8 0 (by omega))
  have q2 := qn_bn (by omega) h1 (by omega) n1 hg q1
  have e4 : 2 * (2 * (X * Y) * Y) = 4 * (X * Y * Y) := by rw [Int.mul_assoc 2 (X * Y) Y]; omega
  have q3 := qn_bn (by rw [e4]; omega) h1 (by rw [Int.zero_mul, Int.zero_add]; omega) n2 hg q2
  have e : spl f.length g f (List.replicate 8 0) = (qn (qn (qn (List.replicate 8 0) f g) (nx f g) g) (nx (nx f g) g) g, nx (nx (nx f g) g) g) := by
    obtain ⟨m, hm⟩ : ∃ m, f.length = m + 3 := ⟨f.length - 3, by omega⟩
    rw [hm, spl, if_pos (by omega), spl, if_pos (by rw [nx_len]; omega), spl, if_pos (by rw [nx_len, nx_len]; omega)]
    cases m with
    | zero => rfl
    | succ m => rw [spl, if_neg (by rw [nx_len, nx_len, nx_len]; omega)]
  unfold dq
  rw [e]
  refine pl_bn (q3.le ?_)
  rw [Int.zero_mul, Int.zero_add]
  exact Int.le_refl _
/-- A row of one without what divides all is 1 or -1. -/
theorem pl_one {l : List Int} (h : (pl l).length = 1) : pl l = [1] ∨ pl l = [-1] := by
  have hl : (tm l).length = 1 := by rw [← pl_len]; exact h
  have t := (tm_facts l).1
  unfold pl
  match hm : tm l, hl with
  | [z], _ =>
    rw [hm] at t
    have hz : z ≠ 0 := t (by simp)
    have hg : gcl [z] = az z := by
      show ((Int.gcd 0 z : Nat) : Int) = _
      rw [Int.gcd_zero_left]
      unfold az; split <;> omega
    show [z.tdiv (gcl [z])] = [1] ∨ [z.tdiv (gcl [z])] = [-1]
    rw [hg]
    unfold az
    split
    · right; rw [Int.tdiv_neg, Int.tdiv_self hz]
    · left; rw [Int.tdiv_self hz]

/-- What a division of two rows wants, so that no number leaves the machine's ints: after every step the numbers are below this. -/
def Fit (a b : List Int) : Prop := ∃ X Y : Int, 0 ≤ X ∧ 1 ≤ Y ∧ Bn X a ∧ Bn Y b ∧ X ≤ 1000000000000 ∧ Y ≤ 1000000 ∧
  (a.length ≤ b.length ∨ (a.length = b.length + 1 ∧ 4 * (X * Y * Y) ≤ 4000000000000000000) ∨ (Y = 1 ∧ a.length ≤ 4) ∨ (a.length = b.length + 2 ∧ X ≤ 20 ∧ Y ≤ 20))
/-- The same of all divisions of a chain. -/
inductive Fits : List Int → List Int → Prop
  | mk {a b : List Int} (h : Fit a b) (t : dr a b ≠ [] → Fits b ((dr a b).map (- ·))) : Fits a b
theorem one_bn {a b : List Int} (h : (dr a b).length = 1) : Bn 1 ((dr a b).map (- ·)) := by
  unfold dr at *
  rcases pl_one h with e | e <;> rw [e] <;> exact fun x hx => by simp at hx; omega
theorem fits_one {a b : List Int} {X : Int} (hX : 0 ≤ X) (hX2 : X ≤ 1000000000000) (ha : Bn X a) (hb : Bn 1 b) (lb : b.length = 1) (tb : Tp b) (la : a.length ≤ 4) : Fits a b :=
  .mk ⟨X, 1, hX, by decide, ha, hb, hX2, by decide, .inr (.inr (.inl ⟨rfl, la⟩))⟩ fun h => absurd (dr_one lb tb (by omega)) h
theorem dr_len1 {a b : List Int} (hb : b ≠ []) (tb : Tp b) (la : a.length ≤ 8) (lb : b.length = 2) (h : dr a b ≠ []) : (dr a b).length = 1 ∧ Tp (dr a b) := by
  obtain ⟨h1, _, h3, _⟩ := split_val a b hb tb la
  have := List.length_pos_iff.2 h
  exact ⟨by omega, h3⟩
/-- Two rows, one of them longer by one, the shorter one of two. -/
theorem fits_two {a b : List Int} {X Y : Int} (hX : 0 ≤ X) (hY : 1 ≤ Y) (hX2 : X ≤ 1000000000000) (hY2 : Y ≤ 1000000) (h : 4 * (X * Y * Y) ≤ 4000000000000000000) (ha : Bn X a) (hb : Bn Y b) (la : a.length = 3) (lb : b.length = 2) (tb : Tp b) : Fits a b :=
  .mk ⟨X, Y, hX, hY, ha, hb, hX2, hY2, .inr (.inl ⟨by omega, h⟩)⟩ fun h0 => by
    obtain ⟨l1, t1⟩ := dr_len1 (fun e => by rw [e] at lb; cases lb) tb (by omega) lb h0
    exact fits_one (by omega) (by omega) hb (one_bn l1) (by rw [neg_len]; exact l1) t1.neg (by omega)
/-- The chain of a row of two or three. -/
theorem fits_small {f : List Int} {M : Int} (hM : 1 ≤ M) (hM2 : M ≤ 300000) (h : Bn M f) (h2 : 2 ≤ f.length) (h3 : f.length ≤ 3) (t : Tp f) (hc : 4 * (M * (3 * M) * (3 * M)) ≤ 4000000000000000000) : Fits (pl f) (pl (slp f)) := by
  obtain ⟨l1, t1, l2, t2, _⟩ := pl_slope h2 t
  have b1 := pl_bn h
  have b2 := pl_bn (slp_bn (by omega) h (by omega))
  rcases show f.length = 2 ∨ f.length = 3 by omega with e | e
  · have l3 : (pl (slp f)).length = 1 := by omega
    refine fits_one (X := M) (by omega) (by omega) b1 ?_ l3 t2 (by omega)
    rcases pl_one l3 with e' | e' <;> rw [e'] <;> exact fun x hx => by simp at hx; omega
  · exact fits_two (by omega) (by omega) (by omega) (by omega) hc b1 b2 (by omega) (by omega) t2
/-- The chain of a row of four from -20 to 20. -/
theorem fits_four {f : List Int} (h : Bn 20 f) (h4 : f.length = 4) (t : Tp f) : Fits (pl f) (pl (slp f)) := by
  obtain ⟨l1, t1, l2, t2, _⟩ := pl_slope (by omega) t
  have b1 := pl_bn h
  have b2 := pl_bn (slp_bn (by omega) h (by omega))
  have hb : pl (slp f) ≠ [] := fun e => by rw [e] at l2; simp at l2; omega
  refine .mk ⟨20, 60, by omega, by omega, b1, b2, by omega, by omega, .inr (.inl ⟨by omega, by omega⟩)⟩ fun h0 => ?_
  obtain ⟨z1, _, z3, _⟩ := split_val (pl f) (pl (slp f)) hb t2 (by omega)
  have z4 := List.length_pos_iff.2 h0
  have rb := (dr_bn1 (X := 20) (Y := 60) (by omega) (by omega) b1 b2 (by omega) (by omega)).1
  rcases show (dr (pl f) (pl (slp f))).length = 1 ∨ (dr (pl f) (pl (slp f))).length = 2 by omega with e | e
  · exact fits_one (X := 60) (by omega) (by omega) b2 (one_bn e) (by rw [neg_len]; exact e) z3.neg (by omega)
  · exact fits_two (X := 60) (Y := 288000) (by omega) (by omega) (by omega) (by omega) (by omega) b2 (rb.neg.le (by omega)) (by omega) (by rw [neg_len]; exact e) z3.neg

theorem cop {a b c : Int} (h : Int.gcd a b = 1) (hd : a ∣ b * c) : a ∣ c := by
  have h1 : Nat.Coprime a.natAbs b.natAbs := h
  have h2 := Int.natAbs_dvd_natAbs.2 hd
  rw [Int.natAbs_mul] at h2
  exact Int.natAbs_dvd_natAbs.1 (h1.dvd_of_dvd_mul_left h2)
theorem small_dvd {a b : Int} {m : Int} (h : a ∣ b) (hb : b ≠ 0) (hm : -m ≤ b ∧ b ≤ m) : -m ≤ a ∧ a ≤ m := by
  obtain ⟨c, rfl⟩ := h
  have hc : c ≠ 0 := fun e => hb (by rw [e, Int.mul_zero])
  rcases Int.le_total 0 a with ha | ha <;> rcases Int.lt_or_gt_of_ne hc with h1 | h1
  · have := Int.mul_le_mul_of_nonneg_left (show 1 ≤ -c by omega) ha
    have e : a * -c = -(a * c) := Int.mul_neg ..
    omega
  · have := Int.mul_le_mul_of_nonneg_left (show 1 ≤ c by omega) ha
    omega
  · have := Int.mul_le_mul_of_nonneg_left (show 1 ≤ -c by omega) (show 0 ≤ -a by omega)
    have e : -a * -c = a * c := Int.neg_mul_neg ..
    omega
  · have := Int.mul_le_mul_of_nonneg_left (show 1 ≤ c by omega) (show 0 ≤ -a by omega)
    have e : -a * c = -(a * c) := Int.neg_mul ..
    omega
/-- A row of two without what divides both, that goes into a row of four: its numbers divide the others' (Gauss). -/
theorem line_bd {a0 a1 a2 a3 r0 r1 m : Int} (hg : Int.gcd r0 r1 = 1) (hm : 0 ≤ m) (h3 : a3 ≠ 0) (b0 : -m ≤ a0 ∧ a0 ≤ m) (b1 : -m ≤ a1 ∧ a1 ≤ m) (b2 : -m ≤ a2 ∧ a2 ≤ m) (b3 : -m ≤ a3 ∧ a3 ≤ m)
    (e : a3 * (r0 * r0 * r0) - a2 * (r0 * r0 * r1) + a1 * (r0 * (r1 * r1)) - a0 * (r1 * r1 * r1) = 0) : (-m ≤ r0 ∧ r0 ≤ m) ∧ (-m ≤ r1 ∧ r1 ≤ m) := by
  have hg' : Int.gcd r1 r0 = 1 := by rw [Int.gcd_comm]; exact hg
  constructor
  · by_cases z0 : a0 = 0
    · by_cases zr : r0 = 0
      · omega
      subst z0
      have e1 : r0 * (a3 * (r0 * r0) - a2 * (r0 * r1) + a1 * (r1 * r1)) = 0 := by grind
      have e2 := (Int.mul_eq_zero.1 e1).resolve_left zr
      by_cases z1 : a1 = 0
      · subst z1
        have e3 : r0 * (a3 * r0 - a2 * r1) = 0 := by grind
        have e4 := (Int.mul_eq_zero.1 e3).resolve_left zr
        by_cases z2 : a2 = 0
        · subst z2
          have : a3 * r0 = 0 := by grind
          rcases Int.mul_eq_zero.1 this with h | h
          · exact absurd h h3
          · exact absurd h zr
        · exact small_dvd (cop hg (c := a2) ⟨a3, by grind⟩) z2 b2
      · exact small_dvd (cop hg (c := a1) (cop hg (c := r1 * a1) ⟨a2 * r1 - a3 * r0, by grind⟩)) z1 b1
    · exact small_dvd (cop hg (c := a0) (cop hg (c := r1 * a0) (cop hg (c := r1 * (r1 * a0)) ⟨a3 * (r0 * r0) - a2 * (r0 * r1) + a1 * (r1 * r1), by grind⟩))) z0 b0
  · exact small_dvd (cop hg' (c := a3) (cop hg' (c := r0 * a3) (cop hg' (c := r0 * (r0 * a3)) ⟨a2 * (r0 * r0) - a1 * (r0 * r1) + a0 * (r1 * r1), by grind⟩))) h3 b3
/-- What is left without what divides all has no common divisor. -/
theorem gcl_greatest : ∀ (l : List Int) (g d : Int), d ∣ g → (∀ x ∈ l, d ∣ x) → d ∣ l.foldl (fun g x => (Int.gcd g x : Int)) g
  | [], _, _, h, _ => h
  | a :: l, g, d, h, h2 => gcl_greatest l (Int.gcd g a : Int) d (Int.dvd_coe_gcd h (h2 a (by simp))) fun x hx => h2 x (List.mem_cons_of_mem _ hx)
theorem pl_gcl {l : List Int} (h : pl l ≠ []) : gcl (pl l) = 1 := by
  have ht : tm l ≠ [] := fun e => h (pl_nil.2 e)
  have hp := gcl_pos ht (tm_facts l).1
  have hc := map_cancel (tm l) (gcl (tm l)) fun x hx => gcl_dvd _ hx
  have h1 : gcl (pl l) * gcl (tm l) ∣ gcl (tm l) := by
    refine gcl_greatest (tm l) 0 _ (Int.dvd_zero _) fun x hx => ?_
    rw [← hc] at hx
    obtain ⟨y, hy, rfl⟩ := List.mem_map.1 hx
    exact Int.mul_dvd_mul (gcl_dvd (pl l) hy) (Int.dvd_refl _)
  have h2 := gcl_nn (pl l)
  have h3 := Int.le_of_dvd hp h1
  have h0 : gcl (pl l) ≠ 0 := fun e => by
    rw [e, Int.zero_mul] at h1
    have := Int.zero_dvd.1 h1
    omega
  refine Classical.byContradiction fun hn => ?_
  have := Int.mul_le_mul_of_nonneg_right (show 2 ≤ gcl (pl l) by omega) (show 0 ≤ gcl (tm l) by omega)
  omega

end Go.Proofs.YtbdpcpodmmhjaaaDoor.Stu
