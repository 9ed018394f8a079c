/- The undivided chain's counts are the document's; beyond 21 there is no place; how large the undivided chain's numbers get. No program is named here. -/
import Derived.Test.YtbdpcpodmmhjaaaStR
import Derived.Test.YtbdpcpodmmhjaaaStN
namespace Go.Proofs.Ytbdpcpodmmhjaaa.Stu
set_option linter.unusedVariables false

theorem Al.len4 {P C : List (List Int)} (a : Al P C) (h : ∀ g ∈ C, g.length ≤ 4) : ∀ g ∈ P, g.length ≤ 4 := by
  induction a with
  | nil => exact fun _ hg => absurd hg (by simp)
  | @cons g k P C hk t ih =>
    intro g' hg'
    rcases List.mem_cons.1 hg' with rfl | hm
    · rw [List.length_map]; exact h g (by simp)
    · exact ih (fun g'' h'' => h g'' (List.mem_cons_of_mem _ h'')) g' hm
theorem Al.ne {P C : List (List Int)} (a : Al P C) (x : Rat) (h : ∀ g ∈ P, iv g x ≠ 0) : ∀ g ∈ C, iv g x ≠ 0 := by
  induction a with
  | nil => exact fun _ hg => absurd hg (by simp)
  | @cons g k P C hk t ih =>
    intro g' hg'
    rcases List.mem_cons.1 hg' with rfl | hm
    · intro e
      refine h (g'.map (· * k)) (by simp) ?_
      rw [iv_scale, e]; grind
    · exact ih (fun g'' h'' => h g'' (List.mem_cons_of_mem _ h'')) g' hm
theorem rst_len4 {f : List Int} (h2 : 2 ≤ f.length) (h4 : f.length ≤ 4) (t : Tp f) : ∀ g ∈ rst f, g.length ≤ 4 := by
  obtain ⟨l1, t1, l2, t2, _, _⟩ := pl_slope h2 t
  have hb : pl (slp f) ≠ [] := fun e => by rw [e] at l2; simp at l2; omega
  rw [rst_eq h2 t]
  intro g hg
  rcases List.mem_cons.1 hg with rfl | hg
  · omega
  · rcases List.mem_cons.1 hg with rfl | hg
    · omega
    · have := (tl_good 8 (pl f) (pl (slp f)) hb t2 (by omega) (by omega)).2.2 g hg
      omega
/-- Between two whole numbers. -/
theorem count_told {f : List Int} (h2 : 2 ≤ f.length) (h4 : f.length ≤ 4) (t : Tp f) {x y : Int} (hxy : x ≤ y) : (va (pch f) x : Int) - va (pch f) y = vs (chain f) x - vs (chain f) y := by
  have h0 : f ≠ [] := fun e => by rw [e] at h2; simp at h2
  have A := pch_al h0 t
  obtain ⟨g1, _, _⟩ := rst_good h2 (by omega) t
  have GP := A.good g1
  have L := A.len4 (rst_len4 h2 h4 t)
  have hxy' : (x : Rat) ≤ y := Rat.intCast_le_intCast.2 hxy
  have near : ∀ z : Int, ∃ h0 : Rat, 0 < h0 ∧ ∀ y : Rat, z < y → y ≤ z + h0 → va (pch f) z = vs (rst f) y ∧ ∀ g ∈ rst f, iv g y ≠ 0 := fun z => by
    obtain ⟨e, he, H⟩ := va_near (pch f) z GP L
    refine ⟨e, he, fun y h1 h2 => ?_⟩
    obtain ⟨a, b⟩ := H y h1 h2
    refine ⟨?_, A.ne y b⟩
    rw [← A.vs]
    unfold va vs
    rw [a]
  by_cases hl : (lst (rst f)).length < 2
  · obtain ⟨h, b, l, e, c, _, _, _, _⟩ := chain_all h2 h4 t
    have er : rst f = h :: b :: l := by rw [← e]; unfold chain; rw [if_pos hl]
    have one : ∀ z : Int, va (pch f) z = vs (chain f) z := fun z => by
      obtain ⟨d1, p1, H1⟩ := near z
      obtain ⟨d2, p2, H2⟩ := c.right z
      obtain ⟨d, hd, m1, m2⟩ := two_min p1 p2
      rw [(H1 (z + d) (by grind) (by grind)).1, er, e, H2 (z + d) (by grind) (by grind)]
    rw [one, one]
  · obtain ⟨N, T⟩ := rst_told h2 h4 t hl
    have one : ∀ z : Int, va (pch f) z = N z := fun z => by
      obtain ⟨d1, p1, H1⟩ := near z
      obtain ⟨d2, p2, H2⟩ := T.right z
      obtain ⟨d, hd, m1, m2⟩ := two_min p1 p2
      have a := H1 (z + d) (by grind) (by grind)
      rw [a.1, T.here _ a.2, H2 (z + d) (by grind) (by grind)]
    have := T.doc x y hxy'
    rw [one, one]
    omega
/-- Far enough out a row has its last factor's sign. -/
theorem beyond_pos : ∀ (f : List Int), f ≠ [] → (∀ z ∈ f, -20 ≤ z) → 0 < tp f → ∀ x : Rat, 21 ≤ x → 1 ≤ iv f x
  | [], h, _, _, _, _ => absurd rfl h
  | [a], _, _, ht, x, _ => by
    have ha : 1 ≤ a := ht
    have := Rat.intCast_le_intCast.2 ha
    show (1 : Rat) ≤ a + x * 0
    have e : ((1 : Int) : Rat) = 1 := rfl
    grind
  | a :: b :: l, _, hb, ht, x, hx => by
    have ih := beyond_pos (b :: l) (by simp) (fun z hz => hb z (List.mem_cons_of_mem _ hz)) (by
      have : tp (a :: b :: l) = tp (b :: l) := by unfold tp; simp
      rwa [this] at ht) x hx
    have := Rat.intCast_le_intCast.2 (hb a (by simp))
    have e : ((-20 : Int) : Rat) = -20 := rfl
    rw [iv_cons]
    generalize iv (b :: l) x = v at *
    have h1 := Rat.mul_le_mul_of_nonneg_left ih (show 0 ≤ x by grind)
    grind
theorem beyond {f : List Int} (h0 : f ≠ []) (t : Tp f) (hB : Bn 20 f) : ∀ x : Rat, 21 ≤ x → sq (iv f x) = sgz (tp f) ∧ sgz (tp f) ≠ 0 := fun x hx => by
  have ht := t h0
  by_cases hp : 0 < tp f
  · have := beyond_pos f h0 (fun z hz => (hB z hz).1) hp x hx
    rw [sq_pos (by grind)]
    unfold sgz
    rw [if_pos hp]; exact ⟨rfl, by decide⟩
  · have hn : tp f < 0 := by omega
    have := beyond_pos (f.map (- ·)) (by simpa using h0) (fun z hz => (hB.neg z hz).1) (by rw [tp_neg]; omega) x hx
    rw [iv_neg] at this
    rw [sq_neg (by grind)]
    unfold sgz
    rw [if_neg hp, if_pos hn]; exact ⟨rfl, by decide⟩
theorem od_bn {f : List Int} {m : Int} (h : Bn m f) : ∀ b, Bn m (od b f) := by
  induction f with
  | nil => intro b x hx; exact absurd hx (by simp [od])
  | cons a l ih =>
    intro b x hx
    have ha := h a (by simp)
    rcases List.mem_cons.1 (show x ∈ (if b then -a else a) :: od (!b) l from hx) with rfl | hx
    · cases b <;> simp <;> omega
    · exact ih (fun z hz => h z (List.mem_cons_of_mem _ hz)) _ x hx
theorem all_told {f : List Int} (h0 : f ≠ []) (h4 : f.length ≤ 4) (t : Tp f) (hB : Bn 20 f) : (va (pch f) (-21) : Int) - va (pch f) 21 = ends (chain f) := by
  have l1 := List.length_pos_iff.2 h0
  by_cases h1 : f.length = 1
  · rw [(sturm_one h1 t).2.1]
    have e : pch f = [f] := by
      unfold pch
      rw [if_pos (List.eq_nil_of_length_eq_zero (by rw [slp_len]; omega))]
    have z : ∀ s : Int, tr 0 [s] = 0 := fun s => by have := tr_zero [s]; simpa using this
    rw [e]
    unfold va
    rw [List.map_cons, List.map_nil, List.map_cons, List.map_nil, z, z]; rfl
  · have h2 : 2 ≤ f.length := by omega
    rw [count_told h2 h4 t (by omega)]
    obtain ⟨h, b, l, e, c, _, _, fm, _⟩ := chain_all h2 h4 t
    have S := sturm_of h0 h4 t
    obtain ⟨B, hB0, far⟩ := S.far
    have Bf := beyond h0 t hB
    have go := od_good (c := [f]) (fun g hg => by rw [List.mem_singleton.1 hg]; exact ⟨h0, t⟩) (od false f) (by simp)
    have Bo := beyond go.1 go.2 (od_bn hB false)
    have up : ∀ x y : Rat, 21 ≤ x → x ≤ y → vs (chain f) x = vs (chain f) y := fun x y hx hy => by
      rcases Nat.lt_or_ge (vs (chain f) y) (vs (chain f) x) with hlt | hge
      · exfalso
        rw [e] at hlt
        obtain ⟨u, w, q1, q2, q3, ht⟩ := c.some hy hlt
        have hu := Bf u (by grind)
        rcases event fm q2 ht with ⟨_, h3⟩ | ⟨z, z1, z2, z3⟩
        · have hw := Bf w (by grind)
          exact h3 (hw.1.trans hu.1.symm)
        · have hz := Bf z (by grind)
          rw [z3, sq_zero] at hz
          exact hz.2 hz.1.symm
      · exact Nat.le_antisymm hge (S.mono x y hy)
    have down : ∀ x y : Rat, x ≤ y → y ≤ -21 → vs (chain f) x = vs (chain f) y := fun x y hx hy => by
      rcases Nat.lt_or_ge (vs (chain f) y) (vs (chain f) x) with hlt | hge
      · exfalso
        rw [e] at hlt
        obtain ⟨u, w, q1, q2, q3, ht⟩ := c.some hx hlt
        have hu := Bo (-u) (by grind)
        rw [od_iv, show - -u = u by grind] at hu
        rcases event fm q2 ht with ⟨_, h3⟩ | ⟨z, z1, z2, z3⟩
        · have hw := Bo (-w) (by grind)
          rw [od_iv, show - -w = w by grind] at hw
          exact h3 (hw.1.trans hu.1.symm)
        · have hz := Bo (-z) (by grind)
          rw [od_iv, show - -z = z by grind, z3, sq_zero] at hz
          exact hz.2 hz.1.symm
      · exact Nat.le_antisymm hge (S.mono x y hx)
    have k := far (B + 21) (by grind)
    rw [← up 21 (B + 21) Rat.le_refl (by grind), down (-(B + 21)) (-21) (by grind) Rat.le_refl] at k
    exact k

/-- After s steps of a division. -/
theorem pow_le (Y : Int) (hY : 1 ≤ Y) : ∀ s : Nat, 1 ≤ (2 * Y) ^ s
  | 0 => by simp
  | s + 1 => by
    rw [Int.pow_succ]
    have := pow_le Y hY s
    have := Int.mul_le_mul_of_nonneg_left (show 1 ≤ 2 * Y by omega) (show 0 ≤ (2 * Y) ^ s by omega)
    omega
theorem spl_bn : ∀ (s n : Nat) (g f Q : List Int) (X Y : Int), 0 ≤ X → 1 ≤ Y → Bn X f → Bn Y g → g ≠ [] → f.length + 1 - g.length = s → Bn (X * (2 * Y) ^ s) (spl n g f Q).2
  | 0, n, g, f, Q, X, Y, hX, hY, hf, hg, hn, hs => by
    rw [Int.pow_zero, Int.mul_one]
    cases n with
    | zero => exact hf
    | succ n => rw [spl, if_neg (by omega)]; exact hf
  | s + 1, n, g, f, Q, X, Y, hX, hY, hf, hg, hn, hs => by
    have hp := pow_le Y hY (s + 1)
    have h1 := Int.mul_le_mul_of_nonneg_left hp hX
    cases n with
    | zero => exact hf.le (by omega)
    | succ n =>
      rw [spl, if_pos (by omega)]
      have b := nx_bn hX (show 0 ≤ Y by omega) hf hg
      have g0 := List.length_pos_iff.2 hn
      have := spl_bn s n g (nx f g) (qn Q f g) (2 * (X * Y)) Y (by have := Int.mul_nonneg hX (show 0 ≤ Y by omega); omega) hY b hg hn (by rw [nx_len]; omega)
      refine this.le ?_
      rw [Int.pow_succ]
      have e : X * ((2 * Y) ^ s * (2 * Y)) = 2 * (X * Y) * (2 * Y) ^ s := by grind
      omega
theorem nr_bn {f g : List Int} {X Y : Int} (hX : 0 ≤ X) (hY : 1 ≤ Y) (hf : Bn X f) (hg : Bn Y g) (hn : g ≠ []) : Bn (X * (2 * Y) ^ (f.length + 1 - g.length)) (nr f g) := fun z hz =>
  (spl_bn _ f.length g f [] X Y hX hY hf hg hn rfl).neg z (tm_sub _ z hz)
theorem nr_len {f g : List Int} (hg : g ≠ []) (t : Tp g) : (nr f g).length < g.length ∧ Tp (nr f g) := by
  have h := (spl_val f.length g f (List.replicate f.length 0) hg (t hg) (Nat.le_refl _) (by simp)).2.1
  obtain ⟨K, _, e⟩ := spl_scale f.length g f (List.replicate f.length 0) [] 1 1 (by omega) (by omega)
  rw [map_one, map_one] at e
  have h2 := (tm_facts ((spl f.length g f []).2.map (- ·))).2.1
  refine ⟨?_, (tm_facts _).1⟩
  unfold nr
  rw [List.length_map, e, List.length_map] at h2
  rw [e]
  exact Nat.lt_of_le_of_lt h2 h
/-- A row whose values from -100 to 100, and its slopes', fit. -/
def Sz (g : List Int) : Prop := g.length ≤ 4 ∧ ∃ B : Int, 0 ≤ B ∧ Bn B g ∧ B * 200 ^ g.length ≤ 4000000000000000000
/-- What the divisions of the undivided chain want behind two rows. -/
inductive Goo : List Int → List Int → Prop
  | one {a b : List Int} (h : b.length = 1) : Goo a b
  | more {a b : List Int} (h : 2 ≤ b.length) (X Y : Int) (hX : 0 ≤ X) (hY : 1 ≤ Y) (la : a.length ≤ 4) (ba : Bn X a) (bb : Bn Y b) (tb : Tp b) (fit : X * (2 * Y) ^ (a.length + 1 - b.length) ≤ 4000000000000000000) (cap : X ≤ 4000000000000000000 ∧ Y ≤ 4000000000000000000) (pa : 1 ≤ a.length) (lb : b.length ≤ 4)
    (sz : Sz (nr a b)) (t : nr a b ≠ [] → Goo b (nr a b)) : Goo a b
theorem goo_three {a b : List Int} {X Y : Int} (hX : 0 ≤ X) (hY : 1 ≤ Y) (cap : X ≤ 4000000000000000000 ∧ Y ≤ 4000000000000000000) (ba : Bn X a) (bb : Bn Y b) (la : a.length = 3) (lb : b.length = 2) (tb : Tp b) (h : X * (2 * Y) * (2 * Y) ≤ 20000000000000000) : Goo a b := by
  have hb : b ≠ [] := fun e => by rw [e] at lb; cases lb
  obtain ⟨n1, n2⟩ := nr_len (f := a) hb tb
  have bn := nr_bn hX hY ba bb hb
  have e : X * (2 * Y) ^ (a.length + 1 - b.length) = X * (2 * Y) * (2 * Y) := by
    rw [la, lb]
    show X * (2 * Y) ^ 2 = _
    rw [Int.pow_succ, Int.pow_succ, Int.pow_zero]; grind
  rw [e] at bn
  have h0 : 0 ≤ X * (2 * Y) * (2 * Y) := Int.mul_nonneg (Int.mul_nonneg hX (by omega)) (by omega)
  refine .more (by omega) X Y hX hY (by omega) ba bb tb (by rw [e]; omega) cap (by omega) (by omega) ⟨by omega, _, h0, bn, ?_⟩ fun hn => .one ?_
  · rcases show (nr a b).length = 0 ∨ (nr a b).length = 1 by omega with q | q <;> rw [q]
    · rw [Int.pow_zero]; omega
    · rw [show (200 : Int) ^ 1 = 200 from rfl]; omega
  · have := List.length_pos_iff.2 hn; omega
theorem sz_of {g : List Int} {B : Int} (h4 : g.length ≤ 4) (h : Bn B g) (h0 : 0 ≤ B) (hB : B * 200 ^ g.length ≤ 4000000000000000000) : Sz g := ⟨h4, B, h0, h, hB⟩
theorem row_goo {f : List Int} (h2 : 2 ≤ f.length) (h4 : f.length ≤ 4) (t : Tp f) (hB : Bn 20 f) : Sz f ∧ Sz (slp f) ∧ Goo f (slp f) := by
  obtain ⟨ts, ns⟩ := slp_tp h2 t
  have ls := slp_len f
  have bs := slp_bn (show (0 : Int) ≤ 20 by omega) hB h4
  have p : ∀ n : Nat, n ≤ 4 → (200 : Int) ^ n ≤ 1600000000 := fun n hn => by
    rcases show n = 0 ∨ n = 1 ∨ n = 2 ∨ n = 3 ∨ n = 4 by omega with rfl | rfl | rfl | rfl | rfl <;> decide
  refine ⟨sz_of h4 hB (by omega) (by have := p f.length h4; omega), sz_of (by omega) bs (by omega) (by have := p (slp f).length (by omega); omega), ?_⟩
  rcases show f.length = 2 ∨ f.length = 3 ∨ f.length = 4 by omega with h | h | h
  · exact .one (by omega)
  · exact goo_three (X := 20) (Y := 60) (by omega) (by omega) (by omega) hB bs h (by omega) ts (by omega)
  · obtain ⟨n1, n2⟩ := nr_len (f := f) ns ts
    have bn := nr_bn (X := 20) (Y := 60) (by omega) (by omega) hB bs ns
    have e : (20 : Int) * (2 * 60) ^ (f.length + 1 - (slp f).length) = 288000 := by
      rw [show f.length + 1 - (slp f).length = 2 by omega]; rfl
    have bs' : Bn 60 (slp f) := bs
    have bn' := bn
    rw [e] at bn
    refine .more (by omega) 20 60 (by omega) (by omega) (by omega) hB bs' ts (by rw [e]; omega) (by omega) (by omega) (by omega) (sz_of (by omega) bn (by omega) ?_) fun hn => ?_
    · rcases show (nr f (slp f)).length = 0 ∨ (nr f (slp f)).length = 1 ∨ (nr f (slp f)).length = 2 by omega with q | q | q <;> rw [q] <;> decide
    · have := List.length_pos_iff.2 hn
      rcases show (nr f (slp f)).length = 1 ∨ (nr f (slp f)).length = 2 by omega with q | q
      · exact .one q
      · exact goo_three (X := 60) (Y := 288000) (by omega) (by omega) (by omega) bs' bn (by omega) q n2 (by omega)
theorem nr_one {a b : List Int} (h : b.length = 1) (t : Tp b) : nr a b = [] := by
  have := (nr_len (f := a) (fun e => by rw [e] at h; cases h) t).1
  exact List.eq_nil_of_length_eq_zero (by omega)
theorem ptl_one {a b : List Int} (h : b.length = 1) (t : Tp b) (n : Nat) : ptl n a b = [] := by
  cases n with
  | zero => rfl
  | succ n => rw [ptl, if_pos (nr_one h t)]
theorem ptl_len : ∀ (n : Nat) (a b : List Int), (ptl n a b).length ≤ n
  | 0, _, _ => Nat.le_refl _
  | n + 1, a, b => by
    rw [ptl]
    split
    · exact Nat.zero_le _
    · rw [List.length_cons]; have := ptl_len n b (nr a b); omega
theorem goo_sz {a b : List Int} (h : Goo a b) (t : Tp b) (ne : b ≠ []) : ∀ n, ∀ g ∈ ptl n a b, Sz g := by
  induction h with
  | one h => intro n g hg; rw [ptl_one h t] at hg; exact absurd hg (by simp)
  | @more a b h X Y hX hY la ba bb tb fit cap pa lb sz t' ih =>
    intro n
    cases n with
    | zero => intro g hg; exact absurd hg (by simp [ptl])
    | succ n =>
      intro g hg
      rw [ptl] at hg
      by_cases h0 : nr a b = []
      · rw [if_pos h0] at hg; exact absurd hg (by simp)
      · rw [if_neg h0] at hg
        rcases List.mem_cons.1 hg with rfl | hg
        · exact sz
        · exact ih h0 (nr_len ne tb).2 h0 n g hg
theorem pch_sz {f : List Int} (h0 : f ≠ []) (h4 : f.length ≤ 4) (t : Tp f) (hB : Bn 20 f) : ∀ g ∈ pch f, Sz g := by
  have l1 := List.length_pos_iff.2 h0
  unfold pch
  by_cases h : f.length = 1
  · rw [if_pos (List.eq_nil_of_length_eq_zero (by rw [slp_len]; omega))]
    intro g hg
    rw [List.mem_singleton.1 hg]
    exact sz_of h4 hB (by omega) (by rw [h]; decide)
  · obtain ⟨ts, ns⟩ := slp_tp (show 2 ≤ f.length by omega) t
    obtain ⟨a, b, c⟩ := row_goo (show 2 ≤ f.length by omega) h4 t hB
    rw [if_neg ns]
    intro g hg
    rcases List.mem_cons.1 hg with rfl | hg
    · exact a
    · rcases List.mem_cons.1 hg with rfl | hg
      · exact b
      · exact goo_sz c ts ns 8 g hg
theorem pch_len (f : List Int) : (pch f).length ≤ 10 := by
  unfold pch
  split
  · simp
  · have := ptl_len 8 f (slp f)
    rw [List.length_cons, List.length_cons]; omega

end Go.Proofs.Ytbdpcpodmmhjaaa.Stu
