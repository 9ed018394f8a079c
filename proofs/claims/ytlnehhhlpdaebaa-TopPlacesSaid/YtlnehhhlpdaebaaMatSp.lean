/- Plain facts on the parts of a matrix of whole numbers of up to three rows (Smith): each divides the next one, all together are the determinant, rows and columns may be added; what a matrix with numbers in the middle alone has. No program is named here. -/
import Derived.Test.YtlnehhhlpdaebaaMatSm
namespace Go.Proofs.Ytlnehhhlpdaebaa.Zx
set_option linter.unusedVariables false

/-- What divides all, as a number; the next ones; the determinant. -/
def spp (n : Nat) (m : Nat → Nat → Int) : List Int :=
  if n = 1 then [((dt 1 m).natAbs : Int)] else if n = 2 then [(gg 2 m : Int), (((dt 2 m).natAbs / gg 2 m : Nat) : Int)] else [(gg 3 m : Int), ((gmi 2 m / gg 3 m : Nat) : Int), (((dt 3 m).natAbs / gmi 2 m : Nat) : Int)]
theorem gg_pos {n : Nat} {m : Nat → Nat → Int} (hn : 0 < n) (h0 : dt n m ≠ 0) : 0 < gg n m := Nat.pos_of_ne_zero fun e => h0 (by
  refine dt_zrow (k := 0) hn fun j hj => ?_
  have := gg_of n m hn hj
  rw [e] at this
  exact Int.zero_dvd.1 this)
theorem gmi_pos {p : Nat} {m : Nat → Nat → Int} (h0 : dt (p + 1) m ≠ 0) : 0 < gmi p m := Nat.pos_of_ne_zero fun e => h0 (by
  have := gmi_det p m
  rw [e] at this
  exact Int.zero_dvd.1 this)
theorem nat_dvd {a : Nat} {b : Int} (h : (a : Int) ∣ b) : a ∣ b.natAbs := by
  have := Int.natAbs_dvd_natAbs.2 h
  simpa using this
theorem int_dvd {a b : Nat} (h : a ∣ b) : (a : Int) ∣ (b : Int) := Int.ofNat_dvd.2 h
/-- Three numbers in turn: the facts on them. -/
structure Pts (n : Nat) (l : List Int) (D : Int) : Prop where
  len : l.length = n
  pos : ∀ i, i < n → 1 ≤ l.getD i 0
  dvd : ∀ i, i + 1 < n → l.getD i 0 ∣ l.getD (i + 1) 0
  prod : (pr n fun i => l.getD i 0) = (D.natAbs : Int)
theorem pts2 {a b D : Nat} (ha : 0 < a) (hD : 0 < D) (h : a * a ∣ D) : a ∣ D / a ∧ 0 < D / a ∧ a * (D / a) = D := by
  obtain ⟨c, rfl⟩ := h
  have e : a * a * c / a = a * c := by rw [Nat.mul_assoc]; exact Nat.mul_div_cancel_left _ ha
  rw [e]
  refine ⟨Nat.dvd_mul_right a c, ?_, by rw [Nat.mul_assoc]⟩
  rcases Nat.eq_zero_or_pos (a * c) with h | h
  · exfalso
    rw [Nat.mul_assoc, h] at hD; omega
  · exact h
/-- The parts of a matrix with a determinant. -/
theorem spp_pts {n : Nat} {m : Nat → Nat → Int} (h1 : 0 < n) (h3 : n ≤ 3) (h0 : dt n m ≠ 0) : Pts n (spp n m) (dt n m) := by
  have hn : n = 1 ∨ n = 2 ∨ n = 3 := by omega
  rcases hn with rfl | rfl | rfl
  · have e : spp 1 m = [((dt 1 m).natAbs : Int)] := rfl
    rw [e]
    refine ⟨rfl, fun i hi => ?_, fun i hi => absurd hi (by omega), ?_⟩
    · rw [show i = 0 by omega]; show 1 ≤ ((dt 1 m).natAbs : Int); omega
    · show (1 : Int) * _ = _; rw [Int.one_mul]; rfl
  · have e : spp 2 m = [(gg 2 m : Int), (((dt 2 m).natAbs / gg 2 m : Nat) : Int)] := rfl
    have gp := gg_pos (n := 2) (by decide) h0
    have dp : 0 < (dt 2 m).natAbs := by omega
    obtain ⟨k1, k2, k3⟩ := pts2 (b := 0) gp dp (nat_dvd (gg_det2 m))
    rw [e]
    refine ⟨rfl, fun i hi => ?_, fun i hi => ?_, ?_⟩
    · have : i = 0 ∨ i = 1 := by omega
      rcases this with rfl | rfl
      · show (1 : Int) ≤ (gg 2 m : Int); omega
      · show (1 : Int) ≤ (((dt 2 m).natAbs / gg 2 m : Nat) : Int); omega
    · rw [show i = 0 by omega]; exact int_dvd k1
    · show (1 : Int) * (gg 2 m : Int) * (((dt 2 m).natAbs / gg 2 m : Nat) : Int) = _
      rw [Int.one_mul, ← Int.natCast_mul, k3]
  · have e : spp 3 m = [(gg 3 m : Int), ((gmi 2 m / gg 3 m : Nat) : Int), (((dt 3 m).natAbs / gmi 2 m : Nat) : Int)] := rfl
    have gp := gg_pos (n := 3) (by decide) h0
    have mp := gmi_pos (p := 2) h0
    have dp : 0 < (dt 3 m).natAbs := by omega
    obtain ⟨k1, k2, k3⟩ := pts2 (b := 0) gp mp (gg_gmi m)
    obtain ⟨q, hq⟩ : gmi 2 m ∣ (dt 3 m).natAbs := nat_dvd (gmi_det 2 m)
    have hq0 : 0 < q := Nat.pos_of_ne_zero fun e => by rw [e, Nat.mul_zero] at hq; omega
    have eq3 : (dt 3 m).natAbs / gmi 2 m = q := by rw [hq]; exact Nat.mul_div_cancel_left q mp
    obtain ⟨s, hs⟩ := k1
    have hgm : gmi 2 m = gg 3 m * (gg 3 m * s) := by rw [← hs]; exact k3.symm
    have sq : gmi 2 m * gmi 2 m ∣ (dt 3 m).natAbs * gg 3 m := by
      have := nat_dvd (gmi_sq h0)
      rwa [Int.natAbs_mul, Int.natAbs_natCast] at this
    have k4 : gmi 2 m / gg 3 m ∣ q := by
      rw [hs]
      have e1 : (dt 3 m).natAbs * gg 3 m = gmi 2 m * (q * gg 3 m) := by rw [hq, Nat.mul_assoc]
      rw [e1] at sq
      have s1 : gmi 2 m ∣ q * gg 3 m := Nat.dvd_of_mul_dvd_mul_left mp sq
      rw [hgm, Nat.mul_comm q] at s1
      exact Nat.dvd_of_mul_dvd_mul_left gp s1
    rw [e, eq3]
    refine ⟨rfl, fun i hi => ?_, fun i hi => ?_, ?_⟩
    · have : i = 0 ∨ i = 1 ∨ i = 2 := by omega
      rcases this with rfl | rfl | rfl
      · show (1 : Int) ≤ (gg 3 m : Int); omega
      · show (1 : Int) ≤ ((gmi 2 m / gg 3 m : Nat) : Int); omega
      · show (1 : Int) ≤ (q : Int); omega
    · have : i = 0 ∨ i = 1 := by omega
      rcases this with rfl | rfl
      · show (gg 3 m : Int) ∣ ((gmi 2 m / gg 3 m : Nat) : Int)
        exact int_dvd (by rw [hs]; exact Nat.dvd_mul_right _ _)
      · exact int_dvd k4
    · show (1 : Int) * (gg 3 m : Int) * ((gmi 2 m / gg 3 m : Nat) : Int) * (q : Int) = _
      rw [Int.one_mul, ← Int.natCast_mul, k3, ← Int.natCast_mul, hq]
/-- Rows with the same sums have the same parts; so has the matrix turned. -/
theorem Eql.spp {n : Nat} {m k : Nat → Nat → Int} (h : Eql n m k) (h1 : 0 < n) (h3 : n ≤ 3) (h0 : dt n m ≠ 0) : Zx.spp n m = Zx.spp n k := by
  have hd := h.det
  have hg := h.gg
  have hn : n = 1 ∨ n = 2 ∨ n = 3 := by omega
  rcases hn with rfl | rfl | rfl
  · unfold Zx.spp; rw [if_pos rfl, if_pos rfl, hd]
  · unfold Zx.spp; rw [if_neg (by decide), if_pos rfl, if_neg (by decide), if_pos rfl, hd, hg]
  · have hm := Eql.gmi (p := 2) h h0
    unfold Zx.spp
    rw [if_neg (by decide), if_neg (by decide), if_neg (by decide), if_neg (by decide), hd, hg, hm]
theorem spp_flip (n : Nat) (m : Nat → Nat → Int) (h1 : 0 < n) (h3 : n ≤ 3) : spp n (flip m) = spp n m := by
  have hn : n = 1 ∨ n = 2 ∨ n = 3 := by omega
  rcases hn with rfl | rfl | rfl <;> unfold spp <;> simp only [dt_flip, gg_flip, gmi_flip]
theorem spp_congr {n : Nat} {m k : Nat → Nat → Int} (h : Eqm n n m k) (h1 : 0 < n) (h3 : n ≤ 3) (h0 : dt n m ≠ 0) : spp n m = spp n k :=
  Eql.spp ⟨fun i hi => (Lat.row k hi).congr fun j hj => (h i j hi hj).symm, fun i hi => (Lat.row m hi).congr fun j hj => h i j hi hj⟩ h1 h3 h0
/-- Columns with the same sums. -/
theorem Eql.spp_cols {n : Nat} {m k : Nat → Nat → Int} (h : Eql n (flip m) (flip k)) (h1 : 0 < n) (h3 : n ≤ 3) (h0 : dt n m ≠ 0) : Zx.spp n m = Zx.spp n k := by
  rw [← spp_flip n m h1 h3, ← spp_flip n k h1 h3]
  exact h.spp h1 h3 (by rw [dt_flip]; exact h0)
/-- The last part, so many times, makes any row a sum. -/
theorem spp_last {n : Nat} {m : Nat → Nat → Int} (h1 : 0 < n) (h3 : n ≤ 3) (h0 : dt n m ≠ 0) (x : Nat → Int) : Lat n m fun j => (spp n m).getD (n - 1) 0 * x j := by
  have hn : n = 1 ∨ n = 2 ∨ n = 3 := by omega
  rcases hn with rfl | rfl | rfl
  · refine lat_part (p := 0) h0 ?_ x
    show dt 1 m ∣ (gmi 0 m : Int) * ((dt 1 m).natAbs : Int)
    exact Int.dvd_mul_of_dvd_right (Int.dvd_natAbs.2 (Int.dvd_refl _))
  · refine lat_part (p := 1) h0 ?_ x
    have gp := gg_pos (n := 2) (by decide) h0
    obtain ⟨_, _, k3⟩ := pts2 (b := 0) gp (show 0 < (dt 2 m).natAbs by omega) (nat_dvd (gg_det2 m))
    have eg : gmi 1 m = gg 2 m := by
      rw [gmi_is]
      refine Nat.dvd_antisymm (gg_dvd.2 fun i j hi hj => ?_) (gg_dvd.2 fun i j hi hj => ?_)
      · have hi2 : i = 0 ∨ i = 1 := by omega
        have hj2 : j = 0 ∨ j = 1 := by omega
        have key := fun a b (ha : a < 2) (hb : b < 2) => gg_of 2 (fun i j => dt 1 (wo m i j)) ha hb
        have one : ∀ f : Nat → Nat → Int, dt 1 f = f 0 0 := fun f => by
          show 0 + sgn 0 * f 0 0 * 1 = f 0 0
          rw [show sgn 0 = 1 from rfl]; grind
        rcases hi2 with rfl | rfl <;> rcases hj2 with rfl | rfl
        · have := key 1 1 (by decide) (by decide); rw [one] at this; exact this
        · have := key 1 0 (by decide) (by decide); rw [one] at this; exact this
        · have := key 0 1 (by decide) (by decide); rw [one] at this; exact this
        · have := key 0 0 (by decide) (by decide); rw [one] at this; exact this
      · have one : dt 1 (wo m i j) = wo m i j 0 0 := by
          show 0 + sgn 0 * wo m i j 0 0 * 1 = _
          rw [show sgn 0 = 1 from rfl]; grind
        rw [one]
        exact gg_of 2 m (by unfold Mx.sk; split <;> omega) (by unfold Mx.sk; split <;> omega)
    show dt 2 m ∣ (gmi 1 m : Int) * (((dt 2 m).natAbs / gg 2 m : Nat) : Int)
    rw [eg, ← Int.natCast_mul, k3]
    exact Int.dvd_natAbs.2 (Int.dvd_refl _)
  · refine lat_part (p := 2) h0 ?_ x
    have mp := gmi_pos (p := 2) h0
    obtain ⟨q, hq⟩ : gmi 2 m ∣ (dt 3 m).natAbs := nat_dvd (gmi_det 2 m)
    have eq3 : (dt 3 m).natAbs / gmi 2 m = q := by rw [hq]; exact Nat.mul_div_cancel_left q mp
    show dt 3 m ∣ (gmi 2 m : Int) * (((dt 3 m).natAbs / gmi 2 m : Nat) : Int)
    rw [eq3, ← Int.natCast_mul, ← hq]
    exact Int.dvd_natAbs.2 (Int.dvd_refl _)
/-- Numbers in the middle alone, each of which divides the next one. -/
structure Dgl (n : Nat) (f : Nat → Nat → Int) : Prop where
  off : ∀ i j, i < n → j < n → i ≠ j → f i j = 0
  pos : ∀ i, i < n → 0 < f i i
  dvd : ∀ i, i + 1 < n → f i i ∣ f (i + 1) (i + 1)
theorem Dgl.le {n : Nat} {f : Nat → Nat → Int} (h : Dgl n f) : ∀ i j, i ≤ j → j < n → f i i ∣ f j j := fun i j hij => by
  induction j with
  | zero => intro _; rw [show i = 0 by omega]; exact Int.dvd_refl _
  | succ j ih =>
    intro hj
    by_cases e : i = j + 1
    · rw [e]; exact Int.dvd_refl _
    · exact Int.dvd_trans (ih (by omega) (by omega)) (h.dvd j hj)
theorem Dgl.gg {n : Nat} {f : Nat → Nat → Int} (h : Dgl n f) (hn : 0 < n) : (Zx.gg n f : Int) = f 0 0 := by
  have hp := h.pos 0 hn
  have e : Zx.gg n f = (f 0 0).natAbs := Nat.dvd_antisymm (nat_dvd (gg_of n f hn hn)) (gg_dvd.2 fun i j hi hj => by
    by_cases e : i = j
    · subst e; exact Int.natAbs_dvd.2 (h.le 0 i (Nat.zero_le i) hi)
    · rw [h.off i j hi hj e]; exact Int.dvd_zero _)
  rw [e]; omega
theorem Dgl.dt {n : Nat} {f : Nat → Nat → Int} (h : Dgl n f) : Zx.dt n f = pr n fun i => f i i := dt_upper n f fun i j hi hj hlt => h.off i j hi hj (by omega)
theorem wo_2 (f : Nat → Nat → Int) (i j : Nat) : Zx.dt 2 (wo f i j) = f (Mx.sk i 0) (Mx.sk j 0) * f (Mx.sk i 1) (Mx.sk j 1) - f (Mx.sk i 0) (Mx.sk j 1) * f (Mx.sk i 1) (Mx.sk j 0) := dt_2 _
theorem Dgl.gmi {f : Nat → Nat → Int} (h : Dgl 3 f) : (Zx.gmi 2 f : Int) = f 0 0 * f 1 1 := by
  have p0 := h.pos 0 (by decide)
  have p1 := h.pos 1 (by decide)
  have pp := Int.mul_pos p0 p1
  have o : ∀ i j, i < 3 → j < 3 → i ≠ j → f i j = 0 := h.off
  have d12 : f 1 1 ∣ f 2 2 := h.dvd 1 (by decide)
  have d01 : f 0 0 ∣ f 1 1 := h.dvd 0 (by decide)
  have e : Zx.gmi 2 f = (f 0 0 * f 1 1).natAbs := by
    rw [gmi_is]
    refine Nat.dvd_antisymm (nat_dvd ?_) (gg_dvd.2 fun i j hi hj => ?_)
    · have := gg_of 3 (fun i j => Zx.dt 2 (wo f i j)) (i := 2) (j := 2) (by decide) (by decide)
      have e2 : Zx.dt 2 (wo f 2 2) = f 0 0 * f 1 1 := by
        rw [wo_2]
        show f 0 0 * f 1 1 - f 0 1 * f 1 0 = _
        rw [o 0 1 (by decide) (by decide) (by decide)]; grind
      rw [e2] at this; exact this
    · rw [Int.natAbs_dvd, wo_2]
      have hi3 : i = 0 ∨ i = 1 ∨ i = 2 := by omega
      have hj3 : j = 0 ∨ j = 1 ∨ j = 2 := by omega
      have a01 := o 0 1 (by decide) (by decide) (by decide)
      have a02 := o 0 2 (by decide) (by decide) (by decide)
      have a10 := o 1 0 (by decide) (by decide) (by decide)
      have a12 := o 1 2 (by decide) (by decide) (by decide)
      have a20 := o 2 0 (by decide) (by decide) (by decide)
      have a21 := o 2 1 (by decide) (by decide) (by decide)
      obtain ⟨x, hx⟩ := d01
      obtain ⟨y, hy⟩ := d12
      rcases hi3 with rfl | rfl | rfl <;> rcases hj3 with rfl | rfl | rfl
      · show f 0 0 * f 1 1 ∣ f 1 1 * f 2 2 - f 1 2 * f 2 1
        rw [a12, hy, hx]; exact ⟨f 0 0 * x * x * y * x * 0 + x * y, by grind⟩
      · show f 0 0 * f 1 1 ∣ f 1 0 * f 2 2 - f 1 2 * f 2 0
        rw [a10, a12]; exact ⟨0, by grind⟩
      · show f 0 0 * f 1 1 ∣ f 1 0 * f 2 1 - f 1 1 * f 2 0
        rw [a10, a20]; exact ⟨0, by grind⟩
      · show f 0 0 * f 1 1 ∣ f 0 1 * f 2 2 - f 0 2 * f 2 1
        rw [a01, a02]; exact ⟨0, by grind⟩
      · show f 0 0 * f 1 1 ∣ f 0 0 * f 2 2 - f 0 2 * f 2 0
        rw [a02, hy]; exact ⟨y, by grind⟩
      · show f 0 0 * f 1 1 ∣ f 0 0 * f 2 1 - f 0 1 * f 2 0
        rw [a21, a01]; exact ⟨0, by grind⟩
      · show f 0 0 * f 1 1 ∣ f 0 1 * f 1 2 - f 0 2 * f 1 1
        rw [a01, a02]; exact ⟨0, by grind⟩
      · show f 0 0 * f 1 1 ∣ f 0 0 * f 1 2 - f 0 2 * f 1 0
        rw [a12, a02]; exact ⟨0, by grind⟩
      · show f 0 0 * f 1 1 ∣ f 0 0 * f 1 1 - f 0 1 * f 1 0
        rw [a01]; exact ⟨1, by grind⟩
  rw [e]; omega
/-- Such a matrix has its own middle as parts. -/
theorem Dgl.spp {n : Nat} {f : Nat → Nat → Int} (h : Dgl n f) (h1 : 0 < n) (h3 : n ≤ 3) : ∀ i, i < n → (Zx.spp n f).getD i 0 = f i i := by
  have hd := h.dt
  have hn : n = 1 ∨ n = 2 ∨ n = 3 := by omega
  rcases hn with rfl | rfl | rfl
  · intro i hi
    have p0 := h.pos 0 (by decide)
    rw [show i = 0 by omega]
    have e : Zx.dt 1 f = f 0 0 := by rw [hd]; show 1 * f 0 0 = _; omega
    show ((Zx.dt 1 f).natAbs : Int) = _
    rw [e]; omega
  · intro i hi
    have p0 := h.pos 0 (by decide)
    have p1 := h.pos 1 (by decide)
    have g := h.gg (by decide)
    have e : Zx.dt 2 f = f 0 0 * f 1 1 := by rw [hd]; show 1 * f 0 0 * f 1 1 = _; rw [Int.one_mul]
    have : i = 0 ∨ i = 1 := by omega
    rcases this with rfl | rfl
    · exact g
    · show (((Zx.dt 2 f).natAbs / Zx.gg 2 f : Nat) : Int) = _
      rw [e, Int.natAbs_mul]
      have e2 : Zx.gg 2 f = (f 0 0).natAbs := by omega
      rw [e2, Nat.mul_div_cancel_left _ (by omega)]; omega
  · intro i hi
    have p0 := h.pos 0 (by decide)
    have p1 := h.pos 1 (by decide)
    have p2 := h.pos 2 (by decide)
    have pp := Int.mul_pos p0 p1
    have g := h.gg (by decide)
    have gm := h.gmi
    have e : Zx.dt 3 f = f 0 0 * f 1 1 * f 2 2 := by rw [hd]; show 1 * f 0 0 * f 1 1 * f 2 2 = _; rw [Int.one_mul]
    have e2 : Zx.gg 3 f = (f 0 0).natAbs := by omega
    have e3 : Zx.gmi 2 f = (f 0 0 * f 1 1).natAbs := by omega
    have : i = 0 ∨ i = 1 ∨ i = 2 := by omega
    rcases this with rfl | rfl | rfl
    · exact g
    · show ((Zx.gmi 2 f / Zx.gg 3 f : Nat) : Int) = _
      rw [e3, e2, Int.natAbs_mul, Nat.mul_div_cancel_left _ (by omega)]; omega
    · show (((Zx.dt 3 f).natAbs / Zx.gmi 2 f : Nat) : Int) = _
      rw [e, e3, Int.natAbs_mul (f 0 0 * f 1 1), Nat.mul_div_cancel_left _ (by omega)]; omega
end Go.Proofs.Ytlnehhhlpdaebaa.Zx
