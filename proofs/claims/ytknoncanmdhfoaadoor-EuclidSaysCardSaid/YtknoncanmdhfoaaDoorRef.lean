/- Contracts of the document's answer for package euclid (package rankmereref1: Gcd, parts, Bezout, Steps), within the document's bounds. -/
import Derived.Test.YtknoncanmdhfoaaDoorMid
namespace Go.Proofs.YtknoncanmdhfoaaDoor
open Go.ChangeShapes Go.WideShapes Go.ChangeAt Go.RowKit
set_option linter.unusedVariables false

theorem abs_any (n : Int) (w : World) (h1 : -1000000 ≤ n) (h2 : n ≤ 1000000) :
    Calls Tryd.prog 13 #[.int .i64 n] w fun e w' => e = .returned (.int .i64 (n.natAbs : Int)) ∧ w = w' := by
  by_cases h : n < 0
  · have E := Lib.hid (show ((n.natAbs : Nat) : Int) = -n by omega)
    go_enter Tryd.func13, Tryd.ntmps13
    go_wp2
    go_ret
    exact ⟨ret_int E.out.symm, rfl⟩
  · have E := Lib.hid (show ((n.natAbs : Nat) : Int) = n by omega)
    go_enter Tryd.func13, Tryd.ntmps13
    go_wp2
    go_ret
    exact ⟨ret_int E.out.symm, rfl⟩

theorem refGcd_any (k : Nat) : ∀ (a b : Int) (w : World), b.natAbs ≤ k → -1000000 ≤ a → a ≤ 1000000 → -1000000 ≤ b → b ≤ 1000000 →
    Calls Tryd.prog 11 #[.int .i64 a, .int .i64 b] w fun e w' => e = .returned (.int .i64 (Int.gcd a b : Int)) ∧ w = w' := by
  induction k with
  | zero =>
    intro a b w hk h1 h2 h3 h4
    obtain rfl : b = 0 := by omega
    have E := Lib.hid (show ((a.natAbs : Nat) : Int) = (Int.gcd a 0 : Int) by rw [Int.gcd_zero_right])
    go_enter Tryd.func11, Tryd.ntmps11
    go_wp2_with fail
    refine (abs_any _ _ h1 h2).mono ?_; rintro e w' ⟨rfl, rfl⟩
    go_wp2_with fail
    go_ret
    exact ⟨ret_int E.out, rfl⟩
  | succ k ih =>
    intro a b w hk h1 h2 h3 h4
    by_cases h : b = 0
    · subst h
      have E := Lib.hid (show ((a.natAbs : Nat) : Int) = (Int.gcd a 0 : Int) by rw [Int.gcd_zero_right])
      clear ih
      go_enter Tryd.func11, Tryd.ntmps11
      go_wp2_with fail
      refine (abs_any _ _ h1 h2).mono ?_; rintro e w' ⟨rfl, rfl⟩
      go_wp2_with fail
      go_ret
      exact ⟨ret_int E.out, rfl⟩
    · have hb : (b == 0) = false := by rw [beq_eq_false_iff_ne]; exact h
      have hm : (a.tmod b).natAbs < b.natAbs := by rw [Int.natAbs_tmod]; exact Nat.mod_lt _ (by omega)
      have E := Lib.hid (Num.gcd_tmod a b)
      have IH := Lib.hid (ih b (a.tmod b))
      have HM := Lib.hid hm
      clear ih hm
      go_enter Tryd.func11, Tryd.ntmps11
      go_wp2_with fail
      have hm := HM.out
      refine (IH.out _ (by omega) h3 h4 (by omega) (by omega)).mono ?_; rintro e w' ⟨rfl, rfl⟩
      go_wp2_with fail
      go_ret
      exact ⟨ret_int (by rw [E.out]), rfl⟩

/-- How often two numbers make their greatest common divisor, in small numbers. -/
def PartsOk (a b x y : Int) : Prop :=
  x * a + y * b = (Int.gcd a b : Int) ∧ x.natAbs ≤ max 1 b.natAbs ∧ y.natAbs ≤ max 1 a.natAbs ∧ (b = 0 → x = 1 ∧ y = 0)

theorem parts_zero (a : Int) (h : 0 ≤ a) : PartsOk a 0 1 0 := by
  refine ⟨?_, by decide, by simp, fun _ => ⟨rfl, rfl⟩⟩
  rw [Int.gcd_zero_right]; omega

theorem parts_step (a b x y : Int) (ha : 0 ≤ a) (hb : 0 < b) (h : PartsOk b (a % b) x y) :
    PartsOk a b y (x - a / b * y) ∧ (a / b * y).natAbs ≤ max 1 a.natAbs ∧ (x - a / b * y).natAbs ≤ max 1 a.natAbs := by
  obtain ⟨e, k1, k2, k3⟩ := h
  have hr0 := Int.emod_nonneg a (Int.ne_of_gt hb)
  have hr1 := Int.emod_lt_of_pos a hb
  have hsp : a % b + b * (a / b) = a := Int.emod_add_mul_ediv a b
  have hq : 0 ≤ a / b := Int.ediv_nonneg ha (Int.le_of_lt hb)
  have hg : Int.gcd b (a % b) = Int.gcd a b := by
    have := Num.gcd_tmod a b
    rw [Int.tmod_eq_emod_of_nonneg ha] at this
    exact this
  have eq1 : y * a + (x - a / b * y) * b = (Int.gcd a b : Int) := by
    rw [← hg, ← e]
    generalize a / b = q at *
    generalize a % b = r at *
    subst hsp
    grind
  have hqy : (a / b * y).natAbs ≤ (a / b).natAbs * b.natAbs ∨ a % b = 0 := by
    rw [Int.natAbs_mul]
    by_cases hz : a % b = 0
    · exact Or.inr hz
    · exact Or.inl (Nat.mul_le_mul_left _ (by omega))
  have hqb : (a / b).natAbs * b.natAbs + (a % b).natAbs = a.natAbs := by
    have e1 : (b * (a / b)).natAbs = b.natAbs * (a / b).natAbs := Int.natAbs_mul _ _
    have e2 : 0 ≤ b * (a / b) := Int.mul_nonneg (Int.le_of_lt hb) hq
    rw [Nat.mul_comm, ← e1]
    omega
  by_cases hz : a % b = 0
  · obtain ⟨rfl, rfl⟩ := k3 hz
    rw [Int.mul_zero] at *
    refine ⟨⟨eq1, ?_, ?_, fun h => by omega⟩, ?_, ?_⟩ <;> simp <;> omega
  · have h1 : (a / b * y).natAbs ≤ (a / b).natAbs * b.natAbs := by rcases hqy with h | h; exact h; exact absurd h hz
    refine ⟨⟨eq1, ?_, ?_, fun h => by omega⟩, ?_, ?_⟩ <;> omega

/-- parts: some numbers that will do. -/
def SomeParts (a b : Int) (w : World) (e : Ending) (w' : World) : Prop :=
  ∃ x y : Int, PartsOk a b x y ∧ e = .returned (.tuple #[.int .i64 x, .int .i64 y]) ∧ Drew w w'

set_option maxHeartbeats 1600000 in
theorem parts_any (k : Nat) : ∀ (a b : Int) (w : World), b.natAbs ≤ k → 0 ≤ a → a ≤ 1000000 → 0 ≤ b → b ≤ 1000000 →
    Calls Tryd.prog 12 #[.int .i64 a, .int .i64 b] w fun e w' => SomeParts a b w e w' := by
  have zero : ∀ (a : Int) (w : World), 0 ≤ a → Calls Tryd.prog 12 #[.int .i64 a, .int .i64 0] w fun e w' => SomeParts a 0 w e w' := by
    intro a w h
    go_enter Tryd.func12, Tryd.ntmps12
    go_wp2_with fail
    go_ret2
    exact ⟨1, 0, parts_zero a h, rfl, Drew.refl _⟩
  induction k with
  | zero =>
    intro a b w hk h1 h2 h3 h4
    obtain rfl : b = 0 := by omega
    exact zero a w h1
  | succ k ih =>
    intro a b w hk h1 h2 h3 h4
    by_cases h : b = 0
    · subst h; exact zero a w h1
    · have hp : 0 < b := by omega
      have hr0 := Int.emod_nonneg a h
      have hr1 := Int.emod_lt_of_pos a hp
      have hq0 : 0 ≤ a / b := Int.ediv_nonneg h1 h3
      have hq1 : a / b ≤ a := Int.ediv_le_self b h1
      have IH := Lib.hid (ih b (a % b))
      clear ih zero
      go_enter Tryd.func12, Tryd.ntmps12
      go_wp2_with fail
      refine (IH.out _ (by omega) h3 h4 (by omega) (by omega)).mono ?_
      rintro e w1 ⟨x, y, hxy, rfl, hd⟩
      obtain ⟨ok, s1, s2⟩ := parts_step a b x y h1 hp hxy
      have hy : y.natAbs ≤ max 1 b.natAbs := hxy.2.2.1
      have b1 : -1000000 ≤ a / b * y ∧ a / b * y ≤ 1000000 := by omega
      have b2 : -1000000 ≤ x - a / b * y ∧ x - a / b * y ≤ 1000000 := by omega
      have OK := Lib.hid ok
      clear s1 s2 ok hxy hy
      go_wp2_with fail
      go_quiet (fail)
      go_wp2_with fail
      go_ret2
      exact ⟨y, _, OK.out, rfl, hd.more _⟩

/-- From parts of both sizes to a number that will do. -/
theorem parts_fac (a b x y : Int) (hb : b ≠ 0) (h : PartsOk (a.natAbs : Int) (b.natAbs : Int) x y) :
    (a < 0 → Num.FacOk a b (-x)) ∧ (0 ≤ a → Num.FacOk a b x) := by
  obtain ⟨e, k1, k2, k3⟩ := h
  have hg : Int.gcd (a.natAbs : Int) (b.natAbs : Int) = Int.gcd a b := by
    rw [Int.gcd_eq_natAbs_gcd_natAbs, Int.gcd_eq_natAbs_gcd_natAbs, Int.natAbs_natCast, Int.natAbs_natCast]
  rw [hg] at e
  have hk : x.natAbs ≤ b.natAbs := by
    rw [Int.natAbs_natCast] at k1
    omega
  have hdv : b ∣ (Int.gcd a b : Int) - x * (a.natAbs : Int) := by
    have : (Int.gcd a b : Int) - x * (a.natAbs : Int) = y * (b.natAbs : Int) := by omega
    rw [this]
    exact Int.dvd_mul_of_dvd_right Int.dvd_natAbs_self
  constructor
  · intro ha
    have ea : ((a.natAbs : Nat) : Int) = -a := by omega
    rw [ea, Int.mul_neg] at hdv
    exact ⟨by rw [Int.neg_mul]; exact hdv, by rw [Int.natAbs_neg]; exact hk⟩
  · intro ha
    have ea : ((a.natAbs : Nat) : Int) = a := by omega
    rw [ea] at hdv
    exact ⟨hdv, hk⟩

/-- The document's answer: some numbers that are Bezout's. -/
def SomeRef (a b : Int) (w : World) (e : Ending) (w' : World) : Prop :=
  ∃ x y : Int, Num.BezOk a b x y ∧ e = .returned (.tuple #[.int .i64 (Int.gcd a b : Int), .int .i64 x, .int .i64 y]) ∧ Drew w w'

set_option maxHeartbeats 1600000 in
theorem refBezout_zero (a : Int) (w : World) (h1 : -1000000 ≤ a) (h2 : a ≤ 1000000) :
    Calls Tryd.prog 5 #[.int .i64 a, .int .i64 0] w fun e w' => SomeRef a 0 w e w' := by
  have hb := Num.bez_zero a
  rcases Int.lt_trichotomy a 0 with h | h | h
  · rw [Int.sign_eq_neg_one_of_neg h] at hb
    have HB := Lib.hid hb
    clear hb
    go_enter Tryd.func5, Tryd.ntmps5
    go_wp2_with fail
    refine (refGcd_any 0 a 0 _ (by decide) h1 h2 (by omega) (by omega)).mono ?_; rintro e w' ⟨rfl, rfl⟩
    go_wp2_with fail
    go_ret3
    exact ⟨_, _, HB.out, by rw [Int.gcd_zero_right]; rfl, Drew.refl _⟩
  · subst h
    rw [Int.sign_zero] at hb
    have HB := Lib.hid hb
    clear hb
    go_enter Tryd.func5, Tryd.ntmps5
    go_wp2_with fail
    refine (refGcd_any 0 0 0 _ (by decide) h1 h2 (by omega) (by omega)).mono ?_; rintro e w' ⟨rfl, rfl⟩
    go_wp2_with fail
    go_ret3
    exact ⟨_, _, HB.out, rfl, Drew.refl _⟩
  · rw [Int.sign_eq_one_of_pos h] at hb
    have HB := Lib.hid hb
    clear hb
    go_enter Tryd.func5, Tryd.ntmps5
    go_wp2_with fail
    refine (refGcd_any 0 a 0 _ (by decide) h1 h2 (by omega) (by omega)).mono ?_; rintro e w' ⟨rfl, rfl⟩
    go_wp2_with fail
    go_ret3
    exact ⟨_, _, HB.out, by rw [Int.gcd_zero_right]; rfl, Drew.refl _⟩

set_option maxHeartbeats 3200000 in
theorem refBezout_in (a b : Int) (w : World) (h1 : -1000000 ≤ a) (h2 : a ≤ 1000000) (h3 : -1000000 ≤ b) (h4 : b ≤ 1000000) (h0 : b ≠ 0) :
    Calls Tryd.prog 5 #[.int .i64 a, .int .i64 b] w fun e w' => SomeRef a b w e w' := by
  have hne : (b == 0) = false := by rw [beq_eq_false_iff_ne]; exact h0
  have hgp := Num.gcd_pos a b h0
  have hgs := Num.gcd_small a b h0
  have hgd : Int.gcd a b ∣ b.natAbs := by rw [Int.gcd_eq_natAbs_gcd_natAbs]; exact Nat.gcd_dvd_right _ _
  have hms := Num.div_small b _ hgp hgd h0 h3 h4
  clear hgd
  by_cases ha : a < 0
  · go_enter Tryd.func5, Tryd.ntmps5
    go_wp2_with fail
    refine (refGcd_any b.natAbs a b _ (Nat.le_refl _) h1 h2 h3 h4).mono ?_; rintro e w' ⟨rfl, rfl⟩
    go_wp2_with fail
    refine (abs_any _ _ h1 h2).mono ?_; rintro e w' ⟨rfl, rfl⟩
    go_wp2_with fail
    refine (abs_any _ _ h3 h4).mono ?_; rintro e w' ⟨rfl, rfl⟩
    go_wp2_with fail
    refine (parts_any b.natAbs _ _ _ (by omega) (by omega) (by omega) (by omega) (by omega)).mono ?_
    rintro e w1 ⟨x, z, hxy, rfl, hd⟩
    have hxs : x.natAbs ≤ max 1 b.natAbs := by have := hxy.2.1; rw [Int.natAbs_natCast] at this; exact this
    have hf := (parts_fac a b x z h0 hxy).1 ha
    clear hxy
    go_wp2_with fail
    have hxb : (-x).natAbs ≤ 1000000 := by have := hf.2; omega
    generalize -x = x0 at *
    have HF := Lib.hid hf
    clear hf
    refine (abs_any _ _ h3 h4).mono ?_; rintro e w' ⟨rfl, rfl⟩
    have y0 := Int.emod_nonneg x0 (show (b.natAbs : Int) / (Int.gcd a b : Int) ≠ 0 by omega)
    have y1 := Int.emod_lt_of_pos x0 (show 0 < (b.natAbs : Int) / (Int.gcd a b : Int) by omega)
    obtain ⟨t1, t2⟩ := Num.tmod_fix x0 ((b.natAbs : Int) / (Int.gcd a b : Int)) (by omega)
    have bd := Num.tmod_bound x0 ((b.natAbs : Int) / (Int.gcd a b : Int)) (by omega)
    obtain ⟨s1, s2⟩ := Num.bez_small a b (x0 % ((b.natAbs : Int) / (Int.gcd a b : Int))) (Int.gcd a b) h1 h2 (by omega) y0 (by omega)
    have HE := Lib.hid (show ((b.natAbs / Int.gcd a b : Nat) : Int) = (b.natAbs : Int) / (Int.gcd a b : Int) by simp)
    have HB := Lib.hid (fun y hy => Num.bez_of a b x0 h0 HF.out (x0 % ((b.natAbs : Int) / (Int.gcd a b : Int))) y (by rw [HE.out]) hy)
    by_cases hn : x0.tmod ((b.natAbs : Int) / (Int.gcd a b : Int)) < 0
    · have T := Lib.hid (t1 hn)
      rw [← t1 hn] at y0 y1 s1 s2
      clear t1 t2
      go_wp2_with fail
      go_quiet (fail)
      go_wp2_with fail
      go_ret3
      exact ⟨_, _, HB.out _ rfl, by rw [← T.out]; rfl, hd.more _⟩
    · have T := Lib.hid (t2 (by omega))
      have hn' : 0 ≤ x0.tmod ((b.natAbs : Int) / (Int.gcd a b : Int)) := by omega
      rw [← t2 (by omega)] at y0 y1 s1 s2
      clear t1 t2 hn
      go_wp2_with fail
      go_quiet (fail)
      go_wp2_with fail
      go_ret3
      exact ⟨_, _, HB.out _ rfl, by rw [← T.out]; rfl, hd.more _⟩
  · go_enter Tryd.func5, Tryd.ntmps5
    go_wp2_with fail
    refine (refGcd_any b.natAbs a b _ (Nat.le_refl _) h1 h2 h3 h4).mono ?_; rintro e w' ⟨rfl, rfl⟩
    go_wp2_with fail
    refine (abs_any _ _ h1 h2).mono ?_; rintro e w' ⟨rfl, rfl⟩
    go_wp2_with fail
    refine (abs_any _ _ h3 h4).mono ?_; rintro e w' ⟨rfl, rfl⟩
    go_wp2_with fail
    refine (parts_any b.natAbs _ _ _ (by omega) (by omega) (by omega) (by omega) (by omega)).mono ?_
    rintro e w1 ⟨x, z, hxy, rfl, hd⟩
    have hxs : x.natAbs ≤ max 1 b.natAbs := by have := hxy.2.1; rw [Int.natAbs_natCast] at this; exact this
    have HF := Lib.hid ((parts_fac a b x z h0 hxy).2 (by omega))
    have hxb : (x).natAbs ≤ 1000000 := by have := ((parts_fac a b x z h0 hxy).2 (by omega)).2; omega
    clear hxy
    go_wp2_with fail
    refine (abs_any _ _ h3 h4).mono ?_; rintro e w' ⟨rfl, rfl⟩
    have y0 := Int.emod_nonneg (x) (show (b.natAbs : Int) / (Int.gcd a b : Int) ≠ 0 by omega)
    have y1 := Int.emod_lt_of_pos (x) (show 0 < (b.natAbs : Int) / (Int.gcd a b : Int) by omega)
    obtain ⟨t1, t2⟩ := Num.tmod_fix (x) ((b.natAbs : Int) / (Int.gcd a b : Int)) (by omega)
    have bd := Num.tmod_bound (x) ((b.natAbs : Int) / (Int.gcd a b : Int)) (by omega)
    obtain ⟨s1, s2⟩ := Num.bez_small a b ((x) % ((b.natAbs : Int) / (Int.gcd a b : Int))) (Int.gcd a b) h1 h2 (by omega) y0 (by omega)
    have HE := Lib.hid (show ((b.natAbs / Int.gcd a b : Nat) : Int) = (b.natAbs : Int) / (Int.gcd a b : Int) by simp)
    have HB := Lib.hid (fun y hy => Num.bez_of a b (x) h0 HF.out ((x) % ((b.natAbs : Int) / (Int.gcd a b : Int))) y (by rw [HE.out]) hy)
    by_cases hn : (x).tmod ((b.natAbs : Int) / (Int.gcd a b : Int)) < 0
    · have T := Lib.hid (t1 hn)
      rw [← t1 hn] at y0 y1 s1 s2
      clear t1 t2
      go_wp2_with fail
      go_quiet (fail)
      go_wp2_with fail
      go_ret3
      exact ⟨_, _, HB.out _ rfl, by rw [← T.out]; rfl, hd.more _⟩
    · have T := Lib.hid (t2 (by omega))
      have hn' : 0 ≤ (x).tmod ((b.natAbs : Int) / (Int.gcd a b : Int)) := by omega
      rw [← t2 (by omega)] at y0 y1 s1 s2
      clear t1 t2 hn
      go_wp2_with fail
      go_quiet (fail)
      go_wp2_with fail
      go_ret3
      exact ⟨_, _, HB.out _ rfl, by rw [← T.out]; rfl, hd.more _⟩

/-- The document's Bezout, whatever the second number. -/
theorem refBezout_any (a b : Int) (w : World) (h1 : -1000000 ≤ a) (h2 : a ≤ 1000000) (h3 : -1000000 ≤ b) (h4 : b ≤ 1000000) :
    Calls Tryd.prog 5 #[.int .i64 a, .int .i64 b] w fun e w' => SomeRef a b w e w' := by
  by_cases h : b = 0
  · subst h; exact refBezout_zero a w h1 h2
  · exact refBezout_in a b w h1 h2 h3 h4 h

theorem bezout_any (a b : Int) (w : World) (h1 : -1000000 ≤ a) (h2 : a ≤ 1000000) (h3 : -1000000 ≤ b) (h4 : b ≤ 1000000) :
    Calls Tryd.prog 8 #[.int .i64 a, .int .i64 b] w fun e w' => SomeBez a b w e w' := by
  by_cases h : b = 0
  · subst h; exact bezout_zero a w h1 h2
  · exact bezout_in a b w h1 h2 h3 h4 h

theorem refSteps_ge (k : Nat) : ∀ (a b : Int) (w : World), b.toNat ≤ k → b ≤ a → a ≤ 1000000 → 0 ≤ b →
    Calls Tryd.prog 9 #[.int .i64 a, .int .i64 b] w fun e w' => e = .returned (.int .i64 (Num.st a.toNat b.toNat : Int)) ∧ w = w' := by
  have zero : ∀ (a : Int) (w : World), 0 ≤ a → Calls Tryd.prog 9 #[.int .i64 a, .int .i64 0] w fun e w' => e = .returned (.int .i64 (Num.st a.toNat (0 : Int).toNat : Int)) ∧ w = w' := by
    intro a w h
    have E := Lib.hid (show (Num.st a.toNat (0 : Int).toNat : Int) = 0 by rw [show (0 : Int).toNat = 0 from rfl, Num.st_zero]; rfl)
    have hq : ¬ a < 0 := by omega
    go_enter Tryd.func9, Tryd.ntmps9
    go_wp2_with fail
    go_ret
    exact ⟨ret_int E.out.symm, rfl⟩
  induction k with
  | zero =>
    intro a b w hk h1 h2 h3
    obtain rfl : b = 0 := by omega
    exact zero a w h1
  | succ k ih =>
    intro a b w hk h1 h2 h3
    by_cases h : b = 0
    · subst h; exact zero a w h1
    · have hp : 0 < b := by omega
      have hr0 := Int.emod_nonneg a h
      have hr1 := Int.emod_lt_of_pos a hp
      have hq : ¬ a < b := by omega
      have hb : (b == 0) = false := by rw [beq_eq_false_iff_ne]; exact h
      have ha : 0 ≤ a := by omega
      have hs := Num.st_le b.toNat a.toNat b.toNat (Nat.le_refl _)
      have he : Num.st a.toNat b.toNat = 1 + Num.st b.toNat (a % b).toNat := by
        rw [Num.st_pos _ _ (show 0 < b.toNat by omega), Int.toNat_emod ha h3]
      have hs' : Num.st b.toNat (a % b).toNat ≤ 1000000 := by omega
      have IH := Lib.hid (ih b (a % b))
      have E := Lib.hid he
      clear ih zero he hs
      go_enter Tryd.func9, Tryd.ntmps9
      go_wp2_with fail
      refine (IH.out _ (by omega) (by omega) (by omega) (by omega)).mono ?_
      rintro e w' ⟨rfl, rfl⟩
      generalize Num.st b.toNat (a % b).toNat = n at *
      go_wp2_with fail
      go_ret
      exact ⟨ret_int (by rw [E.out]; omega), rfl⟩

theorem refSteps_any (a b : Int) (w : World) (h1 : 0 ≤ a) (h2 : a ≤ 1000000) (h3 : 0 ≤ b) (h4 : b ≤ 1000000) :
    Calls Tryd.prog 9 #[.int .i64 a, .int .i64 b] w fun e w' => e = .returned (.int .i64 (Num.stp a.toNat b.toNat : Int)) ∧ w = w' := by
  by_cases h : a < b
  · have E := Lib.hid (show Num.stp a.toNat b.toNat = Num.st b.toNat a.toNat by rw [Num.stp, if_pos (by omega)])
    go_enter Tryd.func9, Tryd.ntmps9
    go_wp2_with fail
    refine (refSteps_ge a.toNat b a _ (Nat.le_refl _) (by omega) h4 h1).mono ?_
    rintro e w' ⟨rfl, rfl⟩
    go_wp2_with fail
    go_ret
    exact ⟨ret_int (by rw [E.out]), rfl⟩
  · rw [show Num.stp a.toNat b.toNat = Num.st a.toNat b.toNat by rw [Num.stp, if_neg (by omega)]]
    exact refSteps_ge b.toNat a b w (Nat.le_refl _) (by omega) h2 h3

end Go.Proofs.YtknoncanmdhfoaaDoor
