/- Several texts, one behind the other: Bez, Small, Same, RowG, Grid, PartF, OwnM, OwnH, MatG, GaC1, Bz, Fld, GaC2, MtC1, GaC3, MatS, SoC1, RcM, MsM, CopP, MsC1, MsC2, MsC3, MsC4, MxRef, MsRef, MatU, HdsV. -/
import Derived.Test.YtpffekaldpllkaaDoorMasseySaysProofG1
import Derived.Test.YtpffekaldpllkaaDoorRows
import Derived.WalkKit
import Derived.ProofKit
import Derived.OpenShut
import Derived.Handy
import Derived.Deep.QuietTactic
import Derived.BigQuiet
import Derived.Lib.Hide
import Derived.Lib.SliceRun
import Derived.Laws.CopyOwn
import Derived.StillTailTactics
import Derived.Deep.RegionHeld3
import Derived.WalkSpells
import Derived.Deep.Cut
import Derived.Deep.CutRange
import Derived.Deep.DeepCutAuto

/- Plain facts on whole numbers: what Bezout's numbers are, that there is just one pair in the bounds, and that Euclid's algorithm with signs keeps to them. No program is named here. -/
namespace Go.Proofs.YtpffekaldpllkaaDoor.Num

/-- What the loop of the algorithm keeps. -/
def FacInv (a b a0 x0 a1 x1 : Int) : Prop :=
  b ∣ a0 - x0 * a ∧ b ∣ a1 - x1 * a ∧ Int.gcd a0 a1 = Int.gcd a b ∧ x0.natAbs * a1.natAbs + x1.natAbs * a0.natAbs ≤ b.natAbs ∧
    x0.natAbs ≤ b.natAbs ∧ x1.natAbs ≤ b.natAbs ∧ a0.natAbs ≤ 1000000 ∧ a1.natAbs ≤ 1000000

theorem fac_start (a b : Int) (ha : a.natAbs ≤ 1000000) (hb : b.natAbs ≤ 1000000) (h0 : b ≠ 0) : FacInv a b a 1 b 0 := by
  refine ⟨?_, ?_, rfl, ?_, ?_, ?_, ha, hb⟩
  · rw [Int.one_mul, Int.sub_self]; exact Int.dvd_zero b
  · rw [Int.zero_mul, Int.sub_zero]; exact Int.dvd_refl b
  · simp
  · simp; omega
  · simp

theorem int_split (a0 a1 : Int) : a0 - a0.tdiv a1 * a1 = a0.tmod a1 := by
  have := Int.tmod_add_mul_tdiv a0 a1
  rw [Int.mul_comm a1] at this
  omega

theorem abs_split (a0 a1 : Int) : a0.natAbs = a1.natAbs * (a0.tdiv a1).natAbs + (a0.tmod a1).natAbs := by
  rw [Int.natAbs_tdiv, Int.natAbs_tmod]
  exact (Nat.div_add_mod _ _).symm

theorem gcd_tmod (a0 a1 : Int) : Int.gcd a1 (a0.tmod a1) = Int.gcd a0 a1 := by
  rw [Int.gcd_eq_natAbs_gcd_natAbs, Int.gcd_eq_natAbs_gcd_natAbs, Int.natAbs_tmod]
  exact gcd_step _ _

theorem mul_q (x1 a0 a1 : Nat) (q r : Nat) (h : a0 = a1 * q + r) (B : Nat) (hB : x1 * a0 ≤ B) (h1 : 0 < a1) : q * x1 ≤ B ∧ q * a1 ≤ a0 ∧ q ≤ a0 := by
  have e : a1 * q ≤ a0 := by omega
  have hq : q ≤ a1 * q := Nat.le_mul_of_pos_left q h1
  have hq2 : q ≤ a0 := by omega
  refine ⟨?_, by rw [Nat.mul_comm]; exact e, hq2⟩
  have : x1 * q ≤ x1 * a0 := Nat.mul_le_mul_left x1 hq2
  rw [Nat.mul_comm]
  omega

theorem fac_step (a b a0 x0 a1 x1 : Int) (hi : FacInv a b a0 x0 a1 x1) (h1 : a1 ≠ 0) (hb : b.natAbs ≤ 1000000) :
    FacInv a b a1 x1 (a0 - a0.tdiv a1 * a1) (x0 - a0.tdiv a1 * x1) ∧
      (a0.tdiv a1).natAbs ≤ 1000000 ∧ (a0.tdiv a1 * a1).natAbs ≤ 1000000 ∧ (a0.tdiv a1 * x1).natAbs ≤ 1000000 := by
  obtain ⟨d0, d1, hg, hs, k0, k1, m0, m1⟩ := hi
  have hsp := abs_split a0 a1
  have h1' : 0 < a1.natAbs := by omega
  have hB : x1.natAbs * a0.natAbs ≤ b.natAbs := by omega
  obtain ⟨q1, q2, q3⟩ := mul_q x1.natAbs a0.natAbs a1.natAbs _ _ hsp b.natAbs hB h1'
  have e0 := int_split a0 a1
  have hlt : (a0.tmod a1).natAbs < a1.natAbs := by rw [Int.natAbs_tmod]; exact Nat.mod_lt _ h1'
  have hx : (x0 - a0.tdiv a1 * x1).natAbs ≤ x0.natAbs + (a0.tdiv a1).natAbs * x1.natAbs := by
    rw [← Int.natAbs_mul]; omega
  have key : x1.natAbs * (a0.tmod a1).natAbs + (x0 - a0.tdiv a1 * x1).natAbs * a1.natAbs ≤ b.natAbs := by
    have t1 : (x0 - a0.tdiv a1 * x1).natAbs * a1.natAbs ≤ (x0.natAbs + (a0.tdiv a1).natAbs * x1.natAbs) * a1.natAbs := Nat.mul_le_mul_right _ hx
    rw [Nat.add_mul] at t1
    have t2 : x1.natAbs * a0.natAbs = x1.natAbs * (a1.natAbs * (a0.tdiv a1).natAbs) + x1.natAbs * (a0.tmod a1).natAbs := by rw [← Nat.mul_add, ← hsp]
    have t3 : (a0.tdiv a1).natAbs * x1.natAbs * a1.natAbs = x1.natAbs * (a1.natAbs * (a0.tdiv a1).natAbs) := by
      rw [Nat.mul_comm (a0.tdiv a1).natAbs, Nat.mul_assoc, Nat.mul_comm (a0.tdiv a1).natAbs]
    omega
  refine ⟨⟨d1, ?_, ?_, ?_, k1, ?_, m1, ?_⟩, by omega, ?_, ?_⟩
  · have e : a0 - a0.tdiv a1 * a1 - (x0 - a0.tdiv a1 * x1) * a = (a0 - x0 * a) - a0.tdiv a1 * (a1 - x1 * a) := by
      rw [Int.sub_mul, Int.mul_sub, Int.mul_assoc]; omega
    rw [e]
    exact Int.dvd_sub d0 (Int.dvd_mul_of_dvd_right d1)
  · rw [e0, gcd_tmod]; exact hg
  · rw [e0]; exact key
  · have : (x0 - a0.tdiv a1 * x1).natAbs * 1 ≤ (x0 - a0.tdiv a1 * x1).natAbs * a1.natAbs := Nat.mul_le_mul_left _ h1'
    omega
  · rw [e0]; omega
  · rw [Int.natAbs_mul]; omega
  · rw [Int.natAbs_mul]; omega

/-- What the algorithm ends with: some number x with b dividing a x - g. -/
def FacOk (a b x : Int) : Prop := b ∣ (Int.gcd a b : Int) - x * a ∧ x.natAbs ≤ b.natAbs

theorem fac_end_neg (a b a0 x0 x1 : Int) (hi : FacInv a b a0 x0 0 x1) (h : a0 < 0) : FacOk a b (-x0) := by
  obtain ⟨d0, _, hg, _, k0, _, _, _⟩ := hi
  rw [Int.gcd_zero_right] at hg
  refine ⟨?_, by rw [Int.natAbs_neg]; exact k0⟩
  rw [← hg, Int.neg_mul]
  have e : ((a0.natAbs : Nat) : Int) - -(x0 * a) = -(a0 - x0 * a) := by omega
  rw [e]
  exact Int.dvd_neg.2 d0

theorem fac_end_pos (a b a0 x0 x1 : Int) (hi : FacInv a b a0 x0 0 x1) (h : 0 ≤ a0) : FacOk a b x0 := by
  obtain ⟨d0, _, hg, _, k0, _, _, _⟩ := hi
  rw [Int.gcd_zero_right] at hg
  refine ⟨?_, k0⟩
  rw [← hg]
  have e : ((a0.natAbs : Nat) : Int) - x0 * a = a0 - x0 * a := by omega
  rw [e]
  exact d0

theorem tmod_fix (n m : Int) (hm : 0 < m) : (n.tmod m < 0 → n.tmod m + m = n % m) ∧ (0 ≤ n.tmod m → n.tmod m = n % m) := by
  have e : n.tmod m = n % m - if 0 ≤ n ∨ m ∣ n then 0 else m.natAbs := Int.tmod_eq_emod
  have h0 := Int.emod_nonneg n (Int.ne_of_gt hm)
  have h1 := Int.emod_lt_of_pos n hm
  by_cases c : 0 ≤ n ∨ m ∣ n
  · rw [if_pos c] at e
    constructor <;> intro h <;> omega
  · rw [if_neg c] at e
    constructor <;> intro h <;> omega

theorem tmod_bound (n m : Int) (hm : 0 < m) : -m < n.tmod m ∧ n.tmod m < m := by
  have h1 := Int.natAbs_tmod n m
  have h2 := Nat.mod_lt n.natAbs (show 0 < m.natAbs by omega)
  omega

/-- Bezout's numbers: g, and x and y with a x + b y = g, x the least from 0 on if b is not 0. -/
def BezOk (a b x y : Int) : Prop :=
  a * x + b * y = (Int.gcd a b : Int) ∧ (b ≠ 0 → 0 ≤ x ∧ x < ((b.natAbs / Int.gcd a b : Nat) : Int)) ∧ (b = 0 → x = a.sign ∧ y = 0)

theorem gcd_pos (a b : Int) (hb : b ≠ 0) : 0 < Int.gcd a b := Int.gcd_pos_of_ne_zero_right a hb

theorem bez_zero (a : Int) : BezOk a 0 a.sign 0 := by
  refine ⟨?_, fun h => absurd rfl h, fun _ => ⟨rfl, rfl⟩⟩
  rw [Int.gcd_zero_right]
  rcases Int.lt_trichotomy a 0 with h | h | h
  · rw [Int.sign_eq_neg_one_of_neg h]; omega
  · subst h; decide
  · rw [Int.sign_eq_one_of_pos h]; omega

/-- From a number that will do to the least one. -/
theorem bez_of (a b x0 : Int) (hb : b ≠ 0) (hx : FacOk a b x0) :
    ∀ x y : Int, x = x0 % ((b.natAbs / Int.gcd a b : Nat) : Int) → y = ((Int.gcd a b : Int) - a * x).tdiv b → BezOk a b x y := by
  intro x y ex ey
  have hg := gcd_pos a b hb
  have hd : Int.gcd a b ∣ b.natAbs := by
    rw [Int.gcd_eq_natAbs_gcd_natAbs]; exact Nat.gcd_dvd_right _ _
  obtain ⟨m, hm⟩ := hd
  have em : b.natAbs / Int.gcd a b = m := by rw [hm]; exact Nat.mul_div_cancel_left m hg
  rw [em] at ex
  have hmp : 0 < m := by
    refine Nat.pos_of_ne_zero fun h => ?_
    subst h; omega
  have hda : (Int.gcd a b : Int) ∣ a := Int.gcd_dvd_left a b
  obtain ⟨a', ha'⟩ := hda
  have hx0 := Int.emod_nonneg x0 (show (m : Int) ≠ 0 by omega)
  have hx1 := Int.emod_lt_of_pos x0 (show (0 : Int) < (m : Int) by omega)
  have hsplit := Int.emod_add_mul_ediv x0 m
  have hbm : b ∣ (Int.gcd a b : Int) * (m : Int) := by
    have : ((b.natAbs : Nat) : Int) = (Int.gcd a b : Int) * (m : Int) := by rw [hm]; exact Int.natCast_mul _ _
    rw [← this]; exact Int.dvd_natAbs_self
  have hdiv : b ∣ (Int.gcd a b : Int) - a * x := by
    have e : (Int.gcd a b : Int) - a * x = ((Int.gcd a b : Int) - x0 * a) + (Int.gcd a b : Int) * (m : Int) * (a' * (x0 / m)) := by
      generalize (Int.gcd a b : Int) = g at *
      rw [ex]
      have : x0 % m = x0 - m * (x0 / m) := by omega
      rw [this]
      generalize x0 / (m : Int) = k
      subst ha'
      grind
    rw [e]
    exact Int.dvd_add hx.1 (Int.dvd_mul_of_dvd_left hbm)
  obtain ⟨k, hk⟩ := hdiv
  have ek : y = k := by rw [ey, hk]; exact Int.mul_tdiv_cancel_left k hb
  refine ⟨by rw [ek, ← hk]; omega, fun _ => by rw [em, ex]; exact ⟨hx0, hx1⟩, fun h => absurd h hb⟩

/-- The numbers on the way are small. -/
theorem bez_small (a b x : Int) (g : Nat) (h1 : -1000000 ≤ a) (h2 : a ≤ 1000000) (hg : g ≤ 1000000) (hx : 0 ≤ x) (hx' : x ≤ 1000000) :
    (-1000000000000 ≤ a * x ∧ a * x ≤ 1000000000000) ∧ (-2000000000000 ≤ ((g : Int) - a * x).tdiv b ∧ ((g : Int) - a * x).tdiv b ≤ 2000000000000) := by
  have e : (a * x).natAbs ≤ 1000000 * 1000000 := by
    rw [Int.natAbs_mul]
    exact Nat.mul_le_mul (by omega) (by omega)
  have e1 : (((g : Int) - a * x).tdiv b).natAbs ≤ ((g : Int) - a * x).natAbs := by
    rw [Int.natAbs_tdiv]
    exact Nat.div_le_self _ _
  omega

theorem div_small (b : Int) (g : Nat) (hg : 0 < g) (hd : g ∣ b.natAbs) (h0 : b ≠ 0) (h3 : -1000000 ≤ b) (h4 : b ≤ 1000000) :
    1 ≤ (b.natAbs : Int) / (g : Int) ∧ (b.natAbs : Int) / (g : Int) ≤ 1000000 := by
  have e : (b.natAbs : Int) / (g : Int) = ((b.natAbs / g : Nat) : Int) := by simp
  rw [e]
  have h1 : b.natAbs / g ≤ b.natAbs := Nat.div_le_self _ _
  have h2 : 1 ≤ b.natAbs / g := (Nat.le_div_iff_mul_le hg).2 (by have := Nat.le_of_dvd (by omega) hd; omega)
  omega

theorem gcd_small (a b : Int) (h0 : b ≠ 0) : Int.gcd a b ≤ b.natAbs := Nat.le_of_dvd (by omega) (Int.gcd_eq_natAbs_gcd_natAbs a b ▸ Nat.gcd_dvd_right _ _)

/-- There is just one such pair. -/
theorem bez_one (a b x y x' y' : Int) (h : BezOk a b x y) (h' : BezOk a b x' y') : x = x' ∧ y = y' := by
  by_cases hb : b = 0
  · have e := h.2.2 hb
    have e' := h'.2.2 hb
    exact ⟨by rw [e.1, e'.1], by rw [e.2, e'.2]⟩
  · obtain ⟨e, k, _⟩ := h
    obtain ⟨e', k', _⟩ := h'
    have k := k hb
    have k' := k' hb
    have hg := gcd_pos a b hb
    have hdb : (Int.gcd a b : Int) ∣ b := Int.gcd_dvd_right a b
    obtain ⟨m, hm⟩ := hdb
    -- m divides x - x'
    have key : m ∣ x - x' := by
      have q : ((x - x') * (Int.gcd a b : Int)) = b * (x * y' - x' * y) := by
        grind
      have q2 : (x - x') * (Int.gcd a b : Int) = (m * (x * y' - x' * y)) * (Int.gcd a b : Int) := by
        rw [q]; grind
      exact ⟨_, Int.eq_of_mul_eq_mul_right (by omega) q2⟩
    have em : ((b.natAbs / Int.gcd a b : Nat) : Int) = (m.natAbs : Int) := by
      have : b.natAbs = Int.gcd a b * m.natAbs := by
        have := congrArg Int.natAbs hm
        rw [Int.natAbs_mul] at this
        exact this
      rw [this, Nat.mul_div_cancel_left _ hg]
    rw [em] at k k'
    have ex : x = x' := by
      obtain ⟨t, ht⟩ := key
      have : (x - x').natAbs < m.natAbs := by omega
      rw [ht, Int.natAbs_mul] at this
      have : t = 0 := by
        refine Int.natAbs_eq_zero.1 (Nat.eq_zero_of_not_pos fun hp => ?_)
        have : m.natAbs * 1 ≤ m.natAbs * t.natAbs := Nat.mul_le_mul_left _ hp
        omega
      rw [this, Int.mul_zero] at ht
      omega
    refine ⟨ex, ?_⟩
    subst ex
    exact Int.eq_of_mul_eq_mul_left hb (by omega)

end Go.Proofs.YtpffekaldpllkaaDoor.Num

/- Contracts of the small functions of package euclid: size, sign, residue, allowed, divisor; nothing is assumed but the bounds that each one names. -/
namespace Go.Proofs.YtpffekaldpllkaaDoor
open Go.ChangeShapes Go.WideShapes Go.ChangeAt Go.RowKit
set_option linter.unusedVariables false

theorem ret_int {k : IntKind} {a b : Int} (h : a = b) : Ending.returned (.int k a) = .returned (.int k b) := by rw [h]
theorem wrap64_id {n : Int} (h : -1000000000000000000 ≤ n ∧ n ≤ 1000000000000000000) : wrap64 n = n := by unfold wrap64; omega
theorem ret_bool {a b : Bool} (h : a = b) : Ending.returned (.bool a) = .returned (.bool b) := by rw [h]

/-- The world as it was, but for answers that have been drawn. -/
def Drew (w w' : World) : Prop := ∃ n, w' = w.drewN n
theorem Drew.refl (w : World) : Drew w w := ⟨0, rfl⟩
theorem Drew.same {w w' : World} (h : w = w') : Drew w w' := ⟨0, h.symm⟩
theorem Drew.more {w w' : World} (h : Drew w w') (n : Nat) : Drew w (w'.drewN n) := by
  obtain ⟨m, rfl⟩ := h
  exact ⟨m + n, World.drewN_drewN _ _ _⟩
theorem Drew.trans {w w1 w2 : World} (h : Drew w w1) (h' : Drew w1 w2) : Drew w w2 := by
  obtain ⟨m, rfl⟩ := h'
  exact h.more m
theorem Drew.grown {w w' : World} (h : Drew w w') : Grown w w' := by
  obtain ⟨n, rfl⟩ := h
  induction n with
  | zero => exact Grown.refl _
  | succ n ih => exact Grown.drew ih

/-- A call that answers some number of which P holds, and turns nothing. -/
def SomeInt (P : Int → Prop) (w : World) (e : Ending) (w' : World) : Prop := ∃ n : Int, P n ∧ e = .returned (.int .i64 n) ∧ Drew w w'

theorem size_any (n : Int) (w : World) (h1 : -1000000 ≤ n) (h2 : n ≤ 1000000) :
    Calls Tryd.prog 43 #[.int .i64 n] w fun e w' => e = .returned (.int .i64 (n.natAbs : Int)) ∧ w = w' := by
  by_cases h : n < 0
  · have e : ((n.natAbs : Nat) : Int) = -n := by omega
    have E := Lib.hid e
    clear e
    go_enter Tryd.func43, Tryd.ntmps43
    go_wp2
    go_ret
    exact ⟨ret_int E.out.symm, rfl⟩
  · have e : ((n.natAbs : Nat) : Int) = n := by omega
    have E := Lib.hid e
    clear e
    go_enter Tryd.func43, Tryd.ntmps43
    go_wp2
    go_ret
    exact ⟨ret_int E.out.symm, rfl⟩

theorem sign_any (n : Int) (w : World) :
    Calls Tryd.prog 40 #[.int .i64 n] w fun e w' => e = .returned (.int .i64 n.sign) ∧ w = w' := by
  by_cases h : 0 < n
  · have E := Lib.hid (Int.sign_eq_one_of_pos h)
    go_enter Tryd.func40, Tryd.ntmps40
    go_wp2
    go_ret
    exact ⟨ret_int E.out.symm, rfl⟩
  · by_cases h' : n < 0
    · have E := Lib.hid (Int.sign_eq_neg_one_of_neg h')
      go_enter Tryd.func40, Tryd.ntmps40
      go_wp2
      go_ret
      exact ⟨ret_int E.out.symm, rfl⟩
    · obtain rfl : n = 0 := by omega
      go_enter Tryd.func40, Tryd.ntmps40
      go_wp2
      go_ret
      exact ⟨rfl, rfl⟩

theorem allowed_yes (n : Int) (w : World) (h1 : -1000000 ≤ n) (h2 : n ≤ 1000000) :
    Calls Tryd.prog 44 #[.int .i64 n] w fun e w' => e = .returned (.bool true) ∧ w = w' := by
  go_enter Tryd.func44, Tryd.ntmps44
  go_wp2
  go_ret
  exact ⟨rfl, rfl⟩

theorem allowed_no (n : Int) (w : World) (h : n < -1000000 ∨ 1000000 < n) :
    Calls Tryd.prog 44 #[.int .i64 n] w fun e w' => e = .returned (.bool false) ∧ w = w' := by
  by_cases h' : n < -1000000
  · go_enter Tryd.func44, Tryd.ntmps44
    go_wp2
    go_ret
    exact ⟨rfl, rfl⟩
  · have h1 : -1000000 ≤ n := by omega
    have h2 : 1000000 < n := by omega
    clear h h'
    go_enter Tryd.func44, Tryd.ntmps44
    go_wp2
    go_ret
    exact ⟨ret_bool (decide_eq_false (by omega)), rfl⟩

theorem residue_any (n m : Int) (w : World) (h1 : -1000000 ≤ n) (h2 : n ≤ 1000000) (h3 : 1 ≤ m) (h4 : m ≤ 1000000) :
    Calls Tryd.prog 41 #[.int .i64 n, .int .i64 m] w fun e w' => e = .returned (.int .i64 (n % m)) ∧ w = w' := by
  obtain ⟨f1, f2⟩ := Num.tmod_fix n m (by omega)
  have b1 : n.tmod m < m := by
    have := Int.natAbs_tmod n m
    have := Nat.mod_lt n.natAbs (show 0 < m.natAbs by omega)
    omega
  have b2 : -m < n.tmod m := by
    have := Int.natAbs_tmod n m
    have := Nat.mod_lt n.natAbs (show 0 < m.natAbs by omega)
    omega
  have F1 := Lib.hid f1
  have F2 := Lib.hid f2
  clear f1 f2
  by_cases h : n.tmod m < 0
  · go_enter Tryd.func41, Tryd.ntmps41
    go_wp2
    go_ret
    exact ⟨ret_int (F1.out h), rfl⟩
  · have h' : 0 ≤ n.tmod m := by omega
    clear h
    go_enter Tryd.func41, Tryd.ntmps41
    go_wp2
    go_ret
    exact ⟨ret_int (F2.out h'), rfl⟩

set_option maxHeartbeats 400000 in
theorem divisor_any (a b : Nat) (w : World) (h1 : a ≤ 1000000) (h2 : b ≤ 1000000) :
    Calls Tryd.prog 45 #[.int .i64 (a : Int), .int .i64 (b : Int)] w fun e w' => e = .returned (.int .i64 (Nat.gcd a b : Nat)) ∧ Drew w w' := by
  go_enter Tryd.func45, Tryd.ntmps45
  go_wp2
  go_loopw [0, 1] (fun u v wr => ∃ x y : Nat, x ≤ 1000000 ∧ y ≤ 1000000 ∧ Nat.gcd x y = Nat.gcd a b ∧ u = .int .i64 (x : Int) ∧ v = .int .i64 (y : Int) ∧ Drew w wr) (fun _ v _ => (intOf v).toNat)
  case atStart => exact ⟨a, b, h1, h2, rfl, rfl, rfl, Drew.refl _⟩
  case round =>
    obtain ⟨x, y, hx, hy, hg, rfl, rfl, hw⟩ := hrel
    have G := Lib.hid hg
    have W := Lib.hid hw
    clear hg hw
    by_cases h : y = 0
    · subst h
      go_wp2
      go_ret
      exact ⟨ret_int (by rw [← G.out, Nat.gcd_zero_right]), W.out⟩
    · have h0 : 0 < y := by omega
      have hm := Nat.mod_lt x h0
      have hne : ((y : Int) != 0) = true := by rw [bne_iff_ne]; omega
      clear h
      go_wp2
      go_quiet (fail)
      go_wp2
      go_roundw
      case rel => exact ⟨y, x % y, hy, by omega, by rw [Num.gcd_step]; exact G.out, rfl, by go_num, W.out.more _⟩
      case measure => simp [intOf]; omega

set_option maxHeartbeats 800000 in
theorem factor_any (a b : Int) (w : World) (h1 : -1000000 ≤ a) (h2 : a ≤ 1000000) (h3 : -1000000 ≤ b) (h4 : b ≤ 1000000) (h0 : b ≠ 0) :
    Calls Tryd.prog 42 #[.int .i64 a, .int .i64 b] w fun e w' => SomeInt (Num.FacOk a b) w e w' := by
  have hb : b.natAbs ≤ 1000000 := by omega
  have hs := Num.fac_start a b (by omega) hb h0
  have S := Lib.hid hs
  clear hs h0
  go_enter Tryd.func42, Tryd.ntmps42
  go_wp2
  go_loop [5, 6, 7, 8] (fun u p v q => ∃ a0 x0 a1 x1 : Int, Num.FacInv a b a0 x0 a1 x1 ∧ u = .int .i64 a0 ∧ p = .int .i64 x0 ∧ v = .int .i64 a1 ∧ q = .int .i64 x1) (fun _ _ v _ => (intOf v).natAbs)
  case atStart => exact ⟨a, 1, b, 0, S.out, rfl, rfl, rfl, rfl⟩
  case round =>
    obtain ⟨a0, x0, a1, x1, hi, rfl, rfl, rfl, rfl⟩ := hrel
    have m0 : a0.natAbs ≤ 1000000 := hi.2.2.2.2.2.2.1
    have m1 : a1.natAbs ≤ 1000000 := hi.2.2.2.2.2.2.2
    have m2 : x0.natAbs ≤ 1000000 := Nat.le_trans hi.2.2.2.2.1 hb
    have m3 : x1.natAbs ≤ 1000000 := Nat.le_trans hi.2.2.2.2.2.1 hb
    have p0 : -1000000 ≤ a0 ∧ a0 ≤ 1000000 := by omega
    have p1 : -1000000 ≤ a1 ∧ a1 ≤ 1000000 := by omega
    have p2 : -1000000 ≤ x0 ∧ x0 ≤ 1000000 := by omega
    have p3 : -1000000 ≤ x1 ∧ x1 ≤ 1000000 := by omega
    by_cases h : a1 = 0
    · subst h
      by_cases hn : a0 < 0
      · have E := Lib.hid (Num.fac_end_neg a b a0 x0 x1 hi hn)
        clear hi
        go_wp2
        go_ret
        exact ⟨_, E.out, ret_int rfl, Drew.refl _⟩
      · have E := Lib.hid (Num.fac_end_pos a b a0 x0 x1 hi (by omega))
        clear hi
        go_wp2
        go_ret
        exact ⟨_, E.out, ret_int rfl, Drew.refl _⟩
    · obtain ⟨hi', q0, q1, q2⟩ := Num.fac_step a b a0 x0 a1 x1 hi h hb
      have hne : (a1 != 0) = true := by rw [bne_iff_ne]; exact h
      have hlt : (a0 - a0.tdiv a1 * a1).natAbs < a1.natAbs := by rw [Num.int_split, Int.natAbs_tmod]; exact Nat.mod_lt _ (by omega)
      have HI := Lib.hid hi'
      have HL := Lib.hid hlt
      have r0 : -1000000 ≤ a0.tdiv a1 ∧ a0.tdiv a1 ≤ 1000000 := by omega
      have r1 : -1000000 ≤ a0.tdiv a1 * a1 ∧ a0.tdiv a1 * a1 ≤ 1000000 := by omega
      have r2 : -1000000 ≤ a0.tdiv a1 * x1 ∧ a0.tdiv a1 * x1 ≤ 1000000 := by omega
      clear hi hi' hlt m0 m1 m2 m3 q0 q1 q2
      go_wp2
      go_round
      case rel => exact ⟨_, _, _, _, HI.out, rfl, rfl, rfl, rfl⟩
      case measure => simp [intOf]; exact HL.out

end Go.Proofs.YtpffekaldpllkaaDoor

/- Contracts of package rankmeresame on lists (Turned), and of rankmereref1.in and All. -/
namespace Go.Proofs.YtpffekaldpllkaaDoor
open Go.ChangeShapes Go.WideShapes Go.ChangeAt Go.RowKit
set_option linter.unusedVariables false

/-- An answer true or false, as P says. -/
def Tells (P : Prop) (e : Ending) : Prop := (P ∧ e = .returned (.bool true)) ∨ (¬ P ∧ e = .returned (.bool false))
theorem tells_yes {P : Prop} {e : Ending} (h : Tells P e) (hp : P) : e = .returned (.bool true) := by rcases h with ⟨_, h⟩ | ⟨h, _⟩ <;> first | exact h | exact absurd hp h

theorem list_same (l m : List Int) (h : l.length = m.length) (h2 : ∀ k, k < l.length → l.getD k 0 = m.getD k 0) : l = m := by
  refine List.ext_getElem h fun k h3 h4 => ?_
  have := h2 k h3
  rwa [List.getD_eq_getElem?_getD, List.getD_eq_getElem?_getD, List.getElem?_eq_getElem h3, List.getElem?_eq_getElem h4] at this


theorem refIn_yes (n a b : Int) (w : World) (h1 : a ≤ n) (h2 : n ≤ b) :
    Calls Tryd.prog 22 #[.int .i64 n, .int .i64 a, .int .i64 b] w fun e w' => e = .returned (.bool true) ∧ w = w' := by
  go_enter Tryd.func22, Tryd.ntmps22
  go_wp2
  go_ret
  exact ⟨rfl, rfl⟩

theorem refIn_no (n a b : Int) (w : World) (h : ¬ (a ≤ n ∧ n ≤ b)) :
    Calls Tryd.prog 22 #[.int .i64 n, .int .i64 a, .int .i64 b] w fun e w' => e = .returned (.bool false) ∧ w = w' := by
  by_cases h1 : a ≤ n
  · have h2 : ¬ n ≤ b := by omega
    clear h
    go_enter Tryd.func22, Tryd.ntmps22
    go_wp2
    go_ret
    exact ⟨rfl, rfl⟩
  · clear h
    go_enter Tryd.func22, Tryd.ntmps22
    go_wp2
    go_ret
    exact ⟨rfl, rfl⟩

/-- Each number of the list lies from a to b. -/
def AllIn (l : List Int) (a b : Int) : Prop := ∀ k, k < l.length → a ≤ l.getD k 0 ∧ l.getD k 0 ≤ b

set_option maxHeartbeats 800000 in
theorem all_any (A : Option Addr) (l : List Int) (c : Nat) (a b : Int) (w : World) (hl : Lies w A l) (hn : l.length ≤ 1000000) :
    Calls Tryd.prog 16 #[.slice A l.length c, .int .i64 a, .int .i64 b] w fun e w' => Tells (AllIn l a b) e ∧ w = w' := by
  have HL := Lib.hid hl
  obtain ⟨n, hn'⟩ : ∃ n, n = l.length := ⟨_, rfl⟩
  rw [← hn'] at hn ⊢
  have HN := Lib.hid hn'
  clear hl hn'
  go_enter Tryd.func16, Tryd.ntmps16
  go_wp2_with fail
  go_loop [7] (fun i => ∃ k : Nat, k ≤ n ∧ i = .int .i64 (k : Int) ∧ ∀ j, j < k → a ≤ l.getD j 0 ∧ l.getD j 0 ≤ b) (fun i => n - (intOf i).toNat)
  case atStart => exact ⟨0, Nat.zero_le _, rfl, fun j hj => absurd hj (by omega)⟩
  case round =>
    obtain ⟨k, hk, rfl, hg⟩ := hrel
    have HG := Lib.hid hg
    clear hg
    by_cases hlt : k < n
    · obtain ⟨ad, rfl, _, hc⟩ := HL.out k (by have := HN.out; omega)
      obtain ⟨m, hm⟩ : ∃ m, m = l.getD k 0 := ⟨_, rfl⟩
      rw [← hm] at hc
      by_cases hin : a ≤ m ∧ m ≤ b
      · have GG := Lib.hid (show ∀ j, j < k + 1 → a ≤ l.getD j 0 ∧ l.getD j 0 ≤ b from fun j hj => by
          by_cases e : j = k
          · subst e; rw [← hm]; exact hin
          · exact HG.out j (by omega))
        clear hm
        go_wp2_with fail
        refine (refIn_yes m a b _ hin.1 hin.2).mono ?_; rintro e w' ⟨rfl, rfl⟩
        clear hin
        go_wp2_with fail
        go_round
        case rel => exact ⟨k + 1, by omega, by go_num, GG.out⟩
        case measure => simp [intOf]; omega
      · have NF := Lib.hid (show ¬ AllIn l a b from fun f => hin (by have := f k (by have := HN.out; omega); rw [hm]; exact this))
        have HI := Lib.hid hin
        clear hm hin
        go_wp2_with fail
        refine (refIn_no m a b _ HI.out).mono ?_; rintro e w' ⟨rfl, rfl⟩
        go_wp2_with fail
        go_ret
        exact ⟨.inr ⟨NF.out, rfl⟩, rfl⟩
    · have hF := Lib.hid (show AllIn l a b from fun j hj => HG.out j (by have := HN.out; omega))
      go_wp2_with fail
      go_ret
      exact ⟨.inl ⟨hF.out, rfl⟩, rfl⟩


set_option maxHeartbeats 800000 in
theorem ints_any (A B : Option Addr) (l m : List Int) (c d : Nat) (w : World) (ha : Lies w A l) (hb : Lies w B m) (hn : l.length ≤ 1000000) (hm : m.length ≤ 1000000) :
    Calls Tryd.prog 11 #[.slice A l.length c, .slice B m.length d] w fun e w' => Tells (l = m) e ∧ Kp w w' := by
  have HA := Lib.hid ha
  have HB := Lib.hid hb
  obtain ⟨n, hn'⟩ : ∃ n, n = l.length := ⟨_, rfl⟩
  obtain ⟨q, hq'⟩ : ∃ q, q = m.length := ⟨_, rfl⟩
  rw [← hn'] at hn ⊢
  rw [← hq'] at hm ⊢
  have HN := Lib.hid hn'
  have HQ := Lib.hid hq'
  clear ha hb hn' hq'
  by_cases he : n = q
  · subst he
    have hne : ((n : Int) != (n : Int)) = false := by simp
    go_enter Tryd.func11, Tryd.ntmps11
    go_wp2_with fail
    go_loopw [5] (fun i wr => ∃ k : Nat, k ≤ n ∧ i = .int .i64 (k : Int) ∧ (∀ j, j < k → l.getD j 0 = m.getD j 0) ∧ Kp w wr) (fun i _ => n - (intOf i).toNat)
    case atStart => exact ⟨0, Nat.zero_le _, rfl, fun j hj => absurd hj (by omega), Kp.rfl' _⟩
    case round =>
      obtain ⟨k, hk, rfl, hg, hkp⟩ := hrel
      have HG := Lib.hid hg
      have HK := Lib.hid hkp
      clear hg hkp
      by_cases hlt : k < n
      · obtain ⟨ad, rfl, _, hc⟩ := (HA.out.keep HK.out) k (by have := HN.out; omega)
        obtain ⟨bd, rfl, _, hd⟩ := (HB.out.keep HK.out) k (by have := HQ.out; omega)
        obtain ⟨x, hx⟩ : ∃ x, x = l.getD k 0 := ⟨_, rfl⟩
        obtain ⟨y, hy⟩ : ∃ y, y = m.getD k 0 := ⟨_, rfl⟩
        rw [← hx] at hc
        rw [← hy] at hd
        by_cases hxy : x = y
        · have GG := Lib.hid (show ∀ j, j < k + 1 → l.getD j 0 = m.getD j 0 from fun j hj => by
            by_cases e : j = k
            · subst e; rw [← hx, ← hy]; exact hxy
            · exact HG.out j (by omega))
          have hb : (x != y) = false := by rw [hxy]; simp
          clear hx hy hxy
          go_wp2_with fail
          go_quiet (fail)
          go_wp2_with fail
          go_roundw
          case rel => exact ⟨k + 1, by omega, by go_num, GG.out, HK.out.drewN _⟩
          case measure => simp [intOf]; omega
        · have NF := Lib.hid (show ¬ l = m from fun e => hxy (by rw [hx, hy, e]))
          have hb : (x != y) = true := by rw [bne_iff_ne]; exact hxy
          clear hx hy hxy
          go_wp2_with fail
          go_quiet (fail)
          go_wp2_with fail
          go_ret
          exact ⟨.inr ⟨NF.out, rfl⟩, HK.out.drewN _⟩
      · have YES := Lib.hid (show l = m from list_same l m (by rw [← HN.out, ← HQ.out]) fun j hj => HG.out j (by have := HN.out; omega))
        go_wp2_with fail
        go_ret
        exact ⟨.inl ⟨YES.out, rfl⟩, HK.out⟩
  · have hne : ((n : Int) != (q : Int)) = true := by rw [bne_iff_ne]; omega
    have NF := Lib.hid (show ¬ l = m from fun e => he (by rw [HN.out, HQ.out, e]))
    clear he
    go_enter Tryd.func11, Tryd.ntmps11
    go_wp2_with fail
    go_ret
    exact ⟨.inr ⟨NF.out, rfl⟩, Kp.rfl' _⟩

end Go.Proofs.YtpffekaldpllkaaDoor

/- Rows of memory of the call's own, errors as numbers, and what callers of small functions want: for all packages. -/
namespace Go.Proofs.YtpffekaldpllkaaDoor
open Go.ChangeShapes Go.WideShapes Go.ChangeAt Go.RowKit
set_option linter.unusedVariables false

theorem Drew.kp {w w' : World} (h : Drew w w') : Kp w w' := by
  obtain ⟨n, rfl⟩ := h
  exact (Kp.rfl' w).drewN n

/-- The error that belongs to a number of the document's. -/
def errOf (c : Nat) : Value := if c = 0 then .nilIface else .iface 39 (.int .i64 (c : Int))

/-- Block g of the world is the row of these numbers, and no more. -/
def Row (w : World) (g : Nat) (l : List Int) : Prop := w.heap[g]? = some (.cells (ints l).toArray 3 (0, 0))
theorem Row.lt {w : World} {g : Nat} {l : List Int} (h : Row w g l) : g < w.heap.size := by
  rcases Nat.lt_or_ge g w.heap.size with h' | h'
  · exact h'
  · rw [Row, Array.getElem?_eq_none h'] at h; cases h
theorem Row.cell {w : World} {g : Nat} {l : List Int} (h : Row w g l) (k : Nat) (hk : k < l.length) : w.cell? ⟨g, k, none⟩ = some (.int .i64 (l.getD k 0)) := by
  rw [cell_of_row _ _ k _ _ (0, 0) h]; simp [hk]
theorem Row.free {w : World} {g : Nat} {l : List Int} (h : Row w g l) (k : Nat) : w.frozen? ⟨g, k, none⟩ = false := frozen_of_row w g k _ _ h
theorem Row.put {w : World} {g : Nat} {l : List Int} (h : Row w g l) (k : Nat) (x : Int) : Row (w.setCell ⟨g, k, none⟩ (.int .i64 x)) g (l.set k x) := by
  unfold Row
  rw [heap_setCell_same w g k _ _ _ h]
  simp [ints, List.map_set]
theorem Row.far {w : World} {g : Nat} {l : List Int} (h : Row w g l) {a : Addr} (ha : g ≠ a.block) (u : Value) : Row (w.setCell a u) g l := by
  unfold Row
  rw [heap_setCell_other w a g u ha]; exact h
theorem Row.keep {w w' : World} {g : Nat} {l : List Int} (h : Row w g l) (hk : Kp w w') : Row w' g l := by
  unfold Row
  rw [hk.block g h.lt]; exact h
theorem Row.drewN {w : World} {g : Nat} {l : List Int} (h : Row w g l) (n : Nat) : Row (w.drewN n) g l := h
theorem Row.lies {w : World} {g : Nat} {l : List Int} (h : Row w g l) : Lies w (some ⟨g, 0, none⟩) l := fun k hk => by
  refine ⟨_, rfl, h.lt, ?_⟩
  rw [add_at, h.cell k hk]
theorem Lies.take {w : World} {A : Option Addr} {l : List Int} (h : Lies w A l) (n : Nat) : Lies w A (l.take n) := fun k hk => by
  rw [List.length_take] at hk
  obtain ⟨ad, e, hl, hc⟩ := h k (by omega)
  refine ⟨ad, e, hl, ?_⟩
  rw [hc]
  congr 2
  rw [List.getD_eq_getElem?_getD, List.getD_eq_getElem?_getD, List.getElem?_take_of_lt (by omega)]

/-- A row just made of noughts. -/
theorem row_made {w : World} {base : Nat} {g n : Nat} (h : w.ownsRow base 3 1 (.slice (some ⟨g, 0, none⟩) n n) n (madeCells #[.int .i64 0] (n * 1)).toList) : Row w g (List.replicate n 0) := by
  rcases h.2 with ⟨h', _⟩ | ⟨g', cap, cur, h', _, hg, _, _, hs, ht⟩
  · simp at h'
  · simp only [Value.slice.injEq, Option.some.injEq, Addr.mk.injEq, and_true, true_and] at h'
    obtain ⟨rfl, rfl⟩ := h'
    unfold Row
    rw [hg]
    congr 2
    apply Array.toList_inj.1
    rw [toList_madeCells_one] at ht
    rw [List.take_of_length_le (by rw [Array.length_toList, hs]; exact Nat.le_refl _)] at ht
    rw [ht]
    simp [ints]

theorem errOf_ne (c : Nat) (h : c ≠ 0) : errOf c = .iface 39 (.int .i64 (c : Int)) := by unfold errOf; rw [if_neg h]
theorem errOf_zero : errOf 0 = .nilIface := rfl

theorem quiet_here {P : Program} {f : FuncId} {args : Array Value} {w : World} {n : Nat} {v : Value} (h : Calls P f args (w.drewN n) fun e w' => e = .returned v ∧ w.drewN n = w') :
    Calls P f args (w.drewN n) fun e w'' => e = .returned v ∧ ∃ m, w'' = w.drewN m := h.mono fun _ _ ⟨he, hm⟩ => ⟨he, n, hm.symm⟩

theorem quiet_more {P : Program} {f : FuncId} {args : Array Value} {w : World} {a n : Nat} {v : Value} (h : Calls P f args (w.drewN (a + n)) fun e w' => e = .returned v ∧ w.drewN (a + n) = w') :
    Calls P f args (w.drewN (a + n)) fun e w'' => e = .returned v ∧ ∃ m, w'' = w.drewN (a + m) := h.mono fun _ _ ⟨he, hm⟩ => ⟨he, n, hm.symm⟩

theorem Own.cap {w : World} {B : Nat} {v : Value} {l : List Int} (h : Own w B v l) : ∃ A c, v = .slice A l.length c ∧ Lies w A l ∧ l.length ≤ c := by
  have h' := h
  rcases h'.2 with ⟨rfl, h0⟩ | ⟨g, cap, cur, rfl, _, _, hnc, _⟩
  · obtain rfl : l = [] := List.eq_nil_of_length_eq_zero h0
    exact ⟨Option.none, 0, rfl, Lies.empty _ _, Nat.le_refl _⟩
  · obtain ⟨A, c, e, hl⟩ := h.lies
    injection e with e1 e2 e3
    subst e1 e3
    exact ⟨_, _, rfl, hl, hnc⟩

theorem quiet_drew {P : Program} {f : FuncId} {args : Array Value} {w : World} {n : Nat} {v : Value} (h : Calls P f args (w.drewN n) fun e w' => e = .returned v ∧ Drew (w.drewN n) w') :
    Calls P f args (w.drewN n) fun e w'' => e = .returned v ∧ ∃ m, w'' = w.drewN m := h.mono fun _ _ ⟨he, m, hm⟩ => ⟨he, n + m, by rw [hm, World.drewN_drewN]⟩
theorem quiet_drew_more {P : Program} {f : FuncId} {args : Array Value} {w : World} {a n : Nat} {v : Value} (h : Calls P f args (w.drewN (a + n)) fun e w' => e = .returned v ∧ Drew (w.drewN (a + n)) w') :
    Calls P f args (w.drewN (a + n)) fun e w'' => e = .returned v ∧ ∃ m, w'' = w.drewN (a + m) := h.mono fun _ _ ⟨he, m, hm⟩ => ⟨he, n + m, by rw [hm, World.drewN_drewN, Nat.add_assoc]⟩

/-- A row of the call's own has an address where it is not empty. -/
theorem own_some {w : World} {B : Nat} {v : Value} {l : List Int} (h : Own w B v l) (h0 : 0 < l.length) : ∃ g c, v = .slice (some ⟨g, 0, none⟩) l.length c ∧ B ≤ g ∧ l.length ≤ c := by
  rcases h.2 with ⟨_, h1⟩ | ⟨g, cap, cur, e, hg, _, hc, _⟩
  · omega
  · exact ⟨g, cap, e, hg, hc⟩
theorem own_row {w : World} {B g n c : Nat} {l : List Int} (h : Own w B (.slice (some ⟨g, 0, none⟩) n c) l) : ∃ cur, w.heap[g]? = some (.cells cur 3 (0, 0)) ∧ cur.toList.take l.length = ints l := by
  rcases h.2 with ⟨h0, _⟩ | ⟨g', cap, cur, e, hg, hh, hc, hm, hs, ht⟩
  · cases h0
  · cases e
    exact ⟨cur, hh, by simpa using ht⟩
theorem own_cell {w : World} {B g n c : Nat} {l : List Int} (h : Own w B (.slice (some ⟨g, 0, none⟩) n c) l) (k : Nat) (hk : k < l.length) : w.cell? ⟨g, k, none⟩ = some (.int .i64 (l.getD k 0)) := by
  obtain ⟨cur, hh, ht⟩ := own_row h
  rw [cell_of_row _ _ k _ _ (0, 0) hh, ← Array.getElem?_toList, ← List.getElem?_take_of_lt hk, ht]
  simp [hk]
theorem own_free {w : World} {B g n c : Nat} {l : List Int} (h : Own w B (.slice (some ⟨g, 0, none⟩) n c) l) (k : Nat) : w.frozen? ⟨g, k, none⟩ = false := by
  obtain ⟨cur, hh, ht⟩ := own_row h
  exact frozen_of_row w g k _ _ hh
theorem own_put {w : World} {B g n c : Nat} {l : List Int} (h : Own w B (.slice (some ⟨g, 0, none⟩) n c) l) (k : Nat) (x : Int) :
    Own (w.setCell ⟨g, k, none⟩ (.int .i64 x)) B (.slice (some ⟨g, 0, none⟩) n c) (l.set k x) := by
  rcases h.2 with ⟨h0, _⟩ | ⟨g', cap, cur, e, hg, hh, hc, hm, hs, ht⟩
  · cases h0
  · cases e
    refine ⟨by simp, .inr ⟨g, c, cur.setIfInBounds k (.int .i64 x), by rw [List.length_set], hg, heap_setCell_same w g k _ _ _ hh, by rw [List.length_set]; exact hc, hm, by rw [Array.size_setIfInBounds]; exact hs, ?_⟩⟩
    rw [Array.toList_setIfInBounds, List.length_set, List.take_set, ht]
    simp [ints, List.map_set]

theorem own_far {w : World} {B : Nat} {v : Value} {l : List Int} (h : Own w B v l) {p : Addr} (hp : p.block < B) : some p.block ≠ v.ownBlock := fun e => by
  have := (World.ownsRow.lt h _ e.symm).1
  omega
/-- A row of the call's own that holds these numbers. -/
def SomeRow (l : List Int) (w : World) (e : Ending) (w' : World) : Prop := ∃ v, e = .returned v ∧ Own w' w.heap.size v l ∧ Kp w w'


theorem tells_no {P : Prop} {e : Ending} (h : Tells P e) (hp : ¬ P) : e = .returned (.bool false) := by rcases h with ⟨h, _⟩ | ⟨_, h⟩ <;> first | exact h | exact absurd h hp

theorem add_zero' (a : Addr) : a.add 0 = a := by unfold Addr.add; rw [if_pos rfl]
theorem Lies.drop {w : World} {ad : Addr} {l : List Int} (h : Lies w (some ad) l) (n : Nat) : Lies w (some (ad.add n)) (l.drop n) := fun k hk => by
  rw [List.length_drop] at hk
  obtain ⟨ad', e, hl, hc⟩ := h (n + k) (by omega)
  injection e with e
  subst e
  refine ⟨_, rfl, by rw [block_add]; exact hl, ?_⟩
  rw [add_add, hc, List.getD_eq_getElem?_getD, List.getD_eq_getElem?_getD, List.getElem?_drop]

theorem same_nil (w : World) : Calls Tryd.prog 11 #[.slice none 0 0, .slice none 0 0] w fun e w' => e = .returned (.bool true) ∧ Kp w w' :=
  (ints_any Option.none Option.none [] [] 0 0 w (Lies.empty _ _) (Lies.empty _ _) (by decide) (by decide)).mono fun e w' ⟨ht, hk⟩ => ⟨tells_yes ht rfl, hk⟩
/-- Two rows that are the same, with the lengths as numbers. -/
theorem same_eq (A B : Option Addr) (l m : List Int) (n q c d : Nat) (w : World) (ha : Lies w A l) (hb : Lies w B m) (hn : n = l.length) (hq : q = m.length) (hp : n ≤ 1000) (h : l = m) :
    Calls Tryd.prog 11 #[.slice A n c, .slice B q d] w fun e w' => e = .returned (.bool true) ∧ Kp w w' := by
  subst hn hq h
  exact (ints_any A B l l c d w ha hb (by omega) (by omega)).mono fun e w' ⟨ht, hk⟩ => ⟨tells_yes ht rfl, hk⟩

end Go.Proofs.YtpffekaldpllkaaDoor

/- Matrices in memory: a slice of rows that lies, and one of the call's own whose rows stand apart. For all packages. -/
namespace Go.Proofs.YtpffekaldpllkaaDoor
open Go.ChangeShapes Go.WideShapes Go.ChangeAt Go.RowKit
set_option linter.unusedVariables false

theorem ints_info : (Tryd.prog.info? 22).map (fun i => (i.zero, i.size, i.bytes)) = some (some (.slice none 0 0), 1, 24) := by kernel_rfl

/-- From address A on lie the rows of m. -/
def LiesM (w : World) (A : Option Addr) (m : List (List Int)) : Prop :=
  ∀ k, k < m.length → ∃ ad A' c, A = some ad ∧ ad.block < w.heap.size ∧ w.cell? (ad.add k) = some (.slice A' (m.getD k []).length c) ∧ (m.getD k []).length ≤ c ∧ Lies w A' (m.getD k [])
theorem LiesM.empty (w : World) (A : Option Addr) : LiesM w A [] := fun k h => absurd h (by simp)
theorem LiesM.keep {w w' : World} {A : Option Addr} {m : List (List Int)} (h : LiesM w A m) (hb : Kp w w') : LiesM w' A m := fun k hk => by
  obtain ⟨ad, A', c, e, hl, hc, hle, hr⟩ := h k hk
  exact ⟨ad, A', c, e, Nat.lt_of_lt_of_le hl hb.size, (hb.cell (p := ad.add k) (by rw [block_add]; omega)).trans hc, hle, hr.keep hb⟩
theorem LiesM.drewN {w : World} {A : Option Addr} {m : List (List Int)} (h : LiesM w A m) (n : Nat) : LiesM (w.drewN n) A m := h.keep ((Kp.rfl' w).drewN n)
/-- Row i of a matrix from a rule. -/
theorem LiesM.row {w : World} {A : Option Addr} {r c : Nat} {g : Nat → Nat → Int} (h : LiesM w A (Mx.tab r c g)) {i : Nat} (hi : i < r) :
    ∃ ad A' cap, A = some ad ∧ ad.block < w.heap.size ∧ w.cell? (ad.add i) = some (.slice A' c cap) ∧ c ≤ cap ∧ Lies w A' (Mx.row c (g i)) := by
  obtain ⟨ad, A', cap, e, hl, hc, hle, hr⟩ := h i (by rw [Mx.len_tab]; exact hi)
  rw [Mx.tab_len _ _ _ _ hi] at hc hle
  rw [Mx.tab_at _ _ _ _ hi] at hr
  exact ⟨ad, A', cap, e, hl, hc, hle, hr⟩
theorem Lies.el {w : World} {A : Option Addr} {c : Nat} {g : Nat → Int} (h : Lies w A (Mx.row c g)) {j : Nat} (hj : j < c) : ∃ ad, A = some ad ∧ ad.block < w.heap.size ∧ w.cell? (ad.add j) = some (.int .i64 (g j)) := by
  obtain ⟨ad, e, hl, hc⟩ := h j (by rw [Mx.len_row]; exact hj)
  rw [Mx.row_at _ _ _ hj] at hc
  exact ⟨ad, e, hl, hc⟩

/-- Block g holds the heads of r rows of c numbers each, row i in block G i, each apart from the others, and all behind g. -/
structure Grid (w : World) (g : Nat) (G : Nat → Nat) (r c : Nat) (f : Nat → Nat → Int) : Prop where
  head : w.heap[g]? = some (.cells ((List.range r).map fun i => Value.slice (some ⟨G i, 0, none⟩) c c).toArray 22 (0, 0))
  row : ∀ i, i < r → Row w (G i) (Mx.row c (f i))
  after : ∀ i, i < r → g < G i
  apart : ∀ i j, i < r → j < r → i ≠ j → G i ≠ G j
theorem Grid.lt {w : World} {g : Nat} {G : Nat → Nat} {r c : Nat} {f : Nat → Nat → Int} (h : Grid w g G r c f) : g < w.heap.size := by
  rcases Nat.lt_or_ge g w.heap.size with h' | h'
  · exact h'
  · have := h.head; rw [Array.getElem?_eq_none h'] at this; cases this
theorem Grid.cell {w : World} {g : Nat} {G : Nat → Nat} {r c : Nat} {f : Nat → Nat → Int} (h : Grid w g G r c f) {i : Nat} (hi : i < r) : w.cell? ⟨g, i, none⟩ = some (.slice (some ⟨G i, 0, none⟩) c c) := by
  rw [cell_of_row _ _ i _ _ (0, 0) h.head]; simp [hi]
theorem Grid.el {w : World} {g : Nat} {G : Nat → Nat} {r c : Nat} {f : Nat → Nat → Int} (h : Grid w g G r c f) {i j : Nat} (hi : i < r) (hj : j < c) : w.cell? ⟨G i, j, none⟩ = some (.int .i64 (f i j)) := by
  rw [(h.row i hi).cell j (by rw [Mx.len_row]; exact hj), Mx.row_at _ _ _ hj]
theorem Grid.free {w : World} {g : Nat} {G : Nat → Nat} {r c : Nat} {f : Nat → Nat → Int} (h : Grid w g G r c f) {i : Nat} (hi : i < r) (j : Nat) : w.frozen? ⟨G i, j, none⟩ = false := (h.row i hi).free j
theorem Grid.keep {w w' : World} {g : Nat} {G : Nat → Nat} {r c : Nat} {f : Nat → Nat → Int} (h : Grid w g G r c f) (hk : Kp w w') : Grid w' g G r c f :=
  ⟨by rw [hk.block g h.lt]; exact h.head, fun i hi => (h.row i hi).keep hk, h.after, h.apart⟩
theorem Grid.drewN {w : World} {g : Nat} {G : Nat → Nat} {r c : Nat} {f : Nat → Nat → Int} (h : Grid w g G r c f) (n : Nat) : Grid (w.drewN n) g G r c f := h.keep ((Kp.rfl' w).drewN n)
theorem Grid.new {w : World} {g : Nat} {G : Nat → Nat} {r c : Nat} {f : Nat → Nat → Int} (h : Grid w g G r c f) (o : Obj) : Grid (w.alloc o) g G r c f := h.keep ((Kp.rfl' w).new o)
theorem Grid.ext {w : World} {g : Nat} {G : Nat → Nat} {r c : Nat} {f f' : Nat → Nat → Int} (h : Grid w g G r c f) (e : ∀ i j, i < r → j < c → f i j = f' i j) : Grid w g G r c f' :=
  ⟨h.head, fun i hi => by rw [← Mx.row_ext (fun j hj => e i j hi hj)]; exact h.row i hi, h.after, h.apart⟩
theorem Grid.put {w : World} {g : Nat} {G : Nat → Nat} {r c : Nat} {f : Nat → Nat → Int} (h : Grid w g G r c f) {i : Nat} (hi : i < r) (j : Nat) (x : Int) :
    Grid (w.setCell ⟨G i, j, none⟩ (.int .i64 x)) g G r c (fun a b => if a = i ∧ b = j then x else f a b) := by
  refine ⟨?_, fun a ha => ?_, h.after, h.apart⟩
  · rw [heap_setCell_other w _ g _ (by show g ≠ G i; have := h.after i hi; omega)]; exact h.head
  · by_cases e : a = i
    · subst e
      have := (h.row a ha).put j x
      rw [Mx.row_set] at this
      rw [show (fun b => if a = a ∧ b = j then x else f a b) = fun b => if b = j then x else f a b by funext b; simp]
      exact this
    · rw [show (fun b => if a = i ∧ b = j then x else f a b) = f a by funext b; simp [e]]
      exact (h.row a ha).far (by show G a ≠ G i; exact h.apart a i ha hi e) _
theorem Grid.lies {w : World} {g : Nat} {G : Nat → Nat} {r c : Nat} {f : Nat → Nat → Int} (h : Grid w g G r c f) : LiesM w (some ⟨g, 0, none⟩) (Mx.tab r c f) := fun i hi => by
  rw [Mx.len_tab] at hi
  refine ⟨_, some ⟨G i, 0, none⟩, c, rfl, h.lt, ?_, ?_, ?_⟩
  · rw [add_at, Mx.tab_len _ _ _ _ hi]; exact h.cell hi
  · rw [Mx.tab_len _ _ _ _ hi]; exact Nat.le_refl _
  · rw [Mx.tab_at _ _ _ _ hi]; exact (h.row i hi).lies

/-- The same, where the first k rows alone are made, all of noughts. -/
structure Part (w : World) (g : Nat) (G : Nat → Nat) (r c k : Nat) : Prop where
  head : w.heap[g]? = some (.cells ((List.range r).map fun i => if i < k then Value.slice (some ⟨G i, 0, none⟩) c c else .slice none 0 0).toArray 22 (0, 0))
  row : ∀ i, i < k → Row w (G i) (List.replicate c 0)
  after : ∀ i, i < k → g < G i
  apart : ∀ i j, i < k → j < k → i ≠ j → G i ≠ G j
theorem Part.lt {w : World} {g : Nat} {G : Nat → Nat} {r c k : Nat} (h : Part w g G r c k) : g < w.heap.size := by
  rcases Nat.lt_or_ge g w.heap.size with h' | h'
  · exact h'
  · have := h.head; rw [Array.getElem?_eq_none h'] at this; cases this
theorem Part.keep {w w' : World} {g : Nat} {G : Nat → Nat} {r c k : Nat} (h : Part w g G r c k) (hk : Kp w w') : Part w' g G r c k :=
  ⟨by rw [hk.block g h.lt]; exact h.head, fun i hi => (h.row i hi).keep hk, h.after, h.apart⟩
theorem Part.cell {w : World} {g : Nat} {G : Nat → Nat} {r c k : Nat} (h : Part w g G r c k) {i : Nat} (hi : k ≤ i) (hr : i < r) : w.cell? ⟨g, i, none⟩ = some (.slice none 0 0) := by
  rw [cell_of_row _ _ i _ _ (0, 0) h.head]; simp [hr]; omega
theorem Part.free {w : World} {g : Nat} {G : Nat → Nat} {r c k : Nat} (h : Part w g G r c k) (i : Nat) : w.frozen? ⟨g, i, none⟩ = false := frozen_of_row w g i _ _ h.head
theorem Part.start {w : World} {base g r c : Nat} (h : w.ownsRow base 22 1 (.slice (some ⟨g, 0, none⟩) r r) r (madeCells #[.slice none 0 0] (r * 1)).toList) : Part w g (fun _ => 0) r c 0 := by
  refine ⟨?_, fun i hi => absurd hi (by omega), fun i hi => absurd hi (by omega), fun i j hi => absurd hi (by omega)⟩
  rcases h.2 with ⟨h', _⟩ | ⟨g', cap, cur, h', _, hg, _, _, hs, ht⟩
  · simp at h'
  · simp only [Value.slice.injEq, Option.some.injEq, Addr.mk.injEq, and_true, true_and] at h'
    obtain ⟨rfl, rfl⟩ := h'
    rw [hg]
    congr 2
    apply Array.toList_inj.1
    rw [toList_madeCells_one] at ht
    rw [List.take_of_length_le (by rw [Array.length_toList, hs]; exact Nat.le_refl _)] at ht
    rw [ht]
    refine List.ext_getElem (by simp) fun j h1 h2 => ?_
    simp
theorem Part.step {w w1 : World} {g : Nat} {G : Nat → Nat} {r c k : Nat} (h : Part w g G r c k) (hk : k < r) (hr : Row w1 w.heap.size (List.replicate c 0)) (hkp : Kp w w1) :
    Part (w1.setCell ⟨g, k, none⟩ (.slice (some ⟨w.heap.size, 0, none⟩) c c)) g (fun i => if i = k then w.heap.size else G i) r c (k + 1) := by
  have hlt := h.lt
  have h1 := h.keep hkp
  refine ⟨?_, fun i hi => ?_, fun i hi => ?_, fun i j hi hj hne => ?_⟩
  · rw [heap_setCell_same w1 g k _ _ _ h1.head]
    congr 2
    refine Array.toList_inj.1 (List.ext_getElem (by simp) fun i h2 h3 => ?_)
    simp only [Array.toList_setIfInBounds, List.getElem_set, List.getElem_map, List.getElem_range]
    rcases Nat.lt_trichotomy i k with e | e | e
    · simp [show ¬ k = i by omega, show i < k from e, show i < k + 1 by omega, show ¬ i = k by omega]
    · subst e; simp
    · simp [show ¬ k = i by omega, show ¬ i < k by omega, show ¬ i < k + 1 by omega]
  · by_cases e : i = k
    · subst e
      rw [if_pos rfl]
      exact hr.far (by show w.heap.size ≠ g; omega) _
    · rw [if_neg e]
      exact (h1.row i (by omega)).far (by show G i ≠ g; have := h.after i (by omega); omega) _
  · by_cases e : i = k
    · rw [if_pos e]; exact hlt
    · rw [if_neg e]; exact h.after i (by omega)
  · have hG : ∀ a, a < k → G a < w.heap.size := fun a ha => (h.row a ha).lt
    by_cases e : i = k
    · rw [if_pos e, if_neg (by omega)]
      have := hG j (by omega); omega
    · rw [if_neg e]
      by_cases e2 : j = k
      · rw [if_pos e2]; have := hG i (by omega); omega
      · rw [if_neg e2]; exact h.apart i j (by omega) (by omega) hne
theorem Part.done {w : World} {g : Nat} {G : Nat → Nat} {r c : Nat} (h : Part w g G r c r) : Grid w g G r c (fun _ _ => 0) := by
  refine ⟨?_, fun i hi => by rw [← Mx.row_rep]; exact h.row i hi, h.after, h.apart⟩
  rw [h.head]
  congr 2
  refine Array.toList_inj.1 (List.ext_getElem (by simp) fun i h2 h3 => ?_)
  simp only [List.getElem_map, List.getElem_range]
  rw [if_pos (by simpa using h3)]

end Go.Proofs.YtpffekaldpllkaaDoor

/- The heads of r rows, of which the first k are made. For all packages. -/
namespace Go.Proofs.YtpffekaldpllkaaDoor
open Go.ChangeShapes Go.WideShapes Go.ChangeAt Go.RowKit
set_option linter.unusedVariables false

/-- Of a matrix that is made row by row the first k rows. -/
structure PartF (w : World) (g : Nat) (G : Nat → Nat) (r c k : Nat) (f : Nat → Nat → Int) : Prop where
  head : w.heap[g]? = some (.cells ((List.range r).map fun i => if i < k then Value.slice (some ⟨G i, 0, none⟩) c c else .slice none 0 0).toArray 22 (0, 0))
  row : ∀ i, i < k → Row w (G i) (Mx.row c (f i))
  after : ∀ i, i < k → g < G i
  apart : ∀ i j, i < k → j < k → i ≠ j → G i ≠ G j
theorem PartF.lt {w : World} {g : Nat} {G : Nat → Nat} {r c k : Nat} {f : Nat → Nat → Int} (h : PartF w g G r c k f) : g < w.heap.size := by
  rcases Nat.lt_or_ge g w.heap.size with h' | h'
  · exact h'
  · have := h.head; rw [Array.getElem?_eq_none h'] at this; cases this
theorem PartF.keep {w w' : World} {g : Nat} {G : Nat → Nat} {r c k : Nat} {f : Nat → Nat → Int} (h : PartF w g G r c k f) (hk : Kp w w') : PartF w' g G r c k f :=
  ⟨by rw [hk.block g h.lt]; exact h.head, fun i hi => (h.row i hi).keep hk, h.after, h.apart⟩
theorem PartF.cell {w : World} {g : Nat} {G : Nat → Nat} {r c k : Nat} {f : Nat → Nat → Int} (h : PartF w g G r c k f) {i : Nat} (hi : k ≤ i) (hr : i < r) : w.cell? ⟨g, i, none⟩ = some (.slice none 0 0) := by
  rw [cell_of_row _ _ i _ _ (0, 0) h.head]; simp [hr]; omega
theorem PartF.free {w : World} {g : Nat} {G : Nat → Nat} {r c k : Nat} {f : Nat → Nat → Int} (h : PartF w g G r c k f) (i : Nat) : w.frozen? ⟨g, i, none⟩ = false := frozen_of_row w g i _ _ h.head
theorem PartF.start {w : World} {base g r c : Nat} (f : Nat → Nat → Int) (h : w.ownsRow base 22 1 (.slice (some ⟨g, 0, none⟩) r r) r (madeCells #[.slice none 0 0] (r * 1)).toList) : PartF w g (fun _ => 0) r c 0 f :=
  ⟨(Part.start (c := c) h).head, fun i hi => absurd hi (by omega), fun i hi => absurd hi (by omega), fun i j hi => absurd hi (by omega)⟩
theorem PartF.step {w w1 w2 : World} {g : Nat} {G : Nat → Nat} {r c k : Nat} {f : Nat → Nat → Int} (h : PartF w g G r c k f) (hk : k < r) (hkp : Kp w w1) (h2 : Row w2 w.heap.size (Mx.row c (f k)))
    (hb : ∀ b, b ≠ w.heap.size → w2.heap[b]? = (w1.setCell ⟨g, k, none⟩ (.slice (some ⟨w.heap.size, 0, none⟩) c c)).heap[b]?) :
    PartF w2 g (fun i => if i = k then w.heap.size else G i) r c (k + 1) f := by
  have hlt := h.lt
  have h1 := h.keep hkp
  refine ⟨?_, fun i hi => ?_, fun i hi => ?_, fun i j hi hj hne => ?_⟩
  · rw [hb g (by omega), heap_setCell_same w1 g k _ _ _ h1.head]
    congr 2
    refine Array.toList_inj.1 (List.ext_getElem (by simp) fun i h2 h3 => ?_)
    simp only [Array.toList_setIfInBounds, List.getElem_set, List.getElem_map, List.getElem_range]
    rcases Nat.lt_trichotomy i k with e | e | e
    · simp [show ¬ k = i by omega, show i < k from e, show i < k + 1 by omega, show ¬ i = k by omega]
    · subst e; simp
    · simp [show ¬ k = i by omega, show ¬ i < k by omega, show ¬ i < k + 1 by omega]
  · by_cases e : i = k
    · subst e
      rw [if_pos rfl]; exact h2
    · rw [if_neg e]
      have hi' : i < k := by omega
      have := (h.row i hi').lt
      have h3 : Row (w1.setCell ⟨g, k, none⟩ (.slice (some ⟨w.heap.size, 0, none⟩) c c)) (G i) (Mx.row c (f i)) := (h1.row i hi').far (by show G i ≠ g; have := h.after i hi'; omega) _
      unfold Row at h3 ⊢
      rw [hb (G i) (by omega)]; exact h3
  · by_cases e : i = k
    · rw [if_pos e]; exact hlt
    · rw [if_neg e]; exact h.after i (by omega)
  · have hG : ∀ a, a < k → G a < w.heap.size := fun a ha => (h.row a ha).lt
    by_cases e : i = k
    · rw [if_pos e, if_neg (by omega)]
      have := hG j (by omega); omega
    · rw [if_neg e]
      by_cases e2 : j = k
      · rw [if_pos e2]; have := hG i (by omega); omega
      · rw [if_neg e2]; exact h.apart i j (by omega) (by omega) hne
theorem PartF.done {w : World} {g : Nat} {G : Nat → Nat} {r c : Nat} {f : Nat → Nat → Int} (h : PartF w g G r c r f) : Grid w g G r c f := by
  refine ⟨?_, fun i hi => h.row i hi, h.after, h.apart⟩
  rw [h.head]
  congr 2
  refine Array.toList_inj.1 (List.ext_getElem (by simp) fun i h2 h3 => ?_)
  simp only [List.getElem_map, List.getElem_range]
  rw [if_pos (by simpa using h3)]

theorem PartF.ext {w : World} {g : Nat} {G : Nat → Nat} {r c k : Nat} {f f' : Nat → Nat → Int} (h : PartF w g G r c k f) (e : ∀ i j, i < k → j < c → f i j = f' i j) : PartF w g G r c k f' :=
  ⟨h.head, fun i hi => by rw [← Mx.row_ext (fun j hj => e i j hi hj)]; exact h.row i hi, h.after, h.apart⟩
theorem PartF.cellOf {w : World} {g : Nat} {G : Nat → Nat} {r c k : Nat} {f : Nat → Nat → Int} (h : PartF w g G r c k f) {i : Nat} (hi : i < k) (hr : i < r) : w.cell? ⟨g, i, none⟩ = some (.slice (some ⟨G i, 0, none⟩) c c) := by
  rw [cell_of_row _ _ i _ _ (0, 0) h.head]; simp [hr, hi]
theorem PartF.el {w : World} {g : Nat} {G : Nat → Nat} {r c k : Nat} {f : Nat → Nat → Int} (h : PartF w g G r c k f) {i j : Nat} (hi : i < k) (hj : j < c) : w.cell? ⟨G i, j, none⟩ = some (.int .i64 (f i j)) := by
  have := (h.row i hi).cell j (by rw [Mx.len_row]; exact hj)
  rwa [Mx.row_at _ _ _ hj] at this
theorem PartF.freeOf {w : World} {g : Nat} {G : Nat → Nat} {r c k : Nat} {f : Nat → Nat → Int} (h : PartF w g G r c k f) {i : Nat} (hi : i < k) (j : Nat) : w.frozen? ⟨G i, j, none⟩ = false := (h.row i hi).free j
theorem PartF.put {w : World} {g : Nat} {G : Nat → Nat} {r c k : Nat} {f : Nat → Nat → Int} (h : PartF w g G r c k f) {i : Nat} (hi : i < k) (j : Nat) (x : Int) :
    PartF (w.setCell ⟨G i, j, none⟩ (.int .i64 x)) g G r c k (fun a b => if a = i ∧ b = j then x else f a b) := by
  refine ⟨?_, fun a ha => ?_, h.after, h.apart⟩
  · rw [heap_setCell_other w _ g _ (by show g ≠ G i; have := h.after i hi; omega)]; exact h.head
  · by_cases e : a = i
    · subst e
      have := (h.row a hi).put j x
      rw [Mx.row_set] at this
      rw [show (fun b => if a = a ∧ b = j then x else f a b) = fun b => if b = j then x else f a b by funext b; simp]
      exact this
    · rw [show (fun b => if a = i ∧ b = j then x else f a b) = f a by funext b; simp [e]]
      exact (h.row a ha).far (by show G a ≠ G i; exact h.apart a i ha hi e) _

end Go.Proofs.YtpffekaldpllkaaDoor

/- Matrices of the call's own, row by row: what append leaves, and stores into their rows. For all packages. -/
namespace Go.Proofs.YtpffekaldpllkaaDoor
open Go.ChangeShapes Go.WideShapes Go.ChangeAt Go.RowKit
set_option linter.unusedVariables false

/-- The heads of the rows of m, row i in block G i with room for C i. -/
def heads (G C : Nat → Nat) (m : List (List Int)) : List Value := (List.range m.length).map fun i => Value.slice (some ⟨G i, 0, none⟩) (m.getD i []).length (C i)
/-- The slice value v is the call's own (from block B on) and holds the rows of m, each the call's own, each apart from the others. -/
structure OwnM (w : World) (B : Nat) (v : Value) (G C : Nat → Nat) (m : List (List Int)) : Prop where
  top : w.ownsRow B 22 1 v m.length (heads G C m)
  row : ∀ i, i < m.length → Own w B (.slice (some ⟨G i, 0, none⟩) (m.getD i []).length (C i)) (m.getD i [])
  apart : ∀ i j, i < m.length → j < m.length → i ≠ j → G i ≠ G j

theorem ownM_none (w : World) (B : Nat) (G C : Nat → Nat) : OwnM w B (.slice none 0 0) G C [] :=
  ⟨World.ownsRow_nil _ _ _ _, fun i hi => absurd hi (by simp), fun i j hi => absurd hi (by simp)⟩
theorem ownsRow_kp {w w' : World} {B n : Nat} {e : TypeId} {v : Value} {xs : List Value} (h : w.ownsRow B e 1 v n xs) (hk : Kp w w') : w'.ownsRow B e 1 v n xs := by
  obtain ⟨h1, h2⟩ := h
  refine ⟨h1, ?_⟩
  rcases h2 with h2 | ⟨g, cap, cur, hv, hg, hh, r⟩
  · exact .inl h2
  · refine .inr ⟨g, cap, cur, hv, hg, ?_, r⟩
    rw [hk.block g ?_]; exact hh
    rcases Nat.lt_or_ge g w.heap.size with hlt | hge
    · exact hlt
    · rw [Array.getElem?_eq_none hge] at hh; cases hh
theorem OwnM.kp {w w' : World} {B : Nat} {v : Value} {G C : Nat → Nat} {m : List (List Int)} (h : OwnM w B v G C m) (hk : Kp w w') : OwnM w' B v G C m :=
  ⟨ownsRow_kp h.top hk, fun i hi => (h.row i hi).kp hk, h.apart⟩
theorem OwnM.lt {w : World} {B : Nat} {v : Value} {G C : Nat → Nat} {m : List (List Int)} (h : OwnM w B v G C m) {i : Nat} (hi : i < m.length) : B ≤ G i ∧ G i < w.heap.size :=
  World.ownsRow.lt (h.row i hi) (G i) rfl
/-- The block of the heads is no row's. -/
theorem top_ne {w : World} {B B' n : Nat} {v : Value} {hs : List Value} {g d c : Nat} {l : List Int} (h : w.ownsRow B 22 1 v n hs) (hr : Own w B' (.slice (some ⟨g, 0, none⟩) d c) l) : (Value.slice (some ⟨g, 0, none⟩) d c).ownBlock ≠ v.ownBlock := fun e => by
  obtain ⟨cur, hh, _⟩ := own_row hr
  rcases h.2 with ⟨rfl, _⟩ | ⟨g', cap, cur', rfl, _, hh', _⟩
  · cases e
  · have e' : g = g' := Option.some.inj e
    subst e'
    rw [hh] at hh'
    cases hh'
theorem OwnM.lies {w : World} {B : Nat} {v : Value} {G C : Nat → Nat} {m : List (List Int)} (h : OwnM w B v G C m) : ∃ A c, v = .slice A m.length c ∧ LiesM w A m ∧ m.length ≤ c := by
  rcases h.top.2 with ⟨rfl, h0⟩ | ⟨g, cap, cur, hv, hg, hh, hc, hm, hs, ht⟩
  · obtain rfl : m = [] := List.eq_nil_of_length_eq_zero h0
    exact ⟨Option.none, 0, rfl, LiesM.empty _ _, Nat.le_refl _⟩
  · refine ⟨_, cap, hv, fun k hk => ?_, hc⟩
    refine ⟨_, some ⟨G k, 0, Option.none⟩, C k, rfl, ?_, ?_, ?_, ?_⟩
    · rcases Nat.lt_or_ge g w.heap.size with h' | h'
      · exact h'
      · rw [Array.getElem?_eq_none h'] at hh; cases hh
    · have ht' : cur.toList.take m.length = heads G C m := by simpa using ht
      rw [add_at, cell_of_row _ _ k _ _ (0, 0) hh, ← Array.getElem?_toList, ← List.getElem?_take_of_lt hk, ht']
      simp [heads, hk]
    · obtain ⟨A, c, e, _, hle⟩ := (h.row k hk).cap
      cases e; exact hle
    · obtain ⟨A, c, e, hl⟩ := (h.row k hk).lies
      cases e; exact hl
theorem heads_snoc (G C : Nat → Nat) (m : List (List Int)) (l : List Int) (g c : Nat) :
    heads (fun i => if i = m.length then g else G i) (fun i => if i = m.length then c else C i) (m ++ [l]) = heads G C m ++ [Value.slice (some ⟨g, 0, none⟩) l.length c] := by
  unfold heads
  rw [List.length_append, List.length_singleton, List.range_succ, List.map_append]
  congr 1
  · refine List.map_congr_left fun i hi => ?_
    have hi' := List.mem_range.1 hi
    have e1 : i ≠ m.length := by omega
    simp [e1, List.getElem?_append_left hi']
  · simp

section
variable {ops : Array Oper} {rest : List Oper} {o : Oper} {a : Act} {w : World} {K : Act → World → Prop} {Q : Exit → Act → World → Prop}
/-- out = append(out, row). -/
theorem wp_pushM (s x : Operand) (ho : o.op = .call { callee := .builtin .append, args := #[s, x], argTypes := #[41, 41] })
    (B : Nat) (v : Value) (G C : Nat → Nat) (m : List (List Int)) (l : List Int) (g n c gb cb : Nat) (hn : l.length = n) (hs : a.eval s = v) (hx : a.eval x = .slice (some ⟨gb, 0, none⟩) 1 cb) (hown : OwnM w B v G C m)
    (hcell : w.cell? ⟨gb, 0, none⟩ = some (.slice (some ⟨g, 0, none⟩) n c)) (hrow : Own w B (.slice (some ⟨g, 0, none⟩) n c) l) (hap : ∀ i, i < m.length → G i ≠ g) (hlen : m.length + 1 ≤ 1000000) (hB : B ≤ w.heap.size)
    (h : ∀ v' w' G' C', OwnM w' B v' G' C' (m ++ [l]) → w.grownBy w' v.ownBlock → K (a.put o.dst v') w') : o.wp Tryd.prog a w K Q := by
  subst hn
  obtain ⟨i0, hi, hz0, hz1, hz2⟩ := info_parts ints_info
  obtain ⟨v', w', hrun, h1, h2, _, h3⟩ := run_append_own_at (P := Tryd.prog) w B 41 o.type 22 i0 (.slice Option.none 0 0) 1 24 Tryd.underlying41 hi hz0 hz1 hz2 rfl (by decide) v m.length (heads G C m) hown.top ⟨gb, 0, Option.none⟩ 1 cb [.slice (some ⟨g, 0, Option.none⟩) l.length c] rfl
    (fun j u hj => by
      match j, hj with
      | 0, hj => simp at hj; subst hj; rw [add_at]; exact hcell) (fun u hu => by simp at hu; subst hu; rfl) (by unfold maxLen; omega) (by omega) hB
  unfold Oper.wp execOp
  simp only [ho, resolve, invoke, builtin, Sem.run_bind, Sem.run_pure, Result.andThen_ok, List.map_toArray, List.map_cons, List.map_nil, hs, hx, hrun]
  refine (h v' w' (fun i => if i = m.length then g else G i) (fun i => if i = m.length then c else C i) ⟨?_, fun i hi => ?_, fun i j hi hj hne => ?_⟩ h2)
  · rw [heads_snoc, List.length_append]; exact h1
  · rw [List.length_append, List.length_singleton] at hi
    by_cases e : i = m.length
    · subst e
      have e2 : (m ++ [l]).getD m.length [] = l := by simp
      simp only [e2, if_true]
      exact hrow.grown h2 (.inr (top_ne hown.top hrow))
    · have hi' : i < m.length := by omega
      have e2 : (m ++ [l]).getD i [] = m.getD i [] := by simp [List.getElem?_append_left hi']
      simp only [if_neg e, e2]
      exact (hown.row i hi').grown h2 (.inr (top_ne hown.top (hown.row i hi')))
  · rw [List.length_append, List.length_singleton] at hi hj
    by_cases e : i = m.length
    · rw [if_pos e, if_neg (by omega)]
      exact fun e' => hap j (by omega) e'.symm
    · rw [if_neg e]
      by_cases e2 : j = m.length
      · rw [if_pos e2]; exact hap i (by omega)
      · rw [if_neg e2]; exact hown.apart i j (by omega) (by omega) hne
theorem wpList_pushM (hgd : o.guard = Option.none) (s x : Operand) (ho : o.op = .call { callee := .builtin .append, args := #[s, x], argTypes := #[41, 41] })
    (B : Nat) (v : Value) (G C : Nat → Nat) (m : List (List Int)) (l : List Int) (g n c gb cb : Nat) (hn : l.length = n) (hs : a.eval s = v) (hx : a.eval x = .slice (some ⟨gb, 0, none⟩) 1 cb) (hown : OwnM w B v G C m)
    (hcell : w.cell? ⟨gb, 0, none⟩ = some (.slice (some ⟨g, 0, none⟩) n c)) (hrow : Own w B (.slice (some ⟨g, 0, none⟩) n c) l) (hap : ∀ i, i < m.length → G i ≠ g) (hlen : m.length + 1 ≤ 1000000) (hB : B ≤ w.heap.size)
    (h : ∀ v' w' G' C', OwnM w' B v' G' C' (m ++ [l]) → (∀ w0 : World, w0.heap.size ≤ B → Kp w0 w → Kp w0 w') → wpList Tryd.prog ops Q rest (a.put o.dst v') w') : wpList Tryd.prog ops Q (o :: rest) a w :=
  wpList_plain hgd fun _ hK => wp_pushM s x ho B v G C m l g n c gb cb hn hs hx hown hcell hrow hap hlen hB fun v' w' G' C' h1 h2 => hK _ _ (h v' w' G' C' h1 fun w0 hw0 hk0 => Below.grown hk0 h2 hk0.size fun k hk => Nat.le_trans hw0 (World.ownsRow.lt hown.top k hk).1)
end

theorem cell_made (w : World) (cs : Array Value) (e : TypeId) (g k : Nat) (h : g = w.heap.size) : (w.alloc (.cells cs e)).cell? ⟨g, k, none⟩ = cs[k]? := by
  subst h
  exact cell_of_row _ _ k _ e (0, 0) (heap_alloc_new w _)
theorem size_set (w : World) (a : Addr) (u : Value) : w.heap.size = (w.setCell a u).heap.size := by simp [World.setCell]
theorem Own.from {w : World} {B B' : Nat} {v : Value} {l : List Int} (h : Own w B v l) (hB : B' ≤ B) : Own w B' v l :=
  ⟨h.1, h.2.imp id fun ⟨g, cap, cur, e, hg, r⟩ => ⟨g, cap, cur, e, Nat.le_trans hB hg, r⟩⟩
/-- Cells of a row of such a matrix; a store into one. -/
theorem OwnM.head {w : World} {B : Nat} {G C : Nat → Nat} {m : List (List Int)} {g n cap : Nat} (h : OwnM w B (.slice (some ⟨g, 0, none⟩) n cap) G C m) {i : Nat} (hi : i < m.length) : w.cell? ⟨g, i, none⟩ = some (.slice (some ⟨G i, 0, none⟩) (m.getD i []).length (C i)) := by
  rcases h.top.2 with ⟨e, _⟩ | ⟨g', cap', cur, hv, hg, hh, hc, hm, hs, ht⟩
  · cases e
  · cases hv
    have ht' : cur.toList.take m.length = heads G C m := by simpa using ht
    rw [cell_of_row _ _ i _ _ (0, 0) hh, ← Array.getElem?_toList, ← List.getElem?_take_of_lt hi, ht']
    simp [heads, hi]
theorem OwnM.el {w : World} {B : Nat} {v : Value} {G C : Nat → Nat} {m : List (List Int)} (h : OwnM w B v G C m) {i : Nat} (hi : i < m.length) {j : Nat} (hj : j < (m.getD i []).length) : w.cell? ⟨G i, j, none⟩ = some (.int .i64 ((m.getD i []).getD j 0)) :=
  own_cell (h.row i hi) j hj
theorem OwnM.free {w : World} {B : Nat} {v : Value} {G C : Nat → Nat} {m : List (List Int)} (h : OwnM w B v G C m) {i : Nat} (hi : i < m.length) (j : Nat) : w.frozen? ⟨G i, j, none⟩ = false :=
  own_free (h.row i hi) j
theorem own_store {w : World} {B g n c : Nat} {l : List Int} (h : Own w B (.slice (some ⟨g, 0, none⟩) n c) l) {a : Addr} (ha : g ≠ a.block) (u : Value) : Own (w.setCell a u) B (.slice (some ⟨g, 0, none⟩) n c) l := by
  rcases h.2 with ⟨h0, _⟩ | ⟨g', cap, cur, e, hg, hh, r⟩
  · cases h0
  · cases e
    exact ⟨h.1, .inr ⟨g, c, cur, rfl, hg, by rw [heap_setCell_other w a g u ha]; exact hh, r⟩⟩
theorem OwnM.put {w : World} {B : Nat} {v : Value} {G C : Nat → Nat} {r c : Nat} {f : Nat → Nat → Int} (h : OwnM w B v G C (Mx.tab r c f)) {i : Nat} (hi : i < r) (j : Nat) (x : Int) :
    OwnM (w.setCell ⟨G i, j, none⟩ (.int .i64 x)) B v G C (Mx.tab r c fun a b => if a = i ∧ b = j then x else f a b) := by
  have hl := Mx.len_tab r c f
  have hl' := Mx.len_tab r c fun a b => if a = i ∧ b = j then x else f a b
  have hri := h.row i (by rw [hl]; exact hi)
  refine ⟨?_, fun k hk => ?_, fun a b ha hb => h.apart a b (by omega) (by omega)⟩
  · have hh : heads G C (Mx.tab r c fun a b => if a = i ∧ b = j then x else f a b) = heads G C (Mx.tab r c f) := by
      unfold heads
      rw [hl, hl']
      refine List.map_congr_left fun k hk => ?_
      have := List.mem_range.1 hk
      rw [Mx.tab_len _ _ _ _ this, Mx.tab_len _ _ _ _ this]
    rw [hh, hl']
    have ht := h.top
    have hne := top_ne h.top hri
    rw [hl] at ht
    rcases ht.2 with ⟨h1, h2⟩ | ⟨g, cap, cur, e, hg, hh, rr⟩
    · exact ⟨ht.1, .inl ⟨h1, h2⟩⟩
    · refine ⟨ht.1, .inr ⟨g, cap, cur, e, hg, ?_, rr⟩⟩
      rw [heap_setCell_other w _ g _ (by
        show g ≠ G i
        intro e2
        apply hne
        rw [e]
        show some (G i) = some g
        rw [e2])]
      exact hh
  · rw [hl'] at hk
    rw [Mx.tab_at _ _ _ _ hk, Mx.len_row]
    have hk0 := h.row k (by omega)
    rw [Mx.tab_at _ _ _ _ hk, Mx.len_row] at hk0
    by_cases e : k = i
    · subst e
      have := own_put hk0 j x
      rw [Mx.row_set] at this
      rw [show (fun b => if k = k ∧ b = j then x else f k b) = fun b => if b = j then x else f k b by funext b; simp]
      exact this
    · rw [show (fun b => if k = i ∧ b = j then x else f k b) = f k by funext b; simp [e]]
      exact own_store hk0 (by show G k ≠ G i; exact h.apart k i (by omega) (by omega) e) _
theorem OwnM.ext {w : World} {B : Nat} {v : Value} {G C : Nat → Nat} {r c : Nat} {f f' : Nat → Nat → Int} (h : OwnM w B v G C (Mx.tab r c f)) (e : ∀ i j, i < r → j < c → f i j = f' i j) : OwnM w B v G C (Mx.tab r c f') := by
  rw [← Mx.tab_ext e]; exact h
theorem OwnM.drewN {w : World} {B : Nat} {v : Value} {G C : Nat → Nat} {m : List (List Int)} (h : OwnM w B v G C m) (n : Nat) : OwnM (w.drewN n) B v G C m := h.kp ((Kp.rfl' w).drewN n)
theorem OwnM.new {w : World} {B : Nat} {v : Value} {G C : Nat → Nat} {m : List (List Int)} (h : OwnM w B v G C m) (o : Obj) : OwnM (w.alloc o) B v G C m := h.kp ((Kp.rfl' w).new o)
end Go.Proofs.YtpffekaldpllkaaDoor

/- More on matrices of the call's own: heads that change places, a row of numbers beside them, and what a store into their rows leaves. For all packages. -/
namespace Go.Proofs.YtpffekaldpllkaaDoor
open Go.ChangeShapes Go.WideShapes Go.ChangeAt Go.RowKit
set_option linter.unusedVariables false

/-- The heads of r rows of c numbers. -/
def hds (r c : Nat) (G C : Nat → Nat) : List Value := (List.range r).map fun i => Value.slice (some ⟨G i, 0, none⟩) c (C i)
theorem len_hds (r c : Nat) (G C : Nat → Nat) : (hds r c G C).length = r := by simp [hds]
theorem heads_tab (G C : Nat → Nat) (r c : Nat) (f : Nat → Nat → Int) : heads G C (Mx.tab r c f) = hds r c G C := by
  unfold heads hds
  rw [Mx.len_tab]
  refine List.map_congr_left fun i hi => ?_
  rw [Mx.tab_len _ _ _ _ (List.mem_range.1 hi)]
theorem hds_set (r c : Nat) (G C : Nat → Nat) (i x d : Nat) :
    (hds r c G C).set i (Value.slice (some ⟨x, 0, none⟩) c d) = hds r c (fun k => if k = i then x else G k) (fun k => if k = i then d else C k) := by
  refine List.ext_getElem (by simp [hds]) fun k h1 h2 => ?_
  simp only [hds, List.getElem_set, List.getElem_map, List.getElem_range]
  by_cases e : i = k
  · subst e; simp
  · rw [if_neg e, if_neg (fun e' => e e'.symm), if_neg (fun e' => e e'.symm)]

/-- As OwnM, but two heads may name the same row. -/
structure OwnH (w : World) (B : Nat) (v : Value) (G C : Nat → Nat) (r c : Nat) (f : Nat → Nat → Int) : Prop where
  top : w.ownsRow B 22 1 v r (hds r c G C)
  row : ∀ i, i < r → Own w B (.slice (some ⟨G i, 0, none⟩) c (C i)) (Mx.row c (f i))
theorem OwnM.weak {w : World} {B : Nat} {v : Value} {G C : Nat → Nat} {r c : Nat} {f : Nat → Nat → Int} (h : OwnM w B v G C (Mx.tab r c f)) : OwnH w B v G C r c f := by
  refine ⟨?_, fun i hi => ?_⟩
  · have := h.top
    rwa [heads_tab, Mx.len_tab] at this
  · have := h.row i (by rw [Mx.len_tab]; exact hi)
    rwa [Mx.tab_at _ _ _ _ hi, Mx.len_row] at this
theorem OwnH.strong {w : World} {B : Nat} {v : Value} {G C : Nat → Nat} {r c : Nat} {f : Nat → Nat → Int} (h : OwnH w B v G C r c f) (ha : ∀ i j, i < r → j < r → i ≠ j → G i ≠ G j) : OwnM w B v G C (Mx.tab r c f) := by
  refine ⟨?_, fun i hi => ?_, fun i j hi hj => ?_⟩
  · rw [heads_tab, Mx.len_tab]; exact h.top
  · rw [Mx.len_tab] at hi
    rw [Mx.tab_at _ _ _ _ hi, Mx.len_row]; exact h.row i hi
  · rw [Mx.len_tab] at hi hj; exact ha i j hi hj
theorem OwnH.kp {w w' : World} {B : Nat} {v : Value} {G C : Nat → Nat} {r c : Nat} {f : Nat → Nat → Int} (h : OwnH w B v G C r c f) (hk : Kp w w') : OwnH w' B v G C r c f :=
  ⟨ownsRow_kp h.top hk, fun i hi => (h.row i hi).kp hk⟩
theorem OwnH.ext {w : World} {B : Nat} {v : Value} {G C : Nat → Nat} {r c : Nat} {f f' : Nat → Nat → Int} (h : OwnH w B v G C r c f) (e : ∀ i j, i < r → j < c → f i j = f' i j) : OwnH w B v G C r c f' :=
  ⟨h.top, fun i hi => by rw [← Mx.row_ext (fun j hj => e i j hi hj)]; exact h.row i hi⟩
theorem OwnH.head {w : World} {B : Nat} {G C : Nat → Nat} {r c g n cap : Nat} {f : Nat → Nat → Int} (h : OwnH w B (.slice (some ⟨g, 0, none⟩) n cap) G C r c f) {i : Nat} (hi : i < r) :
    w.cell? ⟨g, i, none⟩ = some (.slice (some ⟨G i, 0, none⟩) c (C i)) := by
  rcases h.top.2 with ⟨e, _⟩ | ⟨g', cap', cur, hv, hg, hh, hc, hm, hs, ht⟩
  · cases e
  · cases hv
    have ht' : cur.toList.take r = hds r c G C := by simpa using ht
    rw [cell_of_row _ _ i _ _ (0, 0) hh, ← Array.getElem?_toList, ← List.getElem?_take_of_lt hi, ht']
    simp [hds, hi]
theorem OwnH.el {w : World} {B : Nat} {v : Value} {G C : Nat → Nat} {r c : Nat} {f : Nat → Nat → Int} (h : OwnH w B v G C r c f) {i j : Nat} (hi : i < r) (hj : j < c) : w.cell? ⟨G i, j, none⟩ = some (.int .i64 (f i j)) := by
  have := own_cell (h.row i hi) j (by rw [Mx.len_row]; exact hj)
  rwa [Mx.row_at _ _ _ hj] at this
theorem OwnH.free {w : World} {B : Nat} {v : Value} {G C : Nat → Nat} {r c : Nat} {f : Nat → Nat → Int} (h : OwnH w B v G C r c f) {i : Nat} (hi : i < r) (j : Nat) : w.frozen? ⟨G i, j, none⟩ = false := own_free (h.row i hi) j
theorem OwnH.topFree {w : World} {B : Nat} {G C : Nat → Nat} {r c g n cap : Nat} {f : Nat → Nat → Int} (h : OwnH w B (.slice (some ⟨g, 0, none⟩) n cap) G C r c f) (i : Nat) : w.frozen? ⟨g, i, none⟩ = false := by
  rcases h.top.2 with ⟨e, _⟩ | ⟨g', cap', cur, hv, hg, hh, hc, hm, hs, ht⟩
  · cases e
  · cases hv; exact frozen_of_row w g i _ _ hh
theorem OwnH.topLe {w : World} {B : Nat} {G C : Nat → Nat} {r c g n cap : Nat} {f : Nat → Nat → Int} (h : OwnH w B (.slice (some ⟨g, 0, none⟩) n cap) G C r c f) : B ≤ g ∧ g < w.heap.size := World.ownsRow.lt h.top g rfl
theorem OwnH.lt {w : World} {B : Nat} {v : Value} {G C : Nat → Nat} {r c : Nat} {f : Nat → Nat → Int} (h : OwnH w B v G C r c f) {i : Nat} (hi : i < r) : B ≤ G i ∧ G i < w.heap.size := World.ownsRow.lt (h.row i hi) (G i) rfl
theorem OwnH.apartTop {w : World} {B : Nat} {G C : Nat → Nat} {r c g n cap : Nat} {f : Nat → Nat → Int} (h : OwnH w B (.slice (some ⟨g, 0, none⟩) n cap) G C r c f) {i : Nat} (hi : i < r) : G i ≠ g := fun e => top_ne h.top (h.row i hi) (by show some (G i) = some g; rw [e])
/-- A head is set to another row of the call's own. -/
theorem OwnH.set {w : World} {B : Nat} {G C : Nat → Nat} {r c g n cap : Nat} {f : Nat → Nat → Int} (h : OwnH w B (.slice (some ⟨g, 0, none⟩) n cap) G C r c f) {i : Nat} (hi : i < r) {x d : Nat} {l : Nat → Int} (hx : Own w B (.slice (some ⟨x, 0, none⟩) c d) (Mx.row c l)) :
    OwnH (w.setCell ⟨g, i, none⟩ (.slice (some ⟨x, 0, none⟩) c d)) B (.slice (some ⟨g, 0, none⟩) n cap) (fun k => if k = i then x else G k) (fun k => if k = i then d else C k) r c (fun k => if k = i then l else f k) := by
  refine ⟨?_, fun k hk => ?_⟩
  · rcases h.top.2 with ⟨e, _⟩ | ⟨g', cap', cur, hv, hg, hh, hc, hm, hs, ht⟩
    · cases e
    · cases hv
      refine ⟨by rw [len_hds, Nat.mul_one], .inr ⟨g, cap, cur.setIfInBounds i (.slice (some ⟨x, 0, none⟩) c d), rfl, hg, heap_setCell_same w g i _ _ _ hh, hc, hm, by rw [Array.size_setIfInBounds]; exact hs, ?_⟩⟩
      rw [Array.toList_setIfInBounds, List.take_set, ht, hds_set]
  · by_cases e : k = i
    · subst e
      simp only [if_true]
      exact own_store hx (fun e' => top_ne h.top hx (by show some x = some g; rw [e'])) _
    · simp only [if_neg e]
      exact own_store (h.row k hk) (h.apartTop hk) _

/-- Nothing but what stands in the blocks of these rows has turned. -/
structure Only (G : Nat → Nat) (r : Nat) (w w' : World) : Prop where
  os : w'.os = w.os
  tape : w'.tape = w.tape
  output : w'.output = w.output
  size : w.heap.size ≤ w'.heap.size
  block : ∀ b, b < w.heap.size → (∀ i, i < r → b ≠ G i) → w'.heap[b]? = w.heap[b]?
theorem Only.of {G : Nat → Nat} {r : Nat} {w w' : World} (h : Kp w w') : Only G r w w' := ⟨h.os, h.tape, h.output, h.size, fun b hb _ => h.block b hb⟩
theorem Only.refl (G : Nat → Nat) (r : Nat) (w : World) : Only G r w w := Only.of (Kp.rfl' w)
theorem Only.trans {G : Nat → Nat} {r : Nat} {a b c : World} (h : Only G r a b) (k : Only G r b c) : Only G r a c :=
  ⟨k.os.trans h.os, k.tape.trans h.tape, k.output.trans h.output, Nat.le_trans h.size k.size, fun i hi hn => (k.block i (Nat.lt_of_lt_of_le hi h.size) hn).trans (h.block i hi hn)⟩
theorem Only.drewN {G : Nat → Nat} {r : Nat} {a b : World} (h : Only G r a b) (n : Nat) : Only G r a (b.drewN n) := h.trans (Only.of ((Kp.rfl' b).drewN n))
theorem Only.put {G : Nat → Nat} {r : Nat} {a b : World} (h : Only G r a b) {i : Nat} (hi : i < r) (j : Nat) (u : Value) : Only G r a (b.setCell ⟨G i, j, none⟩ u) :=
  h.trans ⟨rfl, rfl, rfl, by simp [World.setCell], fun k _ hn => Below.heap_setCell _ _ _ _ (hn i hi)⟩
theorem Only.below {G : Nat → Nat} {r B : Nat} {w0 w w' : World} (h : Only G r w w') (hb : Below B w0 w) (hB : B ≤ w.heap.size) (hG : ∀ i, i < r → B ≤ G i) : Below B w0 w' :=
  hb.trans ⟨h.os, h.tape, h.output, h.size, fun k hk => h.block k (by omega) fun i hi e => by have := hG i hi; omega⟩
theorem Own.only {G : Nat → Nat} {r B : Nat} {w w' : World} {u : Value} {l : List Int} (h : Own w B u l) (ho : Only G r w w') (hn : ∀ b, u.ownBlock = some b → ∀ i, i < r → G i ≠ b) : Own w' B u l := by
  obtain ⟨h1, h2⟩ := h
  refine ⟨h1, ?_⟩
  rcases h2 with h2 | ⟨g, cap, cur, rfl, hg, hh, r⟩
  · exact .inl h2
  · refine .inr ⟨g, cap, cur, rfl, hg, ?_, r⟩
    rw [ho.block g ?_ fun i hi e => hn g rfl i hi e.symm]; exact hh
    rcases Nat.lt_or_ge g w.heap.size with hlt | hge
    · exact hlt
    · rw [Array.getElem?_eq_none hge] at hh; cases hh
/-- A store to another block leaves a row. -/
theorem Own.far {w : World} {B : Nat} {u : Value} {l : List Int} (h : Own w B u l) {a : Addr} (ha : u.ownBlock ≠ some a.block) (x : Value) : Own (w.setCell a x) B u l := by
  obtain ⟨h1, h2⟩ := h
  refine ⟨h1, ?_⟩
  rcases h2 with h2 | ⟨g, cap, cur, rfl, hg, hh, r⟩
  · exact .inl h2
  · refine .inr ⟨g, cap, cur, rfl, hg, ?_, r⟩
    rw [heap_setCell_other w a g x (fun e => ha (by show some g = some a.block; rw [e]))]; exact hh

/-- An append to another row leaves the matrix. -/
theorem OwnM.grown {w w' : World} {B : Nat} {v u : Value} {G C : Nat → Nat} {m : List (List Int)} (h : OwnM w B v G C m) (hg : w.grownBy w' u.ownBlock) (h1 : v.ownBlock = none ∨ v.ownBlock ≠ u.ownBlock) (h2 : ∀ i, i < m.length → some (G i) ≠ u.ownBlock) : OwnM w' B v G C m :=
  ⟨World.ownsRow.kept h.top hg h1, fun i hi => (h.row i hi).grown hg (.inr (h2 i hi)), h.apart⟩

theorem OwnM.liesM {w : World} {B n cap : Nat} {A : Option Addr} {G C : Nat → Nat} {m : List (List Int)} (h : OwnM w B (.slice A n cap) G C m) : LiesM w A m := by
  obtain ⟨A', c', e, hl, _⟩ := h.lies
  cases e; exact hl

/-- A matrix of the call's own, and a row of numbers beside it. -/
structure MatRow (w : World) (B : Nat) (g cap : Nat) (G C : Nat → Nat) (r c : Nat) (f : Nat → Nat → Int) (u : Value) (l : List Int) : Prop where
  mat : OwnM w B (.slice (some ⟨g, 0, none⟩) r cap) G C (Mx.tab r c f)
  row : Own w B u l
  far : ∀ b, u.ownBlock = some b → b ≠ g
  apart : ∀ b, u.ownBlock = some b → ∀ i, i < r → G i ≠ b
theorem MatRow.kp {w w' : World} {B g cap : Nat} {G C : Nat → Nat} {r c : Nat} {f : Nat → Nat → Int} {u : Value} {l : List Int} (h : MatRow w B g cap G C r c f u l) (hk : Kp w w') : MatRow w' B g cap G C r c f u l := ⟨h.mat.kp hk, h.row.kp hk, h.far, h.apart⟩
theorem MatRow.drewN {w : World} {B g cap : Nat} {G C : Nat → Nat} {r c : Nat} {f : Nat → Nat → Int} {u : Value} {l : List Int} (h : MatRow w B g cap G C r c f u l) (n : Nat) : MatRow (w.drewN n) B g cap G C r c f u l := h.kp ((Kp.rfl' w).drewN n)
theorem MatRow.start {w : World} {B g cap : Nat} {G C : Nat → Nat} {r c : Nat} {f : Nat → Nat → Int} (h : OwnM w B (.slice (some ⟨g, 0, none⟩) r cap) G C (Mx.tab r c f)) : MatRow w B g cap G C r c f (.slice none 0 0) [] :=
  ⟨h, Own.none _ _, (fun b hb => by cases hb), (fun b hb => by cases hb)⟩
theorem MatRow.ext {w : World} {B g cap : Nat} {G C : Nat → Nat} {r c : Nat} {f f' : Nat → Nat → Int} {u : Value} {l : List Int} (h : MatRow w B g cap G C r c f u l) (e : ∀ i j, i < r → j < c → f i j = f' i j) : MatRow w B g cap G C r c f' u l := ⟨h.mat.ext e, h.row, h.far, h.apart⟩
theorem MatRow.only {w w' : World} {B g cap : Nat} {G C : Nat → Nat} {r c : Nat} {f f' : Nat → Nat → Int} {u : Value} {l : List Int} (h : MatRow w B g cap G C r c f u l) (ho : Only G r w w') (hm : OwnM w' B (.slice (some ⟨g, 0, none⟩) r cap) G C (Mx.tab r c f')) : MatRow w' B g cap G C r c f' u l :=
  ⟨hm, h.row.only ho h.apart, h.far, h.apart⟩
theorem MatRow.put {w : World} {B g cap : Nat} {G C : Nat → Nat} {r c : Nat} {f : Nat → Nat → Int} {u : Value} {l : List Int} (h : MatRow w B g cap G C r c f u l) {i : Nat} (hi : i < r) (j : Nat) (x : Int) :
    MatRow (w.setCell ⟨G i, j, none⟩ (.int .i64 x)) B g cap G C r c (fun a b => if a = i ∧ b = j then x else f a b) u l :=
  h.only ((Only.refl G r w).put hi j _) (h.mat.put hi j x)
/-- An append to the row beside it. -/
theorem MatRow.push {w w' : World} {B g cap : Nat} {G C : Nat → Nat} {r c : Nat} {f : Nat → Nat → Int} {u u' : Value} {l l' : List Int} (h : MatRow w B g cap G C r c f u l) (h1 : Own w' B u' l') (hg : w.grownBy w' u.ownBlock) (ha : At w u u') : MatRow w' B g cap G C r c f u' l' := by
  have hl := World.ownsRow.lt h.mat.top g rfl
  have hG : ∀ i, i < r → G i < w.heap.size := fun i hi => (h.mat.lt (by rw [Mx.len_tab]; exact hi)).2
  refine ⟨h.mat.grown hg ?_ fun i hi e => ?_, h1, fun b hb => ?_, fun b hb i hi => ?_⟩
  · cases hu : u.ownBlock with
    | none => exact .inr (by intro e; cases e)
    | some b => exact .inr fun e => h.far b hu (Option.some.inj e).symm
  · rw [Mx.len_tab] at hi
    exact h.apart _ e.symm i hi rfl
  · rcases ha with e | e
    · exact h.far b (by rw [← e]; exact hb)
    · rw [e] at hb; have := Option.some.inj hb; omega
  · rcases ha with e | e
    · exact h.apart b (by rw [← e]; exact hb) i hi
    · rw [e] at hb; have := Option.some.inj hb; have := hG i hi; omega
/-- Two heads change places. -/
theorem MatRow.swap {w : World} {B g cap : Nat} {G C : Nat → Nat} {r c : Nat} {f : Nat → Nat → Int} {u : Value} {l : List Int} (h : MatRow w B g cap G C r c f u l) {a b : Nat} (ha : a < r) (hb : b < r) :
    MatRow ((w.setCell ⟨g, a, none⟩ (.slice (some ⟨G b, 0, none⟩) c (C b))).setCell ⟨g, b, none⟩ (.slice (some ⟨G a, 0, none⟩) c (C a))) B g cap
      (fun i => if i = b then G a else if i = a then G b else G i) (fun i => if i = b then C a else if i = a then C b else C i) r c (fun i => if i = b then f a else if i = a then f b else f i) u l := by
  have hw := h.mat.weak
  have ap : ∀ i j, i < r → j < r → i ≠ j → G i ≠ G j := fun i j hi hj => h.mat.apart i j (by rw [Mx.len_tab]; exact hi) (by rw [Mx.len_tab]; exact hj)
  have h1 := hw.set ha (hw.row b hb)
  have ra := own_store (hw.row a ha) (a := ⟨g, a, none⟩) (hw.apartTop ha) (Value.slice (some ⟨G b, 0, none⟩) c (C b))
  have h2 := h1.set hb ra
  refine ⟨h2.strong fun i j hi hj hne => ?_, (h.row.far (a := ⟨g, a, none⟩) (fun e => h.far _ e rfl) _).far (a := ⟨g, b, none⟩) (fun e => h.far _ e rfl) _, h.far, fun k hk i hi => ?_⟩
  · split <;> split <;> (try split) <;> (try split) <;> apply ap <;> omega
  · split
    · exact h.apart k hk a ha
    · split
      · exact h.apart k hk b hb
      · exact h.apart k hk i hi

/-- Row p comes to row a's place, and a new row to row p's. -/
theorem MatRow.rehead {w w' : World} {B g cap : Nat} {G C : Nat → Nat} {r c : Nat} {f : Nat → Nat → Int} {u : Value} {l : List Int} (h : MatRow w B g cap G C r c f u l) {a p : Nat} (ha : a < r) (hp : p < r)
    (hk : Kp (w.setCell ⟨g, a, none⟩ (.slice (some ⟨G p, 0, none⟩) c (C p))) w') {go co : Nat} {h1 : Nat → Int} (ho : Own w' w.heap.size (.slice (some ⟨go, 0, none⟩) c co) (Mx.row c h1)) :
    MatRow (w'.setCell ⟨g, p, none⟩ (.slice (some ⟨go, 0, none⟩) c co)) B g cap (fun i => if i = p then go else if i = a then G p else G i) (fun i => if i = p then co else if i = a then C p else C i) r c
      (fun i => if i = p then h1 else if i = a then f p else f i) u l := by
  have hw := h.mat.weak
  have ap : ∀ i j, i < r → j < r → i ≠ j → G i ≠ G j := fun i j hi hj => h.mat.apart i j (by rw [Mx.len_tab]; exact hi) (by rw [Mx.len_tab]; exact hj)
  have hB := hw.topLe
  have hgo : w.heap.size ≤ go := (World.ownsRow.lt ho go rfl).1
  have h2 := ((hw.set ha (hw.row p hp)).kp hk).set hp (ho.from (B' := B) (by omega))
  refine ⟨h2.strong fun i j hi hj hne => ?_, ((h.row.far (a := ⟨g, a, none⟩) (fun e => h.far _ e rfl) _).kp hk).far (a := ⟨g, p, none⟩) (fun e => h.far _ e rfl) _, h.far, fun k hk' i hi => ?_⟩
  · have hG : ∀ i, i < r → G i ≠ go := fun i hi => by have := (hw.lt hi).2; omega
    split <;> split <;> (try split) <;> (try split) <;> first | omega | exact hG _ (by omega) | exact (hG _ (by omega)).symm | (apply ap <;> omega)
  · have hlt := (World.ownsRow.lt h.row k hk').2
    split
    · omega
    · split
      · exact h.apart k hk' p hp
      · exact h.apart k hk' i hi

/-- A matrix made by make is a matrix of the call's own. -/
theorem Row.own {w : World} {B g n : Nat} {l : List Int} (h : Row w g l) (hB : B ≤ g) (hn : l.length = n) (hm : n ≤ 17000000000000) : Own w B (.slice (some ⟨g, 0, none⟩) n n) l := by
  subst hn
  refine ⟨by simp, .inr ⟨g, l.length, (ints l).toArray, rfl, hB, h, Nat.le_refl _, by unfold maxLen; omega, by simp, by simp [List.take_of_length_le]⟩⟩
theorem Grid.own {w : World} {B g : Nat} {G : Nat → Nat} {r c : Nat} {f : Nat → Nat → Int} (h : Grid w g G r c f) (hB : B ≤ g) (hr : r ≤ 1000) (hc : c ≤ 1000) : OwnM w B (.slice (some ⟨g, 0, none⟩) r r) G (fun _ => c) (Mx.tab r c f) := by
  refine OwnH.strong ⟨⟨by rw [len_hds, Nat.mul_one], .inr ⟨g, r, _, rfl, hB, h.head, Nat.le_refl _, by unfold maxLen; omega, by simp, ?_⟩⟩, fun i hi => (h.row i hi).own (by have := h.after i hi; omega) (Mx.len_row _ _) (by omega)⟩ h.apart
  simp [hds, List.take_of_length_le]
end Go.Proofs.YtpffekaldpllkaaDoor

/- Plain facts for matrices in steps, as programs make them: clean, the next step, ranks, what can be undone. No program is named here. -/
namespace Go.Proofs.YtpffekaldpllkaaDoor
set_option linter.unusedVariables false

/-- The first row from row i on that is not nought at column j; or how many rows there are. -/
def First (r : Nat) (f : Nat → Nat → Fp.F) (i j k : Nat) : Prop := i ≤ k ∧ k ≤ r ∧ (∀ t, i ≤ t → t < k → f t j = 0) ∧ (k < r → f k j ≠ 0)
/-- A row is taken from another one, so many times. -/
def less (f : Nat → Nat → Fp.F) (a i : Nat) (x : Fp.F) : Nat → Nat → Fp.F := fun p q => if p = a then f a q - x * f i q else f p q

/-- Row i begins with 1 at column j, and is taken from all others. -/
def cln (f : Nat → Nat → Fp.F) (i j : Nat) : Nat → Nat → Fp.F := fun p q =>
  if p = i then f i q * Fp.inv (f i j) else f p q - f p j * (f i q * Fp.inv (f i j))
/-- The same, for the rows before row k alone. -/
def clnTo (f : Nat → Nat → Fp.F) (i j k : Nat) : Nat → Nat → Fp.F := fun p q =>
  if p = i then f i q * Fp.inv (f i j) else if p < k then f p q - f p j * (f i q * Fp.inv (f i j)) else f p q
theorem clnTo_same (f : Nat → Nat → Fp.F) (i j : Nat) (p q : Nat) : clnTo f i j i p q = clnTo f i j (i + 1) p q := by
  unfold clnTo
  by_cases e : p = i
  · rw [if_pos e, if_pos e]
  · rw [if_neg e, if_neg e]
    by_cases h : p < i
    · rw [if_pos h, if_pos (by omega)]
    · rw [if_neg h, if_neg (by omega)]
theorem clnTo_next (f : Nat → Nat → Fp.F) {i j k : Nat} (hk : k ≠ i) (p q : Nat) : less (clnTo f i j k) k i (f k j) p q = clnTo f i j (k + 1) p q := by
  unfold less clnTo
  by_cases e : p = k
  · subst e
    rw [if_pos rfl, if_neg hk, if_neg (by omega), if_pos rfl, if_neg hk, if_pos (by omega)]
  · rw [if_neg e]
    by_cases e2 : p = i
    · rw [if_pos e2, if_pos e2]
    · rw [if_neg e2, if_neg e2]
      by_cases h : p < k
      · rw [if_pos h, if_pos (by omega)]
      · rw [if_neg h, if_neg (by omega)]

/-- The columns of the pivots as numbers. -/
def cols (b : List Nat) : List Int := b.map fun (k : Nat) => (k : Int)
theorem len_cols (b : List Nat) : (cols b).length = b.length := by simp [cols]
theorem cols_snoc (b : List Nat) (k : Nat) : cols (b ++ [k]) = cols b ++ [(k : Int)] := by simp [cols]
theorem cols_inj {b d : List Nat} (h : b = d) : cols b = cols d := by rw [h]

/-- In steps as far as the first k columns, and the rows come of the rows of f. -/
structure Stair (r c k : Nat) (f : Nat → Nat → Fp.F) (b : List Nat) (g : Nat → Nat → Fp.F) : Prop where
  steps : Mx.Steps r k b g
  req : Mx.Req r c f g
theorem Stair.start (r c : Nat) (f : Nat → Nat → Fp.F) : Stair r c 0 f [] f := ⟨Mx.steps_none r f, Mx.Req.refl r c f⟩
theorem Stair.one {r c : Nat} {f : Nat → Nat → Fp.F} {b d : List Nat} {g h : Nat → Nat → Fp.F} (s : Stair r c c f b g) (t : Stair r c c f d h) : b = d ∧ Mx.Eqm r c g h :=
  s.steps.unique t.steps (s.req.symm.trans t.req)
/-- What comes of the two heads that changed places, and of clean. -/
theorem cln_nxt (g : Nat → Nat → Fp.F) (p a k : Nat) : cln (fun i => if i = a then g p else if i = p then g a else g i) p k = Mx.nxt p a k g := by
  have hp : (fun i => if i = a then g p else if i = p then g a else g i) p = g a := by
    by_cases e : p = a
    · subst e; simp
    · show (if p = a then g p else if p = p then g a else g p) = g a
      rw [if_neg e, if_pos rfl]
  funext i j
  unfold cln Mx.nxt
  rw [hp]
  by_cases e : i = p
  · rw [if_pos e, if_pos e]
  · rw [if_neg e, if_neg e]
    have hs : (if i = a then g p else if i = p then g a else g i) = g (Mx.swp p a i) := by
      unfold Mx.swp
      rw [if_neg e, if_neg e]
      by_cases e2 : i = a
      · rw [if_pos e2, if_pos e2]
      · rw [if_neg e2, if_neg e2]
    show (if i = a then g p else if i = p then g a else g i) j - (if i = a then g p else if i = p then g a else g i) k * _ = _
    rw [hs]
theorem Stair.next {r c k : Nat} {f : Nat → Nat → Fp.F} {b : List Nat} {g : Nat → Nat → Fp.F} (s : Stair r c k f b g) {a : Nat} (ha : b.length ≤ a) (hr : a < r) (h0 : g a k ≠ 0) : Stair r c (k + 1) f (b ++ [k]) (Mx.nxt b.length a k g) :=
  ⟨s.steps.next ha hr h0, s.req.trans (Mx.req_next g (by omega) hr h0)⟩
theorem Stair.skip {r c k : Nat} {f : Nat → Nat → Fp.F} {b : List Nat} {g : Nat → Nat → Fp.F} (s : Stair r c k f b g) (h0 : ∀ i, b.length ≤ i → i < r → g i k = 0) : Stair r c (k + 1) f b g :=
  ⟨s.steps.skip h0, s.req⟩

theorem Stair.thru {r c : Nat} {f : Nat → Nat → Fp.F} {b : List Nat} {g : Nat → Nat → Fp.F} (s : Stair r c c f b g) : Mx.Thru r c b.length f := s.steps.thru s.req
theorem Stair.sees {r c : Nat} {f : Nat → Nat → Fp.F} {b : List Nat} {g : Nat → Nat → Fp.F} (s : Stair r c c f b g) : Mx.Sees r c b.length f := s.steps.sees s.req
theorem Stair.le {r c k : Nat} {f : Nat → Nat → Fp.F} {b : List Nat} {g : Nat → Nat → Fp.F} (s : Stair r c k f b g) : b.length ≤ r := s.steps.le
theorem rank_flip {r c : Nat} {f : Nat → Nat → Fp.F} {b d : List Nat} {g h : Nat → Nat → Fp.F} (s : Stair r c c f b g) (t : Stair c r r (Mx.flip f) d h) : d.length = b.length :=
  Nat.le_antisymm (Mx.sees_thru t.sees s.thru.flip) (Mx.sees_thru s.sees.flip t.thru)
theorem rank_mul {r q c : Nat} {f f' : Nat → Nat → Fp.F} {b1 b2 b3 : List Nat} {g1 g2 g3 : Nat → Nat → Fp.F} (s1 : Stair r q q f b1 g1) (s2 : Stair q c c f' b2 g2) (s3 : Stair r c c (Mx.mul q f f') b3 g3) :
    b3.length ≤ b1.length ∧ b3.length ≤ b2.length ∧ b1.length + b2.length ≤ b3.length + q :=
  ⟨Mx.sees_thru s3.sees (s1.thru.mul_left f'), Mx.sees_thru s3.sees (s2.thru.mul_right f), Mx.sylvester s1.sees s2.sees s3.thru⟩
theorem rank_plus {r c : Nat} {f f' : Nat → Nat → Fp.F} {b1 b2 b3 : List Nat} {g1 g2 g3 : Nat → Nat → Fp.F} (s1 : Stair r c c f b1 g1) (s2 : Stair r c c f' b2 g2) (s3 : Stair r c c (Mx.plus f f') b3 g3) :
    b3.length ≤ b1.length + b2.length ∧ b1.length ≤ b3.length + b2.length ∧ b2.length ≤ b3.length + b1.length := by
  refine ⟨Mx.sees_thru s3.sees (s1.thru.plus s2.thru), Mx.sees_thru s1.sees ?_, Mx.sees_thru s2.sees ?_⟩
  · refine (s3.thru.plus s2.thru.neg).eqm fun i j _ _ => ?_
    show f i j = (f i j + f' i j) + -(f' i j)
    grind
  · refine (s3.thru.plus s1.thru.neg).eqm fun i j _ _ => ?_
    show f' i j = (f i j + f' i j) + -(f i j)
    grind

theorem Stair.again {r c : Nat} {f : Nat → Nat → Fp.F} {b d : List Nat} {g h : Nat → Nat → Fp.F} (s : Stair r c c f b g) (t : Stair r c c g d h) : b = d ∧ Mx.Eqm r c g h := s.steps.unique t.steps t.req
theorem Stair.undone {r c : Nat} {f k : Nat → Nat → Fp.F} {b d : List Nat} {g h : Nat → Nat → Fp.F} (s : Stair r c c f b g) (hk : Mx.dt r k ≠ 0) (t : Stair r c c (Mx.mul r k f) d h) : b = d ∧ Mx.Eqm r c g h := by
  obtain ⟨u, hu⟩ := Mx.undo hk
  exact s.steps.unique t.steps ((s.req.symm.trans (Mx.req_undo hu f)).trans t.req)
end Go.Proofs.YtpffekaldpllkaaDoor

/- Contracts of package gauss, first part: subtract, below, clone. -/
namespace Go.Proofs.YtpffekaldpllkaaDoor
open Go.ChangeShapes Go.WideShapes Go.ChangeAt Go.RowKit
set_option linter.unusedVariables false

theorem gval (a : Fp.F) : 0 ≤ (a.val : Int) ∧ (a.val : Int) ≤ 9972 := by have := a.isLt; omega
theorem val_less (a x b : Fp.F) : ((a.val : Int) + (9973 - (x.val : Int)) * (b.val : Int)) % 9973 = ((a - x * b).val : Int) := by
  rw [← Fp.ofInt_val, Fp.ofInt_add, Fp.ofInt_mul, Fp.ofInt_self, Fp.ofInt_self]
  have h : Fp.ofInt (9973 - (x.val : Int)) + x = 0 := by
    have h2 := Fp.ofInt_add (9973 - (x.val : Int)) (x.val : Int)
    rw [Fp.ofInt_self, show (9973 - (x.val : Int)) + (x.val : Int) = 9973 by omega] at h2
    rw [← h2]; decide
  generalize Fp.ofInt (9973 - (x.val : Int)) = y at *
  have : a + y * b = a - x * b := by
    have e : y = -x := by grind
    rw [e]; grind
  rw [this]
theorem less_bound (x b : Fp.F) : 0 ≤ (9973 - (x.val : Int)) * (b.val : Int) ∧ (9973 - (x.val : Int)) * (b.val : Int) ≤ 99450756 := by
  have h1 := gval x
  have h2 := gval b
  exact ⟨Int.mul_nonneg (by omega) h2.1, Int.mul_le_mul (show 9973 - (x.val : Int) ≤ 9973 by omega) h2.2 h2.1 (by decide)⟩
theorem less_mod (a x b : Fp.F) : ((a.val : Int) + (9973 - (x.val : Int)) * (b.val : Int)).tmod 9973 = ((a - x * b).val : Int) := by
  have h := less_bound x b
  rw [Int.tmod_eq_emod_of_nonneg (by have := gval a; omega), val_less]
theorem times_mod (a b : Fp.F) : ((a.val : Int) * (b.val : Int)).tmod 9973 = ((a * b).val : Int) := by
  have h1 := gval a
  have h2 := gval b
  rw [Int.tmod_eq_emod_of_nonneg (Int.mul_nonneg h1.1 h2.1), Fp.mul_val]
theorem times_bound (a b : Fp.F) : 0 ≤ (a.val : Int) * (b.val : Int) ∧ (a.val : Int) * (b.val : Int) ≤ 99440784 := by
  have h1 := gval a
  have h2 := gval b
  exact ⟨Int.mul_nonneg h1.1 h2.1, Int.mul_le_mul h1.2 h2.2 h2.1 (by decide)⟩



set_option maxRecDepth 100000 in
/-- copy(row, l): a row of noughts just made, and a slice of as many numbers. -/
theorem copy_row (w1 : World) (g n c : Nat) (A : Option Addr) (l : List Int) (ty : TypeId) (hr : Row w1 g (List.replicate n 0)) (hl : Lies w1 A l) (hn : n = l.length) :
    ∃ w2, (Builtin.copy_ #[22, 22] ty #[.slice (some ⟨g, 0, none⟩) n n, .slice A n c]).run Tryd.prog w1 = .ok (goInt n) w2 ∧
      Row w2 g l ∧ (∀ B w0, Below B w0 w1 → B ≤ g → Below B w0 w2) ∧ ∀ k, k ≠ g → w2.heap[k]? = w1.heap[k]? := by
  obtain ⟨i0, hi, hz0, hz1, hz2⟩ := info_parts int_info
  have hsz : (Tryd.prog.info? 3).map (·.size) = some 1 := by rw [hi]; simp [hz1]
  subst hn
  by_cases h0 : l.length = 0
  · obtain rfl : l = [] := List.eq_nil_of_length_eq_zero h0
    exact ⟨w1, run_copy_none w1 _ _ ty 3 _ A 0 0 0 c Tryd.underlying22 hsz (by simp), hr, fun _ _ h _ => h, fun _ _ => rfl⟩
  · obtain ⟨ad, rfl, _, _⟩ := hl 0 (by omega)
    have hlen : (ints l).length = l.length := by rw [ints, List.length_map]
    have hrun := run_copy_row (P := Tryd.prog) w1 22 22 ty 3 g 0 l.length l.length ad l.length c _ 3 (ints l) Tryd.underlying22 hsz hr (by rw [hlen]; exact (Nat.min_self _).symm)
      (fun j v hj => by
        have hj' : j < l.length := by
          rcases Nat.lt_or_ge j l.length with hlt | hge
          · exact hlt
          · rw [List.getElem?_eq_none (by simpa using hge)] at hj; cases hj
        obtain ⟨ad', e, _, hc⟩ := hl j hj'
        obtain rfl := Option.some.inj e
        rw [hc, ← hj]
        simp [hj']) (by rw [hlen]; simp) (fun v hv => by simp at hv; obtain ⟨y, _, rfl⟩ := hv; rfl)
    rw [hlen] at hrun
    refine ⟨_, hrun, ?_, fun B w0 hb hB => below_setRow hb hB _, fun k hk => setRow_other w1 g k _ hk⟩
    unfold Row
    rw [setRow_heap w1 g _ _ 3 (0, 0) hr]
    congr 3
    simp [ints]

end Go.Proofs.YtpffekaldpllkaaDoor

/- Contracts of package euclid: Gcd and Bezout within and outside of their bounds. -/
namespace Go.Proofs.YtpffekaldpllkaaDoor
open Go.ChangeShapes Go.WideShapes Go.ChangeAt Go.RowKit
set_option linter.unusedVariables false

/-- The error that the program gives for a number out of its range. -/
abbrev errRange : Value := .iface 39 (.int .i64 1)

set_option maxHeartbeats 800000 in
theorem gcd_in (a b : Int) (w : World) (h1 : -1000000 ≤ a) (h2 : a ≤ 1000000) (h3 : -1000000 ≤ b) (h4 : b ≤ 1000000) :
    Calls Tryd.prog 39 #[.int .i64 a, .int .i64 b] w fun e w' => e = .returned (.tuple #[.int .i64 (Int.gcd a b : Int), .nilIface]) ∧ Drew w w' := by
  go_enter Tryd.func39, Tryd.ntmps39
  go_wp2_with (first
    | (go_at_call 44; refine (allowed_yes _ _ (by omega) (by omega)).mono ?_; rintro e w' ⟨rfl, rfl⟩)
    | (go_at_call 43; refine (size_any _ _ (by omega) (by omega)).mono ?_; rintro e w' ⟨rfl, rfl⟩)
    | (go_at_call 45; refine (divisor_any _ _ _ (by omega) (by omega)).mono ?_; rintro e w' ⟨rfl, hd⟩))
  go_ret2
  exact ⟨rfl, hd⟩

set_option maxHeartbeats 800000 in
theorem gcd_out (a b : Int) (w : World) (h : ¬ (-1000000 ≤ a ∧ a ≤ 1000000 ∧ -1000000 ≤ b ∧ b ≤ 1000000)) :
    Calls Tryd.prog 39 #[.int .i64 a, .int .i64 b] w fun e w' => e = .returned (.tuple #[.int .i64 0, errRange]) ∧ Drew w w' := by
  by_cases ha : -1000000 ≤ a ∧ a ≤ 1000000
  · have hb : b < -1000000 ∨ 1000000 < b := by omega
    have H := Lib.hid hb
    clear h hb
    go_enter Tryd.func39, Tryd.ntmps39
    go_wp2_with fail
    refine (allowed_yes _ _ (by omega) (by omega)).mono ?_; rintro e w' ⟨rfl, rfl⟩
    go_wp2_with fail
    refine (allowed_no _ _ H.out).mono ?_; rintro e w' ⟨rfl, rfl⟩
    go_wp2_with fail
    go_ret2
    exact ⟨rfl, Drew.refl _⟩
  · have hb : a < -1000000 ∨ 1000000 < a := by omega
    have H := Lib.hid hb
    clear h hb ha
    go_enter Tryd.func39, Tryd.ntmps39
    go_wp2_with fail
    refine (allowed_no _ _ H.out).mono ?_; rintro e w' ⟨rfl, rfl⟩
    go_wp2_with fail
    go_ret2
    exact ⟨rfl, Drew.refl _⟩

/-- Bezout's answer: some x and y that are Bezout's numbers. -/
def SomeBez (a b : Int) (w : World) (e : Ending) (w' : World) : Prop :=
  ∃ x y : Int, Num.BezOk a b x y ∧ e = .returned (.tuple #[.int .i64 (Int.gcd a b : Int), .int .i64 x, .int .i64 y, .nilIface]) ∧ Drew w w'

set_option maxHeartbeats 800000 in
theorem bezout_out (a b : Int) (w : World) (h : ¬ (-1000000 ≤ a ∧ a ≤ 1000000 ∧ -1000000 ≤ b ∧ b ≤ 1000000)) :
    Calls Tryd.prog 34 #[.int .i64 a, .int .i64 b] w fun e w' => e = .returned (.tuple #[.int .i64 0, .int .i64 0, .int .i64 0, errRange]) ∧ Drew w w' := by
  have H := Lib.hid h
  clear h
  go_enter Tryd.func34, Tryd.ntmps34
  go_wp2_with fail
  refine (gcd_out _ _ _ H.out).mono ?_; rintro e w' ⟨rfl, hd⟩
  go_wp2_with fail
  refine bodyPost_ret (v := .tuple #[.int .i64 0, .int .i64 0, .int .i64 0, errRange]) (by simp [results, Tryd.results34, go_sem]) rfl ⟨rfl, hd⟩

set_option maxHeartbeats 800000 in
theorem bezout_zero (a : Int) (w : World) (h1 : -1000000 ≤ a) (h2 : a ≤ 1000000) :
    Calls Tryd.prog 34 #[.int .i64 a, .int .i64 0] w fun e w' => SomeBez a 0 w e w' := by
  go_enter Tryd.func34, Tryd.ntmps34
  go_wp2_with fail
  refine (gcd_in _ _ _ (by omega) (by omega) (by omega) (by omega)).mono ?_; rintro e w' ⟨rfl, hd⟩
  go_wp2_with fail
  refine (sign_any _ _).mono ?_; rintro e w'' ⟨rfl, rfl⟩
  go_wp2_with fail
  refine bodyPost_ret (v := .tuple #[.int .i64 (Int.gcd a 0 : Int), .int .i64 a.sign, .int .i64 0, .nilIface]) (by simp [results, Tryd.results34, go_sem]) rfl ⟨_, _, Num.bez_zero a, rfl, hd⟩

set_option maxHeartbeats 1600000 in
theorem bezout_in (a b : Int) (w : World) (h1 : -1000000 ≤ a) (h2 : a ≤ 1000000) (h3 : -1000000 ≤ b) (h4 : b ≤ 1000000) (h0 : b ≠ 0) :
    Calls Tryd.prog 34 #[.int .i64 a, .int .i64 b] w fun e w' => SomeBez a b w e w' := by
  have hne : (b == 0) = false := by rw [beq_eq_false_iff_ne]; exact h0
  have hgp := Num.gcd_pos a b h0
  have hgs := Num.gcd_small a b h0
  have hgd : Int.gcd a b ∣ b.natAbs := by rw [Int.gcd_eq_natAbs_gcd_natAbs]; exact Nat.gcd_dvd_right _ _
  have hms := Num.div_small b _ hgp hgd h0 h3 h4
  clear hgd
  go_enter Tryd.func34, Tryd.ntmps34
  go_wp2_with fail
  refine (gcd_in _ _ _ (by omega) (by omega) (by omega) (by omega)).mono ?_; rintro e w' ⟨rfl, hd⟩
  go_wp2_with fail
  refine (factor_any _ _ _ (by omega) (by omega) (by omega) (by omega) h0).mono ?_
  rintro e w1 ⟨x0, hx0, rfl, hd1⟩
  go_wp2_with fail
  refine (size_any _ _ (by omega) (by omega)).mono ?_; rintro e w'' ⟨rfl, rfl⟩
  go_wp2_with fail
  have hxb := hx0.2
  refine (residue_any _ _ _ (by omega) (by omega) (by omega) (by omega)).mono ?_; rintro e w'' ⟨rfl, rfl⟩
  have y0 := Int.emod_nonneg x0 (show (b.natAbs : Int) / (Int.gcd a b : Int) ≠ 0 by omega)
  have y1 := Int.emod_lt_of_pos x0 (show 0 < (b.natAbs : Int) / (Int.gcd a b : Int) by omega)
  generalize hx : x0 % ((b.natAbs : Int) / (Int.gcd a b : Int)) = x at *
  have HX := Lib.hid hx
  have HB := Lib.hid (Num.bez_of a b x0 h0 hx0)
  obtain ⟨s1, s2⟩ := Num.bez_small a b x (Int.gcd a b) h1 h2 (by omega) y0 (by omega)
  clear hx hxb hx0
  go_wp2_with fail
  go_quiet (fail)
  go_wp2_with fail
  refine bodyPost_ret (v := .tuple #[.int .i64 (Int.gcd a b : Int), .int .i64 x, .int .i64 (((Int.gcd a b : Int) - a * x).tdiv b), .nilIface]) (by simp [results, Tryd.results34, go_sem]) rfl ⟨x, _, HB.out x _ (by rw [← HX.out]; simp) rfl, rfl, (hd.trans hd1).more _⟩

theorem bezout_any (a b : Int) (w : World) (h1 : -1000000 ≤ a) (h2 : a ≤ 1000000) (h3 : -1000000 ≤ b) (h4 : b ≤ 1000000) :
    Calls Tryd.prog 34 #[.int .i64 a, .int .i64 b] w fun e w' => SomeBez a b w e w' := by
  by_cases h : b = 0
  · subst h; exact bezout_zero a w h1 h2
  · exact bezout_in a b w h1 h2 h3 h4 h

end Go.Proofs.YtpffekaldpllkaaDoor

/- Contracts of package field: element, times, Add, Mul, Div, Pow, within and outside of their bounds. -/
namespace Go.Proofs.YtpffekaldpllkaaDoor
open Go.ChangeShapes Go.WideShapes Go.ChangeAt Go.RowKit
set_option linter.unusedVariables false

/-- The error that the program gives where there is none. -/
abbrev errNone : Value := .iface 39 (.int .i64 5)

/-- An element of the field as the program has it. -/
abbrev el (a : Fp.F) : Value := .int .i64 (a.val : Int)

theorem element_any (n : Int) (w : World) (b : Bool) (hb : (decide (0 ≤ n) && decide (n ≤ 9972)) = b) :
    Calls Tryd.prog 33 #[.int .i64 n] w fun e w' => e = .returned (.bool b) ∧ w = w' := by
  have H := Lib.hid hb
  clear hb
  by_cases h1 : 0 ≤ n
  · go_enter Tryd.func33, Tryd.ntmps33
    go_wp2
    go_ret
    exact ⟨ret_bool (by rw [← H.out, decide_eq_true h1, Bool.true_and]; exact decide_eq_decide.2 (by omega)), rfl⟩
  · go_enter Tryd.func33, Tryd.ntmps33
    go_wp2
    go_ret
    exact ⟨ret_bool (by rw [← H.out, decide_eq_false (show ¬ 0 ≤ n by omega), Bool.false_and]), rfl⟩

theorem element_el (a : Fp.F) (w : World) :
    Calls Tryd.prog 33 #[el a] w fun e w' => e = .returned (.bool true) ∧ w = w' :=
  element_any _ w true (by have := Fp.val_bound a; simp; omega)

theorem prod_bound (a b : Fp.F) : 0 ≤ (a.val : Int) * (b.val : Int) ∧ (a.val : Int) * (b.val : Int) ≤ 99440784 := by
  have h1 := Fp.val_bound a
  have h2 := Fp.val_bound b
  have := Int.mul_le_mul h1.2 h2.2 h2.1 (by omega)
  exact ⟨Int.mul_nonneg h1.1 h2.1, by omega⟩

theorem times_el (a b : Fp.F) (w : World) :
    Calls Tryd.prog 35 #[el a, el b] w fun e w' => e = .returned (el (a * b)) ∧ w = w' := by
  have E := Lib.hid (Fp.mul_val a b)
  obtain ⟨p1, p2⟩ := prod_bound a b
  have h1 := Fp.val_bound a
  have h2 := Fp.val_bound b
  unfold el
  generalize (a.val : Int) = x at *
  generalize (b.val : Int) = y at *
  go_enter Tryd.func35, Tryd.ntmps35
  go_wp2
  go_ret
  exact ⟨ret_int (by rw [E.out]), rfl⟩

/-- Both are elements, or one is none. -/
abbrev Both (a b : Int) : Prop := (0 ≤ a ∧ a ≤ 9972) ∧ (0 ≤ b ∧ b ≤ 9972)



theorem inv_unique {b x : Fp.F} (hb : b ≠ 0) (h : x * b = 1) : x = Fp.inv b := by
  have h2 := Fp.inv_mul hb
  generalize Fp.inv b = i at *
  exact Fp.mul_cancel hb (h.trans h2.symm)

/-- Bezout's number of an element and the prime is what undoes the element. -/
theorem bez_inv (b : Fp.F) (hb : b ≠ 0) (x y : Int) (h : Num.BezOk (b.val : Int) 9973 x y) : x = ((Fp.inv b).val : Int) := by
  obtain ⟨e, k, _⟩ := h
  have hg : Int.gcd (b.val : Int) 9973 = 1 := Fp.coprime b.val (Fp.ne_val hb) b.isLt
  have k := k (by decide)
  rw [hg] at e k
  have k2 : x < 9973 := by
    have : (((9973 : Int).natAbs / 1 : Nat) : Int) = 9973 := rfl
    omega
  have hx := Fp.ofInt_of x (by omega) (by omega)
  have hm : Fp.ofInt x * b = 1 := by
    refine Fp.val_inj ?_
    rw [Fp.mul_val, hx]
    have : (((1 : Fp.F).val : Nat) : Int) = 1 := rfl
    rw [this, Int.mul_comm]
    omega
  rw [← hx, inv_unique hb hm]

theorem div_el (a b : Fp.F) (w : World) (hb : b ≠ 0) :
    Calls Tryd.prog 25 #[el a, el b] w fun e w' => e = .returned (.tuple #[el (a * Fp.inv b), .nilIface]) ∧ Drew w w' := by
  have H1 := Lib.hid (element_el a)
  have H2 := Lib.hid (element_el b)
  have H3 := Lib.hid (times_el a (Fp.inv b))
  have hv := Fp.ne_val hb
  have h0 : (b.val : Int) ≠ 0 := by omega
  have hl := Fp.val_bound b
  have hne : ((b.val : Int) == 0) = false := by rw [beq_eq_false_iff_ne]; exact h0
  have HB := Lib.hid (bez_inv b hb)
  have HG := Lib.hid (show Int.gcd (b.val : Int) 9973 = 1 from Fp.coprime b.val hv b.isLt)
  clear hv
  unfold el at *
  generalize ((a * Fp.inv b).val : Int) = z at *
  generalize ((Fp.inv b).val : Int) = i at *
  generalize (a.val : Int) = x at *
  generalize (b.val : Int) = y at *
  go_enter Tryd.func25, Tryd.ntmps25
  go_wp2_with fail
  refine (H1.out _).mono ?_; rintro e w' ⟨rfl, rfl⟩
  go_wp2_with fail
  refine (H2.out _).mono ?_; rintro e w' ⟨rfl, rfl⟩
  go_wp2_with fail
  refine (bezout_any _ _ _ (by omega) (by omega) (by omega) (by omega)).mono ?_
  rintro e w1 ⟨x', y', hxy, rfl, hd⟩
  obtain rfl := HB.out _ _ hxy
  clear hxy
  go_wp2_with fail
  refine (H3.out _).mono ?_; rintro e w' ⟨rfl, rfl⟩
  go_wp2_with fail
  go_ret2
  exact ⟨rfl, hd⟩

theorem div_zero (a : Fp.F) (w : World) :
    Calls Tryd.prog 25 #[el a, .int .i64 0] w fun e w' => e = .returned (.tuple #[.int .i64 0, errNone]) ∧ w = w' := by
  have H1 := Lib.hid (element_el a)
  unfold el at *
  generalize (a.val : Int) = x at *
  go_enter Tryd.func25, Tryd.ntmps25
  go_wp2_with fail
  refine (H1.out _).mono ?_; rintro e w' ⟨rfl, rfl⟩
  go_wp2_with fail
  refine (element_any 0 _ true (by decide)).mono ?_; rintro e w' ⟨rfl, rfl⟩
  go_wp2_with fail
  go_ret2
  exact ⟨rfl, rfl⟩

theorem div_out (a b : Int) (w : World) (h : ¬ Both a b) :
    Calls Tryd.prog 25 #[.int .i64 a, .int .i64 b] w fun e w' => e = .returned (.tuple #[.int .i64 0, errRange]) ∧ w = w' := by
  by_cases ha : 0 ≤ a ∧ a ≤ 9972
  · have HA := Lib.hid (show (decide (0 ≤ a) && decide (a ≤ 9972)) = true by simp; omega)
    have HB := Lib.hid (show (decide (0 ≤ b) && decide (b ≤ 9972)) = false by simp; omega)
    clear h ha
    go_enter Tryd.func25, Tryd.ntmps25
    go_wp2_with fail
    refine (element_any _ _ _ HA.out).mono ?_; rintro e w' ⟨rfl, rfl⟩
    go_wp2_with fail
    refine (element_any _ _ _ HB.out).mono ?_; rintro e w' ⟨rfl, rfl⟩
    go_wp2_with fail
    go_ret2
    exact ⟨rfl, rfl⟩
  · have HA := Lib.hid (show (decide (0 ≤ a) && decide (a ≤ 9972)) = false by simp; omega)
    clear h ha
    go_enter Tryd.func25, Tryd.ntmps25
    go_wp2_with fail
    refine (element_any _ _ _ HA.out).mono ?_; rintro e w' ⟨rfl, rfl⟩
    go_wp2_with fail
    go_ret2
    exact ⟨rfl, rfl⟩


end Go.Proofs.YtpffekaldpllkaaDoor

/- Contracts of package gauss, second part: clean. -/
namespace Go.Proofs.YtpffekaldpllkaaDoor
open Go.ChangeShapes Go.WideShapes Go.ChangeAt Go.RowKit
set_option linter.unusedVariables false

end Go.Proofs.YtpffekaldpllkaaDoor

/- Contracts of package mat, first part: zero, identity, checkRow, Check, checkBoth. -/
namespace Go.Proofs.YtpffekaldpllkaaDoor
open Go.ChangeShapes Go.WideShapes Go.ChangeAt Go.RowKit
set_option linter.unusedVariables false



/-- The first k rows have no fault. -/
def rowsGo (lo hi : Int) (m : List (List Int)) (k : Nat) : Prop := Mx.rows lo hi (m.getD 0 []).length m = Mx.rows lo hi (m.getD 0 []).length (m.drop k)
theorem rows_go {lo hi : Int} {m : List (List Int)} {k : Nat} (hk : k < m.length) (h : rowsGo lo hi m k) (h0 : Mx.rcode lo hi (m.getD 0 []).length (m.getD k []) = 0) : rowsGo lo hi m (k + 1) := by
  unfold rowsGo at *
  rw [h, Mx.rows_drop hk, if_pos h0]

/-- What is wrong with two matrices: the first one's fault, else the second one's. -/
def mcode2 (a b : List (List Int)) : Nat := if Mx.mcode 5 0 9972 a = 0 then Mx.mcode 5 0 9972 b else Mx.mcode 5 0 9972 a
theorem mcode2_zero {a b : List (List Int)} (h : mcode2 a b = 0) : Mx.mcode 5 0 9972 a = 0 ∧ Mx.mcode 5 0 9972 b = 0 := by
  unfold mcode2 at h
  by_cases h0 : Mx.mcode 5 0 9972 a = 0
  · rw [if_pos h0] at h; exact ⟨h0, h⟩
  · rw [if_neg h0] at h; exact absurd h h0

end Go.Proofs.YtpffekaldpllkaaDoor

/- Contracts of package gauss, third part: Steps, Rank. -/
namespace Go.Proofs.YtpffekaldpllkaaDoor
open Go.ChangeShapes Go.WideShapes Go.ChangeAt Go.RowKit
set_option linter.unusedVariables false

/-- The matrix in steps, and the columns of its pivots. -/
def GotSteps (r c : Nat) (f : Nat → Nat → Fp.F) (w : World) (e : Ending) (w' : World) : Prop :=
  ∃ b g A d A' d', Stair r c c f b g ∧ e = .returned (.tuple #[.slice A r d, .slice A' b.length d', .nilIface]) ∧ LiesM w' A (Mx.matl r c g) ∧ Lies w' A' (cols b) ∧ Kp w w'
/-- No matrix, no columns, an error. -/
def FailsSteps (c : Nat) (w : World) (e : Ending) (w' : World) : Prop := e = .returned (.tuple #[.slice none 0 0, .slice none 0 0, errOf c]) ∧ Kp w w'


end Go.Proofs.YtpffekaldpllkaaDoor

/- Plain facts for systems of equations over F: what is taken to noughts, the one answer that is nought at the free columns, step by step. No program is named here. -/
namespace Go.Proofs.YtpffekaldpllkaaDoor.Mx
open Fp
set_option linter.unusedVariables false

/-- Where a matrix takes a row. -/
def tov (c : Nat) (f : Nat → Nat → F) (v : Nat → F) : Nat → F := fun i => sg c fun j => f i j * v j
theorem tov_congr {c : Nat} {f g : Nat → Nat → F} {v w : Nat → F} {i : Nat} (h : ∀ j, j < c → f i j = g i j) (h' : ∀ j, j < c → v j = w j) : tov c f v i = tov c g w i :=
  sg_congr fun j hj => by rw [h j hj, h' j hj]
theorem tov_more (c : Nat) (f : Nat → Nat → F) (v w : Nat → F) (a : F) (i : Nat) : tov c f (fun j => v j + a * w j) i = tov c f v i + a * tov c f w i := by
  unfold tov
  rw [← sg_times, ← sg_add]
  exact sg_congr fun j _ => by grind
theorem tov_less (c : Nat) (f : Nat → Nat → F) (v w : Nat → F) (i : Nat) : tov c f (fun j => v j - w j) i = tov c f v i - tov c f w i := by
  have h := tov_more c f v w (-1) i
  have e : (fun j => v j - w j) = fun j => v j + -1 * w j := by funext j; grind
  rw [e, h]; grind
theorem tov_none (c : Nat) (f : Nat → Nat → F) (i : Nat) : tov c f (fun _ => 0) i = 0 := by
  unfold tov
  rw [sg_congr (g := fun _ => 0) fun j _ => by grind, sg_none]
theorem tov_mul (r c : Nat) (s g : Nat → Nat → F) (v : Nat → F) (i : Nat) : tov c (mul r s g) v i = sg r fun x => s i x * tov c g v x :=
  congrFun (congrFun (mul_assoc r c s g (fun j _ => v j)) i) 0
/-- What comes of rows that are taken alike is taken alike. -/
theorem tov_come {r c : Nat} {f g : Nat → Nat → F} (h : ∃ s, Eqm r c f (mul r s g)) {v w : Nat → F} (e : ∀ x, x < r → tov c g v x = tov c g w x) {i : Nat} (hi : i < r) : tov c f v i = tov c f w i := by
  obtain ⟨s, hs⟩ := h
  rw [tov_congr (g := mul r s g) (fun j hj => hs i j hi hj) (fun _ _ => rfl), tov_congr (v := w) (g := mul r s g) (fun j hj => hs i j hi hj) (fun _ _ => rfl), tov_mul, tov_mul]
  exact sg_congr fun x hx => by rw [e x hx]

/-- The columns in which no row begins. -/
def fr (b : List Nat) (c : Nat) : List Nat := (List.range c).filter fun k => decide (k ∉ b)
theorem fr_zero (b : List Nat) : fr b 0 = [] := rfl
theorem fr_yes {b : List Nat} {k : Nat} (h : k ∈ b) : fr b (k + 1) = fr b k := by simp [fr, List.range_succ, h]
theorem fr_no {b : List Nat} {k : Nat} (h : k ∉ b) : fr b (k + 1) = fr b k ++ [k] := by simp [fr, List.range_succ, h]
theorem fr_mem {b : List Nat} {c k : Nat} : k ∈ fr b c ↔ k < c ∧ k ∉ b := by simp [fr]
theorem fr_le (b : List Nat) (c : Nat) : (fr b c).length ≤ c := by
  have := List.length_filter_le (fun k => decide (k ∉ b)) (List.range c)
  rwa [List.length_range] at this
theorem fr_pairs (b : List Nat) (c : Nat) : (fr b c).Pairwise (· < ·) := List.Pairwise.filter _ List.pairwise_lt_range
theorem count_not (p : Nat → Bool) : ∀ l : List Nat, (l.filter p).length + (l.filter fun k => !p k).length = l.length
  | [] => rfl
  | x :: l => by
    have := count_not p l
    by_cases h : p x = true
    · simp [h]; omega
    · simp [h]; omega
theorem Steps.count {r c : Nat} {b : List Nat} {g : Nat → Nat → F} (h : Steps r c b g) : b.length + (fr b c).length = c := by
  have e : b = (List.range c).filter fun k => decide (k ∈ b) := inc_same _ _ h.pairs (List.Pairwise.filter _ List.pairwise_lt_range) fun x => by
    simp only [List.mem_filter, List.mem_range, decide_eq_true_eq]
    exact ⟨fun hx => ⟨by obtain ⟨t, ht, rfl⟩ := h.mem hx; exact h.lt t ht, hx⟩, fun hx => hx.2⟩
  have := count_not (fun k => decide (k ∈ b)) (List.range c)
  rw [← e, List.length_range] at this
  have e2 : (List.range c).filter (fun k => !decide (k ∈ b)) = fr b c := by
    unfold fr; congr 1; funext k; simp
  rw [e2] at this
  exact this
theorem pv_mem {b : List Nat} {t : Nat} (ht : t < b.length) : pv b t ∈ b := by
  show b.getD t 0 ∈ b
  rw [List.getD_eq_getElem?_getD, List.getElem?_eq_getElem ht]; exact List.getElem_mem ht
theorem Steps.inj {r c : Nat} {b : List Nat} {g : Nat → Nat → F} (h : Steps r c b g) {s t : Nat} (hs : s < b.length) (ht : t < b.length) (e : pv b s = pv b t) : s = t := by
  rcases Nat.lt_trichotomy s t with hlt | he | hlt
  · have := h.inc s t hlt ht; omega
  · exact he
  · have := h.inc t s hlt hs; omega

/-- The row that is taken to noughts and is 1 at the free column k, nought at the other free ones: as far as the first t rows tell. -/
def nv (b : List Nat) (g : Nat → Nat → F) (k : Nat) : Nat → Nat → F
  | 0 => fun j => if j = k then 1 else 0
  | t + 1 => fun j => if j = pv b t then -(g t k) else nv b g k t j
theorem nv_off (b : List Nat) (g : Nat → Nat → F) (k : Nat) {j : Nat} : ∀ t, (∀ s, s < t → j ≠ pv b s) → nv b g k t j = if j = k then 1 else 0
  | 0, _ => rfl
  | t + 1, h => by
    show (if j = pv b t then _ else nv b g k t j) = _
    rw [if_neg (h t (Nat.lt_succ_self t)), nv_off b g k t fun s hs => h s (by omega)]
theorem nv_free (b : List Nat) (g : Nat → Nat → F) (k : Nat) {j : Nat} (h : j ∉ b) {t : Nat} (ht : t ≤ b.length) : nv b g k t j = if j = k then 1 else 0 :=
  nv_off b g k t fun s hs e => h (by rw [e]; exact pv_mem (by omega))
theorem Steps.nv_piv {r c : Nat} {b : List Nat} {g : Nat → Nat → F} (h : Steps r c b g) (k : Nat) : ∀ (t : Nat), t ≤ b.length → ∀ s, s < t → nv b g k t (pv b s) = -(g s k)
  | 0, _, s, hs => absurd hs (by omega)
  | t + 1, ht, s, hs => by
    show (if pv b s = pv b t then _ else nv b g k t (pv b s)) = _
    by_cases e : s = t
    · rw [e, if_pos rfl]
    · rw [if_neg fun e' => e (h.inj (by omega) (by omega) e'), h.nv_piv k t (by omega) s (by omega)]
theorem nv_congr {b : List Nat} {g g' : Nat → Nat → F} {k : Nat} : ∀ (t : Nat), (∀ s, s < t → g s k = g' s k) → nv b g k t = nv b g' k t
  | 0, _ => rfl
  | t + 1, h => by
    show (fun j => if j = pv b t then -(g t k) else nv b g k t j) = fun j => if j = pv b t then -(g' t k) else nv b g' k t j
    rw [h t (Nat.lt_succ_self t), nv_congr t fun s hs => h s (by omega)]
/-- It is taken to noughts. -/
theorem Steps.nv_zero {r c : Nat} {b : List Nat} {f g : Nat → Nat → F} (h : Steps r c b g) (e : Req r c f g) {k : Nat} (hk : k < c) (hkb : k ∉ b) {i : Nat} (hi : i < r) : tov c f (nv b g k b.length) i = 0 := by
  have hg : ∀ x, x < r → tov c g (nv b g k b.length) x = tov c g (fun _ => 0) x := fun x hx => by
    rw [tov_none]
    unfold tov
    by_cases hl : x < b.length
    · have hne : k ≠ pv b x := fun e => hkb (by rw [e]; exact pv_mem hl)
      rw [sg_two hk (h.lt x hl) hne fun j hj h1 h2 => ?_]
      · rw [nv_free b g k hkb (Nat.le_refl _), if_pos rfl, h.nv_piv k _ (Nat.le_refl _) x hl, h.piv x hl x hx, if_pos rfl]; grind
      · by_cases hjb : j ∈ b
        · obtain ⟨t, ht, rfl⟩ := h.mem hjb
          rw [h.piv t ht x hx, if_neg fun e => h2 (by rw [e])]; grind
        · rw [nv_free b g k hjb (Nat.le_refl _), if_neg h1]; grind
    · rw [sg_congr (g := fun _ => 0) fun j hj => by rw [h.zero x (by omega) hx j hj]; grind, sg_none]
  rw [tov_come e.1 hg hi, tov_none]

/-- Nought at the free columns. -/
def Off (b : List Nat) (c : Nat) (v : Nat → F) : Prop := ∀ j, j < c → j ∉ b → v j = 0
theorem Off.more {b : List Nat} {c : Nat} {v w : Nat → F} (h : Off b c v) (h' : Off b c w) (a : F) : Off b c (fun j => v j + a * w j) := fun j hj hb => by
  show v j + a * w j = 0
  rw [h j hj hb, h' j hj hb]; grind
theorem Off.less {b : List Nat} {c : Nat} {v w : Nat → F} (h : Off b c v) (h' : Off b c w) : Off b c (fun j => v j - w j) := fun j hj hb => by
  show v j - w j = 0
  rw [h j hj hb, h' j hj hb]; grind
/-- Taken to noughts, and nought at the free columns: nought. -/
theorem Steps.off_zero {r c : Nat} {b : List Nat} {f g : Nat → Nat → F} (h : Steps r c b g) (e : Req r c f g) {v : Nat → F} (ho : Off b c v) (hz : ∀ i, i < r → tov c f v i = 0) : ∀ j, j < c → v j = 0 := fun j hj => by
  by_cases hb : j ∈ b
  · obtain ⟨t, ht, rfl⟩ := h.mem hb
    have htr : t < r := Nat.lt_of_lt_of_le ht h.le
    have h1 : tov c g v t = 0 := by
      have := tov_come e.2 (v := v) (w := fun _ => 0) (fun x hx => by rw [hz x hx, tov_none]) htr
      rw [this, tov_none]
    unfold tov at h1
    rw [sg_one hj fun s hs hne => ?_, h.piv t ht t htr, if_pos rfl] at h1
    · rw [← h1]; grind
    · by_cases hsb : s ∈ b
      · obtain ⟨q, hq, rfl⟩ := h.mem hsb
        rw [h.piv q hq t htr, if_neg fun e => hne (by rw [e])]; grind
      · rw [ho s hs hsb]; grind
  · exact ho j hj hb
theorem Steps.off_one {r c : Nat} {b : List Nat} {f g : Nat → Nat → F} (h : Steps r c b g) (e : Req r c f g) {v w : Nat → F} (ho : Off b c v) (ho' : Off b c w) (hz : ∀ i, i < r → tov c f v i = tov c f w i) : ∀ j, j < c → v j = w j := fun j hj => by
  have := h.off_zero e (ho.less ho') (fun i hi => by rw [tov_less, hz i hi]; grind) j hj
  grind
/-- What is taken somewhere: something that is nought at the free columns is taken there. -/
theorem Steps.off_some {r c : Nat} {b : List Nat} {f g : Nat → Nat → F} (h : Steps r c b g) (e : Req r c f g) (z : Nat → F) : ∃ y, Off b c y ∧ ∀ i, i < r → tov c f y i = tov c f z i := by
  refine ⟨fun j => sg b.length fun t => if j = pv b t then tov c g z t else 0, fun j _ hb => ?_, fun i hi => tov_come e.1 (fun x hx => ?_) hi⟩
  · dsimp only
    rw [sg_congr (g := fun _ => 0) fun t ht => by rw [if_neg fun e => hb (by rw [e]; exact pv_mem ht)], sg_none]
  · by_cases hl : x < b.length
    · have hy : ∀ t, t < b.length → (sg b.length fun s => if pv b t = pv b s then tov c g z s else 0) = tov c g z t := fun t ht => by
        rw [sg_one ht fun s hs hne => by rw [if_neg fun e => hne (h.inj hs ht e.symm)], if_pos rfl]
      show sg c (fun j => g x j * sg b.length fun s => if j = pv b s then tov c g z s else 0) = _
      rw [sg_one (h.lt x hl) fun j hj hne => ?_, hy x hl, h.piv x hl x hx, if_pos rfl]
      · grind
      · by_cases hjb : j ∈ b
        · obtain ⟨t, ht, rfl⟩ := h.mem hjb
          rw [h.piv t ht x hx, if_neg fun e => hne (by rw [e])]; grind
        · rw [sg_congr (g := fun _ => 0) fun t ht => by rw [if_neg fun e => hjb (by rw [e]; exact pv_mem ht)], sg_none]; grind
    · have hz : ∀ v : Nat → F, tov c g v x = 0 := fun v => by
        unfold tov
        rw [sg_congr (g := fun _ => 0) fun j hj => by rw [h.zero x (by omega) hx j hj]; grind, sg_none]
      rw [hz, hz]

/-- THE answer of a system: nought at the free columns. -/
structure Ans (r c : Nat) (f : Nat → Nat → F) (tt0 : Nat → F) (b : List Nat) (x : Nat → F) : Prop where
  off : Off b c x
  sol : ∀ i, i < r → tov c f x i = tt0 i
/-- There is none at all. -/
def NoAns (r c : Nat) (f : Nat → Nat → F) (tt0 : Nat → F) : Prop := ¬ ∃ z : Nat → F, ∀ i, i < r → tov c f z i = tt0 i
theorem Ans.one {r c : Nat} {f g : Nat → Nat → F} {tt0 : Nat → F} {b : List Nat} {x y : Nat → F} (h : Steps r c b g) (e : Req r c f g) (hx : Ans r c f tt0 b x) (hy : Ans r c f tt0 b y) : ∀ j, j < c → x j = y j :=
  h.off_one e hx.off hy.off fun i hi => by rw [hx.sol i hi, hy.sol i hi]

/-- What comes of some rows. -/
def Comb (c : Nat) : List (Nat → F) → (Nat → F) → Prop
  | [], v => ∀ j, j < c → v j = 0
  | w :: ws, v => ∃ a, Comb c ws fun j => v j - a * w j
theorem Comb.congr {c : Nat} : ∀ {ws : List (Nat → F)} {u v : Nat → F}, Comb c ws u → (∀ j, j < c → u j = v j) → Comb c ws v
  | [], u, v, h, e => fun j hj => by rw [← e j hj]; exact h j hj
  | w :: ws, u, v, ⟨a, h⟩, e => ⟨a, h.congr fun j hj => by rw [e j hj]⟩
theorem Comb.less {c : Nat} (w : Nat → F) (a : F) : ∀ {ws : List (Nat → F)} {v : Nat → F}, Comb c ws v → (k : Nat) → (hk : k < ws.length) → (he : ws[k] = w) → Comb c ws fun j => v j - a * w j
  | [], v, h, k, hk, he => absurd hk (by simp)
  | w' :: ws, v, ⟨d, h⟩, 0, hk, he => by
    simp at he; subst he
    exact ⟨d - a, h.congr fun j _ => by grind⟩
  | w' :: ws, v, ⟨d, h⟩, k + 1, hk, he => by
    refine ⟨d, ?_⟩
    refine (Comb.less w a h k (by simpa using hk) (by simpa using he)).congr fun j _ => ?_
    grind
/-- Row i of f is where the k-th way moves. -/
theorem Comb.take {c : Nat} : ∀ {ws : List (Nat → F)} {v : Nat → F}, Comb c ws v → (k : Nat) → (hk : k < ws.length) → ∃ a, Comb c (ws.eraseIdx k) fun j => v j - a * ws[k] j
  | [], v, h, k, hk => absurd hk (by simp)
  | w :: ws, v, ⟨d, h⟩, 0, hk => ⟨d, by simpa using h⟩
  | w :: ws, v, ⟨d, h⟩, k + 1, hk => by
    obtain ⟨a, h2⟩ := h.take k (by simpa using hk)
    refine ⟨a, ?_⟩
    rw [List.eraseIdx_cons_succ]
    refine ⟨d, h2.congr fun j _ => ?_⟩
    simp only [List.getElem_cons_succ]
    grind
/-- Each of the rows moved along one: the same, but for so many times that one. -/
theorem Comb.moved {c : Nat} (w : Nat → F) (m : (Nat → F) → F) : ∀ {ws : List (Nat → F)} {v : Nat → F}, Comb c ws v → ∃ a, Comb c (ws.map fun u j => u j + m u * w j) fun j => v j - a * w j
  | [], v, h => ⟨0, fun j hj => by show v j - 0 * w j = 0; rw [h j hj]; grind⟩
  | u :: ws, v, ⟨d, h⟩ => by
    obtain ⟨a, h2⟩ := Comb.moved w m h
    exact ⟨a - d * m u, d, h2.congr fun j _ => by dsimp only; grind⟩
/-- What all ways take to nought, all that comes of them does. -/
theorem Comb.still {c : Nat} {f : Nat → Nat → F} {i : Nat} : ∀ {ws : List (Nat → F)} {v : Nat → F}, Comb c ws v → (∀ w, w ∈ ws → tov c f w i = 0) → tov c f v i = 0
  | [], v, h, _ => by rw [tov_congr (w := fun _ => 0) (fun _ _ => rfl) h, tov_none]
  | w :: ws, v, ⟨a, h⟩, h0 => by
    have h1 := h.still fun u hu => h0 u (List.mem_cons_of_mem _ hu)
    have h2 := tov_more c f v w (-a) i
    have e : (fun j => v j - a * w j) = fun j => v j + -a * w j := by funext j; grind
    rw [e, h2, h0 w (List.mem_cons_self ..)] at h1
    rw [← h1]; grind

/-- A way moved along another one until row i takes it where it should go. -/
def mv (c : Nat) (f : Nat → Nat → F) (i : Nat) (want : F) (w u : Nat → F) : Nat → F := fun j => u j + ((want - tov c f u i) * Fp.inv (tov c f w i)) * w j
theorem mv_there {c : Nat} {f : Nat → Nat → F} {i : Nat} {want : F} {w u : Nat → F} (h0 : tov c f w i ≠ 0) : tov c f (mv c f i want w u) i = want := by
  show tov c f (fun j => u j + ((want - tov c f u i) * Fp.inv (tov c f w i)) * w j) i = want
  rw [tov_more]
  have h1 := inv_mul h0
  generalize Fp.inv (tov c f w i) = v at *
  generalize tov c f w i = t at *
  have : (want - tov c f u i) * v * t = (want - tov c f u i) * (v * t) := by grind
  rw [this, h1]; grind
theorem mv_still {c : Nat} {f : Nat → Nat → F} {i s : Nat} {want : F} {w u : Nat → F} (h0 : tov c f w s = 0) : tov c f (mv c f i want w u) s = tov c f u s := by
  show tov c f (fun j => u j + ((want - tov c f u i) * Fp.inv (tov c f w i)) * w j) s = _
  rw [tov_more, h0]; grind
theorem mv_off {c : Nat} {f : Nat → Nat → F} {i : Nat} {want : F} {w u : Nat → F} {b : List Nat} (hw : Off b c w) (hu : Off b c u) : Off b c (mv c f i want w u) := hu.more hw _

/-- The first i rows are met by x and by what comes of x and the ways, and by nothing else that is nought at the free columns. -/
structure Srch (c : Nat) (f : Nat → Nat → F) (tt0 : Nat → F) (b : List Nat) (i : Nat) (x : Nat → F) (ws : List (Nat → F)) : Prop where
  offx : Off b c x
  offw : ∀ w, w ∈ ws → Off b c w
  solx : ∀ s, s < i → tov c f x s = tt0 s
  solw : ∀ w, w ∈ ws → ∀ s, s < i → tov c f w s = 0
  all : ∀ y, Off b c y → (∀ s, s < i → tov c f y s = tt0 s) → Comb c ws fun j => y j - x j

theorem comb_units (c : Nat) : ∀ (b : List Nat) (y : Nat → F), Off b c y → Comb c (b.map fun k j => if j = k then 1 else 0) y
  | [], y, h => fun j hj => h j hj (by simp)
  | k :: b, y, h => by
    refine ⟨y k, comb_units c b _ fun j hj hb => ?_⟩
    show y j - y k * (if j = k then 1 else 0) = 0
    by_cases e : j = k
    · rw [if_pos e, e]; grind
    · rw [if_neg e, h j hj (by simp [e, hb])]; grind
theorem Srch.start (c : Nat) (f : Nat → Nat → F) (tt0 : Nat → F) (b : List Nat) : Srch c f tt0 b 0 (fun _ => 0) (b.map fun k j => if j = k then 1 else 0) := by
  refine ⟨fun _ _ _ => rfl, fun w hw j hj hb => ?_, fun s hs => absurd hs (by omega), fun w _ s hs => absurd hs (by omega), fun y hy _ => (comb_units c b y hy).congr fun j _ => by grind⟩
  obtain ⟨k, hk, rfl⟩ := List.mem_map.1 hw
  show (if j = k then (1 : F) else 0) = 0
  rw [if_neg fun e => hb (by rw [e]; exact hk)]
theorem Srch.keep {c : Nat} {f : Nat → Nat → F} {tt0 : Nat → F} {b : List Nat} {i : Nat} {x : Nat → F} {ws : List (Nat → F)} (h : Srch c f tt0 b i x ws) (h0 : ∀ w, w ∈ ws → tov c f w i = 0) (hx : tov c f x i = tt0 i) : Srch c f tt0 b (i + 1) x ws :=
  ⟨h.offx, h.offw, fun s hs => by
    by_cases e : s = i
    · rw [e, hx]
    · exact h.solx s (by omega), fun w hw s hs => by
    by_cases e : s = i
    · rw [e, h0 w hw]
    · exact h.solw w hw s (by omega), fun y hy hs => h.all y hy fun s h' => hs s (by omega)⟩
theorem Srch.fail {r c : Nat} {f g : Nat → Nat → F} {tt0 : Nat → F} {b : List Nat} {i : Nat} {x : Nat → F} {ws : List (Nat → F)} (h : Srch c f tt0 b i x ws) (st : Steps r c b g) (e : Req r c f g) (hi : i < r) (h0 : ∀ w, w ∈ ws → tov c f w i = 0) (hx : tov c f x i ≠ tt0 i) : NoAns r c f tt0 := by
  rintro ⟨z, hz⟩
  obtain ⟨y, hy, hyz⟩ := st.off_some e z
  have h1 := (h.all y hy fun s hs => by rw [hyz s (by omega), hz s (by omega)]).still h0
  rw [tov_less, hyz i hi, hz i hi] at h1
  exact hx (by grind)
theorem Srch.move {c : Nat} {f : Nat → Nat → F} {tt0 : Nat → F} {b : List Nat} {i : Nat} {x : Nat → F} {ws : List (Nat → F)} (h : Srch c f tt0 b i x ws) (k : Nat) (hk : k < ws.length) (h0 : tov c f ws[k] i ≠ 0) :
    Srch c f tt0 b (i + 1) (mv c f i (tt0 i) ws[k] x) ((ws.eraseIdx k).map (mv c f i 0 ws[k])) := by
  have hw : ws[k] ∈ ws := List.getElem_mem hk
  have he : ∀ u, u ∈ ws.eraseIdx k → u ∈ ws := fun u hu => (List.eraseIdx_sublist ws k).subset hu
  refine ⟨mv_off (h.offw _ hw) h.offx, fun v hv => ?_, fun s hs => ?_, fun v hv s hs => ?_, fun y hy hs => ?_⟩
  · obtain ⟨u, hu, rfl⟩ := List.mem_map.1 hv
    exact mv_off (h.offw _ hw) (h.offw u (he u hu))
  · by_cases e : s = i
    · rw [e, mv_there h0]
    · rw [mv_still (h.solw _ hw s (by omega)), h.solx s (by omega)]
  · obtain ⟨u, hu, rfl⟩ := List.mem_map.1 hv
    by_cases e : s = i
    · rw [e, mv_there h0]
    · rw [mv_still (h.solw _ hw s (by omega)), h.solw u (he u hu) s (by omega)]
  · obtain ⟨a, h1⟩ := (h.all y hy fun s h' => hs s (by omega)).take k hk
    obtain ⟨d, h2⟩ := Comb.moved ws[k] (fun u => (0 - tov c f u i) * Fp.inv (tov c f ws[k] i)) h1
    have h3 : Comb c ((ws.eraseIdx k).map (mv c f i 0 ws[k])) fun j => (y j - mv c f i (tt0 i) ws[k] x j) + (-(a + d - (tt0 i - tov c f x i) * Fp.inv (tov c f ws[k] i))) * ws[k] j :=
      Comb.congr (c := c) h2 fun j _ => by
        show y j - x j - a * ws[k] j - d * ws[k] j = y j - (x j + ((tt0 i - tov c f x i) * Fp.inv (tov c f ws[k] i)) * ws[k] j) + _
        generalize (tt0 i - tov c f x i) * Fp.inv (tov c f ws[k] i) = q
        generalize ws[k] j = z
        generalize x j = z2
        generalize y j = z3
        grind
    have h4 := h3.still (f := f) (i := i) fun w hw' => by
      obtain ⟨u, hu, rfl⟩ := List.mem_map.1 hw'
      exact mv_there h0
    rw [tov_more, tov_less, mv_there h0, hs i (Nat.lt_succ_self i)] at h4
    have h5 : a + d - (tt0 i - tov c f x i) * Fp.inv (tov c f ws[k] i) = 0 := by
      generalize a + d - (tt0 i - tov c f x i) * Fp.inv (tov c f ws[k] i) = q at *
      generalize tov c f ws[k] i = t at *
      rcases Fp.mul_zero_or (a := q) (b := t) (by grind) with e | e
      · exact e
      · exact absurd e h0
    rw [h5] at h3
    exact h3.congr fun j _ => by grind
theorem Srch.done {r c : Nat} {f : Nat → Nat → F} {tt0 : Nat → F} {b : List Nat} {x : Nat → F} {ws : List (Nat → F)} (h : Srch c f tt0 b r x ws) : Ans r c f tt0 b x := ⟨h.offx, h.solx⟩

/-- The ways as rows of a matrix. -/
def wl (n : Nat) (w : Nat → Nat → F) : List (Nat → F) := (List.range n).map w
theorem len_wl (n : Nat) (w : Nat → Nat → F) : (wl n w).length = n := by simp [wl]
theorem wl_at (n : Nat) (w : Nat → Nat → F) {k : Nat} (hk : k < (wl n w).length) : (wl n w)[k] = w k := by simp [wl]
theorem wl_mem {n : Nat} {w : Nat → Nat → F} {v : Nat → F} : v ∈ wl n w ↔ ∃ k, k < n ∧ w k = v := by simp [wl]
theorem wl_erase (n : Nat) (w : Nat → Nat → F) (k : Nat) (hk : k < n + 1) : (wl (n + 1) w).eraseIdx k = wl n fun i => w (sk k i) := by
  refine List.ext_getElem (by simp [wl, List.length_eraseIdx, hk]) fun i h1 h2 => ?_
  rw [List.getElem_eraseIdx]
  have h3 : i < n := by simpa [wl] using h2
  by_cases e : i < k
  · simp [wl, e, sk]
  · simp [wl, e, sk]
theorem wl_map (n : Nat) (w : Nat → Nat → F) (m : (Nat → F) → Nat → F) : (wl n w).map m = wl n fun i => m (w i) := by simp [wl]
theorem wl_units (b : List Nat) : (b.map fun k j => if j = k then (1 : F) else 0) = wl b.length fun t j => if j = pv b t then 1 else 0 := by
  refine List.ext_getElem (by simp [wl]) fun i h1 h2 => ?_
  have : i < b.length := by simpa using h1
  simp [wl, pv, this]

/-- With one more column. -/
def aug (c : Nat) (f : Nat → Nat → F) (tt0 : Nat → F) : Nat → Nat → F := fun i j => if j = c then tt0 i else f i j
theorem Req.less {r c d : Nat} {f g : Nat → Nat → F} (h : Req r c f g) (hd : d ≤ c) : Req r d f g := by
  obtain ⟨⟨s, hs⟩, ⟨t, ht⟩⟩ := h
  exact ⟨⟨s, fun i j hi hj => hs i j hi (by omega)⟩, ⟨t, fun i j hi hj => ht i j hi (by omega)⟩⟩
theorem aug_less (r c : Nat) (f : Nat → Nat → F) (tt0 : Nat → F) : Eqm r c f (aug c f tt0) := fun i j _ hj => by
  show f i j = if j = c then tt0 i else f i j
  rw [if_neg (by omega)]
theorem aug_tov (c : Nat) (f : Nat → Nat → F) (tt0 : Nat → F) (y : Nat → F) (i : Nat) : tov (c + 1) (aug c f tt0) (fun j => if j = c then -1 else y j) i = tov c f y i - tt0 i := by
  show sg c _ + aug c f tt0 i c * (if c = c then -1 else y c) = _
  rw [if_pos rfl, show aug c f tt0 i c = tt0 i from if_pos rfl]
  have : sg c (fun j => aug c f tt0 i j * (if j = c then -1 else y j)) = tov c f y i := sg_congr fun j hj => by
    rw [if_neg (by omega), show aug c f tt0 i j = f i j from if_neg (by omega)]
  rw [this]; grind
/-- What f takes to to, its steps take to what stands behind them. -/
theorem aug_same {r c : Nat} {f a : Nat → Nat → F} {tt0 : Nat → F} (e : Req r (c + 1) (aug c f tt0) a) (y : Nat → F) : (∀ i, i < r → tov c f y i = tt0 i) ↔ ∀ i, i < r → tov c a y i = a i c := by
  have ha : ∀ i, tov (c + 1) a (fun j => if j = c then -1 else y j) i = tov c a y i - a i c := fun i => by
    have := aug_tov c a (fun i => a i c) y i
    rw [← this]
    refine tov_congr (fun j _ => ?_) fun _ _ => rfl
    show a i j = if j = c then a i c else a i j
    by_cases e : j = c
    · rw [if_pos e, e]
    · rw [if_neg e]
  constructor
  · intro h i hi
    have := tov_come e.2 (v := fun j => if j = c then -1 else y j) (w := fun _ => 0) (fun x hx => by rw [aug_tov, h x hx, tov_none]; grind) hi
    rw [ha, tov_none] at this; grind
  · intro h i hi
    have := tov_come e.1 (v := fun j => if j = c then -1 else y j) (w := fun _ => 0) (fun x hx => by rw [ha, h x hx, tov_none]; grind) hi
    rw [aug_tov, tov_none] at this; grind
/-- The answer read off. -/
def ov (b : List Nat) (a : Nat → Nat → F) (c : Nat) : Nat → Nat → F
  | 0 => fun _ => 0
  | t + 1 => fun j => if j = pv b t then a t c else ov b a c t j
theorem ov_off {b : List Nat} {a : Nat → Nat → F} {c j : Nat} : ∀ t, (∀ s, s < t → j ≠ pv b s) → ov b a c t j = 0
  | 0, _ => rfl
  | t + 1, h => by
    show (if j = pv b t then _ else ov b a c t j) = _
    rw [if_neg (h t (Nat.lt_succ_self t)), ov_off t fun s hs => h s (by omega)]
theorem Steps.ov_piv {r k c : Nat} {b : List Nat} {g a : Nat → Nat → F} (h : Steps r k b g) : ∀ (t : Nat), t ≤ b.length → ∀ s, s < t → ov b a c t (pv b s) = a s c
  | 0, _, s, hs => absurd hs (by omega)
  | t + 1, ht, s, hs => by
    show (if pv b s = pv b t then _ else ov b a c t (pv b s)) = _
    by_cases e : s = t
    · rw [e, if_pos rfl]
    · rw [if_neg fun e' => e (h.inj (by omega) (by omega) e'), h.ov_piv t (by omega) s (by omega)]
theorem aug_ans {r c : Nat} {f a : Nat → Nat → F} {tt0 : Nat → F} {b : List Nat} (h : Steps r c b a) (e : Req r (c + 1) (aug c f tt0) a) (h0 : ∀ i, b.length ≤ i → i < r → a i c = 0) : Ans r c f tt0 b (ov b a c b.length) := by
  have hoff : Off b c (ov b a c b.length) := fun j hj hb => ov_off _ fun s hs e => hb (by rw [e]; exact pv_mem hs)
  refine ⟨hoff, (aug_same e _).2 fun i hi => ?_⟩
  unfold tov
  by_cases hl : i < b.length
  · rw [sg_one (h.lt i hl) fun j hj hne => ?_, h.ov_piv _ (Nat.le_refl _) i hl, h.piv i hl i hi, if_pos rfl]
    · grind
    · by_cases hjb : j ∈ b
      · obtain ⟨t, ht, rfl⟩ := h.mem hjb
        rw [h.piv t ht i hi, if_neg fun e => hne (by rw [e])]; grind
      · rw [hoff j hj hjb]; grind
  · rw [sg_congr (g := fun _ => 0) fun j hj => by rw [h.zero i (by omega) hi j hj]; grind, sg_none, h0 i (by omega) hi]
theorem aug_not {r c : Nat} {f a : Nat → Nat → F} {tt0 : Nat → F} {b : List Nat} (h : Steps r c b a) (e : Req r (c + 1) (aug c f tt0) a) {i : Nat} (hb : b.length ≤ i) (hi : i < r) (h0 : a i c ≠ 0) : NoAns r c f tt0 := by
  rintro ⟨z, hz⟩
  have := (aug_same e z).1 hz i hi
  unfold tov at this
  rw [sg_congr (g := fun _ => 0) fun j hj => by rw [h.zero i hb hi j hj]; grind, sg_none] at this
  exact h0 this.symm
/-- How many steps there are with one more column. -/
theorem aug_rank {r c : Nat} {f g h : Nat → Nat → F} {tt0 : Nat → F} {b d : List Nat} (s : Stair r c c f b g) (t : Stair r (c + 1) (c + 1) (aug c f tt0) d h) :
    ((∃ z : Nat → F, ∀ i, i < r → tov c f z i = tt0 i) → d.length = b.length) ∧ (NoAns r c f tt0 → d.length = b.length + 1) := by
  obtain ⟨b2, a, hs, hr⟩ := steps_some r (c + 1) (aug c f tt0) c (by omega)
  have hfa : Req r c f a := (Req.of r c (aug_less r c f tt0)).trans (hr.less (by omega))
  obtain ⟨rfl, _⟩ := s.steps.unique hs (s.req.symm.trans hfa)
  by_cases h0 : ∀ i, b.length ≤ i → i < r → a i c = 0
  · have hs2 := hs.skip h0
    obtain ⟨rfl, _⟩ := t.steps.unique hs2 (t.req.symm.trans hr)
    exact ⟨fun _ => rfl, fun hn => absurd ⟨_, (aug_ans hs hr h0).sol⟩ hn⟩
  · have : ∃ i, b.length ≤ i ∧ i < r ∧ a i c ≠ 0 := Classical.byContradiction fun hn => h0 fun i h1 h2 => Classical.byContradiction fun h3 => hn ⟨i, h1, h2, h3⟩
    obtain ⟨i, h1, h2, h3⟩ := this
    have hs2 := hs.next h1 h2 h3
    have hle := hs.le
    obtain ⟨rfl, _⟩ := t.steps.unique hs2 ((t.req.symm.trans hr).trans (req_next a (by omega) h2 h3))
    refine ⟨fun hz => absurd hz (aug_not hs hr h1 h2 h3), fun _ => by simp⟩

/-- The rows that are taken to noughts, one behind the other. -/
def nm (b : List Nat) (g : Nat → Nat → F) (c : Nat) : Nat → Nat → F := fun i => nv b g (pv (fr b c) i) b.length
theorem fr_at {b : List Nat} {c i : Nat} (hi : i < (fr b c).length) : pv (fr b c) i < c ∧ pv (fr b c) i ∉ b := fr_mem.1 (pv_mem hi)
theorem fr_inj {b : List Nat} {c i j : Nat} (hi : i < (fr b c).length) (hj : j < (fr b c).length) (e : pv (fr b c) i = pv (fr b c) j) : i = j := by
  have hp := List.pairwise_iff_getElem.1 (fr_pairs b c)
  have e1 : (fr b c)[i] = (fr b c)[j] := by simpa [pv, hi, hj] using e
  rcases Nat.lt_trichotomy i j with h | h | h
  · have := hp i j hi hj h; omega
  · exact h
  · have := hp j i hj hi h; omega
/-- No one of them is made of the others. -/
theorem nm_rank {r c : Nat} {b d : List Nat} {g h : Nat → Nat → F} (s : Stair (fr b c).length c c (nm b g c) d h) : d.length = (fr b c).length := by
  refine Nat.le_antisymm s.le (sees_thru (p := (fr b c).length) ⟨one, fun j i => if j = pv (fr b c) i then 1 else 0, ?_⟩ s.thru)
  refine (one_mul _ _ _).trans fun i j hi hj => ?_
  show sg c (fun x => nm b g c i x * (if x = pv (fr b c) j then 1 else 0)) = one i j
  rw [sg_one (fr_at hj).1 fun x _ hne => by rw [if_neg hne]; grind, if_pos rfl]
  show nv b g (pv (fr b c) i) b.length (pv (fr b c) j) * 1 = _
  rw [nv_free b g _ (fr_at hj).2 (Nat.le_refl _)]
  unfold one
  by_cases e : i = j
  · rw [e, if_pos rfl, if_pos rfl]; grind
  · rw [if_neg fun e' => e (fr_inj hj hi e').symm, if_neg e]; grind
theorem fr_next {b : List Nat} {c k : Nat} (hk : k < c) (hkb : k ∉ b) : (fr b k).length < (fr b c).length ∧ pv (fr b c) (fr b k).length = k := by
  have h : ∀ n, ∃ l, fr b (k + 1 + n) = fr b k ++ k :: l := by
    intro n
    induction n with
    | zero => exact ⟨[], by rw [Nat.add_zero, fr_no hkb]⟩
    | succ n ih =>
      obtain ⟨l, hl⟩ := ih
      by_cases e : k + 1 + n ∈ b
      · exact ⟨l, by rw [← Nat.add_assoc, fr_yes e, hl]⟩
      · exact ⟨l ++ [k + 1 + n], by rw [← Nat.add_assoc, fr_no e, hl]; simp⟩
  obtain ⟨l, hl⟩ := h (c - (k + 1))
  rw [show k + 1 + (c - (k + 1)) = c by omega] at hl
  rw [hl]
  exact ⟨by simp, by simp [pv]⟩

/-- One answer, and so many times what is taken to noughts. -/
def tot (b : List Nat) (g : Nat → Nat → F) (x y : Nat → F) : Nat → Nat → F
  | 0 => y
  | k + 1 => if k ∈ b then tot b g x y k else fun j => tot b g x y k j + x k * nv b g k b.length j
theorem tot_free {b : List Nat} {g : Nat → Nat → F} {x y : Nat → F} {j : Nat} (hj : j ∉ b) : ∀ k, tot b g x y k j = y j + if j < k then x j else 0
  | 0 => by show y j = _; rw [if_neg (by omega)]; grind
  | k + 1 => by
    show (if k ∈ b then tot b g x y k else fun j => tot b g x y k j + x k * nv b g k b.length j) j = _
    by_cases hk : k ∈ b
    · rw [if_pos hk, tot_free hj k]
      have : j ≠ k := fun e => hj (by rw [e]; exact hk)
      by_cases h : j < k
      · rw [if_pos h, if_pos (by omega)]
      · rw [if_neg h, if_neg (by omega)]
    · rw [if_neg hk]
      show tot b g x y k j + x k * nv b g k b.length j = _
      rw [tot_free hj k, nv_free b g k hj (Nat.le_refl _)]
      by_cases e : j = k
      · rw [if_pos e, if_neg (by omega), if_pos (by omega), e]; grind
      · rw [if_neg e]
        by_cases h : j < k
        · rw [if_pos h, if_pos (by omega)]; grind
        · rw [if_neg h, if_neg (by omega)]; grind
theorem tot_sol {r c : Nat} {b : List Nat} {f g : Nat → Nat → F} {x y : Nat → F} (h : Steps r c b g) (e : Req r c f g) {i : Nat} (hi : i < r) : ∀ k, k ≤ c → tov c f (tot b g x y k) i = tov c f y i
  | 0, _ => rfl
  | k + 1, hk => by
    show tov c f (if k ∈ b then tot b g x y k else fun j => tot b g x y k j + x k * nv b g k b.length j) i = _
    by_cases hkb : k ∈ b
    · rw [if_pos hkb, tot_sol h e hi k (by omega)]
    · rw [if_neg hkb, tov_more, tot_sol h e hi k (by omega), h.nv_zero e (by omega) hkb hi]; grind
theorem tot_all {r c : Nat} {b : List Nat} {f g : Nat → Nat → F} {x y : Nat → F} (s : Stair r c c f b g) (hy : Ans r c f (tov c f x) b y) : ∀ j, j < c → tot b g x y c j = x j := fun j hj => by
  have h := s.steps.off_zero s.req (v := fun j => tot b g x y c j - x j) (fun j hj hb => by
    show tot b g x y c j - x j = 0
    rw [tot_free hb, hy.off j hj hb, if_pos hj]; grind) (fun i hi => by rw [tov_less, tot_sol s.steps s.req hi c (Nat.le_refl _), hy.sol i hi]; grind) j hj
  have h : tot b g x y c j - x j = 0 := h
  grind
end Go.Proofs.YtpffekaldpllkaaDoor.Mx

/- Contracts of package solve, first part: what keeps what, unit, checkSide, the function that valueOf makes. -/
namespace Go.Proofs.YtpffekaldpllkaaDoor
open Go.ChangeShapes Go.WideShapes Go.ChangeAt Go.RowKit
set_option linter.unusedVariables false

/-- Nothing but what stands in some blocks has turned. -/
structure Save (S : Nat → Prop) (w w' : World) : Prop where
  os : w'.os = w.os
  tape : w'.tape = w.tape
  output : w'.output = w.output
  size : w.heap.size ≤ w'.heap.size
  block : ∀ b, b < w.heap.size → ¬ S b → w'.heap[b]? = w.heap[b]?
theorem Save.of {S : Nat → Prop} {w w' : World} (h : Kp w w') : Save S w w' := ⟨h.os, h.tape, h.output, h.size, fun b hb _ => h.block b hb⟩
theorem Save.refl (S : Nat → Prop) (w : World) : Save S w w := Save.of (Kp.rfl' w)
theorem Save.trans {S : Nat → Prop} {a b c : World} (h : Save S a b) (k : Save S b c) : Save S a c :=
  ⟨k.os.trans h.os, k.tape.trans h.tape, k.output.trans h.output, Nat.le_trans h.size k.size, fun i hi hn => (k.block i (Nat.lt_of_lt_of_le hi h.size) hn).trans (h.block i hi hn)⟩
theorem Save.drewN {S : Nat → Prop} {a b : World} (h : Save S a b) (n : Nat) : Save S a (b.drewN n) := h.trans (Save.of ((Kp.rfl' b).drewN n))
theorem Save.put {S : Nat → Prop} {a b : World} (h : Save S a b) {p : Addr} (hp : S p.block) (u : Value) : Save S a (b.setCell p u) :=
  h.trans ⟨rfl, rfl, rfl, by simp [World.setCell], fun k _ hn => Below.heap_setCell _ _ _ _ (fun e => hn (by rw [e]; exact hp))⟩
theorem Save.below {S : Nat → Prop} {B : Nat} {w0 w w' : World} (h : Save S w w') (hb : Below B w0 w) (hB : B ≤ w.heap.size) (hS : ∀ b, S b → B ≤ b) : Below B w0 w' :=
  hb.trans ⟨h.os, h.tape, h.output, h.size, fun k hk => h.block k (by omega) fun e => by have := hS k e; omega⟩
theorem Save.cell {S : Nat → Prop} {w w' : World} (h : Save S w w') {a : Addr} {v : Value} (hc : w.cell? a = some v) (hn : ¬ S a.block) : w'.cell? a = some v :=
  (World.cell?_of_block (w := w) (h.block a.block (cell_lt hc) hn)).trans hc
theorem ownsRow_save {S : Nat → Prop} {w w' : World} {B n : Nat} {e : TypeId} {v : Value} {xs : List Value} (h : w.ownsRow B e 1 v n xs) (hk : Save S w w') (hn : ∀ b, v.ownBlock = some b → ¬ S b) : w'.ownsRow B e 1 v n xs := by
  obtain ⟨h1, h2⟩ := h
  refine ⟨h1, ?_⟩
  rcases h2 with h2 | ⟨g, cap, cur, rfl, hg, hh, r⟩
  · exact .inl h2
  · refine .inr ⟨g, cap, cur, rfl, hg, ?_, r⟩
    rw [hk.block g ?_ (hn g rfl)]; exact hh
    rcases Nat.lt_or_ge g w.heap.size with hlt | hge
    · exact hlt
    · rw [Array.getElem?_eq_none hge] at hh; cases hh
theorem Own.save {S : Nat → Prop} {w w' : World} {B : Nat} {v : Value} {l : List Int} (h : Own w B v l) (hk : Save S w w') (hn : ∀ b, v.ownBlock = some b → ¬ S b) : Own w' B v l := ownsRow_save h hk hn
theorem OwnM.save {S : Nat → Prop} {w w' : World} {B : Nat} {v : Value} {G C : Nat → Nat} {m : List (List Int)} (h : OwnM w B v G C m) (hk : Save S w w') (hn : ∀ b, v.ownBlock = Option.some b → ¬ S b) (hr : ∀ i, i < m.length → ¬ S (G i)) : OwnM w' B v G C m :=
  ⟨ownsRow_save h.top hk hn, fun i hi => (h.row i hi).save hk fun b hb => by
    have : G i = b := Option.some.inj hb
    rw [← this]; exact hr i hi, h.apart⟩

/-- A row of numbers of the field. -/
abbrev rowF (c : Nat) (u : Nat → Fp.F) : List Int := Mx.row c fun j => ((u j).val : Int)
theorem matl_row {n c : Nat} (W : Nat → Nat → Fp.F) {k : Nat} (hk : k < n) : (Mx.matl n c W).getD k [] = rowF c (W k) := Mx.tab_at _ _ _ _ hk

theorem more_mod (s a b : Fp.F) : ((s.val : Int) + (a.val : Int) * (b.val : Int)).tmod 9973 = ((s + a * b).val : Int) := by
  have h := times_bound a b
  rw [Int.tmod_eq_emod_of_nonneg (by have := gval s; omega), Mx.val_more]
theorem sub_mod (a b : Fp.F) : ((a.val : Int) - (b.val : Int) + 9973).tmod 9973 = ((a - b).val : Int) := by
  have h1 := gval a
  have h2 := gval b
  rw [Int.tmod_eq_emod_of_nonneg (by omega), ← Fp.ofInt_val]
  have h : Fp.ofInt ((a.val : Int) - (b.val : Int) + 9973) + b = a := by
    have := Fp.ofInt_add ((a.val : Int) - (b.val : Int) + 9973) (b.val : Int)
    rw [Fp.ofInt_self, show (a.val : Int) - (b.val : Int) + 9973 + (b.val : Int) = (a.val : Int) + 9973 by omega, Fp.ofInt_add, Fp.ofInt_self, show Fp.ofInt 9973 = 0 from rfl] at this
    rw [← this]; grind
  have : Fp.ofInt ((a.val : Int) - (b.val : Int) + 9973) = a - b := by rw [← h]; grind
  rw [this]

/-- The function that valueOf made stands over row i of f: its box names the row, which lies in what was there. -/
structure Val (w : World) (gp B0 c : Nat) (f : Nat → Nat → Fp.F) (i : Nat) : Prop where
  ex : ∃ A1 d1, w.cell? ⟨gp, 0, none⟩ = some (.slice A1 c d1) ∧ LiesIn w B0 A1 (rowF c (f i))
theorem Val.save {S : Nat → Prop} {w w' : World} {gp B0 c : Nat} {f : Nat → Nat → Fp.F} {i : Nat} (h : Val w gp B0 c f i) (hk : Save S w w') (hg : ¬ S gp) (hS : ∀ b, S b → B0 ≤ b) (hB : B0 ≤ w.heap.size) : Val w' gp B0 c f i := by
  obtain ⟨A1, d1, h1, h2⟩ := h.ex
  exact ⟨A1, d1, hk.cell h1 hg, h2.below (hk.below (Below.refl B0 w) hB hS)⟩
theorem Val.keep {w w' : World} {gp B0 c : Nat} {f : Nat → Nat → Fp.F} {i : Nat} (h : Val w gp B0 c f i) (hk : Kp w w') (hB : B0 ≤ w.heap.size) : Val w' gp B0 c f i :=
  h.save (Save.of (S := fun _ => False) hk) (fun h => h) (fun _ h => h.elim) hB





end Go.Proofs.YtpffekaldpllkaaDoor

/- Plain facts on rows that go on by factors: the step as a matrix that moves the numbers on by one place, its powers, rows written as far as a place. No program is named here. -/
namespace Go.Proofs.YtpffekaldpllkaaDoor
open Fp
set_option linter.unusedVariables false

namespace Mx
/-- Turned round, a sum is the same. -/
theorem sg_back : ∀ (n : Nat) (g : Nat → F), (sg n fun j => g (n - 1 - j)) = sg n g
  | 0, _ => rfl
  | n + 1, g => by
    rw [sg_first]
    have h := sg_back n g
    rw [sg_succ, ← h, show n + 1 - 1 - 0 = n by omega, sg_congr (g := fun j => g (n - 1 - j)) fun j hj => by rw [show n + 1 - 1 - (j + 1) = n - 1 - j by omega]]
    grind
/-- The step that moves the numbers on by one place. -/
def stp (n : Nat) (c : Nat → F) : Nat → Nat → F := fun i j => if i + 1 = n then c (n - 1 - j) else if j = i + 1 then 1 else 0
theorem stp_step {n : Nat} {c x : Nat → F} (hx : Goes n c x) (i : Nat) {a : Nat} (ha : a < n) : (sg n fun b => stp n c a b * x (i + b)) = x (i + 1 + a) := by
  by_cases e : a + 1 = n
  · rw [hx (i + 1 + a) (by omega), ← sg_back n fun k => c k * x (i + 1 + a - 1 - k)]
    exact sg_congr fun k hk => by
      unfold stp; rw [if_pos e, show i + 1 + a - 1 - (n - 1 - k) = i + k by omega]
  · rw [sg_one (k := a + 1) (by omega) fun j hj hne => by unfold stp; rw [if_neg e, if_neg hne]; grind]
    unfold stp
    rw [if_neg e, if_pos rfl, show i + (a + 1) = i + 1 + a by omega]; grind
/-- Its powers tell the row. -/
theorem stp_pow {n : Nat} {c x : Nat → F} (hx : Goes n c x) : ∀ (k i a : Nat), a < n → (sg n fun b => pwm n (stp n c) k a b * x (i + b)) = x (i + k + a)
  | 0, i, a, ha => by
    rw [sg_one ha fun j hj hne => by
      show (if a = j then (1 : F) else 0) * _ = 0
      rw [if_neg fun e => hne e.symm]; grind]
    show (if a = a then (1 : F) else 0) * _ = _
    rw [if_pos rfl, Nat.add_zero]; grind
  | k + 1, i, a, ha => by
    have h1 : (sg n fun b => pwm n (stp n c) (k + 1) a b * x (i + b)) = sg n fun b => mul n (pwm n (stp n c) k) (stp n c) a b * x (i + b) := sg_congr fun b hb => by
      rw [← pwm_snoc n (stp n c) k a b ha hb]
    have h2 : (sg n fun b => mul n (pwm n (stp n c) k) (stp n c) a b * x (i + b)) = sg n fun t => pwm n (stp n c) k a t * sg n fun b => stp n c t b * x (i + b) := by
      rw [sg_congr (g := fun b => sg n fun t => pwm n (stp n c) k a t * (stp n c t b * x (i + b))) fun b _ => by
        unfold mul; rw [← sg_by]; exact sg_congr fun t _ => by grind, sg_swap]
      exact sg_congr fun t _ => by rw [sg_times]
    rw [h1, h2, sg_congr (g := fun t => pwm n (stp n c) k a t * x (i + 1 + t)) fun t ht => by rw [stp_step hx i ht], stp_pow hx k (i + 1) a ha]
    congr 1; omega
/-- The number at a place is told by the first row of the step's power. -/
theorem stp_term {n : Nat} {c s : Nat → F} (hn : 0 < n) (k : Nat) : (sg n fun b => pwm n (stp n c) k 0 b * s b) = sq n c s k := by
  have h := stp_pow (sq_goes n c s hn) k 0 0 hn
  rw [show 0 + k + 0 = k by omega] at h
  rw [← h]
  exact sg_congr fun b hb => by rw [show 0 + b = b by omega, sq_start n c s hb]
end Mx

/-- The first i numbers of x, then noughts. -/
def far (x : Nat → Fp.F) (i : Nat) : Nat → Fp.F := fun j => if j < i then x j else 0
theorem far_step (x : Nat → Fp.F) {N i : Nat} (h : i < N) : (rowF N (far x i)).set i ((x i).val : Int) = rowF N (far x (i + 1)) := by
  unfold rowF
  rw [Mx.row_set]
  refine Mx.row_ext fun j hj => ?_
  unfold far
  by_cases e : j = i
  · subst e; rw [if_pos rfl, if_pos (by omega)]
  · rw [if_neg e]
    by_cases e2 : j < i
    · rw [if_pos e2, if_pos (by omega)]
    · rw [if_neg e2, if_neg (by omega)]
theorem far_all (x : Nat → Fp.F) (N : Nat) : rowF N (far x N) = rowF N x := Mx.row_ext fun j hj => by unfold far; rw [if_pos hj]
theorem far_take (x : Nat → Fp.F) {N i : Nat} (h : i ≤ N) : (rowF N (far x i)).take i = rowF i x := by
  refine List.ext_getElem (by rw [List.length_take, Mx.len_row, Mx.len_row]; omega) fun j h1 h2 => ?_
  rw [Mx.len_row] at h2
  simp [rowF, Mx.row, far, h2]
theorem far_start (s x : Nat → Fp.F) {N n m : Nat} (hm : m = min N n) (h : ∀ j, j < m → x j = s j) : (rowF n s).take m ++ List.replicate (N - m) 0 = rowF N (far x m) := by
  refine List.ext_getElem (by simp [rowF, Mx.row]; omega) fun j h1 h2 => ?_
  rw [Mx.len_row] at h2
  by_cases e : j < m
  · rw [List.getElem_append_left (by simp [rowF, Mx.row]; omega)]
    simp [rowF, Mx.row, far, e, h j e]
  · rw [List.getElem_append_right (by simp [rowF, Mx.row]; omega)]
    simp [rowF, Mx.row, far, e]

/-- What is wrong with factors and a beginning, as a number. -/
noncomputable def rcd (L S : List Int) : Nat :=
  open Classical in if L.length = 0 then 5 else if 5 < L.length then 4 else if S.length ≠ L.length then 3 else if ¬ (AllIn L 0 9972 ∧ AllIn S 0 9972) then 1 else 0
theorem rcd_none {L S : List Int} (h : L.length = 0) : rcd L S = 5 := by unfold rcd; rw [if_pos h]
theorem rcd_full {L S : List Int} (h : 5 < L.length) : rcd L S = 4 := by unfold rcd; rw [if_neg (by omega), if_pos h]
theorem rcd_shape {L S : List Int} (h0 : L.length ≠ 0) (h : ¬ 5 < L.length) (h1 : S.length ≠ L.length) : rcd L S = 3 := by unfold rcd; rw [if_neg h0, if_neg h, if_pos h1]
theorem rcd_range {L S : List Int} (h0 : L.length ≠ 0) (h : ¬ 5 < L.length) (h1 : S.length = L.length) (h3 : ¬ (AllIn L 0 9972 ∧ AllIn S 0 9972)) : rcd L S = 1 := by
  unfold rcd; rw [if_neg h0, if_neg h, if_neg (by omega), if_pos h3]
theorem rcd_ok {L S : List Int} (h0 : L.length ≠ 0) (h : ¬ 5 < L.length) (h1 : S.length = L.length) (h3 : AllIn L 0 9972) (h4 : AllIn S 0 9972) : rcd L S = 0 := by
  unfold rcd; rw [if_neg h0, if_neg h, if_neg (by omega), if_neg (fun e => e ⟨h3, h4⟩)]
theorem rcd_some (L S : List Int) : rcd L S = 0 ∨ rcd L S = 1 ∨ rcd L S = 3 ∨ rcd L S = 4 ∨ rcd L S = 5 := by
  unfold rcd; repeat' split
  all_goals simp
theorem rcd_zero {L S : List Int} (h : rcd L S = 0) : L.length ≠ 0 ∧ L.length ≤ 5 ∧ S.length = L.length ∧ AllIn L 0 9972 ∧ AllIn S 0 9972 := by
  by_cases h0 : L.length = 0
  · rw [rcd_none h0] at h; cases h
  · by_cases h1 : 5 < L.length
    · rw [rcd_full h1] at h; cases h
    · by_cases h2 : S.length = L.length
      · by_cases h3 : AllIn L 0 9972 ∧ AllIn S 0 9972
        · exact ⟨h0, by omega, h2, h3⟩
        · rw [rcd_range h0 h1 h2 h3] at h; cases h
      · rw [rcd_shape h0 h1 h2] at h; cases h

/-- Factors and a beginning, as many. -/
structure Rc (n : Nat) (c s : Nat → Fp.F) (L S : List Int) : Prop where
  fac : L = rowF n c
  beg : S = rowF n s
  pos : 0 < n
  le : n ≤ 5
theorem rrow_of {l : List Int} (h : AllIn l 0 9972) : ∃ t : Nat → Fp.F, l = rowF l.length t := by
  refine ⟨fun j => Fp.ofInt (l.getD j 0), ?_⟩
  refine (Mx.is_row l).trans (Mx.row_ext fun k hk => ?_)
  show l.getD k 0 = ((Fp.ofInt (l.getD k 0)).val : Int)
  rw [Fp.ofInt_val]
  have := h k hk
  omega
theorem rrow_in (q : Nat) (t : Nat → Fp.F) : AllIn (rowF q t) 0 9972 := fun k hk => by
  rw [Mx.len_row] at hk
  rw [Mx.row_at _ _ _ hk]
  exact Fp.val_bound (t k)
theorem rc_or (L S : List Int) : (∃ n c s, Rc n c s L S) ∨ rcd L S ≠ 0 := by
  by_cases h : rcd L S = 0
  · obtain ⟨h0, h1, h2, h3, h4⟩ := rcd_zero h
    obtain ⟨c, hc⟩ := rrow_of h3
    obtain ⟨s, hs⟩ := rrow_of h4
    rw [h2] at hs
    exact .inl ⟨L.length, c, s, hc, hs, by omega, h1⟩
  · exact .inr h
theorem Rc.code {n : Nat} {c s : Nat → Fp.F} {L S : List Int} (h : Rc n c s L S) : rcd L S = 0 := by
  have h1 := h.le
  have h2 := h.pos
  have e1 : L.length = n := by rw [h.fac, Mx.len_row]
  have e2 : S.length = n := by rw [h.beg, Mx.len_row]
  refine rcd_ok (by omega) (by omega) (by omega) ?_ ?_
  · rw [h.fac]; exact rrow_in _ _
  · rw [h.beg]; exact rrow_in _ _

end Go.Proofs.YtpffekaldpllkaaDoor

/- Plain facts on the fewest factors of a row: what is wrong with a row as a number, where Berlekamp's and Massey's steps are behind the first numbers, the mended factors as rows. No program is named here. -/
namespace Go.Proofs.YtpffekaldpllkaaDoor
open Fp
set_option linter.unusedVariables false

namespace Mx
theorem mend_none (l : Nat) (c b : Nat → F) (a : F) (s lb k : Nat) (h : lb = 0) : mend l lb c b a s k = (if k < l then c k else 0) + (if k + 1 = s then a else 0) := by
  unfold mend
  rw [if_neg (c := s ≤ k ∧ k < s + lb) (by omega)]; grind
theorem mend_other (l : Nat) (c b : Nat → F) (a : F) (s j k : Nat) (h : k ≠ s + j) : mend l (j + 1) c b a s k = mend l j c b a s k := by
  unfold mend
  by_cases e : s ≤ k ∧ k < s + j
  · rw [if_pos e, if_pos (c := s ≤ k ∧ k < s + (j + 1)) (by omega)]
  · rw [if_neg e, if_neg (c := s ≤ k ∧ k < s + (j + 1)) (by omega)]
theorem mend_here (l : Nat) (c b : Nat → F) (a : F) (s j : Nat) : mend l (j + 1) c b a s (s + j) = mend l j c b a s (s + j) - a * b j := by
  unfold mend
  rw [if_neg (c := s ≤ s + j ∧ s + j < s + j) (by omega), if_pos (c := s ≤ s + j ∧ s + j < s + (j + 1)) (by omega), Nat.add_sub_cancel_left]; grind

/-- Where the program is behind the first i numbers of x: l factors c; the last failure that made them more was at m, by lb factors b, which missed d. -/
structure Ber (x : Nat → F) (i l : Nat) (c : Nat → F) (m : Int) (lb : Nat) (b : Nat → F) (d : F) : Prop where
  few : Few i l x
  gn : Gn i l c x
  was : (l = 0 ∧ m = -1 ∧ lb = 0 ∧ d = 1) ∨ (∃ M : Nat, m = (M : Int) ∧ M < i ∧ lb ≤ M ∧ Gn M lb b x ∧ dsc lb b x M = d ∧ d ≠ 0 ∧ l + lb = M + 1)
theorem Ber.start (x c b : Nat → F) : Ber x 0 0 c (-1) 0 b 1 :=
  ⟨⟨⟨c, Gn.far c x (Nat.le_refl 0)⟩, fun m hm => absurd hm (by omega)⟩, Gn.far c x (Nat.le_refl 0), .inl ⟨rfl, rfl, rfl, rfl⟩⟩
theorem Ber.ne {x : Nat → F} {i l : Nat} {c : Nat → F} {m : Int} {lb : Nat} {b : Nat → F} {d : F} (h : Ber x i l c m lb b d) : d ≠ 0 := by
  rcases h.was with ⟨_, _, _, e⟩ | ⟨_, _, _, _, _, _, e, _⟩
  · rw [e]; exact Fp.one_ne
  · exact e
theorem Ber.len {x : Nat → F} {i l : Nat} {c : Nat → F} {m : Int} {lb : Nat} {b : Nat → F} {d : F} (h : Ber x i l c m lb b d) : l ≤ i := h.few.top
theorem Ber.old {x : Nat → F} {i l : Nat} {c : Nat → F} {m : Int} {lb : Nat} {b : Nat → F} {d : F} (h : Ber x i l c m lb b d) : -1 ≤ m ∧ m < i ∧ lb ≤ i := by
  rcases h.was with ⟨_, e, e2, _⟩ | ⟨M, e, h1, h2, _⟩ <;> omega
theorem Ber.keep {x : Nat → F} {i l : Nat} {c : Nat → F} {m : Int} {lb : Nat} {b : Nat → F} {d : F} (h : Ber x i l c m lb b d) (h0 : dsc l c x i = 0) : Ber x (i + 1) l c m lb b d := by
  have hg : Gn (i + 1) l c x := h.gn.next fun _ => dsc_not h0
  refine ⟨⟨⟨c, hg⟩, fun k hk ⟨e, he⟩ => h.few.2 k hk ⟨e, he.less (Nat.le_succ i)⟩⟩, hg, ?_⟩
  rcases h.was with e | ⟨M, e1, e2, e3⟩
  · exact .inl e
  · exact .inr ⟨M, e1, by omega, e3⟩
/-- How many factors there are, mended. -/
theorem Ber.many {x : Nat → F} {i l : Nat} {c : Nat → F} {m : Int} {lb : Nat} {b : Nat → F} {d : F} (h : Ber x i l c m lb b d) {s : Nat} (hs : (s : Int) = (i : Int) - m) : 0 < s ∧ s + lb + l = i + 1 := by
  rcases h.was with ⟨e1, e2, e3, _⟩ | ⟨M, e1, e2, e3, _, _, _, e4⟩ <;> omega
theorem Ber.mended {x : Nat → F} {i l : Nat} {c : Nat → F} {m : Int} {lb : Nat} {b : Nat → F} {d : F} (h : Ber x i l c m lb b d) (h0 : dsc l c x i ≠ 0) {s : Nat} (hs : (s : Int) = (i : Int) - m) {a : F} (ha : a * d = dsc l c x i) {L : Nat} (hl : l ≤ L) (hL : s + lb ≤ L) (hmx : L = l ∨ L = s + lb) :
    Few (i + 1) L x ∧ Gn (i + 1) L (mend l lb c b a s) x := by
  have hg : Gn (i + 1) L (mend l lb c b a s) x := by
    rcases h.was with ⟨e1, e2, e3, _⟩ | ⟨M, e1, e2, e3, e4, e5, e6, e7⟩
    · exact Gn.far _ x (by omega)
    · obtain rfl : s = i - M := by omega
      exact gn_mend e2 h.gn e4 e3 (by rw [e5]; exact e6) (by rw [e5]; exact ha) hl hL
  refine ⟨⟨⟨_, hg⟩, fun k hk ⟨e, he⟩ => ?_⟩, hg⟩
  have h1 := gn_apart h.len h.gn (fun hh => h0 (dsc_zero hh)) he
  have h2 := h.few.le (he.less (Nat.le_succ i))
  have h3 := (h.many hs).2
  omega
theorem Ber.more {x : Nat → F} {i l : Nat} {c : Nat → F} {m : Int} {lb : Nat} {b : Nat → F} {d : F} (h : Ber x i l c m lb b d) {v : F} (hv : dsc l c x i = v) (h0 : v ≠ 0) {s : Nat} (hs : (s : Int) = (i : Int) - m) {a : F} (ha : a * d = v) {L : Nat} (hl : l < L) (hmx : L = s + lb) :
    Ber x (i + 1) L (mend l lb c b a s) (i : Int) l c v := by
  subst hv
  have h1 := h.mended h0 hs ha (Nat.le_of_lt hl) (Nat.le_of_eq hmx.symm) (.inr hmx)
  refine ⟨h1.1, h1.2, .inr ⟨i, rfl, Nat.lt_succ_self i, h.len, h.gn, rfl, h0, ?_⟩⟩
  have h3 := (h.many hs).2
  omega
theorem Ber.same {x : Nat → F} {i l : Nat} {c : Nat → F} {m : Int} {lb : Nat} {b : Nat → F} {d : F} (h : Ber x i l c m lb b d) {v : F} (hv : dsc l c x i = v) (h0 : v ≠ 0) {s : Nat} (hs : (s : Int) = (i : Int) - m) {a : F} (ha : a * d = v) (hl : s + lb ≤ l) :
    Ber x (i + 1) l (mend l lb c b a s) m lb b d := by
  subst hv
  have h1 := h.mended h0 hs ha (Nat.le_refl l) hl (.inl rfl)
  have h3 := (h.many hs).2
  refine ⟨h1.1, h1.2, ?_⟩
  rcases h.was with ⟨e1, e2, e3, _⟩ | ⟨M, e1, e2, e3⟩
  · omega
  · exact .inr ⟨M, e1, by omega, e3⟩

/-- A row that goes on from where another one begins, by the same factors, is the same. -/
theorem gn_equal {N n : Nat} {c x y : Nat → F} (hx : Gn N n c x) (hy : Gn N n c y) (h : ∀ j, j < n → x j = y j) : ∀ i, i < N → x i = y i := fun i => by
  induction i using Nat.strongRecOn with
  | _ i ih =>
    intro hi
    by_cases e : i < n
    · exact h i e
    · rw [hx i (by omega) hi, hy i (by omega) hi]
      exact sg_congr fun k hk => by rw [ih (i - 1 - k) (by omega) (by omega)]
/-- By no factors, the numbers are noughts. -/
theorem gn_none {N : Nat} {c x : Nat → F} (h : Gn N 0 c x) : ∀ i, i < N → x i = 0 := fun i hi => h i (Nat.zero_le _) hi
theorem sg_val_ofInt (a : F) : Fp.ofInt (a.val : Int) = a := Fp.ofInt_self a
end Mx

/-- What is wrong with a row, as a number. -/
noncomputable def scd (L : List Int) : Nat := open Classical in if 16 < L.length then 4 else if ¬ AllIn L 0 9972 then 1 else 0
theorem scd_full {L : List Int} (h : 16 < L.length) : scd L = 4 := by unfold scd; rw [if_pos h]
theorem scd_range {L : List Int} (h : ¬ 16 < L.length) (h2 : ¬ AllIn L 0 9972) : scd L = 1 := by unfold scd; rw [if_neg h, if_pos h2]
theorem scd_ok {L : List Int} (h : ¬ 16 < L.length) (h2 : AllIn L 0 9972) : scd L = 0 := by unfold scd; rw [if_neg h, if_neg fun e => e h2]
theorem scd_some (L : List Int) : scd L = 0 ∨ scd L = 1 ∨ scd L = 4 := by
  unfold scd; repeat' split
  all_goals simp
theorem scd_zero {L : List Int} (h : scd L = 0) : L.length ≤ 16 ∧ AllIn L 0 9972 := by
  by_cases h1 : 16 < L.length
  · rw [scd_full h1] at h; cases h
  · by_cases h2 : AllIn L 0 9972
    · exact ⟨by omega, h2⟩
    · rw [scd_range h1 h2] at h; cases h
/-- A row of at most sixteen numbers. -/
structure Sr (N : Nat) (x : Nat → Fp.F) (L : List Int) : Prop where
  row : L = rowF N x
  le : N ≤ 16
theorem Sr.code {N : Nat} {x : Nat → Fp.F} {L : List Int} (h : Sr N x L) : scd L = 0 := by
  have := h.le
  rw [h.row]
  exact scd_ok (by rw [Mx.len_row]; omega) (rrow_in _ _)
theorem Sr.len {N : Nat} {x : Nat → Fp.F} {L : List Int} (h : Sr N x L) : L.length = N := by rw [h.row, Mx.len_row]
theorem sr_of {L : List Int} (h : scd L = 0) : ∃ x, Sr L.length x L := by
  obtain ⟨h1, h2⟩ := scd_zero h
  obtain ⟨x, hx⟩ := rrow_of h2
  exact ⟨x, hx, h1⟩
theorem sr_or (L : List Int) : (∃ N x, Sr N x L) ∨ scd L ≠ 0 := by
  by_cases h : scd L = 0
  · obtain ⟨x, hx⟩ := sr_of h
    exact .inl ⟨_, x, hx⟩
  · exact .inr h

/-- A step of mending, in the row. -/
theorem mend_set {L l j s : Nat} (c b : Nat → Fp.F) (a : Fp.F) (h : s + j < L) {z : Int} (hz : z = ((Mx.mend l j c b a s (s + j) - a * b j : Fp.F).val : Int)) :
    (rowF L (Mx.mend l j c b a s)).set (s + j) z = rowF L (Mx.mend l (j + 1) c b a s) := by
  unfold rowF
  rw [Mx.row_set]
  refine Mx.row_ext fun k hk => ?_
  by_cases e : k = s + j
  · subst e; rw [if_pos rfl, Mx.mend_here, hz]
  · rw [if_neg e, Mx.mend_other _ _ _ _ _ _ _ e]
theorem mend_first {L l q s : Nat} (c b : Nat → Fp.F) (a : Fp.F) (hq : q + 1 = s) {z : Int} (hz : z = (((if q < l then c q else 0) + a : Fp.F).val : Int)) :
    (rowF L fun k => if k < l then c k else 0).set q z = rowF L (Mx.mend l 0 c b a s) := by
  unfold rowF
  rw [Mx.row_set]
  refine Mx.row_ext fun k hk => ?_
  rw [Mx.mend_none _ _ _ _ _ _ _ rfl]
  by_cases e : k = q
  · subst e; rw [if_pos rfl, if_pos hq, hz]
  · rw [if_neg e, if_neg (c := k + 1 = s) (by omega)]
    show _ = (((if k < l then c k else 0) + 0 : Fp.F).val : Int)
    rw [show ((if k < l then c k else 0) + 0 : Fp.F) = if k < l then c k else 0 by grind]
theorem row_beg {L l m : Nat} (c : Nat → Fp.F) (hl : l ≤ L) (hm : m = min L l) : (rowF l c).take m ++ List.replicate (L - m) 0 = rowF L fun k => if k < l then c k else 0 := by
  refine List.ext_getElem (by simp [rowF, Mx.row]; omega) fun j h1 h2 => ?_
  rw [Mx.len_row] at h2
  by_cases e : j < m
  · rw [List.getElem_append_left (by simp [rowF, Mx.row]; omega)]
    have : j < l := by omega
    simp [rowF, Mx.row, this]
  · rw [List.getElem_append_right (by simp [rowF, Mx.row]; omega)]
    have : ¬ j < l := by omega
    simp [rowF, Mx.row, this]

end Go.Proofs.YtpffekaldpllkaaDoor

/- copy(row, l): a row of noughts just made takes as many numbers of a list as both have. For all packages. -/
namespace Go.Proofs.YtpffekaldpllkaaDoor
open Go.ChangeShapes Go.WideShapes Go.ChangeAt Go.RowKit
set_option linter.unusedVariables false

set_option maxRecDepth 100000 in
theorem copy_part (w1 : World) (g N n c m : Nat) (A : Option Addr) (l : List Int) (ty : TypeId) (hr : Row w1 g (List.replicate N 0)) (hl : Lies w1 A l) (hn : n = l.length) (hm : m = min N n) :
    ∃ w2, (Builtin.copy_ #[22, 22] ty #[.slice (some ⟨g, 0, none⟩) N N, .slice A n c]).run Tryd.prog w1 = .ok (goInt m) w2 ∧
      Row w2 g (l.take m ++ List.replicate (N - m) 0) ∧ ∀ B w0, Below B w0 w1 → B ≤ g → Below B w0 w2 := by
  obtain ⟨i0, hi, hz0, hz1, hz2⟩ := info_parts int_info
  have hsz : (Tryd.prog.info? 3).map (·.size) = some 1 := by rw [hi]; simp [hz1]
  have hmm : Nat.min n N = m := by rw [hm]; exact Nat.min_comm n N
  by_cases h0 : m = 0
  · subst h0
    exact ⟨w1, run_copy_none w1 _ _ ty 3 _ A N N n c Tryd.underlying22 hsz hmm, by simpa using hr, fun _ _ h _ => h⟩
  · obtain ⟨ad, rfl, _, _⟩ := hl 0 (by omega)
    have hlt := hl.take m
    have hl1 : (l.take m).length = m := by rw [List.length_take]; omega
    have hlen : (ints (l.take m)).length = m := by rw [ints, List.length_map, hl1]
    have hrun := run_copy_row (P := Tryd.prog) w1 22 22 ty 3 g 0 N N ad n c _ 3 (ints (l.take m)) Tryd.underlying22 hsz hr (by rw [hlen]; exact hmm.symm)
      (fun j v hj => by
        have hj' : j < (l.take m).length := by
          rcases Nat.lt_or_ge j (l.take m).length with hlt | hge
          · exact hlt
          · rw [List.getElem?_eq_none (by rw [ints, List.length_map]; exact hge)] at hj; cases hj
        obtain ⟨ad', e, _, hc⟩ := hlt j hj'
        obtain rfl := Option.some.inj e
        rw [hc, ← hj]
        rw [ints, List.getElem?_map, List.getD_eq_getElem?_getD, List.getElem?_eq_getElem hj']; rfl) (by rw [hlen]; simp; omega) (fun v hv => by simp only [ints, List.mem_map] at hv; obtain ⟨y, _, rfl⟩ := hv; rfl)
    rw [hlen] at hrun
    refine ⟨_, hrun, ?_, fun B w0 hb hB => below_setRow hb hB _⟩
    unfold Row
    rw [setRow_heap w1 g _ _ 3 (0, 0) hr]
    congr 3
    simp [ints]

end Go.Proofs.YtpffekaldpllkaaDoor

/- Contracts of package massey, first part: Check, missing. -/
namespace Go.Proofs.YtpffekaldpllkaaDoor
open Go.ChangeShapes Go.WideShapes Go.ChangeAt Go.RowKit
set_option linter.unusedVariables false

theorem mval (a : Fp.F) : 0 ≤ (a.val : Int) ∧ (a.val : Int) ≤ 9972 := Fp.val_bound a

theorem sChk_full (A : Option Addr) (L : List Int) (c : Nat) (w : World) (h : 16 < L.length) :
    Calls Tryd.prog 7 #[.slice A L.length c] w fun e w' => e = .returned (errOf (scd L)) ∧ w = w' := by
  rw [scd_full h]
  generalize L.length = n at *
  have h' : (16 : Int) < n := by omega
  clear h
  go_enter Tryd.func7, Tryd.ntmps7
  go_wp2
  go_ret
  exact ⟨rfl, rfl⟩

set_option maxHeartbeats 800000 in
theorem sChk_main (A : Option Addr) (l : List Int) (c : Nat) (w : World) (hl : Lies w A l) (hn : l.length ≤ 16) :
    Calls Tryd.prog 7 #[.slice A l.length c] w fun e w' => e = .returned (errOf (scd l)) ∧ w = w' := by
  have HL := Lib.hid hl
  have BAD := Lib.hid (fun h : ¬ AllIn l 0 9972 => scd_range (by omega) h)
  have OK := Lib.hid (fun h : AllIn l 0 9972 => scd_ok (by omega) h)
  obtain ⟨v, hv⟩ : ∃ v, v = scd l := ⟨_, rfl⟩
  rw [← hv] at BAD OK ⊢
  obtain ⟨n, hn'⟩ : ∃ n, n = l.length := ⟨_, rfl⟩
  rw [← hn'] at hn ⊢
  have HN := Lib.hid hn'
  have h16 : ¬ (16 : Int) < (n : Int) := by omega
  clear hl hn' hv
  go_enter Tryd.func7, Tryd.ntmps7
  go_wp2_with fail
  go_loop [11] (fun i => ∃ k : Nat, k ≤ n ∧ i = .int .i64 (k : Int) ∧ ∀ j, j < k → 0 ≤ l.getD j 0 ∧ l.getD j 0 ≤ 9972) (fun i => n - (intOf i).toNat)
  case atStart => exact ⟨0, Nat.zero_le _, rfl, fun j hj => absurd hj (by omega)⟩
  case round =>
    obtain ⟨k, hk, rfl, hg⟩ := hrel
    have HG := Lib.hid hg
    clear hg
    by_cases hlt : k < n
    · obtain ⟨ad, rfl, _, hc⟩ := HL.out k (by have := HN.out; omega)
      obtain ⟨m, hm⟩ : ∃ m, m = l.getD k 0 := ⟨_, rfl⟩
      rw [← hm] at hc
      by_cases h0 : m < 0
      · have E := Lib.hid (BAD.out fun hh => by have := hh k (by have := HN.out; omega); rw [← hm] at this; omega)
        clear hm
        go_wp2_with fail
        go_ret
        exact ⟨by rw [E.out]; rfl, rfl⟩
      · by_cases h1 : m ≤ 9972
        · have GG := Lib.hid (show ∀ j, j < k + 1 → 0 ≤ l.getD j 0 ∧ l.getD j 0 ≤ 9972 from fun j hj => by
            by_cases e : j = k
            · subst e; rw [← hm]; omega
            · exact HG.out j (by omega))
          have h2 : ¬ 9973 ≤ m := by omega
          clear hm
          go_wp2_with fail
          go_round
          case rel => exact ⟨k + 1, by omega, by go_num, GG.out⟩
          case measure => simp [intOf]; omega
        · have E := Lib.hid (BAD.out fun hh => by have := hh k (by have := HN.out; omega); rw [← hm] at this; omega)
          have h2 : 9973 ≤ m := by omega
          clear hm h1
          go_wp2_with fail
          go_ret
          exact ⟨by rw [E.out]; rfl, rfl⟩
    · have E := Lib.hid (OK.out (fun j hj => HG.out j (by have := HN.out; omega)))
      go_wp2_with fail
      go_ret
      exact ⟨by rw [E.out]; rfl, rfl⟩
theorem sChk_any (A : Option Addr) (l : List Int) (c : Nat) (w : World) (hl : Lies w A l) :
    Calls Tryd.prog 7 #[.slice A l.length c] w fun e w' => e = .returned (errOf (scd l)) ∧ w = w' := by
  by_cases h : 16 < l.length
  · exact sChk_full A l c w h
  · exact sChk_main A l c w hl (by omega)
theorem sChk_good {N : Nat} {x : Nat → Fp.F} {L : List Int} (s : Sr N x L) (A : Option Addr) (c : Nat) (w : World) (hl : Lies w A L) :
    Calls Tryd.prog 7 #[.slice A N c] w fun e w' => e = .returned .nilIface ∧ w = w' := by
  have h := sChk_any A L c w hl
  rw [s.code, s.len] at h
  exact h

set_option maxRecDepth 100000 in
set_option maxHeartbeats 1600000 in
theorem smiss_any (A B : Option Addr) (N l i c d : Nat) (x f : Nat → Fp.F) (w : World) (ha : Lies w A (rowF N x)) (hb : Lies w B (rowF l f)) (hN : N ≤ 16) (hi : i < N) (hl : l ≤ i) :
    Calls Tryd.prog 20 #[.slice A N c, .slice B l d, .int .i64 (i : Int)] w fun e w' => e = .returned (.int .i64 ((Mx.dsc l f x i).val : Int)) ∧ w = w' := by
  have HA := Lib.hid ha
  have HB := Lib.hid hb
  obtain ⟨ad0, rfl, _, y1⟩ := ha.el hi
  have b0 := mval (x i)
  have HX0 := Lib.hid (Fp.ofInt_self (x i))
  obtain ⟨x0, hx0⟩ : ∃ x0, x0 = ((x i).val : Int) := ⟨_, rfl⟩
  rw [← hx0] at y1 b0 HX0
  clear ha hb hx0
  go_enter Tryd.func20, Tryd.ntmps20
  go_wp2_with fail
  go_loop [7, 8, 9, 16] (fun s _ _ j => ∃ (k : Nat) (z : Int), k ≤ l ∧ j = .int .i64 (k : Int) ∧ s = .int .i64 z ∧ 0 ≤ z ∧ z ≤ 100000000 * (k + 1) ∧ Fp.ofInt z = x i - Mx.sg k fun k => f k * x (i - 1 - k)) (fun _ _ _ j => l - (intOf j).toNat)
  case atStart => exact ⟨0, _, Nat.zero_le _, rfl, rfl, by omega, by omega, by rw [HX0.out, Mx.sg_zero]; grind⟩
  case round =>
    clear y1 b0
    obtain ⟨k, z, hk, rfl, rfl, z0, z1, hz⟩ := hrel
    have HZ := Lib.hid hz
    clear hz
    by_cases hlt : k < l
    · obtain ⟨ad1, rfl, _, x1⟩ := HB.out.el hlt
      obtain ⟨j, hj⟩ : ∃ j : Nat, j = i - 1 - k := ⟨_, rfl⟩
      have hji : j < N := by omega
      obtain ⟨ad2, e2, _, x2⟩ := HA.out.el hji
      obtain rfl := Option.some.inj e2
      have e1 : (i : Int) - 1 - (k : Int) = (j : Int) := by omega
      have b1 := mval (f k)
      have b2 := mval (x j)
      have HF := Lib.hid (show Fp.ofInt (z + (9973 - ((f k).val : Int)) * ((x j).val : Int)) = x i - Mx.sg (k + 1) fun k => f k * x (i - 1 - k) by
        rw [show z + (9973 - ((f k).val : Int)) * ((x j).val : Int) = z + (9973 + (-1) * ((f k).val : Int)) * ((x j).val : Int) by grind]
        rw [Fp.ofInt_add, Fp.ofInt_mul, Fp.ofInt_add, Fp.ofInt_mul, HZ.out, Fp.ofInt_self, Fp.ofInt_self, Mx.sg_succ, hj, show Fp.ofInt 9973 = 0 from by decide +kernel, show Fp.ofInt (-1) = -1 from by decide +kernel]; grind)
      have q1 := Int.mul_nonneg (show 0 ≤ 9973 - ((f k).val : Int) by omega) b2.1
      have q2 := Int.mul_le_mul (show 9973 - ((f k).val : Int) ≤ 9973 by omega) b2.2 b2.1 (by omega)
      clear hj e2
      generalize ((f k).val : Int) = a at *
      generalize ((x j).val : Int) = b at *
      have hw0 : IntKind.i64.wrap ((i : Int) - 1) = (i : Int) - 1 := IntWalk.i64_in _ (by omega)
      have hw1 : IntKind.i64.wrap ((i : Int) - 1 - (k : Int)) = (j : Int) := by rw [e1]; exact IntWalk.i64_in _ (by omega)
      have hws : IntKind.i64.wrap (9973 - a) = 9973 - a := IntWalk.i64_in _ (by omega)
      have hwm : IntKind.i64.wrap ((9973 - a) * b) = (9973 - a) * b := IntWalk.i64_in _ (by omega)
      have hwa : IntKind.i64.wrap (z + (9973 - a) * b) = z + (9973 - a) * b := IntWalk.i64_in _ (by omega)
      go_wp2_with fail
      go_round
      case rel => exact ⟨k + 1, z + (9973 - a) * b, by omega, by go_num, rfl, by omega, by omega, HF.out⟩
      case measure => simp [intOf]; omega
    · obtain rfl : k = l := by omega
      have HM := Lib.hid (show z % 9973 = ((Mx.dsc k f x i).val : Int) by
        show _ = ((x i - Mx.sg k fun t => f t * x (i - 1 - t) : Fp.F).val : Int)
        rw [← HZ.out, Fp.ofInt_val])
      go_wp2_with fail
      go_ret
      refine ⟨?_, rfl⟩
      show Ending.returned (.int .i64 (z % 9973)) = _
      rw [HM.out]

end Go.Proofs.YtpffekaldpllkaaDoor

/- Contracts of package massey, second part: correct. -/
namespace Go.Proofs.YtpffekaldpllkaaDoor
open Go.ChangeShapes Go.WideShapes Go.ChangeAt Go.RowKit
set_option linter.unusedVariables false

/-- A block of three cells: a row, and two numbers. -/
structure Fx (g : Nat) (B : Option Addr) (lb d : Nat) (m v : Int) (w : World) : Prop where
  c0 : w.cell? ⟨g, 0, none⟩ = some (.slice B lb d)
  c1 : w.cell? ⟨g, 1, none⟩ = some (.int .i64 m)
  c2 : w.cell? ⟨g, 2, none⟩ = some (.int .i64 v)
  z0 : w.frozen? ⟨g, 0, none⟩ = false
  z1 : w.frozen? ⟨g, 1, none⟩ = false
  z2 : w.frozen? ⟨g, 2, none⟩ = false
theorem Fx.lt {w : World} {g : Nat} {B : Option Addr} {lb d : Nat} {m v : Int} (h : Fx g B lb d m v w) : g < w.heap.size := cell_lt h.c0
theorem Fx.keep {w w' : World} {g : Nat} {B : Option Addr} {lb d : Nat} {m v : Int} (h : Fx g B lb d m v w) (hk : Kp w w') : Fx g B lb d m v w' :=
  ⟨(hk.cell (p := ⟨g, 0, none⟩) h.lt).trans h.c0, (hk.cell (p := ⟨g, 1, none⟩) h.lt).trans h.c1, (hk.cell (p := ⟨g, 2, none⟩) h.lt).trans h.c2, (hk.frozen (p := ⟨g, 0, none⟩) h.lt).trans h.z0, (hk.frozen (p := ⟨g, 1, none⟩) h.lt).trans h.z1, (hk.frozen (p := ⟨g, 2, none⟩) h.lt).trans h.z2⟩
theorem Fx.made (w : World) (B : Option Addr) (lb d : Nat) (m v : Int) (T : TypeId) (g : Nat) (hg : g = w.heap.size) : Fx g B lb d m v (w.alloc (.cells #[.slice B lb d, .int .i64 m, .int .i64 v] T)) := by
  subst hg
  exact ⟨by simp, by simp, by simp, by simp, by simp, by simp⟩
theorem Fx.put {w : World} {g : Nat} {B : Option Addr} {lb d : Nat} {m v : Int} (h : Fx g B lb d m v w) (B' : Option Addr) (lb' d' : Nat) (m' v' : Int) :
    Fx g B' lb' d' m' v' (((w.setCell ⟨g, 0, none⟩ (.slice B' lb' d')).setCell ⟨g, 1, none⟩ (.int .i64 m')).setCell ⟨g, 2, none⟩ (.int .i64 v')) := by
  refine ⟨?_, ?_, World.cell?_setCell_same _ _ _ (((World.cell?_setCell_other _ _ _ _ (by simp)).trans (World.cell?_setCell_other _ _ _ _ (by simp))).trans h.c2), by simp [h.z0], by simp [h.z1], by simp [h.z2]⟩
  · rw [World.cell?_setCell_other _ _ _ _ (by simp), World.cell?_setCell_other _ _ _ _ (by simp), World.cell?_setCell_same _ _ _ h.c0]
  · rw [World.cell?_setCell_other _ _ _ _ (by simp)]
    exact World.cell?_setCell_same _ _ _ ((World.cell?_setCell_other _ _ _ _ (by simp)).trans h.c1)

set_option maxRecDepth 100000 in
set_option maxHeartbeats 3200000 in
theorem scor_any (A B : Option Addr) (l lb c d i s L : Nat) (m v : Int) (f b : Nat → Fp.F) (a : Fp.F) (w : World) (ha : Lies w A (rowF l f)) (hb : Lies w B (rowF lb b)) (hs : (s : Int) = (i : Int) - m) (h0 : 0 < s) (hL : L = max l (s + lb)) (hi : i ≤ 15) (hl : l ≤ 16) (hlb : s + lb ≤ 16) :
    Calls Tryd.prog 26 #[.agg #[.slice B lb d, .int .i64 m, .int .i64 v], .slice A l c, .int .i64 (i : Int), .int .i64 (a.val : Int)] w fun e w' => ∃ g, e = .returned (.slice (some ⟨g, 0, none⟩) L L) ∧ Row w' g (rowF L (Mx.mend l lb f b a s)) ∧ w.heap.size < g ∧ Kp w w' := by
  have HA := Lib.hid ha
  have HB := Lib.hid hb
  obtain ⟨i0, hi', hz0, hz1, hz2⟩ := info_parts int_info
  obtain ⟨q, hq⟩ : ∃ q, q + 1 = s := ⟨s - 1, by omega⟩
  have eq' : (s : Int) - 1 = (q : Int) := by omega
  have hwq : IntKind.i64.wrap ((s : Int) - 1) = (q : Int) := by rw [eq']; exact IntWalk.i64_in _ (by omega)
  have hws : IntKind.i64.wrap ((i : Int) - m) = (s : Int) := by rw [← hs]; exact IntWalk.i64_in _ (by omega)
  have ba := mval a
  have HAV := Lib.hid (Fp.ofInt_self a)
  obtain ⟨t, ht⟩ : ∃ t, t = (a.val : Int) := ⟨_, rfl⟩
  rw [← ht] at ba HAV ⊢
  have HQ := Lib.hid hq
  have HL := Lib.hid hL
  have HLL := Lib.hid (show l ≤ L by omega)
  obtain ⟨p, hp⟩ : ∃ p, p = s + lb := ⟨_, rfl⟩
  have ep : (s : Int) + (lb : Int) = (p : Int) := by omega
  have hwp : IntKind.i64.wrap ((s : Int) + (lb : Int)) = (p : Int) := by rw [ep]; exact IntWalk.i64_in _ (by omega)
  have hp16 : p ≤ 16 := by omega
  have hlb16 : lb ≤ 16 := by omega
  have HP := Lib.hid hp
  have HSI := Lib.hid (show q < L ∧ s ≤ 16 by omega)
  rw [← hp] at hL
  clear ha hb ht hq hp hs eq' ep hlb
  go_enter Tryd.func26, Tryd.ntmps26
  go_upto_region 1 with (fail)
  have hfx := Fx.made w B lb d m v 51 _ rfl
  have hk0 : Kp w (w.alloc (.cells #[.slice B lb d, .int .i64 m, .int .i64 v] 51)) := (Kp.rfl' w).new _
  obtain ⟨w0, hw0⟩ : ∃ x, x = w.alloc (.cells #[.slice B lb d, .int .i64 m, .int .i64 v] 51) := ⟨_, rfl⟩
  rw [← hw0] at hfx hk0 ⊢
  have HSZ := Lib.hid (show w0.heap.size = w.heap.size + 1 by rw [hw0]; simp)
  clear hw0
  obtain ⟨g0, hg0⟩ : ∃ g0, g0 = w.heap.size := ⟨_, rfl⟩
  rw [← hg0] at hfx ⊢
  have HG0 := Lib.hid hg0
  have HFX := Lib.hid hfx
  have HK0 := Lib.hid hk0
  have x1 := hfx.c1
  have x0 := hfx.c0
  clear hg0 hfx hk0
  go_wp2_with (at_make; refine wpList_make_full _ rfl _ _ 22 rfl w0.heap.size 3 i0 (.int .i64 0) 1 Tryd.underlying22 hi' hz0 hz1 _ _ _ _ (max l p) rfl rfl (by omega) (by omega) (by rw [hz2]; omega) (by unfold maxLen; omega) (Nat.le_refl _) ?_; intro w1 hown hgrow; have hrow : Row w1 w0.heap.size (List.replicate (max l p) 0) := row_made hown; have hkp : Kp w0 w1 := (Kp.rfl' w0).grown hgrow (by simp) (fun k hk => by cases hk); clear hown hgrow)
  all_goals
    rw [← hL] at hrow ⊢
    obtain ⟨w2, hrun, hr2, hk2⟩ := copy_part w1 w0.heap.size L l c (min L l) A (rowF l f) 3 hrow (HA.out.keep (HK0.out.trans hkp)) (Mx.len_row _ _).symm rfl
    rw [hrun]
    rw [row_beg f HLL.out rfl] at hr2
    have hkp2 : Kp w0 w2 := hk2 _ _ hkp (Nat.le_refl _)
    clear hrun hi' hz0 hz1 hz2 hrow hkp hk2 x0 x1 hL
    obtain ⟨g, hg⟩ : ∃ g, g = w0.heap.size := ⟨_, rfl⟩
    rw [← hg] at hr2 ⊢
    have HG := Lib.hid hg
    have hqL := HSI.out.1
    have hs16 := HSI.out.2
    have y1 := hr2.cell q (by rw [Mx.len_row]; exact hqL)
    rw [Mx.row_at _ _ _ hqL] at y1
    have y2 := hr2.free q
    have HFX2 := Lib.hid (HFX.out.keep hkp2)
    have x0 := HFX2.out.c0
    have b0 := mval (if q < l then f q else 0)
    have HV0 := Lib.hid (Fp.add_val (if q < l then f q else 0) a)
    rw [show (a.val : Int) = t by rw [← HAV.out, Fp.ofInt_val]; omega] at HV0
    have HR2 := Lib.hid hr2
    have HK2 := Lib.hid hkp2
    generalize (((if q < l then f q else 0) : Fp.F).val : Int) = u at *
    have hwa : IntKind.i64.wrap (u + t) = u + t := IntWalk.i64_in _ (by omega)
    clear hr2 hkp2 hg
    go_upto_region 5 with (fail)
    have hr3 := HR2.out.put q ((u + t) % 9973)
    rw [mend_first (s := s) f b a HQ.out HV0.out.symm] at hr3
    have hk3 := HK2.out.put (p := ⟨g, q, none⟩) (by show w0.heap.size ≤ g; rw [HG.out]; exact Nat.le_refl _) (.int .i64 ((u + t) % 9973))
    have HNE := Lib.hid (show g0 < g by have := HG.out; have := HSZ.out; have := HG0.out; omega)
    have x3 := (HFX.out.keep hk3).c0
    obtain ⟨w3, hw3⟩ : ∃ x, x = w2.setCell ⟨g, q, none⟩ (.int .i64 ((u + t) % 9973)) := ⟨_, rfl⟩
    try rw [← hw3] at hr3 hk3 x3 ⊢
    have HK3 := Lib.hid hk3
    have HR3 := Lib.hid hr3
    clear hw3 y1 y2 x0 HV0 HR2 HK2 HFX2 b0 hwa hk3 hr3 hwq
    go_wp2_with fail
    go_loopw [11, 12, 44] (fun _ _ j wr => ∃ k : Nat, k ≤ lb ∧ j = .int .i64 (k : Int) ∧ Row wr g (rowF L (Mx.mend l k f b a s)) ∧ Kp w0 wr) (fun _ _ j _ => lb - (intOf j).toNat)
    case atStart => exact ⟨0, Nat.zero_le _, rfl, HR3.out, HK3.out⟩
    case round =>
      clear x3
      obtain ⟨k, hk, rfl, hr, hkp⟩ := hrel
      have HR := Lib.hid hr
      have HK := Lib.hid hkp
      by_cases hlt : k < lb
      · obtain ⟨bd, rfl, _, z1⟩ := (HB.out.keep (HK0.out.trans hkp)).el hlt
        obtain ⟨j, hj⟩ : ∃ j, j = s + k := ⟨_, rfl⟩
        have ej : (s : Int) + (k : Int) = (j : Int) := by omega
        have hjL : j < L := by have := HL.out; omega
        have hwj : IntKind.i64.wrap ((s : Int) + (k : Int)) = (j : Int) := by rw [ej]; exact IntWalk.i64_in _ (by have := HP.out; omega)
        have y1 := hr.cell j (by rw [Mx.len_row]; exact hjL)
        rw [Mx.row_at _ _ _ hjL] at y1
        have y2 := hr.free j
        have b1 := mval (Mx.mend l k f b a s j)
        have b2 := mval (b k)
        obtain ⟨y, hy⟩ : ∃ y, y = ((Mx.mend l k f b a s j).val : Int) := ⟨_, rfl⟩
        obtain ⟨z, hz⟩ : ∃ z, z = ((b k).val : Int) := ⟨_, rfl⟩
        rw [← hy] at y1 b1
        rw [← hz] at z1 b2
        have HV := Lib.hid (show (y + (9973 - t) * z) % 9973 = ((Mx.mend l k f b a s (s + k) - a * b k : Fp.F).val : Int) by
          rw [← Fp.ofInt_val]
          congr 2
          rw [show y + (9973 - t) * z = y + (9973 + (-1) * t) * z by grind, Fp.ofInt_add, Fp.ofInt_mul, Fp.ofInt_add, Fp.ofInt_mul, HAV.out, hy, hz, Fp.ofInt_self, Fp.ofInt_self, hj, show Fp.ofInt 9973 = 0 from by decide +kernel, show Fp.ofInt (-1) = -1 from by decide +kernel]; grind)
        have HS := Lib.hid (mend_set (L := L) (l := l) f b a (show s + k < L by omega) HV.out)
        have HJ := Lib.hid hj
        have q1 := Int.mul_nonneg (show 0 ≤ 9973 - t by omega) b2.1
        have q2 := Int.mul_le_mul (show 9973 - t ≤ 9973 by omega) b2.2 b2.1 (by omega)
        have hw1 : IntKind.i64.wrap (9973 - t) = 9973 - t := IntWalk.i64_in _ (by omega)
        have hw2 : IntKind.i64.wrap ((9973 - t) * z) = (9973 - t) * z := IntWalk.i64_in _ (by omega)
        have hw3 : IntKind.i64.wrap (y + (9973 - t) * z) = y + (9973 - t) * z := IntWalk.i64_in _ (by omega)
        have hjI : (j : Int) < (L : Int) := by omega
        clear hr hkp hy hz ej hj
        go_wp2_with fail
        go_roundw
        case rel => exact ⟨k + 1, by omega, by go_num, by rw [← HS.out, ← HJ.out]; exact HR.out.put j _, HK.out.put (p := ⟨g, j, none⟩) (by show w0.heap.size ≤ g; rw [HG.out]; exact Nat.le_refl _) _⟩
        case measure => simp [intOf]; omega
      · obtain rfl : k = lb := by omega
        clear hr hkp
        go_wp2_with fail
        go_ret
        exact ⟨g, rfl, HR.out, by have := HG.out; have := HSZ.out; omega, HK0.out.trans HK.out⟩

end Go.Proofs.YtpffekaldpllkaaDoor

/- Contracts of package massey, third part: shortest. -/
namespace Go.Proofs.YtpffekaldpllkaaDoor
open Go.ChangeShapes Go.WideShapes Go.ChangeAt Go.RowKit
set_option linter.unusedVariables false

/-- A row of its own behind block g0, or none. -/
def OffR (g0 : Nat) (A : Option Addr) (l : Nat) (f : Nat → Fp.F) (w : World) : Prop := (l = 0 ∧ A = none) ∨ ∃ g, A = some ⟨g, 0, none⟩ ∧ g0 < g ∧ Row w g (rowF l f)
theorem OffR.keep {w w' : World} {g0 : Nat} {A : Option Addr} {l : Nat} {f : Nat → Fp.F} (h : OffR g0 A l f w) (hk : Kp w w') : OffR g0 A l f w' := by
  rcases h with h | ⟨g, h1, h2, h3⟩
  · exact .inl h
  · exact .inr ⟨g, h1, h2, h3.keep hk⟩
theorem OffR.put {w : World} {g0 : Nat} {A : Option Addr} {l : Nat} {f : Nat → Fp.F} (h : OffR g0 A l f w) (k : Nat) (v : Value) : OffR g0 A l f (w.setCell ⟨g0, k, none⟩ v) := by
  rcases h with h | ⟨g, h1, h2, h3⟩
  · exact .inl h
  · exact .inr ⟨g, h1, h2, h3.far (by show g ≠ g0; omega) v⟩
theorem OffR.lies {w : World} {g0 : Nat} {A : Option Addr} {l : Nat} {f : Nat → Fp.F} (h : OffR g0 A l f w) : Lies w A (rowF l f) := by
  rcases h with ⟨rfl, _⟩ | ⟨g, rfl, _, h3⟩
  · exact Lies.empty w A
  · exact h3.lies

/-- The fewest factors of a row, and no error. -/
def GivesF (N : Nat) (x : Nat → Fp.F) (w : World) (e : Ending) (w' : World) : Prop :=
  ∃ A l c f, e = .returned (.tuple #[.slice A l c, .nilIface]) ∧ Lies w' A (rowF l f) ∧ Mx.Few N l x ∧ Mx.Gn N l f x ∧ Kp w w'

theorem shortest_bad (A : Option Addr) (L : List Int) (c : Nat) (w : World) (ha : Lies w A L) (h : scd L ≠ 0) :
    Calls Tryd.prog 19 #[.slice A L.length c] w fun e w' => e = .returned (.tuple #[.slice none 0 0, errOf (scd L)]) ∧ Kp w w' := by
  have CK := Lib.hid (sChk_any A L c w ha)
  rw [errOf_ne _ h] at CK ⊢
  generalize scd L = z at *
  generalize L.length = n at *
  clear ha h
  go_enter Tryd.func19, Tryd.ntmps19
  go_wp2_with fail
  refine (CK.out).mono ?_; rintro e w' ⟨rfl, rfl⟩
  go_wp2_with fail
  go_ret2
  exact ⟨rfl, Kp.rfl' _⟩

set_option maxRecDepth 100000 in
set_option maxHeartbeats 6400000 in
theorem shortest_ok (A : Option Addr) (N c : Nat) (x : Nat → Fp.F) (w : World) (ha : Lies w A (rowF N x)) (hN : N ≤ 16) :
    Calls Tryd.prog 19 #[.slice A N c] w fun e w' => GivesF N x w e w' := by
  have CK := Lib.hid (sChk_good (L := rowF N x) ⟨rfl, hN⟩ A c w ha)
  have HA := Lib.hid ha
  clear ha
  unfold GivesF
  go_enter Tryd.func19, Tryd.ntmps19
  go_wp2_with fail
  refine (CK.out).mono ?_; rintro e w' ⟨rfl, rfl⟩
  clear CK
  go_upto_region 6 with (fail)
  have hfx := Fx.made w none 0 0 (-1) 1 51 _ rfl
  have hk0 : Kp w (w.alloc (.cells #[.slice none 0 0, .int .i64 (-1), .int .i64 1] 51)) := (Kp.rfl' w).new _
  obtain ⟨w0, hw0⟩ : ∃ x, x = w.alloc (.cells #[.slice none 0 0, .int .i64 (-1), .int .i64 1] 51) := ⟨_, rfl⟩
  rw [← hw0] at hfx hk0 ⊢
  clear hw0
  obtain ⟨g0, hg0⟩ : ∃ g0, g0 = w.heap.size := ⟨_, rfl⟩
  rw [← hg0] at hfx ⊢
  have HG0 := Lib.hid hg0
  clear hg0
  go_wp2_with fail
  go_loopw [2, 3, 5, 7, 8, 9, 10, 11, 20] (fun _ _ v _ _ _ _ _ i wr => ∃ (k l cc lb dd : Nat) (A' B : Option Addr) (f b : Nat → Fp.F) (m : Int) (d : Fp.F), k ≤ N ∧ i = .int .i64 (k : Int) ∧ v = .slice A' l cc ∧ OffR g0 A' l f wr ∧ OffR g0 B lb b wr ∧ Fx g0 B lb dd m (d.val : Int) wr ∧ Mx.Ber x k l f m lb b d ∧ Kp w wr) (fun _ _ _ _ _ _ _ _ i _ => N - (intOf i).toNat)
  case atStart => exact ⟨0, 0, 0, 0, 0, none, none, fun _ => 0, fun _ => 0, -1, 1, Nat.zero_le _, rfl, rfl, .inl ⟨rfl, rfl⟩, .inl ⟨rfl, rfl⟩, hfx, Mx.Ber.start _ _ _, hk0⟩
  case round =>
    clear hfx hk0
    obtain ⟨k, l, cc, lb, dd, A', B, f, b, m, d, hk, rfl, rfl, hv, hb, hfx, hber, hkp⟩ := hrel
    have HV := Lib.hid hv
    have HB := Lib.hid hb
    have HF := Lib.hid hfx
    have HBE := Lib.hid hber
    have HK := Lib.hid hkp
    have lk := hber.len
    clear hv hb hfx hber hkp
    by_cases hlt : k < N
    · have MI := Lib.hid (fun w' (h : Kp wr w') => smiss_any A A' N l k c cc x f w' (HA.out.keep (HK.out.trans h)) (HV.out.lies.keep h) hN hlt lk)
      obtain ⟨e, he⟩ : ∃ e, e = Mx.dsc l f x k := ⟨_, rfl⟩
      rw [← he] at MI
      have HE := Lib.hid he
      by_cases h0 : e = 0
      · have HBE' := Lib.hid (HBE.out.keep (by rw [← he]; exact h0))
        have ez : (((e.val : Int)) == 0) = true := by rw [h0]; decide
        generalize (e.val : Int) = z at *
        clear he h0
        go_wp2_with fail
        refine (MI.out _ (Kp.rfl' _)).mono ?_; rintro e w' ⟨rfl, rfl⟩
        go_wp2_with fail
        go_roundw
        case rel => exact ⟨k + 1, l, cc, lb, dd, A', B, f, b, m, d, by omega, by go_num, rfl, HV.out, HB.out, HF.out, HBE'.out, HK.out⟩
        case measure => simp [intOf]; omega
      · have ez : (((e.val : Int)) == 0) = false := by
          rw [beq_eq_false_iff_ne]
          intro h
          exact h0 (Fp.val_inj (a := e) (b := 0) h)
        have hd := HBE.out.ne
        have DV := Lib.hid (fun w' => div_el e d w' hd)
        have HAD := Lib.hid (show e * Fp.inv d * d = e by have := Fp.inv_mul hd; grind)
        obtain ⟨a, haa⟩ : ∃ a, a = e * Fp.inv d := ⟨_, rfl⟩
        rw [← haa] at DV HAD
        obtain ⟨hm1, hm2, hlb⟩ := HBE.out.old
        obtain ⟨s, hs⟩ : ∃ s : Nat, (s : Int) = (k : Int) - m := ⟨((k : Int) - m).toNat, by omega⟩
        obtain ⟨hs0, hs1⟩ := HBE.out.many hs
        obtain ⟨L, hL⟩ : ∃ L, L = max l (s + lb) := ⟨_, rfl⟩
        have CO := Lib.hid (fun w' (h : Kp wr w') => scor_any A' B l lb cc dd k s L m (d.val : Int) f b a w' (HV.out.lies.keep h) (HB.out.lies.keep h) hs hs0 hL (by omega) (by omega) (by omega))
        have HH0 := Lib.hid h0
        have HS := Lib.hid hs
        have HL := Lib.hid hL
        have hl16 : l ≤ 16 := by omega
        have hL16 : L ≤ 16 := by omega
        have x0 := HF.out.c0
        have x1 := HF.out.c1
        have x2 := HF.out.c2
        unfold el at DV
        have ev : ∃ z, z = (e.val : Int) := ⟨_, rfl⟩
        obtain ⟨z, hz⟩ := ev
        obtain ⟨y, hy⟩ : ∃ y, y = (d.val : Int) := ⟨_, rfl⟩
        obtain ⟨t, ht⟩ : ∃ t, t = (a.val : Int) := ⟨_, rfl⟩
        rw [← hz] at MI ez DV
        rw [← hy] at x2 DV
        rw [← ht] at DV CO
        have HZ := Lib.hid hz
        clear he h0 hd haa hm1 hm2 hlb hs hs0 hs1 hL hz hy ht
        go_wp2_with fail
        refine (MI.out _ (Kp.rfl' _)).mono ?_; rintro e w' ⟨rfl, rfl⟩
        go_wp2_with fail
        refine (DV.out _).mono ?_; rintro e w1 ⟨rfl, hdr⟩
        have hk1 := hdr.kp
        have HF1 := Lib.hid (HF.out.keep hk1)
        have K1 := Lib.hid hk1
        clear hdr hk1 x0 x1 x2
        have x0 := HF1.out.c0
        have x1 := HF1.out.c1
        have x2 := HF1.out.c2
        go_wp2_with fail
        refine (CO.out _ K1.out).mono ?_; rintro e' w2 ⟨g, rfl, hr, hg, hk2⟩
        have HF2 := Lib.hid (HF1.out.keep hk2)
        have HKK := Lib.hid (HK.out.trans (K1.out.trans hk2))
        have HV2 := Lib.hid ((HV.out.keep K1.out).keep hk2)
        have HB2 := Lib.hid ((HB.out.keep K1.out).keep hk2)
        have HG := Lib.hid (show g0 < g by have := HF1.out.lt; omega)
        have HR := Lib.hid hr
        clear hr hg hk2 x0 x1 x2 MI DV CO
        by_cases h2 : l < L
        · have hI : (l : Int) < (L : Int) := by omega
          have hpl : L = s + lb := by have := HL.out; omega
          have NB := Lib.hid (HBE.out.more HE.out.symm HH0.out HS.out HAD.out h2 hpl)
          have x0 := HF2.out.c0
          have x1 := HF2.out.c1
          have x2 := HF2.out.c2
          have x3 := HF2.out.z0
          have x4 := HF2.out.z1
          have x5 := HF2.out.z2
          clear hpl
          go_wp2_with fail
          go_roundw
          case rel => exact ⟨k + 1, L, L, l, cc, some ⟨g, 0, none⟩, A', _, f, (k : Int), e, by omega, by go_num, rfl, .inr ⟨g, rfl, HG.out, ((HR.out.far (by have := HG.out; show g ≠ g0; omega) _).far (by have := HG.out; show g ≠ g0; omega) _).far (by have := HG.out; show g ≠ g0; omega) _⟩, ((HV2.out.put 0 _).put 1 _).put 2 _, by rw [← HZ.out]; exact HF2.out.put A' l cc (k : Int) z, NB.out, by
            have hB : w.heap.size ≤ g0 := by rw [HG0.out]; exact Nat.le_refl _
            exact ((HKK.out.put (p := ⟨g0, 0, none⟩) hB _).put (p := ⟨g0, 1, none⟩) hB _).put (p := ⟨g0, 2, none⟩) hB _⟩
          case measure => simp [intOf]; omega
        · obtain rfl : L = l := by have := HL.out; omega
          have NB := Lib.hid (HBE.out.same HE.out.symm HH0.out HS.out HAD.out (by have := HL.out; omega))
          clear h2
          go_wp2_with fail
          go_roundw
          case rel => exact ⟨k + 1, L, L, lb, dd, some ⟨g, 0, none⟩, B, _, b, m, d, by omega, by go_num, rfl, .inr ⟨g, rfl, HG.out, HR.out⟩, HB2.out, HF2.out, NB.out, HKK.out⟩
          case measure => simp [intOf]; omega
    · obtain rfl : k = N := by omega
      go_wp2_with fail
      go_ret2
      exact ⟨A', l, cc, f, rfl, HV.out.lies, HBE.out.few, HBE.out.gn, HK.out⟩

end Go.Proofs.YtpffekaldpllkaaDoor

/- Contracts of package massey, fourth part: Fewest, Factors, Goes. -/
namespace Go.Proofs.YtpffekaldpllkaaDoor
open Go.ChangeShapes Go.WideShapes Go.ChangeAt Go.RowKit
set_option linter.unusedVariables false

theorem Fewest_bad (A : Option Addr) (L : List Int) (c : Nat) (w : World) (ha : Lies w A L) (h : scd L ≠ 0) :
    Calls Tryd.prog 9 #[.slice A L.length c] w fun e w' => e = .returned (.tuple #[.int .i64 0, errOf (scd L)]) ∧ Kp w w' := by
  have SH := Lib.hid (shortest_bad A L c w ha h)
  rw [errOf_ne _ h] at SH ⊢
  generalize scd L = z at *
  generalize L.length = n at *
  clear ha h
  go_enter Tryd.func9, Tryd.ntmps9
  go_wp2_with fail
  refine (SH.out).mono ?_; rintro e w' ⟨rfl, hk⟩
  go_wp2_with fail
  go_ret2
  exact ⟨rfl, hk⟩
theorem Fewest_ok (A : Option Addr) (N c l : Nat) (x : Nat → Fp.F) (w : World) (ha : Lies w A (rowF N x)) (hN : N ≤ 16) (hf : Mx.Few N l x) :
    Calls Tryd.prog 9 #[.slice A N c] w fun e w' => e = .returned (.tuple #[.int .i64 (l : Int), .nilIface]) ∧ Kp w w' := by
  have SH := Lib.hid (shortest_ok A N c x w ha hN)
  unfold GivesF at SH
  clear ha
  go_enter Tryd.func9, Tryd.ntmps9
  go_wp2_with fail
  refine (SH.out).mono ?_; rintro e w' ⟨A', l', c', f, rfl, _, hf', _, hk⟩
  obtain rfl := hf.one hf'
  clear hf hf'
  go_wp2_with fail
  go_ret2
  exact ⟨rfl, hk⟩

theorem Factors_bad (A : Option Addr) (L : List Int) (c : Nat) (w : World) (ha : Lies w A L) (h : scd L ≠ 0) :
    Calls Tryd.prog 10 #[.slice A L.length c] w fun e w' => e = .returned (.tuple #[.slice none 0 0, errOf (scd L)]) ∧ Kp w w' := by
  have SH := Lib.hid (shortest_bad A L c w ha h)
  rw [errOf_ne _ h] at SH ⊢
  generalize scd L = z at *
  generalize L.length = n at *
  clear ha h
  go_enter Tryd.func10, Tryd.ntmps10
  go_wp2_with fail
  refine (SH.out).mono ?_; rintro e w' ⟨rfl, hk⟩
  go_wp2_with fail
  go_ret2
  exact ⟨rfl, hk⟩
theorem Factors_none (A : Option Addr) (N c l : Nat) (x : Nat → Fp.F) (w : World) (ha : Lies w A (rowF N x)) (hN : N ≤ 16) (hf : Mx.Few N l x) (h2 : N < 2 * l) :
    Calls Tryd.prog 10 #[.slice A N c] w fun e w' => e = .returned (.tuple #[.slice none 0 0, errOf 5]) ∧ Kp w w' := by
  have SH := Lib.hid (shortest_ok A N c x w ha hN)
  have hl := hf.top
  have h3 : (N : Int) < 2 * (l : Int) := by omega
  have hw : IntKind.i64.wrap (2 * (l : Int)) = 2 * (l : Int) := IntWalk.i64_in _ (by omega)
  unfold GivesF at SH
  clear ha
  go_enter Tryd.func10, Tryd.ntmps10
  go_wp2_with fail
  refine (SH.out).mono ?_; rintro e w' ⟨A', l', c', f, rfl, _, hf', _, hk⟩
  obtain rfl := hf.one hf'
  clear hf hf'
  go_wp2_with fail
  go_ret2
  exact ⟨rfl, hk⟩
theorem Factors_ok (A : Option Addr) (N c l : Nat) (x : Nat → Fp.F) (w : World) (ha : Lies w A (rowF N x)) (hN : N ≤ 16) (hf : Mx.Few N l x) (h2 : 2 * l ≤ N) :
    Calls Tryd.prog 10 #[.slice A N c] w fun e w' => ∃ B d f, e = .returned (.tuple #[.slice B l d, .nilIface]) ∧ Lies w' B (rowF l f) ∧ Mx.Gn N l f x ∧ Kp w w' := by
  have SH := Lib.hid (shortest_ok A N c x w ha hN)
  have hl := hf.top
  have h3 : ¬ (N : Int) < 2 * (l : Int) := by omega
  have hw : IntKind.i64.wrap (2 * (l : Int)) = 2 * (l : Int) := IntWalk.i64_in _ (by omega)
  unfold GivesF at SH
  clear ha
  go_enter Tryd.func10, Tryd.ntmps10
  go_wp2_with fail
  refine (SH.out).mono ?_; rintro e w' ⟨A', l', c', f, rfl, hl', hf', hg, hk⟩
  have HL' := Lib.hid hl'
  have HG := Lib.hid hg
  obtain rfl := hf.one hf'
  clear hf hf' hl' hg
  go_wp2_with fail
  go_ret2
  exact ⟨A', c', f, rfl, HL'.out, HG.out, hk⟩

theorem SGoes_bad (A B : Option Addr) (L S : List Int) (c d : Nat) (w : World) (ha : Lies w A L) (h : scd L ≠ 0) :
    Calls Tryd.prog 12 #[.slice A L.length c, .slice B S.length d] w fun e w' => e = .returned (.tuple #[.bool false, errOf (scd L)]) ∧ w = w' := by
  have CK := Lib.hid (sChk_any A L c w ha)
  rw [errOf_ne _ h] at CK ⊢
  generalize scd L = z at *
  generalize L.length = n at *
  generalize S.length = n2 at *
  clear ha h
  go_enter Tryd.func12, Tryd.ntmps12
  go_wp2_with fail
  refine (CK.out).mono ?_; rintro e w' ⟨rfl, rfl⟩
  go_wp2_with fail
  go_ret2
  exact ⟨rfl, rfl⟩
theorem SGoes_bad2 (A B : Option Addr) (L S : List Int) (c d : Nat) (w : World) (ha : Lies w A L) (hb : Lies w B S) (h0 : scd L = 0) (h : scd S ≠ 0) :
    Calls Tryd.prog 12 #[.slice A L.length c, .slice B S.length d] w fun e w' => e = .returned (.tuple #[.bool false, errOf (scd S)]) ∧ w = w' := by
  have CK := Lib.hid (sChk_any A L c w ha)
  have CK2 := Lib.hid (sChk_any B S d w hb)
  rw [h0, errOf_zero] at CK
  rw [errOf_ne _ h] at CK2 ⊢
  generalize scd S = z at *
  generalize L.length = n at *
  generalize S.length = n2 at *
  clear ha hb h h0
  go_enter Tryd.func12, Tryd.ntmps12
  go_wp2_with fail
  refine (CK.out).mono ?_; rintro e w' ⟨rfl, rfl⟩
  go_wp2_with fail
  refine (CK2.out).mono ?_; rintro e w' ⟨rfl, rfl⟩
  go_wp2_with fail
  go_ret2
  exact ⟨rfl, rfl⟩

set_option maxRecDepth 100000 in
set_option maxHeartbeats 3200000 in
theorem SGoes_ok (A B : Option Addr) (N l c d : Nat) (x f : Nat → Fp.F) (w : World) (ha : Lies w A (rowF N x)) (hb : Lies w B (rowF l f)) (hN : N ≤ 16) (hl : l ≤ 16) (b : Bool) (hbt : b = true ↔ Mx.Gn N l f x) :
    Calls Tryd.prog 12 #[.slice A N c, .slice B l d] w fun e w' => e = .returned (.tuple #[.bool b, .nilIface]) ∧ w = w' := by
  have CK := Lib.hid (sChk_good (L := rowF N x) ⟨rfl, hN⟩ A c w ha)
  have CK2 := Lib.hid (sChk_good (L := rowF l f) ⟨rfl, hl⟩ B d w hb)
  have HA := Lib.hid ha
  have HB := Lib.hid hb
  have YES := Lib.hid hbt.2
  have NO := Lib.hid (fun h : ¬ Mx.Gn N l f x => show b = false by cases b; rfl; exact absurd (hbt.1 rfl) h)
  clear ha hb hbt
  go_enter Tryd.func12, Tryd.ntmps12
  go_wp2_with fail
  refine (CK.out).mono ?_; rintro e w' ⟨rfl, rfl⟩
  go_wp2_with fail
  refine (CK2.out).mono ?_; rintro e w' ⟨rfl, rfl⟩
  clear CK CK2
  go_wp2_with fail
  go_loop [8] (fun i => ∃ k : Nat, l ≤ k ∧ (k ≤ N ∨ k = l) ∧ i = .int .i64 (k : Int) ∧ Mx.Gn k l f x) (fun i => N + 16 - (intOf i).toNat)
  case atStart => exact ⟨l, Nat.le_refl _, .inr rfl, rfl, Mx.Gn.far f x (Nat.le_refl l)⟩
  case round =>
    obtain ⟨k, hlk, hk, rfl, hg⟩ := hrel
    have HG := Lib.hid hg
    clear hg
    by_cases hlt : k < N
    · have MI := Lib.hid (smiss_any A B N l k c d x f w HA.out HB.out hN hlt hlk)
      have hI : (k : Int) < (N : Int) := by omega
      by_cases h0 : Mx.dsc l f x k = 0
      · have HN := Lib.hid (HG.out.next fun _ => Mx.dsc_not h0)
        have ez : (((Mx.dsc l f x k).val : Int) != 0) = false := by rw [h0]; decide
        generalize ((Mx.dsc l f x k).val : Int) = z at *
        clear h0
        go_wp2_with fail
        refine (MI.out).mono ?_; rintro e w' ⟨rfl, rfl⟩
        go_wp2_with fail
        go_round
        case rel => exact ⟨k + 1, by omega, by omega, by go_num, HN.out⟩
        case measure => simp [intOf]; omega
      · have ez : (((Mx.dsc l f x k).val : Int) != 0) = true := by
          rw [bne_iff_ne]
          intro h
          exact h0 (Fp.val_inj (a := Mx.dsc l f x k) (b := 0) h)
        have BF := Lib.hid (NO.out fun h => h0 (Mx.dsc_zero (h k hlk hlt)))
        generalize ((Mx.dsc l f x k).val : Int) = z at *
        clear h0
        go_wp2_with fail
        refine (MI.out).mono ?_; rintro e w' ⟨rfl, rfl⟩
        go_wp2_with fail
        go_ret2
        exact ⟨by rw [BF.out]; rfl, rfl⟩
    · have hI : ¬ (k : Int) < (N : Int) := by omega
      have BT := Lib.hid (YES.out (by
        rcases hk with h | h
        · obtain rfl : k = N := by omega
          exact HG.out
        · exact Mx.Gn.far f x (by omega)))
      go_wp2_with fail
      go_ret2
      exact ⟨by rw [BT.out]; rfl, rfl⟩

end Go.Proofs.YtpffekaldpllkaaDoor

/- Contracts of the document's answer on matrices (package rankmereref1: Mod, Unit, Flip, Copy, MatMul, MatAdd, Matrix, Field). For all packages. -/
namespace Go.Proofs.YtpffekaldpllkaaDoor
open Go.ChangeShapes Go.WideShapes Go.ChangeAt Go.RowKit
set_option linter.unusedVariables false

theorem own_made {w : World} {base g n : Nat} (h : w.ownsRow base 3 1 (.slice (some ⟨g, 0, none⟩) n n) n (madeCells #[.int .i64 0] (n * 1)).toList) : Own w base (.slice (some ⟨g, 0, none⟩) n n) (Mx.row n fun _ => 0) := by
  unfold Own
  rw [Mx.len_row, ← Mx.row_rep]
  rw [toList_madeCells_one, Nat.mul_one] at h
  simpa [ints] using h
theorem rval (a : Fp.F) : 0 ≤ (a.val : Int) ∧ (a.val : Int) ≤ 9972 := by have := a.isLt; omega
theorem rprod (a b : Fp.F) : 0 ≤ (a.val : Int) * (b.val : Int) ∧ (a.val : Int) * (b.val : Int) ≤ 99440784 := by
  have h1 := rval a
  have h2 := rval b
  exact ⟨Int.mul_nonneg h1.1 h2.1, Int.mul_le_mul h1.2 h2.2 h2.1 (by decide)⟩
theorem rzero : ((0 : Fp.F).val : Int) = 0 := rfl

theorem rMod_any (n : Int) (w : World) (h1 : -1000000000000000 ≤ n) (h2 : n ≤ 1000000000000000) :
    Calls Tryd.prog 21 #[.int .i64 n] w fun e w' => e = .returned (.int .i64 (n % 9973)) ∧ w = w' := by
  obtain ⟨f1, f2⟩ := Num.tmod_fix n 9973 (by omega)
  obtain ⟨b2, b1⟩ := Num.tmod_bound n 9973 (by omega)
  have F1 := Lib.hid f1
  have F2 := Lib.hid f2
  clear f1 f2
  by_cases h : n.tmod 9973 < 0
  · go_enter Tryd.func21, Tryd.ntmps21
    go_wp2
    go_ret
    exact ⟨ret_int (F1.out h), rfl⟩
  · have h' : 0 ≤ n.tmod 9973 := by omega
    clear h
    go_enter Tryd.func21, Tryd.ntmps21
    go_wp2
    go_ret
    exact ⟨ret_int (F2.out h'), rfl⟩

/-- A matrix that the call made. -/
def Made (r c : Nat) (f : Nat → Nat → Fp.F) (w : World) (e : Ending) (w' : World) : Prop := ∃ A d, e = .returned (.slice A r d) ∧ LiesM w' A (Mx.matl r c f) ∧ Kp w w'
/-- The same, to be written to. -/
def MadeOwn (r c : Nat) (f : Nat → Nat → Fp.F) (w : World) (e : Ending) (w' : World) : Prop := ∃ v G C, e = .returned v ∧ OwnM w' w.heap.size v G C (Mx.matl r c f) ∧ Kp w w'



end Go.Proofs.YtpffekaldpllkaaDoor

/- The document's answer on the fewest factors: Seq, Goes. -/
namespace Go.Proofs.YtpffekaldpllkaaDoor
open Go.ChangeShapes Go.WideShapes Go.ChangeAt Go.RowKit
set_option linter.unusedVariables false

theorem rSeq_full (A : Option Addr) (L : List Int) (c : Nat) (w : World) (h : 16 < L.length) :
    Calls Tryd.prog 5 #[.slice A L.length c] w fun e w' => e = .returned (.int .i64 (scd L : Int)) ∧ w = w' := by
  rw [scd_full h]
  generalize L.length = n at *
  have h' : (16 : Int) < n := by omega
  clear h
  go_enter Tryd.func5, Tryd.ntmps5
  go_wp2
  go_ret
  exact ⟨rfl, rfl⟩
theorem rSeq_any (A : Option Addr) (L : List Int) (c : Nat) (w : World) (ha : Lies w A L) :
    Calls Tryd.prog 5 #[.slice A L.length c] w fun e w' => e = .returned (.int .i64 (scd L : Int)) ∧ w = w' := by
  by_cases h : 16 < L.length
  · exact rSeq_full A L c w h
  · have E := Lib.hid (all_any A L c 0 9972 w ha (by omega))
    have RNG := Lib.hid (fun h2 => scd_range h h2)
    have OK := Lib.hid (fun h2 => scd_ok h h2)
    obtain ⟨v, hv⟩ : ∃ v, v = scd L := ⟨_, rfl⟩
    rw [← hv] at RNG OK ⊢
    by_cases h1 : AllIn L 0 9972
    · have H1 := Lib.hid h1
      have R := Lib.hid (OK.out h1)
      generalize L.length = n at *
      have h' : ¬ (16 : Int) < n := by omega
      clear h h1 ha hv OK RNG
      go_enter Tryd.func5, Tryd.ntmps5
      go_wp2_with fail
      refine (E.out).mono ?_; rintro e w' ⟨ht, rfl⟩
      obtain rfl := tells_yes ht H1.out
      go_wp2_with fail
      go_ret
      exact ⟨by rw [R.out]; rfl, rfl⟩
    · have H1 := Lib.hid h1
      have R := Lib.hid (RNG.out h1)
      generalize L.length = n at *
      have h' : ¬ (16 : Int) < n := by omega
      clear h h1 ha hv OK RNG
      go_enter Tryd.func5, Tryd.ntmps5
      go_wp2_with fail
      refine (E.out).mono ?_; rintro e w' ⟨ht, rfl⟩
      obtain rfl := tells_no ht H1.out
      go_wp2_with fail
      go_ret
      exact ⟨by rw [R.out]; rfl, rfl⟩

theorem msprod (a b : Fp.F) : 0 ≤ (a.val : Int) * (b.val : Int) ∧ (a.val : Int) * (b.val : Int) ≤ 100000000 := by
  have h1 := mval a
  have h2 := mval b
  refine ⟨Int.mul_nonneg h1.1 h2.1, ?_⟩
  have := Int.mul_le_mul h1.2 h2.2 h2.1 (by omega)
  omega

set_option maxRecDepth 100000 in
set_option maxHeartbeats 3200000 in
theorem rGoes_any (A B : Option Addr) (N l c d : Nat) (x f : Nat → Fp.F) (w : World) (ha : Lies w A (rowF N x)) (hb : Lies w B (rowF l f)) (hN : N ≤ 16) (hl : l ≤ 16) (b : Bool) (hbt : b = true ↔ Mx.Gn N l f x) :
    Calls Tryd.prog 13 #[.slice A N c, .slice B l d] w fun e w' => e = .returned (.bool b) ∧ Kp w w' := by
  have HA := Lib.hid ha
  have HB := Lib.hid hb
  have YES := Lib.hid hbt.2
  have NO := Lib.hid (fun h : ¬ Mx.Gn N l f x => show b = false by cases b; rfl; exact absurd (hbt.1 rfl) h)
  clear ha hb hbt
  go_enter Tryd.func13, Tryd.ntmps13
  go_wp2_with fail
  go_loopw [4, 5, 6, 7] (fun _ i _ _ wr => ∃ k : Nat, l ≤ k ∧ (k ≤ N ∨ k = l) ∧ i = .int .i64 (k : Int) ∧ Mx.Gn k l f x ∧ Kp w wr) (fun _ i _ _ _ => N + 16 - (intOf i).toNat)
  case atStart => exact ⟨l, Nat.le_refl _, .inr rfl, rfl, Mx.Gn.far f x (Nat.le_refl l), Kp.rfl' _⟩
  case round =>
    obtain ⟨k, hlk, hk, rfl, hg, hkp⟩ := hrel
    have HG := Lib.hid hg
    have HK := Lib.hid hkp
    clear hg
    by_cases hlt : k < N
    · have hI : (k : Int) < (N : Int) := by omega
      have hwk : IntKind.i64.wrap ((k : Int) - 1) = (k : Int) - 1 := IntWalk.i64_in _ (by omega)
      obtain ⟨wo, hwo⟩ : ∃ y, y = wr := ⟨_, rfl⟩
      subst hwo
      clear hkp
      go_wp2_with fail
      go_loopw [6, 7] (fun u i wq => ∃ (j : Nat) (z : Int), j ≤ l ∧ i = .int .i64 (j : Int) ∧ u = .int .i64 z ∧ 0 ≤ z ∧ z ≤ 100000000 * j ∧ Fp.ofInt z = (Mx.sg j fun b => f b * x (k - 1 - b)) ∧ Kp wo wq) (fun _ i _ => l - (intOf i).toNat)
      case atStart => exact ⟨0, 0, Nat.zero_le _, rfl, rfl, by omega, by omega, rfl, Kp.rfl' _⟩
      case round =>
        obtain ⟨j, z, hj, rfl, rfl, z0, z1, hz, hkq⟩ := hrel
        have HZ := Lib.hid hz
        have HKQ := Lib.hid hkq
        clear hz
        by_cases hjn : j < l
        · obtain ⟨b, hb⟩ : ∃ b, b = k - 1 - j := ⟨_, rfl⟩
          have hbk : b < N := by omega
          have e2 : (k : Int) - 1 - (j : Int) = (b : Int) := by omega
          have hwf : IntKind.i64.wrap ((k : Int) - 1 - (j : Int)) = (b : Int) := by rw [e2]; exact IntWalk.i64_in _ (by omega)
          obtain ⟨bd, rfl, _, y1⟩ := (HB.out.keep (HK.out.trans hkq)).el hjn
          obtain ⟨ad, rfl, _, y2⟩ := (HA.out.keep (HK.out.trans hkq)).el hbk
          have b1 := msprod (f j) (x b)
          have HF := Lib.hid (show Fp.ofInt (z + ((f j).val : Int) * ((x b).val : Int)) = Mx.sg (j + 1) fun b => f b * x (k - 1 - b) by rw [Fp.ofInt_add, Fp.ofInt_mul, HZ.out, Fp.ofInt_self, Fp.ofInt_self, Mx.sg_succ, hb])
          clear hkq hb e2
          generalize ((f j).val : Int) = v1 at *
          generalize ((x b).val : Int) = v2 at *
          have hwm : IntKind.i64.wrap (v1 * v2) = v1 * v2 := IntWalk.i64_in _ (by omega)
          have hws : IntKind.i64.wrap (z + v1 * v2) = z + v1 * v2 := IntWalk.i64_in _ (by omega)
          go_wp2_with fail
          go_quiet (fail)
          go_wp2_with fail
          go_roundw
          case rel => exact ⟨j + 1, z + v1 * v2, by omega, by go_num, rfl, by omega, by omega, HF.out, HKQ.out.drewN _⟩
          case measure => simp [intOf]; omega
        · obtain rfl : j = l := by omega
          obtain ⟨ad, rfl, _, y2⟩ := (HA.out.keep (HK.out.trans hkq)).el hlt
          have MD := Lib.hid (fun w => rMod_any z w (by omega) (by omega))
          have HK2 := Lib.hid (HK.out.trans hkq)
          by_cases h0 : x k = Mx.sg j fun b => f b * x (k - 1 - b)
          · have HM := Lib.hid (show z % 9973 = ((x k).val : Int) by rw [h0, ← HZ.out, Fp.ofInt_val])
            have HN := Lib.hid (HG.out.next fun _ => h0)
            rw [HM.out] at MD
            generalize ((x k).val : Int) = y at *
            have ey : (y != y) = false := by simp
            clear hkq h0 HM HZ
            go_wp2_with fail
            go_quiet ((first
              | (with_reducible exact quiet_here (MD.out _))
              | (with_reducible exact quiet_more (MD.out _))))
            go_wp2_with fail
            go_roundw
            case rel => exact ⟨k + 1, by omega, by omega, by go_num, HN.out, HK2.out.drewN _⟩
            case measure => simp [intOf]; omega
          · have ez : ((z % 9973) != ((x k).val : Int)) = true := by
              rw [bne_iff_ne]
              intro e
              refine h0 (Fp.val_inj ?_)
              rw [← e, ← HZ.out, Fp.ofInt_val]
            have BF := Lib.hid (NO.out fun h => h0 (h k hlk hlt))
            generalize ((x k).val : Int) = y at *
            generalize z % 9973 = q at *
            clear hkq h0 HZ
            go_wp2_with fail
            go_quiet ((first
              | (with_reducible exact quiet_here (MD.out _))
              | (with_reducible exact quiet_more (MD.out _))))
            go_wp2_with fail
            go_ret
            exact ⟨by rw [BF.out]; rfl, HK2.out.drewN _⟩
    · have hI : ¬ (k : Int) < (N : Int) := by omega
      have BT := Lib.hid (YES.out (by
        rcases hk with h | h
        · obtain rfl : k = N := by omega
          exact HG.out
        · exact Mx.Gn.far f x (by omega)))
      go_wp2_with fail
      go_ret
      exact ⟨by rw [BT.out]; rfl, HK.out⟩

end Go.Proofs.YtpffekaldpllkaaDoor

/- Plain facts on elimination below the diagonal, in which a column without a pivot is passed over: the factors, what is left, the order of the rows; their product, the determinant. No program is named here. -/
namespace Go.Proofs.YtpffekaldpllkaaDoor
open Fp
set_option linter.unusedVariables false

theorem First.one {r : Nat} {f : Nat → Nat → F} {i j k l : Nat} (h : First r f i j k) (h' : First r f i j l) : k = l := by
  obtain ⟨a1, a2, a3, a4⟩ := h
  obtain ⟨b1, b2, b3, b4⟩ := h'
  rcases Nat.lt_trichotomy k l with e | e | e
  · exact absurd (b3 k a1 e) (a4 (by omega))
  · exact e
  · exact absurd (a3 l b1 e) (b4 (by omega))

namespace Mx

theorem pr_front (n : Nat) (g : Nat → F) : pr (n + 1) g = g 0 * pr n (fun i => g (i + 1)) := by
  induction n with
  | zero => show pr 0 g * g 0 = g 0 * pr 0 _; unfold pr; grind
  | succ n ih =>
    show pr (n + 1) g * g (n + 1) = g 0 * (pr n (fun i => g (i + 1)) * g (n + 1))
    rw [ih]; grind
theorem dt_low : ∀ (n : Nat) (f : Nat → Nat → F), (∀ i j, i < n → j < n → i < j → f i j = 0) → dt n f = pr n fun i => f i i
  | 0, _, _ => rfl
  | n + 1, f, h => by
    rw [dt_succ, sg_one (k := 0) (Nat.succ_pos n) (fun j hj hne => by rw [h 0 j (Nat.succ_pos n) hj (by omega)]; grind), pr_front]
    have e : dt n (del 0 f) = pr n fun i => f (i + 1) (i + 1) := by
      rw [dt_low n (del 0 f) fun i j hi hj hlt => by unfold del; rw [sk_zero]; exact h _ _ (by omega) (by omega) (by omega)]
      exact pr_congr fun i _ => by unfold del; rw [sk_zero]
    rw [e, show sgn 0 = 1 from rfl]
    grind
/-- With noughts below the diagonal: the product of the diagonal. -/
theorem dt_up (n : Nat) (f : Nat → Nat → F) (h : ∀ i j, i < n → j < n → j < i → f i j = 0) : dt n f = pr n fun i => f i i := by
  rw [← dt_flip]
  exact dt_low n (flip f) fun i j hi hj hlt => h j i hj hi hlt

/-- The rows in an order, the factors, and what is left. -/
structure Tri where
  s : Nat → Nat
  l : Nat → Nat → F
  u : Nat → Nat → F
/-- Rows c and k change places. -/
def Tri.swp (t : Tri) (c k : Nat) : Tri := ⟨fun i => t.s (sw c k i), fun i => t.l (sw c k i), fun i => t.u (sw c k i)⟩
/-- Row c is taken from the rows between c and d, so that nothing is left of them at column c. -/
def Tri.clr (t : Tri) (c d : Nat) : Tri :=
  ⟨t.s, fun i j => if c < i ∧ i < d ∧ j = c then t.u i c * Fp.inv (t.u c c) else t.l i j, fun i j => if c < i ∧ i < d then t.u i j - t.u i c * Fp.inv (t.u c c) * t.u c j else t.u i j⟩
theorem Tri.clr_start (t : Tri) (c p q : Nat) : t.l p q = (t.clr c (c + 1)).l p q ∧ t.u p q = (t.clr c (c + 1)).u p q := by
  unfold Tri.clr; simp only
  rw [if_neg (by omega), if_neg (by omega)]; exact ⟨rfl, rfl⟩
theorem Tri.clr_at (t : Tri) (c i q : Nat) : (t.clr c i).u i q = t.u i q ∧ (t.clr c i).u c q = t.u c q := by
  unfold Tri.clr; simp only
  rw [if_neg (by omega), if_neg (by omega)]; exact ⟨rfl, rfl⟩
theorem Tri.clr_l (t : Tri) {c i : Nat} (h : c < i) (p q : Nat) : (if p = i ∧ q = c then t.u i c * Fp.inv (t.u c c) else (t.clr c i).l p q) = (t.clr c (i + 1)).l p q := by
  unfold Tri.clr; simp only
  by_cases e : p = i ∧ q = c
  · rw [if_pos e, if_pos ⟨by omega, by omega, e.2⟩, e.1]
  · rw [if_neg e]
    by_cases e2 : c < p ∧ p < i ∧ q = c
    · rw [if_pos e2, if_pos ⟨e2.1, by omega, e2.2.2⟩]
    · rw [if_neg e2, if_neg (by omega)]
theorem Tri.clr_u (t : Tri) {c i : Nat} (h : c < i) (p q : Nat) : (if p = i then t.u i q - t.u i c * Fp.inv (t.u c c) * t.u c q else (t.clr c i).u p q) = (t.clr c (i + 1)).u p q := by
  unfold Tri.clr; simp only
  by_cases e : p = i
  · rw [if_pos e, if_pos ⟨by omega, by omega⟩, e]
  · rw [if_neg e]
    by_cases e2 : c < p ∧ p < i
    · rw [if_pos e2, if_pos ⟨e2.1, by omega⟩]
    · rw [if_neg e2, if_neg (by omega)]
def Tri.step (t : Tri) (n c k : Nat) : Tri := (t.swp c k).clr c n
def tri0 (m : Nat → Nat → F) : Tri := ⟨fun i => i, fun _ _ => 0, m⟩
/-- What comes of m behind c columns. -/
def LuTo (n : Nat) (m : Nat → Nat → F) : Nat → Tri → Prop
  | 0, t => t = tri0 m
  | c + 1, t => ∃ t0, LuTo n m c t0 ∧ ((First n t0.u c c n ∧ t = t0) ∨ ∃ k, k < n ∧ First n t0.u c c k ∧ t = t0.step n c k)
theorem LuTo.one {n : Nat} {m : Nat → Nat → F} : ∀ {c : Nat} {t t' : Tri}, LuTo n m c t → LuTo n m c t' → t = t'
  | 0, _, _, h, h' => Eq.trans h (Eq.symm h')
  | c + 1, t, t', ⟨t0, a, b⟩, ⟨t1, a', b'⟩ => by
    obtain rfl := a.one a'
    rcases b with ⟨b1, rfl⟩ | ⟨k, hk, b1, rfl⟩ <;> rcases b' with ⟨d1, rfl⟩ | ⟨k', hk', d1, rfl⟩
    · rfl
    · exact absurd (b1.one d1) (by omega)
    · exact absurd (d1.one b1) (by omega)
    · rw [b1.one d1]

theorem sw_ge {c k i j : Nat} (hk : c ≤ k) (hj : j < c) (hi : j < i) : j < sw c k i := by unfold sw; split <;> (try split) <;> omega
theorem sw_low {c k i : Nat} (hk : c ≤ k) (hi : i < c) : sw c k i = i := sw_none (by omega) (by omega)
theorem sw_same (c i : Nat) : sw c c i = i := by unfold sw; split <;> (try split) <;> omega

/-- What is known of it. -/
structure LuIs (n : Nat) (m : Nat → Nat → F) (c : Nat) (t : Tri) : Prop where
  lt : ∀ i, i < n → t.s i < n
  sn : sp n (fun i => (t.s i : Int)) = 1 ∨ sp n (fun i => (t.s i : Int)) = -1
  lz : ∀ i k, i < n → k < n → i ≤ k ∨ c ≤ k → t.l i k = 0
  uz : ∀ i j, i < n → j < c → j < i → t.u i j = 0
  back : ∀ i j, i < n → j < n → m (t.s i) j = t.u i j + sg n fun k => t.l i k * t.u k j
  det : dt n m = sp n (fun i => (t.s i : Int)) * dt n t.u
theorem LuIs.start (n : Nat) (m : Nat → Nat → F) : LuIs n m 0 (tri0 m) := by
  have hs : sp n (fun i => ((tri0 m).s i : Int)) = 1 := sp_id fun i _ => rfl
  refine ⟨fun i hi => hi, .inl hs, fun _ _ _ _ _ => rfl, fun i j _ hj _ => absurd hj (by omega), fun i j _ _ => ?_, ?_⟩
  · show m i j = m i j + sg n fun k => (0 : F) * m k j
    rw [show (fun k => (0 : F) * m k j) = fun _ => 0 from funext fun k => by grind, sg_none]; grind
  · rw [hs]; show dt n m = 1 * dt n m; grind
theorem LuIs.skip {n c : Nat} {m : Nat → Nat → F} {t : Tri} (h : LuIs n m c t) (hf : First n t.u c c n) : LuIs n m (c + 1) t := by
  refine ⟨h.lt, h.sn, fun i k hi hk hh => h.lz i k hi hk (by omega), fun i j hi hj hlt => ?_, h.back, h.det⟩
  by_cases e : j = c
  · subst e; exact hf.2.2.1 i (by omega) hi
  · exact h.uz i j hi (by omega) hlt
theorem LuIs.swp {n c k : Nat} {m : Nat → Nat → F} {t : Tri} (h : LuIs n m c t) (hc : c < n) (hk : c ≤ k) (hkn : k < n) : LuIs n m c (t.swp c k) := by
  have hσ : ∀ i, i < n → sw c k i < n := fun i hi => sw_lt hc hkn hi
  by_cases e : c = k
  · subst e
    rw [show t.swp c c = t by unfold Tri.swp; simp only [sw_same]]
    exact h
  have hsp : sp n (fun i => ((t.swp c k).s i : Int)) = -(sp n fun i => (t.s i : Int)) := sp_swap (fun i => (t.s i : Int)) hc hkn e
  refine ⟨fun i hi => h.lt _ (hσ i hi), ?_, fun i j hi hj hh => ?_, fun i j hi hj hlt => h.uz _ j (hσ i hi) hj (sw_ge hk hj hlt), fun i j hi hj => ?_, ?_⟩
  · rw [hsp]
    rcases h.sn with e1 | e1 <;> rw [e1]
    · exact .inr rfl
    · exact .inl (by grind)
  · show t.l (sw c k i) j = 0
    by_cases hcj : c ≤ j
    · exact h.lz _ _ (hσ i hi) hj (.inr hcj)
    · rw [sw_low hk (by omega)]; exact h.lz i j hi hj hh
  · show m (t.s (sw c k i)) j = t.u (sw c k i) j + sg n fun q => t.l (sw c k i) q * t.u (sw c k q) j
    rw [h.back _ j (hσ i hi) hj]
    congr 1
    refine sg_congr fun q hq => ?_
    by_cases hcq : c ≤ q
    · rw [h.lz _ q (hσ i hi) hq (.inr hcq)]; grind
    · rw [sw_low hk (show q < c by omega)]
  · rw [hsp, h.det, show dt n (t.swp c k).u = -(dt n t.u) from dt_rswap t.u hc hkn e]; grind
theorem less_is (a f u : F) : a - f * u = a + -f * u := by grind
theorem clr_det {n c : Nat} (t : Tri) (hc : c < n) : ∀ d, d ≤ n → dt n (t.clr c d).u = dt n t.u
  | 0, _ => dt_congr n fun i j _ _ => by unfold Tri.clr; simp only; rw [if_neg (by omega)]
  | d + 1, hd => by
    rw [← clr_det t hc d (by omega)]
    by_cases h : c < d
    · rw [← dt_add (t.clr c d).u (a := d) (b := c) (by omega) hc (by omega) (-(t.u d c * Fp.inv (t.u c c)))]
      refine dt_congr n fun i j _ _ => ?_
      unfold setr Tri.clr
      simp only
      by_cases e : i = d
      · subst e
        rw [if_pos ⟨h, by omega⟩, if_pos rfl, if_neg (by omega), if_neg (by omega)]; exact less_is _ _ _
      · rw [if_neg e]
        by_cases e2 : c < i ∧ i < d
        · rw [if_pos ⟨e2.1, by omega⟩, if_pos e2]
        · rw [if_neg (by omega), if_neg e2]
    · refine dt_congr n fun i j _ _ => ?_
      unfold Tri.clr
      simp only
      rw [if_neg (by omega), if_neg (by omega)]
theorem clear_one (a f u x y : F) : a + x = a - f * u + (x + f * u) := by grind
theorem clear_none {a u : F} (h : u ≠ 0) : a - a * Fp.inv u * u = 0 := by
  have := Fp.inv_mul h
  rw [show a * Fp.inv u * u = a * (Fp.inv u * u) by grind, this]; grind
theorem LuIs.clr {n c : Nat} {m : Nat → Nat → F} {t : Tri} (h : LuIs n m c t) (hc : c < n) (h0 : t.u c c ≠ 0) : LuIs n m (c + 1) (t.clr c n) := by
  refine ⟨h.lt, h.sn, fun i k hi hk hh => ?_, fun i j hi hj hlt => ?_, fun i j hi hj => ?_, ?_⟩
  · unfold Tri.clr; simp only
    rw [if_neg (by omega)]; exact h.lz i k hi hk (by omega)
  · unfold Tri.clr; simp only
    by_cases e : j = c
    · subst e
      rw [if_pos ⟨hlt, hi⟩]; exact clear_none h0
    · by_cases e2 : c < i
      · rw [if_pos ⟨e2, hi⟩, h.uz i j hi (by omega) hlt, h.uz c j hc (by omega) (by omega)]; grind
      · rw [if_neg (by omega)]; exact h.uz i j hi (by omega) hlt
  · show m (t.s i) j = (t.clr c n).u i j + sg n fun k => (t.clr c n).l i k * (t.clr c n).u k j
    rw [h.back i j hi hj]
    obtain ⟨g, hg⟩ : ∃ g, g = if c < i then t.u i c * Fp.inv (t.u c c) else 0 := ⟨_, rfl⟩
    have e1 : (sg n fun k => (t.clr c n).l i k * (t.clr c n).u k j) = sg n fun k => t.l i k * t.u k j + (if k = c then g * t.u c j else 0) := by
      refine sg_congr fun k hk => ?_
      unfold Tri.clr; simp only
      by_cases e : k = c
      · subst e
        rw [h.lz i k hi hk (.inr (Nat.le_refl k)), if_neg (c := k < k ∧ k < n) (by omega), if_pos rfl, hg]
        by_cases e2 : k < i
        · rw [if_pos ⟨e2, hi, rfl⟩, if_pos e2]; grind
        · rw [if_neg (by omega), if_neg e2]; grind
      · rw [if_neg (c := c < i ∧ i < n ∧ k = c) (by omega), if_neg (c := k = c) e]
        by_cases e2 : c < k
        · rw [h.lz i k hi hk (.inr (by omega))]; grind
        · rw [if_neg (by omega)]; grind
    have e3 : (sg n fun k => if k = c then g * t.u c j else 0) = g * t.u c j := by
      rw [sg_one (k := c) hc (fun k _ hne => if_neg hne), if_pos rfl]
    rw [e1, sg_add, e3, hg]
    unfold Tri.clr; simp only
    by_cases e2 : c < i
    · rw [if_pos ⟨e2, hi⟩, if_pos e2]; generalize (sg n fun k => t.l i k * t.u k j) = x; grind
    · rw [if_neg (by omega), if_neg e2]; generalize (sg n fun k => t.l i k * t.u k j) = x; grind
  · rw [clr_det t hc n (Nat.le_refl n)]; exact h.det
theorem LuTo.is {n : Nat} {m : Nat → Nat → F} : ∀ {c : Nat} {t : Tri}, c ≤ n → LuTo n m c t → LuIs n m c t
  | 0, t, _, h => by rw [show t = tri0 m from h]; exact LuIs.start n m
  | c + 1, t, hc, ⟨t0, a, b⟩ => by
    have ih := LuTo.is (show c ≤ n by omega) a
    rcases b with ⟨b1, rfl⟩ | ⟨k, hk, b1, rfl⟩
    · exact ih.skip b1
    · refine (ih.swp (by omega) b1.1 hk).clr (by omega) ?_
      show t0.u (sw c k c) c ≠ 0
      rw [sw_left]; exact b1.2.2.2 hk

/-- The factors, with 1 on the diagonal. -/
def Tri.low (t : Tri) : Nat → Nat → F := fun i j => if j = i then 1 else t.l i j
theorem LuIs.product {n : Nat} {m : Nat → Nat → F} {t : Tri} (h : LuIs n m n t) : Eqm n n (mul n t.low t.u) fun i j => m (t.s i) j := fun i j hi hj => by
  show (sg n fun k => t.low i k * t.u k j) = m (t.s i) j
  rw [h.back i j hi hj]
  have e1 : (sg n fun k => t.low i k * t.u k j) = sg n fun k => (if k = i then t.u i j else 0) + t.l i k * t.u k j := sg_congr fun k hk => by
    unfold Tri.low
    by_cases e : k = i
    · subst e; rw [if_pos rfl, if_pos rfl, h.lz k k hk hk (.inl (Nat.le_refl k))]; grind
    · rw [if_neg e, if_neg e]; grind
  rw [e1, sg_add, sg_one (k := i) hi (fun k _ hne => if_neg hne), if_pos rfl]
theorem LuIs.low {n : Nat} {m : Nat → Nat → F} {t : Tri} (h : LuIs n m n t) {i j : Nat} (hi : i < n) (hj : j < n) (hlt : i < j) : t.low i j = 0 := by
  unfold Tri.low
  rw [if_neg (by omega)]; exact h.lz i j hi hj (.inl (by omega))
theorem Tri.low_one (t : Tri) (i : Nat) : t.low i i = 1 := if_pos rfl
theorem LuIs.middle {n : Nat} {m : Nat → Nat → F} {t : Tri} (h : LuIs n m n t) : sp n (fun i => (t.s i : Int)) * pr n (fun i => t.u i i) = dt n m := by
  rw [h.det, dt_up n t.u fun i j hi hj hlt => h.uz i j hi hj hlt]

end Mx
end Go.Proofs.YtpffekaldpllkaaDoor

/- A row of heads of the call's own, whatever they point to: append of one, and the matrix that lies. For all packages. -/
namespace Go.Proofs.YtpffekaldpllkaaDoor
open Go.ChangeShapes Go.WideShapes Go.ChangeAt Go.RowKit
set_option linter.unusedVariables false

/-- The slice value v is the call's own and holds k heads. -/
def HdsV (w : World) (B : Nat) (v : Value) (k : Nat) (H : Nat → Value) : Prop := w.ownsRow B 22 1 v k ((List.range k).map H)
theorem hdsV_none (w : World) (B : Nat) (H : Nat → Value) : HdsV w B (.slice none 0 0) 0 H := World.ownsRow_nil _ _ _ _
theorem HdsV.kp {w w' : World} {B k : Nat} {v : Value} {H : Nat → Value} (h : HdsV w B v k H) (hk : Kp w w') : HdsV w' B v k H := ownsRow_kp h hk
theorem HdsV.new {w : World} {B k : Nat} {v : Value} {H : Nat → Value} (h : HdsV w B v k H) (o : Obj) : HdsV (w.alloc o) B v k H := h.kp ((Kp.rfl' w).new o)
/-- Where they lie, and what lies beneath. -/
theorem HdsV.form {w : World} {B k : Nat} {v : Value} {H : Nat → Value} (h : HdsV w B v k H) : ∃ A c, v = .slice A k c ∧ k ≤ c ∧ ∀ i, i < k → ∃ ad, A = some ad ∧ ad.block < w.heap.size ∧ w.cell? (ad.add i) = some (H i) := by
  rcases h.2 with ⟨rfl, h0⟩ | ⟨g, cap, cur, hv, hg, hh, hc, hm, hs, ht⟩
  · obtain rfl : k = 0 := h0
    exact ⟨Option.none, 0, rfl, Nat.le_refl _, fun i hi => absurd hi (by omega)⟩
  · refine ⟨_, cap, hv, hc, fun i hi => ⟨_, rfl, ?_, ?_⟩⟩
    · rcases Nat.lt_or_ge g w.heap.size with h' | h'
      · exact h'
      · rw [Array.getElem?_eq_none h'] at hh; cases hh
    · have ht' : cur.toList.take k = (List.range k).map H := by simpa using ht
      rw [add_at, cell_of_row _ _ i _ _ (0, 0) hh, ← Array.getElem?_toList, ← List.getElem?_take_of_lt hi, ht']
      simp [hi]
theorem HdsV.lies {w : World} {B k : Nat} {v : Value} {H : Nat → Value} {m : List (List Int)} (h : HdsV w B v k H) (hm : m.length = k) (hr : ∀ i, i < k → ∃ A' c, H i = .slice A' (m.getD i []).length c ∧ (m.getD i []).length ≤ c ∧ Lies w A' (m.getD i [])) : ∃ A c, v = .slice A k c ∧ k ≤ c ∧ LiesM w A m := by
  obtain ⟨A, c, hv, hc, hx⟩ := h.form
  refine ⟨A, c, hv, hc, fun i hi => ?_⟩
  obtain ⟨ad, e, hl, hcell⟩ := hx i (by omega)
  obtain ⟨A', c', e2, h2, h3⟩ := hr i (by omega)
  exact ⟨ad, A', c', e, hl, by rw [hcell, e2], h2, h3⟩

section
variable {ops : Array Oper} {rest : List Oper} {o : Oper} {a : Act} {w : World} {K : Act → World → Prop} {Q : Exit → Act → World → Prop}
/-- out = append(out, head). -/
theorem wpList_pushV (hgd : o.guard = Option.none) (s x : Operand) (ho : o.op = .call { callee := .builtin .append, args := #[s, x], argTypes := #[41, 41] })
    (B : Nat) (v : Value) (k : Nat) (H : Nat → Value) (u : Value) (gb cb : Nat) (hs : a.eval s = v) (hx : a.eval x = .slice (some ⟨gb, 0, none⟩) 1 cb) (hown : HdsV w B v k H)
    (hcell : w.cell? ⟨gb, 0, none⟩ = some u) (hu : u.oneCell' = true) (hlen : k + 1 ≤ 1000000) (hB : B ≤ w.heap.size)
    (h : ∀ v' w', HdsV w' B v' (k + 1) (fun i => if i = k then u else H i) → (∀ w0 : World, w0.heap.size ≤ B → Kp w0 w → Kp w0 w') → wpList Tryd.prog ops Q rest (a.put o.dst v') w') : wpList Tryd.prog ops Q (o :: rest) a w := by
  obtain ⟨i0, hi, hz0, hz1, hz2⟩ := info_parts ints_info
  obtain ⟨v', w', hrun, h1, h2, _, h3⟩ := run_append_own_at (P := Tryd.prog) w B 41 o.type 22 i0 (.slice Option.none 0 0) 1 24 Tryd.underlying41 hi hz0 hz1 hz2 rfl (by decide) v k ((List.range k).map H) hown ⟨gb, 0, Option.none⟩ 1 cb [u] rfl
    (fun j u' hj => by
      match j, hj with
      | 0, hj => simp at hj; subst hj; rw [add_at]; exact hcell) (fun u' hu' => by simp at hu'; subst hu'; exact hu) (by unfold maxLen; omega) (by omega) hB
  refine wpList_plain hgd fun _ hK => ?_
  unfold Oper.wp execOp
  simp only [ho, resolve, invoke, builtin, Sem.run_bind, Sem.run_pure, Result.andThen_ok, List.map_toArray, List.map_cons, List.map_nil, hs, hx, hrun]
  refine hK _ _ (h v' w' ?_ fun w0 hw0 hk0 => Below.grown hk0 h2 hk0.size fun k hk => Nat.le_trans hw0 (World.ownsRow.lt hown k hk).1)
  have e1 : (List.range k).map (fun i => if i = k then u else H i) = (List.range k).map H := List.map_congr_left fun i hi => by
    have := List.mem_range.1 hi
    rw [if_neg (by omega)]
  have e2 : (List.range (k + 1)).map (fun i => if i = k then u else H i) = (List.range k).map H ++ [u] := by
    rw [List.range_succ, List.map_append, e1, List.map_singleton, if_pos rfl]
  unfold HdsV
  rw [e2]
  exact h1
end

end Go.Proofs.YtpffekaldpllkaaDoor
