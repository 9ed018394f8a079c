/- The laws FieldSays and FieldLaws of package field, walked at all inputs. -/
import Derived.Test.YtgmnjlinilbllaaDoorFldSays
import Derived.Test.YtgmnjlinilbllaaDoorFldRef
namespace Go.Proofs.YtgmnjlinilbllaaDoor
open Go.ChangeShapes Go.WideShapes Go.ChangeAt Go.RowKit
set_option linter.unusedVariables false

theorem laws_out (a b c : Int) (w : World) (h : ¬ ((0 ≤ a ∧ a ≤ 9972) ∧ (0 ≤ b ∧ b ≤ 9972) ∧ (0 ≤ c ∧ c ≤ 9972))) :
    Calls Tryd.prog 4 #[.int .i64 a, .int .i64 b, .int .i64 c] w fun e w' => e = .returned (.bool true) ∧ Drew w w' := by
  by_cases ha : 0 ≤ a ∧ a ≤ 9972
  · have IA := Lib.hid (show (decide (0 ≤ a) && decide (a ≤ 9972)) = true by simp; omega)
    by_cases hb : 0 ≤ b ∧ b ≤ 9972
    · have IB := Lib.hid (show (decide (0 ≤ b) && decide (b ≤ 9972)) = true by simp; omega)
      have IC := Lib.hid (show (decide (0 ≤ c) && decide (c ≤ 9972)) = false by simp; omega)
      have M2 := Lib.hid (fun w => mulLaw_out b c w (fun k => h ⟨ha, hb, k.2⟩))
      obtain ⟨x, rfl⟩ := to_el ha
      obtain ⟨y, rfl⟩ := to_el hb
      have M1 := Lib.hid (mulLaw_el x y)
      have hm := Fp.val_bound (x * y)
      unfold el at *
      generalize ((x * y).val : Int) = m at *
      generalize (x.val : Int) = a at *
      generalize (y.val : Int) = b at *
      have hq : (m == -1) = false := by rw [beq_eq_false_iff_ne]; omega
      clear h
      go_enter Tryd.func4, Tryd.ntmps4
      go_wp2_with fail
      refine (fact_any _).mono ?_; rintro e w' ⟨rfl, hd⟩
      go_wp2_with fail
      refine (in_any _ _ _ _ _ IA.out).mono ?_; rintro e w' ⟨rfl, rfl⟩
      go_wp2_with fail
      refine (in_any _ _ _ _ _ IB.out).mono ?_; rintro e w' ⟨rfl, rfl⟩
      go_wp2_with fail
      refine (in_any _ _ _ _ _ IC.out).mono ?_; rintro e w' ⟨rfl, rfl⟩
      go_wp2_with fail
      refine (M1.out _).mono ?_; rintro e w' ⟨rfl, rfl⟩
      go_wp2_with fail
      refine (M2.out _).mono ?_; rintro e w' ⟨rfl, rfl⟩
      go_wp2_with fail
      go_ret
      exact ⟨rfl, hd⟩
    · have IB := Lib.hid (show (decide (0 ≤ b) && decide (b ≤ 9972)) = false by simp; omega)
      have M1 := Lib.hid (fun w => mulLaw_out a b w (fun k => hb k.2))
      clear h hb
      go_enter Tryd.func4, Tryd.ntmps4
      go_wp2_with fail
      refine (fact_any _).mono ?_; rintro e w' ⟨rfl, hd⟩
      go_wp2_with fail
      refine (in_any _ _ _ _ _ IA.out).mono ?_; rintro e w' ⟨rfl, rfl⟩
      go_wp2_with fail
      refine (in_any _ _ _ _ _ IB.out).mono ?_; rintro e w' ⟨rfl, rfl⟩
      go_wp2_with fail
      refine (M1.out _).mono ?_; rintro e w' ⟨rfl, rfl⟩
      go_wp2_with fail
      go_ret
      exact ⟨rfl, hd⟩
  · have IA := Lib.hid (show (decide (0 ≤ a) && decide (a ≤ 9972)) = false by simp; omega)
    have M1 := Lib.hid (fun w => mulLaw_out a b w (fun k => ha k.1))
    clear h ha
    go_enter Tryd.func4, Tryd.ntmps4
    go_wp2_with fail
    refine (fact_any _).mono ?_; rintro e w' ⟨rfl, hd⟩
    go_wp2_with fail
    refine (in_any _ _ _ _ _ IA.out).mono ?_; rintro e w' ⟨rfl, rfl⟩
    go_wp2_with fail
    refine (M1.out _).mono ?_; rintro e w' ⟨rfl, rfl⟩
    go_wp2_with fail
    go_ret
    exact ⟨rfl, hd⟩

set_option maxRecDepth 100000 in
set_option maxHeartbeats 3200000 in
theorem laws_walk (a b c s m k u t l d : Int) (w : World) (ra : 0 ≤ a ∧ a ≤ 9972) (rb : 0 ≤ b ∧ b ≤ 9972) (rc : 0 ≤ c ∧ c ≤ 9972) (hb : b ≠ 0)
    (hA1 : ∀ w, Calls Tryd.prog 7 #[.int .i64 b, .int .i64 c] w fun e w' => e = .returned (.tuple #[.int .i64 s, .nilIface]) ∧ w = w')
    (hA2 : ∀ w, Calls Tryd.prog 7 #[.int .i64 c, .int .i64 b] w fun e w' => e = .returned (.tuple #[.int .i64 s, .nilIface]) ∧ w = w')
    (hM1 : ∀ w, Calls Tryd.prog 15 #[.int .i64 a, .int .i64 b] w fun e w' => e = .returned (.int .i64 m) ∧ w = w')
    (hM2 : ∀ w, Calls Tryd.prog 15 #[.int .i64 a, .int .i64 c] w fun e w' => e = .returned (.int .i64 k) ∧ w = w')
    (hA3 : ∀ w, Calls Tryd.prog 7 #[.int .i64 m, .int .i64 k] w fun e w' => e = .returned (.tuple #[.int .i64 u, .nilIface]) ∧ w = w')
    (hM3 : ∀ w, Calls Tryd.prog 15 #[.int .i64 a, .int .i64 s] w fun e w' => e = .returned (.int .i64 u) ∧ w = w')
    (hM4 : ∀ w, Calls Tryd.prog 15 #[.int .i64 m, .int .i64 c] w fun e w' => e = .returned (.int .i64 t) ∧ w = w')
    (hM5 : ∀ w, Calls Tryd.prog 15 #[.int .i64 b, .int .i64 c] w fun e w' => e = .returned (.int .i64 l) ∧ w = w')
    (hM6 : ∀ w, Calls Tryd.prog 15 #[.int .i64 a, .int .i64 l] w fun e w' => e = .returned (.int .i64 t) ∧ w = w')
    (hM7 : ∀ w, Calls Tryd.prog 15 #[.int .i64 b, .int .i64 a] w fun e w' => e = .returned (.int .i64 m) ∧ w = w')
    (hD : ∀ w, Calls Tryd.prog 11 #[.int .i64 a, .int .i64 b] w fun e w' => e = .returned (.tuple #[.int .i64 d, .nilIface]) ∧ Drew w w')
    (hM8 : ∀ w, Calls Tryd.prog 15 #[.int .i64 d, .int .i64 b] w fun e w' => e = .returned (.int .i64 a) ∧ w = w') :
    Calls Tryd.prog 4 #[.int .i64 a, .int .i64 b, .int .i64 c] w fun e w' => e = .returned (.bool true) ∧ Grown w w' := by
  have A1 := Lib.hid hA1
  have A2 := Lib.hid hA2
  have M1 := Lib.hid hM1
  have M2 := Lib.hid hM2
  have A3 := Lib.hid hA3
  have M3 := Lib.hid hM3
  have M4 := Lib.hid hM4
  have M5 := Lib.hid hM5
  have M6 := Lib.hid hM6
  have M7 := Lib.hid hM7
  have D := Lib.hid hD
  have M8 := Lib.hid hM8
  clear hA1 hA2 hM1 hM2 hA3 hM3 hM4 hM5 hM6 hM7 hD hM8
  have IA := Lib.hid (show (decide (0 ≤ a) && decide (a ≤ 9972)) = true by simp; omega)
  have IB := Lib.hid (show (decide (0 ≤ b) && decide (b ≤ 9972)) = true by simp; omega)
  have IC := Lib.hid (show (decide (0 ≤ c) && decide (c ≤ 9972)) = true by simp; omega)
  have hq : (b == 0) = false := by rw [beq_eq_false_iff_ne]; exact hb
  go_enter Tryd.func4, Tryd.ntmps4
  go_wp2_with fail
  refine (fact_any _).mono ?_; rintro e w' ⟨rfl, hd⟩
  go_wp2_with fail
  refine (in_any _ _ _ _ _ IA.out).mono ?_; rintro e w' ⟨rfl, rfl⟩
  go_wp2_with fail
  refine (in_any _ _ _ _ _ IB.out).mono ?_; rintro e w' ⟨rfl, rfl⟩
  go_wp2_with fail
  refine (in_any _ _ _ _ _ IC.out).mono ?_; rintro e w' ⟨rfl, rfl⟩
  go_wp2_with fail
  refine (A1.out _).mono ?_; rintro e w' ⟨rfl, rfl⟩
  go_wp2_with fail
  refine (A2.out _).mono ?_; rintro e w' ⟨rfl, rfl⟩
  go_wp2_with fail
  refine (M1.out _).mono ?_; rintro e w' ⟨rfl, rfl⟩
  go_wp2_with fail
  refine (M2.out _).mono ?_; rintro e w' ⟨rfl, rfl⟩
  go_wp2_with fail
  refine (A3.out _).mono ?_; rintro e w' ⟨rfl, rfl⟩
  go_wp2_with fail
  refine (M3.out _).mono ?_; rintro e w' ⟨rfl, rfl⟩
  go_wp2_with fail
  refine (M1.out _).mono ?_; rintro e w' ⟨rfl, rfl⟩
  go_wp2_with fail
  refine (M4.out _).mono ?_; rintro e w' ⟨rfl, rfl⟩
  go_wp2_with fail
  refine (M5.out _).mono ?_; rintro e w' ⟨rfl, rfl⟩
  go_wp2_with fail
  refine (M6.out _).mono ?_; rintro e w' ⟨rfl, rfl⟩
  go_wp2_with fail
  refine (M1.out _).mono ?_; rintro e w' ⟨rfl, rfl⟩
  go_wp2_with fail
  refine (M7.out _).mono ?_; rintro e w' ⟨rfl, rfl⟩
  go_wp2_with fail
  refine (D.out _).mono ?_; rintro e w' ⟨rfl, hd2⟩
  go_wp2_with fail
  refine (M8.out _).mono ?_; rintro e w' ⟨rfl, rfl⟩
  go_wp2_with fail
  go_ret
  exact ⟨rfl, (hd.trans hd2).grown⟩

set_option maxRecDepth 100000 in
set_option maxHeartbeats 3200000 in
theorem laws_walk_zero (a c s m k u t l : Int) (w : World) (hl : Told.Laid w) (ra : 0 ≤ a ∧ a ≤ 9972) (rc : 0 ≤ c ∧ c ≤ 9972)
    (hA1 : ∀ w, Calls Tryd.prog 7 #[.int .i64 0, .int .i64 c] w fun e w' => e = .returned (.tuple #[.int .i64 s, .nilIface]) ∧ w = w')
    (hA2 : ∀ w, Calls Tryd.prog 7 #[.int .i64 c, .int .i64 0] w fun e w' => e = .returned (.tuple #[.int .i64 s, .nilIface]) ∧ w = w')
    (hM1 : ∀ w, Calls Tryd.prog 15 #[.int .i64 a, .int .i64 0] w fun e w' => e = .returned (.int .i64 m) ∧ w = w')
    (hM2 : ∀ w, Calls Tryd.prog 15 #[.int .i64 a, .int .i64 c] w fun e w' => e = .returned (.int .i64 k) ∧ w = w')
    (hA3 : ∀ w, Calls Tryd.prog 7 #[.int .i64 m, .int .i64 k] w fun e w' => e = .returned (.tuple #[.int .i64 u, .nilIface]) ∧ w = w')
    (hM3 : ∀ w, Calls Tryd.prog 15 #[.int .i64 a, .int .i64 s] w fun e w' => e = .returned (.int .i64 u) ∧ w = w')
    (hM4 : ∀ w, Calls Tryd.prog 15 #[.int .i64 m, .int .i64 c] w fun e w' => e = .returned (.int .i64 t) ∧ w = w')
    (hM5 : ∀ w, Calls Tryd.prog 15 #[.int .i64 0, .int .i64 c] w fun e w' => e = .returned (.int .i64 l) ∧ w = w')
    (hM6 : ∀ w, Calls Tryd.prog 15 #[.int .i64 a, .int .i64 l] w fun e w' => e = .returned (.int .i64 t) ∧ w = w')
    (hM7 : ∀ w, Calls Tryd.prog 15 #[.int .i64 0, .int .i64 a] w fun e w' => e = .returned (.int .i64 m) ∧ w = w')
    (hD : ∀ w, Calls Tryd.prog 11 #[.int .i64 a, .int .i64 0] w fun e w' => e = .returned (.tuple #[.int .i64 0, errNone]) ∧ w = w') :
    Calls Tryd.prog 4 #[.int .i64 a, .int .i64 0, .int .i64 c] w fun e w' => e = .returned (.bool true) ∧ Grown w w' := by
  have HL := Lib.hid hl
  have A1 := Lib.hid hA1
  have A2 := Lib.hid hA2
  have M1 := Lib.hid hM1
  have M2 := Lib.hid hM2
  have A3 := Lib.hid hA3
  have M3 := Lib.hid hM3
  have M4 := Lib.hid hM4
  have M5 := Lib.hid hM5
  have M6 := Lib.hid hM6
  have M7 := Lib.hid hM7
  have D := Lib.hid hD
  clear hl hD hA1 hA2 hM1 hM2 hA3 hM3 hM4 hM5 hM6 hM7
  have IA := Lib.hid (show (decide (0 ≤ a) && decide (a ≤ 9972)) = true by simp; omega)
  have IB := Lib.hid (show (decide ((0 : Int) ≤ 0) && decide ((0 : Int) ≤ 9972)) = true by decide)
  have IC := Lib.hid (show (decide (0 ≤ c) && decide (c ≤ 9972)) = true by simp; omega)
  go_enter Tryd.func4, Tryd.ntmps4
  go_wp2_with fail
  refine (fact_any _).mono ?_; rintro e w' ⟨rfl, hd⟩
  go_wp2_with fail
  refine (in_any _ _ _ _ _ IA.out).mono ?_; rintro e w' ⟨rfl, rfl⟩
  go_wp2_with fail
  refine (in_any _ _ _ _ _ IB.out).mono ?_; rintro e w' ⟨rfl, rfl⟩
  go_wp2_with fail
  refine (in_any _ _ _ _ _ IC.out).mono ?_; rintro e w' ⟨rfl, rfl⟩
  go_wp2_with fail
  refine (A1.out _).mono ?_; rintro e w' ⟨rfl, rfl⟩
  go_wp2_with fail
  refine (A2.out _).mono ?_; rintro e w' ⟨rfl, rfl⟩
  go_wp2_with fail
  refine (M1.out _).mono ?_; rintro e w' ⟨rfl, rfl⟩
  go_wp2_with fail
  refine (M2.out _).mono ?_; rintro e w' ⟨rfl, rfl⟩
  go_wp2_with fail
  refine (A3.out _).mono ?_; rintro e w' ⟨rfl, rfl⟩
  go_wp2_with fail
  refine (M3.out _).mono ?_; rintro e w' ⟨rfl, rfl⟩
  go_wp2_with fail
  refine (M1.out _).mono ?_; rintro e w' ⟨rfl, rfl⟩
  go_wp2_with fail
  refine (M4.out _).mono ?_; rintro e w' ⟨rfl, rfl⟩
  go_wp2_with fail
  refine (M5.out _).mono ?_; rintro e w' ⟨rfl, rfl⟩
  go_wp2_with fail
  refine (M6.out _).mono ?_; rintro e w' ⟨rfl, rfl⟩
  go_wp2_with fail
  refine (M1.out _).mono ?_; rintro e w' ⟨rfl, rfl⟩
  go_wp2_with fail
  refine (M7.out _).mono ?_; rintro e w' ⟨rfl, rfl⟩
  go_wp2_with fail
  refine (D.out _).mono ?_; rintro e w' ⟨rfl, rfl⟩
  go_wp2_with fail
  refine (error_hit 5 5 _ (laid_grown HL.out hd.grown) (by omega) true rfl).mono ?_; rintro e w' ⟨rfl, g⟩
  go_wp2_with fail
  go_ret
  exact ⟨rfl, grown_trans hd.grown g⟩

theorem laws_in (x y z : Fp.F) (w : World) (hl : Told.Laid w) :
    Calls Tryd.prog 4 #[el x, el y, el z] w fun e w' => e = .returned (.bool true) ∧ Grown w w' := by
  have A2 := add_el z y
  have A3 := add_el (x * y) (x * z)
  have M4 := mulLaw_el (x * y) z
  have M7 := mulLaw_el y x
  rw [show z + y = y + z by grind] at A2
  rw [← Fp.mul_add] at A3
  rw [Fin.mul_assoc x y z] at M4
  rw [Fin.mul_comm y x] at M7
  by_cases hy : y = 0
  · subst hy
    exact laws_walk_zero _ _ _ _ _ _ _ _ w hl (Fp.val_bound x) (Fp.val_bound z) (add_el 0 z) A2 (mulLaw_el x 0) (mulLaw_el x z) A3 (mulLaw_el x (0 + z)) M4 (mulLaw_el 0 z) (mulLaw_el x (0 * z)) M7 (div_zero x)
  · have M8 := mulLaw_el (x * Fp.inv y) y
    rw [Fin.mul_assoc, Fp.inv_mul hy, Fin.mul_one] at M8
    exact laws_walk _ _ _ _ _ _ _ _ _ _ w (Fp.val_bound x) (Fp.val_bound y) (Fp.val_bound z) (fun c => Fp.ne_val hy (by omega)) (add_el y z) A2 (mulLaw_el x y) (mulLaw_el x z) A3 (mulLaw_el x (y + z)) M4 (mulLaw_el y z) (mulLaw_el x (y * z)) M7 (fun w => div_el x y w hy) M8

theorem walk_FieldLaws (a0 a1 a2 : Int) (w : World) (hl : Told.Laid w) :
    Calls Tryd.prog 4 #[.int .i64 a0, .int .i64 a1, .int .i64 a2] w fun e w' => e = .returned (.bool true) ∧ Grown w w' := by
  by_cases h : (0 ≤ a0 ∧ a0 ≤ 9972) ∧ (0 ≤ a1 ∧ a1 ≤ 9972) ∧ (0 ≤ a2 ∧ a2 ≤ 9972)
  · obtain ⟨x, rfl⟩ := to_el h.1
    obtain ⟨y, rfl⟩ := to_el h.2.1
    obtain ⟨z, rfl⟩ := to_el h.2.2
    exact laws_in x y z w hl
  · exact (laws_out a0 a1 a2 w h).mono fun _ _ ⟨he, hd⟩ => ⟨he, hd.grown⟩

theorem both_in {a b : Int} (ha : 0 ≤ a ∧ a ≤ 9972) (hb : 0 ≤ b ∧ b ≤ 9972) : (decide (0 ≤ a) && decide (a ≤ 9972)) = true ∧ (decide (0 ≤ b) && decide (b ≤ 9972)) = true := by simp; omega

theorem refPow_el (a : Fp.F) (n : Int) (w : World) (h0 : 0 ≤ n) (h1 : n ≤ 1000000) :
    Calls Tryd.prog 12 #[el a, .int .i64 n] w fun e w' => e = .returned (el (Fp.pw a n.toNat)) ∧ w = w' := by
  obtain ⟨m, rfl⟩ := Int.eq_ofNat_of_zero_le h0
  exact refPow_any m a m w (Nat.le_refl _) (by omega)

theorem refSum (x y : Fp.F) (w : World) :
    Calls Tryd.prog 6 #[.int .i64 ((x.val : Int) + (y.val : Int))] w fun e w' => e = .returned (el (x + y)) ∧ w = w' := by
  have h1 := Fp.val_bound x
  have h2 := Fp.val_bound y
  have h := refMod_el ((x.val : Int) + (y.val : Int)) w (by omega) (by omega)
  rw [Fp.ofInt_add, Fp.ofInt_self, Fp.ofInt_self] at h
  exact h

theorem refProd (x y : Fp.F) (w : World) :
    Calls Tryd.prog 6 #[.int .i64 ((x.val : Int) * (y.val : Int))] w fun e w' => e = .returned (el (x * y)) ∧ w = w' := by
  have h1 := prod_bound x y
  have h := refMod_el ((x.val : Int) * (y.val : Int)) w (by omega) (by omega)
  rw [Fp.ofInt_mul, Fp.ofInt_self, Fp.ofInt_self] at h
  exact h

theorem walk_FieldSays (a0 a1 a2 : Int) (w : World) (hl : Told.Laid w) :
    Calls Tryd.prog 3 #[.int .i64 a0, .int .i64 a1, .int .i64 a2] w fun e w' => e = .returned (.bool true) ∧ Grown w w' := by
  by_cases ha : 0 ≤ a0 ∧ a0 ≤ 9972
  · have IA : (decide (0 ≤ a0) && decide (a0 ≤ 9972)) = true := by simp; omega
    by_cases hb : 0 ≤ a1 ∧ a1 ≤ 9972
    · have IB : (decide (0 ≤ a1) && decide (a1 ≤ 9972)) = true := by simp; omega
      obtain ⟨x, rfl⟩ := to_el ha
      obtain ⟨y, rfl⟩ := to_el hb
      by_cases hy : y = 0
      · subst hy
        have S0 := refSum x 0
        have P0 := refProd x 0
        have e0 : ((0 : Fp.F).val : Int) = 0 := rfl
        rw [e0, Int.add_zero] at S0
        rw [e0, Int.mul_zero] at P0
        by_cases hn : 0 ≤ a2 ∧ a2 ≤ 1000000
        · exact says_abzn _ _ _ _ _ w hl (Fp.val_bound x) (by omega) (by omega) IA IB (by simp; omega) S0 P0 (add_el x 0) (mul_el x 0) (div_zero x) (fun w => refPow_el x a2 w hn.1 hn.2) (fun w => pow_el x a2 w hn.1 hn.2)
        · exact says_abz _ _ _ _ w hl (Fp.val_bound x) (by omega) (by omega) IA IB (by simp; omega) S0 P0 (add_el x 0) (mul_el x 0) (div_zero x) (fun w => pow_out _ a2 w (fun c => hn c.2))
      · have y0 : (y.val : Int) ≠ 0 := fun c => Fp.ne_val hy (by omega)
        by_cases hn : 0 ≤ a2 ∧ a2 ≤ 1000000
        · exact says_abn _ _ _ _ _ _ _ w hl (Fp.val_bound x) (Fp.val_bound y) (prod_bound x y) y0 IA IB (by simp; omega) (refSum x y) (refProd x y) (add_el x y) (mul_el x y) (fun w => refDiv_el x y w hy) (fun w => div_el x y w hy) (fun w => refPow_el x a2 w hn.1 hn.2) (fun w => pow_el x a2 w hn.1 hn.2)
        · exact says_ab _ _ _ _ _ _ w hl (Fp.val_bound x) (Fp.val_bound y) (prod_bound x y) y0 IA IB (by simp; omega) (refSum x y) (refProd x y) (add_el x y) (mul_el x y) (fun w => refDiv_el x y w hy) (fun w => div_el x y w hy) (fun w => pow_out _ a2 w (fun c => hn c.2))
    · have IB : (decide (0 ≤ a1) && decide (a1 ≤ 9972)) = false := by simp; omega
      have no : ¬ Both a0 a1 := fun c => hb c.2
      by_cases hn : 0 ≤ a2 ∧ a2 ≤ 1000000
      · obtain ⟨x, rfl⟩ := to_el ha
        exact says_ayn _ _ _ _ w hl IA IB (by simp; omega) (fun w => add_out _ _ w no) (fun w => mul_out _ _ w no) (fun w => div_out _ _ w no) (fun w => refPow_el x a2 w hn.1 hn.2) (fun w => pow_el x a2 w hn.1 hn.2)
      · exact says_ay _ _ _ w hl IA IB (by simp; omega) (fun w => add_out _ _ w no) (fun w => mul_out _ _ w no) (fun w => div_out _ _ w no) (fun w => pow_out _ a2 w (fun c => hn c.2))
  · have IA : (decide (0 ≤ a0) && decide (a0 ≤ 9972)) = false := by simp; omega
    have no : ¬ Both a0 a1 := fun c => ha c.1
    exact says_xy _ _ _ w hl IA (fun w => add_out _ _ w no) (fun w => mul_out _ _ w no) (fun w => div_out _ _ w no) (fun w => pow_out _ a2 w (fun c => ha c.1))

end Go.Proofs.YtgmnjlinilbllaaDoor
