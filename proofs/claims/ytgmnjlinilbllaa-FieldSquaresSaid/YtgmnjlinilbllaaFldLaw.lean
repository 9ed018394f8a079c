/- The walks of the laws of package field that ask no error's number: FieldFermat, FieldSquares, FieldLaws' helpers. -/
import Derived.Test.YtgmnjlinilbllaaFld
namespace Go.Proofs.Ytgmnjlinilbllaa
open Go.ChangeShapes Go.WideShapes Go.ChangeAt Go.RowKit
set_option linter.unusedVariables false

theorem in_any (n l h : Int) (w : World) (b : Bool) (hb : (decide (l ≤ n) && decide (n ≤ h)) = b) :
    Calls Try.prog 7 #[.int .i64 n, .int .i64 l, .int .i64 h] w fun e w' => e = .returned (.bool b) ∧ w = w' := by
  have H := Lib.hid hb
  clear hb
  by_cases h1 : l ≤ n
  · go_enter Try.func7, Try.ntmps7
    go_wp2
    go_ret
    exact ⟨ret_bool (by have := H.out; rw [decide_eq_true h1] at this; simpa using this), rfl⟩
  · go_enter Try.func7, Try.ntmps7
    go_wp2
    go_ret
    exact ⟨ret_bool (by have := H.out; rw [decide_eq_false (show ¬ l ≤ n by omega)] at this; simpa using this), rfl⟩

theorem in_el (a : Fp.F) (w : World) :
    Calls Try.prog 7 #[el a, .int .i64 0, .int .i64 9972] w fun e w' => e = .returned (.bool true) ∧ w = w' :=
  in_any _ _ _ w true (by have := Fp.val_bound a; simp; omega)

theorem mulLaw_el (a b : Fp.F) (w : World) :
    Calls Try.prog 8 #[el a, el b] w fun e w' => e = .returned (el (a * b)) ∧ w = w' := by
  have H := Lib.hid (mul_el a b)
  unfold el at *
  generalize (a.val : Int) = x at *
  generalize (b.val : Int) = y at *
  go_enter Try.func8, Try.ntmps8
  go_wp2_with fail
  refine (H.out _).mono ?_; rintro e w' ⟨rfl, rfl⟩
  go_wp2_with fail
  go_ret
  exact ⟨rfl, rfl⟩

theorem mulLaw_out (a b : Int) (w : World) (h : ¬ Both a b) :
    Calls Try.prog 8 #[.int .i64 a, .int .i64 b] w fun e w' => e = .returned (.int .i64 (-1)) ∧ w = w' := by
  have H := Lib.hid (mul_out a b w h)
  clear h
  go_enter Try.func8, Try.ntmps8
  go_wp2_with fail
  refine H.out.mono ?_; rintro e w' ⟨rfl, rfl⟩
  go_wp2_with fail
  go_ret
  exact ⟨rfl, rfl⟩

theorem mul_9972 (w : World) :
    Calls Try.prog 9 #[.int .i64 9972, .int .i64 9972] w fun e w' => e = .returned (.tuple #[.int .i64 1, .nilIface]) ∧ w = w' := by
  have h := mul_el 9972 9972 w
  have e : (9972 : Fp.F) * 9972 = 1 := by decide
  rw [e] at h
  exact h

theorem div_1_2 (w : World) :
    Calls Try.prog 10 #[.int .i64 1, .int .i64 2] w fun e w' => e = .returned (.tuple #[.int .i64 4987, .nilIface]) ∧ Drew w w' := by
  have h := div_el 1 2 w (by decide)
  have e2 : (4987 : Fp.F) = Fp.inv 2 := inv_unique (by decide) (by decide)
  have e : (1 : Fp.F) * Fp.inv 2 = 4987 := by rw [← e2]; decide
  rw [e] at h
  exact h

theorem fact_any (w : World) :
    Calls Try.prog 5 #[] w fun e w' => e = .returned (.bool true) ∧ Drew w w' := by
  go_enter Try.func5, Try.ntmps5
  go_wp2_with fail
  refine (mul_9972 _).mono ?_; rintro e w1 ⟨rfl, rfl⟩
  go_wp2_with fail
  refine (div_1_2 _).mono ?_; rintro e w1 ⟨rfl, hd⟩
  go_wp2_with fail
  go_ret
  exact ⟨rfl, hd⟩

/-- Of a number within its bounds its element. -/
theorem to_el {a : Int} (h : 0 ≤ a ∧ a ≤ 9972) : ∃ x : Fp.F, a = (x.val : Int) := ⟨Fp.ofInt a, (Fp.ofInt_of a h.1 h.2).symm⟩

theorem pow_el (a : Fp.F) (n : Int) (w : World) (h0 : 0 ≤ n) (h1 : n ≤ 1000000) :
    Calls Try.prog 6 #[el a, .int .i64 n] w fun e w' => e = .returned (.tuple #[el (Fp.pw a n.toNat), .nilIface]) ∧ Drew w w' := by
  obtain ⟨m, rfl⟩ := Int.eq_ofNat_of_zero_le h0
  exact pow_in a m w (by omega)

theorem fermat_out (a n m : Int) (w : World) (h : ¬ (0 ≤ a ∧ a ≤ 9972)) :
    Calls Try.prog 3 #[.int .i64 a, .int .i64 n, .int .i64 m] w fun e w' => e = .returned (.bool true) ∧ Drew w w' := by
  have HP := Lib.hid (fun w => pow_out a 9972 w (fun c => h c.1))
  have HA := Lib.hid (show (decide (0 ≤ a) && decide (a ≤ 9972)) = false by simp; omega)
  clear h
  go_enter Try.func3, Try.ntmps3
  go_wp2_with fail
  refine (fact_any _).mono ?_; rintro e w1 ⟨rfl, hd⟩
  go_wp2_with fail
  refine (HP.out _).mono ?_; rintro e w2 ⟨rfl, rfl⟩
  go_wp2_with fail
  refine (in_any _ _ _ _ _ HA.out).mono ?_; rintro e w' ⟨rfl, rfl⟩
  go_wp2_with fail
  go_ret
  exact ⟨rfl, hd⟩

theorem fermat_in (a : Fp.F) (n m : Int) (w : World) :
    Calls Try.prog 3 #[el a, .int .i64 n, .int .i64 m] w fun e w' => e = .returned (.bool true) ∧ Drew w w' := by
  have HP := Lib.hid (fun w => pow_el a 9972 w (by omega) (by omega))
  have HT := Lib.hid (show ((a.val : Int) = 0 ∧ ((Fp.pw a (9972 : Int).toNat).val : Int) = 0) ∨ ((a.val : Int) ≠ 0 ∧ ((Fp.pw a (9972 : Int).toNat).val : Int) = 1) by
    have e : (9972 : Int).toNat = 9972 := rfl
    rw [e]
    by_cases h : a = 0
    · left; subst h; rw [Fp.pw_zero_base _ (by decide)]; exact ⟨rfl, rfl⟩
    · right; rw [Fp.fermat a h]; exact ⟨fun c => Fp.ne_val h (by omega), rfl⟩)
  have HN := Lib.hid (fun w h0 h1 => pow_el a n w h0 h1)
  have HM := Lib.hid (fun w h0 h1 => pow_el a m w h0 h1)
  have HS := Lib.hid (fun w h0 h1 => pow_el a (n + m) w h0 h1)
  have HX := Lib.hid (mulLaw_el (Fp.pw a n.toNat) (Fp.pw a m.toNat))
  have HE := Lib.hid (show 0 ≤ n → 0 ≤ m → Fp.pw a n.toNat * Fp.pw a m.toNat = Fp.pw a (n + m).toNat from fun h0 h1 => by
    rw [← Fp.pw_add, Int.toNat_add h0 h1])
  have hb := Fp.val_bound (Fp.pw a (n + m).toNat)
  unfold el at *
  generalize ((Fp.pw a (9972 : Int).toNat).val : Int) = x at *
  have hz : (a.val : Int) = 0 ∧ x = 0 ∨ (a.val : Int) ≠ 0 ∧ x = 1 := HT.out
  clear HT
  by_cases hn : 0 ≤ n ∧ n ≤ 500000
  · have IN := Lib.hid (show (decide (0 ≤ n) && decide (n ≤ 500000)) = true by simp; omega)
    by_cases hm : 0 ≤ m ∧ m ≤ 500000
    · have IM := Lib.hid (show (decide (0 ≤ m) && decide (m ≤ 500000)) = true by simp; omega)
      have PN := Lib.hid (fun w => HN.out w hn.1 (by omega))
      have PM := Lib.hid (fun w => HM.out w hm.1 (by omega))
      have PS := Lib.hid (fun w => HS.out w (by omega) (by omega))
      rw [HE.out hn.1 hm.1] at HX
      clear HN HM HS HE
      generalize ((Fp.pw a n.toNat).val : Int) = p at *
      generalize ((Fp.pw a m.toNat).val : Int) = q at *
      generalize ((Fp.pw a (n + m).toNat).val : Int) = r at *
      generalize (a.val : Int) = y at *
      rcases hz with ⟨rfl, rfl⟩ | ⟨hy, rfl⟩
      all_goals
        try have hy' := beq_eq_false_iff_ne.2 hy
        go_enter Try.func3, Try.ntmps3
        go_wp2_with fail
        refine (fact_any _).mono ?_; rintro e w1 ⟨rfl, hd1⟩
        go_wp2_with fail
        refine (HP.out _).mono ?_; rintro e w2 ⟨rfl, hd2⟩
        go_wp2_with fail
        refine (in_any _ _ _ _ _ IN.out).mono ?_; rintro e w' ⟨rfl, rfl⟩
        go_wp2_with fail
        refine (in_any _ _ _ _ _ IM.out).mono ?_; rintro e w' ⟨rfl, rfl⟩
        go_wp2_with fail
        refine (PN.out _).mono ?_; rintro e w3 ⟨rfl, hd3⟩
        go_wp2_with fail
        refine (PM.out _).mono ?_; rintro e w4 ⟨rfl, hd4⟩
        go_wp2_with fail
        refine (PS.out _).mono ?_; rintro e w5 ⟨rfl, hd5⟩
        go_wp2_with fail
        refine (HX.out _).mono ?_; rintro e w' ⟨rfl, rfl⟩
        go_wp2_with fail
        go_ret
        exact ⟨rfl, (((hd1.trans hd2).trans hd3).trans hd4).trans hd5⟩
    · have IM := Lib.hid (show (decide (0 ≤ m) && decide (m ≤ 500000)) = false by simp; omega)
      clear HN HM HS HE HX hm
      generalize (a.val : Int) = y at *
      rcases hz with ⟨rfl, rfl⟩ | ⟨hy, rfl⟩
      all_goals
        try have hy' := beq_eq_false_iff_ne.2 hy
        go_enter Try.func3, Try.ntmps3
        go_wp2_with fail
        refine (fact_any _).mono ?_; rintro e w1 ⟨rfl, hd1⟩
        go_wp2_with fail
        refine (HP.out _).mono ?_; rintro e w2 ⟨rfl, hd2⟩
        go_wp2_with fail
        refine (in_any _ _ _ _ _ IN.out).mono ?_; rintro e w' ⟨rfl, rfl⟩
        go_wp2_with fail
        refine (in_any _ _ _ _ _ IM.out).mono ?_; rintro e w' ⟨rfl, rfl⟩
        go_wp2_with fail
        go_ret
        exact ⟨rfl, hd1.trans hd2⟩
  · have IN := Lib.hid (show (decide (0 ≤ n) && decide (n ≤ 500000)) = false by simp; omega)
    clear HN HM HS HE HX hn
    generalize (a.val : Int) = y at *
    rcases hz with ⟨rfl, rfl⟩ | ⟨hy, rfl⟩
    all_goals
      try have hy' := beq_eq_false_iff_ne.2 hy
      go_enter Try.func3, Try.ntmps3
      go_wp2_with fail
      refine (fact_any _).mono ?_; rintro e w1 ⟨rfl, hd1⟩
      go_wp2_with fail
      refine (HP.out _).mono ?_; rintro e w2 ⟨rfl, hd2⟩
      go_wp2_with fail
      refine (in_any _ _ _ _ _ IN.out).mono ?_; rintro e w' ⟨rfl, rfl⟩
      go_wp2_with fail
      go_ret
      exact ⟨rfl, hd1.trans hd2⟩

theorem squares_out (a b : Int) (w : World) (h : ¬ (0 ≤ a ∧ a ≤ 9972)) :
    Calls Try.prog 4 #[.int .i64 a, .int .i64 b] w fun e w' => e = .returned (.bool true) ∧ Drew w w' := by
  have HP := Lib.hid (fun w => pow_out a 4986 w (fun c => h c.1))
  have HA := Lib.hid (show (decide (0 ≤ a) && decide (a ≤ 9972)) = false by simp; omega)
  clear h
  go_enter Try.func4, Try.ntmps4
  go_wp2_with fail
  refine (fact_any _).mono ?_; rintro e w1 ⟨rfl, hd⟩
  go_wp2_with fail
  refine (HP.out _).mono ?_; rintro e w2 ⟨rfl, rfl⟩
  go_wp2_with fail
  refine (in_any _ _ _ _ _ HA.out).mono ?_; rintro e w' ⟨rfl, rfl⟩
  go_wp2_with fail
  go_ret
  exact ⟨rfl, hd⟩

theorem squares_zero (b : Int) (w : World) :
    Calls Try.prog 4 #[.int .i64 0, .int .i64 b] w fun e w' => e = .returned (.bool true) ∧ Drew w w' := by
  have HP := Lib.hid (show ∀ w, Calls Try.prog 6 #[.int .i64 0, .int .i64 4986] w fun e w' => e = .returned (.tuple #[.int .i64 0, .nilIface]) ∧ Drew w w' from fun w => by
    have h := pow_el 0 4986 w (by omega) (by omega)
    have e : (4986 : Int).toNat = 4986 := rfl
    rw [e, Fp.pw_zero_base _ (by decide)] at h
    exact h)
  go_enter Try.func4, Try.ntmps4
  go_wp2_with fail
  refine (fact_any _).mono ?_; rintro e w1 ⟨rfl, hd⟩
  go_wp2_with fail
  refine (HP.out _).mono ?_; rintro e w2 ⟨rfl, hd2⟩
  go_wp2_with fail
  go_ret
  exact ⟨rfl, hd.trans hd2⟩

theorem squares_test (a b : Fp.F) (ha : a ≠ 0) :
    (((b * b).val : Int) == ((a * a).val : Int)) = (((b.val : Int) == (a.val : Int)) || ((b.val : Int) == 9973 - (a.val : Int))) := by
  have hn := Fp.val_neg a ha
  have hl := a.isLt
  have e : ((-a).val : Int) = 9973 - (a.val : Int) := by omega
  rw [← e]
  have r := Fp.roots a b
  rw [← Fp.val_eq, ← Fp.val_eq, ← Fp.val_eq] at r
  rw [Bool.eq_iff_iff, Bool.or_eq_true, beq_iff_eq, beq_iff_eq, beq_iff_eq]
  exact r

theorem squares_walk (y s x b b2 : Int) (w : World) (hy : y ≠ 0) (hx : x = 1 ∨ x = 9972) (B : Bool) (hB : (decide (0 ≤ b) && decide (b ≤ 9972)) = B)
    (hl : 0 ≤ y ∧ y ≤ 9972)
    (HP : ∀ w, Calls Try.prog 6 #[.int .i64 y, .int .i64 4986] w fun e w' => e = .returned (.tuple #[.int .i64 x, .nilIface]) ∧ Drew w w')
    (HM : ∀ w, Calls Try.prog 8 #[.int .i64 y, .int .i64 y] w fun e w' => e = .returned (.int .i64 s) ∧ w = w')
    (HQ : ∀ w, Calls Try.prog 6 #[.int .i64 s, .int .i64 4986] w fun e w' => e = .returned (.tuple #[.int .i64 1, .nilIface]) ∧ Drew w w')
    (HB : ∀ w, B = true → Calls Try.prog 8 #[.int .i64 b, .int .i64 b] w fun e w' => e = .returned (.int .i64 b2) ∧ w = w')
    (HT : B = true → (b2 == s) = ((b == y) || (b == 9973 - y))) :
    Calls Try.prog 4 #[.int .i64 y, .int .i64 b] w fun e w' => e = .returned (.bool true) ∧ Drew w w' := by
  have HP := Lib.hid HP
  have HM := Lib.hid HM
  have HQ := Lib.hid HQ
  have HB := Lib.hid HB
  have HT := Lib.hid HT
  have IB := Lib.hid hB
  clear hB
  have hy' := beq_eq_false_iff_ne.2 hy
  cases B with
  | false =>
    clear HB HT
    rcases hx with rfl | rfl
    all_goals
      go_enter Try.func4, Try.ntmps4
      go_wp2_with fail
      refine (fact_any _).mono ?_; rintro e w1 ⟨rfl, hd1⟩
      go_wp2_with fail
      refine (HP.out _).mono ?_; rintro e w2 ⟨rfl, hd2⟩
      go_wp2_with fail
      refine (HM.out _).mono ?_; rintro e w' ⟨rfl, rfl⟩
      go_wp2_with fail
      refine (HQ.out _).mono ?_; rintro e w3 ⟨rfl, hd3⟩
      go_wp2_with fail
      refine (in_any _ _ _ _ _ IB.out).mono ?_; rintro e w' ⟨rfl, rfl⟩
      go_wp2_with fail
      go_ret
      exact ⟨rfl, (hd1.trans hd2).trans hd3⟩
  | true =>
    have HB2 := Lib.hid (fun w => HB.out w rfl)
    have HT2 := Lib.hid (HT.out rfl)
    clear HB HT
    rcases hx with rfl | rfl
    all_goals
      go_enter Try.func4, Try.ntmps4
      go_wp2_with fail
      refine (fact_any _).mono ?_; rintro e w1 ⟨rfl, hd1⟩
      go_wp2_with fail
      refine (HP.out _).mono ?_; rintro e w2 ⟨rfl, hd2⟩
      go_wp2_with fail
      refine (HM.out _).mono ?_; rintro e w' ⟨rfl, rfl⟩
      go_wp2_with fail
      refine (HQ.out _).mono ?_; rintro e w3 ⟨rfl, hd3⟩
      go_wp2_with fail
      refine (in_any _ _ _ _ _ IB.out).mono ?_; rintro e w' ⟨rfl, rfl⟩
      go_wp2_with fail
      refine (HB2.out _).mono ?_; rintro e w' ⟨rfl, rfl⟩
      go_wp2_with fail
      all_goals
        go_ret
        exact ⟨ret_bool (by first | rfl | (rw [HT2.out]; simp [*])), (hd1.trans hd2).trans hd3⟩

theorem squares_in (a : Fp.F) (b : Int) (w : World) (ha : a ≠ 0) :
    Calls Try.prog 4 #[el a, .int .i64 b] w fun e w' => e = .returned (.bool true) ∧ Drew w w' := by
  have e : (4986 : Int).toNat = 4986 := rfl
  refine squares_walk (a.val : Int) ((a * a).val : Int) ((Fp.pw a 4986).val : Int) b ((Fp.ofInt b * Fp.ofInt b).val : Int) w (fun c => Fp.ne_val ha (by omega)) ?_
    (decide (0 ≤ b) && decide (b ≤ 9972)) rfl (Fp.val_bound a) (fun w => ?_) (fun w => mulLaw_el a a w) (fun w => ?_) (fun w hb => ?_) (fun hb => ?_)
  · rcases Fp.half a ha with h | h
    · left; rw [h]; rfl
    · right; rw [h]; rfl
  · have h := pow_el a 4986 w (by omega) (by omega)
    rw [e] at h
    exact h
  · have h := pow_el (a * a) 4986 w (by omega) (by omega)
    rw [e, Fp.half_square a ha] at h
    exact h
  · have hb' : 0 ≤ b ∧ b ≤ 9972 := by simpa using hb
    have h := mulLaw_el (Fp.ofInt b) (Fp.ofInt b) w
    unfold el at h
    rw [Fp.ofInt_of b hb'.1 hb'.2] at h
    exact h
  · have hb' : 0 ≤ b ∧ b ≤ 9972 := by simpa using hb
    have h := squares_test a (Fp.ofInt b) ha
    rw [Fp.ofInt_of b hb'.1 hb'.2] at h
    exact h

theorem walk_FieldFermat (a0 a1 a2 : Int) (w : World) :
    Calls Try.prog 3 #[.int .i64 a0, .int .i64 a1, .int .i64 a2] w fun e w' => e = .returned (.bool true) ∧ Grown w w' := by
  by_cases h : 0 ≤ a0 ∧ a0 ≤ 9972
  · obtain ⟨x, rfl⟩ := to_el h
    exact (fermat_in x a1 a2 w).mono fun _ _ ⟨he, hd⟩ => ⟨he, hd.grown⟩
  · exact (fermat_out a0 a1 a2 w h).mono fun _ _ ⟨he, hd⟩ => ⟨he, hd.grown⟩

theorem walk_FieldSquares (a0 a1 : Int) (w : World) :
    Calls Try.prog 4 #[.int .i64 a0, .int .i64 a1] w fun e w' => e = .returned (.bool true) ∧ Grown w w' := by
  by_cases h : 0 ≤ a0 ∧ a0 ≤ 9972
  · obtain ⟨x, rfl⟩ := to_el h
    by_cases h0 : x = 0
    · subst h0
      exact (squares_zero a1 w).mono fun _ _ ⟨he, hd⟩ => ⟨he, hd.grown⟩
    · exact (squares_in x a1 w h0).mono fun _ _ ⟨he, hd⟩ => ⟨he, hd.grown⟩
  · exact (squares_out a0 a1 w h).mono fun _ _ ⟨he, hd⟩ => ⟨he, hd.grown⟩

end Go.Proofs.Ytgmnjlinilbllaa
