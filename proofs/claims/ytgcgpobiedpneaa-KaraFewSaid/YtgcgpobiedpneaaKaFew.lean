/- The law KaraFew. -/
import Derived.Test.YtgcgpobiedpneaaKaC3
namespace Go.Proofs.Ytgcgpobiedpneaa
open Go.ChangeShapes Go.WideShapes Go.ChangeAt Go.RowKit
set_option linter.unusedVariables false

set_option maxRecDepth 100000 in
set_option maxHeartbeats 1600000 in
theorem few_bad (A B : Option Addr) (l m : List Int) (ca cb : Nat) (w : World) (ha : Lies w A l) (hb : Lies w B m) (h : kcode l m ≠ 0) :
    Calls Try.prog 3 #[.slice A l.length ca, .slice B m.length cb] w fun e w' => e = .returned (.bool true) ∧ Kp w w' := by
  have M := Lib.hid (fun (w' : World) (k : Kp w w') => kmul_bad A B l m ca cb w' (ha.keep k) (hb.keep k) h)
  unfold MulFails at M
  have e := errOf_ne _ h
  rw [e] at M
  clear e h ha hb
  generalize kcode l m = x at *
  generalize l.length = n at *
  generalize m.length = q at *
  go_enter Try.func3, Try.ntmps3
  go_wp2_with fail
  refine (kFact_any _).mono ?_; rintro e w1 ⟨rfl, hk⟩
  have K1 := Lib.hid hk
  clear hk
  go_wp2_with fail
  refine (M.out _ K1.out).mono ?_; rintro e w2 ⟨rfl, hk⟩
  have K2 := Lib.hid (K1.out.trans hk)
  clear hk
  go_wp2_with fail
  go_ret
  exact ⟨rfl, K2.out⟩

set_option maxRecDepth 100000 in
set_option maxHeartbeats 1600000 in
theorem few_ok (A B : Option Addr) (l m : List Int) (n N ca cb : Nat) (w : World) (ha : Lies w A l) (hb : Lies w B m) (hl : l.length = n) (hm : m.length = n) (hP : Pow n) (hN : N + 1 = 2 * n) (lc : n ≤ ca) (ld : n ≤ cb) (bl : AllIn l (-1000) 1000) (bm : AllIn m (-1000) 1000) :
    Calls Try.prog 3 #[.slice A n ca, .slice B n cb] w fun e w' => e = .returned (.bool true) ∧ Kp w w' := by
  have M1 := Lib.hid (fun (w' : World) (k : Kp w w') => kmul_ok A B l m n N ca cb w' (ha.keep k) (hb.keep k) hl hm hP hN lc ld bl bm)
  have M2 := Lib.hid (fun (w' : World) (k : Kp w w') => kmul_ok B A m l n N cb ca w' (hb.keep k) (ha.keep k) hm hl hP hN ld lc bm bl)
  rw [Ka.prod_comm n m l] at M2
  have LP := Lib.hid (show (Ka.prod n l m).length = N by rw [Ka.len_prod]; omega)
  have hn := pow_le hP
  have hN2 : 2 * (n : Int) - 1 = (N : Int) := by omega
  have hN3 : IntKind.i64.wrap (2 * (n : Int)) = 2 * (n : Int) := IntWalk.i64_in _ (by omega)
  have hNN : ((N : Int) != (N : Int)) = false := by simp
  have hkk : ((kcnt n : Int) != (kcnt n : Int)) = false := by simp
  have hmany : n = 1 ∧ kcnt n = 1 ∨ ((kcnt n : Int) == 1) = false ∧ kcnt n < n * n ∧ IntKind.i64.wrap ((n : Int) * (n : Int)) = ((n * n : Nat) : Int) := by
    rcases hP with rfl | rfl | rfl | rfl | rfl
    · exact .inl ⟨rfl, rfl⟩
    all_goals exact .inr ⟨by decide, by decide, by decide⟩
  have HN1 := Lib.hid hN
  clear ha hb hl hm hP hN lc ld bl bm
  generalize Ka.prod n l m = P at *
  generalize kcnt n = k at *
  go_enter Try.func3, Try.ntmps3
  go_wp2_with fail
  refine (kFact_any _).mono ?_; rintro e w1 ⟨rfl, hk⟩
  have K1 := Lib.hid hk
  clear hk
  go_wp2_with fail
  refine (M1.out _ K1.out).mono ?_; rintro e w2 ⟨Aa, c1, rfl, _, l1, hk⟩
  have L1 := Lib.hid l1
  have K2 := Lib.hid (K1.out.trans hk)
  clear hk l1
  go_wp2_with fail
  refine (M2.out _ K2.out).mono ?_; rintro e w3 ⟨Ab, c2, rfl, _, l2, hk⟩
  have L2 := Lib.hid l2
  have L1 := Lib.hid (L1.out.keep hk)
  have K3 := Lib.hid (K2.out.trans hk)
  clear hk l2
  rcases hmany with ⟨h1, h2⟩ | ⟨h1, h2, h3⟩
  · subst h1 h2
    obtain rfl : N = 1 := by have := HN1.out; omega
    clear hNN hkk hN2 hN3
    go_wp2_with fail
    refine (same_eq Aa Ab P P 1 1 _ _ _ L1.out L2.out LP.out.symm LP.out.symm (by decide) rfl).mono ?_; rintro e w4 ⟨rfl, hk⟩
    have K4 := Lib.hid (K3.out.trans hk)
    clear hk
    go_wp2_with fail
    go_ret
    exact ⟨rfl, K4.out⟩
  · obtain ⟨S, hS⟩ : ∃ S, S = n * n := ⟨_, rfl⟩
    rw [← hS] at h2 h3
    have hlt : (k : Int) < (S : Int) := by omega
    clear hS h2
    go_wp2_with fail
    refine (same_eq Aa Ab P P N N _ _ _ L1.out L2.out LP.out.symm LP.out.symm (by have := HN1.out; omega) rfl).mono ?_; rintro e w4 ⟨rfl, hk⟩
    have K4 := Lib.hid (K3.out.trans hk)
    clear hk
    go_wp2_with fail
    go_ret
    exact ⟨rfl, K4.out⟩

theorem walk_KaraFew (A : Option Addr) (l : List Int) (ca : Nat) (B : Option Addr) (m : List Int) (cb : Nat) (w : World) (ha : Lies w A l) (lc : l.length ≤ ca) (hb : Lies w B m) (ld : m.length ≤ cb) :
    Calls Try.prog 3 #[.slice A l.length ca, .slice B m.length cb] w fun e w' => e = .returned (.bool true) ∧ Kp w w' := by
  by_cases h : kcode l m = 0
  · obtain ⟨h1, h2, h3, h4⟩ := kcode_zero h
    have := pow_le h1
    rw [h2]
    exact few_ok A B l m l.length (2 * l.length - 1) ca cb w ha hb rfl h2 h1 (by omega) lc (by omega) h3 h4
  · exact few_bad A B l m ca cb w ha hb h

end Go.Proofs.Ytgcgpobiedpneaa
