/- The law TopForests. -/
import Derived.Test.YtgfhmffkdhfoeaaTrC3
import Derived.Test.YtgfhmffkdhfoeaaRowsG
import Derived.Test.YtgfhmffkdhfoeaaLawIn
import Derived.Test.YtgfhmffkdhfoeaaBaC4
import Derived.Test.YtgfhmffkdhfoeaaZRef
import Derived.Test.YtgfhmffkdhfoeaaMxRef4
namespace Go.Proofs.Ytgfhmffkdhfoeaa
open Go.ChangeShapes Go.WideShapes Go.ChangeAt Go.RowKit
set_option linter.unusedVariables false

theorem two_gr : Gr 2 [(0, 1), (1, 0)] (Mx.tab 2 2 (n22 0 1 1 0)) :=
  ⟨by decide, by decide, by decide, by decide, by intro e he; simp at he; rcases he with rfl | rfl <;> decide, by intro e he; simp at he; rcases he with rfl | rfl <;> decide⟩
theorem two_trn : trn 2 [(0, 1), (1, 0)] = 2 := by decide +kernel
theorem q6_ab {n : Nat} {f : Nat → Nat → Int} (h : qcode 6 (-9) 9 (Mx.tab n n f) = 0) : ∀ i j, i < n → j < n → -9 ≤ f i j ∧ f i j ≤ 9 := fun i j hi hj => by
  have hm : Mx.mcode 6 (-9) 9 (Mx.tab n n f) = 0 := by
    unfold qcode at h
    by_cases h0 : Mx.mcode 6 (-9) 9 (Mx.tab n n f) = 0 ∧ (Mx.tab n n f).length ≠ ((Mx.tab n n f).getD 0 []).length
    · rw [if_pos h0] at h; cases h
    · rw [if_neg h0] at h; exact h
  unfold Mx.mcode at hm
  by_cases c1 : (Mx.tab n n f).length = 0 ∨ ((Mx.tab n n f).getD 0 []).length = 0
  · rw [if_pos c1] at hm; cases hm
  rw [if_neg c1] at hm
  by_cases c2 : 6 < (Mx.tab n n f).length ∨ 6 < ((Mx.tab n n f).getD 0 []).length
  · rw [if_pos c2] at hm; cases hm
  rw [if_neg c2] at hm
  have := (Mx.rcode_zero (Mx.rows_zero hm i (by rw [Mx.len_tab]; exact hi))).2 j (by rw [Mx.tab_len n n f i hi]; exact hj)
  rw [Mx.tab_el _ _ _ _ _ hi hj] at this
  exact this

set_option maxRecDepth 100000 in
set_option maxHeartbeats 6400000 in
theorem walk_TopForests (n : Int) (A : Option Addr) (m : List (List Int)) (c : Nat) (k : Int) (w : World) (ha : LiesM w A m) :
    Calls Try.prog 5 #[.int .i64 n, .slice A m.length c, .int .i64 k] w fun e w' => e = .returned (.bool true) ∧ Kp w w' := by
  have F1 := Lib.hid (fun (w1 : World) => TCnt_ok 2 _ _ two_gr (some ⟨w1.heap.size + 1 + 1, 0, none⟩) 2 2 (lit22 w1 w1.heap.size 0 1 1 0) (lit22_lies w1 _ 0 1 1 0 rfl) rfl)
  rw [two_trn] at F1
  obtain ⟨q, hq⟩ : ∃ q, q = m.length := ⟨_, rfl⟩
  rw [← hq]
  have HA := Lib.hid ha
  rcases gr_or n m with ⟨N, l, rfl, s⟩ | h
  rotate_left
  · have LN := Lib.hid (fun w hw => Lapl_no n A m q c w hw hq.symm h)
    rw [errOf_ne _ h] at LN
    generalize trcd n m = z at *
    clear ha hq h
    go_enter Try.func5, Try.ntmps5
    go_wp2_with fail
    refine (LN.out _ HA.out).mono ?_; rintro e w1 ⟨rfl, k1⟩
    have K1 := Lib.hid k1
    clear k1
    go_wp2_with fail
    refine (F1.out _).mono ?_; rintro e w2 ⟨rfl, k2⟩
    have K2 := Lib.hid (K1.out.trans ((lit22_kp w1 w1.heap.size 0 1 1 0).trans k2))
    clear k2
    go_wp2_with fail
    go_ret
    exact ⟨rfl, K2.out⟩
  have LA := Lib.hid (fun w h => Lapl_ok N l m s A q c w h hq.symm)
  have CN := Lib.hid (fun w h => TCnt_ok N l m s A q c w h hq.symm)
  have hN6 := s.n6
  have hN1 := s.n1
  have DT := Lib.hid (fun (p : Nat) (hn : N = p + 1) (r : Nat) (hr : r < N) => s.det hn hr)
  generalize (trn N l : Int) = T at *
  generalize lpm l = f at *
  obtain ⟨t, ht⟩ : ∃ t, t = (decide (0 ≤ k) && decide (k ≤ (N : Int) - 1)) := ⟨_, rfl⟩
  have IN := Lib.hid (fun w => topIn_any k 0 ((N : Int) - 1) w t ht.symm)
  have e0 : ((N : Int) != (N : Int)) = false := by simp
  cases t
  · clear ha hq s ht
    go_enter Try.func5, Try.ntmps5
    go_wp2_with fail
    refine (LA.out _ HA.out).mono ?_; rintro e w1 ⟨g, G, rfl, hg, hlt, k1⟩
    have K1 := Lib.hid k1
    clear k1 hg hlt
    go_wp2_with fail
    refine (F1.out _).mono ?_; rintro e w2 ⟨rfl, k2⟩
    have K2 := Lib.hid (K1.out.trans ((lit22_kp w1 w1.heap.size 0 1 1 0).trans k2))
    clear k2
    go_wp2_with fail
    refine (CN.out _ (HA.out.keep K2.out)).mono ?_; rintro e w3 ⟨rfl, k3⟩
    have K3 := Lib.hid (K2.out.trans k3)
    clear k3
    go_wp2_with fail
    refine (IN.out _).mono ?_; rintro e w4 ⟨rfl, rfl⟩
    go_wp2_with fail
    go_ret
    exact ⟨rfl, K3.out⟩
  have hk0 : 0 ≤ k ∧ k ≤ (N : Int) - 1 := by simpa using ht.symm
  obtain ⟨kk, rfl⟩ : ∃ kk : Nat, k = kk := ⟨k.toNat, by omega⟩
  have hkN : kk < N := by omega
  clear ht hk0
  by_cases h2 : N < 2
  · have e1 : (N : Int) < 2 := by omega
    clear ha hq s h2
    go_enter Try.func5, Try.ntmps5
    go_wp2_with fail
    refine (LA.out _ HA.out).mono ?_; rintro e w1 ⟨g, G, rfl, hg, hlt, k1⟩
    have K1 := Lib.hid k1
    clear k1 hg hlt
    go_wp2_with fail
    refine (F1.out _).mono ?_; rintro e w2 ⟨rfl, k2⟩
    have K2 := Lib.hid (K1.out.trans ((lit22_kp w1 w1.heap.size 0 1 1 0).trans k2))
    clear k2
    go_wp2_with fail
    refine (CN.out _ (HA.out.keep K2.out)).mono ?_; rintro e w3 ⟨rfl, k3⟩
    have K3 := Lib.hid (K2.out.trans k3)
    clear k3
    go_wp2_with fail
    refine (IN.out _).mono ?_; rintro e w4 ⟨rfl, rfl⟩
    go_wp2_with fail
    go_ret
    exact ⟨rfl, K3.out⟩
  have e1 : ¬ (N : Int) < 2 := by omega
  have SQ := Lib.hid (fun g w (h : LiesM w (some ⟨g, 0, none⟩) (Mx.tab N N f)) => rSquare_any (some ⟨g, 0, none⟩) (Mx.tab N N f) N N 6 (-9) 9 w h (Mx.len_tab _ _ _) (by omega))
  obtain ⟨z, hz⟩ : ∃ z, z = qcode 6 (-9) 9 (Mx.tab N N f) := ⟨_, rfl⟩
  rw [← hz] at SQ
  by_cases h3 : z = 0
  · have AB := Lib.hid (q6_ab (hz.symm.trans h3))
    obtain ⟨p, hp⟩ : ∃ p, N = p + 1 := ⟨N - 1, by omega⟩
    have WO := Lib.hid (fun g w (h : LiesM w (some ⟨g, 0, none⟩) (Mx.tab N N f)) => show Calls Try.prog 16 #[.slice (some ⟨g, 0, none⟩) N N, .int .i64 (kk : Int), .int .i64 (kk : Int)] w fun e w' => ∃ A d, e = .returned (.slice A p d) ∧ LiesM w' A (Mx.tab p p (Zx.wo f kk kk)) ∧ Kp w w' from by
      have h' := rWithoutZ_any (some ⟨g, 0, none⟩) f p kk kk N w (by rw [hp] at h; exact h) (by omega) (by omega) (by omega)
      rw [Int.toNat_natCast, ← hp] at h'
      exact h')
    have SH : Shz p (Zx.wo f kk kk) (Mx.tab p p (Zx.wo f kk kk)) := ⟨rfl, by omega, by omega, fun i j hi hj => AB.out _ _ (by have := Mx.sk_lt (a := kk) hi; omega) (by have := Mx.sk_lt (a := kk) hj; omega)⟩
    have BO := Lib.hid (fun A d w h => BOf_ok A _ _ p d w h SH)
    rw [DT.out p hp kk hkN] at BO
    have ez : ((z : Int) != 0) = false := by rw [h3]; rfl
    clear ha hq s h2 hz h3 DT SH hp
    go_enter Try.func5, Try.ntmps5
    go_wp2_with fail
    refine (LA.out _ HA.out).mono ?_; rintro e w1 ⟨g, G, rfl, hg, hlt, k1⟩
    have K1 := Lib.hid k1
    have L1 := Lib.hid hg.lies
    clear k1 hg hlt
    go_wp2_with fail
    refine (F1.out _).mono ?_; rintro e w2 ⟨rfl, k2⟩
    have K12 := Lib.hid ((lit22_kp w1 w1.heap.size 0 1 1 0).trans k2)
    have K2 := Lib.hid (K1.out.trans K12.out)
    clear k2
    go_wp2_with fail
    refine (CN.out _ (HA.out.keep K2.out)).mono ?_; rintro e w3 ⟨rfl, k3⟩
    have K3 := Lib.hid (K2.out.trans k3)
    have L3 := Lib.hid (L1.out.keep (K12.out.trans k3))
    clear k3 K12 L1
    go_wp2_with fail
    refine (IN.out _).mono ?_; rintro e w4 ⟨rfl, rfl⟩
    go_wp2_with fail
    refine (SQ.out _ _ L3.out).mono ?_; rintro e w4 ⟨rfl, hd⟩
    have K4 := Lib.hid (K3.out.trans hd.kp)
    have L4 := Lib.hid (L3.out.keep hd.kp)
    clear hd
    go_wp2_with fail
    refine (WO.out _ _ L4.out).mono ?_; rintro e w5 ⟨B, d, rfl, hl, k5⟩
    have K5 := Lib.hid (K4.out.trans k5)
    have L5 := Lib.hid hl
    clear k5 hl
    go_wp2_with fail
    refine (BO.out _ _ _ L5.out).mono ?_; rintro e w6 ⟨rfl, k6⟩
    have K6 := Lib.hid (K5.out.trans k6)
    clear k6
    go_wp2_with fail
    go_ret
    exact ⟨rfl, K6.out⟩
  · have ez : ((z : Int) != 0) = true := by rw [bne_iff_ne]; omega
    clear ha hq s h2 hz h3 DT
    go_enter Try.func5, Try.ntmps5
    go_wp2_with fail
    refine (LA.out _ HA.out).mono ?_; rintro e w1 ⟨g, G, rfl, hg, hlt, k1⟩
    have K1 := Lib.hid k1
    have L1 := Lib.hid hg.lies
    clear k1 hg hlt
    go_wp2_with fail
    refine (F1.out _).mono ?_; rintro e w2 ⟨rfl, k2⟩
    have K12 := Lib.hid ((lit22_kp w1 w1.heap.size 0 1 1 0).trans k2)
    have K2 := Lib.hid (K1.out.trans K12.out)
    clear k2
    go_wp2_with fail
    refine (CN.out _ (HA.out.keep K2.out)).mono ?_; rintro e w3 ⟨rfl, k3⟩
    have K3 := Lib.hid (K2.out.trans k3)
    have L3 := Lib.hid (L1.out.keep (K12.out.trans k3))
    clear k3 K12 L1
    go_wp2_with fail
    refine (IN.out _).mono ?_; rintro e w4 ⟨rfl, rfl⟩
    go_wp2_with fail
    refine (SQ.out _ _ L3.out).mono ?_; rintro e w4 ⟨rfl, hd⟩
    have K4 := Lib.hid (K3.out.trans hd.kp)
    clear hd
    go_wp2_with fail
    go_ret
    exact ⟨rfl, K4.out⟩

end Go.Proofs.Ytgfhmffkdhfoeaa
