/- Contracts of the document's Form and Worth. -/
import Derived.Test.YtapcnlbcookldaaDoorZFlip
import Derived.Test.YtapcnlbcookldaaDoorDfC2
import Derived.Test.YtapcnlbcookldaaDoorMxRef4
namespace Go.Proofs.YtapcnlbcookldaaDoor
open Go.ChangeShapes Go.WideShapes Go.ChangeAt Go.RowKit
set_option linter.unusedVariables false

set_option maxRecDepth 100000 in
set_option maxHeartbeats 1600000 in
theorem rForm_main (A : Option Addr) (m : List (List Int)) (x : Nat → Nat → Int) (n d : Nat) (w : World) (ha : LiesM w A m) (s : Shz n x m) (h4 : n ≤ 4) :
    Calls Tryd.prog 4 #[.slice A n d] w fun e w' => ((e = .returned (.int .i64 0) ∧ Zx.Sym n x) ∨ (e = .returned (.int .i64 6) ∧ ¬ Zx.Sym n x)) ∧ Kp w w' := by
  have SQ := Lib.hid (rSquare_any A m n d 4 (-9) 9 w ha s.len (by omega))
  rw [s.q4 h4] at SQ
  have n0 := s.n0
  have HX := Lib.hid (show LiesM w A (Mx.tab n n x) by rw [← s.eq]; exact ha)
  have FL := Lib.hid (fun w1 (k : Kp w w1) => rFlipZ_any A x n n d w1 (HX.out.keep k) n0 (by omega) (by omega))
  have SM := Lib.hid (fun w1 (k : Kp w w1) B d' (h : LiesM w1 B (Mx.tab n n (Zx.flip x))) => rSameZ_any A B x (Zx.flip x) n n d d' w1 (HX.out.keep k) h (by omega) (by omega))
  clear ha s
  go_enter Tryd.func4, Tryd.ntmps4
  go_wp2_with fail
  refine (SQ.out).mono ?_; rintro e w1 ⟨rfl, hd⟩
  have K1 := Lib.hid hd.kp
  clear hd
  go_wp2_with fail
  refine (FL.out w1 K1.out).mono ?_; rintro e w2 ⟨B, d', rfl, l2, k2⟩
  have K2 := Lib.hid (K1.out.trans k2)
  have L2 := Lib.hid l2
  clear k2 l2
  go_wp2_with fail
  refine (SM.out w2 K2.out B d' L2.out).mono ?_; rintro e w3 ⟨b, rfl, hb, k3⟩
  have K3 := Lib.hid (K2.out.trans k3)
  have HB := Lib.hid hb
  clear k3 hb
  cases b
  · go_wp2_with fail
    go_ret
    exact ⟨.inr ⟨rfl, fun h => by have := HB.out.2 (fun i j hi hj => h i j hi hj); cases this⟩, K3.out⟩
  · go_wp2_with fail
    go_ret
    exact ⟨.inl ⟨rfl, fun i j hi hj => HB.out.1 (by first | exact rfl | exact trivial) i j hi hj⟩, K3.out⟩
set_option maxRecDepth 100000 in
set_option maxHeartbeats 1600000 in
theorem rForm_no (A : Option Addr) (m : List (List Int)) (n d : Nat) (w : World) (ha : LiesM w A m) (hn : m.length = n) (h : qcode 4 (-9) 9 m ≠ 0) :
    Calls Tryd.prog 4 #[.slice A n d] w fun e w' => e = .returned (.int .i64 (qcode 4 (-9) 9 m : Int)) ∧ Kp w w' := by
  have SQ := Lib.hid (rSquare_any A m n d 4 (-9) 9 w ha hn (by omega))
  have e0 : ((qcode 4 (-9) 9 m : Int) == 0) = false := by rw [beq_eq_false_iff_ne]; omega
  generalize qcode 4 (-9) 9 m = z at *
  clear ha hn h
  go_enter Tryd.func4, Tryd.ntmps4
  go_wp2_with fail
  refine (SQ.out).mono ?_; rintro e w1 ⟨rfl, hd⟩
  have K1 := Lib.hid hd.kp
  clear hd
  go_wp2_with fail
  go_ret
  exact ⟨rfl, K1.out⟩
theorem rForm_ok (A : Option Addr) (m : List (List Int)) (x : Nat → Nat → Int) (n d : Nat) (w : World) (ha : LiesM w A m) (s : Sf n x m) :
    Calls Tryd.prog 4 #[.slice A n d] w fun e w' => e = .returned (.int .i64 0) ∧ Kp w w' := by
  refine (rForm_main A m x n d w ha s.shz s.n4).mono ?_
  rintro e w' ⟨⟨rfl, _⟩ | ⟨_, h⟩, hk⟩
  · exact ⟨rfl, hk⟩
  · exact absurd s.sym h
theorem rForm_bad (A : Option Addr) (m : List (List Int)) (n d z : Nat) (w : World) (ha : LiesM w A m) (hn : m.length = n) (h : Fb n m z) :
    Calls Tryd.prog 4 #[.slice A n d] w fun e w' => e = .returned (.int .i64 (z : Int)) ∧ Kp w w' := by
  rcases h with ⟨h0, h1⟩ | ⟨rfl, x, s, h4, hs⟩
  · rw [← h1] at h0 ⊢
    exact rForm_no A m n d w ha hn h0
  · refine (rForm_main A m x n d w ha s h4).mono ?_
    rintro e w' ⟨⟨_, h⟩ | ⟨rfl, _⟩, hk⟩
    · exact absurd h hs
    · exact ⟨rfl, hk⟩

theorem sg_abs {b : Nat} {g : Nat → Int} : ∀ (n : Nat), (∀ i, i < n → (g i).natAbs ≤ b) → (Zx.sg n g).natAbs ≤ n * b
  | 0, _ => by rw [Zx.sg_zero]; simp
  | n + 1, h => by
    have h1 := sg_abs n fun i hi => h i (by omega)
    have h2 := h n (by omega)
    rw [Zx.sg_succ, Nat.add_mul, Nat.one_mul]
    omega

set_option maxRecDepth 100000 in
set_option maxHeartbeats 3200000 in
theorem rWorth_any (A X : Option Addr) (x : Nat → Nat → Int) (v : Nat → Int) (n d c : Nat) (w : World) (ha : LiesM w A (Mx.tab n n x)) (hx : Lies w X (Mx.row n v)) (n4 : n ≤ 4) (hab : ∀ i j, i < n → j < n → -9 ≤ x i j ∧ x i j ≤ 9) (hv : ∀ i, i < n → -100 ≤ v i ∧ v i ≤ 100) :
    Calls Tryd.prog 11 #[.slice A n d, .slice X n c] w fun e w' => e = .returned (.int .i64 (Zx.qf n x v)) ∧ Kp w w' := by
  have HA := Lib.hid ha
  have HX := Lib.hid hx
  have AB := Lib.hid hab
  have VB := Lib.hid hv
  have PB := Lib.hid (show ∀ i t, i < n → t ≤ n → (Zx.sg t fun j => x i j * v j).natAbs ≤ t * 900 from fun i t hi ht => sg_abs t fun j hj => by
    have h1 := hab i j hi (by omega)
    have h2 := hv j (by omega)
    rw [Int.natAbs_mul]
    exact Nat.mul_le_mul (show (x i j).natAbs ≤ 9 by omega) (show (v j).natAbs ≤ 100 by omega))
  have SB := Lib.hid (show ∀ t, t ≤ n → (Zx.sg t fun i => (Zx.sg n fun j => x i j * v j) * v i).natAbs ≤ t * 360000 from fun t ht => sg_abs t fun i hi => by
    have h1 := PB.out i n (by omega) (Nat.le_refl _)
    have h2 := hv i (by omega)
    rw [Int.natAbs_mul]
    exact Nat.mul_le_mul (show _ ≤ 3600 by omega) (show (v i).natAbs ≤ 100 by omega))
  have QE := Lib.hid (show (Zx.sg n fun i => (Zx.sg n fun j => x i j * v j) * v i) = Zx.qf n x v from Zx.sg_congr fun i _ => Int.mul_comm _ _)
  clear ha hx hab hv
  go_enter Tryd.func11, Tryd.ntmps11
  go_wp2_with fail
  go_loopw [5, 6] (fun s i wr => ∃ k : Nat, k ≤ n ∧ i = .int .i64 (k : Int) ∧ s = .int .i64 (Zx.sg k fun i => (Zx.sg n fun j => x i j * v j) * v i) ∧ Kp w wr) (fun _ i _ => n - (intOf i).toNat)
  case atStart => exact ⟨0, Nat.zero_le _, rfl, rfl, Kp.rfl' _⟩
  case round =>
    obtain ⟨k, hk, rfl, rfl, hkp⟩ := hrel
    obtain ⟨wo, hwo⟩ : ∃ y, y = wr := ⟨_, rfl⟩
    subst hwo
    have HK := Lib.hid hkp
    by_cases hlt : k < n
    · have bs := SB.out k hk
      have HPR := Lib.hid (Zx.sg_succ k fun i => (Zx.sg n fun j => x i j * v j) * v i)
      generalize (Zx.sg k fun i => (Zx.sg n fun j => x i j * v j) * v i) = sv at *
      have BS := Lib.hid bs
      clear hkp bs
      go_wp2_with fail
      go_loopw [7, 8] (fun p j wq => ∃ t : Nat, t ≤ n ∧ j = .int .i64 (t : Int) ∧ p = .int .i64 (Zx.sg t fun j => x k j * v j) ∧ Kp w wq) (fun _ j _ => n - (intOf j).toNat)
      case atStart => exact ⟨0, Nat.zero_le _, rfl, rfl, HK.out⟩
      case round =>
        obtain ⟨t, ht, rfl, rfl, hkq⟩ := hrel
        have HQ := Lib.hid hkq
        have bp := PB.out k t hlt ht
        by_cases hlt2 : t < n
        · obtain ⟨ad, A1, d1, rfl, _, x1, _, l1⟩ := (HA.out.keep hkq).row hlt
          obtain ⟨ad1, rfl, _, x2⟩ := l1.el hlt2
          obtain ⟨vd, rfl, _, x3⟩ := (HX.out.keep hkq).el hlt2
          have b1 := AB.out k t hlt hlt2
          have b2 := VB.out t hlt2
          have HS := Lib.hid (Zx.sg_succ t fun j => x k j * v j)
          generalize (Zx.sg t fun j => x k j * v j) = pv at *
          have hm : (x k t * v t).natAbs ≤ 9 * 100 := by rw [Int.natAbs_mul]; exact Nat.mul_le_mul (by omega) (by omega)
          generalize x k t = u1 at *
          generalize v t = u2 at *
          have hw1 : IntKind.i64.wrap (u1 * u2) = u1 * u2 := IntWalk.i64_in _ (by omega)
          have hw2 : IntKind.i64.wrap (pv + u1 * u2) = pv + u1 * u2 := IntWalk.i64_in _ (by omega)
          clear hkq hm b1 b2 bp l1
          go_wp2_with fail
          go_quiet (fail)
          go_wp2_with fail
          go_roundw
          case rel => exact ⟨t + 1, by omega, by go_num, by rw [HS.out], HQ.out.drewN _⟩
          case measure => simp [intOf]; omega
        · obtain rfl : t = n := by omega
          obtain ⟨vd, rfl, _, x3⟩ := (HX.out.keep hkq).el hlt
          have b2 := VB.out k hlt
          have bs := BS.out
          generalize hpp : (Zx.sg t fun j => x k j * v j) = pv at *
          have HPP := Lib.hid hpp
          generalize hvk : v k = u2 at *
          have HVK := Lib.hid hvk
          have hm : (pv * u2).natAbs ≤ 3600 * 100 := by rw [Int.natAbs_mul]; exact Nat.mul_le_mul (by omega) (by omega)
          have hw1 : IntKind.i64.wrap (pv * u2) = pv * u2 := IntWalk.i64_in _ (by omega)
          have hw2 : IntKind.i64.wrap (sv + pv * u2) = sv + pv * u2 := IntWalk.i64_in _ (by
            have : sv.natAbs ≤ 4 * 360000 := Nat.le_trans bs (Nat.mul_le_mul (by omega) (Nat.le_refl _))
            omega)
          clear hkq hm b2 bp bs hpp hvk
          go_wp2_with fail
          go_roundw
          case rel => exact ⟨k + 1, by omega, by go_num, by rw [HPR.out], HQ.out⟩
          case measure => simp [intOf]; omega
    · obtain rfl : k = n := by omega
      rw [QE.out]
      clear hkp
      go_wp2_with fail
      go_ret
      exact ⟨rfl, HK.out⟩
end Go.Proofs.YtapcnlbcookldaaDoor
