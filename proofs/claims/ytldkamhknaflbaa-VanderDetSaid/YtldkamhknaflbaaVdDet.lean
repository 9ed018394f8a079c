/- The law VanderDet. -/
import Derived.Test.YtldkamhknaflbaaVdFact
import Derived.Test.YtldkamhknaflbaaDeFact
import Derived.Test.YtldkamhknaflbaaMxRef
import Derived.BigQuiet
namespace Go.Proofs.Ytldkamhknaflbaa
open Go.ChangeShapes Go.WideShapes Go.ChangeAt Go.RowKit
set_option linter.unusedVariables false

/-- Two of the first numbers are one: before number j, or one of the first i and number j. -/
def Dup (X : Nat → Fp.F) (j i : Nat) : Prop := ∃ a b, a < b ∧ (b < j ∨ (b = j ∧ a < i)) ∧ X a = X b
theorem dup_start (X : Nat → Fp.F) : ¬ Dup X 0 0 := fun ⟨a, b, h, h2, _⟩ => by omega
theorem dup_row (X : Nat → Fp.F) (j : Nat) : Dup X (j + 1) 0 ↔ Dup X j j :=
  ⟨fun ⟨a, b, h, h2, e⟩ => ⟨a, b, h, by omega, e⟩, fun ⟨a, b, h, h2, e⟩ => ⟨a, b, h, by omega, e⟩⟩
theorem dup_next (X : Nat → Fp.F) {j i : Nat} (hij : i < j) : Dup X j (i + 1) ↔ Dup X j i ∨ X i = X j := by
  constructor
  · rintro ⟨a, b, h, h2, e⟩
    by_cases hc : b = j ∧ a = i
    · obtain ⟨rfl, rfl⟩ := hc
      exact .inr e
    · exact .inl ⟨a, b, h, by omega, e⟩
  · rintro (⟨a, b, h, h2, e⟩ | e)
    · exact ⟨a, b, h, by omega, e⟩
    · exact ⟨i, j, hij, by omega, e⟩
theorem dup_all (X : Nat → Fp.F) (n : Nat) : Dup X n 0 ↔ Mx.df n X = 0 := by
  rw [Mx.df_iff]
  exact ⟨fun ⟨a, b, h, h2, e⟩ => ⟨a, b, h, by omega, e⟩, fun ⟨a, b, h, h2, e⟩ => ⟨a, b, h, by omega, e⟩⟩
/-- The product so far. -/
def dpr (X : Nat → Fp.F) (j i : Nat) : Fp.F := Mx.df j X * Mx.pr i fun a => X j - X a
theorem dpr_row (X : Nat → Fp.F) (j : Nat) : dpr X (j + 1) 0 = dpr X j j := by
  show Mx.df (j + 1) X * 1 = Mx.df (j + 1) X; grind
theorem dpr_next (X : Nat → Fp.F) (j i : Nat) : dpr X j (i + 1) = dpr X j i * (X j - X i) := by
  unfold dpr; rw [Mx.pr_last]; grind
theorem dpr_start (X : Nat → Fp.F) : dpr X 0 0 = 1 := by show (1 : Fp.F) * 1 = 1; decide
theorem dpr_all (X : Nat → Fp.F) (n : Nat) : dpr X n 0 = Mx.df n X := by
  show Mx.df n X * 1 = _; grind
theorem dif_val (a b : Fp.F) : ((b.val : Int) - (a.val : Int)) % 9973 = ((b - a).val : Int) := by
  have h := vstep 1 a b
  rw [show ((1 : Fp.F).val : Int) = 1 by decide, Int.one_mul] at h
  rw [show (1 : Fp.F) * (b - a) = b - a by grind] at h
  rw [← h]; omega
theorem val_eq (a b : Fp.F) : ((a.val : Int) == (b.val : Int)) = decide (a = b) := by
  by_cases h : a = b
  · rw [h]; simp
  · rw [decide_eq_false h, beq_eq_false_iff_ne]
    exact fun e => h (Fin.ext (by omega))

set_option maxRecDepth 100000 in
set_option maxHeartbeats 6400000 in
theorem vdet_good (A : Option Addr) (L : List Int) (n c : Nat) (X : Nat → Fp.F) (w : World) (ha : Lies w A L) (s : Vd n X L) (lc : n ≤ c) :
    Calls Try.prog 3 #[.slice A n c] w fun e w' => e = .returned (.bool true) ∧ Kp w w' := by
  have HA := Lib.hid (s.lies ha)
  have FU := Lib.hid (fun w' (k : Kp w w') => VFull_ok A L n c X w' (ha.keep k) s)
  unfold MadeM at FU
  have DE := Lib.hid (fun w' (k : Kp w w') => VDet_ok A L n c X w' (ha.keep k) s lc)
  have OF := Lib.hid (fun (M : Option Addr) (d : Nat) (w' : World) (h : LiesM w' M (Mx.matl n n (Mx.vm X))) => show Calls Try.prog 8 #[.slice M n d] w' fun e w'' => e = .returned (.tuple #[.int .i64 ((Mx.df n X).val : Int), .nilIface]) ∧ Kp w' w'' by
    rw [← Mx.dt_vm]; exact Of_sh s.sh d w' h)
  have hn5 := s.n5
  have DU := Lib.hid (dup_all X n)
  have DP := Lib.hid (dpr_all X n)
  obtain ⟨dd, hdd⟩ : ∃ dd, dd = Mx.df n X := ⟨_, rfl⟩
  rw [← hdd] at DE OF DU DP
  clear ha s lc hdd
  go_enter Try.func3, Try.ntmps3
  go_wp2_with fail
  refine (vanderFact_any _).mono ?_; rintro e w1 ⟨rfl, k1⟩
  have K := Lib.hid k1
  clear k1
  go_wp2_with fail
  refine (FU.out _ K.out).mono ?_; rintro e w2 ⟨M, d, rfl, _, lm, k2⟩
  replace K := Lib.hid (K.out.trans k2)
  have LM := Lib.hid lm
  clear k2 lm
  go_wp2_with fail
  refine (OF.out M d _ LM.out).mono ?_; rintro e w3 ⟨rfl, k3⟩
  replace K := Lib.hid (K.out.trans k3)
  clear k3
  go_wp2_with fail
  refine (DE.out _ K.out).mono ?_; rintro e w4 ⟨rfl, k4⟩
  replace K := Lib.hid (K.out.trans k4)
  clear k4
  have e1 : ((dd.val : Int) != (dd.val : Int)) = false := by simp
  go_wp2_with fail
  have P0 := Lib.hid (dpr_start X)
  go_loopw [10, 11, 12] (fun p b i wr => ∃ (j : Nat) (z : Bool), j ≤ n ∧ p = .int .i64 ((dpr X j 0).val : Int) ∧ b = .bool z ∧ (z = true ↔ Dup X j 0) ∧ i = .int .i64 (j : Int) ∧ Kp w wr) (fun _ _ i _ => n - (intOf i).toNat)
  case atStart => exact ⟨0, false, Nat.zero_le _, by rw [P0.out]; rfl, rfl, ⟨fun h => (by cases h), fun h => absurd h (dup_start X)⟩, rfl, K.out⟩
  case round =>
    obtain ⟨j, z, hj, rfl, rfl, hz, rfl, hkr⟩ := hrel
    have HZ := Lib.hid hz
    clear hz K
    by_cases hlt : j < n
    · obtain ⟨w5, hw5⟩ : ∃ x, x = wr := ⟨_, rfl⟩
      subst hw5
      have HK := Lib.hid hkr
      clear hkr
      go_wp2_with fail
      go_loopw [10, 11, 13] (fun p b i wz => ∃ (q : Nat) (y : Bool), q ≤ j ∧ p = .int .i64 ((dpr X j q).val : Int) ∧ b = .bool y ∧ (y = true ↔ Dup X j q) ∧ i = .int .i64 (q : Int) ∧ Drew w5 wz) (fun _ _ i _ => j - (intOf i).toNat)
      case atStart => exact ⟨0, z, Nat.zero_le _, rfl, rfl, HZ.out, rfl, Drew.refl _⟩
      case round =>
        obtain ⟨q, y, hq, rfl, rfl, hy, rfl, hdr⟩ := hrel
        have HY := Lib.hid hy
        have HD := Lib.hid hdr
        clear hy
        by_cases hlq : q < j
        · have kz := HK.out.trans hdr.kp
          obtain ⟨xd, rfl, _, x1⟩ := (HA.out.keep kz).el hlt
          obtain ⟨xd', ex, _, x2⟩ := (HA.out.keep kz).el (show q < n by omega)
          obtain rfl := Option.some.inj ex
          have b1 := vval (X j)
          have b2 := vval (X q)
          have b3 := vprod (dpr X j q) (X j - X q)
          have M1 := Lib.hid (fun w => rMod_any ((X j).val - (X q).val : Int) w (by omega) (by omega))
          rw [dif_val] at M1
          have M2 := Lib.hid (fun w => rMod_any (((dpr X j q).val : Int) * ((X j - X q).val : Int)) w (by omega) (by omega))
          rw [← Fp.mul_val, ← dpr_next] at M2
          have e2 := val_eq (X q) (X j)
          have NX := Lib.hid (dup_next X hlq)
          have hw1 : IntKind.i64.wrap (((X j).val : Int) - ((X q).val : Int)) = ((X j).val : Int) - ((X q).val : Int) := IntWalk.i64_in _ (by omega)
          have hw2 : IntKind.i64.wrap (((dpr X j q).val : Int) * ((X j - X q).val : Int)) = ((dpr X j q).val : Int) * ((X j - X q).val : Int) := IntWalk.i64_in _ (by omega)
          clear hdr kz
          by_cases he : X q = X j
          · have NN := Lib.hid (show (true = true ↔ Dup X j (q + 1)) from ⟨fun _ => NX.out.2 (.inr he), fun _ => rfl⟩)
            rw [decide_eq_true he] at e2
            clear he
            cases y
            · go_wp2_with fail
              go_quiet ((first
                | (with_reducible exact quiet_here (M1.out _))
                | (with_reducible exact quiet_more (M1.out _))
                | (with_reducible exact quiet_here (M2.out _))
                | (with_reducible exact quiet_more (M2.out _))))
              go_wp2_with fail
              go_quiet (fail)
              go_wp2_with fail
              go_roundw
              case rel => exact ⟨q + 1, true, by omega, rfl, rfl, by simpa using NN.out, by go_num, (HD.out.more _).trans (Drew.refl _)⟩
              case measure => simp [intOf]; omega
            · go_wp2_with fail
              go_quiet ((first
                | (with_reducible exact quiet_here (M1.out _))
                | (with_reducible exact quiet_more (M1.out _))
                | (with_reducible exact quiet_here (M2.out _))
                | (with_reducible exact quiet_more (M2.out _))))
              go_wp2_with fail
              go_quiet (fail)
              go_wp2_with fail
              go_roundw
              case rel => exact ⟨q + 1, true, by omega, rfl, rfl, by simpa using NN.out, by go_num, (HD.out.more _).trans (Drew.refl _)⟩
              case measure => simp [intOf]; omega
          · rw [decide_eq_false he] at e2
            have NN := Lib.hid (show (y = true ↔ Dup X j (q + 1)) by
              rw [NX.out, HY.out]
              exact ⟨Or.inl, fun h => h.resolve_right he⟩)
            clear he
            cases y
            · go_wp2_with fail
              go_quiet ((first
                | (with_reducible exact quiet_here (M1.out _))
                | (with_reducible exact quiet_more (M1.out _))
                | (with_reducible exact quiet_here (M2.out _))
                | (with_reducible exact quiet_more (M2.out _))))
              go_wp2_with fail
              go_quiet (fail)
              go_wp2_with fail
              go_roundw
              case rel => exact ⟨q + 1, false, by omega, rfl, rfl, by simpa using NN.out, by go_num, (HD.out.more _).trans (Drew.refl _)⟩
              case measure => simp [intOf]; omega
            · go_wp2_with fail
              go_quiet ((first
                | (with_reducible exact quiet_here (M1.out _))
                | (with_reducible exact quiet_more (M1.out _))
                | (with_reducible exact quiet_here (M2.out _))
                | (with_reducible exact quiet_more (M2.out _))))
              go_wp2_with fail
              go_quiet (fail)
              go_wp2_with fail
              go_roundw
              case rel => exact ⟨q + 1, true, by omega, rfl, rfl, by simpa using NN.out, by go_num, (HD.out.more _).trans (Drew.refl _)⟩
              case measure => simp [intOf]; omega
        · obtain rfl : q = j := by omega
          have PR := Lib.hid (dpr_row X q)
          have DR := Lib.hid (dup_row X q)
          have HK2 := Lib.hid (HK.out.trans hdr.kp)
          clear hdr
          go_wp2_with fail
          go_roundw
          case rel => exact ⟨q + 1, y, by omega, by rw [PR.out], rfl, by rw [DR.out]; exact HY.out, by go_num, HK2.out⟩
          case measure => simp [intOf]; omega
    · obtain rfl : j = n := by omega
      have HK := Lib.hid hkr
      clear hkr
      rw [DP.out]
      have e3 := val_eq dd 0
      rw [show ((0 : Fp.F).val : Int) = 0 by rfl] at e3
      have e4 : (z == decide (dd = 0)) = true := by
        have h1 := HZ.out
        rw [DU.out] at h1
        by_cases h0 : dd = 0
        · rw [h1.2 h0]; simp [h0]
        · have : z = false := by cases z; rfl; exact absurd (h1.1 rfl) h0
          rw [this]; simp [h0]
      go_wp2_with fail
      go_ret
      exact ⟨rfl, HK.out⟩

set_option maxRecDepth 100000 in
set_option maxHeartbeats 3200000 in
theorem vdet_bad (A : Option Addr) (L : List Int) (c : Nat) (w : World) (ha : Lies w A L) (h : vcd L ≠ 0) :
    Calls Try.prog 3 #[.slice A L.length c] w fun e w' => e = .returned (.bool true) ∧ Kp w w' := by
  have FU := Lib.hid (fun w' (k : Kp w w') => VFull_no h A c w' (ha.keep k))
  unfold NoMx at FU
  generalize L.length = n at *
  clear ha h
  go_enter Try.func3, Try.ntmps3
  go_wp2_with fail
  refine (vanderFact_any _).mono ?_; rintro e w1 ⟨rfl, k1⟩
  have K := Lib.hid k1
  clear k1
  go_wp2_with fail
  refine (FU.out _ K.out).mono ?_; rintro e w2 ⟨z, rfl, k2⟩
  replace K := Lib.hid (K.out.trans k2)
  clear k2
  go_wp2_with fail
  go_ret
  exact ⟨rfl, K.out⟩
theorem walk_VanderDet (A : Option Addr) (L : List Int) (c : Nat) (w : World) (ha : Lies w A L) (lc : L.length ≤ c) :
    Calls Try.prog 3 #[.slice A L.length c] w fun e w' => e = .returned (.bool true) ∧ Kp w w' := by
  rcases vd_or L with ⟨n, X, s⟩ | h
  · rw [s.len] at lc ⊢
    exact vdet_good A L n c X w ha s lc
  · exact vdet_bad A L c w ha h

end Go.Proofs.Ytldkamhknaflbaa
