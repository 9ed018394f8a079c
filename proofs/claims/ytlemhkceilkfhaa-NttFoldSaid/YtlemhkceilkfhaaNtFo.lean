/- The law NttFold: turned, folding is multiplying. -/
import Derived.Test.YtlemhkceilkfhaaNtF
import Derived.StillTailTactics
namespace Go.Proofs.Ytlemhkceilkfhaa
open Go.ChangeShapes Go.WideShapes Go.ChangeAt Go.RowKit
set_option linter.unusedVariables false

theorem nfold_law_bad (A B : Option Addr) (l m : List Int) (c d : Nat) (w : World) (ha : Lies w A l) (hb : Lies w B m) (h : fcode l m ≠ 0) :
    Calls Try.prog 4 #[.slice A l.length c, .slice B m.length d] w fun e w' => e = .returned (.bool true) ∧ Kp w w' := by
  have T := Lib.hid (fun (wx : World) (k : Kp w wx) => fold_bad A B l m c d wx (ha.keep k) (hb.keep k) h)
  unfold NFails at T
  rw [errOf_ne _ h] at T
  clear ha hb h
  generalize fcode l m = x at *
  generalize l.length = n at *
  generalize m.length = q at *
  go_enter Try.func4, Try.ntmps4
  go_wp2_with fail
  refine (nFact_any _).mono ?_; rintro e w1 ⟨rfl, hk⟩
  have K1 := Lib.hid hk
  clear hk
  go_wp2_with fail
  refine (T.out _ K1.out).mono ?_; rintro e w2 ⟨rfl, hk⟩
  have K2 := Lib.hid (K1.out.trans hk)
  clear hk
  go_wp2_with fail
  go_ret
  exact ⟨rfl, K2.out⟩

set_option maxRecDepth 100000 in
set_option maxHeartbeats 3200000 in
theorem nfold_law_ok (A B : Option Addr) (f g : Nat → Nt.G) (c d : Nat) (w : World) (ha : Lies w A (Nt.nt f)) (hb : Lies w B (Nt.nt g)) :
    Calls Try.prog 4 #[.slice A 8 c, .slice B 8 d] w fun e w' => e = .returned (.bool true) ∧ Kp w w' := by
  have TH := Lib.hid (fun (g : Nat → Nt.G) (B : Option Addr) (d : Nat) (wx : World) (h : Lies wx B (Nt.nt g)) => there_ok B g d wx h)
  have FO1 := Lib.hid (fun (wx : World) (k : Kp w wx) => fold_ok A B f g c d wx (ha.keep k) (hb.keep k))
  have FO2 := Lib.hid (fun (wx : World) (k : Kp w wx) => fold_ok B A g f d c wx (hb.keep k) (ha.keep k))
  have EC : (fun k => Nt.tr 64 g k * Nt.tr 64 f k) = (fun k => Nt.tr 64 f k * Nt.tr 64 g k) := funext fun k => Fin.mul_comm _ _
  rw [EC] at FO2
  unfold NGives at TH FO1 FO2
  have HA := Lib.hid ha
  have HB := Lib.hid hb
  obtain ⟨F, hF⟩ : ∃ F, F = Nt.tr 64 f := ⟨_, rfl⟩
  obtain ⟨G, hG⟩ : ∃ G, G = Nt.tr 64 g := ⟨_, rfl⟩
  rw [← hF, ← hG] at FO1 FO2
  have TA := Lib.hid (fun (wx : World) (k : Kp w wx) => TH.out f A c wx (HA.out.keep k))
  have TB := Lib.hid (fun (wx : World) (k : Kp w wx) => TH.out g B d wx (HB.out.keep k))
  rw [← hF] at TA
  rw [← hG] at TB
  have E2 := Lib.hid (Nt.nt_congr (Nt.tr_bk (fun k => F k * G k)))
  clear ha hb EC hF hG
  go_enter Try.func4, Try.ntmps4
  go_wp2_with fail
  refine (nFact_any _).mono ?_; rintro e w1 ⟨rfl, hk⟩
  have K1 := Lib.hid hk
  clear hk
  go_wp2_with fail
  refine (FO1.out _ K1.out).mono ?_; rintro e w2 ⟨gc, rfl, lc, hk⟩
  have LC := Lib.hid lc
  have K2 := Lib.hid (K1.out.trans hk)
  clear hk lc
  go_wp2_with fail
  refine (FO2.out _ K2.out).mono ?_; rintro e w3 ⟨gd, rfl, ld, hk⟩
  have LD := Lib.hid ld
  have LC := Lib.hid (LC.out.keep hk)
  have K3 := Lib.hid (K2.out.trans hk)
  clear hk ld
  go_wp2_with fail
  refine (TA.out _ K3.out).mono ?_; rintro e w4 ⟨gx, rfl, lx, hk⟩
  have LX := Lib.hid lx
  have LD := Lib.hid (LD.out.keep hk)
  have LC := Lib.hid (LC.out.keep hk)
  have K4 := Lib.hid (K3.out.trans hk)
  clear hk lx
  go_wp2_with fail
  refine (TB.out _ K4.out).mono ?_; rintro e w5 ⟨gy, rfl, ly, hk⟩
  have LY := Lib.hid ly
  have LX := Lib.hid (LX.out.keep hk)
  have LD := Lib.hid (LD.out.keep hk)
  have LC := Lib.hid (LC.out.keep hk)
  have K5 := Lib.hid (K4.out.trans hk)
  clear hk ly
  go_wp2_with fail
  refine (TH.out _ _ 8 _ LC.out).mono ?_; rintro e w6 ⟨gz, rfl, lz, hk⟩
  rw [E2.out] at lz
  have LZ := Lib.hid lz
  have LY := Lib.hid (LY.out.keep hk)
  have LX := Lib.hid (LX.out.keep hk)
  have LD := Lib.hid (LD.out.keep hk)
  have LC := Lib.hid (LC.out.keep hk)
  have K6 := Lib.hid (K5.out.trans hk)
  clear hk lz
  go_wp2_with fail
  refine (same_eq (some ⟨gc, 0, none⟩) (some ⟨gd, 0, none⟩) _ _ 8 8 8 8 _ LC.out LD.out (Nt.len_nt _).symm (Nt.len_nt _).symm (by decide) rfl).mono ?_; rintro e w7 ⟨rfl, hk⟩
  have LZ := Lib.hid (LZ.out.keep hk)
  have LY := Lib.hid (LY.out.keep hk)
  have LX := Lib.hid (LX.out.keep hk)
  have K7 := Lib.hid (K6.out.trans hk)
  clear hk LC LD
  go_wp2_with fail
  go_loopw [16] (fun i wr => ∃ k : Nat, k ≤ 8 ∧ i = .int .i64 (k : Int) ∧ Drew w7 wr) (fun i _ => 8 - (intOf i).toNat)
  case atStart => exact ⟨0, Nat.zero_le _, rfl, Drew.refl _⟩
  case round =>
    obtain ⟨k, hk, rfl, hd⟩ := hrel
    have HD := Lib.hid hd
    clear hd
    by_cases hlt : k < 8
    · have xc := lies_at (LX.out.keep HD.out.kp) k (by rw [Nt.len_nt]; exact hlt)
      rw [Nt.nt_at _ k hlt] at xc
      have yc := lies_at (LY.out.keep HD.out.kp) k (by rw [Nt.len_nt]; exact hlt)
      rw [Nt.nt_at _ k hlt] at yc
      have zc := lies_at (LZ.out.keep HD.out.kp) k (by rw [Nt.len_nt]; exact hlt)
      rw [Nt.nt_at _ k hlt] at zc
      have hv := Nt.val_mul (F k) (G k)
      obtain ⟨p1, p2⟩ := Nt.prod_bound (F k) (G k)
      have x1 := Nt.val_bound (F k)
      have y1 := Nt.val_bound (G k)
      generalize ((F k * G k).val : Int) = z at *
      generalize ((F k).val : Int) = x at *
      generalize ((G k).val : Int) = y at *
      have INX := Lib.hid (fun wx => lawIn_any x 0 256 wx true (by simp; omega))
      have INY := Lib.hid (fun wx => lawIn_any y 0 256 wx true (by simp; omega))
      have hw : IntKind.i64.wrap (x * y) = x * y := IntWalk.i64_in _ (by omega)
      have hv2 : (x * y).tmod 257 = z := by rw [Int.tmod_eq_emod_of_nonneg (by omega)]; exact hv
      have hne : ((z : Int) != z) = false := by simp
      clear x1 y1 p1 p2
      go_wp2_with fail
      go_quiet ((first
        | (with_reducible exact quiet_here (INX.out _))
        | (with_reducible exact quiet_here (INY.out _))
        | (with_reducible exact quiet_more (INX.out _))
        | (with_reducible exact quiet_more (INY.out _))))
      go_wp2_with fail
      go_roundw
      case rel => exact ⟨k + 1, by omega, by go_num, HD.out.more _⟩
      case measure => simp [intOf]; omega
    · obtain rfl : k = 8 := by omega
      go_wp2_with fail
      go_ret
      exact ⟨rfl, K7.out.trans HD.out.kp⟩

theorem walk_NttFold (A : Option Addr) (l : List Int) (ca : Nat) (B : Option Addr) (m : List Int) (cb : Nat) (w : World) (ha : Lies w A l) (lc : l.length ≤ ca) (hb : Lies w B m) (ld : m.length ≤ cb) :
    Calls Try.prog 4 #[.slice A l.length ca, .slice B m.length cb] w fun e w' => e = .returned (.bool true) ∧ Kp w w' := by
  by_cases h : fcode l m = 0
  · have h1 : ncode l = 0 := Classical.byContradiction fun e => e (by rw [fcode_first e] at h; exact h)
    rw [fcode_second h1] at h
    obtain ⟨f, rfl⟩ := nt_of_code h1
    obtain ⟨g, rfl⟩ := nt_of_code h
    rw [Nt.len_nt, Nt.len_nt]
    exact nfold_law_ok A B f g ca cb w ha hb
  · exact nfold_law_bad A B l m ca cb w ha hb h

end Go.Proofs.Ytlemhkceilkfhaa
