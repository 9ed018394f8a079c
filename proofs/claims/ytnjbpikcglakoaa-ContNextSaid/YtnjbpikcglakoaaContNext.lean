/- The plain law ContNext. -/
import Derived.Test.YtnjbpikcglakoaaContLaw
namespace Go.Proofs.Ytnjbpikcglakoaa
open Go.ChangeShapes Go.WideShapes Go.ChangeAt Go.RowKit
open Cont
set_option linter.unusedVariables false

theorem mul_le (x y : Int) (h1 : 0 ≤ x) (h2 : x ≤ 1000000) (h3 : 0 ≤ y) (h4 : y ≤ 1000000) : 0 ≤ x * y ∧ x * y ≤ 1000000000000 :=
  ⟨Int.mul_nonneg h1 h3, by have := Int.mul_le_mul h2 h4 h3 (by omega); omega⟩

set_option maxRecDepth 100000 in
set_option maxHeartbeats 1600000 in
theorem walk_ContNext (A : Option Addr) (l : List Int) (c : Nat) (w : World) (hl : Lies w A l) :
    Calls Try.prog 4 #[.slice A l.length c] w fun e w' => e = .returned (.bool true) ∧ Kp w w' := by
  have HF := Lib.hid fact_any
  have HL := Lib.hid hl
  obtain ⟨n, hn⟩ : ∃ n, n = l.length := ⟨_, rfl⟩
  rw [← hn]
  have HN := Lib.hid hn
  clear hl hn
  go_enter Try.func4, Try.ntmps4
  go_wp2_with fail
  refine (HF.out _).mono ?_; rintro e w1 ⟨rfl, hk⟩
  have HC := Lib.hid (near_every A l c w1 (HL.out.keep hk))
  rw [← HN.out] at HC
  have HK := Lib.hid hk
  clear hk HF HL
  go_wp2_with fail
  refine (HC.out).mono ?_; rintro e w2 ⟨cc, fs, v, hans, rfl, ho, hk⟩
  have HK2 := Lib.hid (HK.out.trans hk)
  obtain ⟨B, cb, rfl, hls⟩ := ho.lies
  clear ho hk HC HK
  rcases near_cases hans with ⟨h1, h2, h3, h4, rfl, rfl⟩ | ⟨h0, rfl⟩
  · rw [show errOf 0 = .nilIface from rfl]
    have hlen := nearsUp_len l l.length
    rw [hlen, ← HN.out]
    rw [← HN.out] at hls h1 h2
    have HLF := Lib.hid hls
    have HO := Lib.hid h3
    have HS := Lib.hid h4
    have hlen2 := nearsUp_len l n
    have HLN := Lib.hid hlen2
    clear h3 h4 hls hans hlen hlen2
    have z1 : ((n : Int) == (n : Int)) = true := by simp
    go_wp2_with fail
    go_loopw [6, 7] (fun s i wr => ∃ j : Nat, j + 1 ≤ n ∧ i = .int .i64 (((j + 1 : Nat)) : Int) ∧ s = .int .i64 (sg (j + 2)) ∧ Kp w2 wr) (fun _ i _ => n - (intOf i).toNat)
    case atStart => exact ⟨0, by omega, rfl, rfl, Kp.rfl' _⟩
    case round =>
      obtain ⟨j, hj, rfl, rfl, hkp⟩ := hrel
      have HK := Lib.hid hkp
      clear hkp
      by_cases hlt : j + 1 < n
      · obtain ⟨ad, rfl, _, hc1, hc2⟩ := (HLF.out.keep HK.out).at (j + 1) (by have := HLN.out; omega)
        obtain ⟨ad', e, _, hd1, hd2⟩ := (HLF.out.keep HK.out).at j (by have := HLN.out; omega)
        injection e with e
        subst e
        rw [nearsUp_at l n (j + 1) (by omega)] at hc1 hc2
        rw [nearsUp_at l n j (by omega)] at hd1 hd2
        have hc3 := pair_at hc2
        have hd3 := pair_at hd2
        rw [Nat.mul_comm] at hc1 hd1
        have g1 := cv_ge l HO.out (j + 1) (by have := HN.out; omega)
        have g2 := cv_ge l HO.out j (by have := HN.out; omega)
        have s1 := HS.out (j + 1) (by have := HN.out; omega)
        have s2 := HS.out j (by have := HN.out; omega)
        have up := cv_up l HO.out j (by have := HN.out; omega)
        have dt := cv_det l j (by have := HN.out; omega)
        unfold Sm at s1 s2
        clear hc2 hd2
        obtain ⟨f, hf⟩ : ∃ f, f = cv l (j + 1) := ⟨_, rfl⟩
        obtain ⟨g, hg⟩ : ∃ f, f = cv l j := ⟨_, rfl⟩
        rw [← hf] at hc1 hc3 g1 s1 up dt
        rw [← hg] at hd1 hd3 g2 s2 up dt
        clear hf hg
        obtain ⟨p1, q1⟩ := f
        obtain ⟨p0, q0⟩ := g
        simp only [] at hc1 hc3 hd1 hd3 g1 g2 s1 s2 up dt
        have hs := sg_sq (j + 2)
        have hss : sg (j + 2 + 1) = - sg (j + 2) := rfl
        obtain ⟨s, hs'⟩ : ∃ s, s = sg (j + 2) := ⟨_, rfl⟩
        rw [← hs'] at hs dt hss ⊢
        obtain ⟨a1, a2⟩ := g1
        obtain ⟨a3, a4⟩ := g2
        obtain ⟨a5, a6⟩ := s1
        obtain ⟨a7, a8⟩ := s2
        obtain ⟨m1, m2⟩ := mul_le p1 q0 a1 a5 (by omega) a8
        obtain ⟨m3, m4⟩ := mul_le p0 q1 a3 a7 (by omega) a6
        have hb1 : (p1 * q0 - p0 * q1 != s) = false := by rw [dt]; simp
        have hb2 : decide (q1 < q0) = false := by rw [decide_eq_false_iff_not]; omega
        have s3 : -1 ≤ s := by omega
        have s4 : s ≤ 1 := by omega
        have HSS := Lib.hid hss
        have hw : wrap64 (j : Int) = j := wrap64_id (by omega)
        have HB1 := Lib.hid hb1
        have HB2 := Lib.hid hb2
        have HM := Lib.hid (And.intro m1 (And.intro m2 (And.intro m3 m4)))
        have HAA := Lib.hid (And.intro a1 (And.intro a2 (And.intro a3 (And.intro a4 (And.intro a5 (And.intro a6 (And.intro a7 a8)))))))
        have HS34 := Lib.hid (And.intro s3 s4)
        clear hs dt hss hs' up hb1 hb2 m1 m2 m3 m4 a1 a2 a3 a4 a5 a6 a7 a8 s3 s4
        go_wp2_with fail
        refine (lawIn_any p1 0 1000000 _ true (by have := HAA.out; simp; omega)).mono ?_; rintro e w' ⟨rfl, rfl⟩
        go_wp2_with fail
        refine (lawIn_any q1 1 1000000 _ true (by have := HAA.out; simp; omega)).mono ?_; rintro e w' ⟨rfl, rfl⟩
        go_wp2_with fail
        refine (lawIn_any p0 0 1000000 _ true (by have := HAA.out; simp; omega)).mono ?_; rintro e w' ⟨rfl, rfl⟩
        go_wp2_with fail
        refine (lawIn_any q0 1 1000000 _ true (by have := HAA.out; simp; omega)).mono ?_; rintro e w' ⟨rfl, rfl⟩
        go_wp2_with fail
        obtain ⟨m1, m2, m3, m4⟩ := HM.out
        have hb1 := HB1.out
        have hb2 := HB2.out
        go_quiet (fail)
        clear m1 m2 m3 m4 hb1 hb2
        obtain ⟨s3, s4⟩ := HS34.out
        go_wp2_with fail
        go_roundw
        case rel => exact ⟨j + 1, by omega, by go_num, by rw [HSS.out], HK.out.drewN _⟩
        case measure => simp [intOf]; omega
      · have e : j + 1 = n := by omega
        go_wp2_with fail
        go_ret
        exact ⟨rfl, HK2.out.trans HK.out⟩
  · have he : errOf cc = .iface 43 (.int .i64 (cc : Int)) := if_neg h0
    rw [he]
    go_wp2_with fail
    go_ret
    exact ⟨rfl, HK2.out⟩

end Go.Proofs.Ytnjbpikcglakoaa
