/- The law ContSays, where the fraction is as it must be; and the law whole. -/
import Derived.Test.YtnjbpikcglakoaaDoorContSays
namespace Go.Proofs.YtnjbpikcglakoaaDoor
open Go.ChangeShapes Go.WideShapes Go.ChangeAt Go.RowKit
open Cont
set_option linter.unusedVariables false

/-- A store into the box before the row leaves the row. -/
theorem own_far {w : World} {B : Nat} {v : Value} {l : List Fr} (h : OwnF w (B + 1) v l) (x y : Value) : OwnF ((w.setCell ⟨B, 0, none⟩ x).setCell ⟨B, 1, none⟩ y) (B + 1) v l := by
  refine OwnF.other h fun g hg => ?_
  have hl := (h.lt hg).1
  rw [Below.heap_setCell _ _ _ _ (by simp; omega), Below.heap_setCell _ _ _ _ (by simp; omega)]

set_option maxRecDepth 100000 in
set_option maxHeartbeats 6400000 in
theorem says_in (N D : Nat) (A : Option Addr) (l : List Int) (ca : Nat) (most : Int) (w : World) (hL : Told.Laid w) (ha : Lies w A l) (hc : l.length ≤ ca) (a1 : N ≤ 1000000) (a2 : 1 ≤ D) (a3 : D ≤ 1000000) :
    Calls Tryd.prog 3 #[.agg #[.int .i64 (N : Int), .int .i64 (D : Int)], .slice A l.length ca, .int .i64 most] w fun e w' => e = .returned (.bool true) ∧ Kp w w' := by
  have HL := Lib.hid hL
  have HA := Lib.hid ha
  have HOK := Lib.hid (show OkF (N : Int) (D : Int) from by unfold OkF; omega)
  have HT := Lib.hid (fun w => terms_in N D w a1 a2 a3)
  have HR := Lib.hid (fun w => refTerms_in N D w a1 a2 a3)
  have HNE := Lib.hid (terms_near N D a2 a1 a3)
  have hfew := terms_few N D a2 a1 a3
  have HBY := Lib.hid (show 1 ≤ most → most ≤ 1000000 → BestAns N D most 0 (bestUp (terms N D) most (terms N D).length) from fun m1 m2 => .inr ⟨HOK.out, m1, m2, rfl, by simp⟩)
  have HBN := Lib.hid (show ¬ (1 ≤ most ∧ most ≤ 1000000) → BestAns N D most 1 (0, 0) from fun h => .inl ⟨fun o => h o.2, rfl, rfl⟩)
  obtain ⟨tl, htl⟩ : ∃ tl, tl = terms N D := ⟨_, rfl⟩
  rw [← htl] at HT HR HNE hfew HBY
  clear hL ha a1 a2 a3 htl
  go_enter Tryd.func3, Tryd.ntmps3
  go_wp2_with fail
  refine (refFraction_any N D _).mono ?_; rintro e w1 ⟨hh, hk⟩
  obtain rfl : e = .returned (.int .i64 0) := by
    rcases hh with ⟨_, h⟩ | ⟨h, _⟩
    · exact h
    · exact absurd HOK.out h
  have hb := (Box.made w ((N : Int), (D : Int)) 23 _ rfl).keep hk
  have HB := Lib.hid hb
  have K1 := Lib.hid (((Kp.rfl' w).new _).trans hk)
  have h1 := hb.c1
  have h2 := hb.c2
  simp only [] at h1 h2
  clear hh hk hb
  go_wp2_with fail
  refine (HR.out _).mono ?_; rintro e w2 ⟨v1, rfl, ho, hk⟩
  obtain ⟨A1, c1, rfl, hcc, hls⟩ := ho.lies'
  have HC1 := Lib.hid hcc
  have HW := Lib.hid hls
  have K2 := Lib.hid (K1.out.trans hk)
  have hb := HB.out.keep hk
  have h1 := hb.c1
  have h2 := hb.c2
  have HB2 := Lib.hid hb
  simp only [] at h1 h2
  clear hk hb ho hls hcc HB
  go_wp2_with fail
  refine (HT.out _).mono ?_; rintro e w3 ⟨v2, rfl, ho, hk⟩
  obtain ⟨A2, c2, rfl, hls⟩ := ho.lies
  have K3 := Lib.hid (K2.out.trans hk)
  have HB3 := Lib.hid (HB2.out.keep hk)
  have HW3 := Lib.hid (HW.out.keep hk)
  have HV3 := Lib.hid hls
  have HE := Lib.hid (errorK_nil 0 w3 true rfl)
  clear hk ho hls h1 h2 HB2 HW
  go_wp2_with fail
  refine (HE.out).mono ?_; rintro e w3' ⟨rfl, hk⟩
  have K3' := Lib.hid (K3.out.trans hk)
  have HB3' := Lib.hid (HB3.out.keep hk)
  have HW3' := Lib.hid (HW3.out.keep hk)
  have HI := Lib.hid (ints_any A2 A1 tl tl c2 c1 w3' (HV3.out.keep hk) (HW3.out.keep hk) (by omega) (by omega))
  clear hk HE HB3 HW3 HV3
  go_wp2_with fail
  refine (HI.out).mono ?_; rintro e w4 ⟨ht, hk⟩
  obtain rfl := tells_yes ht (by first | rfl | trivial)
  have K4 := Lib.hid (K3'.out.trans hk)
  have HB4 := Lib.hid (HB3'.out.keep hk)
  have HW4 := Lib.hid (HW3'.out.keep hk)
  clear hk ht HI HB3' HW3'
  go_wp2_with fail
  refine (refNear_any A l ca _ (HA.out.keep K4.out) hc).mono ?_; rintro e w5 ⟨c, fs, v, hans, rfl, ho, hk⟩
  obtain ⟨A3, c3, rfl, hls⟩ := ho.lies
  have K5 := Lib.hid (K4.out.trans hk)
  have HB5 := Lib.hid (HB4.out.keep hk)
  have HW5 := Lib.hid (HW4.out.keep hk)
  have HL5 := Lib.hid hls
  have HAN := Lib.hid hans
  clear hk ho hls hans
  go_wp2_with fail
  refine (near_every A l ca _ (HA.out.keep K5.out)).mono ?_; rintro e w6 ⟨c', fs', v, hans, rfl, ho, hk⟩
  obtain ⟨rfl, rfl⟩ := near_one hans HAN.out
  obtain ⟨A4, c4, rfl, hls⟩ := ho.lies
  have K6 := Lib.hid (K5.out.trans hk)
  have HB6 := Lib.hid (HB5.out.keep hk)
  have HW6 := Lib.hid (HW5.out.keep hk)
  have HL6 := Lib.hid (HL5.out.keep hk)
  have HM6 := Lib.hid hls
  have HE := Lib.hid (error_says c' w6 (laid_kp HL.out K6.out) (near_le hans).1)
  have hle := Lib.hid (near_le hans).2
  generalize hev : errOf c' = ev at *
  clear hk ho hls hans
  go_wp2_with fail
  refine (HE.out).mono ?_; rintro e w7 ⟨rfl, hk⟩
  have K7 := Lib.hid (K6.out.trans hk)
  have HB7 := Lib.hid (HB6.out.keep hk)
  have HW7 := Lib.hid (HW6.out.keep hk)
  have HF := Lib.hid (fracs_any A4 A3 fs' fs' c4 c3 w7 (HM6.out.keep hk) (HL6.out.keep hk) (by have := hle.out; omega) (by have := hle.out; omega))
  clear hk HE
  go_wp2_with fail
  refine (HF.out).mono ?_; rintro e w8 ⟨ht, hk⟩
  obtain rfl := tells_yes ht (by first | rfl | trivial)
  have K8 := Lib.hid (K7.out.trans hk)
  have HB8 := Lib.hid (HB7.out.keep hk)
  have HW8 := Lib.hid (HW7.out.keep hk)
  clear hk ht HF HL5 HL6 HM6 HB4 HB5 HB6 HB7 HW4 HW5 HW6 HW7 HAN hle
  by_cases hm : 1 ≤ most ∧ most ≤ 1000000
  · have HBA := Lib.hid (HBY.out hm.1 hm.2)
    have HIN := Lib.hid (lawIn_any most 1 1000000 w8 true (by simp; exact hm))
    clear hm
    go_wp2_with fail
    refine (HIN.out).mono ?_; rintro e w' ⟨rfl, rfl⟩
    clear HIN
    have HRN := Lib.hid (refNear_any A1 tl c1 (w8.alloc (.cells #[.int .i64 0, .int .i64 0] 23)) (HW8.out.keep ((Kp.rfl' _).new _)) HC1.out)
    have h8 := HB8.out.lt
    have P8 := Lib.hid (HB8.out.keep ((Kp.rfl' _).new (.cells #[.int .i64 0, .int .i64 0] 23)))
    have Q8 := Lib.hid (Box.made w8 (0, 0) 23 _ rfl)
    have K8' := Lib.hid (K8.out.new (.cells #[.int .i64 0, .int .i64 0] 23))
    clear HB8 HW8 K8
    go_wp2_with fail
    refine (HRN.out).mono ?_; rintro e w9 ⟨cz, fz, v9, hans, rfl, ho, hk⟩
    obtain ⟨rfl, rfl⟩ := near_one hans HNE.out
    obtain ⟨A9, c9, rfl, hls⟩ := ho.lies
    have hlen := nearsUp_len tl tl.length
    rw [hlen]
    have hlf : LiesF w9 A9 (nearsUp tl tl.length) := hls
    have HOW := Lib.hid (show OwnF w9 (w8.heap.size + 1) (.slice A9 tl.length c9) (nearsUp tl tl.length) from by rw [hlen] at ho; simpa using ho)
    have HLN := Lib.hid hlen
    have K9 := Lib.hid (K8'.out.trans hk)
    have P9 := Lib.hid (P8.out.keep hk)
    have Q9 := Lib.hid (Q8.out.keep hk)
    obtain ⟨t, ht⟩ : ∃ t, t = tl.length := ⟨_, rfl⟩
    rw [← ht] at HOW HLN hfew HBA ⊢
    have hsz8 := Lib.hid (show w.heap.size ≤ w8.heap.size from by have := h8; omega)
    clear ht hk hans ho hls hlf hlen HRN P8 Q8 K8'
    go_wp2_with fail
    go_loopw [19] (fun i wr => ∃ k : Nat, k ≤ t ∧ i = .int .i64 (k : Int) ∧ Box w8.heap.size (bestUp tl most k) wr ∧ Box w.heap.size ((N : Int), (D : Int)) wr ∧ Kp w wr ∧ OwnF wr (w8.heap.size + 1) (.slice A9 t c9) (nearsUp tl t)) (fun i _ => t - (intOf i).toNat)
    case atStart => exact ⟨0, Nat.zero_le _, rfl, Q9.out, P9.out, K9.out, HOW.out⟩
    case round =>
      obtain ⟨k, hk, rfl, hbx, hby, hkp, hlf⟩ := hrel
      have HX := Lib.hid hbx
      have HY := Lib.hid hby
      have HK := Lib.hid hkp
      have HF9 := Lib.hid hlf
      clear hbx hby hkp hlf
      by_cases hlt : k < t
      · obtain ⟨AA, cc, he, hls⟩ := HF9.out.lies
        injection he with e1 e2 e3
        subst e1
        obtain ⟨ad, rfl, had, hc1, hc2⟩ := hls.at k (by have := HLN.out; omega)
        rw [nearsUp_at tl t k hlt] at hc1 hc2
        have HUP := Lib.hid (show (cv tl k).2 ≤ most → bestUp tl most (k + 1) = cv tl k from fun h => if_pos h)
        have HNO := Lib.hid (show ¬ (cv tl k).2 ≤ most → bestUp tl most (k + 1) = bestUp tl most k from fun h => if_neg h)
        obtain ⟨f, hf⟩ : ∃ f, f = cv tl k := ⟨_, rfl⟩
        rw [← hf] at hc1 hc2 HUP HNO
        clear hf hls e2 e3
        obtain ⟨p, q⟩ := f
        have hc3 := pair_at hc2
        rw [Nat.mul_comm] at hc1
        simp only [] at hc1 hc3
        clear hc2
        have k1 := HX.out.c1
        have k2 := HX.out.c2
        have k3 := HX.out.z1
        have k4 := HX.out.z2
        by_cases hle : q ≤ most
        · have HB3 := Lib.hid (show Box w8.heap.size (bestUp tl most (k + 1)) _ from by
            have := HX.out.put (p, q)
            rw [HUP.out hle]; exact this)
          have HK3 := Lib.hid ((HK.out.put (p := ⟨w8.heap.size, 0, none⟩) hsz8.out (.int .i64 p)).put (p := ⟨w8.heap.size, 1, none⟩) hsz8.out (.int .i64 q))
          have HY3 := Lib.hid (HY.out.far (B' := w8.heap.size) (by omega) (.int .i64 p) (.int .i64 q))
          have HO3 := Lib.hid (own_far HF9.out (.int .i64 p) (.int .i64 q))
          clear HUP HNO
          go_wp2_with fail
          go_roundw
          case rel => exact ⟨k + 1, by omega, by go_num, HB3.out, HY3.out, HK3.out, HO3.out⟩
          case measure => simp [intOf]; omega
        · have HB3 := Lib.hid (show Box w8.heap.size (bestUp tl most (k + 1)) wr from by
            rw [HNO.out hle]; exact HX.out)
          clear HUP HNO
          go_wp2_with fail
          go_roundw
          case rel => exact ⟨k + 1, by omega, by go_num, HB3.out, HY.out, HK.out, HF9.out⟩
          case measure => simp [intOf]; omega
      · obtain rfl : k = t := by omega
        have y1 := HY.out.c1
        have y2 := HY.out.c2
        have g1 := HX.out.c1
        have g2 := HX.out.c2
        have g3 := HX.out.lt
        have HBE := Lib.hid (best_any N D most wr)
        obtain ⟨f, hf⟩ : ∃ f, f = bestUp tl most k := ⟨_, rfl⟩
        rw [← hf] at g1 g2 HBA
        clear hf
        obtain ⟨p, q⟩ := f
        simp only [] at y1 y2 g1 g2
        go_wp2_with fail
        refine (HBE.out).mono ?_; rintro e w10 ⟨cb, f, hans, rfl, hk⟩
        obtain ⟨rfl, rfl⟩ := best_one HBA.out hans
        have K10 := Lib.hid (HK.out.trans hk)
        have g1 := (hk.cell (p := ⟨w8.heap.size, 0, none⟩) g3).trans g1
        have g2 := (hk.cell (p := ⟨w8.heap.size, 1, none⟩) g3).trans g2
        have g3 := Nat.lt_of_lt_of_le g3 hk.size
        have HE := Lib.hid (fun o => errorK_nil 0 (w10.alloc o) true rfl)
        rw [show errOf 0 = .nilIface from rfl]
        clear hk hans y1 y2 HBE
        go_wp2_with fail
        refine (HE.out _).mono ?_; rintro e w11 ⟨rfl, hk⟩
        have K11 := Lib.hid ((K10.out.new _).trans hk)
        have hb := (Box.made w10 (p, q) 23 _ rfl).keep hk
        have e1 := hb.c1
        have e2 := hb.c2
        have hx := ((Kp.rfl' w10).new (.cells #[.int .i64 p, .int .i64 q] 23)).trans hk
        have e3 := (hx.cell (p := ⟨w8.heap.size, 0, none⟩) g3).trans g1
        have e4 := (hx.cell (p := ⟨w8.heap.size, 1, none⟩) g3).trans g2
        simp only [] at e1 e2
        clear hk hb hx g1 g2 g3
        go_wp2_with fail
        go_ret
        exact ⟨rfl, K11.out⟩
  · have HBA := Lib.hid (HBN.out hm)
    have HIN := Lib.hid (lawIn_any most 1 1000000 w8 false (by simp; omega))
    have h1 := HB8.out.c1
    have h2 := HB8.out.c2
    have hlt := HB8.out.lt
    simp only [] at h1 h2
    clear hm
    go_wp2_with fail
    refine (HIN.out).mono ?_; rintro e w' ⟨rfl, rfl⟩
    clear HIN
    have HBE := Lib.hid (fun o => best_any N D most (w8.alloc o))
    go_wp2_with fail
    refine (HBE.out _).mono ?_; rintro e w9 ⟨cb, f, hans, rfl, hk⟩
    obtain ⟨rfl, rfl⟩ := best_one HBA.out hans
    have K9 := Lib.hid ((K8.out.new _).trans hk)
    have hb := (Box.made w8 (0, 0) 23 _ rfl).keep hk
    have g1 := hb.c1
    have g2 := hb.c2
    have g3 := hb.lt
    simp only [] at g1 g2
    have HE := Lib.hid (fun o => error_says 1 (w9.alloc o) (laid_kp HL.out (K9.out.new o)) (by decide))
    clear hk hans hb h1 h2 hlt HBE
    go_wp2_with fail
    refine (HE.out _).mono ?_; rintro e w10 ⟨rfl, hk⟩
    have K10 := Lib.hid ((K9.out.new _).trans hk)
    have hb := (Box.made w9 (0, 0) 23 _ rfl).keep hk
    have e1 := hb.c1
    have e2 := hb.c2
    have hx := ((Kp.rfl' w9).new (.cells #[.int .i64 0, .int .i64 0] 23)).trans hk
    have e3 := (hx.cell (p := ⟨w8.heap.size, 0, none⟩) g3).trans g1
    have e4 := (hx.cell (p := ⟨w8.heap.size, 1, none⟩) g3).trans g2
    simp only [] at e1 e2
    clear hk hb hx g1 g2 g3
    go_wp2_with fail
    go_ret
    exact ⟨rfl, K10.out⟩

theorem walk_ContSays (n d : Int) (A : Option Addr) (l : List Int) (ca : Nat) (most : Int) (w : World) (hL : Told.Laid w) (ha : Lies w A l) (hc : l.length ≤ ca) :
    Calls Tryd.prog 3 #[.agg #[.int .i64 n, .int .i64 d], .slice A l.length ca, .int .i64 most] w fun e w' => e = .returned (.bool true) ∧ Kp w w' := by
  by_cases h : OkF n d
  · obtain ⟨a1, a2, a3, a4⟩ := h
    obtain ⟨N, rfl⟩ : ∃ N : Nat, n = N := ⟨n.toNat, by omega⟩
    obtain ⟨D, rfl⟩ : ∃ D : Nat, d = D := ⟨d.toNat, by omega⟩
    exact says_in N D A l ca most w hL ha hc (by omega) (by omega) (by omega)
  · exact says_out n d A l ca most w hL ha hc h

end Go.Proofs.YtnjbpikcglakoaaDoor
