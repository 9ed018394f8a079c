/- The law ContSays: the program and the document's answer agree. -/
import Derived.Test.YtnjbpikcglakoaaDoorContRefO
import Derived.Test.YtnjbpikcglakoaaDoorErrK
namespace Go.Proofs.YtnjbpikcglakoaaDoor
open Go.ChangeShapes Go.WideShapes Go.ChangeAt Go.RowKit
open Cont
set_option linter.unusedVariables false

/-- Error says yes to the error that is told. -/
theorem error_says (c : Nat) (w : World) (hl : Told.Laid w) (hc : c ≤ 100) :
    Calls Tryd.prog 7 #[errOf c, .int .i64 (c : Int)] w fun e w' => e = .returned (.bool true) ∧ Kp w w' := by
  by_cases h : c = 0
  · subst h; exact errorK_nil 0 w true rfl
  · rw [show errOf c = .iface 43 (.int .i64 (c : Int)) from if_neg h]
    exact errorK_hit c c w hl (by omega) true (by simp)

theorem near_le {l : List Int} {c : Nat} {fs : List Fr} (h : NearAns l c fs) : c ≤ 100 ∧ fs.length ≤ 30 := by
  rcases h with ⟨rfl, rfl, rfl⟩ | ⟨h1, rfl, rfl⟩ | ⟨h1, h2, h3, rfl, rfl⟩ | ⟨h1, h2, h3, h4, rfl, rfl⟩ | ⟨h1, h2, h3, h4, rfl, rfl⟩
  · exact ⟨by omega, by simp⟩
  · exact ⟨by omega, by simp⟩
  · exact ⟨by omega, by simp⟩
  · exact ⟨by omega, by simp⟩
  · exact ⟨by omega, by rw [nearsUp_len]; exact h2⟩

set_option maxRecDepth 100000 in
set_option maxHeartbeats 3200000 in
theorem says_out (n d : Int) (A : Option Addr) (l : List Int) (ca : Nat) (most : Int) (w : World) (hL : Told.Laid w) (ha : Lies w A l) (hc : l.length ≤ ca) (h : ¬ OkF n d) :
    Calls Tryd.prog 3 #[.agg #[.int .i64 n, .int .i64 d], .slice A l.length ca, .int .i64 most] w fun e w' => e = .returned (.bool true) ∧ Kp w w' := by
  have HL := Lib.hid hL
  have HA := Lib.hid ha
  have HT := Lib.hid (fun w => terms_out n d w h)
  have HBA := Lib.hid (show BestAns n d most 1 (0, 0) from .inl ⟨fun o => h o.1, rfl, rfl⟩)
  have H := Lib.hid h
  clear hL ha h
  go_enter Tryd.func3, Tryd.ntmps3
  go_wp2_with fail
  refine (refFraction_any n d _).mono ?_; rintro e w1 ⟨hh, hk⟩
  obtain rfl : e = .returned (.int .i64 1) := by
    rcases hh with ⟨h, _⟩ | ⟨_, h⟩
    · exact absurd h H.out
    · exact h
  have hb := (Box.made w (n, d) 23 _ rfl).keep hk
  have HB := Lib.hid hb
  have K1 := Lib.hid (((Kp.rfl' w).new _).trans hk)
  have h1 := hb.c1
  have h2 := hb.c2
  simp only [] at h1 h2
  clear hh hk hb
  go_wp2_with fail
  refine (HT.out _).mono ?_; rintro e w2 ⟨rfl, hk⟩
  have K2 := Lib.hid (K1.out.trans hk)
  have HB2 := Lib.hid (HB.out.keep hk)
  clear hk h1 h2
  go_wp2_with fail
  refine (error_says 1 _ (laid_kp HL.out K2.out) (by decide)).mono ?_; rintro e w3 ⟨rfl, hk⟩
  have K3 := Lib.hid (K2.out.trans hk)
  have HB3 := Lib.hid (HB2.out.keep hk)
  clear hk
  go_wp2_with fail
  refine (ints_any none none [] [] 0 0 _ (Lies.empty _ _) (Lies.empty _ _) (by decide) (by decide)).mono ?_; rintro e w4 ⟨ht, hk⟩
  obtain rfl := tells_yes ht (by first | rfl | trivial)
  have K4 := Lib.hid (K3.out.trans hk)
  have HB4 := Lib.hid (HB3.out.keep hk)
  clear hk ht
  go_wp2_with fail
  refine (refNear_any A l ca _ (HA.out.keep K4.out) hc).mono ?_; rintro e w5 ⟨c, fs, v, hans, rfl, ho, hk⟩
  obtain ⟨A3, c3, rfl, hls⟩ := ho.lies
  have K5 := Lib.hid (K4.out.trans hk)
  have HB5 := Lib.hid (HB4.out.keep hk)
  have HL5 := Lib.hid hls
  have HAN := Lib.hid hans
  clear hk ho hls hans
  go_wp2_with fail
  refine (near_every A l ca _ (HA.out.keep K5.out)).mono ?_; rintro e w6 ⟨c', fs', v, hans, rfl, ho, hk⟩
  obtain ⟨rfl, rfl⟩ := near_one hans HAN.out
  obtain ⟨A4, c4, rfl, hls⟩ := ho.lies
  have K6 := Lib.hid (K5.out.trans hk)
  have HB6 := Lib.hid (HB5.out.keep hk)
  have HL6 := Lib.hid (HL5.out.keep hk)
  have HM6 := Lib.hid hls
  have HE := Lib.hid (error_says c' w6 (laid_kp HL.out K6.out) (near_le hans).1)
  have hle := Lib.hid (near_le hans).2
  generalize hev : errOf c' = ev at *
  clear hk ho hls hans
  go_wp2_with fail
  refine (HE.out).mono ?_; rintro e w7 ⟨rfl, hk⟩
  have K7 := Lib.hid (K6.out.trans hk)
  have HB7 := Lib.hid (HB6.out.keep hk)
  have HF := Lib.hid (fracs_any A4 A3 fs' fs' c4 c3 w7 (HM6.out.keep hk) (HL6.out.keep hk) (by have := hle.out; omega) (by have := hle.out; omega))
  clear hk HE
  go_wp2_with fail
  refine (HF.out).mono ?_; rintro e w8 ⟨ht, hk⟩
  obtain rfl := tells_yes ht (by first | rfl | trivial)
  have K8 := Lib.hid (K7.out.trans hk)
  have HB8 := Lib.hid (HB7.out.keep hk)
  have h1 := HB8.out.c1
  have h2 := HB8.out.c2
  have hlt := HB8.out.lt
  simp only [] at h1 h2
  clear hk ht HF
  go_wp2_with fail
  refine (best_any n d most _).mono ?_; rintro e w9 ⟨cb, f, hans, rfl, hk⟩
  obtain ⟨rfl, rfl⟩ := best_one HBA.out hans
  have K9 := Lib.hid ((K8.out.new _).trans hk)
  have hb := (Box.made w8 (0, 0) 23 _ rfl).keep hk
  have g1 := hb.c1
  have g2 := hb.c2
  have g3 := hb.lt
  simp only [] at g1 g2
  have HE := Lib.hid (fun o => error_says 1 (w9.alloc o) (laid_kp HL.out (K9.out.new o)) (by decide))
  clear hk hans hb h1 h2 hlt
  go_wp2_with fail
  refine (HE.out _).mono ?_; rintro e w10 ⟨rfl, hk⟩
  have K10 := Lib.hid ((K9.out.new _).trans hk)
  have hb := (Box.made w9 (0, 0) 23 _ rfl).keep hk
  have e1 := hb.c1
  have e2 := hb.c2
  have hx := ((Kp.rfl' w9).new (.cells #[.int .i64 0, .int .i64 0] 23)).trans hk
  have e3 := (hx.cell (p := ⟨w8.heap.size, 0, none⟩) g3).trans g1
  have e4 := (hx.cell (p := ⟨w8.heap.size, 1, none⟩) g3).trans g2
  simp only [] at e1 e2
  clear hk hb hx g1 g2 g3
  go_wp2_with fail
  go_ret
  exact ⟨rfl, K10.out⟩

end Go.Proofs.YtnjbpikcglakoaaDoor
