/- The law TopGolden. -/
import Derived.Test.YtknpcdnlknlagaaRcFact
import Derived.Test.YtknpcdnlknlagaaLawIn
import Derived.Test.YtknpcdnlknlagaaMid
import Derived.Test.YtknpcdnlknlagaaContC
import Derived.BigQuiet
import Derived.Deep.RegionLaw
import Derived.StillTailTactics
namespace Go.Proofs.Ytknpcdnlknlagaa
open Go.ChangeShapes Go.WideShapes Go.ChangeAt Go.RowKit
open Cont
set_option linter.unusedVariables false

/-- The numbers of the row from 1 and 1. -/
def gd (i : Nat) : Int := (pairAt 1 1 i).1
theorem rc_gold : Rc 2 ones2 ones2 [1, 1] [1, 1] := ⟨by decide +kernel, by decide +kernel, by decide, by decide⟩
theorem gold19 : rowF 19 (Mx.sq 2 ones2 ones2) = Mx.row 19 gd := fib_row ones2 (a := 1) (b := 1) rfl rfl 19
theorem gd_bound {k : Nat} (hk : k < 19) : 1 ≤ gd k ∧ gd k ≤ 4181 := by
  have h : ∀ k : Fin 19, 1 ≤ gd k.val ∧ gd k.val ≤ 4181 := by decide +kernel
  exact h ⟨k, hk⟩
/-- Each two that follow one another take as many divisions as their place tells. -/
theorem gd_steps {n : Nat} (h : 2 ≤ n) (h2 : n ≤ 17) : Num.stp (gd (n + 1)).toNat (gd n).toNat = n := by
  have h' : ∀ n : Fin 18, 2 ≤ n.val → Num.stp (gd (n.val + 1)).toNat (gd n.val).toNat = n.val := by decide +kernel
  exact h' ⟨n, by omega⟩ h
theorem gd_ok (n : Nat) : OkT (List.replicate n 1) := fun k hk => by
  rw [List.length_replicate] at hk
  have e : (List.replicate n (1 : Int)).getD k 0 = 1 := by simp [hk]
  rw [e]; exact ⟨by decide, by decide, fun _ => by decide⟩
theorem gd_cv {n i : Nat} (h : i < n) (h2 : i ≤ 17) : cv (List.replicate n 1) i = (gd (i + 1), gd i) := by
  have h' : ∀ i : Fin 18, (fw s0 (List.replicate (i.val + 1) 1)).2 = (gd (i.val + 1), gd i.val) := by decide +kernel
  have := h' ⟨i, by omega⟩
  unfold cv
  rw [List.take_replicate, Nat.min_eq_left (by omega)]
  exact this
theorem gd_near {n : Nat} (h2 : n ≤ 17) : NearAns (List.replicate (n + 1) 1) 0 (nearsUp (List.replicate (n + 1) 1) (n + 1)) := by
  refine .inr (.inr (.inr (.inr ⟨by simp, by simp; omega, gd_ok _, fun i hi => ?_, rfl, by rw [List.length_replicate]⟩)))
  rw [List.length_replicate] at hi
  rw [gd_cv hi (by omega)]
  by_cases e : i = 17
  · subst e; unfold Sm; decide +kernel
  · have b1 := gd_bound (k := i) (by omega)
    have b2 := gd_bound (k := i + 1) (by omega)
    unfold Sm
    constructor <;> simp only [] <;> omega

set_option maxRecDepth 100000 in
set_option maxHeartbeats 3200000 in
theorem gold_main (n : Nat) (w : World) (hn : 2 ≤ n ∧ n ≤ 17) :
    Calls Try.prog 6 #[.int .i64 (n : Int)] w fun e w' => e = .returned (.bool true) ∧ Kp w w' := by
  have R1 := Lib.hid (fun (w1 : World) (g1 g2 : Nat) (h1 : Lies w1 (some ⟨g1, 0, none⟩) [1, 1]) (h2 : Lies w1 (some ⟨g2, 0, none⟩) [1, 1]) => Row_rc rc_gold (some ⟨g1, 0, none⟩) (some ⟨g2, 0, none⟩) 2 2 19 w1 h1 h2 (by decide))
  rw [gold19] at R1
  have I1 := Lib.hid (fun w => topIn_any (n : Int) 2 17 w true (by simp; omega))
  obtain ⟨n2, hn2⟩ : ∃ n2, n2 = n + 1 := ⟨_, rfl⟩
  have e2 : (n : Int) + 1 = (n2 : Int) := by omega
  have b0 : n < 19 := by omega
  have b2 : n2 < 19 := by omega
  have c0 := gd_bound b0
  have c2 := gd_bound b2
  have ST := Lib.hid (fun w => steps_in (gd n2) (gd n) w (by omega) (by omega) (by omega) (by omega))
  have hst := gd_steps hn.1 hn.2
  rw [← hn2] at hst
  rw [hst] at ST
  have NE := Lib.hid (gd_near hn.2)
  have CV := Lib.hid (gd_cv (n := n + 1) (i := n) (by omega) hn.2)
  rw [← hn2] at NE CV
  have NR := Lib.hid (fun (w1 : World) (A : Option Addr) (c : Nat) (h : Lies w1 A (List.replicate n2 1)) => near_ok A (List.replicate n2 1) c w1 h (by rw [List.length_replicate]; omega) (by rw [List.length_replicate]; omega) (gd_ok n2))
  rw [List.length_replicate] at NR
  have CE := Lib.hid (fun (w : World) (g : Nat) (h : Row w g (Mx.row 19 gd)) (j : Nat) (hj : j < 19) => show w.cell? ⟨g, j, none⟩ = some (.int .i64 (gd j)) from by
    have := h.cell j (by rw [Mx.len_row]; exact hj)
    rwa [Mx.row_at _ _ _ hj] at this)
  have hwn2 : IntKind.i64.wrap ((n : Int) + 1) = (n2 : Int) := by rw [e2]; exact IntWalk.i64_in _ (by omega)
  have hwn3 : IntKind.i64.wrap (n2 : Int) = (n2 : Int) := IntWalk.i64_in _ (by omega)
  have i1 : (n2 : Int) < 19 := by omega
  have i2 : (n : Int) < 19 := by omega
  have i3 : (0 : Int) ≤ (n2 : Int) := by omega
  have i4 : (0 : Int) ≤ (n : Int) := by omega
  have HB := Lib.hid (And.intro b0 b2)
  have HN := Lib.hid hn2
  have h18 := Lib.hid (show gd 18 = 4181 by decide +kernel)
  clear c0 c2 hst hn hn2
  go_enter Try.func6, Try.ntmps6
  go_wp2_with fail
  refine (R1.out _ w.heap.size (w.heap.size + 1) ((lies_new w _ [1, 1]).keep ((Kp.rfl' _).new _)) (lies_new' (w.alloc _) _ [1, 1] _ (by simp))).mono ?_; rintro e w2 ⟨g, rfl, hr, _, k2⟩
  have HR := Lib.hid hr
  have K2 := Lib.hid ((((Kp.rfl' w).new _).new _).trans k2)
  have y18 := CE.out _ _ hr 18 (by decide)
  rw [h18.out] at y18
  have y2 := CE.out _ _ hr n2 HB.out.2
  have y0 := CE.out _ _ hr n HB.out.1
  clear hr k2
  go_wp2_with fail
  refine (I1.out _).mono ?_; rintro e w' ⟨rfl, rfl⟩
  go_wp2_with fail
  go_region_law (first
    | (go_simp; go_at_call 17; refine (ST.out _).mono ?_; rintro e w3 ⟨rfl, k3⟩; have K3 := Lib.hid ((K2.out.drewN 1).trans k3.kp); have HR3 := Lib.hid ((HR.out.drewN 1).keep k3.kp); clear k3))
  all_goals
    clear y2 y0 y18 K2 HR ST R1
    go_wp2_with fail
    go_loopw [7, 8] (fun v i wr => ∃ k : Nat, k ≤ n2 ∧ i = .int .i64 (k : Int) ∧ Own wr w3.heap.size v (List.replicate k 1) ∧ Kp w3 wr) (fun _ i _ => n2 - (intOf i).toNat)
    case atStart => exact ⟨0, Nat.zero_le _, rfl, Own.none _ _, Kp.rfl' _⟩
    case round =>
      obtain ⟨k, hk, rfl, hown, hkp⟩ := hrel
      have HO := Lib.hid hown
      have HK := Lib.hid hkp
      have hsz := hkp.size
      clear hown hkp
      by_cases hlt : k < n2
      · have hle : (k : Int) ≤ (n : Int) := by omega
        have hlen : (List.replicate k (1 : Int)).length + 1 ≤ 17000000000000 := by rw [List.length_replicate]; omega
        go_wp2_with (at_builtin; refine wpList_push rfl _ _ rfl w3.heap.size _ (List.replicate k 1) 1 wr.heap.size 1 rfl rfl (HO.out.new _) (by simp) hlen (by simp; omega) ?_; intro v' w' h1 h2 _; have HO' := Lib.hid (show Own w' w3.heap.size v' (List.replicate (k + 1) 1) by rw [List.replicate_succ']; exact h1); have HK' := Lib.hid (own_below (HO.out.new _) (HK.out.new _) (Nat.le_trans hsz (by simp)) h2); clear h1 h2)
        go_roundw
        case rel => exact ⟨k + 1, by omega, by go_num, HO'.out, HK'.out⟩
        case measure => simp [intOf]; omega
      · obtain rfl : k = n2 := by omega
        have hle : ¬ (k : Int) ≤ (n : Int) := by omega
        obtain ⟨Z, cz, hv, lz, _⟩ := HO.out.cap
        rw [List.length_replicate] at hv
        subst hv
        have NX := Lib.hid (NR.out wr Z cz lz)
        have HR4 := Lib.hid (HR3.out.keep HK.out)
        have K4 := Lib.hid (K3.out.trans HK.out)
        clear lz HO HK hsz HR3 K3 NR
        go_wp2_with fail
        refine (NX.out).mono ?_; rintro e w5 ⟨cc, fs, v, hans, rfl, ho, hk5⟩
        obtain ⟨rfl, rfl⟩ := near_one NE.out hans
        rw [show errOf 0 = .nilIface from rfl]
        obtain ⟨B, cb, rfl, hls⟩ := ho.lies
        obtain ⟨ad, rfl, _, hc1, hc2⟩ := hls.at n (by rw [nearsUp_len]; omega)
        rw [nearsUp_at _ _ n (by omega), CV.out] at hc1 hc2
        rw [nearsUp_len]
        have hc3 := pair_at hc2
        rw [Nat.mul_comm] at hc1
        simp only [] at hc1 hc3
        have hr5 := HR4.out.keep hk5
        have y2 := CE.out _ _ hr5 k HB.out.2
        have y0 := CE.out _ _ hr5 n HB.out.1
        have K5 := Lib.hid (K4.out.trans hk5)
        clear hc2 ho hls hans hk5 hr5 NX HR4 K4 CE NE CV hle
        generalize gd k = x2 at *
        generalize gd n = x0 at *
        go_wp2_with fail
        go_quiet (fail)
        go_wp2_with fail
        go_ret
        exact ⟨rfl, K5.out.drewN _⟩

set_option maxRecDepth 100000 in
theorem walk_TopGolden (n : Int) (w : World) :
    Calls Try.prog 6 #[.int .i64 n] w fun e w' => e = .returned (.bool true) ∧ Kp w w' := by
  by_cases h1 : 2 ≤ n ∧ n ≤ 17
  · obtain ⟨a, rfl⟩ := Int.eq_ofNat_of_zero_le (show 0 ≤ n by omega)
    exact gold_main a w (by omega)
  · have R1 := Lib.hid (fun (w1 : World) (g1 g2 : Nat) (h1 : Lies w1 (some ⟨g1, 0, none⟩) [1, 1]) (h2 : Lies w1 (some ⟨g2, 0, none⟩) [1, 1]) => Row_rc rc_gold (some ⟨g1, 0, none⟩) (some ⟨g2, 0, none⟩) 2 2 19 w1 h1 h2 (by decide))
    rw [gold19] at R1
    have I1 := Lib.hid (fun w => topIn_any n 2 17 w false (by simp; omega))
    have h18 := Lib.hid (show gd 18 = 4181 by decide +kernel)
    clear h1
    go_enter Try.func6, Try.ntmps6
    go_wp2_with fail
    refine (R1.out _ w.heap.size (w.heap.size + 1) ((lies_new w _ [1, 1]).keep ((Kp.rfl' _).new _)) (lies_new' (w.alloc _) _ [1, 1] _ (by simp))).mono ?_; rintro e w2 ⟨g, rfl, hr, _, k2⟩
    have K2 := Lib.hid ((((Kp.rfl' w).new _).new _).trans k2)
    have y18 := hr.cell 18 (by rw [Mx.len_row]; decide)
    rw [Mx.row_at _ _ _ (by decide), h18.out] at y18
    clear hr k2
    go_wp2_with fail
    refine (I1.out _).mono ?_; rintro e w' ⟨rfl, rfl⟩
    go_wp2_with fail
    go_ret
    exact ⟨rfl, K2.out⟩

end Go.Proofs.Ytknpcdnlknlagaa
