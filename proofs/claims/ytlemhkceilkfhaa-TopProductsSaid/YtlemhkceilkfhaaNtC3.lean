/- Contracts of package ntt, third part: back, There, Back. -/
import Derived.Test.YtlemhkceilkfhaaNtC2
import Derived.Deep.RegionHeld3
import Derived.Deep.Cut
import Derived.Deep.DeepCutAuto
namespace Go.Proofs.Ytlemhkceilkfhaa
open Go.ChangeShapes Go.WideShapes Go.ChangeAt Go.RowKit
set_option linter.unusedVariables false

section
variable {ops : Array Oper} {o : Oper} {a : Act} {w : World} {K : Act → World → Prop} {Q : Exit → Act → World → Prop}
theorem step_wanted {E : Prop} (hgd : o.guard = Option.none) (h : Oper.wp Try.prog o a w K Q) :
    if Region.wanted o (yielded ops a.tmps) = true then Oper.wp Try.prog o a w K Q else E := by
  have hw : Region.wanted o (yielded ops a.tmps) = true := by simp [Region.wanted, hgd]
  rw [if_pos hw]; exact h
/-- A whole variable of eight is read, at a step of a region that draws. -/
theorem step_load_arr {E : Prop} (hgd : o.guard = Option.none) (x : Operand) (ho : o.op = .load 41 x) (g : Nat) (hx : a.eval x = .pointer (some ⟨g, 0, none⟩)) (l : List Int) (hc : Arr w g l) (hl : l.length = 8)
    (h : K (a.put o.dst (.agg (ints l).toArray)) w) : if Region.wanted o (yielded ops a.tmps) = true then Oper.wp Try.prog o a w K Q else E :=
  step_wanted hgd (by
    unfold Oper.wp execOp
    simp only [ho, hx, Sem.run_bind, arr_load hc hl, Sem.run_pure, Result.andThen_ok]
    exact h)
/-- A whole variable of eight is written. -/
theorem step_store_arr {E : Prop} (hgd : o.guard = Option.none) (x y : Operand) (ho : o.op = .store 41 x y) (g : Nat) (hx : a.eval x = .pointer (some ⟨g, 0, none⟩)) (m : List Int) (hy : a.eval y = .agg (ints m).toArray)
    (l : List Int) (hc : Arr w g l) (hl : l.length = 8) (hm : m.length = 8)
    (h : Arr (w.setRow g (ints m).toArray) g m → K (a.put o.dst undef) (w.setRow g (ints m).toArray)) : if Region.wanted o (yielded ops a.tmps) = true then Oper.wp Try.prog o a w K Q else E :=
  step_wanted hgd (by
    unfold Oper.wp execOp
    simp only [ho, hx, hy, Sem.run_bind, arr_store hc hl hm, Sem.run_pure, Result.andThen_ok]
    exact h hc.setRow)
/-- It yields in every world in which the variable is as it was. -/
theorem yields_load_arr {S : World → Prop} (hgd : o.guard = Option.none) (hw : Region.wanted o (yielded ops a.tmps) = true) (x : Operand) (ho : o.op = .load 41 x) (g : Nat) (hx : a.eval x = .pointer (some ⟨g, 0, none⟩)) (l : List Int) (hS : ∀ w, S w → Arr w g l) (hl : l.length = 8) :
    YieldsIf Try.prog ops S o (.agg (ints l).toArray) a := .inl ⟨hw, fun w hw' => by
    unfold execOp
    simp only [ho, hx, Sem.run_bind, arr_load (hS w hw') hl, Sem.run_pure, Result.andThen_ok]⟩
/-- A variable of eight is made. -/
theorem step_alloc_arr {E : Prop} (hgd : o.guard = Option.none) (ho : o.op = .alloc 41) (w0 : World) (hk : Kp w0 w)
    (h : ∀ g w', Arr w' g zs8 → Kp w w' → w0.heap.size ≤ g → K (a.put o.dst (.pointer (some ⟨g, 0, none⟩))) w') : if Region.wanted o (yielded ops a.tmps) = true then Oper.wp Try.prog o a w K Q else E :=
  step_wanted hgd (by
    unfold Oper.wp execOp
    have hz := arr_zero w
    simp only [ho, Instr.alloc, Sem.run_bind, hz, Sem.run_pure, Result.andThen_ok]
    exact h _ _ (Arr.made w zs8) ((Kp.rfl' w).new _) hk.size)
end

set_option maxRecDepth 100000 in
set_option maxHeartbeats 3200000 in
theorem back_any (f : Nat → Nt.G) (w : World) :
    Calls Try.prog 21 #[.agg (ints (Nt.nt f)).toArray] w fun e w' => e = .returned (.agg (ints (Nt.nt (Nt.bk f))).toArray) ∧ Kp w w' := by
  have TRF := Lib.hid (fun wx => transform_any 253 wx)
  rw [show (((253 : Nt.G).val : Nat) : Int) = 253 from rfl] at TRF
  have TRN := Lib.hid (fun gp (wx : World) (hp : Arr wx gp (Nt.nt (Nt.pw 253))) => turn_any 253 f gp wx hp)
  have HBK := Lib.hid (show Nt.bk f = fun i => Nt.tr 253 f i * 225 from rfl)
  obtain ⟨L, hL⟩ : ∃ L, L = ints (Nt.nt f) := ⟨_, rfl⟩
  rw [← hL] at TRN ⊢
  have HLL := Lib.hid hL
  clear hL
  go_enter Try.func21, Try.ntmps21
  go_upto_region 1 with (fail)
  obtain ⟨w1, hw1⟩ : ∃ w1, w1 = w.alloc (.cells L.toArray 41) := ⟨_, rfl⟩
  have B1 : Arr w1 w.heap.size (Nt.nt f) := by rw [hw1, HLL.out]; exact Arr.made w _
  have K1 : Kp w w1 := by rw [hw1]; exact (Kp.rfl' w).new _
  have S1 : w1.heap.size = w.heap.size + 1 := by rw [hw1]; simp
  obtain ⟨w2, hw2⟩ : ∃ w2, w2 = w1.alloc (.cells (ints zs8).toArray 41) := ⟨_, rfl⟩
  have C2 : Arr w2 (w.heap.size + 1) zs8 := by rw [hw2, ← S1]; exact Arr.made w1 _
  have K2 : Kp w1 w2 := by rw [hw2]; exact (Kp.rfl' w1).new _
  change Code.wp _ _ _ _ ((w.alloc (.cells L.toArray 41)).alloc (.cells (ints zs8).toArray 41))
  rw [← hw1, ← hw2]
  have HB := Lib.hid (B1.keep K2)
  have HC := Lib.hid C2
  have KW := Lib.hid (K1.trans K2)
  have S2 : w2.heap.size = w.heap.size + 2 := by rw [hw2]; simp; omega
  obtain ⟨g1, hg1⟩ : ∃ g1, g1 = w.heap.size + 1 := ⟨_, rfl⟩
  obtain ⟨g0, hg0⟩ : ∃ g0, g0 = w.heap.size := ⟨_, rfl⟩
  have GE := Lib.hid (show g1 < w2.heap.size by omega)
  have GW := Lib.hid (show w.heap.size ≤ g1 by omega)
  rw [← hg1] at HC ⊢
  rw [← hg0] at HB ⊢
  clear hw1 hw2 hg1 hg0 B1 C2 K1 K2 S1 S2
  have kk := Kp.rfl' w2
  go_cut [3] from 3 to 7 (fun p wc => ∃ g, p = .pointer (some ⟨g, 0, none⟩) ∧ Arr wc g (Nt.nt (Nt.tr 253 f)) ∧ w2.heap.size ≤ g ∧ Kp w2 wc)
  case first =>
    refine wp_region_held_drew (S := fun w' => Kp w2 w') (by kernel_rfl) ((Kp.rfl' _).drewN 1) (fun hHeld => ?_)
    refine wpAnyH_take (i := 1) rfl (by kernel_rfl) (by kernel_rfl) (by kernel_rfl) (fun _ _ _ h => h) (yields_load_arr rfl rfl _ rfl g0 rfl (Nt.nt f) (fun w' h => HB.out.keep h) (Nt.len_nt f)) hHeld ?_
    rw [← HLL.out]
    try dsimp only [Act.put, List.setIfInBounds_toArray, List.set_cons_zero, List.set_cons_succ]
    refine wpAnyH_ready (rs := [0, 3]) (by kernel_rfl) (by simp) ?_
    refine AllReadyH.cons rfl (fun K hK => ?_) (AllReadyH.cons rfl (fun K hK => ?_) AllReadyH.nil)
    · go_simp
      go_at_call 19; (with_reducible refine (TRF.out _).mono ?_); rintro e w3 ⟨gp, rfl, ap, k3⟩
      go_wp2_with fail
      refine hK.out _ _ (Kp.trans hHeld k3) (fun hHeld => ?_)
      (try clear hK K); try dsimp only [Act.put, List.setIfInBounds_toArray, List.set_cons_zero, List.set_cons_succ]
      refine wpAnyH_ready (rs := [2, 3]) (by kernel_rfl) (by simp) ?_
      refine AllReadyH.cons rfl (fun K hK => ?_) (AllReadyH.cons rfl (fun K hK => ?_) AllReadyH.nil)
      · go_simp
        go_at_call 27; (with_reducible refine (TRN.out gp _ (by first | exact ap | exact ap.keep kA)).mono ?_); rintro e w4 ⟨rfl, k4⟩
        go_wp2_with fail
        refine hK.out _ _ (Kp.trans hHeld k4) (fun hHeld => ?_)
        (try clear hK K); try dsimp only [Act.put, List.setIfInBounds_toArray, List.set_cons_zero, List.set_cons_succ]
        refine wpAnyH_ready (rs := [3]) (by kernel_rfl) (by simp) ?_
        refine AllReadyH.cons rfl (fun K hK => ?_) AllReadyH.nil
        refine step_alloc_arr rfl rfl w2 hHeld ?_; intro g wA hA kA hge
        show K (Act.put _ (some 3) _) _
        refine hK.out _ _ (Kp.trans hHeld kA) (fun hHeld => ?_)
        (try clear hK K); try dsimp only [Act.put, List.setIfInBounds_toArray, List.set_cons_zero, List.set_cons_succ]
        refine wpAnyH_ready (rs := [4]) (by kernel_rfl) (by simp) ?_
        refine AllReadyH.cons rfl (fun K hK => ?_) AllReadyH.nil
        refine step_store_arr rfl _ _ rfl _ rfl (Nt.nt (Nt.tr 253 f)) rfl zs8 (by first | exact hA | exact hA.keep k4 | exact (hA.keep k3).keep k4) rfl (Nt.len_nt _) ?_; intro hS
        show K (Act.put _ none _) _
        refine hK.out _ _ (kp_setRow hHeld hge _) (fun hHeld => ?_)
        (try clear hK K); try dsimp only [Act.put, List.setIfInBounds_toArray, List.set_cons_zero, List.set_cons_succ]
        refine wpAnyH_done (by kernel_rfl) ?_ _
        go_wp2_with fail
        go_meet
        case rel => exact ⟨g, rfl, hS, hge, hHeld⟩
      · refine step_alloc_arr rfl rfl w2 hHeld ?_; intro g wA hA kA hge
        show K (Act.put _ (some 3) _) _
        refine hK.out _ _ (Kp.trans hHeld kA) (fun hHeld => ?_)
        (try clear hK K); try dsimp only [Act.put, List.setIfInBounds_toArray, List.set_cons_zero, List.set_cons_succ]
        refine wpAnyH_ready (rs := [2]) (by kernel_rfl) (by simp) ?_
        refine AllReadyH.cons rfl (fun K hK => ?_) AllReadyH.nil
        go_simp
        go_at_call 27; (with_reducible refine (TRN.out gp _ (by first | exact ap | exact ap.keep kA)).mono ?_); rintro e w4 ⟨rfl, k4⟩
        go_wp2_with fail
        refine hK.out _ _ (Kp.trans hHeld k4) (fun hHeld => ?_)
        (try clear hK K); try dsimp only [Act.put, List.setIfInBounds_toArray, List.set_cons_zero, List.set_cons_succ]
        refine wpAnyH_ready (rs := [4]) (by kernel_rfl) (by simp) ?_
        refine AllReadyH.cons rfl (fun K hK => ?_) AllReadyH.nil
        refine step_store_arr rfl _ _ rfl _ rfl (Nt.nt (Nt.tr 253 f)) rfl zs8 (by first | exact hA | exact hA.keep k4 | exact (hA.keep k3).keep k4) rfl (Nt.len_nt _) ?_; intro hS
        show K (Act.put _ none _) _
        refine hK.out _ _ (kp_setRow hHeld hge _) (fun hHeld => ?_)
        (try clear hK K); try dsimp only [Act.put, List.setIfInBounds_toArray, List.set_cons_zero, List.set_cons_succ]
        refine wpAnyH_done (by kernel_rfl) ?_ _
        go_wp2_with fail
        go_meet
        case rel => exact ⟨g, rfl, hS, hge, hHeld⟩
    · refine step_alloc_arr rfl rfl w2 hHeld ?_; intro g wA hA kA hge
      show K (Act.put _ (some 3) _) _
      refine hK.out _ _ (Kp.trans hHeld kA) (fun hHeld => ?_)
      (try clear hK K); try dsimp only [Act.put, List.setIfInBounds_toArray, List.set_cons_zero, List.set_cons_succ]
      refine wpAnyH_ready (rs := [0]) (by kernel_rfl) (by simp) ?_
      refine AllReadyH.cons rfl (fun K hK => ?_) AllReadyH.nil
      go_simp
      go_at_call 19; (with_reducible refine (TRF.out _).mono ?_); rintro e w3 ⟨gp, rfl, ap, k3⟩
      go_wp2_with fail
      refine hK.out _ _ (Kp.trans hHeld k3) (fun hHeld => ?_)
      (try clear hK K); try dsimp only [Act.put, List.setIfInBounds_toArray, List.set_cons_zero, List.set_cons_succ]
      refine wpAnyH_ready (rs := [2]) (by kernel_rfl) (by simp) ?_
      refine AllReadyH.cons rfl (fun K hK => ?_) AllReadyH.nil
      go_simp
      go_at_call 27; (with_reducible refine (TRN.out gp _ (by first | exact ap | exact ap.keep kA)).mono ?_); rintro e w4 ⟨rfl, k4⟩
      go_wp2_with fail
      refine hK.out _ _ (Kp.trans hHeld k4) (fun hHeld => ?_)
      (try clear hK K); try dsimp only [Act.put, List.setIfInBounds_toArray, List.set_cons_zero, List.set_cons_succ]
      refine wpAnyH_ready (rs := [4]) (by kernel_rfl) (by simp) ?_
      refine AllReadyH.cons rfl (fun K hK => ?_) AllReadyH.nil
      refine step_store_arr rfl _ _ rfl _ rfl (Nt.nt (Nt.tr 253 f)) rfl zs8 (by first | exact hA | exact hA.keep k4 | exact (hA.keep k3).keep k4) rfl (Nt.len_nt _) ?_; intro hS
      show K (Act.put _ none _) _
      refine hK.out _ _ (kp_setRow hHeld hge _) (fun hHeld => ?_)
      (try clear hK K); try dsimp only [Act.put, List.setIfInBounds_toArray, List.set_cons_zero, List.set_cons_succ]
      refine wpAnyH_done (by kernel_rfl) ?_ _
      go_wp2_with fail
      go_meet
      case rel => exact ⟨g, rfl, hS, hge, hHeld⟩
  case rest =>
    obtain ⟨g, rfl, hA, hge, hk⟩ := hcut
    have HA := Lib.hid hA
    have HK := Lib.hid hk
    have HGE := Lib.hid hge
    have NE := Lib.hid (show g1 ≠ g from fun e => by have := GE.out; omega)
    clear hA hk hge kk TRF TRN HB
    go_wp2_with fail
    go_loopw [8] (fun i wr => ∃ k : Nat, k ≤ 8 ∧ i = .int .i64 (k : Int) ∧ Arr wr g (Nt.nt (Nt.part (Nt.tr 253 f) (Nt.bk f) k)) ∧ Kp w2 wr) (fun i _ => 8 - (intOf i).toNat)
    case atStart => exact ⟨0, Nat.zero_le _, rfl, by rw [Nt.part_start]; exact HA.out, HK.out⟩
    case round =>
      obtain ⟨k, hk, rfl, hr, hkp⟩ := hrel
      have HR := Lib.hid hr
      have HKP := Lib.hid hkp
      clear hr hkp
      by_cases hlt : k < 8
      · have hcell := HR.out.cell k (by rw [Nt.len_nt]; exact hlt)
        rw [Nt.nt_at _ k hlt, Nt.part_at] at hcell
        have hfree := HR.out.free k
        have HV := Lib.hid (Nt.val_mul (Nt.tr 253 f k) 225)
        rw [show (((225 : Nt.G).val : Nat) : Int) = 225 from rfl] at HV
        have HS := Lib.hid (Nt.part_step (Nt.tr 253 f) (Nt.bk f) k)
        have x1 := Nt.val_bound (Nt.tr 253 f k)
        generalize ((Nt.tr 253 f k).val : Int) = x at *
        go_wp2_with fail
        go_roundw
        case rel =>
          refine ⟨k + 1, by omega, by go_num, ?_, HKP.out.put (p := ⟨g, k, none⟩) HGE.out _⟩
          rw [← HS.out]
          rw [HV.out]
          exact HR.out.put _ _
        case measure => simp [intOf]; omega
      · obtain rfl : k = 8 := by omega
        rw [Nt.part_end] at HR
        have hd := HR.out
        have hc := HC.out.keep HKP.out
        go_wp2_with (first
          | refine wpList_load_arr rfl _ rfl _ rfl (Nt.nt (Nt.bk f)) (by assumption) (Nt.len_nt _) ?_
          | refine wpList_store_arr rfl _ _ rfl _ rfl (Nt.nt (Nt.bk f)) rfl zs8 (by assumption) rfl (Nt.len_nt _) ?_)
        exact bodyPost_ret (v := .agg (ints (Nt.nt (Nt.bk f))).toArray) (results_arr rfl _ rfl hc.setRow (Nt.len_nt _)) rfl ⟨rfl, kp_setRow (KW.out.trans HKP.out) GW.out _⟩

end Go.Proofs.Ytlemhkceilkfhaa
