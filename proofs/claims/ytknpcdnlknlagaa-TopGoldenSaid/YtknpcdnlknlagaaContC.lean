/- Contracts of package cont: check, next, Terms, Near, Best. -/
import Derived.Test.YtknpcdnlknlagaaBz
import Derived.Test.YtknpcdnlknlagaaFrac
import Derived.Test.YtknpcdnlknlagaaRowG
import Derived.LoopN
import Derived.Deep.RegionHeld3
import Derived.Deep.RegionLaw
import Derived.WalkSpells
import Derived.Deep.CutRange
namespace Go.Proofs.Ytknpcdnlknlagaa
open Go.ChangeShapes Go.WideShapes Go.ChangeAt Go.RowKit
open Cont
set_option linter.unusedVariables false

/-- A fraction as a value. -/
abbrev frv (f : Fr) : Value := .agg #[.int .i64 f.1, .int .i64 f.2]

theorem next_any (b1 b2 t1 t2 x : Int) (w : World) (h1 : 0 ≤ b1) (h2 : b1 ≤ 1000000) (h3 : 0 ≤ b2) (h4 : b2 ≤ 1000000) (h5 : 0 ≤ t1) (h6 : t1 ≤ 1000000) (h7 : 0 ≤ t2) (h8 : t2 ≤ 1000000)
    (h9 : 0 ≤ x) (h10 : x ≤ 1000000) :
    Calls Try.prog 29 #[.agg #[.int .i64 b1, .int .i64 b2], .agg #[.int .i64 t1, .int .i64 t2], .int .i64 x] w fun e w' => e = .returned (.agg #[.int .i64 (x * t1 + b1), .int .i64 (x * t2 + b2)]) ∧ Kp w w' := by
  have m1 := Int.mul_le_mul h10 h6 h5 (by omega)
  have m2 := Int.mul_le_mul h10 h8 h7 (by omega)
  have m3 := Int.mul_nonneg h9 h5
  have m4 := Int.mul_nonneg h9 h7
  go_enter Try.func29, Try.ntmps29
  go_wp2_with fail
  exact bodyPost_ret (v := .agg #[.int .i64 (x * t1 + b1), .int .i64 (x * t2 + b2)]) (by simp [results, Try.results29, go_sem]) rfl ⟨rfl, (((Kp.rfl' w).new _).new _).new _⟩

abbrev errFull : Value := .iface 52 (.int .i64 4)

/-- What check answers: the error's number. -/
def ChkAns (l : List Int) (c : Nat) : Prop :=
  (l.length = 0 ∧ c = 5) ∨ (30 < l.length ∧ c = 4) ∨ (0 < l.length ∧ l.length ≤ 30 ∧ ¬ OkT l ∧ c = 1) ∨ (0 < l.length ∧ l.length ≤ 30 ∧ OkT l ∧ c = 0)
def ChkSays (l : List Int) (e : Ending) : Prop := ∃ c, ChkAns l c ∧ e = .returned (errOf c)

set_option maxHeartbeats 1600000 in
theorem chk_any (A : Option Addr) (l : List Int) (c : Nat) (w : World) (hl : Lies w A l) (hn : l.length ≤ 1000000) :
    Calls Try.prog 28 #[.slice A l.length c] w fun e w' => ChkSays l e ∧ w = w' := by
  have HL := Lib.hid hl
  obtain ⟨n, hn'⟩ : ∃ n, n = l.length := ⟨_, rfl⟩
  rw [← hn'] at hn ⊢
  have HN := Lib.hid hn'
  clear hl hn'
  by_cases h0 : n = 0
  · subst h0
    go_enter Try.func28, Try.ntmps28
    go_wp2_with fail
    go_ret
    exact ⟨⟨5, .inl ⟨HN.out.symm, rfl⟩, rfl⟩, rfl⟩
  have hb0 : ((n : Int) == 0) = false := by rw [beq_eq_false_iff_ne]; omega
  by_cases h30 : 30 < n
  · have h' : (30 : Int) < n := by omega
    go_enter Try.func28, Try.ntmps28
    go_wp2_with fail
    go_ret
    exact ⟨⟨4, .inr (.inl ⟨by rw [← HN.out]; exact h30, rfl⟩), rfl⟩, rfl⟩
  have h' : ¬ (30 : Int) < n := by omega
  go_enter Try.func28, Try.ntmps28
  go_wp2_with fail
  go_loop [15] (fun i => ∃ k : Nat, k ≤ n ∧ i = .int .i64 (k : Int) ∧ ∀ j, j < k → (0 ≤ l.getD j 0 ∧ l.getD j 0 ≤ 1000000 ∧ (0 < j → 1 ≤ l.getD j 0))) (fun i => n - (intOf i).toNat)
  case atStart => exact ⟨0, Nat.zero_le _, rfl, fun j hj => absurd hj (by omega)⟩
  case round =>
    obtain ⟨k, hk, rfl, hg⟩ := hrel
    have HG := Lib.hid hg
    clear hg
    by_cases hlt : k < n
    · obtain ⟨ad, rfl, _, hc⟩ := HL.out k (by have := HN.out; omega)
      obtain ⟨m, hm⟩ : ∃ m, m = l.getD k 0 := ⟨_, rfl⟩
      rw [← hm] at hc
      by_cases hin : 0 ≤ m ∧ m ≤ 1000000 ∧ (0 < k → 1 ≤ m)
      · have GG := Lib.hid (show ∀ j, j < k + 1 → (0 ≤ l.getD j 0 ∧ l.getD j 0 ≤ 1000000 ∧ (0 < j → 1 ≤ l.getD j 0)) from fun j hj => by
          by_cases e : j = k
          · subst e; rw [← hm]; exact hin
          · exact HG.out j (by omega))
        clear hm
        obtain ⟨i1, i2, i3⟩ := hin
        have n1 : ¬ m < 0 := by omega
        have n2 : ¬ 1000000 < m := by omega
        by_cases hk0 : 0 < k
        · have i4 := i3 hk0
          have n3 : (0 : Int) < k := by omega
          have n4 : (m == 0) = false := by rw [beq_eq_false_iff_ne]; omega
          clear i3
          go_wp2_with fail
          go_round
          case rel => exact ⟨k + 1, by omega, by go_num, GG.out⟩
          case measure => simp [intOf]; omega
        · have n3 : ¬ (0 : Int) < k := by omega
          clear i3
          go_wp2_with fail
          go_round
          case rel => exact ⟨k + 1, by omega, by go_num, GG.out⟩
          case measure => simp [intOf]; omega
      · have NF := Lib.hid (show ¬ OkT l from fun f => hin (by have := f k (by have := HN.out; omega); rw [hm]; exact this))
        have FIN := Lib.hid (show ChkSays l (.returned errRange) from ⟨1, .inr (.inr (.inl ⟨by have := HN.out; omega, by have := HN.out; omega, NF.out, rfl⟩)), rfl⟩)
        clear hm
        by_cases n1 : m < 0
        · clear hin
          go_wp2_with fail
          go_ret
          exact ⟨FIN.out, rfl⟩
        by_cases n2 : 1000000 < m
        · clear hin
          go_wp2_with fail
          go_ret
          exact ⟨FIN.out, rfl⟩
        have n3 : (0 : Int) < k := by omega
        obtain rfl : m = 0 := by omega
        clear hin
        go_wp2_with fail
        go_ret
        exact ⟨FIN.out, rfl⟩
    · have FIN := Lib.hid (show ChkSays l (.returned .nilIface) from ⟨0, .inr (.inr (.inr ⟨by have := HN.out; omega, by have := HN.out; omega, fun j hj => HG.out j (by have := HN.out; omega), rfl⟩)), rfl⟩)
      go_wp2_with fail
      go_ret
      exact ⟨FIN.out, rfl⟩

/-- Two boxes of fractions, apart from all that was there when w0 stood; nothing of that has turned. -/
structure Boxes (w0 : World) (B : Nat) (b t : Fr) (w : World) : Prop where
  b1 : w.cell? ⟨B, 0, none⟩ = some (.int .i64 b.1)
  b2 : w.cell? ⟨B, 1, none⟩ = some (.int .i64 b.2)
  t1 : w.cell? ⟨B + 1, 0, none⟩ = some (.int .i64 t.1)
  t2 : w.cell? ⟨B + 1, 1, none⟩ = some (.int .i64 t.2)
  z1 : w.frozen? ⟨B, 0, none⟩ = false
  z2 : w.frozen? ⟨B, 1, none⟩ = false
  z3 : w.frozen? ⟨B + 1, 0, none⟩ = false
  z4 : w.frozen? ⟨B + 1, 1, none⟩ = false
  kp : Kp w0 w

theorem Boxes.lt {w0 w : World} {B : Nat} {b t : Fr} (h : Boxes w0 B b t w) : B + 1 < w.heap.size := cell_lt h.t1
theorem Boxes.keep {w0 w w' : World} {B : Nat} {b t : Fr} (h : Boxes w0 B b t w) (hk : Kp w w') : Boxes w0 B b t w' := by
  have hl := h.lt
  exact ⟨(hk.cell (p := ⟨B, 0, none⟩) (by simp; omega)).trans h.b1, (hk.cell (p := ⟨B, 1, none⟩) (by simp; omega)).trans h.b2, (hk.cell (p := ⟨B + 1, 0, none⟩) hl).trans h.t1, (hk.cell (p := ⟨B + 1, 1, none⟩) hl).trans h.t2,
    (hk.frozen (p := ⟨B, 0, none⟩) (by simp; omega)).trans h.z1, (hk.frozen (p := ⟨B, 1, none⟩) (by simp; omega)).trans h.z2, (hk.frozen (p := ⟨B + 1, 0, none⟩) hl).trans h.z3, (hk.frozen (p := ⟨B + 1, 1, none⟩) hl).trans h.z4, h.kp.trans hk⟩
theorem Boxes.grown {w0 w w' : World} {B : Nat} {b t : Fr} {row : Option Nat} (h : Boxes w0 B b t w) (hg : w.grownBy w' row) (h1 : some B ≠ row) (h2 : some (B + 1) ≠ row) (hk : Kp w0 w') : Boxes w0 B b t w' := by
  have hl := h.lt
  exact ⟨hg.cell h.b1 h1, hg.cell h.b2 h1, hg.cell h.t1 h2, hg.cell h.t2 h2, (hg.frozen_far _ (by simp; omega) h1).trans h.z1, (hg.frozen_far _ (by simp; omega) h1).trans h.z2,
    (hg.frozen_far _ hl h2).trans h.z3, (hg.frozen_far _ hl h2).trans h.z4, hk⟩

/-- The two boxes moved on: the last one's numbers into the first one, new ones into the last one. -/
theorem Boxes.put {w0 w w' : World} {B : Nat} {b t : Fr} (h : Boxes w0 B b t w) (hk : Kp w w') (hB : w0.heap.size ≤ B) (c : Fr) :
    Boxes w0 B t c ((((w'.setCell ⟨B, 0, none⟩ (.int .i64 t.1)).setCell ⟨B, 1, none⟩ (.int .i64 t.2)).setCell ⟨B + 1, 0, none⟩ (.int .i64 c.1)).setCell ⟨B + 1, 1, none⟩ (.int .i64 c.2)) := by
  obtain ⟨h1, h2, h3, h4, h5, h6, h7, h8, h9⟩ := h.keep hk
  refine ⟨?_, ?_, ?_, ?_, ?_, ?_, ?_, ?_, (((h9.put hB _).put hB _).put (Nat.le_succ_of_le hB) _).put (Nat.le_succ_of_le hB) _⟩
  · rw [World.cell?_setCell_other _ _ _ _ (by simp), World.cell?_setCell_other _ _ _ _ (by simp), World.cell?_setCell_other _ _ _ _ (by simp), World.cell?_setCell_same _ _ _ h1]
  · rw [World.cell?_setCell_other _ _ _ _ (by simp), World.cell?_setCell_other _ _ _ _ (by simp)]
    exact World.cell?_setCell_same _ _ _ ((World.cell?_setCell_other _ _ _ _ (by simp)).trans h2)
  · rw [World.cell?_setCell_other _ _ _ _ (by simp)]
    exact World.cell?_setCell_same _ _ _ ((World.cell?_setCell_other _ _ _ _ (by simp)).trans ((World.cell?_setCell_other _ _ _ _ (by simp)).trans h3))
  · exact World.cell?_setCell_same _ _ _ ((World.cell?_setCell_other _ _ _ _ (by simp)).trans ((World.cell?_setCell_other _ _ _ _ (by simp)).trans ((World.cell?_setCell_other _ _ _ _ (by simp)).trans h4)))
  · simp [h5]
  · simp [h6]
  · simp [h7]
  · simp [h8]
theorem ownF_put {w w' : World} {B : Nat} {v : Value} {l : List Fr} (h : OwnF w (B + 2) v l) (hk : Kp w w') (x y z u : Value) :
    OwnF ((((w'.setCell ⟨B, 0, none⟩ x).setCell ⟨B, 1, none⟩ y).setCell ⟨B + 1, 0, none⟩ z).setCell ⟨B + 1, 1, none⟩ u) (B + 2) v l := by
  refine OwnF.other (h.kp hk) fun g hg => ?_
  have hl := (h.lt hg).1
  rw [Below.heap_setCell _ _ _ _ (by simp; omega), Below.heap_setCell _ _ _ _ (by simp; omega), Below.heap_setCell _ _ _ _ (by simp; omega), Below.heap_setCell _ _ _ _ (by simp; omega)]

def NearSays (l : List Int) (w : World) (e : Ending) (w' : World) : Prop :=
  ∃ (c : Nat) (fs : List Fr) (v : Value), NearAns l c fs ∧ e = .returned (.tuple #[v, errOf c]) ∧ OwnF w' w.heap.size v fs ∧ Kp w w'

set_option maxHeartbeats 1600000 in
theorem near_ok (A : Option Addr) (l : List Int) (c : Nat) (w : World) (hl : Lies w A l) (h0 : 0 < l.length) (h30 : l.length ≤ 30) (hok : OkT l) :
    Calls Try.prog 18 #[.slice A l.length c] w fun e w' => NearSays l w e w' := by
  have HL := Lib.hid hl
  have OK := Lib.hid hok
  obtain ⟨n, hn'⟩ : ∃ n, n = l.length := ⟨_, rfl⟩
  have CH := Lib.hid (chk_any A l c w hl (by omega))
  rw [← hn'] at h0 h30 CH ⊢
  have HN := Lib.hid hn'
  clear hl hn' hok
  go_enter Try.func18, Try.ntmps18
  go_wp2_with fail
  refine (CH.out).mono ?_; rintro e w' ⟨⟨cc, hcc, rfl⟩, rfl⟩
  obtain rfl : cc = 0 := by
    rcases hcc with ⟨h, _⟩ | ⟨h, _⟩ | ⟨_, _, h, _⟩ | ⟨_, _, _, h⟩
    · have := HN.out; omega
    · have := HN.out; omega
    · exact absurd OK.out h
    · exact h
  clear CH hcc
  rw [show errOf 0 = .nilIface from rfl]
  obtain ⟨i0, hi, hz0, hz1, hz2⟩ := info_parts frac_info
  go_wp2_with (at_make; refine wpList_make_own _ rfl _ _ 39 rfl (w.heap.size + 2) 43 i0 (.agg #[.int .i64 0, .int .i64 0]) 2 Try.underlying39 hi hz0 hz1 _ _ _ n rfl rfl rfl (by rw [hz2]; omega) (by unfold maxLen; omega) (by simp) ?_; intro w1 hown hgrow)
  have hox : OwnF w1 (w.heap.size + 2) (.slice (some ⟨w.heap.size + 1 + 1, 0, none⟩) 0 n) [] := by unfold OwnF; simpa [flat] using hown
  have hkp : Kp w w1 := (((Kp.rfl' w).new _).new _).grown hgrow (by simp; omega) (fun k hk => by cases hk)
  have hbx : Boxes w w.heap.size (0, 1) (1, 0) w1 :=
    ⟨World.grownBy.cell hgrow (by simp) (by simp), World.grownBy.cell hgrow (by simp) (by simp), World.grownBy.cell hgrow (by simp) (by simp), World.grownBy.cell hgrow (by simp) (by simp),
     (World.grownBy.frozen_far hgrow _ (by simp; try omega) (by simp)).trans (by simp), (World.grownBy.frozen_far hgrow _ (by simp; try omega) (by simp)).trans (by simp), (World.grownBy.frozen_far hgrow _ (by simp; try omega) (by simp)).trans (by simp), (World.grownBy.frozen_far hgrow _ (by simp; try omega) (by simp)).trans (by simp), hkp⟩
  clear hown hgrow hkp hi hz0 hz1 hz2
  generalize hB : w.heap.size = B at *
  have HB := Lib.hid hB
  clear hB
  go_loopw [7, 22] (fun v i wr => ∃ k : Nat, k ≤ n ∧ i = .int .i64 (k : Int) ∧ OwnF wr (B + 2) v (nearsUp l k) ∧ Boxes w B (fw s0 (l.take k)).1 (fw s0 (l.take k)).2 wr ∧ ∀ j, j < k → Sm (cv l j)) (fun _ i _ => n - (intOf i).toNat)
  case atStart => exact ⟨0, Nat.zero_le _, rfl, hox, hbx, fun j hj => absurd hj (by omega)⟩
  case round =>
    clear hox hbx
    obtain ⟨k, hk, rfl, hown, hbx, hsm⟩ := hrel
    have HO := Lib.hid hown
    have HX := Lib.hid hbx
    have HS := Lib.hid hsm
    clear hown hbx hsm
    by_cases hlt : k < n
    · obtain ⟨ad, rfl, had, hc⟩ := (HL.out.keep HX.out.kp) k (by have := HN.out; omega)
      have hne := next_le l OK.out k (by have := HN.out; omega) HS.out
      have hge := fw_ge l OK.out k (by have := HN.out; omega)
      have hcv := cv_next l k (by have := HN.out; omega)
      have hok := OK.out k (by have := HN.out; omega)
      have hx1 := HX.out.b1
      have hx2 := HX.out.b2
      have hx3 := HX.out.t1
      have hx4 := HX.out.t2
      obtain ⟨x, hx⟩ : ∃ x, x = l.getD k 0 := ⟨_, rfl⟩
      rw [← hx] at hc hcv hok
      obtain ⟨b1, hb1⟩ : ∃ b, b = (fw s0 (l.take k)).1.1 := ⟨_, rfl⟩
      obtain ⟨b2, hb2⟩ : ∃ b, b = (fw s0 (l.take k)).1.2 := ⟨_, rfl⟩
      obtain ⟨t1, ht1⟩ : ∃ b, b = (fw s0 (l.take k)).2.1 := ⟨_, rfl⟩
      obtain ⟨t2, ht2⟩ : ∃ b, b = (fw s0 (l.take k)).2.2 := ⟨_, rfl⟩
      rw [← hb1, ← hb2, ← ht1, ← ht2] at hne
      rw [← hb1, ← hb2, ← ht1, ← ht2] at hge
      rw [← hb1] at hx1
      rw [← hb2] at hx2
      rw [← ht1] at hx3
      rw [← ht2] at hx4
      have hq1 : (cv l k).1 = x * t1 + b1 := by rw [hcv, ht1, hb1]; rfl
      have hq2 : (cv l k).2 = x * t2 + b2 := by rw [hcv, ht2, hb2]; rfl
      have HT1 := Lib.hid ht1
      have HT2 := Lib.hid ht2
      have HBB := Lib.hid (And.intro hb1 hb2)
      have HQ1 := Lib.hid hq1
      have HQ2 := Lib.hid hq2
      have HXX := Lib.hid hx
      obtain ⟨n1, n2, n3, n4, n5, n6⟩ := hne
      obtain ⟨g1, g2, g3, g4, _, _⟩ := hge
      obtain ⟨o1, o2, _⟩ := hok
      clear ht1 ht2 hb1 hb2 hq1 hq2 hx hcv
      have HR := Lib.hid (fun (w' : World) (hk' : Kp wr.drew w') => HX.out.keep (((Kp.rfl' wr).drew).trans hk'))
      have HNX := Lib.hid (fun w => next_any b1 b2 t1 t2 x w g1 n1 g2 n2 g3 n3 g4 n4 o1 o2)
      go_upto_region 9 with (fail)
      go_cut [22] from 22 to 44 (fun i wc => i = .int .i64 (k : Int) ∧ OwnF wc (B + 2) u7 (nearsUp l k) ∧ Boxes w B (t1, t2) (x * t1 + b1, x * t2 + b2) wc)
      case first =>
        go_region_law (first
          | (go_simp; go_at_call 29; refine (HNX.out _).mono ?_; rintro e w' ⟨rfl, hk'⟩
             have y1 := (HR.out w' hk').b1; rw [← HBB.out.1] at y1
             have y2 := (HR.out w' hk').b2; rw [← HBB.out.2] at y2
             have y3 := (HR.out w' hk').t1; rw [← HT1.out] at y3
             have y4 := (HR.out w' hk').t2; rw [← HT2.out] at y4
             have y5 := (HR.out w' hk').z1
             have y6 := (HR.out w' hk').z2
             have y7 := (HR.out w' hk').z3
             have y8 := (HR.out w' hk').z4))
        all_goals
          go_wp2_with fail
          go_meet
          case rel =>
            have hk2 := ((Kp.rfl' wr).drew).trans hk'
            have hb := HX.out.put hk2 (by have := HB.out; omega) (x * t1 + b1, x * t2 + b2)
            have ht : (fw s0 (l.take k)).2 = (t1, t2) := Prod.ext HT1.out.symm HT2.out.symm
            rw [ht] at hb
            exact ⟨rfl, ownF_put HO.out hk2 _ _ _ _, hb⟩
      case rest =>
        obtain ⟨rfl, ho, hb⟩ := hcut
        have HO2 := Lib.hid ho
        have HB2 := Lib.hid hb
        have hx3 := hb.t1
        have hx4 := hb.t2
        have hf1 := hb.t1
        clear ho hb
        have HSM := Lib.hid (show ¬ Sm (cv l k) → ∀ wz, Kp w wz → NearSays l w (.returned (.tuple #[.slice none 0 0, errFull])) wz from fun ns wz hz =>
          ⟨4, [], _, .inr (.inr (.inr (.inl ⟨by have := HN.out; omega, by have := HN.out; omega, OK.out, fun h => ns (h k (by have := HN.out; omega)), rfl, rfl⟩))), rfl, OwnF.none _ _, hz⟩)
        have HQS := Lib.hid (show x * t1 + b1 ≤ 1000000 → x * t2 + b2 ≤ 1000000 → Sm (cv l k) from fun h1 h2 => ⟨by rw [HQ1.out]; exact h1, by rw [HQ2.out]; exact h2⟩)
        have HQN := Lib.hid (show Sm (cv l k) → x * t1 + b1 ≤ 1000000 ∧ x * t2 + b2 ≤ 1000000 from fun h => ⟨by rw [← HQ1.out]; exact h.1, by rw [← HQ2.out]; exact h.2⟩)
        have HCV := Lib.hid (show cv l k = (x * t1 + b1, x * t2 + b2) from Prod.ext HQ1.out HQ2.out)
        generalize hq1 : x * t1 + b1 = q1 at *
        generalize hq2 : x * t2 + b2 = q2 at *
        clear hq1 hq2 hc hx1 hx2
        by_cases s1 : 1000000 < q1
        · have HF := Lib.hid (HSM.out (fun h => by have := (HQN.out h).1; omega) wc HB2.out.kp)
          go_wp2_with fail
          go_ret2
          exact HF.out
        by_cases s2 : 1000000 < q2
        · have HF := Lib.hid (HSM.out (fun h => by have := (HQN.out h).2; omega) wc HB2.out.kp)
          go_wp2_with fail
          go_ret2
          exact HF.out
        have HS2 := Lib.hid (show ∀ j, j < k + 1 → Sm (cv l j) from fun j hj => by
          by_cases e : j = k
          · subst e; exact HQS.out (by omega) (by omega)
          · exact HS.out j (by omega))
        have hlen : (nearsUp l k).length + 1 ≤ 1000000000000 := by rw [nearsUp_len]; omega
        have hsz := HB2.out.lt
        go_wp2_with (at_builtin; refine wpList_pushF rfl _ _ rfl (B + 2) _ (nearsUp l k) (q1, q2) wc.heap.size 1 rfl rfl (HO2.out.new _) (by simp) (by simp) hlen (by simp; omega) ?_; intro v' w' h1 h2 _)
        have HO3 := Lib.hid h1
        have HB3 := Lib.hid ((HB2.out.keep ((Kp.rfl' _).new _)).grown h2 (by
            intro e; have := (HO2.out.lt e.symm).1; omega) (by intro e; have := (HO2.out.lt e.symm).1; omega)
          (ownF_below (HO2.out.new _) (by have := HB.out; omega) (HB2.out.kp.new _) (by have := HB.out; simp; omega) h2))
        clear h1 h2
        go_wp2_with fail
        go_roundw
        case rel => exact ⟨k + 1, by omega, by go_num, by rw [nearsUp_succ, HCV.out]; exact HO3.out, by
          rw [fw_take s0 l k (by have := HN.out; omega), ← cv_next l k (by have := HN.out; omega), HCV.out]
          have ht : (fw s0 (l.take k)).2 = (t1, t2) := Prod.ext HT1.out.symm HT2.out.symm
          rw [ht]
          exact HB3.out, HS2.out⟩
        case measure => simp [intOf]; omega
    · have e : k = n := by omega
      subst e
      go_wp2_with fail
      go_ret2
      exact ⟨0, _, _, .inr (.inr (.inr (.inr ⟨by have := HN.out; omega, by have := HN.out; omega, OK.out, fun j hj => HS.out j (by have := HN.out; omega), rfl, rfl⟩))), rfl,
        by rw [← HN.out]; exact (HO.out.mono (by have := HB.out; omega)), HX.out.kp⟩

theorem near_bad (A : Option Addr) (l : List Int) (c : Nat) (cc : Nat) (w : World) (hl : Lies w A l) (hn : l.length ≤ 1000000) (hc : ChkAns l cc) (h0 : cc ≠ 0) :
    Calls Try.prog 18 #[.slice A l.length c] w fun e w' => e = .returned (.tuple #[.slice none 0 0, errOf cc]) ∧ w = w' := by
  have CH := Lib.hid (chk_any A l c w hl hn)
  have HC := Lib.hid hc
  generalize l.length = n at CH ⊢
  have he : errOf cc = .iface 52 (.int .i64 (cc : Int)) := if_neg h0
  clear hl hn hc
  go_enter Try.func18, Try.ntmps18
  go_wp2_with fail
  refine (CH.out).mono ?_; rintro e w' ⟨⟨c2, hc2, rfl⟩, rfl⟩
  obtain rfl : c2 = cc := by
    rcases HC.out with ⟨a1, a2⟩ | ⟨a1, a2⟩ | ⟨a1, a2, a3, a4⟩ | ⟨a1, a2, a3, a4⟩ <;> rcases hc2 with ⟨b1, b2⟩ | ⟨b1, b2⟩ | ⟨b1, b2, b3, b4⟩ | ⟨b1, b2, b3, b4⟩ <;>
    first | omega | (exact absurd b3 a3) | (exact absurd a3 b3)
  clear CH HC hc2
  rw [he]
  go_wp2_with fail
  go_ret2
  exact ⟨by rw [he]; rfl, rfl⟩

theorem chk_some (l : List Int) : ∃ c, ChkAns l c := by
  by_cases h0 : l.length = 0
  · exact ⟨5, .inl ⟨h0, rfl⟩⟩
  by_cases h1 : 30 < l.length
  · exact ⟨4, .inr (.inl ⟨h1, rfl⟩)⟩
  by_cases h2 : OkT l
  · exact ⟨0, .inr (.inr (.inr ⟨by omega, by omega, h2, rfl⟩))⟩
  · exact ⟨1, .inr (.inr (.inl ⟨by omega, by omega, h2, rfl⟩))⟩

theorem near_any (A : Option Addr) (l : List Int) (c : Nat) (w : World) (hl : Lies w A l) (hn : l.length ≤ 1000000) :
    Calls Try.prog 18 #[.slice A l.length c] w fun e w' => NearSays l w e w' := by
  obtain ⟨cc, hc⟩ := chk_some l
  by_cases h0 : cc = 0
  · subst h0
    rcases hc with ⟨_, h⟩ | ⟨_, h⟩ | ⟨_, _, _, h⟩ | ⟨h1, h2, h3, _⟩
    · cases h
    · cases h
    · cases h
    · exact near_ok A l c w hl h1 h2 h3
  · refine (near_bad A l c cc w hl hn hc h0).mono ?_
    rintro e w' ⟨rfl, rfl⟩
    refine ⟨cc, [], _, ?_, rfl, OwnF.none _ _, Kp.rfl' _⟩
    rcases hc with ⟨h1, rfl⟩ | ⟨h1, rfl⟩ | ⟨h1, h2, h3, rfl⟩ | ⟨_, _, _, h⟩
    · exact .inl ⟨List.eq_nil_of_length_eq_zero h1, rfl, rfl⟩
    · exact .inr (.inl ⟨h1, rfl, rfl⟩)
    · exact .inr (.inr (.inl ⟨h1, h2, h3, rfl, rfl⟩))
    · exact absurd h h0

theorem near_cases {l : List Int} {c : Nat} {fs : List Fr} (h : NearAns l c fs) :
    (0 < l.length ∧ l.length ≤ 30 ∧ OkT l ∧ Small' l ∧ c = 0 ∧ fs = nearsUp l l.length) ∨ (c ≠ 0 ∧ fs = []) := by
  rcases h with ⟨rfl, rfl, rfl⟩ | ⟨h1, rfl, rfl⟩ | ⟨h1, h2, h3, rfl, rfl⟩ | ⟨h1, h2, h3, h4, rfl, rfl⟩ | h
  · exact .inr ⟨by decide, rfl⟩
  · exact .inr ⟨by decide, rfl⟩
  · exact .inr ⟨by decide, rfl⟩
  · exact .inr ⟨by decide, rfl⟩
  · exact .inl h

theorem near_every (A : Option Addr) (l : List Int) (c : Nat) (w : World) (hl : Lies w A l) :
    Calls Try.prog 18 #[.slice A l.length c] w fun e w' => NearSays l w e w' := by
  by_cases h : l.length ≤ 1000000
  · exact near_any A l c w hl h
  · have hn : (30 : Int) < l.length := by omega
    have z1 : ((l.length : Int) == 0) = false := by rw [beq_eq_false_iff_ne]; omega
    have FIN := Lib.hid (show NearSays l w (.returned (.tuple #[.slice none 0 0, errFull])) w from ⟨4, [], _, .inr (.inl ⟨by omega, rfl, rfl⟩), rfl, OwnF.none _ _, Kp.rfl' _⟩)
    generalize l.length = n at *
    clear h hl
    have CH := Lib.hid (show Calls Try.prog 28 #[.slice A n c] w (fun e w' => e = .returned errFull ∧ w = w') from by
      go_enter Try.func28, Try.ntmps28
      go_wp2_with fail
      go_ret
      exact ⟨rfl, rfl⟩)
    go_enter Try.func18, Try.ntmps18
    go_wp2_with fail
    refine (CH.out).mono ?_; rintro e w' ⟨rfl, rfl⟩
    go_wp2_with fail
    go_ret2
    exact FIN.out

/-- A box of one fraction. -/
structure Box (B : Nat) (f : Fr) (w : World) : Prop where
  c1 : w.cell? ⟨B, 0, none⟩ = some (.int .i64 f.1)
  c2 : w.cell? ⟨B, 1, none⟩ = some (.int .i64 f.2)
  z1 : w.frozen? ⟨B, 0, none⟩ = false
  z2 : w.frozen? ⟨B, 1, none⟩ = false
theorem Box.lt {w : World} {B : Nat} {f : Fr} (h : Box B f w) : B < w.heap.size := cell_lt h.c1
theorem Box.keep {w w' : World} {B : Nat} {f : Fr} (h : Box B f w) (hk : Kp w w') : Box B f w' :=
  ⟨(hk.cell (p := ⟨B, 0, none⟩) h.lt).trans h.c1, (hk.cell (p := ⟨B, 1, none⟩) h.lt).trans h.c2, (hk.frozen (p := ⟨B, 0, none⟩) h.lt).trans h.z1, (hk.frozen (p := ⟨B, 1, none⟩) h.lt).trans h.z2⟩
theorem Box.made (w : World) (f : Fr) (T : TypeId) (B : Nat) (hB : B = w.heap.size) : Box B f (w.alloc (.cells #[.int .i64 f.1, .int .i64 f.2] T)) := by
  subst hB
  exact ⟨by simp, by simp, by simp, by simp⟩
theorem Box.put {w : World} {B : Nat} {f : Fr} (h : Box B f w) (g : Fr) : Box B g ((w.setCell ⟨B, 0, none⟩ (.int .i64 g.1)).setCell ⟨B, 1, none⟩ (.int .i64 g.2)) := by
  refine ⟨?_, World.cell?_setCell_same _ _ _ ((World.cell?_setCell_other _ _ _ _ (by simp)).trans h.c2), by simp [h.z1], by simp [h.z2]⟩
  rw [World.cell?_setCell_other _ _ _ _ (by simp), World.cell?_setCell_same _ _ _ h.c1]
theorem Box.far {w : World} {B B' : Nat} {f : Fr} (h : Box B f w) (hb : B ≠ B') (x y : Value) : Box B f ((w.setCell ⟨B', 0, none⟩ x).setCell ⟨B', 1, none⟩ y) := by
  refine ⟨?_, ?_, by simp [h.z1], by simp [h.z2]⟩
  · rw [World.cell?_setCell_other _ _ _ _ (by simp <;> omega), World.cell?_setCell_other _ _ _ _ (by simp <;> omega)]; exact h.c1
  · rw [World.cell?_setCell_other _ _ _ _ (by simp <;> omega), World.cell?_setCell_other _ _ _ _ (by simp <;> omega)]; exact h.c2

/-- The second cell of an element, as the walk names it. -/
theorem pair_at {w : World} {ad : Addr} {k : Nat} {v : Value} (h : w.cell? (ad.add (2 * k + 1)) = some v) : w.cell? ⟨(ad.add (k * 2)).block, (ad.add (k * 2)).off + 1, none⟩ = some v := by
  rw [← h, ← add_add, Nat.mul_comm 2 k]
  congr 1

def BestSays (n d most : Int) (w : World) (e : Ending) (w' : World) : Prop :=
  ∃ (c : Nat) (f : Fr), BestAns n d most c f ∧ e = .returned (.tuple #[frv f, errOf c]) ∧ Kp w w'

end Go.Proofs.Ytknpcdnlknlagaa
