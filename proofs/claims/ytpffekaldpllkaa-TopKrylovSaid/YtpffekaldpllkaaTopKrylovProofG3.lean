/- Several texts, one behind the other: DeC2, DeC3, PolN, IpM, CpM, CpC1, PolC1, PolC2, PolC3, PolC4, Idx, IpC, IpC2, IpC3, CpC2, RowsG, ShM, DeFact, CpFact, Rnd, MtTurn, MtAdd, MtMul, MtPow, LawIn, MxRef, MxRef2, TpKry. -/
import Derived.Test.YtpffekaldpllkaaTopKrylovProofG2
import Derived.Deep.RegionHeld3
import Derived.Test.YtpffekaldpllkaaTopKrylovProofG1
import Derived.StillTailTactics
import Derived.Laws.CopyOwn
import Derived.Lib.SliceRun
import Derived.RangeFuncNested
import Derived.RangeFuncBound
import Derived.RangeFuncCalls
import Derived.RangeFuncLeaves
import Derived.Shelf.Abstract
import Derived.WalkKit
import Derived.OwnWalkIn
import Derived.TacticsInMore
import Derived.LoopNIn
import Derived.LoopIn
import Derived.OrdersIn
import Derived.Deep.Cut
import Derived.Deep.CutRange
import Derived.Deep.DeepCutAuto
import Derived.BigQuiet

/- Contracts of package det, second part: the sum over all orders, Check, Of. -/
namespace Go.Proofs.Ytpffekaldpllkaa
open Go.ChangeShapes Go.WideShapes Go.ChangeAt Go.RowKit
set_option linter.unusedVariables false

/-- The order of the numbers, the sum and the matrix, each in a block of its own. -/
structure Vis (w0 w : World) (gm gs g n d : Nat) (A : Option Addr) (s : Nat → Nat) (z : Int) : Prop where
  mb : w.cell? ⟨gm, 0, none⟩ = some (.slice A n d)
  sb : w.cell? ⟨gs, 0, none⟩ = some (.int .i64 z)
  sf : w.frozen? ⟨gs, 0, none⟩ = false
  row : Row w g (Mx.row n fun i => (s i : Int))
  kp : Kp w0 w
  ms : gm ≠ gs
  mg : gm ≠ g
  sg : gs ≠ g
  bs : w0.heap.size ≤ gs
  bg : w0.heap.size ≤ g
theorem cell_far {w : World} {a b : Addr} {v : Value} (x : Value) (hc : w.cell? b = some v) (hne : a ≠ b) : (w.setCell a x).cell? b = some v := by
  rw [World.cell?_setCell_other (w := w) (v := x) (h := hne)]; exact hc
theorem Vis.keep {w0 w w' : World} {gm gs g n d : Nat} {A : Option Addr} {s : Nat → Nat} {z : Int} (h : Vis w0 w gm gs g n d A s z) (hk : Kp w w') : Vis w0 w' gm gs g n d A s z :=
  ⟨(hk.cell (p := ⟨gm, 0, none⟩) (cell_lt h.mb)).trans h.mb, (hk.cell (p := ⟨gs, 0, none⟩) (cell_lt h.sb)).trans h.sb, (hk.frozen (p := ⟨gs, 0, none⟩) (cell_lt h.sb)).trans h.sf, h.row.keep hk, h.kp.trans hk, h.ms, h.mg, h.sg, h.bs, h.bg⟩
theorem Vis.drewN {w0 w : World} {gm gs g n d : Nat} {A : Option Addr} {s : Nat → Nat} {z : Int} (h : Vis w0 w gm gs g n d A s z) (k : Nat) : Vis w0 (w.drewN k) gm gs g n d A s z := h.keep ((Kp.rfl' w).drewN k)
theorem Vis.ext {w0 w : World} {gm gs g n d : Nat} {A : Option Addr} {s t : Nat → Nat} {z : Int} (h : Vis w0 w gm gs g n d A s z) (e : ∀ i, i < n → s i = t i) : Vis w0 w gm gs g n d A t z :=
  ⟨h.mb, h.sb, h.sf, by rw [Mx.row_ext (h := fun i => (s i : Int)) fun i hi => by rw [e i hi]]; exact h.row, h.kp, h.ms, h.mg, h.sg, h.bs, h.bg⟩
theorem Vis.add {w0 w : World} {gm gs g n d : Nat} {A : Option Addr} {s : Nat → Nat} {z : Int} (h : Vis w0 w gm gs g n d A s z) (y : Int) : Vis w0 (w.setCell ⟨gs, 0, none⟩ (.int .i64 y)) gm gs g n d A s y :=
  ⟨cell_far _ h.mb (fun e => h.ms (by cases e; rfl)), World.cell?_setCell_same _ _ _ h.sb, by simp [h.sf], h.row.far (fun e => h.sg e.symm) _, h.kp.put (p := ⟨gs, 0, none⟩) h.bs _, h.ms, h.mg, h.sg, h.bs, h.bg⟩
theorem Vis.swap {w0 w : World} {gm gs g n d : Nat} {A : Option Addr} {s : Nat → Nat} {z : Int} (h : Vis w0 w gm gs g n d A s z) {a b : Nat} (ha : a < n) (hb : b < n) :
    Vis w0 ((w.setCell ⟨g, a, none⟩ (.int .i64 (s b : Int))).setCell ⟨g, b, none⟩ (.int .i64 (s a : Int))) gm gs g n d A (fun i => s (Mx.sw a b i)) z := by
  have other : ∀ (w : World) (k b x : Nat) (v : Value), g ≠ b → w.cell? ⟨b, 0, none⟩ = some v → (w.setCell ⟨g, k, none⟩ (.int .i64 (x : Int))).cell? ⟨b, 0, none⟩ = some v := fun w k b x v hne hc => by
    have hne' : (⟨g, k, none⟩ : Addr) ≠ ⟨b, 0, none⟩ := fun e => hne (by cases e; rfl)
    exact cell_far _ hc hne'
  refine ⟨other _ _ _ _ _ (fun e => h.mg e.symm) (other _ _ _ _ _ (fun e => h.mg e.symm) h.mb), other _ _ _ _ _ (fun e => h.sg e.symm) (other _ _ _ _ _ (fun e => h.sg e.symm) h.sb), by simp [h.sf], ?_,
    (h.kp.put (p := ⟨g, a, none⟩) h.bg _).put (p := ⟨g, b, none⟩) h.bg _, h.ms, h.mg, h.sg, h.bs, h.bg⟩
  have := (h.row.put a (s b : Int)).put b (s a : Int)
  rw [Mx.row_set, Mx.row_set] at this
  rw [show (Mx.row n fun i => ((s (Mx.sw a b i) : Nat) : Int)) = Mx.row n fun j => if j = b then (s a : Int) else if j = a then (s b : Int) else (s j : Int) from Mx.row_ext fun j _ => by
    by_cases h1 : j = b
    · rw [if_pos h1, h1, Mx.sw_right]
    · rw [if_neg h1]
      by_cases h2 : j = a
      · rw [if_pos h2, h2, Mx.sw_left]
      · rw [if_neg h2, Mx.sw_none h2 h1]]
  exact this
/-- What a visit leaves: the order as it was, so much more in the sum. -/
def VisEnd (w0 : World) (gm gs g n d : Nat) (A : Option Addr) (s : Nat → Nat) (z : Int) (x : Fp.F) (b : Nat) (e : Ending) (w' : World) : Prop :=
  e = .returned (.tuple #[]) ∧ ∃ z', Vis w0 w' gm gs g n d A s z' ∧ Fp.ofInt z' = Fp.ofInt z + x ∧ -(b : Int) ≤ z' ∧ z' ≤ (b : Int)

set_option maxRecDepth 100000 in
set_option maxHeartbeats 3200000 in
theorem visit_any (w0 : World) (gm gs g n d b : Nat) (A : Option Addr) (f : Nat → Nat → Fp.F) (s : Nat → Nat) (z : Int) (w : World) (ha : LiesM w0 A (Mx.matl n n f)) (hn : n ≤ 5) (hs : ∀ i, i < n → s i < n)
    (h : Vis w0 w gm gs g n d A s z) (h1 : -(b : Int) ≤ z) (h2 : z ≤ (b : Int)) (hb : b ≤ 1000000000000) :
    Calls Try.prog 37 #[.slice (some ⟨g, 0, none⟩) n n, .pointer (some ⟨gm, 0, none⟩), .pointer (some ⟨gs, 0, none⟩)] w fun e w' =>
      VisEnd w0 gm gs g n d A s z (Mx.part' n n f s) (b + 9972) e w' := by
  have SG := Lib.hid (Sign_any (some ⟨g, 0, none⟩) (Mx.row n fun i => (s i : Int)) n n w h.row.lies (Mx.len_row _ _) (by omega))
  rw [Mx.sp_congr (t := fun i => (s i : Int)) fun i hi => Mx.row_at n (fun i => (s i : Int)) i hi] at SG
  have HA := Lib.hid ha
  have HV := Lib.hid h
  have HS := Lib.hid hs
  have HP := Lib.hid (Mx.part_end n f s)
  obtain ⟨S, hS⟩ : ∃ S, S = Mx.sp n fun i => (s i : Int) := ⟨_, rfl⟩
  rw [← hS] at SG HP
  clear ha h hs hS
  go_enter Try.func37, Try.ntmps37
  go_wp2_with fail
  refine (SG.out).mono ?_; rintro e w1 ⟨x, rfl, hx, hk⟩
  have HX := Lib.hid hx
  have HV1 := Lib.hid (HV.out.keep hk)
  clear hx hk HV SG
  go_wp2_with fail
  go_loopw [4, 11] (fun p i wr => ∃ (k : Nat) (q : Int), k ≤ n ∧ i = .int .i64 (k : Int) ∧ p = .int .i64 q ∧ -9972 ≤ q ∧ q ≤ 9972 ∧ Fp.ofInt q = S * Mx.pr k (fun i => f i (s i)) ∧ w1 = wr) (fun _ i _ => n - (intOf i).toNat)
  case atStart =>
    have := HX.out.bound
    exact ⟨0, x, Nat.zero_le _, rfl, rfl, by omega, by omega, by rw [HX.out.2]; show S = S * 1; grind, rfl⟩
  case round =>
    obtain ⟨k, q, hk, rfl, rfl, hq1, hq2, hq, rfl⟩ := hrel
    have HQ := Lib.hid hq
    clear hq
    by_cases hlt : k < n
    · have y1 := HV1.out.row.cell k (by rw [Mx.len_row]; exact hlt)
      rw [Mx.row_at _ _ _ hlt] at y1
      have y2 := HV1.out.mb
      obtain ⟨ad, A0, d0, rfl, hl0, x1, _, l1⟩ := (HA.out.keep HV1.out.kp).row hlt
      obtain ⟨j, hj⟩ : ∃ j, j = s k := ⟨_, rfl⟩
      have hjn : j < n := by rw [hj]; exact HS.out k hlt
      rw [← hj] at y1
      obtain ⟨ad1, rfl, hl1, x2⟩ := l1.el hjn
      obtain ⟨v, hv⟩ : ∃ v, v = f k j := ⟨_, rfl⟩
      rw [← hv] at x2
      have hvb := gval v
      have HT := Lib.hid (show Fp.ofInt ((q * (v.val : Int)).tmod 9973) = S * Mx.pr (k + 1) (fun i => f i (s i)) by
        rw [Mx.tmod_F, Fp.ofInt_mul, Fp.ofInt_self, HQ.out]
        show _ = S * (Mx.pr k (fun i => f i (s i)) * f k (s k))
        rw [← hj, ← hv]; grind)
      have hmb : -99440784 ≤ q * (v.val : Int) ∧ q * (v.val : Int) ≤ 99440784 := by
        have a1 : q * (v.val : Int) ≤ 9972 * 9972 := by
          rcases Int.lt_or_le q 0 with hq0 | hq0
          · have := Int.mul_le_mul_of_nonneg_right (show q ≤ 0 by omega) hvb.1; omega
          · have := Int.mul_le_mul hq2 hvb.2 hvb.1 (by omega); omega
        have a2 : -q * (v.val : Int) ≤ 9972 * 9972 := by
          rcases Int.lt_or_le (-q) 0 with hq0 | hq0
          · have := Int.mul_le_mul_of_nonneg_right (show -q ≤ 0 by omega) hvb.1; omega
          · have := Int.mul_le_mul (show -q ≤ 9972 by omega) hvb.2 hvb.1 (by omega); omega
        rw [Int.neg_mul] at a2
        omega
      have HTB := Lib.hid (Mx.tmod_bound (q * (v.val : Int)))
      generalize (v.val : Int) = u at *
      have hwm : IntKind.i64.wrap (q * u) = q * u := IntWalk.i64_in _ (by omega)
      clear hj hv hmb
      go_wp2_with fail
      go_roundw
      case rel => exact ⟨k + 1, _, by omega, by go_num, rfl, HTB.out.1, HTB.out.2, HT.out, by first | rfl | trivial⟩
      case measure => simp [intOf]; omega
    · obtain rfl : k = n := by omega
      have y1 := HV1.out.sb
      have y2 := HV1.out.sf
      have hwa : IntKind.i64.wrap (z + q) = z + q := IntWalk.i64_in _ (by omega)
      have HV2 := Lib.hid (HV1.out.add (z + q))
      have HB := Lib.hid (show -((b + 9972 : Nat) : Int) ≤ z + q ∧ z + q ≤ ((b + 9972 : Nat) : Int) by omega)
      go_wp2_with fail
      go_end0
      exact ⟨rfl, z + q, HV2.out, by rw [Fp.ofInt_add, HQ.out, HP.out], HB.out.1, HB.out.2⟩

set_option maxRecDepth 100000 in
theorem orders_base (w0 : World) (gm gs g n d b : Nat) (A : Option Addr) (f : Nat → Nat → Fp.F) (s : Nat → Nat) (z : Int) (w : World) (ha : LiesM w0 A (Mx.matl n n f)) (hn : n ≤ 5) (hs : ∀ i, i < n → s i < n)
    (h : Vis w0 w gm gs g n d A s z) (h1 : -(b : Int) ≤ z) (h2 : z ≤ (b : Int)) (hb : b ≤ 1000000000000) :
    Calls Try.prog 35 #[.slice (some ⟨g, 0, none⟩) n n, .int .i64 (n : Int), .func (.func 37) #[] #[.pointer (some ⟨gm, 0, none⟩), .pointer (some ⟨gs, 0, none⟩)]] w fun e w' =>
      VisEnd w0 gm gs g n d A s z (Mx.part' n n f s) (b + 9972) e w' := by
  have C := Lib.hid (visit_any w0 gm gs g n d b A f s z w ha hn hs h h1 h2 hb)
  have e0 : ((n : Int) == (n : Int)) = true := by simp
  clear ha hs h h1 h2 hb
  go_enter Try.func35, Try.ntmps35
  go_wp2_with fail
  refine (C.out).mono ?_; rintro e w1 ⟨rfl, hv⟩
  have HV := Lib.hid hv
  clear hv
  go_wp2_with fail
  go_end0
  exact ⟨rfl, HV.out⟩

set_option maxRecDepth 100000 in
set_option maxHeartbeats 6400000 in
theorem orders_step (w0 : World) (gm gs g n d : Nat) (A : Option Addr) (f : Nat → Nat → Fp.F) (m k : Nat) (hkm : k + (m + 1) = n) (hn : n ≤ 5)
    (ih : ∀ (s : Nat → Nat) (z : Int) (b : Nat) (w : World), (∀ i, i < n → s i < n) → Vis w0 w gm gs g n d A s z → -(b : Int) ≤ z → z ≤ (b : Int) → b + 9972 * Mx.lv m ≤ 1000000000000 →
      Calls Try.prog 35 #[.slice (some ⟨g, 0, none⟩) n n, .int .i64 ((k + 1 : Nat) : Int), .func (.func 37) #[] #[.pointer (some ⟨gm, 0, none⟩), .pointer (some ⟨gs, 0, none⟩)]] w fun e w' =>
        VisEnd w0 gm gs g n d A s z (Mx.part' n (k + 1) f s) (b + 9972 * Mx.lv m) e w')
    (s : Nat → Nat) (z : Int) (b : Nat) (w : World) (hs : ∀ i, i < n → s i < n) (h : Vis w0 w gm gs g n d A s z) (h1 : -(b : Int) ≤ z) (h2 : z ≤ (b : Int)) (hb : b + 9972 * Mx.lv (m + 1) ≤ 1000000000000) :
    Calls Try.prog 35 #[.slice (some ⟨g, 0, none⟩) n n, .int .i64 (k : Int), .func (.func 37) #[] #[.pointer (some ⟨gm, 0, none⟩), .pointer (some ⟨gs, 0, none⟩)]] w fun e w' =>
      VisEnd w0 gm gs g n d A s z (Mx.part' n k f s) (b + 9972 * Mx.lv (m + 1)) e w' := by
  have IH := Lib.hid ih
  have HV := Lib.hid h
  have HS := Lib.hid hs
  have HP := Lib.hid (Mx.part_next (n := n) (k := k) f s (by omega))
  have HB := Lib.hid (show Mx.lv (m + 1) = 5 * Mx.lv m from rfl)
  have HZ := Lib.hid (And.intro h1 h2)
  have HM := Lib.hid (And.intro hkm hb)
  have hkn : k < n := by omega
  have e0 : ((k : Int) == (n : Int)) = false := by rw [beq_eq_false_iff_ne]; omega
  clear ih h hs h1 h2 hb hkm
  go_enter Try.func35, Try.ntmps35
  go_wp2_with fail
  go_loopw [6] (fun i wr => ∃ (j t : Nat) (y : Int), j = k + t ∧ j ≤ n ∧ i = .int .i64 (j : Int) ∧ Vis w0 wr gm gs g n d A s y ∧ Fp.ofInt y = Fp.ofInt z + Mx.sg t (fun t => Mx.part' n (k + 1) f fun i => s (Mx.sw k (k + t) i)) ∧ -((b + 9972 * (t * Mx.lv m) : Nat) : Int) ≤ y ∧ y ≤ ((b + 9972 * (t * Mx.lv m) : Nat) : Int)) (fun i _ => n - (intOf i).toNat)
  case atStart => exact ⟨k, 0, z, rfl, by omega, rfl, HV.out, by rw [Mx.sg_zero]; grind, by simpa using HZ.out.1, by simpa using HZ.out.2⟩
  case round =>
    clear HV
    obtain ⟨j, t, y, hjt, hjn, rfl, hv, hy, hy1, hy2⟩ := hrel
    have HJ := Lib.hid hjt
    have HV := Lib.hid hv
    have HY := Lib.hid hy
    have HYB := Lib.hid (And.intro hy1 hy2)
    clear hjt hv hy hy1 hy2
    by_cases hlt : j < n
    · have y1 := HV.out.row.cell k (by rw [Mx.len_row]; exact hkn)
      have y2 := HV.out.row.cell j (by rw [Mx.len_row]; exact hlt)
      have y3 := HV.out.row.free k
      have y4 := HV.out.row.free j
      rw [Mx.row_at _ _ _ hkn] at y1
      rw [Mx.row_at _ _ _ hlt] at y2
      have SW := HV.out.swap hkn hlt
      have y5 := (HV.out.row.put k (s j : Int)).free j
      have y6 : ∃ v, (wr.setCell ⟨g, k, none⟩ (.int .i64 (s j : Int))).cell? ⟨g, j, none⟩ = some v := ⟨_, (HV.out.row.put k (s j : Int)).cell j (by rw [List.length_set, Mx.len_row]; exact hlt)⟩
      obtain ⟨v6, y6⟩ := y6
      obtain ⟨sk, hsk⟩ : ∃ x : Int, x = (s k : Int) := ⟨_, rfl⟩
      obtain ⟨sj, hsj⟩ : ∃ x : Int, x = (s j : Int) := ⟨_, rfl⟩
      rw [← hsk] at y1 SW
      rw [← hsj] at y2 y5 y6 SW
      have hs' : ∀ i, i < n → (fun i => s (Mx.sw k j i)) i < n := fun i hi => HS.out _ (Mx.sw_lt hkn hlt hi)
      have hm : 9972 * (t * Mx.lv m) + 9972 * Mx.lv m = 9972 * ((t + 1) * Mx.lv m) := by rw [show (t + 1) * Mx.lv m = t * Mx.lv m + Mx.lv m from Nat.succ_mul _ _]; omega
      have hle : b + 9972 * ((t + 1) * Mx.lv m) ≤ 1000000000000 := by
        have a1 : (t + 1) * Mx.lv m ≤ 5 * Mx.lv m := Nat.mul_le_mul_right _ (by have := HJ.out; omega)
        have := HM.out.2
        rw [HB.out] at this
        omega
      have CALL := Lib.hid (fun w1 (hv : Vis w0 w1 gm gs g n d A (fun i => s (Mx.sw k j i)) y) => IH.out (fun i => s (Mx.sw k j i)) y (b + 9972 * (t * Mx.lv m)) w1 hs' hv HYB.out.1 HYB.out.2 (by omega))
      rw [show b + 9972 * (t * Mx.lv m) + 9972 * Mx.lv m = b + 9972 * ((t + 1) * Mx.lv m) by omega] at CALL
      have SWH := Lib.hid SW
      have hwk : IntKind.i64.wrap ((k : Int) + 1) = ((k + 1 : Nat) : Int) := by rw [IntWalk.i64_in _ (by omega)]; omega
      have HSK := Lib.hid (And.intro hsk hsj)
      clear SW hs' hm hle hsk hsj
      go_wp2_with fail
      go_region_law (fail)
      all_goals
        go_wp2_with fail
        refine (CALL.out _ (SWH.out.drewN 1)).mono ?_; rintro e w2 ⟨rfl, y', hv2, hy', hb1, hb2⟩
        have HV2 := Lib.hid hv2
        have HY2 := Lib.hid hy'
        have HB2 := Lib.hid (And.intro hb1 hb2)
        have x1 := hv2.row.cell k (by rw [Mx.len_row]; exact hkn)
        have x2 := hv2.row.cell j (by rw [Mx.len_row]; exact hlt)
        have x3 := hv2.row.free k
        have x4 := hv2.row.free j
        rw [Mx.row_at _ _ _ hkn, Mx.sw_left, ← HSK.out.2] at x1
        rw [Mx.row_at _ _ _ hlt, Mx.sw_right, ← HSK.out.1] at x2
        have x5 := (hv2.row.put k sk).free j
        have x6 : ∃ v, (w2.setCell ⟨g, k, none⟩ (.int .i64 sk)).cell? ⟨g, j, none⟩ = some v := ⟨_, (hv2.row.put k sk).cell j (by rw [List.length_set, Mx.len_row]; exact hlt)⟩
        obtain ⟨v7, x6⟩ := x6
        have SW2 := (hv2.swap hkn hlt).ext (t := s) fun i _ => by rw [Mx.sw_sw]
        simp only [Mx.sw_left, Mx.sw_right] at SW2
        rw [← HSK.out.1, ← HSK.out.2] at SW2
        have SWH2 := Lib.hid SW2
        clear SW2 hv2 hy' hb1 hb2 y1 y2 y3 y4 y5 y6
        go_wp2_with fail
        go_region_law (fail)
        all_goals
          go_wp2_with fail
          go_roundw
          case rel => exact ⟨j + 1, t + 1, y', by rw [HJ.out]; omega, by omega, by go_num, SWH2.out.drewN 1, by rw [HY2.out, HY.out, Mx.sg_succ, HJ.out]; grind, HB2.out.1, HB2.out.2⟩
          case measure => simp [intOf]; omega
    · have HE := Lib.hid (show t = m + 1 ∧ j = n by have := HJ.out; have := HM.out.1; omega)
      have HL := Lib.hid (show t * Mx.lv m ≤ Mx.lv (m + 1) by
        rw [HE.out.1, HB.out]; exact Nat.mul_le_mul_right _ (by have := HM.out.1; omega))
      go_wp2_with fail
      go_end0
      refine ⟨rfl, y, HV.out, ?_, ?_, ?_⟩
      · rw [HY.out, ← HP.out, show n - k = t by have := HJ.out; have := HE.out; omega]
      · have := HYB.out.1; have := HL.out; omega
      · have := HYB.out.2; have := HL.out; omega
theorem orders_any (w0 : World) (gm gs g n d : Nat) (A : Option Addr) (f : Nat → Nat → Fp.F) (ha : LiesM w0 A (Mx.matl n n f)) (hn : n ≤ 5) :
    ∀ (m k : Nat), k + m = n → ∀ (s : Nat → Nat) (z : Int) (b : Nat) (w : World), (∀ i, i < n → s i < n) → Vis w0 w gm gs g n d A s z → -(b : Int) ≤ z → z ≤ (b : Int) → b + 9972 * Mx.lv m ≤ 1000000000000 →
      Calls Try.prog 35 #[.slice (some ⟨g, 0, none⟩) n n, .int .i64 (k : Int), .func (.func 37) #[] #[.pointer (some ⟨gm, 0, none⟩), .pointer (some ⟨gs, 0, none⟩)]] w fun e w' =>
        VisEnd w0 gm gs g n d A s z (Mx.part' n k f s) (b + 9972 * Mx.lv m) e w'
  | 0, k, hkm => fun s z b w hs h h1 h2 hb => by
    obtain rfl : k = n := by omega
    exact orders_base w0 gm gs g k d b A f s z w ha hn hs h h1 h2 (by omega)
  | m + 1, k, hkm => fun s z b w hs h h1 h2 hb => orders_step w0 gm gs g n d A f m k hkm hn (orders_any w0 gm gs g n d A f ha hn m (k + 1) (by omega)) s z b w hs h h1 h2 hb

end Go.Proofs.Ytpffekaldpllkaa

/- Contracts of package det, third part: Check, Of. -/
namespace Go.Proofs.Ytpffekaldpllkaa
open Go.ChangeShapes Go.WideShapes Go.ChangeAt Go.RowKit
set_option linter.unusedVariables false

set_option maxRecDepth 100000 in
set_option maxHeartbeats 1600000 in
theorem DChk_any (A : Option Addr) (m : List (List Int)) (n d : Nat) (w : World) (ha : LiesM w A m) (hn : m.length = n) :
    Calls Try.prog 22 #[.slice A n d] w fun e w' => e = .returned (errOf (qcode 5 0 9972 m)) ∧ w = w' := by
  have CK := Lib.hid (Check_any A m n d w ha hn)
  by_cases h0 : Mx.mcode 5 0 9972 m = 0
  · have h0n : 0 < m.length := by
      rcases Nat.eq_zero_or_pos m.length with h | h
      · exfalso; unfold Mx.mcode at h0; rw [if_pos (.inl h)] at h0; cases h0
      · exact h
    obtain ⟨ad, A0, d0, rfl, hl0, hc0, _, _⟩ := ha 0 h0n
    rw [add_zero'] at hc0
    have EV := Lib.hid (show qcode 5 0 9972 m = if n ≠ (m.getD 0 []).length then 3 else 0 by
      unfold qcode
      rw [h0, hn]
      by_cases h : n ≠ (m.getD 0 []).length
      · rw [if_pos ⟨rfl, h⟩, if_pos h]
      · rw [if_neg (fun h' => h h'.2), if_neg h])
    rw [h0, errOf_zero] at CK
    have hn0 : 0 < n := by omega
    generalize (m.getD 0 []).length = q at *
    generalize qcode 5 0 9972 m = z at *
    clear ha h0 hn h0n
    by_cases hq : n = q
    · subst hq
      obtain rfl : z = 0 := by rw [EV.out, if_neg (fun h => h rfl)]
      rw [errOf_zero]
      have e1 : ((n : Int) != (n : Int)) = false := by simp
      clear EV
      go_enter Try.func22, Try.ntmps22
      go_wp2_with fail
      refine (CK.out).mono ?_; rintro e w' ⟨rfl, rfl⟩
      go_wp2_with fail
      go_ret
      exact ⟨rfl, rfl⟩
    · obtain rfl : z = 3 := by rw [EV.out, if_pos hq]
      rw [errOf_ne 3 (by omega)]
      have e1 : ((n : Int) != (q : Int)) = true := by rw [bne_iff_ne]; omega
      clear EV hq
      go_enter Try.func22, Try.ntmps22
      go_wp2_with fail
      refine (CK.out).mono ?_; rintro e w' ⟨rfl, rfl⟩
      go_wp2_with fail
      go_ret
      exact ⟨rfl, rfl⟩
  · rw [qcode_bad h0]
    rw [errOf_ne _ h0] at CK ⊢
    generalize Mx.mcode 5 0 9972 m = z at *
    clear ha hn h0
    go_enter Try.func22, Try.ntmps22
    go_wp2_with fail
    refine (CK.out).mono ?_; rintro e w' ⟨rfl, rfl⟩
    go_wp2_with fail
    go_ret
    exact ⟨rfl, rfl⟩

set_option maxRecDepth 100000 in
set_option maxHeartbeats 1600000 in
theorem Of_bad (A : Option Addr) (m : List (List Int)) (n d : Nat) (w : World) (ha : LiesM w A m) (hn : m.length = n) (h : qcode 5 0 9972 m ≠ 0) :
    Calls Try.prog 23 #[.slice A n d] w fun e w' => e = .returned (.tuple #[.int .i64 0, errOf (qcode 5 0 9972 m)]) ∧ Kp w w' := by
  have CK := Lib.hid (fun w (ha : LiesM w A m) => DChk_any A m n d w ha hn)
  rw [errOf_ne _ h] at CK ⊢
  have HA := Lib.hid ha
  generalize qcode 5 0 9972 m = z at *
  clear ha hn h
  go_enter Try.func23, Try.ntmps23
  go_wp2_with fail
  refine (CK.out _ (HA.out.keep ((Kp.rfl' w).new _))).mono ?_; rintro e w' ⟨rfl, rfl⟩
  go_wp2_with fail
  go_ret2
  exact ⟨rfl, (Kp.rfl' w).new _⟩

theorem orders_top (w0 : World) (gm gs g n d : Nat) (A : Option Addr) (f : Nat → Nat → Fp.F) (w : World) (ha : LiesM w0 A (Mx.matl n n f)) (hn : n ≤ 5) (h : Vis w0 w gm gs g n d A (fun i => i) 0) :
    Calls Try.prog 35 #[.slice (some ⟨g, 0, none⟩) n n, .int .i64 0, .func (.func 37) #[] #[.pointer (some ⟨gm, 0, none⟩), .pointer (some ⟨gs, 0, none⟩)]] w fun e w' =>
      VisEnd w0 gm gs g n d A (fun i => i) 0 (Mx.dt n f) 100000000 e w' := by
  have h1 := orders_any w0 gm gs g n d A f ha hn n 0 (by omega) (fun i => i) 0 0 w (fun i hi => hi) h (by omega) (by omega) (by have := Mx.lv_le hn; omega)
  rw [Mx.part_zero (n := n) f (s := fun i => i) fun j _ => rfl] at h1
  refine h1.mono ?_
  rintro e w' ⟨he, z, hv, hz, h2, h3⟩
  have := Mx.lv_le hn
  exact ⟨he, z, hv, hz, by omega, by omega⟩
theorem vis_made {w w2 : World} {n d : Nat} {T U : TypeId} (A : Option Addr)
    (hr : Row w2 ((w.alloc (.cells #[.slice A n d] T)).alloc (.cells #[.int .i64 0] U)).heap.size (Mx.row n fun i => (i : Int)))
    (hk : Kp ((w.alloc (.cells #[.slice A n d] T)).alloc (.cells #[.int .i64 0] U)) w2) : Vis w w2 w.heap.size (w.heap.size + 1) (w.heap.size + 2) n d A (fun i => i) 0 := by
  have e1 : (w.alloc (.cells #[.slice A n d] T)).heap.size = w.heap.size + 1 := by simp
  have e2 : ((w.alloc (.cells #[.slice A n d] T)).alloc (.cells #[.int .i64 0] U)).heap.size = w.heap.size + 2 := by simp
  have c1 : (w.alloc (.cells #[.slice A n d] T)).cell? ⟨w.heap.size, 0, none⟩ = some (.slice A n d) := (cell_made w #[.slice A n d] T w.heap.size 0 rfl).trans rfl
  have c2 : ((w.alloc (.cells #[.slice A n d] T)).alloc (.cells #[.int .i64 0] U)).cell? ⟨w.heap.size + 1, 0, none⟩ = some (.int .i64 0) := (cell_made (w.alloc (.cells #[.slice A n d] T)) #[.int .i64 0] U (w.heap.size + 1) 0 e1.symm).trans rfl
  have c3 : ((w.alloc (.cells #[.slice A n d] T)).alloc (.cells #[.int .i64 0] U)).cell? ⟨w.heap.size, 0, none⟩ = some (.slice A n d) :=
    (((Kp.rfl' (w.alloc (.cells #[.slice A n d] T))).new _).cell (p := ⟨w.heap.size, 0, none⟩) (by rw [e1]; exact Nat.lt_succ_self _)).trans c1
  have z2 : ((w.alloc (.cells #[.slice A n d] T)).alloc (.cells #[.int .i64 0] U)).frozen? ⟨w.heap.size + 1, 0, none⟩ = false := by simp
  rw [e2] at hr
  exact ⟨(hk.cell (p := ⟨w.heap.size, 0, none⟩) (cell_lt c3)).trans c3, (hk.cell (p := ⟨w.heap.size + 1, 0, none⟩) (cell_lt c2)).trans c2, (hk.frozen (p := ⟨w.heap.size + 1, 0, none⟩) (cell_lt c2)).trans z2, hr,
    (((Kp.rfl' w).new _).new _).trans hk, by omega, by omega, by omega, by omega, by omega⟩

set_option maxRecDepth 100000 in
set_option maxHeartbeats 1600000 in
theorem Of_ok (A : Option Addr) (f : Nat → Nat → Fp.F) (n d : Nat) (w : World) (ha : LiesM w A (Mx.matl n n f)) (h0 : 0 < n) (hn : n ≤ 5) :
    Calls Try.prog 23 #[.slice A n d] w fun e w' => e = .returned (.tuple #[.int .i64 ((Mx.dt n f).val : Int), .nilIface]) ∧ Kp w w' := by
  have CK := Lib.hid (fun w (ha : LiesM w A (Mx.matl n n f)) => DChk_any A (Mx.matl n n f) n d w ha (Mx.len_matl _ _ _))
  rw [qcode_matl f h0 hn, errOf_zero] at CK
  have HA := Lib.hid ha
  have AS := Lib.hid (fun w => ascending_any n w (by omega))
  have OR := Lib.hid (fun gm gs g w1 h => orders_top w gm gs g n d A f w1 ha hn h)
  generalize Mx.dt n f = dd at *
  clear ha
  go_enter Try.func23, Try.ntmps23
  go_wp2_with fail
  refine (CK.out _ (HA.out.keep ((Kp.rfl' w).new _))).mono ?_; rintro e w' ⟨rfl, rfl⟩
  go_wp2_with fail
  refine (AS.out _).mono ?_; rintro e w2 ⟨rfl, hr, hk⟩
  have VS := Lib.hid (vis_made (n := n) (d := d) A hr hk)
  clear hr hk
  go_wp2_with fail
  refine (OR.out _ _ _ _ VS.out).mono ?_; rintro e w3 ⟨rfl, z, hv, hz, hz1, hz2⟩
  have y1 := hv.sb
  have HK := Lib.hid hv.kp
  have hzb : -100000000 ≤ z ∧ z ≤ 100000000 := by omega
  have HR := Lib.hid (Mx.fit z)
  rw [hz, show Fp.ofInt 0 + dd = dd by rw [show Fp.ofInt 0 = 0 from rfl]; grind] at HR
  have hb := Mx.tmod_bound z
  have hwa : IntKind.i64.wrap (z.tmod 9973 + 9973) = z.tmod 9973 + 9973 := IntWalk.i64_in _ (by omega)
  clear hv hz hz1 hz2 hb
  go_wp2_with fail
  go_ret2
  refine ⟨?_, HK.out⟩
  show Ending.returned (.tuple #[.int .i64 ((z.tmod 9973 + 9973).tmod 9973), .nilIface]) = _
  rw [HR.out]

end Go.Proofs.Ytpffekaldpllkaa

/- Plain facts on polynomials, second part: rows that are changed cell by cell, Euclid's steps, the monic one, and the numbers as the program has them. -/
namespace Go.Proofs.Ytpffekaldpllkaa.Pol
open Fp
set_option linter.unusedVariables false

theorem co_set (p : List F) (k m : Nat) (a : F) (h : k < p.length) : co (p.set k a) m = if m = k then a else co p m := by
  unfold co
  rw [List.getD_eq_getElem?_getD, List.getD_eq_getElem?_getD, List.getElem?_set]
  by_cases e : k = m
  · subst e; simp [h]
  · rw [if_neg e, if_neg (fun h => e h.symm)]

theorem ev_take_more (p : List F) (k : Nat) (x : F) : ev (p.take (k + 1)) x = ev (p.take k) x + co p k * pw x k := by
  rcases Nat.lt_or_ge k p.length with h | h
  · exact ev_take_succ p k h x
  · rw [List.take_of_length_le h, List.take_of_length_le (by omega), co_out p k h]; grind

/-- To R from place i on c times the first j of g are added. -/
def addAt (R : List F) (c : F) (g : List F) (i : Nat) : Nat → List F
  | 0 => R
  | j + 1 => (addAt R c g i j).set (i + j) (co (addAt R c g i j) (i + j) + c * co g j)
theorem len_addAt (R : List F) (c : F) (g : List F) (i j : Nat) : (addAt R c g i j).length = R.length := by
  induction j with
  | zero => rfl
  | succ j ih => rw [addAt, List.length_set, ih]
theorem ev_addAt (R : List F) (c : F) (g : List F) (i j : Nat) (h : i + j ≤ R.length) (x : F) : ev (addAt R c g i j) x = ev R x + c * pw x i * ev (g.take j) x := by
  induction j with
  | zero => rw [addAt, List.take_zero, ev_nil]; grind
  | succ j ih => rw [addAt, ev_set _ _ _ _ (by rw [len_addAt]; omega), ih (by omega), ev_take_more, pw_add]; grind
theorem co_addAt_far (R : List F) (c : F) (g : List F) (i j k : Nat) (h : i + j ≤ R.length) (hk : i + j ≤ k) : co (addAt R c g i j) k = co R k := by
  induction j with
  | zero => rfl
  | succ j ih => rw [addAt, co_set _ _ _ _ (by rw [len_addAt]; omega), if_neg (by omega), ih (by omega) (by omega)]
theorem co_addAt_top (R : List F) (c : F) (g : List F) (i m : Nat) (h : i + m < R.length) : co (addAt R c g i (m + 1)) (i + m) = co R (i + m) + c * co g m := by
  rw [addAt, co_set _ _ _ _ (by rw [len_addAt]; exact h), if_pos rfl, co_addAt_far R c g i m _ (by omega) (Nat.le_refl _)]

/-- The rows of a product, one after another. -/
def mulRows (f g : List F) : Nat → List F
  | 0 => List.replicate (f.length + g.length) 0
  | i + 1 => addAt (mulRows f g i) (co f i) g i g.length
theorem len_mulRows (f g : List F) (i : Nat) : (mulRows f g i).length = f.length + g.length := by
  induction i with
  | zero => rw [mulRows, List.length_replicate]
  | succ i ih => rw [mulRows, len_addAt, ih]
theorem ev_mulRows (f g : List F) (i : Nat) (h : i ≤ f.length) (x : F) : ev (mulRows f g i) x = ev (f.take i) x * ev g x := by
  induction i with
  | zero => rw [mulRows, ev_zeros, List.take_zero, ev_nil]; grind
  | succ i ih => rw [mulRows, ev_addAt _ _ _ _ _ (by rw [len_mulRows]; omega), List.take_length, ih (by omega), ev_take_more]; grind

/-- The sum, without noughts at its end. -/
def add (f g : List F) : List F := trim (padd f g)
/-- The product, without noughts at its end. -/
def mul (f g : List F) : List F := trim (pmul f g)
theorem ev_add (f g : List F) (x : F) : ev (add f g) x = ev f x + ev g x := by rw [add, ev_trim, ev_padd]
theorem ev_mul (f g : List F) (x : F) : ev (mul f g) x = ev f x * ev g x := by rw [mul, ev_trim, ev_pmul]
theorem tr_add (f g : List F) : Tr (add f g) := tr_trim _
theorem tr_mul (f g : List F) : Tr (mul f g) := tr_trim _
theorem len_add (f g : List F) : (add f g).length ≤ max f.length g.length := Nat.le_trans (len_trim _) (Nat.le_of_eq (len_padd _ _))
theorem len_mul (f g : List F) : (mul f g).length ≤ f.length + g.length := Nat.le_trans (len_trim _) (len_pmul_le _ _)
theorem len_mul' (f g : List F) (h : f.length + g.length ≤ 9973) : (mul f g).length ≤ f.length + g.length - 1 := by
  by_cases h1 : f = []
  · subst h1; rw [mul, pmul, trim_nil]; simp
  · by_cases h2 : g = []
    · have : mul f g = [] := zero_of _ (tr_mul f g) (Nat.le_trans (len_mul f g) h) fun x => by rw [ev_mul, h2, ev_nil]; grind
      rw [this]; simp
    · have := len_pmul f g h1 h2
      have := len_trim (pmul f g)
      rw [mul]; omega
theorem is_add (f g r : List F) (lf : f.length ≤ 1000) (lg : g.length ≤ 1000) (lr : r.length ≤ 1000) (h : ∀ x, ev r x = ev f x + ev g x) : trim r = add f g := by
  have := len_add f g
  have := len_trim r
  exact same _ _ (tr_trim r) (tr_add f g) (by omega) (by omega) fun x => by rw [ev_trim, h, ev_add]
theorem is_mul (f g r : List F) (lf : f.length ≤ 1000) (lg : g.length ≤ 1000) (lr : r.length ≤ 2000) (h : ∀ x, ev r x = ev f x * ev g x) : trim r = mul f g := by
  have := len_mul f g
  have := len_trim r
  exact same _ _ (tr_trim r) (tr_mul f g) (by omega) (by omega) fun x => by rw [ev_trim, h, ev_mul]
theorem rows_mul (f g : List F) (lf : f.length ≤ 1000) (lg : g.length ≤ 1000) : trim (mulRows f g f.length) = mul f g :=
  is_mul f g _ lf lg (by rw [len_mulRows]; omega) fun x => by rw [ev_mulRows f g _ (Nat.le_refl _), List.take_length]
/-- The sum's row: f, noughts behind it, g added. -/
theorem row_add (f g : List F) (lf : f.length ≤ 1000) (lg : g.length ≤ 1000) :
    trim (addAt (f ++ List.replicate (max f.length g.length - f.length) 0) 1 g 0 g.length) = add f g :=
  is_add f g _ lf lg (by rw [len_addAt, List.length_append, List.length_replicate]; omega) fun x => by
    rw [ev_addAt _ _ _ _ _ (by rw [List.length_append, List.length_replicate]; omega), ev_append, ev_zeros, List.take_length, pw_zero]; grind

theorem mul_of (f g : List F) (lf : f.length ≤ 1000) (lg : g.length ≤ 1000) (h : trim g ≠ []) : mul f g = pmul (trim f) (trim g) := by
  have := len_mul f g
  have := len_trim f
  have := len_trim g
  have := len_pmul_le (trim f) (trim g)
  exact same _ _ (tr_mul f g) (tr_pmul _ _ (tr_trim f) (tr_trim g) h) (by omega) (by omega) fun x => by rw [ev_mul, ev_pmul, ev_trim, ev_trim]

/-- EUCLID's steps: from f and g they come to c. -/
inductive Gc : List F → List F → List F → Prop
  | done (f : List F) : Gc f [] f
  | step {f g q r c : List F} (d : Dv f g q r) (h : Gc g r c) : Gc f g c

theorem Dv.ne {f g q r : List F} (h : Dv f g q r) : g ≠ [] := fun e => by
  have := h.lt
  rw [e] at this; simp at this

theorem Gc.one {f g c : List F} (h : Gc f g c) : ∀ {c' : List F}, Tr g → f.length ≤ 1000 → g.length ≤ 1000 → Gc f g c' → c = c' := by
  induction h with
  | done f =>
    intro c' _ _ _ h'
    cases h' with
    | done => rfl
    | step d _ => exact absurd rfl d.ne
  | step d h ih =>
    intro c' hg lf lg h'
    cases h' with
    | done => exact absurd rfl d.ne
    | step d' h' =>
      obtain ⟨rfl, rfl⟩ := d.one hg lf lg d'
      have := d.lt
      exact ih d.tr lg (by omega) h'

theorem Gc.facts {f g c : List F} (h : Gc f g c) : Tr f → Tr g → f.length ≤ 1000 → g.length ≤ 1000 → Tr c ∧ c.length ≤ 1000 ∧ (c = [] ↔ f = [] ∧ g = []) ∧
    ∃ a b, Tr a ∧ Tr b ∧ a.length ≤ f.length ∧ b.length ≤ g.length ∧ (∀ x, ev f x = ev c x * ev a x) ∧ (∀ x, ev g x = ev c x * ev b x) := by
  induction h with
  | done f =>
    intro hf _ lf _
    refine ⟨hf, lf, ⟨fun h => ⟨h, rfl⟩, fun h => h.1⟩, ?_⟩
    by_cases h0 : f = []
    · subst h0
      exact ⟨[], [], tr_nil, tr_nil, Nat.le_refl _, Nat.le_refl _, fun x => by rw [ev_nil]; grind, fun x => by rw [ev_nil]; grind⟩
    · have := List.length_pos_iff.2 h0
      exact ⟨[1], [], fun _ => by simp [co], tr_nil, by simp; omega, Nat.le_refl _, fun x => by rw [ev_one]; grind, fun x => by rw [ev_nil]; grind⟩
  | @step f g q r c d h ih =>
    intro hf hg lf lg
    have hlt := d.lt
    have hlq := d.lq
    obtain ⟨tc, lc, hz, a, b, ta, tb, la, lb, ea, eb⟩ := ih hg d.tr lg (by omega)
    have c0 : c ≠ [] := fun e => d.ne (hz.1 e).1
    refine ⟨tc, lc, ⟨fun e => absurd e c0, fun e => absurd e.2 d.ne⟩, trim (padd (pmul a q) b), a, tr_trim _, ta, ?_, la, fun x => ?_, ea⟩
    · by_cases z : trim (padd (pmul a q) b) = []
      · rw [z]; simp
      · have e1 := len_trim (padd (pmul a q) b)
        rw [len_padd] at e1
        have e2 := len_pmul_le a q
        have e := prod_len c _ f tc (tr_trim _) hf c0 z (by omega) (by omega) fun x => by
          rw [ev_trim, ev_padd, ev_pmul, d.eq, ea, eb]; grind
        have l := len_pmul c _ c0 z
        rw [← e] at l
        have := List.length_pos_iff.2 c0
        omega
    · rw [ev_trim, ev_padd, ev_pmul, d.eq, ea, eb]; grind

theorem Dv.scale {f g q r h : List F} (d : Dv f g q r) (hh : Tr h) (h0 : h ≠ []) : Dv (pmul f h) (pmul g h) q (pmul r h) := by
  have g0 := d.ne
  have lg := len_pmul g h g0 h0
  have lh := List.length_pos_iff.2 h0
  have lgp := List.length_pos_iff.2 g0
  have hlt := d.lt
  have hlq := d.lq
  refine ⟨d.tq, tr_pmul r h d.tr hh h0, ?_, ?_, fun x => by rw [ev_pmul, ev_pmul, ev_pmul, d.eq]; grind⟩
  · by_cases r0 : r = []
    · rw [r0, pmul]; simp; omega
    · have := len_pmul r h r0 h0; omega
  · by_cases f0 : f = []
    · rw [f0] at hlq; simp at hlq; rw [hlq]; simp
    · have := len_pmul f h f0 h0; omega
theorem Gc.scale {f g c h : List F} (d : Gc f g c) (hh : Tr h) (h0 : h ≠ []) : Gc (pmul f h) (pmul g h) (pmul c h) := by
  induction d with
  | done f => exact .done _
  | step d _ ih => exact .step (d.scale hh h0) ih

theorem swap (a b i : F) (h : i * (a * b) = 1) : (i * b) * a = 1 := by rw [Fin.mul_assoc, Fin.mul_comm b, h]
theorem cancel (a b i : F) (h : i * b = 1) : a + -(a * i) * b = 0 := by
  have : (a * i) * b = a := by rw [Fin.mul_assoc, h, Fin.mul_one]
  have e : -(a * i) * b = -((a * i) * b) := by grind
  rw [e, this]; grind
/-- The greatest factor. -/
def top (p : List F) : F := co p (p.length - 1)
theorem top_ne {p : List F} (h : Tr p) (h0 : p ≠ []) : top p ≠ 0 := h h0
/-- Made monic. -/
def mon (p : List F) : List F := times (inv (top p)) p
theorem mon_nil : mon [] = [] := rfl
theorem len_mon (p : List F) : (mon p).length = p.length := len_times _ _
theorem mon_ne {p : List F} (h0 : p ≠ []) : mon p ≠ [] := fun e => h0 (List.eq_nil_of_length_eq_zero (by rw [← len_mon, e]; rfl))
theorem ev_mon (p : List F) (x : F) : ev (mon p) x = inv (top p) * ev p x := ev_times _ _ _
theorem top_mon {p : List F} (h : Tr p) (h0 : p ≠ []) : top (mon p) = 1 := by
  rw [top, len_mon, mon, co_times]
  exact inv_mul (top_ne h h0)
theorem tr_mon {p : List F} (h : Tr p) : Tr (mon p) := fun h1 => by
  have h0 : p ≠ [] := fun e => h1 (by rw [e]; rfl)
  have := top_mon h h0
  rw [top] at this
  rw [this]; exact one_ne
theorem inv_ne {a : F} (h : a ≠ 0) : inv a ≠ 0 := fun e => by
  have := inv_mul h
  rw [e] at this
  exact one_ne (by rw [← this]; grind)
theorem tr_times {c : F} {p : List F} (hc : c ≠ 0) (h : Tr p) : Tr (times c p) := fun h1 => by
  have h0 : p ≠ [] := fun e => h1 (by rw [e]; rfl)
  rw [len_times, co_times]
  intro e
  rcases mul_zero_or e with e | e
  · exact hc e
  · exact h h0 e

/-- What is divided by its greatest factor alone. -/
theorem mon_dv {p q r : List F} (h : Tr p) (h0 : p ≠ []) (lp : p.length ≤ 1000) (d : Dv p [top p] q r) : q = mon p := by
  have t := top_ne h h0
  have t1 : Tr [top p] := fun _ => t
  refine (d.one t1 lp (by simp) ⟨tr_mon h, tr_nil, by simp, by rw [len_mon]; exact Nat.le_refl _, fun x => ?_⟩).1
  rw [ev_one, ev_mon, ev_nil]
  have := mul_inv t
  grind

/-- c divides f, and so does it made monic. -/
theorem mon_divides {f c a : List F} (hc : Tr c) (h0 : c ≠ []) (ha : Tr a) (la : a.length ≤ f.length) (h : ∀ x, ev f x = ev c x * ev a x) : Dv f (mon c) (times (top c) a) [] := by
  have t := top_ne hc h0
  have := List.length_pos_iff.2 h0
  refine ⟨tr_times t ha, tr_nil, by rw [len_mon]; simpa using this, by rw [len_times]; exact la, fun x => ?_⟩
  rw [ev_mon, ev_times, ev_nil, h]
  have := inv_mul t
  grind

theorem top_pmul {p q : List F} (h1 : p ≠ []) (h2 : q ≠ []) : top (pmul p q) = top p * top q := by
  have l1 := List.length_pos_iff.2 h1
  have l2 := List.length_pos_iff.2 h2
  have e := len_pmul p q h1 h2
  rw [top, show (pmul p q).length - 1 = (p.length - 1) + (q.length - 1) by omega]
  exact co_pmul p q _ _ (by omega) (by omega)

/-- The monic divisor so many times, by the monic divisor of what is so many times: a number. -/
theorem mon_scale {c h : List F} (hc : Tr c) (hh : Tr h) (c0 : c ≠ []) (h0 : h ≠ []) : Dv (pmul (mon c) h) (mon (pmul c h)) [top h] [] := by
  have tc := top_ne hc c0
  have th := top_ne hh h0
  have l := List.length_pos_iff.2 (pmul_ne c h c0 h0)
  have l2 := List.length_pos_iff.2 (pmul_ne (mon c) h (mon_ne c0) h0)
  refine ⟨fun _ => th, tr_nil, by rw [len_mon]; simpa using l, by simp; omega, fun x => ?_⟩
  rw [ev_pmul, ev_mon, ev_mon, ev_pmul, ev_one, ev_nil, top_pmul c0 h0]
  have e1 := inv_mul tc
  have e2 := inv_mul th
  have e3 : inv (top c * top h) * (top c * top h) = 1 := inv_mul fun e => by
    rcases mul_zero_or e with e | e
    · exact tc e
    · exact th e
  have e4 : inv (top c * top h) * top h = inv (top c) := by
    have : (inv (top c * top h) * top h) * top c = inv (top c) * top c := by rw [e1]; exact swap _ _ _ e3
    exact mul_cancel tc this
  rw [← e4]; grind

/-- The same one, so many times and shifted, added: as the document's answer does it. -/
def shift (t : F) (up : Nat) (g : List F) : List F := List.replicate up 0 ++ times t g
theorem ev_shift (t : F) (up : Nat) (g : List F) (x : F) : ev (shift t up g) x = t * pw x up * ev g x := by
  rw [shift, ev_append, ev_zeros, ev_times, List.length_replicate]; grind
theorem len_shift (t : F) (up : Nat) (g : List F) : (shift t up g).length = up + g.length := by rw [shift, List.length_append, List.length_replicate, len_times]
theorem co_shift_low (t : F) (up : Nat) (g : List F) (k : Nat) (h : k < up) : co (shift t up g) k = 0 := by
  rw [shift, co, List.getD_eq_getElem?_getD, List.getElem?_append_left (by simpa using h)]
  simp [h]
theorem co_shift (t : F) (up : Nat) (g : List F) (k : Nat) (h : up ≤ k) : co (shift t up g) k = t * co g (k - up) := by
  rw [← co_times, shift, co, List.getD_eq_getElem?_getD, List.getElem?_append_right (by simpa using h), List.length_replicate, co, List.getD_eq_getElem?_getD]
def plus (f g : List F) (t : F) (up : Nat) : List F := trim (padd f (shift t up g))
theorem ev_plus (f g : List F) (t : F) (up : Nat) (x : F) : ev (plus f g t up) x = ev f x + t * pw x up * ev g x := by rw [plus, ev_trim, ev_padd, ev_shift]
theorem tr_plus (f g : List F) (t : F) (up : Nat) : Tr (plus f g t up) := tr_trim _
theorem len_plus (f g : List F) (t : F) (up : Nat) : (plus f g t up).length ≤ max f.length (up + g.length) := by
  have := len_trim (padd f (shift t up g))
  rw [len_padd, len_shift] at this
  exact this
/-- The row of the first k of a sum. -/
def plusRow (f g : List F) (t : F) (up : Nat) : Nat → List F
  | 0 => []
  | k + 1 => plusRow f g t up k ++ [co f k + co (shift t up g) k]
theorem len_plusRow (f g : List F) (t : F) (up k : Nat) : (plusRow f g t up k).length = k := by
  induction k with
  | zero => rfl
  | succ k ih => rw [plusRow, List.length_append, ih]; rfl
theorem ev_plusRow (f g : List F) (t : F) (up k : Nat) (x : F) : ev (plusRow f g t up k) x = ev (f.take k) x + ev ((shift t up g).take k) x := by
  induction k with
  | zero => rw [plusRow, List.take_zero, List.take_zero, ev_nil]; grind
  | succ k ih => rw [plusRow, ev_snoc, len_plusRow, ih, ev_take_more, ev_take_more]; grind
theorem row_plus (f g : List F) (t : F) (up k : Nat) (h1 : f.length ≤ k) (h2 : up + g.length ≤ k) (hk : k ≤ 1000) : trim (plusRow f g t up k) = plus f g t up := by
  have := len_trim (plusRow f g t up k)
  have e := len_plusRow f g t up k
  have := len_plus f g t up
  refine same _ _ (tr_trim _) (tr_plus f g t up) (by omega) (by omega) fun x => ?_
  rw [ev_trim, ev_plusRow, ev_plus, List.take_of_length_le h1, List.take_of_length_le (by rw [len_shift]; exact h2), ev_shift]

/-- One step of dividing takes the greatest factor away. -/
theorem plus_less (f g : List F) (hf : f ≠ []) (hg : Tr g) (g0 : g ≠ []) (hl : g.length ≤ f.length) :
    (plus f g (-(top f * inv (top g))) (f.length - g.length)).length < f.length := by
  have l1 := List.length_pos_iff.2 hf
  have l2 := List.length_pos_iff.2 g0
  have t := top_ne hg g0
  have : (plus f g (-(top f * inv (top g))) (f.length - g.length)).length ≤ f.length - 1 := trim_short _ _ fun k hk => by
    rw [co_padd, co_shift _ _ _ _ (by omega)]
    by_cases e : k = f.length - 1
    · have e2 : k - (f.length - g.length) = g.length - 1 := by omega
      have e3 : co f k = top f := by rw [e]; rfl
      have e4 : co g (g.length - 1) = top g := rfl
      rw [e2, e3, e4]
      exact cancel _ _ _ (inv_mul t)
    · rw [co_out f k (by omega), co_out g _ (by omega), Fin.mul_zero, Fin.add_zero]
  omega

/-- The numbers of a row as the program has them. -/
def vals (p : List F) : List Int := p.map fun a => (a.val : Int)
theorem len_vals (p : List F) : (vals p).length = p.length := List.length_map ..
theorem vals_at (p : List F) (k : Nat) : (vals p).getD k 0 = ((co p k).val : Int) := by
  unfold vals co
  rw [List.getD_eq_getElem?_getD, List.getD_eq_getElem?_getD, List.getElem?_map]
  cases p[k]? <;> rfl
theorem vals_set (p : List F) (k : Nat) (a : F) : vals (p.set k a) = (vals p).set k (a.val : Int) := List.map_set ..
theorem vals_take (p : List F) (k : Nat) : vals (p.take k) = (vals p).take k := List.map_take ..
theorem vals_append (p q : List F) : vals (p ++ q) = vals p ++ vals q := List.map_append ..
theorem vals_inj {p q : List F} (h : vals p = vals q) : p = q := by
  refine list_ext p q (by rw [← len_vals p, h, len_vals]) fun k => ?_
  have := vals_at p k
  rw [h, vals_at] at this
  exact (val_inj this).symm
theorem vals_zeros (n : Nat) : vals (List.replicate n 0) = List.replicate n 0 := List.map_replicate ..

/-- What is wrong with a row of numbers, as a number. -/
def code (l : List Int) : Nat := if 12 < l.length then 4 else if ∀ n ∈ l, 0 ≤ n ∧ n ≤ 9972 then 0 else 1
theorem code_zero {l : List Int} (h : code l = 0) : ∃ p : List F, l = vals p ∧ p.length ≤ 12 := by
  unfold code at h
  split at h
  · cases h
  · split at h
    · rename_i h1 h2
      refine ⟨l.map ofInt, ?_, by simpa using h1⟩
      unfold vals
      rw [List.map_map]
      conv => lhs; rw [← List.map_id l]
      exact List.map_congr_left fun n hn => (ofInt_of n (h2 n hn).1 (h2 n hn).2).symm
    · cases h
theorem code_vals (p : List F) (h : p.length ≤ 12) : code (vals p) = 0 := by
  unfold code
  rw [if_neg (by rw [len_vals]; omega), if_pos]
  intro n hn
  obtain ⟨a, _, rfl⟩ := List.mem_map.1 hn
  exact val_bound a
theorem code_some (l : List Int) : code l = 0 ∨ code l = 1 ∨ code l = 4 := by
  unfold code
  split
  · exact .inr (.inr rfl)
  · split
    · exact .inl rfl
    · exact .inr (.inl rfl)
theorem code_full {l : List Int} (h : 12 < l.length) : code l = 4 := by unfold code; rw [if_pos h]
theorem code_range {l : List Int} (h : ¬ 12 < l.length) {k : Nat} (hk : k < l.length) (hn : ¬ (0 ≤ l.getD k 0 ∧ l.getD k 0 ≤ 9972)) : code l = 1 := by
  unfold code
  rw [if_neg h, if_neg]
  intro f
  refine hn ?_
  rw [List.getD_eq_getElem?_getD, List.getElem?_eq_getElem hk]
  exact f _ (List.getElem_mem _)
theorem code_ok {l : List Int} (h : ¬ 12 < l.length) (hn : ∀ k, k < l.length → 0 ≤ l.getD k 0 ∧ l.getD k 0 ≤ 9972) : code l = 0 := by
  unfold code
  rw [if_neg h, if_pos]
  intro n hm
  obtain ⟨k, hk, rfl⟩ := List.mem_iff_getElem.1 hm
  have := hn k hk
  rwa [List.getD_eq_getElem?_getD, List.getElem?_eq_getElem hk] at this
theorem code_zero_iff (l : List Int) : code l = 0 ↔ l.length ≤ 12 ∧ ∀ k, k < l.length → 0 ≤ l.getD k 0 ∧ l.getD k 0 ≤ 9972 := by
  constructor
  · intro h
    obtain ⟨p, rfl, hp⟩ := code_zero h
    refine ⟨by rw [len_vals]; exact hp, fun k _ => ?_⟩
    rw [vals_at]; exact val_bound _
  · rintro ⟨h1, h2⟩
    exact code_ok (by omega) h2

/-- The error of two rows, as a number. -/
def code2 (l m : List Int) : Nat := if code l = 0 then code m else code l
theorem code2_zero {l m : List Int} (h : code2 l m = 0) : code l = 0 ∧ code m = 0 := by
  unfold code2 at h
  split at h
  · exact ⟨by assumption, h⟩
  · contradiction

/-- Sums and products as the program has them. -/
theorem val_madd (s a b : F) : ((s.val : Int) + (a.val : Int) * (b.val : Int)) % 9973 = ((s + a * b).val : Int) := by
  rw [add_val, mul_val, Int.add_emod_emod]
theorem val_msub (s t c : F) : ((s.val : Int) + (9973 - (t.val : Int)) * (c.val : Int)) % 9973 = ((s + -t * c).val : Int) := by
  have e : ofInt (9973 - (t.val : Int)) = -t := by
    have : ofInt (9973 - (t.val : Int)) + ofInt (t.val : Int) = 0 := by
      rw [← ofInt_add, show 9973 - (t.val : Int) + (t.val : Int) = 9973 by omega]; rfl
    rw [ofInt_self] at this; grind
  have h := ofInt_val ((s.val : Int) + (9973 - (t.val : Int)) * (c.val : Int))
  rw [ofInt_add, ofInt_mul, e, ofInt_self, ofInt_self] at h
  exact h.symm
theorem val_horner (v x a : F) : ((v.val : Int) * (x.val : Int) + (a.val : Int)) % 9973 = ((a + x * v).val : Int) := by
  rw [add_val, mul_val, Int.add_emod_emod]
  congr 1
  rw [Int.mul_comm (x.val : Int)]; omega

end Go.Proofs.Ytpffekaldpllkaa.Pol

/- Plain facts on polynomials through given points: there is one, divided differences make it, and so does Lagrange's sum. -/
namespace Go.Proofs.Ytpffekaldpllkaa.Pol
open Fp
set_option linter.unusedVariables false

/-- The first n points have different places. -/
def Apart (X : Nat → F) (n : Nat) : Prop := ∀ i j, i < j → j < n → X i ≠ X j
theorem Apart.le {X : Nat → F} {n m : Nat} (h : Apart X n) (hm : m ≤ n) : Apart X m := fun i j h1 h2 => h i j h1 (by omega)
theorem Apart.ne {X : Nat → F} {n i j : Nat} (h : Apart X n) (hi : i < n) (hj : j < n) (e : i ≠ j) : X i ≠ X j := by
  rcases Nat.lt_or_ge i j with l | l
  · exact h i j l hj
  · exact fun e2 => h j i (by omega) hi e2.symm
/-- p has at most n factors and goes through the first n points. -/
def Th (X Y : Nat → F) (n : Nat) (p : List F) : Prop := p.length ≤ n ∧ ∀ i, i < n → ev p (X i) = Y i

theorem sub_ne {a b : F} (h : a ≠ b) : a - b ≠ 0 := fun e => h (by grind)

theorem zero_dots (n : Nat) : ∀ (X : Nat → F) (p : List F), p.length ≤ n → Apart X n → (∀ i, i < n → ev p (X i) = 0) → ∀ b ∈ p, b = 0 := by
  induction n with
  | zero =>
    intro X p hp _ _ b hb
    have : p = [] := List.eq_nil_of_length_eq_zero (by omega)
    subst this; simp at hb
  | succ n ih =>
    intro X p hp hX hz
    by_cases h0 : p = []
    · subst h0; intro b hb; simp at hb
    · obtain ⟨q, h1, h2, h3⟩ := synth p (X n) h0
      have hr := hz n (by omega)
      refine h3 (ih X q (by omega) (hX.le (by omega)) fun i hi => ?_) hr
      have e := h2 (X i)
      rw [hr, hz i (by omega)] at e
      have e2 : (X i - X n) * ev q (X i) = 0 := by grind
      rcases mul_zero_or e2 with h | h
      · exact absurd h (sub_ne (hX i n hi (by omega)))
      · exact h

theorem co_mem_zero {p : List F} (h : ∀ b ∈ p, b = 0) (k : Nat) : co p k = 0 := by
  rcases Nat.lt_or_ge k p.length with l | l
  · have : co p k ∈ p := by
      unfold co; rw [List.getD_eq_getElem?_getD, List.getElem?_eq_getElem l]; exact List.getElem_mem l
    exact h _ this
  · exact co_out p k l

theorem Th.one {X Y : Nat → F} {n : Nat} {p q : List F} (hX : Apart X n) (hp : Th X Y n p) (hq : Th X Y n q) (k : Nat) : co p k = co q k := by
  have h := zero_dots n X (padd p (times (-1) q)) (by have h1 := hp.1; have h2 := hq.1; rw [len_padd, len_times]; omega) hX fun i hi => by
    rw [ev_padd, ev_times, hp.2 i hi, hq.2 i hi]; grind
  have := co_mem_zero h k
  rw [co_padd, co_times] at this
  grind
theorem ev_of_co {p q : List F} (h : ∀ k, co p k = co q k) (x : F) : ev p x = ev q x := by
  have e : trim p = trim q := tr_ext _ _ (tr_trim p) (tr_trim q) fun k => by rw [co_trim, co_trim, h]
  rw [← ev_trim p, e, ev_trim]
theorem Th.ev {X Y : Nat → F} {n : Nat} {p q : List F} (hX : Apart X n) (hp : Th X Y n p) (hq : Th X Y n q) (x : F) : Pol.ev p x = Pol.ev q x := ev_of_co (hp.one hX hq) x
theorem Th.same {X Y : Nat → F} {n : Nat} {p q : List F} (hX : Apart X n) (hp : Th X Y n p) (hq : Th X Y n q) (tp : Tr p) (tq : Tr q) : p = q := tr_ext _ _ tp tq (hp.one hX hq)
theorem Th.trim {X Y : Nat → F} {n : Nat} {p : List F} (hp : Th X Y n p) : Th X Y n (Pol.trim p) :=
  ⟨Nat.le_trans (len_trim p) hp.1, fun i hi => by rw [ev_trim]; exact hp.2 i hi⟩

/-- Divided differences: of the points j to j + k. -/
def dd (X Y : Nat → F) : Nat → Nat → F
  | 0, j => Y j
  | k + 1, j => (dd X Y k (j + 1) - dd X Y k j) * inv (X (j + k + 1) - X j)

theorem co_lin (a b : F) (p : List F) (k : Nat) : co (pmul [a, b] p) (k + 1) = a * co p (k + 1) + b * co p k := by
  simp only [pmul]
  rw [co_padd, co_times, co_succ, co_padd, co_times]
  have : co (0 :: []) k = (0 : F) := by cases k <;> simp [co]
  rw [this]; grind
theorem ev_lin (a b : F) (p : List F) (x : F) : Pol.ev (pmul [a, b] p) x = (a + b * x) * Pol.ev p x := by
  rw [ev_pmul, ev_cons, ev_one]; grind

/-- AITKEN: what goes through the points j to j + k, and its greatest factor is the divided difference. -/
theorem dd_is (X Y : Nat → F) (k : Nat) : ∀ j, Apart X (j + k + 1) → ∃ p : List F, p.length ≤ k + 1 ∧ (∀ i, j ≤ i → i ≤ j + k → Pol.ev p (X i) = Y i) ∧ co p k = dd X Y k j := by
  induction k with
  | zero =>
    intro j _
    refine ⟨[Y j], by simp, fun i h1 h2 => ?_, by simp [co, dd]⟩
    rw [show i = j by omega, ev_one]
  | succ k ih =>
    intro j hX
    obtain ⟨p, lp, ep, cp⟩ := ih j (hX.le (by omega))
    obtain ⟨q, lq, eq, cq⟩ := ih (j + 1) (by rw [show j + 1 + k + 1 = j + (k + 1) + 1 by omega]; exact hX)
    have ne : X (j + k + 1) - X j ≠ 0 := sub_ne (hX.ne (by omega) (by omega) (by omega))
    have hi := inv_mul ne
    refine ⟨trim (times (inv (X (j + k + 1) - X j)) (padd (pmul [-(X j), 1] q) (pmul [X (j + k + 1), -1] p))), trim_short _ _ fun m hm => ?_, fun i h1 h2 => ?_, ?_⟩
    · obtain ⟨m, rfl⟩ : ∃ t, m = t + 1 := ⟨m - 1, by omega⟩
      rw [co_times, co_padd, co_lin, co_lin, co_out q (m + 1) (by omega), co_out p (m + 1) (by omega), co_out q m (by omega), co_out p m (by omega)]; grind
    · rw [ev_trim, ev_times, ev_padd, ev_lin, ev_lin]
      by_cases a : i = j
      · subst a
        rw [ep i (by omega) (by omega)]; grind
      · by_cases b : i = j + k + 1
        · subst b
          rw [eq (j + k + 1) (by omega) (by omega)]; grind
        · rw [ep i (by omega) (by omega), eq i (by omega) (by omega)]; grind
    · rw [co_trim, co_times, co_padd, co_lin, co_lin, co_out q (k + 1) (by omega), co_out p (k + 1) (by omega), cp, cq, dd]; grind

/-- The divided difference is the factor of the k-th power of what goes through the points 0 to k. -/
theorem dd_top {X Y : Nat → F} {k : Nat} {p : List F} (hX : Apart X (k + 1)) (hp : Th X Y (k + 1) p) : co p k = dd X Y k 0 := by
  obtain ⟨q, lq, eq, cq⟩ := dd_is X Y k 0 (by rw [Nat.zero_add]; exact hX)
  rw [← cq]
  exact hp.one hX ⟨lq, fun i hi => eq i (Nat.zero_le _) (by omega)⟩ k

/-- Some polynomial goes through the points. -/
theorem th_some (X Y : Nat → F) (n : Nat) (hX : Apart X n) : ∃ p, Th X Y n p := by
  cases n with
  | zero => exact ⟨[], Nat.le_refl _, fun i hi => by omega⟩
  | succ n =>
    obtain ⟨p, lp, ep, _⟩ := dd_is X Y n 0 (by rw [Nat.zero_add]; exact hX)
    exact ⟨p, lp, fun i hi => ep i (Nat.zero_le _) (by omega)⟩

/-- (x - x0) .. (x - xk): the polynomial. -/
def way (X : Nat → F) : Nat → List F
  | 0 => [1]
  | k + 1 => mul (way X k) [-(X k), 1]
theorem len_way (X : Nat → F) (k : Nat) (hk : k ≤ 100) : (way X k).length ≤ k + 1 := by
  induction k with
  | zero => exact Nat.le_refl _
  | succ k ih =>
    have h := ih (by omega)
    have := len_mul' (way X k) [-(X k), 1] (by simp; omega)
    simp at this
    rw [way]; omega
theorem tr_way (X : Nat → F) (k : Nat) : Tr (way X k) := by
  cases k with
  | zero => exact fun _ => one_ne
  | succ k => exact tr_mul _ _
theorem ev_way_zero (X : Nat → F) (k i : Nat) (h : i < k) : Pol.ev (way X k) (X i) = 0 := by
  induction k with
  | zero => omega
  | succ k ih =>
    rw [way, ev_mul, ev_cons, ev_one]
    by_cases e : i = k
    · subst e; grind
    · rw [ih (by omega)]; grind
/-- The factor of the greatest power is one. -/
theorem co_way (X : Nat → F) (k : Nat) (hk : k ≤ 100) : co (way X k) k = 1 := by
  induction k with
  | zero => rfl
  | succ k ih =>
    have h := ih (by omega)
    have l := len_way X k (by omega)
    rw [way, mul, co_trim]
    have := co_pmul (way X k) [-(X k), 1] k 1 l (by simp)
    rw [this, h]; simp [co]

/-- NEWTON's sum: of the first m steps. -/
def nsum (X S : Nat → F) : Nat → List F
  | 0 => []
  | m + 1 => plus (nsum X S m) (way X m) (S m) 0
theorem tr_nsum (X S : Nat → F) (m : Nat) : Tr (nsum X S m) := by
  cases m with
  | zero => exact tr_nil
  | succ m => exact tr_plus _ _ _ _
theorem len_nsum (X S : Nat → F) (m : Nat) (hm : m ≤ 100) : (nsum X S m).length ≤ m := by
  induction m with
  | zero => exact Nat.le_refl _
  | succ m ih =>
    have h := ih (by omega)
    have l := len_way X m (by omega)
    have := len_plus (nsum X S m) (way X m) (S m) 0
    rw [nsum]; omega
theorem th_nsum (X Y : Nat → F) (m : Nat) (hm : m ≤ 100) (hX : Apart X m) : Th X Y m (nsum X (fun k => dd X Y k 0) m) := by
  induction m with
  | zero => exact ⟨Nat.le_refl _, fun i hi => by omega⟩
  | succ m ih =>
    have h := ih (by omega) (hX.le (by omega))
    obtain ⟨p, hp⟩ := th_some X Y (m + 1) hX
    have c := dd_top hX hp
    have l := len_way X m (by omega)
    -- p without its greatest factor times the way
    have hq : Th X Y m (trim (padd p (times (-(dd X Y m 0)) (way X m)))) := by
      refine ⟨trim_short _ _ fun k hk => ?_, fun i hi => ?_⟩
      · rw [co_padd, co_times]
        by_cases e : k = m
        · subst e; rw [c, co_way X k (by omega)]; grind
        · rw [co_out p k (by have := hp.1; omega), co_out _ k (by omega)]; grind
      · rw [ev_trim, ev_padd, ev_times, ev_way_zero X m i hi, hp.2 i (by omega)]; grind
    refine ⟨len_nsum X _ (m + 1) hm, fun i hi => ?_⟩
    have e := h.ev (hX.le (by omega)) hq (X i)
    rw [nsum, ev_plus, e, ev_trim, ev_padd, ev_times, pw_zero, hp.2 i hi]; grind

/-- From the end on: what the last n - i steps make. -/
def hor (X S : Nat → F) (n : Nat) : Nat → List F
  | 0 => []
  | m + 1 => add (mul (hor X S n m) [-(X (n - (m + 1))), 1]) [S (n - (m + 1))]
theorem len_hor (X S : Nat → F) (n m : Nat) (hm : m ≤ 100) : (hor X S n m).length ≤ m := by
  induction m with
  | zero => exact Nat.le_refl _
  | succ m ih =>
    have h := ih (by omega)
    have l := len_mul' (hor X S n m) [-(X (n - (m + 1))), 1] (by simp; omega)
    have := len_add (mul (hor X S n m) [-(X (n - (m + 1))), 1]) [S (n - (m + 1))]
    simp at l this
    rw [hor]; omega
theorem tr_hor (X S : Nat → F) (n m : Nat) : Tr (hor X S n m) := by
  cases m with
  | zero => exact tr_nil
  | succ m => exact tr_add _ _
theorem ev_hor (X S : Nat → F) (n m : Nat) (hm : m ≤ n) (x : F) : Pol.ev (nsum X S n) x = Pol.ev (nsum X S (n - m)) x + Pol.ev (way X (n - m)) x * Pol.ev (hor X S n m) x := by
  induction m with
  | zero => rw [hor, ev_nil, Nat.sub_zero]; grind
  | succ m ih =>
    have e : n - m = (n - (m + 1)) + 1 := by omega
    rw [ih (by omega), e, nsum, ev_plus, way, ev_mul, hor, ev_add, ev_mul, ev_one, ev_cons, ev_one, pw_zero]; grind
theorem hor_nsum (X S : Nat → F) (n : Nat) (hn : n ≤ 100) : hor X S n n = nsum X S n := by
  refine Pol.same _ _ (tr_hor X S n n) (tr_nsum X S n) (by have := len_hor X S n n hn; omega) (by have := len_nsum X S n hn; omega) fun x => ?_
  have := ev_hor X S n n (Nat.le_refl _) x
  rw [Nat.sub_self] at this
  rw [this]; show _ = 0 + _ * _; rw [show Pol.ev (way X 0) x = 1 from ev_one 1 x]; grind

/-- The one that goes through the points, without noughts at its end. -/
def thr (X Y : Nat → F) (n : Nat) : List F := hor X (fun k => dd X Y k 0) n n
theorem thr_nsum (X Y : Nat → F) (n : Nat) (hn : n ≤ 100) : thr X Y n = nsum X (fun k => dd X Y k 0) n := hor_nsum X _ n hn
theorem th_thr (X Y : Nat → F) (n : Nat) (hn : n ≤ 100) (hX : Apart X n) : Th X Y n (thr X Y n) := by
  rw [thr_nsum X Y n hn]; exact th_nsum X Y n hn hX
theorem tr_thr (X Y : Nat → F) (n : Nat) : Tr (thr X Y n) := tr_hor _ _ _ _
theorem len_thr (X Y : Nat → F) (n : Nat) (hn : n ≤ 100) : (thr X Y n).length ≤ n := len_hor _ _ _ _ hn
theorem thr_of {X Y : Nat → F} {n : Nat} {p : List F} (hn : n ≤ 100) (hX : Apart X n) (h : Th X Y n p) (tp : Tr p) : p = thr X Y n :=
  h.same hX (th_thr X Y n hn hX) tp (tr_thr X Y n)
theorem co_thr {X Y : Nat → F} {k : Nat} (hk : k < 100) (hX : Apart X (k + 1)) : co (thr X Y (k + 1)) k = dd X Y k 0 := dd_top hX (th_thr X Y (k + 1) (by omega) hX)

/-- LAGRANGE: the one that is y at place i and nought at the others, of the first k. -/
def lag (X : Nat → F) (y : F) (i : Nat) : Nat → List F
  | 0 => [y]
  | k + 1 => if k = i then lag X y i k else mul (lag X y i k) [-(X k) * inv (X i - X k), inv (X i - X k)]
theorem len_lag (X : Nat → F) (y : F) (i k : Nat) (hk : k ≤ 100) : (lag X y i k).length ≤ k + 1 ∧ (i < k → (lag X y i k).length ≤ k) := by
  induction k with
  | zero => exact ⟨by simp [lag], fun h => by omega⟩
  | succ k ih =>
    have h := ih (by omega)
    rw [lag]
    by_cases e : k = i
    · rw [if_pos e]; exact ⟨by omega, fun _ => by omega⟩
    · rw [if_neg e]
      have l := len_mul' (lag X y i k) [-(X k) * inv (X i - X k), inv (X i - X k)] (by simp; omega)
      simp at l
      exact ⟨by omega, fun hi => by have := h.2 (by omega); omega⟩
theorem lag_one (a b i y : F) (h : i * (a - b) = 1) : y * (-b * i + a * i) = y := by
  have : -b * i + a * i = i * (a - b) := by grind
  rw [this, h, Fin.mul_one]
theorem lag_zero (a i y : F) : y * (-a * i + a * i) = 0 := by grind
theorem ev_lag_at (X : Nat → F) (y : F) (n i k : Nat) (hX : Apart X n) (hi : i < n) (hk : k ≤ n) : Pol.ev (lag X y i k) (X i) = y := by
  induction k with
  | zero => rw [lag, ev_one]
  | succ k ih =>
    rw [lag]
    by_cases e : k = i
    · rw [if_pos e]; exact ih (by omega)
    · rw [if_neg e, ev_mul, ih (by omega), ev_cons, ev_one]
      exact lag_one _ _ _ _ (inv_mul (sub_ne (hX.ne hi (show k < n by omega) (fun h => e h.symm))))
theorem ev_lag_no (X : Nat → F) (y : F) (i k j : Nat) (hj : j < k) (h : j ≠ i) : Pol.ev (lag X y i k) (X j) = 0 := by
  induction k with
  | zero => omega
  | succ k ih =>
    rw [lag]
    by_cases e : k = i
    · rw [if_pos e]; exact ih (by omega)
    · rw [if_neg e, ev_mul, ev_cons, ev_one]
      by_cases e2 : j = k
      · subst e2; exact lag_zero _ _ _
      · rw [ih (by omega), Fin.zero_mul]
/-- LAGRANGE's sum of the first m. -/
def lsum (X Y : Nat → F) (n : Nat) : Nat → List F
  | 0 => []
  | m + 1 => plus (lsum X Y n m) (lag X (Y m) m n) 1 0
theorem len_lsum (X Y : Nat → F) (n m : Nat) (hn : n ≤ 100) (hm : m ≤ n) : (lsum X Y n m).length ≤ n := by
  induction m with
  | zero => exact Nat.zero_le _
  | succ m ih =>
    have h := ih (by omega)
    have l := (len_lag X (Y m) m n hn).2 (by omega)
    have := len_plus (lsum X Y n m) (lag X (Y m) m n) 1 0
    rw [lsum]; omega
theorem ev_lsum (X Y : Nat → F) (n m j : Nat) (hX : Apart X n) (hm : m ≤ n) (hj : j < n) : Pol.ev (lsum X Y n m) (X j) = if j < m then Y j else 0 := by
  induction m with
  | zero => rw [lsum, ev_nil, if_neg (by omega)]
  | succ m ih =>
    rw [lsum, ev_plus, ih (by omega), pw_zero]
    by_cases e : j = m
    · subst e
      rw [if_neg (by omega), if_pos (by omega), ev_lag_at X (Y j) n j n hX hj (Nat.le_refl _)]; grind
    · rw [ev_lag_no X (Y m) m n j hj e]
      by_cases l : j < m
      · rw [if_pos l, if_pos (by omega)]; grind
      · rw [if_neg l, if_neg (by omega)]; grind
theorem lsum_thr (X Y : Nat → F) (n : Nat) (hn : n ≤ 100) (hX : Apart X n) : lsum X Y n n = thr X Y n := by
  refine thr_of hn hX ⟨len_lsum X Y n n hn (Nat.le_refl _), fun i hi => ?_⟩ ?_
  · rw [ev_lsum X Y n n i hX (Nat.le_refl _) hi, if_pos hi]
  · cases n with
    | zero => exact tr_nil
    | succ n => exact tr_plus _ _ _ _

/-- The points from the end on. -/
theorem thr_turned (X Y X' Y' : Nat → F) (n : Nat) (hn : n ≤ 100) (hX : Apart X n) (hx : ∀ i, i < n → X' i = X (n - 1 - i)) (hy : ∀ i, i < n → Y' i = Y (n - 1 - i)) :
    Apart X' n ∧ thr X' Y' n = thr X Y n := by
  have hA : Apart X' n := fun i j h1 h2 => by
    rw [hx i (by omega), hx j h2]
    exact hX.ne (by omega) (by omega) (by omega)
  refine ⟨hA, thr_of hn hX ⟨len_thr X' Y' n hn, fun i hi => ?_⟩ (tr_thr X' Y' n)⟩
  have h := (th_thr X' Y' n hn hA).2 (n - 1 - i) (by omega)
  rw [hx _ (by omega), hy _ (by omega), show n - 1 - (n - 1 - i) = i by omega] at h
  exact h
theorem thr_congr {X Y X' Y' : Nat → F} {n : Nat} (hn : n ≤ 100) (hX : Apart X n) (hx : ∀ i, i < n → X' i = X i) (hy : ∀ i, i < n → Y' i = Y i) : Apart X' n ∧ thr X' Y' n = thr X Y n := by
  have hA : Apart X' n := fun i j h1 h2 => by rw [hx i (by omega), hx j h2]; exact hX i j h1 h2
  refine ⟨hA, thr_of hn hX ⟨len_thr X' Y' n hn, fun i hi => ?_⟩ (tr_thr X' Y' n)⟩
  have h := (th_thr X' Y' n hn hA).2 i hi
  rw [hx i hi, hy i hi] at h
  exact h
/-- What goes through sums is the sum. -/
theorem thr_sum (X Y Z : Nat → F) (n : Nat) (hn : n ≤ 100) (hX : Apart X n) : thr X (fun i => Y i + Z i) n = add (thr X Y n) (thr X Z n) := by
  refine (thr_of hn hX ⟨?_, fun i hi => ?_⟩ (tr_add _ _)).symm
  · have := len_add (thr X Y n) (thr X Z n)
    have := len_thr X Y n hn
    have := len_thr X Z n hn
    omega
  · rw [ev_add, (th_thr X Y n hn hX).2 i hi, (th_thr X Z n hn hX).2 i hi]

/-- The table of the divided differences: cell k after the orders up to o. -/
def tab (X Y : Nat → F) (o k : Nat) : F := dd X Y (min k o) (k - min k o)
theorem tab_zero (X Y : Nat → F) (k : Nat) : tab X Y 0 k = Y k := by rw [tab, Nat.min_zero]; rfl
theorem tab_low (X Y : Nat → F) (o k : Nat) (h : k ≤ o) : tab X Y o k = dd X Y k 0 := by rw [tab, Nat.min_eq_left h, Nat.sub_self]
theorem tab_keep (X Y : Nat → F) (o k : Nat) (h : k ≤ o) : tab X Y (o + 1) k = tab X Y o k := by rw [tab_low X Y o k h, tab_low X Y (o + 1) k (by omega)]
theorem tab_step (X Y : Nat → F) (o k : Nat) (h : o + 1 ≤ k) : tab X Y (o + 1) k = (tab X Y o k - tab X Y o (k - 1)) * inv (X k - X (k - (o + 1))) := by
  obtain ⟨j, rfl⟩ : ∃ j, k = j + (o + 1) := ⟨k - (o + 1), by omega⟩
  rw [tab, Nat.min_eq_right h, Nat.add_sub_cancel, dd, tab, Nat.min_eq_right (by omega), tab, Nat.min_eq_right (by omega)]
  rw [show j + (o + 1) - o = j + 1 by omega, show j + (o + 1) - 1 - o = j by omega, show j + o + 1 = j + (o + 1) by omega]
/-- While order o + 1 is made: the cells from i on have it. -/
def mid (X Y : Nat → F) (o i k : Nat) : F := if i < k then tab X Y (o + 1) k else tab X Y o k
/-- A row from a rule. -/
def row (n : Nat) (g : Nat → F) : List F := (List.range n).map g
theorem len_row (n : Nat) (g : Nat → F) : (row n g).length = n := by simp [row]
theorem co_row (n : Nat) (g : Nat → F) (k : Nat) (h : k < n) : co (row n g) k = g k := by
  unfold co row
  rw [List.getD_eq_getElem?_getD, List.getElem?_map, List.getElem?_range h]; rfl
theorem row_ext (n : Nat) (g h : Nat → F) (e : ∀ k, k < n → g k = h k) : row n g = row n h :=
  List.map_congr_left fun k hk => e k (List.mem_range.1 hk)
theorem row_self (p : List F) : row p.length (co p) = p := by
  refine list_ext _ _ (len_row _ _) fun k => ?_
  rcases Nat.lt_or_ge k p.length with h | h
  · exact co_row _ _ k h
  · rw [co_out _ k (by rw [len_row]; exact h), co_out _ k h]
theorem row_set (n : Nat) (g h : Nat → F) (i : Nat) (hi : i < n) (e : ∀ k, k < n → h k = if k = i then h i else g k) : (row n g).set i (h i) = row n h := by
  refine list_ext _ _ (by rw [List.length_set, len_row, len_row]) fun k => ?_
  rcases Nat.lt_or_ge k n with l | l
  · rw [co_set _ _ _ _ (by rw [len_row]; exact hi), co_row n h k l, e k l, co_row n g k l]
  · rw [co_out _ k (by rw [List.length_set, len_row]; exact l), co_out _ k (by rw [len_row]; exact l)]
theorem row_mid (X Y : Nat → F) (n o i : Nat) (hi : i < n) (ho : o + 1 ≤ i) :
    (row n (mid X Y o i)).set i (tab X Y (o + 1) i) = row n (mid X Y o (i - 1)) := by
  have e : mid X Y o (i - 1) i = tab X Y (o + 1) i := by rw [mid, if_pos (by omega)]
  rw [← e]
  refine row_set n _ _ i hi fun k hk => ?_
  by_cases h : k = i
  · subst h; rw [if_pos rfl]
  · rw [if_neg h, mid, mid]
    by_cases h2 : i < k
    · rw [if_pos h2, if_pos (by omega)]
    · rw [if_neg h2, if_neg (by omega)]
theorem mid_start (X Y : Nat → F) (n o : Nat) : row n (mid X Y o (n - 1)) = row n (tab X Y o) := row_ext _ _ _ fun k hk => by rw [mid, if_neg (by omega)]
theorem mid_end (X Y : Nat → F) (n o : Nat) : row n (mid X Y o o) = row n (tab X Y (o + 1)) := row_ext _ _ _ fun k hk => by
  rw [mid]
  by_cases h : o < k
  · rw [if_pos h]
  · rw [if_neg h, tab_keep X Y o k (by omega)]
theorem tab_end (X Y : Nat → F) (n o : Nat) (h : n ≤ o + 1) : row n (tab X Y o) = row n (fun k => dd X Y k 0) := row_ext _ _ _ fun k hk => tab_low X Y o k (by omega)

end Go.Proofs.Ytpffekaldpllkaa.Pol

/- The factors of a matrix as the polynomial that goes through its determinants at 0 to n. No program is named here. -/
namespace Go.Proofs.Ytpffekaldpllkaa.Mx
open Fp
set_option linter.unusedVariables false

/-- The factors of x times the one less a matrix, from the constant one on. -/
def chl (n : Nat) (f : Nat → Nat → F) : List F := (List.range (n + 1)).map (ch n f)
theorem len_chl (n : Nat) (f : Nat → Nat → F) : (chl n f).length = n + 1 := by simp [chl]
theorem co_chl {n k : Nat} (f : Nat → Nat → F) (h : k ≤ n) : Pol.co (chl n f) k = ch n f k := by simp [chl, Pol.co, List.getD, show k < n + 1 by omega]
theorem chl_ext {n : Nat} {f g : Nat → Nat → F} (h : ∀ k, k ≤ n → ch n f k = ch n g k) : chl n f = chl n g :=
  List.map_congr_left fun k hk => h k (by have := List.mem_range.1 hk; omega)
theorem tr_chl (n : Nat) (f : Nat → Nat → F) : Pol.Tr (chl n f) := fun _ => by
  rw [len_chl, Nat.add_sub_cancel, co_chl f (Nat.le_refl n), ch_top]; decide
theorem ev_chl (n : Nat) (f : Nat → Nat → F) (x : F) : Pol.ev (chl n f) x = dt n (chm f x) := by
  rw [chl, vx_ev, ch_is]

/-- The numbers 0 to n - 1. -/
def upto (n : Nat) : List F := (List.range n).map fun (k : Nat) => ofInt (k : Int)
theorem len_upto (n : Nat) : (upto n).length = n := by simp [upto]
theorem co_upto {n k : Nat} (h : k < n) : Pol.co (upto n) k = ofInt (k : Int) := by simp [upto, Pol.co, List.getD, h]
theorem upto_succ (n : Nat) : upto (n + 1) = upto n ++ [ofInt (n : Int)] := by simp [upto, List.range_succ]
/-- The determinants of k times the one less a matrix, k from 0 to m - 1. -/
def cdet (n : Nat) (f : Nat → Nat → F) (m : Nat) : List F := (List.range m).map fun (k : Nat) => dt n (chm f (ofInt (k : Int)))
theorem len_cdet (n : Nat) (f : Nat → Nat → F) (m : Nat) : (cdet n f m).length = m := by simp [cdet]
theorem co_cdet (n : Nat) (f : Nat → Nat → F) {m k : Nat} (h : k < m) : Pol.co (cdet n f m) k = dt n (chm f (ofInt (k : Int))) := by simp [cdet, Pol.co, List.getD, h]
theorem cdet_succ (n : Nat) (f : Nat → Nat → F) (m : Nat) : cdet n f (m + 1) = cdet n f m ++ [dt n (chm f (ofInt (m : Int)))] := by simp [cdet, List.range_succ]

theorem upto_apart {n m : Nat} (hn : n ≤ m) (hm : m ≤ 100) : Pol.Apart (Pol.co (upto m)) n := fun i j h1 h2 e => by
  rw [co_upto (by omega), co_upto (by omega)] at e
  have h := congrArg (fun a : F => (a.val : Int)) e
  simp only [ofInt_val] at h
  omega
theorem thr_chl {n : Nat} (hn : n ≤ 50) (f : Nat → Nat → F) : Pol.thr (Pol.co (upto (n + 1))) (Pol.co (cdet n f (n + 1))) (n + 1) = chl n f := by
  refine (Pol.thr_of (by omega) (upto_apart (Nat.le_refl _) (by omega)) ⟨?_, fun i hi => ?_⟩ (tr_chl n f)).symm
  · rw [len_chl]; exact Nat.le_refl _
  · rw [ev_chl, co_upto hi, co_cdet n f hi]

/-- What the document's sum over some rows and the same columns gives. -/
def prn (f : Nat → Nat → F) (n k : Nat) : F := prin f [] (List.range n) k
theorem ch_prn {n j : Nat} (h : j ≤ n) (f : Nat → Nat → F) : ch n f (n - j) = sgn j * prn f n j := by
  show chC f [] (List.range n) (n - j) = _
  unfold chC prn
  simp only [List.length_nil, List.length_range, Nat.zero_add]
  rw [show n - (n - j) = j by omega]
end Go.Proofs.Ytpffekaldpllkaa.Mx

/- Contracts of package charpoly, first part: difference (x times the one, less a matrix), Trace. -/
namespace Go.Proofs.Ytpffekaldpllkaa
open Go.ChangeShapes Go.WideShapes Go.ChangeAt Go.RowKit
set_option linter.unusedVariables false

theorem cval (a : Fp.F) : 0 ≤ (a.val : Int) ∧ (a.val : Int) ≤ 9972 := by have := a.isLt; omega
theorem neg_mod' (a : Fp.F) : ((9973 : Int) - (a.val : Int)).tmod 9973 = ((-a : Fp.F).val : Int) := by
  have h := cval a
  rw [Int.tmod_eq_emod_of_nonneg (by omega), ← Fp.ofInt_val]
  have h2 := Fp.ofInt_add (9973 - (a.val : Int)) (a.val : Int)
  rw [Fp.ofInt_self, show (9973 - (a.val : Int)) + (a.val : Int) = 9973 by omega, show Fp.ofInt 9973 = 0 by decide] at h2
  have : Fp.ofInt (9973 - (a.val : Int)) = -a := by grind
  rw [this]
theorem plus_mod' (a : Fp.F) (x : Nat) : ((a.val : Int) + (x : Int)).tmod 9973 = ((a + Fp.ofInt (x : Int)).val : Int) := by
  have h := cval a
  rw [Int.tmod_eq_emod_of_nonneg (by omega), ← Fp.ofInt_val, Fp.ofInt_add, Fp.ofInt_self]

/-- What stands where row i is written as far as place j. -/
def difTo (f : Nat → Nat → Fp.F) (x : Fp.F) (i j : Nat) : Nat → Nat → Int := fun a b => if a = i then (if b < j then ((-(f a b)).val : Int) else 0) else ((Mx.chm f x a b).val : Int)
theorem difTo_step {f : Nat → Nat → Fp.F} {x : Fp.F} {i j a b : Nat} : (if a = i ∧ b = j then ((-(f i j)).val : Int) else difTo f x i j a b) = difTo f x i (j + 1) a b := by
  unfold difTo
  by_cases h1 : a = i
  · by_cases h2 : b = j
    · rw [if_pos ⟨h1, h2⟩, if_pos h1, if_pos (by omega), h1, h2]
    · rw [if_neg (fun h => h2 h.2), if_pos h1, if_pos h1]
      by_cases h3 : b < j
      · rw [if_pos h3, if_pos (by omega)]
      · rw [if_neg h3, if_neg (by omega)]
  · rw [if_neg (fun h => h1 h.1), if_neg h1, if_neg h1]
theorem difTo_done {f : Nat → Nat → Fp.F} {x : Fp.F} {i n a b : Nat} (hb : b < n) : (if a = i ∧ b = i then ((-(f i i) + x).val : Int) else difTo f x i n a b) = ((Mx.chm f x a b).val : Int) := by
  unfold difTo Mx.chm
  by_cases h1 : a = i
  · by_cases h2 : b = i
    · rw [if_pos ⟨h1, h2⟩, if_pos (by omega), h1, h2]; (congr 2 <;> grind)
    · rw [if_neg (fun h => h2 h.2), if_pos h1, if_pos hb, if_neg (by omega)]; (congr 2 <;> grind)
  · rw [if_neg (fun h => h1 h.1), if_neg h1]

set_option maxRecDepth 100000 in
set_option maxHeartbeats 6400000 in
theorem difference_any (A : Option Addr) (f : Nat → Nat → Fp.F) (n d x : Nat) (w : World) (ha : LiesM w A (Mx.matl n n f)) (hn : n ≤ 5) (hx : x ≤ 5) :
    Calls Try.prog 24 #[.int .i64 (x : Int), .slice A n d] w fun e w' => ∃ g, e = .returned (.slice (some ⟨g, 0, none⟩) n n) ∧ LiesM w' (some ⟨g, 0, none⟩) (Mx.matl n n (Mx.chm f (Fp.ofInt (x : Int)))) ∧ Kp w w' := by
  have HA := Lib.hid ha
  clear ha
  obtain ⟨i0, hi, hz0, hz1, hz2⟩ := info_parts int_info
  obtain ⟨j0, hj, hy0, hy1, hy2⟩ := info_parts ints_info
  have HV := Lib.hid (fun a : Fp.F => plus_mod' a x)
  obtain ⟨z, hz⟩ : ∃ z, z = Fp.ofInt (x : Int) := ⟨_, rfl⟩
  rw [← hz] at HV ⊢
  clear hz
  go_enter Try.func24, Try.ntmps24
  go_wp2_with (at_make; refine wpList_make_full _ rfl _ _ 36 rfl w.heap.size 22 j0 (.slice none 0 0) 1 Try.underlying36 hj hy0 hy1 _ _ _ _ n rfl rfl rfl rfl (by rw [hy2]; omega) (by unfold maxLen; omega) (Nat.le_refl _) ?_; intro w1 hown hgrow)
  have hpart : PartF w1 w.heap.size (fun _ => 0) n n 0 (fun i j => ((Mx.chm f z i j).val : Int)) := PartF.start _ hown
  have hkp : Kp w w1 := (Kp.rfl' w).grown hgrow (by simp) (fun k hk => by cases hk)
  clear hown hgrow hj hy0 hy1 hy2
  obtain ⟨g, hg⟩ : ∃ g, g = w.heap.size := ⟨_, rfl⟩
  rw [← hg] at hpart ⊢
  have HG := Lib.hid hg
  clear hg
  go_loopw [6, 7, 8, 9, 15] (fun _ _ _ _ i wr => ∃ (k : Nat) (G : Nat → Nat), k ≤ n ∧ i = .int .i64 (k : Int) ∧ PartF wr g G n n k (fun i j => ((Mx.chm f z i j).val : Int)) ∧ Kp w wr) (fun _ _ _ _ i _ => n - (intOf i).toNat)
  case atStart => exact ⟨0, _, Nat.zero_le _, rfl, hpart, hkp⟩
  case round =>
    clear hpart hkp
    obtain ⟨k, G, hk, rfl, hp, hkp⟩ := hrel
    by_cases hlt : k < n
    · have HP := Lib.hid hp
      have HK := Lib.hid hkp
      obtain ⟨ad, A1, d1, rfl, hl0, x0, _, l0⟩ := HA.out.row hlt
      have x1 := (hkp.cell (p := ad.add k) (by rw [block_add]; exact hl0)).trans x0
      have L1 := Lib.hid l0
      clear hp hkp l0 x0 hl0
      obtain ⟨wo', hwo⟩ : ∃ x, x = wr := ⟨_, rfl⟩
      subst hwo
      go_wp2_with (at_make; refine wpList_make_full _ rfl _ _ 22 rfl wo'.heap.size 3 i0 (.int .i64 0) 1 Try.underlying22 hi hz0 hz1 _ _ _ _ n rfl rfl rfl rfl (by rw [hz2]; omega) (by unfold maxLen; omega) (Nat.le_refl _) ?_; intro w2 hown hgrow; have hkp2 : Kp wo' w2 := (Kp.rfl' wo').grown hgrow (by simp) (fun k hk => by cases hk); have hcell := (HP.out.keep hkp2).cell (Nat.le_refl k) hlt; have hfree := (HP.out.keep hkp2).free k)
      have HPL := HP.out.lt
      have hpe : PartF wo' g G n n k (difTo f z k 0) := HP.out.ext (fun i j hi _ => by unfold difTo; rw [if_neg (by omega)])
      have hrow : Row (w2.setCell ⟨g, k, none⟩ (.slice (some ⟨wo'.heap.size, 0, none⟩) n n)) wo'.heap.size (Mx.row n (difTo f z k 0 k)) := by
        have h1 : Row (w2.setCell ⟨g, k, none⟩ (.slice (some ⟨wo'.heap.size, 0, none⟩) n n)) wo'.heap.size (List.replicate n 0) := (row_made hown).far (by show wo'.heap.size ≠ g; omega) _
        rw [Mx.row_rep] at h1
        rw [Mx.row_ext (g := difTo f z k 0 k) (h := fun _ => 0) (fun j hj => by unfold difTo; rw [if_pos rfl, if_neg (by omega)])]
        exact h1
      have HS := Lib.hid (hpe.step hlt hkp2 hrow (fun b _ => rfl))
      have HK2 := Lib.hid ((HK.out.trans hkp2).put (p := ⟨g, k, none⟩) (by show w.heap.size ≤ g; rw [HG.out]; exact Nat.le_refl _) (.slice (some ⟨wo'.heap.size, 0, none⟩) n n))
      clear hcell hfree hrow hpe hown hgrow hkp2
      generalize hGG : (fun i => if i = k then wo'.heap.size else G i) = GG at *
      clear hGG
      go_loopw [8, 9, 28] (fun _ _ i wq => ∃ m : Nat, m ≤ n ∧ i = .int .i64 (m : Int) ∧ PartF wq g GG n n (k + 1) (difTo f z k m) ∧ Kp w wq) (fun _ _ i _ => n - (intOf i).toNat)
      case atStart => exact ⟨0, Nat.zero_le _, rfl, HS.out, HK2.out⟩
      case round =>
        clear HS HK2
        obtain ⟨m, hm, rfl, hq, hkq⟩ := hrel
        have HQ := Lib.hid hq
        have HKQ := Lib.hid hkq
        have HGG := Lib.hid (show w.heap.size ≤ GG k by have := hq.after k (Nat.lt_succ_self k); have := HG.out; omega)
        have x1 := hq.cellOf (Nat.lt_succ_self k) hlt
        by_cases hmt : m < n
        · obtain ⟨bd, rfl, hbb, y1⟩ := (L1.out.keep hkq).el hmt
          have x2 := hq.el (Nat.lt_succ_self k) hmt
          have x3 := hq.freeOf (Nat.lt_succ_self k) m
          have hb := cval (f k m)
          have hm1 := neg_mod' (f k m)
          obtain ⟨y, hy⟩ : ∃ y, y = ((-(f k m)).val : Int) := ⟨_, rfl⟩
          rw [← hy] at hm1
          have HY := Lib.hid hy
          generalize ((f k m).val : Int) = u at *
          have hws : IntKind.i64.wrap (9973 - u) = 9973 - u := IntWalk.i64_in _ (by omega)
          clear hq hkq hy hbb
          go_wp2_with fail
          go_roundw
          case rel => exact ⟨m + 1, by omega, by go_num, (HQ.out.put (Nat.lt_succ_self k) m y).ext (fun a b _ _ => by rw [HY.out]; exact difTo_step), HKQ.out.put (p := ⟨GG k, m, none⟩) HGG.out _⟩
          case measure => simp [intOf]; omega
        · obtain rfl : m = n := by omega
          have x2 := hq.el (Nat.lt_succ_self k) hlt
          have x3 := hq.freeOf (Nat.lt_succ_self k) k
          rw [show difTo f z k m k k = ((-(f k k)).val : Int) by unfold difTo; rw [if_pos rfl, if_pos hlt]] at x2
          have hv := HV.out (-(f k k))
          have hb := cval (-(f k k))
          obtain ⟨y, hy⟩ : ∃ y, y = ((-(f k k) + z).val : Int) := ⟨_, rfl⟩
          rw [← hy] at hv
          have HY := Lib.hid hy
          generalize ((-(f k k)).val : Int) = u at *
          have hws : IntKind.i64.wrap (u + (x : Int)) = u + (x : Int) := IntWalk.i64_in _ (by omega)
          clear hq hkq hy
          go_wp2_with fail
          go_still_tail 16, (by kernel_rfl)
          change wpList _ _ _ _ _ wr.drew
          go_wp2_with fail
          go_roundw
          case rel => exact ⟨k + 1, GG, by omega, by go_num, ((HQ.out.keep ((Kp.rfl' wr).drewN 1)).put (Nat.lt_succ_self k) k y).ext (fun a b _ hb => by rw [HY.out]; exact difTo_done hb), (HKQ.out.drewN 1).put (p := ⟨GG k, k, none⟩) HGG.out _⟩
          case measure => simp [intOf]; omega
    · obtain rfl : k = n := by omega
      have HP := Lib.hid hp
      have HK := Lib.hid hkp
      clear hp hkp
      obtain rfl := HG.out
      go_wp2_with fail
      go_ret
      exact ⟨_, rfl, HP.out.done.lies, HK.out⟩
end Go.Proofs.Ytpffekaldpllkaa

/- Contracts of package poly, first part: a row of memory of the call's own, Check, checkBoth, trimmed. -/
namespace Go.Proofs.Ytpffekaldpllkaa
open Go.ChangeShapes Go.WideShapes Go.ChangeAt Go.RowKit
set_option linter.unusedVariables false

theorem check_full (A : Option Addr) (l : List Int) (c : Nat) (w : World) (h : 12 < l.length) :
    Calls Try.prog 61 #[.slice A l.length c] w fun e w' => e = .returned (errOf (Pol.code l)) ∧ w = w' := by
  rw [Pol.code_full h]
  generalize l.length = n at *
  have h' : (12 : Int) < n := by omega
  go_enter Try.func61, Try.ntmps61
  go_wp2
  go_ret
  exact ⟨rfl, rfl⟩

set_option maxHeartbeats 800000 in
theorem check_few (A : Option Addr) (l : List Int) (c : Nat) (w : World) (hl : Lies w A l) (hn : ¬ 12 < l.length) :
    Calls Try.prog 61 #[.slice A l.length c] w fun e w' => e = .returned (errOf (Pol.code l)) ∧ w = w' := by
  have HL := Lib.hid hl
  have BAD := Lib.hid (fun k hk h => Pol.code_range hn (k := k) hk h)
  have OK := Lib.hid (Pol.code_ok hn)
  obtain ⟨n, hn'⟩ : ∃ n, n = l.length := ⟨_, rfl⟩
  rw [← hn'] at hn ⊢
  rw [← hn'] at BAD OK
  have HN := Lib.hid hn'
  have h' : ¬ (12 : Int) < n := by omega
  obtain ⟨v, hv⟩ : ∃ v, v = Pol.code l := ⟨_, rfl⟩
  rw [← hv] at BAD OK ⊢
  clear hl hn' hv
  go_enter Try.func61, Try.ntmps61
  go_wp2_with fail
  go_loop [11] (fun i => ∃ k : Nat, k ≤ n ∧ i = .int .i64 (k : Int) ∧ ∀ j, j < k → 0 ≤ l.getD j 0 ∧ l.getD j 0 ≤ 9972) (fun i => n - (intOf i).toNat)
  case atStart => exact ⟨0, Nat.zero_le _, rfl, fun j hj => absurd hj (by omega)⟩
  case round =>
    obtain ⟨k, hk, rfl, hg⟩ := hrel
    have HG := Lib.hid hg
    clear hg
    by_cases hlt : k < n
    · obtain ⟨ad, rfl, _, hc⟩ := HL.out k (by have := HN.out; omega)
      obtain ⟨m, hm⟩ : ∃ m, m = l.getD k 0 := ⟨_, rfl⟩
      rw [← hm] at hc
      by_cases h0 : m < 0
      · have E := Lib.hid (BAD.out k hlt (by rw [← hm]; omega))
        clear hm
        go_wp2_with fail
        go_ret
        exact ⟨by rw [E.out]; rfl, rfl⟩
      · by_cases h1 : m ≤ 9972
        · have GG := Lib.hid (show ∀ j, j < k + 1 → 0 ≤ l.getD j 0 ∧ l.getD j 0 ≤ 9972 from fun j hj => by
            by_cases e : j = k
            · subst e; rw [← hm]; omega
            · exact HG.out j (by omega))
          clear hm
          go_wp2_with fail
          go_round
          case rel => exact ⟨k + 1, by omega, by go_num, GG.out⟩
          case measure => simp [intOf]; omega
        · have E := Lib.hid (BAD.out k hlt (by rw [← hm]; omega))
          clear hm
          go_wp2_with fail
          go_ret
          exact ⟨by rw [E.out]; rfl, rfl⟩
    · have E := Lib.hid (OK.out fun j hj => HG.out j (by omega))
      go_wp2_with fail
      go_ret
      exact ⟨by rw [E.out]; rfl, rfl⟩

theorem check_any (A : Option Addr) (l : List Int) (c : Nat) (w : World) (hl : Lies w A l) :
    Calls Try.prog 61 #[.slice A l.length c] w fun e w' => e = .returned (errOf (Pol.code l)) ∧ w = w' := by
  by_cases h : 12 < l.length
  · exact check_full A l c w h
  · exact check_few A l c w hl h

theorem pcheckBoth_any (A B : Option Addr) (l m : List Int) (c d : Nat) (w : World) (ha : Lies w A l) (hb : Lies w B m) :
    Calls Try.prog 51 #[.slice A l.length c, .slice B m.length d] w fun e w' => e = .returned (errOf (Pol.code2 l m)) ∧ w = w' := by
  have CA := Lib.hid (check_any A l c w ha)
  have CB := Lib.hid (check_any B m d w hb)
  unfold Pol.code2
  have hs := Pol.code_some l
  generalize Pol.code l = x at *
  generalize Pol.code m = y at *
  generalize l.length = n at *
  generalize m.length = q at *
  clear ha hb
  rcases hs with rfl | rfl | rfl
  · go_enter Try.func51, Try.ntmps51
    go_wp2_with fail
    refine (CA.out).mono ?_; rintro e w' ⟨rfl, rfl⟩
    rw [show errOf 0 = .nilIface from rfl]
    go_wp2_with fail
    refine (CB.out).mono ?_; rintro e w' ⟨rfl, rfl⟩
    go_wp2_with fail
    go_ret
    exact ⟨rfl, rfl⟩
  · go_enter Try.func51, Try.ntmps51
    go_wp2_with fail
    refine (CA.out).mono ?_; rintro e w' ⟨rfl, rfl⟩
    rw [show errOf 1 = .iface 46 (.int .i64 1) from rfl]
    go_wp2_with fail
    go_ret
    exact ⟨rfl, rfl⟩
  · go_enter Try.func51, Try.ntmps51
    go_wp2_with fail
    refine (CA.out).mono ?_; rintro e w' ⟨rfl, rfl⟩
    rw [show errOf 4 = .iface 46 (.int .i64 4) from rfl]
    go_wp2_with fail
    go_ret
    exact ⟨rfl, rfl⟩

/-- How long a slice is. -/
def sliceLen : Value → Nat
  | .slice _ n _ => n
  | _ => 0

theorem trim_step0 (p : List Fp.F) (k : Nat) (hk : k < p.length) (h : Pol.co p k = 0) : Pol.trim (p.take (k + 1)) = Pol.trim (p.take k) := by
  rw [Pol.take_succ p k hk, h, Pol.trim_zero]

theorem trimmed_any (A : Option Addr) (p : List Fp.F) (c : Nat) (w : World) (hl : Lies w A (Pol.vals p)) (hc : p.length ≤ c) (hn : p.length ≤ 1000000) :
    Calls Try.prog 52 #[.slice A p.length c] w fun e w' => e = .returned (.slice A (Pol.trim p).length c) ∧ w = w' := by
  have HL := Lib.hid hl
  obtain ⟨n, hn'⟩ : ∃ n, n = p.length := ⟨_, rfl⟩
  rw [← hn'] at hn hc ⊢
  have HN := Lib.hid hn'
  clear hl hn'
  go_enter Try.func52, Try.ntmps52
  go_wp2_with fail
  go_loop [0] (fun v => ∃ k : Nat, k ≤ n ∧ v = .slice A k c ∧ Pol.trim (p.take k) = Pol.trim p) (fun v => sliceLen v)
  case atStart => exact ⟨n, Nat.le_refl _, rfl, by rw [HN.out, List.take_length]⟩
  case round =>
    obtain ⟨k, hk, rfl, ht⟩ := hrel
    have HT := Lib.hid ht
    clear ht
    cases k with
    | zero =>
      have E := Lib.hid (show Pol.trim p = [] by rw [← HT.out]; rfl)
      go_wp2_with fail
      go_ret
      exact ⟨by rw [E.out]; rfl, rfl⟩
    | succ k =>
      obtain ⟨ad, rfl, _, hcell⟩ := HL.out k (by rw [Pol.len_vals, ← HN.out]; omega)
      rw [Pol.vals_at] at hcell
      by_cases h0 : Pol.co p k = 0
      · have e0 : (((Pol.co p k).val : Int) == 0) = true := by rw [h0]; rfl
        have ST := Lib.hid (trim_step0 p k (by have := HN.out; omega) h0)
        generalize ((Pol.co p k).val : Int) = m at *
        clear h0
        go_wp2_with fail
        go_round
        case rel => exact ⟨k, by omega, rfl, by rw [← ST.out]; exact HT.out⟩
        case measure => simp [sliceLen]
      · have e0 : (((Pol.co p k).val : Int) == 0) = false := by rw [beq_eq_false_iff_ne]; intro e; exact h0 (Fp.val_inj e)
        have E := Lib.hid (show Pol.trim p = p.take (k + 1) by rw [← HT.out, Pol.take_succ p k (by have := HN.out; omega), Pol.trim_not _ _ h0])
        have E2 := Lib.hid (show (p.take (k + 1)).length = k + 1 by rw [List.length_take]; have := HN.out; omega)
        generalize ((Pol.co p k).val : Int) = m at *
        clear h0
        go_wp2_with fail
        go_ret
        exact ⟨by rw [E.out, E2.out]; rfl, rfl⟩

end Go.Proofs.Ytpffekaldpllkaa

/- Contracts of package poly, second part: Add and Mul. -/
namespace Go.Proofs.Ytpffekaldpllkaa
open Go.ChangeShapes Go.WideShapes Go.ChangeAt Go.RowKit
set_option linter.unusedVariables false

/-- The answer is a row of factors, and no error. -/
def Gives (l : List Fp.F) (w : World) (e : Ending) (w' : World) : Prop :=
  ∃ A c, e = .returned (.tuple #[.slice A l.length c, .nilIface]) ∧ Lies w' A (Pol.vals l) ∧ l.length ≤ c ∧ Kp w w'
/-- The answer is an error, and nothing else. -/
def Fails (c : Nat) (w : World) (e : Ending) (w' : World) : Prop := e = .returned (.tuple #[.slice none 0 0, errOf c]) ∧ Kp w w'

theorem Row.trim {w : World} {g : Nat} {R : List Fp.F} (h : Row w g (Pol.vals R)) : Lies w (some ⟨g, 0, none⟩) (Pol.vals (Pol.trim R)) := by
  rw [Pol.trim_take, Pol.vals_take]; exact h.lies.take _

set_option maxRecDepth 100000 in
/-- copy(row, l): a row of noughts just made, and a slice that is no longer. -/
theorem copy_run (w1 : World) (g N n c : Nat) (A : Option Addr) (p : List Fp.F) (ty : TypeId) (hr : Row w1 g (Pol.vals (List.replicate N 0))) (hl : Lies w1 A (Pol.vals p)) (hn : n = p.length) (hN : n ≤ N) :
    ∃ w2, (Builtin.copy_ #[22, 22] ty #[.slice (some ⟨g, 0, none⟩) N N, .slice A n c]).run Try.prog w1 = .ok (goInt n) w2 ∧
      Row w2 g (Pol.vals (p ++ List.replicate (N - n) 0)) ∧ ∀ B w0, Below B w0 w1 → B ≤ g → Below B w0 w2 := by
  obtain ⟨i0, hi, hz0, hz1, hz2⟩ := info_parts int_info
  have hsz : (Try.prog.info? 3).map (·.size) = some 1 := by rw [hi]; simp [hz1]
  subst hn
  by_cases h0 : p.length = 0
  · obtain rfl : p = [] := List.eq_nil_of_length_eq_zero h0
    exact ⟨w1, run_copy_none w1 _ _ ty 3 _ A N N 0 c Try.underlying22 hsz (by simp), by simpa using hr, fun _ _ h _ => h⟩
  · obtain ⟨ad, rfl, _, _⟩ := hl 0 (by rw [Pol.len_vals]; omega)
    have hlen : (ints (Pol.vals p)).length = p.length := by rw [ints, List.length_map, Pol.len_vals]
    have hrun := run_copy_row (P := Try.prog) w1 22 22 ty 3 g 0 N N ad p.length c _ 3 (ints (Pol.vals p)) Try.underlying22 hsz hr (by rw [hlen]; exact (Nat.min_eq_left hN).symm)
      (fun j v hj => by
        have hj' : j < (Pol.vals p).length := by
          rcases Nat.lt_or_ge j (Pol.vals p).length with hlt | hge
          · exact hlt
          · rw [List.getElem?_eq_none (by simpa using hge)] at hj; cases hj
        obtain ⟨ad', e, _, hc⟩ := hl j hj'
        injection e with e
        subst e
        rw [hc, ← hj]
        simp [hj']) (by rw [hlen]; simp [Pol.len_vals]; omega) (fun v hv => by simp at hv; obtain ⟨y, _, rfl⟩ := hv; rfl)
    rw [hlen] at hrun
    refine ⟨_, hrun, ?_, fun B w0 hb hB => below_setRow hb hB _⟩
    unfold Row
    rw [setRow_heap w1 g _ _ 3 (0, 0) hr]
    congr 3
    rw [Pol.vals_append, ints, ints, ints, List.map_append]
    simp [Pol.vals]

theorem code2_ok (p q : List Fp.F) (hp : p.length ≤ 12) (hq : q.length ≤ 12) : Pol.code2 (Pol.vals p) (Pol.vals q) = 0 := by
  unfold Pol.code2
  rw [if_pos (Pol.code_vals p hp), Pol.code_vals q hq]
theorem checkBoth_ok (A B : Option Addr) (p q : List Fp.F) (c d : Nat) (w : World) (ha : Lies w A (Pol.vals p)) (hb : Lies w B (Pol.vals q)) (hp : p.length ≤ 12) (hq : q.length ≤ 12) :
    Calls Try.prog 51 #[.slice A p.length c, .slice B q.length d] w fun e w' => e = .returned .nilIface ∧ w = w' := by
  have h := pcheckBoth_any A B (Pol.vals p) (Pol.vals q) c d w ha hb
  rw [Pol.len_vals, Pol.len_vals, code2_ok p q hp hq] at h
  exact h
theorem code2_some (l m : List Int) (h : Pol.code2 l m ≠ 0) : Pol.code2 l m = 1 ∨ Pol.code2 l m = 4 := by
  unfold Pol.code2 at *
  have h1 := Pol.code_some l
  have h2 := Pol.code_some m
  split <;> simp_all

set_option maxRecDepth 100000 in
theorem add_bad (A B : Option Addr) (l m : List Int) (c d : Nat) (w : World) (ha : Lies w A l) (hb : Lies w B m)
    (h : Pol.code2 l m ≠ 0) :
    Calls Try.prog 42 #[.slice A l.length c, .slice B m.length d] w fun e w' => Fails (Pol.code2 l m) w e w' := by
  have C := Lib.hid (pcheckBoth_any A B l m c d w ha hb)
  have hs := code2_some l m h
  clear h ha hb
  generalize Pol.code2 l m = x at *
  generalize l.length = n at *
  generalize m.length = q at *
  rcases hs with rfl | rfl
  · go_enter Try.func42, Try.ntmps42
    go_wp2_with fail
    refine (C.out).mono ?_; rintro e w' ⟨rfl, rfl⟩
    rw [show errOf 1 = .iface 46 (.int .i64 1) from rfl]
    go_wp2_with fail
    go_ret2
    exact ⟨rfl, Kp.rfl' _⟩
  · go_enter Try.func42, Try.ntmps42
    go_wp2_with fail
    refine (C.out).mono ?_; rintro e w' ⟨rfl, rfl⟩
    rw [show errOf 4 = .iface 46 (.int .i64 4) from rfl]
    go_wp2_with fail
    go_ret2
    exact ⟨rfl, Kp.rfl' _⟩

set_option maxRecDepth 100000 in
theorem mul_bad (A B : Option Addr) (l m : List Int) (c d : Nat) (w : World) (ha : Lies w A l) (hb : Lies w B m)
    (h : Pol.code2 l m ≠ 0) :
    Calls Try.prog 40 #[.slice A l.length c, .slice B m.length d] w fun e w' => Fails (Pol.code2 l m) w e w' := by
  have C := Lib.hid (pcheckBoth_any A B l m c d w ha hb)
  have hs := code2_some l m h
  clear h ha hb
  generalize Pol.code2 l m = x at *
  generalize l.length = n at *
  generalize m.length = q at *
  rcases hs with rfl | rfl
  · go_enter Try.func40, Try.ntmps40
    go_wp2_with fail
    refine (C.out).mono ?_; rintro e w' ⟨rfl, rfl⟩
    rw [show errOf 1 = .iface 46 (.int .i64 1) from rfl]
    go_wp2_with fail
    go_ret2
    exact ⟨rfl, Kp.rfl' _⟩
  · go_enter Try.func40, Try.ntmps40
    go_wp2_with fail
    refine (C.out).mono ?_; rintro e w' ⟨rfl, rfl⟩
    rw [show errOf 4 = .iface 46 (.int .i64 4) from rfl]
    go_wp2_with fail
    go_ret2
    exact ⟨rfl, Kp.rfl' _⟩

set_option maxRecDepth 100000 in
set_option maxHeartbeats 1600000 in
theorem mul_ok (A B : Option Addr) (p q : List Fp.F) (c d : Nat) (w : World) (ha : Lies w A (Pol.vals p)) (hb : Lies w B (Pol.vals q)) (hp : p.length ≤ 12) (hq : q.length ≤ 12) :
    Calls Try.prog 40 #[.slice A p.length c, .slice B q.length d] w fun e w' => Gives (Pol.mul p q) w e w' := by
  have C := Lib.hid (checkBoth_ok A B p q c d w ha hb hp hq)
  have HA := Lib.hid ha
  have HB := Lib.hid hb
  obtain ⟨n, hn⟩ : ∃ n, n = p.length := ⟨_, rfl⟩
  obtain ⟨m, hm⟩ : ∃ m, m = q.length := ⟨_, rfl⟩
  rw [← hn] at hp C ⊢
  rw [← hm] at hq C ⊢
  have HN := Lib.hid hn
  have HM := Lib.hid hm
  clear ha hb hn hm
  obtain ⟨i0, hi, hz0, hz1, hz2⟩ := info_parts int_info
  go_enter Try.func40, Try.ntmps40
  go_wp2_with fail
  refine (C.out).mono ?_; rintro e w' ⟨rfl, rfl⟩
  go_wp2_with (at_make; refine wpList_make_full _ rfl _ _ 22 rfl w.heap.size 3 i0 (.int .i64 0) 1 Try.underlying22 hi hz0 hz1 _ _ _ _ (n + m) rfl rfl (by simp) (by simp) (by rw [hz2]; omega) (by unfold maxLen; omega) (Nat.le_refl _) ?_; intro w1 hown hgrow)
  have hrow : Row w1 w.heap.size (Pol.vals (Pol.mulRows p q 0)) := by
    rw [Pol.mulRows, Pol.vals_zeros, ← HN.out, ← HM.out]; exact row_made hown
  have hkp : Kp w w1 := (Kp.rfl' w).grown hgrow (by simp) (fun k hk => by cases hk)
  clear hown hgrow hi hz0 hz1 hz2 C
  obtain ⟨g, hg⟩ : ∃ g, g = w.heap.size := ⟨_, rfl⟩
  rw [← hg] at hrow ⊢
  have HG := Lib.hid hg
  clear hg
  go_loopw [26] (fun i wr => ∃ k : Nat, k ≤ n ∧ i = .int .i64 (k : Int) ∧ Row wr g (Pol.vals (Pol.mulRows p q k)) ∧ Kp w wr) (fun i _ => n - (intOf i).toNat)
  case atStart => exact ⟨0, Nat.zero_le _, rfl, hrow, hkp⟩
  case round =>
    clear hrow hkp
    obtain ⟨k, hk, rfl, hr, hkp⟩ := hrel
    have HR := Lib.hid hr
    have HK := Lib.hid hkp
    clear hr hkp
    by_cases hlt : k < n
    · obtain ⟨ad, rfl, _, hc⟩ := (HA.out.keep HK.out) k (by rw [Pol.len_vals, ← HN.out]; exact hlt)
      rw [Pol.vals_at] at hc
      obtain ⟨a, ha⟩ : ∃ a, a = Pol.co p k := ⟨_, rfl⟩
      rw [← ha] at hc
      have HA1 := Lib.hid ha
      clear ha
      go_wp2_with fail
      go_loopw [33] (fun j wr' => ∃ t : Nat, t ≤ m ∧ j = .int .i64 (t : Int) ∧ Row wr' g (Pol.vals (Pol.addAt (Pol.mulRows p q k) a q k t)) ∧ Kp w wr') (fun j _ => m - (intOf j).toNat)
      case atStart => exact ⟨0, Nat.zero_le _, rfl, HR.out, HK.out⟩
      case round =>
        obtain ⟨t, ht, rfl, hr2, hkp2⟩ := hrel
        by_cases hlt2 : t < m
        · obtain ⟨bd, rfl, _, hd⟩ := (HB.out.keep hkp2) t (by rw [Pol.len_vals, ← HM.out]; exact hlt2)
          rw [Pol.vals_at] at hd
          obtain ⟨b, hb⟩ : ∃ b, b = Pol.co q t := ⟨_, rfl⟩
          rw [← hb] at hd
          have hlen : (Pol.vals (Pol.addAt (Pol.mulRows p q k) a q k t)).length = n + m := by rw [Pol.len_vals, Pol.len_addAt, Pol.len_mulRows, HN.out, HM.out]
          have hcell := hr2.cell (k + t) (by omega)
          have hfree := hr2.free (k + t)
          rw [Pol.vals_at] at hcell
          have HS := Lib.hid (show Pol.addAt (Pol.mulRows p q k) a q k (t + 1) = (Pol.addAt (Pol.mulRows p q k) a q k t).set (k + t) (Pol.co (Pol.addAt (Pol.mulRows p q k) a q k t) (k + t) + a * b) by rw [Pol.addAt, hb])
          have HR2 := Lib.hid hr2
          have HK2 := Lib.hid hkp2
          clear hr2 hkp2 hb hlen
          generalize Pol.co (Pol.addAt (Pol.mulRows p q k) a q k t) (k + t) = s at *
          have HV := Lib.hid (Pol.val_madd s a b)
          obtain ⟨p1, p2⟩ := prod_bound a b
          have s1 := Fp.val_bound s
          have a1 := Fp.val_bound a
          have b1 := Fp.val_bound b
          generalize (a.val : Int) = x at *
          generalize (b.val : Int) = y at *
          generalize (s.val : Int) = v at *
          go_wp2_with fail
          go_roundw
          case rel =>
            refine ⟨t + 1, by omega, by go_num, ?_, HK2.out.put (p := ⟨g, k + t, none⟩) (by show w.heap.size ≤ g; rw [HG.out]; exact Nat.le_refl _) _⟩
            rw [HS.out, Pol.vals_set, HV.out]
            exact HR2.out.put _ _
          case measure => simp [intOf]; omega
        · have HR3 := Lib.hid (show Row wr g (Pol.vals (Pol.mulRows p q (k + 1))) by
            rw [Pol.mulRows, ← HA1.out, ← HM.out, show m = t by omega]; exact hr2)
          have HK2 := Lib.hid hkp2
          clear hr2 hkp2
          go_wp2_with fail
          go_roundw
          case rel => exact ⟨k + 1, by omega, by go_num, HR3.out, HK2.out⟩
          case measure => simp [intOf]; omega
    · obtain rfl : k = n := by omega
      have e := Lib.hid (show Pol.trim (Pol.mulRows p q k) = Pol.mul p q by
        have h := Pol.rows_mul p q (by have := HN.out; omega) (by have := HM.out; omega)
        rw [← HN.out] at h; exact h)
      have T := Lib.hid (trimmed_any (some ⟨g, 0, none⟩) (Pol.mulRows p q k) (k + m) wr HR.out.lies (by rw [Pol.len_mulRows, HN.out, HM.out]; exact Nat.le_refl _) (by rw [Pol.len_mulRows, ← HN.out, ← HM.out]; omega))
      rw [Pol.len_mulRows, ← HN.out, ← HM.out] at T
      go_wp2_with fail
      refine (T.out).mono ?_; rintro e w' ⟨rfl, rfl⟩
      go_wp2_with fail
      go_ret2
      exact ⟨some ⟨g, 0, none⟩, k + m, by rw [← e.out]; rfl, by rw [← e.out]; exact HR.out.trim, by rw [← e.out]; have := Pol.len_trim (Pol.mulRows p q k); rw [Pol.len_mulRows, ← HN.out, ← HM.out] at this; exact this, HK.out⟩

set_option maxRecDepth 100000 in
set_option maxHeartbeats 1600000 in
theorem add_ok (A B : Option Addr) (p q : List Fp.F) (c d : Nat) (w : World) (ha : Lies w A (Pol.vals p)) (hb : Lies w B (Pol.vals q)) (hp : p.length ≤ 12) (hq : q.length ≤ 12) :
    Calls Try.prog 42 #[.slice A p.length c, .slice B q.length d] w fun e w' => Gives (Pol.add p q) w e w' := by
  have C := Lib.hid (checkBoth_ok A B p q c d w ha hb hp hq)
  have HA := Lib.hid ha
  have HB := Lib.hid hb
  obtain ⟨n, hn⟩ : ∃ n, n = p.length := ⟨_, rfl⟩
  obtain ⟨m, hm⟩ : ∃ m, m = q.length := ⟨_, rfl⟩
  rw [← hn] at hp C ⊢
  rw [← hm] at hq C ⊢
  have HN := Lib.hid hn
  have HM := Lib.hid hm
  clear ha hb hn hm
  obtain ⟨i0, hi, hz0, hz1, hz2⟩ := info_parts int_info
  go_enter Try.func42, Try.ntmps42
  go_wp2_with fail
  refine (C.out).mono ?_; rintro e w' ⟨rfl, rfl⟩
  go_wp2_with (at_make; refine wpList_make_full _ rfl _ _ 22 rfl w.heap.size 3 i0 (.int .i64 0) 1 Try.underlying22 hi hz0 hz1 _ _ _ _ (max n m) rfl rfl (by omega) (by omega) (by rw [hz2]; omega) (by unfold maxLen; omega) (Nat.le_refl _) ?_; intro w1 hown hgrow; have hrow : Row w1 w.heap.size (Pol.vals (List.replicate (max n m) 0)) := (by rw [Pol.vals_zeros]; exact row_made hown); have hkp : Kp w w1 := (Kp.rfl' w).grown hgrow (by simp) (fun k hk => by cases hk); clear hown hgrow)
  all_goals
    obtain ⟨w2, hrun, hr2, hk2⟩ := copy_run w1 w.heap.size (max n m) n c A p 3 hrow (HA.out.keep hkp) HN.out (Nat.le_max_left n m)
    rw [hrun]
    clear hrun hi hz0 hz1 hz2 C
    have hkp2 : Kp w w2 := hk2 _ _ hkp (Nat.le_refl _)
    clear hrow hkp hk2
    obtain ⟨g, hg⟩ : ∃ g, g = w.heap.size := ⟨_, rfl⟩
    rw [← hg] at hr2 ⊢
    have HG := Lib.hid hg
    clear hg
    obtain ⟨N, hN⟩ : ∃ N, N = max n m := ⟨_, rfl⟩
    rw [← hN] at hr2 ⊢
    have hNN : n ≤ N ∧ m ≤ N ∧ N ≤ 12 := by omega
    have HNN := Lib.hid hN
    clear hN
    have hl2 : (p ++ List.replicate (N - n) (0 : Fp.F)).length = N := by rw [List.length_append, List.length_replicate, ← HN.out]; omega
    obtain ⟨R, hR⟩ : ∃ R, R = p ++ List.replicate (N - n) (0 : Fp.F) := ⟨_, rfl⟩
    rw [← hR] at hr2 hl2
    have HR0 := Lib.hid hR
    have HL2 := Lib.hid hl2
    clear hR hl2
    go_wp2_with fail
    go_loopw [27] (fun i wr => ∃ k : Nat, k ≤ m ∧ i = .int .i64 (k : Int) ∧ Row wr g (Pol.vals (Pol.addAt R 1 q 0 k)) ∧ Kp w wr) (fun i _ => m - (intOf i).toNat)
    case atStart => exact ⟨0, Nat.zero_le _, rfl, hr2, hkp2⟩
    case round =>
      clear hr2 hkp2
      obtain ⟨t, ht, rfl, hr2, hkp2⟩ := hrel
      by_cases hlt2 : t < m
      · obtain ⟨bd, rfl, _, hd⟩ := (HB.out.keep hkp2) t (by rw [Pol.len_vals, ← HM.out]; exact hlt2)
        rw [Pol.vals_at] at hd
        obtain ⟨b, hb⟩ : ∃ b, b = Pol.co q t := ⟨_, rfl⟩
        rw [← hb] at hd
        have hlen : (Pol.vals (Pol.addAt R 1 q 0 t)).length = N := by rw [Pol.len_vals, Pol.len_addAt, HL2.out]
        have hcell := hr2.cell t (by omega)
        have hfree := hr2.free t
        rw [Pol.vals_at] at hcell
        have HS := Lib.hid (show Pol.addAt R 1 q 0 (t + 1) = (Pol.addAt R 1 q 0 t).set t (Pol.co (Pol.addAt R 1 q 0 t) t + b) by rw [Pol.addAt, hb, Nat.zero_add, Fin.one_mul])
        have HR2 := Lib.hid hr2
        have HK2 := Lib.hid hkp2
        clear hr2 hkp2 hb hlen
        generalize Pol.co (Pol.addAt R 1 q 0 t) t = s at *
        have HV := Lib.hid (Fp.add_val s b)
        have s1 := Fp.val_bound s
        have b1 := Fp.val_bound b
        generalize (b.val : Int) = y at *
        generalize (s.val : Int) = v at *
        go_wp2_with fail
        go_roundw
        case rel =>
          refine ⟨t + 1, by omega, by go_num, ?_, HK2.out.put (p := ⟨g, t, none⟩) (by show w.heap.size ≤ g; rw [HG.out]; exact Nat.le_refl _) _⟩
          rw [HS.out, Pol.vals_set, HV.out]
          exact HR2.out.put _ _
        case measure => simp [intOf]; omega
      · obtain rfl : t = m := by omega
        have HR2 := Lib.hid hr2
        have HK2 := Lib.hid hkp2
        clear hr2 hkp2
        have e := Lib.hid (show Pol.trim (Pol.addAt R 1 q 0 t) = Pol.add p q by
          have h := Pol.row_add p q (by have := HN.out; omega) (by have := HM.out; omega)
          rw [← HN.out, ← HM.out, ← HNN.out, ← HR0.out] at h; exact h)
        have T := Lib.hid (trimmed_any (some ⟨g, 0, none⟩) (Pol.addAt R 1 q 0 t) N wr HR2.out.lies (by rw [Pol.len_addAt, HL2.out]; exact Nat.le_refl _) (by rw [Pol.len_addAt, HL2.out]; omega))
        rw [Pol.len_addAt, HL2.out] at T
        go_wp2_with fail
        refine (T.out).mono ?_; rintro e w' ⟨rfl, rfl⟩
        go_wp2_with fail
        go_ret2
        exact ⟨some ⟨g, 0, none⟩, N, by rw [← e.out]; rfl, by rw [← e.out]; exact HR2.out.trim, by rw [← e.out]; have := Pol.len_trim (Pol.addAt R 1 q 0 t); rw [Pol.len_addAt, HL2.out] at this; exact this, HK2.out⟩

/-- The contracts, with the lengths as numbers. -/
theorem mul_ok' (A B : Option Addr) (p q : List Fp.F) (n m c d : Nat) (w : World) (ha : Lies w A (Pol.vals p)) (hb : Lies w B (Pol.vals q)) (hn : n = p.length) (hm : m = q.length) (hp : n ≤ 12) (hq : m ≤ 12) :
    Calls Try.prog 40 #[.slice A n c, .slice B m d] w fun e w' => Gives (Pol.mul p q) w e w' := by subst hn hm; exact mul_ok A B p q c d w ha hb hp hq
theorem add_ok' (A B : Option Addr) (p q : List Fp.F) (n m c d : Nat) (w : World) (ha : Lies w A (Pol.vals p)) (hb : Lies w B (Pol.vals q)) (hn : n = p.length) (hm : m = q.length) (hp : n ≤ 12) (hq : m ≤ 12) :
    Calls Try.prog 42 #[.slice A n c, .slice B m d] w fun e w' => Gives (Pol.add p q) w e w' := by subst hn hm; exact add_ok A B p q c d w ha hb hp hq
end Go.Proofs.Ytpffekaldpllkaa

/- Contracts of package poly, third part: divide. -/
namespace Go.Proofs.Ytpffekaldpllkaa
open Go.ChangeShapes Go.WideShapes Go.ChangeAt Go.RowKit
set_option linter.unusedVariables false

/-- The answer is two rows of factors, and no error. -/
def GivesTwo (q r : List Fp.F) (w : World) (e : Ending) (w' : World) : Prop :=
  ∃ A c B d, e = .returned (.tuple #[.slice A q.length c, .slice B r.length d, .nilIface]) ∧ Lies w' A (Pol.vals q) ∧ q.length ≤ c ∧ Lies w' B (Pol.vals r) ∧ r.length ≤ d ∧ Kp w w'

theorem msub_bound (t c : Fp.F) : 0 ≤ (9973 - (t.val : Int)) * (c.val : Int) ∧ (9973 - (t.val : Int)) * (c.val : Int) ≤ 99450756 := by
  have h1 := Fp.val_bound t
  have h2 := Fp.val_bound c
  have := Int.mul_le_mul (show 9973 - (t.val : Int) ≤ 9973 by omega) h2.2 h2.1 (by omega)
  exact ⟨Int.mul_nonneg (by omega) h2.1, by omega⟩

/-- What dividing keeps: so many places of the quotient are still to come. -/
structure Left (p g R Q : List Fp.F) (j : Nat) : Prop where
  lr : R.length = p.length
  lq : Q.length = p.length - (g.length - 1)
  eq : ∀ x, Pol.ev p x = Pol.ev g x * Pol.ev Q x + Pol.ev R x
  zr : ∀ k, j + (g.length - 1) ≤ k → Pol.co R k = 0
  zq : ∀ k, k < j → Pol.co Q k = 0

theorem co_zeros (n k : Nat) : Pol.co (List.replicate n 0) k = 0 := by
  unfold Pol.co
  rw [List.getD_eq_getElem?_getD, List.getElem?_replicate]
  split <;> rfl

theorem left_start (p g : List Fp.F) : Left p g p (List.replicate (p.length - (g.length - 1)) 0) (p.length - (g.length - 1)) :=
  ⟨rfl, List.length_replicate .., fun x => by rw [Pol.ev_zeros]; grind, fun k hk => Pol.co_out _ _ (by omega), fun k _ => co_zeros _ k⟩

theorem left_step (p g R Q : List Fp.F) (j : Nat) (hg : Pol.Tr g) (g0 : g ≠ []) (hj : j + 1 ≤ p.length - (g.length - 1)) (h : Left p g R Q (j + 1)) (t : Fp.F) (ht : t = Pol.co R (j + (g.length - 1)) * Fp.inv (Pol.top g)) :
    Left p g (Pol.addAt R (-t) g j g.length) (Q.set j t) j := by
  have l := List.length_pos_iff.2 g0
  have lr := h.lr
  have lq := h.lq
  have tg := Pol.top_ne hg g0
  refine ⟨by rw [Pol.len_addAt, lr], by rw [List.length_set, lq], fun x => ?_, fun k hk => ?_, fun k hk => ?_⟩
  · rw [Pol.ev_set _ _ _ _ (by omega), Pol.ev_addAt _ _ _ _ _ (by omega), List.take_length, h.zq j (by omega), h.eq]; grind
  · by_cases e : k = j + (g.length - 1)
    · have e1 := Pol.co_addAt_top R (-t) g j (g.length - 1) (by omega)
      rw [Nat.sub_add_cancel (by omega)] at e1
      rw [e, e1, ht]
      exact Pol.cancel _ _ _ (Fp.inv_mul tg)
    · rw [Pol.co_addAt_far _ _ _ _ _ _ (by omega) (by omega)]
      exact h.zr k (by omega)
  · rw [Pol.co_set _ _ _ _ (by omega), if_neg (by omega)]
    exact h.zq k (by omega)

theorem left_end (p g R Q : List Fp.F) (hp : Pol.Tr p) (hg : Pol.Tr g) (g0 : g ≠ []) (lp : p.length ≤ 1000) (lg : g.length ≤ 1000) (h : Left p g R Q 0) : Pol.Dv p g Q (Pol.trim R) := by
  have l := List.length_pos_iff.2 g0
  refine Pol.Dv.full hp hg lp lg g0 h.lq ?_ h.eq
  have := Pol.trim_short R (g.length - 1) fun k hk => h.zr k (by omega)
  omega

end Go.Proofs.Ytpffekaldpllkaa

/- Contracts of package poly, fourth part: monic, Div, Gcd, At. -/
namespace Go.Proofs.Ytpffekaldpllkaa
open Go.ChangeShapes Go.WideShapes Go.ChangeAt Go.RowKit
set_option linter.unusedVariables false

theorem Lies.trim {w : World} {A : Option Addr} {p : List Fp.F} (h : Lies w A (Pol.vals p)) : Lies w A (Pol.vals (Pol.trim p)) := by
  rw [Pol.trim_take, Pol.vals_take]; exact h.take _

/-- The last one alone. -/
theorem lies_last {w : World} {ad : Addr} {p : List Fp.F} {k : Nat} (hk : p.length = k + 1) (h : Lies w (some ad) (Pol.vals p)) : Lies w (some (ad.add k)) (Pol.vals [Pol.top p]) := fun j hj => by
  have hj0 : j = 0 := by simp [Pol.vals] at hj; exact hj
  subst hj0
  obtain ⟨ad', e, h1, h2⟩ := h k (by rw [Pol.len_vals]; omega)
  injection e with e
  subst e
  refine ⟨_, rfl, by rw [block_add]; exact h1, ?_⟩
  rw [add_add, Nat.add_zero, h2, Pol.vals_at, Pol.vals_at, Pol.co_zero, Pol.top, hk]
  rfl

/-- The answer is an error, and no rows. -/
def Fails2 (c : Nat) (w : World) (e : Ending) (w' : World) : Prop := e = .returned (.tuple #[.slice none 0 0, .slice none 0 0, errOf c]) ∧ Kp w w'

/-- What is wrong with a row and a place. -/
def atCode (l : List Int) (x : Int) : Nat := if Pol.code l = 0 then (if 0 ≤ x ∧ x ≤ 9972 then 0 else 1) else Pol.code l

end Go.Proofs.Ytpffekaldpllkaa

/- Contracts of slices.Index and slices.Contains at rows of integers: for all packages. -/
namespace Go.Proofs.Ytpffekaldpllkaa
open Go.ChangeShapes Go.WideShapes Go.ChangeAt Go.RowKit
set_option linter.unusedVariables false

/-- A number occurs among the first. -/
def Occurs (l : List Int) (n : Nat) (v : Int) : Prop := ∃ j, j < n ∧ l.getD j 0 = v
/-- An index where it occurs, or -1. -/
def Idx (P : Prop) (e : Ending) : Prop := (P ∧ ∃ k : Nat, e = .returned (.int .i64 (k : Int))) ∨ (¬ P ∧ e = .returned (.int .i64 (-1)))

set_option maxHeartbeats 800000 in
theorem index_any (A : Option Addr) (l : List Int) (n c : Nat) (v : Int) (w : World) (hl : Lies w A l) (hn : n ≤ l.length) (ln : n ≤ 1000000) :
    Calls Try.prog 64 #[.slice A n c, .int .i64 v] w fun e w' => Idx (Occurs l n v) e ∧ w = w' := by
  have HL := Lib.hid hl
  have HN := Lib.hid hn
  clear hl hn
  go_enter Try.func64, Try.ntmps64
  go_wp2_with fail
  go_loop [8] (fun i => ∃ k : Nat, k ≤ n ∧ i = .int .i64 (k : Int) ∧ ∀ j, j < k → l.getD j 0 ≠ v) (fun i => n - (intOf i).toNat)
  case atStart => exact ⟨0, Nat.zero_le _, rfl, fun j hj => absurd hj (by omega)⟩
  case round =>
    obtain ⟨k, hk, rfl, hg⟩ := hrel
    have HG := Lib.hid hg
    clear hg
    by_cases hlt : k < n
    · obtain ⟨ad, rfl, _, hc⟩ := HL.out k (by have := HN.out; omega)
      obtain ⟨m, hm⟩ : ∃ m, m = l.getD k 0 := ⟨_, rfl⟩
      rw [← hm] at hc
      by_cases h0 : v = m
      · have F := Lib.hid (show Occurs l n v from ⟨k, hlt, by rw [← hm, h0]⟩)
        have e0 : (v == m) = true := by rw [h0]; exact beq_self_eq_true m
        clear hm h0
        go_wp2_with fail
        go_ret
        exact ⟨.inl ⟨F.out, k, rfl⟩, rfl⟩
      · have GG := Lib.hid (show ∀ j, j < k + 1 → l.getD j 0 ≠ v from fun j hj => by
          by_cases e : j = k
          · subst e; rw [← hm]; exact fun h => h0 h.symm
          · exact HG.out j (by omega))
        have e0 : (v == m) = false := by rw [beq_eq_false_iff_ne]; exact h0
        clear hm h0
        go_wp2_with fail
        go_round
        case rel => exact ⟨k + 1, by omega, by go_num, GG.out⟩
        case measure => simp [intOf]; omega
    · have F := Lib.hid (show ¬ Occurs l n v from fun ⟨j, h1, h2⟩ => HG.out j (by omega) h2)
      go_wp2_with fail
      go_ret
      exact ⟨.inr ⟨F.out, rfl⟩, rfl⟩

theorem contains_any (A : Option Addr) (l : List Int) (n c : Nat) (v : Int) (w : World) (hl : Lies w A l) (hn : n ≤ l.length) (ln : n ≤ 1000000) :
    Calls Try.prog 60 #[.slice A n c, .int .i64 v] w fun e w' => Tells (Occurs l n v) e ∧ w = w' := by
  have H := Lib.hid (index_any A l n c v w hl hn ln)
  clear hl hn
  go_enter Try.func60, Try.ntmps60
  go_wp2_with fail
  refine (H.out).mono ?_; rintro e w' ⟨hi, rfl⟩
  rcases hi with ⟨hp, k, rfl⟩ | ⟨hp, rfl⟩
  · have HP := Lib.hid hp
    go_wp2_with fail
    go_ret
    exact ⟨.inl ⟨HP.out, by simp⟩, rfl⟩
  · have HP := Lib.hid hp
    go_wp2_with fail
    go_ret
    exact ⟨.inr ⟨HP.out, by simp⟩, rfl⟩

end Go.Proofs.Ytpffekaldpllkaa

/- Contracts of package ipol: Check, Steps, Through. -/
namespace Go.Proofs.Ytpffekaldpllkaa
open Go.ChangeShapes Go.WideShapes Go.ChangeAt Go.RowKit
set_option linter.unusedVariables false

set_option maxRecDepth 100000 in
theorem ipElement_any (n : Int) (w : World) (b : Bool) (hb : (decide (0 ≤ n) && decide (n ≤ 9972)) = b) :
    Calls Try.prog 59 #[.int .i64 n] w fun e w' => e = .returned (.bool b) ∧ w = w' := by
  have H := Lib.hid hb
  clear hb
  by_cases h1 : 0 ≤ n
  · go_enter Try.func59, Try.ntmps59
    go_wp2
    go_ret
    exact ⟨ret_bool (by rw [← H.out, decide_eq_true h1, Bool.true_and]; exact decide_eq_decide.2 (by omega)), rfl⟩
  · go_enter Try.func59, Try.ntmps59
    go_wp2
    go_ret
    exact ⟨ret_bool (by rw [← H.out, decide_eq_false (show ¬ 0 ≤ n by omega), Bool.false_and]), rfl⟩

set_option maxRecDepth 100000 in
theorem minus_el (a b : Fp.F) (w : World) :
    Calls Try.prog 41 #[el a, el b] w fun e w' => e = .returned (el (a - b)) ∧ w = w' := by
  have E := Lib.hid (show ((a.val : Int) - (b.val : Int) + 9973) % 9973 = ((a - b : Fp.F).val : Int) by
    rw [← Fp.ofInt_val]
    have h : Fp.ofInt ((a.val : Int) - (b.val : Int) + 9973) + b = a := by
      have := Fp.ofInt_add ((a.val : Int) - (b.val : Int) + 9973) (b.val : Int)
      rw [Fp.ofInt_self, show (a.val : Int) - (b.val : Int) + 9973 + (b.val : Int) = (a.val : Int) + 9973 by omega, Fp.ofInt_add, Fp.ofInt_self, show Fp.ofInt 9973 = 0 from rfl] at this
      rw [← this]; grind
    have : Fp.ofInt ((a.val : Int) - (b.val : Int) + 9973) = a - b := by rw [← h]; grind
    rw [this])
  have h1 := Fp.val_bound a
  have h2 := Fp.val_bound b
  unfold el
  generalize ((a - b : Fp.F).val : Int) = z at *
  generalize (a.val : Int) = x at *
  generalize (b.val : Int) = y at *
  go_enter Try.func41, Try.ntmps41
  go_wp2
  go_ret
  exact ⟨ret_int (by rw [E.out]), rfl⟩

/-- One of the first places comes twice. -/
def Twice (l : List Int) : Prop := ∃ i, i < l.length ∧ Occurs l i (l.getD i 0)
open Classical in
/-- What is wrong with points, as a number. -/
noncomputable def dcode (l m : List Int) : Nat :=
  if 6 < l.length then 4 else if m.length ≠ l.length then 3 else if ¬ (AllIn l 0 9972 ∧ AllIn m 0 9972) then 1 else if Twice l then 6 else 0
theorem dcode_some (l m : List Int) : dcode l m = 0 ∨ dcode l m = 1 ∨ dcode l m = 3 ∨ dcode l m = 4 ∨ dcode l m = 6 := by
  unfold dcode; split
  · simp
  · split
    · simp
    · split
      · simp
      · split <;> simp
theorem dcode_full {l m : List Int} (h : 6 < l.length) : dcode l m = 4 := by unfold dcode; rw [if_pos h]
theorem dcode_shape {l m : List Int} (h : ¬ 6 < l.length) (h1 : m.length ≠ l.length) : dcode l m = 3 := by unfold dcode; rw [if_neg h, if_pos h1]
theorem dcode_range {l m : List Int} (h : ¬ 6 < l.length) (h1 : m.length = l.length) (h2 : ¬ (AllIn l 0 9972 ∧ AllIn m 0 9972)) : dcode l m = 1 := by
  unfold dcode; rw [if_neg h, if_neg (fun e => e h1), if_pos h2]
theorem dcode_twice {l m : List Int} (h : ¬ 6 < l.length) (h1 : m.length = l.length) (h2 : AllIn l 0 9972) (h3 : AllIn m 0 9972) (h4 : Twice l) : dcode l m = 6 := by
  unfold dcode; rw [if_neg h, if_neg (fun e => e h1), if_neg (fun e => e ⟨h2, h3⟩), if_pos h4]
theorem dcode_ok {l m : List Int} (h : ¬ 6 < l.length) (h1 : m.length = l.length) (h2 : AllIn l 0 9972) (h3 : AllIn m 0 9972) (h4 : ¬ Twice l) : dcode l m = 0 := by
  unfold dcode; rw [if_neg h, if_neg (fun e => e h1), if_neg (fun e => e ⟨h2, h3⟩), if_neg h4]

/-- A row of numbers that are elements. -/
theorem allIn_vals {l : List Int} (h : AllIn l 0 9972) : ∃ p : List Fp.F, l = Pol.vals p := by
  refine ⟨l.map Fp.ofInt, ?_⟩
  unfold Pol.vals
  rw [List.map_map]
  conv => lhs; rw [← List.map_id l]
  refine List.map_congr_left fun n hn => ?_
  obtain ⟨k, hk, rfl⟩ := List.mem_iff_getElem.1 hn
  have := h k hk
  rw [List.getD_eq_getElem?_getD, List.getElem?_eq_getElem hk] at this
  exact (Fp.ofInt_of _ this.1 this.2).symm
theorem vals_allIn (p : List Fp.F) : AllIn (Pol.vals p) 0 9972 := fun k _ => by rw [Pol.vals_at]; exact Fp.val_bound _

theorem dcode_zero {l m : List Int} (h : dcode l m = 0) : ∃ p q : List Fp.F, l = Pol.vals p ∧ m = Pol.vals q ∧ p.length ≤ 6 ∧ q.length = p.length ∧ Pol.Apart (Pol.co p) p.length := by
  by_cases h1 : 6 < l.length
  · rw [dcode_full h1] at h; cases h
  by_cases h2 : m.length = l.length
  · by_cases h3 : AllIn l 0 9972 ∧ AllIn m 0 9972
    · by_cases h4 : Twice l
      · rw [dcode_twice h1 h2 h3.1 h3.2 h4] at h; cases h
      · obtain ⟨p, rfl⟩ := allIn_vals h3.1
        obtain ⟨q, rfl⟩ := allIn_vals h3.2
        rw [Pol.len_vals] at h1 h2
        rw [Pol.len_vals] at h2
        refine ⟨p, q, rfl, rfl, by omega, h2, fun i j hi hj e => h4 ⟨j, by rw [Pol.len_vals]; exact hj, i, hi, ?_⟩⟩
        rw [Pol.vals_at, Pol.vals_at, e]
    · rw [dcode_range h1 h2 h3] at h; cases h
  · rw [dcode_shape h1 h2] at h; cases h
theorem dcode_vals {p q : List Fp.F} (hp : p.length ≤ 6) (hq : q.length = p.length) (hX : Pol.Apart (Pol.co p) p.length) : dcode (Pol.vals p) (Pol.vals q) = 0 := by
  refine dcode_ok (by rw [Pol.len_vals]; omega) (by rw [Pol.len_vals, Pol.len_vals]; exact hq) (vals_allIn p) (vals_allIn q) fun ⟨i, hi, j, hj, e⟩ => ?_
  rw [Pol.len_vals] at hi
  rw [Pol.vals_at, Pol.vals_at] at e
  exact hX j i hj hi (Fp.val_inj e)

set_option maxRecDepth 100000 in
theorem ipCheck_full (A B : Option Addr) (l m : List Int) (c d : Nat) (w : World) (h : 6 < l.length) :
    Calls Try.prog 50 #[.slice A l.length c, .slice B m.length d] w fun e w' => e = .returned (errOf (dcode l m)) ∧ w = w' := by
  rw [dcode_full h]
  generalize l.length = n at *
  generalize m.length = q at *
  have h' : (6 : Int) < n := by omega
  go_enter Try.func50, Try.ntmps50
  go_wp2
  go_ret
  exact ⟨rfl, rfl⟩
set_option maxRecDepth 100000 in
theorem ipCheck_shape (A B : Option Addr) (l m : List Int) (c d : Nat) (w : World) (h : ¬ 6 < l.length) (h1 : m.length ≠ l.length) :
    Calls Try.prog 50 #[.slice A l.length c, .slice B m.length d] w fun e w' => e = .returned (errOf (dcode l m)) ∧ w = w' := by
  rw [dcode_shape h h1]
  generalize l.length = n at *
  generalize m.length = q at *
  have h' : ¬ (6 : Int) < n := by omega
  have h2 : ((q : Int) != (n : Int)) = true := by simp; omega
  clear h h1
  go_enter Try.func50, Try.ntmps50
  go_wp2
  go_ret
  exact ⟨rfl, rfl⟩

set_option maxRecDepth 100000 in
set_option maxHeartbeats 1600000 in
theorem ipCheck_main (A B : Option Addr) (l m : List Int) (c d : Nat) (w : World) (ha : Lies w A l) (hb : Lies w B m) (hc : l.length ≤ c) (h : ¬ 6 < l.length) (h1 : m.length = l.length) :
    Calls Try.prog 50 #[.slice A l.length c, .slice B l.length d] w fun e w' => e = .returned (errOf (dcode l m)) ∧ w = w' := by
  have HA := Lib.hid ha
  have HB := Lib.hid hb
  have RNG := Lib.hid (fun h2 => dcode_range h h1 h2)
  have TWI := Lib.hid (fun h2 h3 h4 => dcode_twice h h1 h2 h3 h4)
  have OKS := Lib.hid (fun h2 h3 h4 => dcode_ok h h1 h2 h3 h4)
  obtain ⟨v, hv⟩ : ∃ v, v = dcode l m := ⟨_, rfl⟩
  rw [← hv] at RNG TWI OKS ⊢
  obtain ⟨n, hn⟩ : ∃ n, n = l.length := ⟨_, rfl⟩
  rw [← hn] at h h1 hc ⊢
  have HN := Lib.hid hn
  have HM := Lib.hid h1
  have h' : ¬ (6 : Int) < n := by omega
  clear ha hb hv hn h1
  go_enter Try.func50, Try.ntmps50
  go_wp2_with fail
  go_loop [20] (fun i => ∃ k : Nat, k ≤ n ∧ i = .int .i64 (k : Int) ∧ ∀ j, j < k → (0 ≤ l.getD j 0 ∧ l.getD j 0 ≤ 9972) ∧ (0 ≤ m.getD j 0 ∧ m.getD j 0 ≤ 9972)) (fun i => n - (intOf i).toNat)
  case atStart => exact ⟨0, Nat.zero_le _, rfl, fun j hj => absurd hj (by omega)⟩
  case round =>
    obtain ⟨k, hk, rfl, hg⟩ := hrel
    have HG := Lib.hid hg
    clear hg
    by_cases hlt : k < n
    · obtain ⟨ad, rfl, _, hcx⟩ := HA.out k (by have := HN.out; omega)
      obtain ⟨bd, rfl, _, hcy⟩ := HB.out k (by have := HM.out; omega)
      obtain ⟨x, hx⟩ : ∃ x, x = l.getD k 0 := ⟨_, rfl⟩
      obtain ⟨y, hy⟩ : ∃ y, y = m.getD k 0 := ⟨_, rfl⟩
      rw [← hx] at hcx
      rw [← hy] at hcy
      by_cases x1 : 0 ≤ x ∧ x ≤ 9972
      · have EX := Lib.hid (ipElement_any x w true (by simp; omega))
        by_cases y1 : 0 ≤ y ∧ y ≤ 9972
        · have EY := Lib.hid (ipElement_any y w true (by simp; omega))
          have GG := Lib.hid (show ∀ j, j < k + 1 → (0 ≤ l.getD j 0 ∧ l.getD j 0 ≤ 9972) ∧ (0 ≤ m.getD j 0 ∧ m.getD j 0 ≤ 9972) from fun j hj => by
            by_cases e : j = k
            · subst e; rw [← hx, ← hy]; exact ⟨x1, y1⟩
            · exact HG.out j (by omega))
          clear hx hy x1 y1
          go_wp2_with fail
          refine (EX.out).mono ?_; rintro e w' ⟨rfl, rfl⟩
          go_wp2_with fail
          refine (EY.out).mono ?_; rintro e w' ⟨rfl, rfl⟩
          go_wp2_with fail
          go_round
          case rel => exact ⟨k + 1, by omega, by go_num, GG.out⟩
          case measure => simp [intOf]; omega
        · have EY := Lib.hid (ipElement_any y w false (by simp; omega))
          have E := Lib.hid (RNG.out fun hh => y1 (by have := hh.2 k (by have := HM.out; omega); rw [← hy] at this; exact this))
          clear hx hy x1 y1
          go_wp2_with fail
          refine (EX.out).mono ?_; rintro e w' ⟨rfl, rfl⟩
          go_wp2_with fail
          refine (EY.out).mono ?_; rintro e w' ⟨rfl, rfl⟩
          go_wp2_with fail
          go_ret
          exact ⟨by rw [E.out]; rfl, rfl⟩
      · have EX := Lib.hid (ipElement_any x w false (by simp; omega))
        have E := Lib.hid (RNG.out fun hh => x1 (by have := hh.1 k (by have := HN.out; omega); rw [← hx] at this; exact this))
        clear hx hy x1
        go_wp2_with fail
        refine (EX.out).mono ?_; rintro e w' ⟨rfl, rfl⟩
        go_wp2_with fail
        go_ret
        exact ⟨by rw [E.out]; rfl, rfl⟩
    · have AX := Lib.hid (show AllIn l 0 9972 from fun j hj => (HG.out j (by have := HN.out; omega)).1)
      have AY := Lib.hid (show AllIn m 0 9972 from fun j hj => (HG.out j (by have := HM.out; omega)).2)
      go_wp2_with fail
      go_loop [41] (fun i => ∃ k : Nat, k ≤ n ∧ i = .int .i64 (k : Int) ∧ ∀ j, j < k → ¬ Occurs l j (l.getD j 0)) (fun i => n - (intOf i).toNat)
      case atStart => exact ⟨0, Nat.zero_le _, rfl, fun j hj => absurd hj (by omega)⟩
      case round =>
        obtain ⟨t, ht, rfl, hg2⟩ := hrel
        have HG2 := Lib.hid hg2
        clear hg2
        by_cases hlt2 : t < n
        · have CT := Lib.hid (contains_any A l t c (l.getD t 0) w HA.out (by have := HN.out; omega) (by omega))
          obtain ⟨ad, rfl, _, hcx⟩ := HA.out t (by have := HN.out; omega)
          have tc : (t : Int) ≤ (c : Int) := by omega
          have DN := Lib.hid (fun hno : ¬ Occurs l t (l.getD t 0) => show ∀ j, j < t + 1 → ¬ Occurs l j (l.getD j 0) from fun j hj => by
            by_cases e : j = t
            · subst e; exact hno
            · exact HG2.out j (by omega))
          have DY := Lib.hid (fun hy : Occurs l t (l.getD t 0) => TWI.out AX.out AY.out ⟨t, by have := HN.out; omega, hy⟩)
          obtain ⟨x, hx⟩ : ∃ x, x = l.getD t 0 := ⟨_, rfl⟩
          rw [← hx] at hcx CT DN DY
          clear hx
          go_wp2_with fail
          refine (CT.out).mono ?_; rintro e w' ⟨hte, rfl⟩
          rcases hte with ⟨hp, rfl⟩ | ⟨hp, rfl⟩
          · have E := Lib.hid (DY.out hp)
            clear hp
            go_wp2_with fail
            go_ret
            exact ⟨by rw [E.out]; rfl, rfl⟩
          · have E := Lib.hid (DN.out hp)
            clear hp
            go_wp2_with fail
            go_round
            case rel => exact ⟨t + 1, by omega, by go_num, E.out⟩
            case measure => simp [intOf]; omega
        · have E := Lib.hid (OKS.out AX.out AY.out fun ⟨j, hj, ho⟩ => HG2.out j (by have := HN.out; omega) ho)
          go_wp2_with fail
          go_ret
          exact ⟨by rw [E.out]; rfl, rfl⟩

theorem ipCheck_any (A B : Option Addr) (l m : List Int) (c d : Nat) (w : World) (ha : Lies w A l) (hb : Lies w B m) (hc : l.length ≤ c) :
    Calls Try.prog 50 #[.slice A l.length c, .slice B m.length d] w fun e w' => e = .returned (errOf (dcode l m)) ∧ w = w' := by
  by_cases h : 6 < l.length
  · exact ipCheck_full A B l m c d w h
  · by_cases h1 : m.length = l.length
    · have := ipCheck_main A B l m c d w ha hb hc h h1
      rw [h1]; exact this
    · exact ipCheck_shape A B l m c d w h h1

set_option maxRecDepth 100000 in
theorem iclone_any (A : Option Addr) (l : List Int) (c : Nat) (w : World) (hl : Lies w A l) (hn : l.length ≤ 1000000) :
    Calls Try.prog 49 #[.slice A l.length c] w fun e w' => SomeRow l w e w' := by
  have HL := Lib.hid hl
  have q22 : ∀ (w : World) (a : Option Addr) (n c n' c' : Nat), (binOp .eql 22 (.slice a n c) (.slice none n' c')).run Try.prog w = .ok (.bool a.isNone) w := fun w a n c n' c' => Lib.run_eql_slice_nil w _ _ a n c n' c' Try.underlying22
  rcases A with _ | ad
  · obtain rfl : l = [] := by
      rcases Nat.eq_zero_or_pos l.length with h0 | h0
      · exact List.eq_nil_of_length_eq_zero h0
      · obtain ⟨ad, h, _⟩ := hl 0 h0; cases h
    clear hl
    go_enter Try.func49, Try.ntmps49
    go_wp2_with fail
    go_ret
    exact ⟨_, rfl, Own.none _ _, Kp.rfl' _⟩
  · clear hl
    have hm : Own (w.alloc (.cells #[] 3)) w.heap.size (.slice (some ⟨w.heap.size, 0, none⟩) 0 0) [] := World.ownsRow_made w #[] 0 (Nat.le_refl _) (Nat.zero_le _) rfl
    have HM := Lib.hid hm
    have HK := Lib.hid ((Kp.rfl' w).new (.cells #[] 3))
    clear hm
    go_enter Try.func49, Try.ntmps49
    go_wp2_with (at_builtin; refine wpList_cat rfl _ _ rfl w.heap.size _ [] l (some ad) l.length c rfl rfl rfl HM.out (HL.out.keep HK.out) (by simp; omega) (by simp) ?_; intro v' w' h1 h2 _)
    have HO := Lib.hid h1
    have HK' := Lib.hid (own_below HM.out HK.out (by simp) h2)
    clear h1 h2
    go_wp2_with fail
    go_ret
    exact ⟨v', rfl, HO.out, HK'.out⟩

end Go.Proofs.Ytpffekaldpllkaa

/- Contracts of package ipol, second part: Steps, Through. -/
namespace Go.Proofs.Ytpffekaldpllkaa
open Go.ChangeShapes Go.WideShapes Go.ChangeAt Go.RowKit
set_option linter.unusedVariables false

/-- The row of the divided differences. -/
def stepRow (p q : List Fp.F) : List Fp.F := Pol.row p.length (fun k => Pol.dd (Pol.co p) (Pol.co q) k 0)
theorem len_stepRow (p q : List Fp.F) : (stepRow p q).length = p.length := Pol.len_row _ _
theorem co_stepRow (p q : List Fp.F) (k : Nat) (h : k < p.length) : Pol.co (stepRow p q) k = Pol.dd (Pol.co p) (Pol.co q) k 0 := Pol.co_row _ _ k h

set_option maxRecDepth 100000 in
theorem steps_bad (A B : Option Addr) (l m : List Int) (c d : Nat) (w : World) (ha : Lies w A l) (hb : Lies w B m) (hc : l.length ≤ c) (h : dcode l m ≠ 0) :
    Calls Try.prog 39 #[.slice A l.length c, .slice B m.length d] w fun e w' => Fails (dcode l m) w e w' := by
  have C := Lib.hid (ipCheck_any A B l m c d w ha hb hc)
  unfold Fails
  have e := errOf_ne _ h
  rw [e] at C ⊢
  clear e h ha hb hc
  generalize dcode l m = x at *
  generalize l.length = n at *
  generalize m.length = q at *
  go_enter Try.func39, Try.ntmps39
  go_wp2_with fail
  refine (C.out).mono ?_; rintro e w' ⟨rfl, rfl⟩
  go_wp2_with fail
  go_ret2
  exact ⟨rfl, Kp.rfl' _⟩

set_option maxRecDepth 100000 in
set_option maxHeartbeats 3200000 in
theorem steps_ok (A B : Option Addr) (p q : List Fp.F) (n c d : Nat) (w : World) (ha : Lies w A (Pol.vals p)) (hb : Lies w B (Pol.vals q)) (hn : n = p.length) (hq : n = q.length) (ln : n ≤ 6) (hc : n ≤ c) (hX : Pol.Apart (Pol.co p) n) :
    Calls Try.prog 39 #[.slice A n c, .slice B n d] w fun e w' => Gives (stepRow p q) w e w' := by
  have C := Lib.hid (by
    have h := ipCheck_any A B (Pol.vals p) (Pol.vals q) c d w ha hb (by rw [Pol.len_vals]; omega)
    rw [dcode_vals (by omega) (by omega) (by rw [← hn]; exact hX), Pol.len_vals, Pol.len_vals, ← hn, ← hq] at h
    exact h)
  rw [errOf_zero] at C
  have CL := Lib.hid (by
    have h := iclone_any B (Pol.vals q) d w hb (by rw [Pol.len_vals]; omega)
    rw [Pol.len_vals, ← hq] at h
    exact h)
  have HA := Lib.hid ha
  have HN := Lib.hid hn
  have HQ := Lib.hid hq
  have HX := Lib.hid hX
  have HC := Lib.hid hc
  have ROW := Lib.hid (show stepRow p q = Pol.row n (fun k => Pol.dd (Pol.co p) (Pol.co q) k 0) by rw [hn]; rfl)
  clear ha hb hn hq hX hc
  go_enter Try.func39, Try.ntmps39
  go_wp2_with fail
  refine (C.out).mono ?_; rintro e w' ⟨rfl, rfl⟩
  go_wp2_with fail
  refine (CL.out).mono ?_; rintro e w1 ⟨v, rfl, hown, hkp⟩
  have HK1 := Lib.hid hkp
  obtain ⟨A1, c1, rfl, hl1, hc1⟩ := hown.cap
  rw [Pol.len_vals, ← HQ.out] at hc1
  have ev1 : (Pol.vals q).length = n := by rw [Pol.len_vals, ← HQ.out]
  rw [ev1] at hown ⊢
  have HO0 := Lib.hid (show Own w1 w.heap.size (.slice A1 n c1) (Pol.vals (Pol.row n (Pol.tab (Pol.co p) (Pol.co q) 0))) by
    have e : Pol.row n (Pol.tab (Pol.co p) (Pol.co q) 0) = q := by
      rw [Pol.row_ext n _ (Pol.co q) (fun k _ => Pol.tab_zero _ _ k), HQ.out, Pol.row_self]
    rw [e]; exact hown)
  have HC1 := Lib.hid hc1
  clear hown hkp hl1 C CL ev1 hc1
  go_wp2_with fail
  go_loopw [8] (fun i wr => ∃ o : Nat, o + 1 ≤ max n 1 ∧ i = .int .i64 ((o : Int) + 1) ∧ Own wr w.heap.size (.slice A1 n c1) (Pol.vals (Pol.row n (Pol.tab (Pol.co p) (Pol.co q) o))) ∧ Kp w wr) (fun i _ => n + 1 - (intOf i).toNat)
  case atStart => exact ⟨0, by omega, rfl, HO0.out, HK1.out⟩
  case round =>
    obtain ⟨o, ho, rfl, hown, hkp⟩ := hrel
    have HO := Lib.hid hown
    have HK := Lib.hid hkp
    clear hown hkp
    by_cases hlt : o + 1 < n
    · have hso := own_some HO.out (by rw [Pol.len_vals, Pol.len_row]; omega)
      obtain ⟨g, c', e, hg, hcx⟩ := hso
      injection e with e1 e2 e3
      subst e1
      have HG := Lib.hid hg
      clear hg hcx e2 e3
      obtain ⟨n', hn'⟩ : ∃ n', n = n' + 1 := ⟨n - 1, by omega⟩
      have HN' := Lib.hid hn'
      clear hn'
      go_wp2_with fail
      go_loopw [9] (fun j wr' => ∃ i : Nat, o ≤ i ∧ i + 1 ≤ n ∧ j = .int .i64 (i : Int) ∧ Own wr' w.heap.size (.slice (some ⟨g, 0, none⟩) n c1) (Pol.vals (Pol.row n (Pol.mid (Pol.co p) (Pol.co q) o i))) ∧ Kp w wr') (fun j _ => (intOf j).toNat)
      case atStart => exact ⟨n', by have := HN'.out; omega, by have := HN'.out; omega, by rw [show (n : Int) - 1 = (n' : Int) by have := HN'.out; omega], by
        have e := HO.out
        rw [← Pol.mid_start, show n - 1 = n' by have := HN'.out; omega] at e
        exact e, HK.out⟩
      case round =>
        obtain ⟨i, hi, hi2, rfl, hown2, hkp2⟩ := hrel
        by_cases hge : o + 1 ≤ i
        · obtain ⟨j, hj⟩ : ∃ j, i = j + o + 1 := ⟨i - (o + 1), by omega⟩
          obtain ⟨i0, hi0⟩ : ∃ i0, i0 = j + o := ⟨_, rfl⟩
          have hln : (Pol.vals (Pol.row n (Pol.mid (Pol.co p) (Pol.co q) o i))).length = n := by rw [Pol.len_vals, Pol.len_row]
          have s1 := own_cell hown2 i (by rw [hln]; omega)
          have s0 := own_cell hown2 i0 (by rw [hln]; omega)
          rw [Pol.vals_at, Pol.co_row _ _ _ (by omega), Pol.mid, if_neg (by omega)] at s1 s0
          have fr := own_free hown2 i
          obtain ⟨ad, rfl, _, x1⟩ := (HA.out.keep hkp2) i (by rw [Pol.len_vals, ← HN.out]; omega)
          obtain ⟨ad', ee, _, x0⟩ := (HA.out.keep hkp2) j (by rw [Pol.len_vals, ← HN.out]; omega)
          injection ee with ee
          subst ee
          rw [Pol.vals_at] at x1 x0
          have ne := Pol.sub_ne (HX.out.ne (i := i) (j := j) (by omega) (by omega) (by omega))
          have ST := Lib.hid (show Pol.vals (Pol.row n (Pol.mid (Pol.co p) (Pol.co q) o i0)) = (Pol.vals (Pol.row n (Pol.mid (Pol.co p) (Pol.co q) o i))).set i ((Pol.tab (Pol.co p) (Pol.co q) (o + 1) i).val : Int) by
            have h := Pol.row_mid (Pol.co p) (Pol.co q) n o i (by omega) (by omega)
            rw [show i - 1 = i0 by omega] at h
            rw [← h, Pol.vals_set])
          have TS := Lib.hid (Pol.tab_step (Pol.co p) (Pol.co q) o i (by omega))
          rw [show i - (o + 1) = j by omega, show i - 1 = i0 by omega] at TS
          have PUT := Lib.hid (fun (m : Nat) (x : Int) => own_put (hown2.drewN m) i x)
          have HK2 := Lib.hid hkp2
          have f1 : i < n := by omega
          have f2 : i0 < n := by omega
          have f3 : j < n := by omega
          have e1 : (i : Int) - 1 = (i0 : Int) := by omega
          have e2 : (i : Int) - ((o : Int) + 1) = (j : Int) := by omega
          have HI0 := Lib.hid hi0
          have HJ := Lib.hid hj
          clear hown2 hkp2 hln hi0 hj
          generalize Pol.co p i = a1 at *
          generalize Pol.co p j = a0 at *
          generalize Pol.tab (Pol.co p) (Pol.co q) o i = b1 at *
          generalize Pol.tab (Pol.co p) (Pol.co q) o i0 = b0 at *
          have MB := Lib.hid (fun w => minus_el b1 b0 w)
          have MA := Lib.hid (fun w => minus_el a1 a0 w)
          have DV := Lib.hid (fun w => div_el (b1 - b0) (a1 - a0) w ne)
          rw [← TS.out] at DV
          clear TS ne
          unfold el at *
          generalize ((Pol.tab (Pol.co p) (Pol.co q) (o + 1) i).val : Int) = z at *
          generalize ((b1 - b0).val : Int) = db at *
          generalize ((a1 - a0).val : Int) = da at *
          generalize (a1.val : Int) = va1 at *
          generalize (a0.val : Int) = va0 at *
          generalize (b1.val : Int) = vb1 at *
          generalize (b0.val : Int) = vb0 at *
          go_wp2_with fail
          go_quiet ((first
            | (with_reducible exact quiet_here (MB.out _))
            | (with_reducible exact quiet_more (MB.out _))
            | (with_reducible exact quiet_here (MA.out _))
            | (with_reducible exact quiet_more (MA.out _))
            | (with_reducible exact quiet_drew (DV.out _))
            | (with_reducible exact quiet_drew_more (DV.out _))))
          go_wp2_with fail
          go_roundw
          case rel =>
            have h1 := HJ.out
            have h0 := HI0.out
            exact ⟨i0, by omega, by omega, rfl, by rw [ST.out]; exact PUT.out _ _, (HK2.out.drewN _).put (p := ⟨g, i, none⟩) HG.out _⟩
          case measure => simp [intOf]; omega
        · have e : i = o := by omega
          subst e
          have HO2 := Lib.hid (show Own wr w.heap.size (.slice (some ⟨g, 0, none⟩) n c1) (Pol.vals (Pol.row n (Pol.tab (Pol.co p) (Pol.co q) (i + 1)))) by
            rw [← Pol.mid_end]; exact hown2)
          have HK2 := Lib.hid hkp2
          clear hown2 hkp2
          go_wp2_with fail
          go_roundw
          case rel => exact ⟨i + 1, by omega, by go_num, HO2.out, HK2.out⟩
          case measure => simp [intOf]; omega
    · have E := Lib.hid (Pol.tab_end (Pol.co p) (Pol.co q) n o (by omega))
      obtain ⟨A2, c2, e, hl, hc2⟩ := HO.out.cap
      injection e with e1 e2 e3
      subst e1 e3
      rw [E.out, ← ROW.out] at hl
      rw [E.out, ← ROW.out] at hc2
      rw [Pol.len_vals] at hc2
      have HL := Lib.hid hl
      have HC2 := Lib.hid hc2
      have EL := Lib.hid (show n = (stepRow p q).length by rw [len_stepRow, HN.out])
      clear hl hc2 e2
      have hge : (n : Int) ≤ (o : Int) + 1 := by omega
      go_wp2_with fail
      go_ret2
      exact ⟨A1, c1, by rw [← EL.out]; rfl, HL.out, HC2.out, HK.out⟩

end Go.Proofs.Ytpffekaldpllkaa

/- Contracts of package ipol, third part: Through. -/
namespace Go.Proofs.Ytpffekaldpllkaa
open Go.ChangeShapes Go.WideShapes Go.ChangeAt Go.RowKit
set_option linter.unusedVariables false

set_option maxRecDepth 100000 in
theorem through_bad (A B : Option Addr) (l m : List Int) (c d : Nat) (w : World) (ha : Lies w A l) (hb : Lies w B m) (hc : l.length ≤ c) (h : dcode l m ≠ 0) :
    Calls Try.prog 25 #[.slice A l.length c, .slice B m.length d] w fun e w' => Fails (dcode l m) w e w' := by
  have C := Lib.hid (steps_bad A B l m c d w ha hb hc h)
  unfold Fails at *
  have e := errOf_ne _ h
  rw [e] at C ⊢
  clear e h ha hb hc
  generalize dcode l m = x at *
  generalize l.length = n at *
  generalize m.length = q at *
  go_enter Try.func25, Try.ntmps25
  go_wp2_with fail
  refine (C.out).mono ?_; rintro e w' ⟨rfl, hk⟩
  have HK := Lib.hid hk
  clear hk
  go_wp2_with fail
  go_ret2
  exact ⟨rfl, HK.out⟩

theorem minus_zero (a : Fp.F) (w : World) :
    Calls Try.prog 41 #[.int .i64 0, el a] w fun e w' => e = .returned (el (-a)) ∧ w = w' := by
  have h := minus_el 0 a w
  rw [show (0 : Fp.F) - a = -a by grind] at h
  exact h

/-- The rule of the divided differences. -/
def stp (p q : List Fp.F) (k : Nat) : Fp.F := Pol.dd (Pol.co p) (Pol.co q) k 0

theorem vals_two (a : Fp.F) : Pol.vals [a, 1] = [(a.val : Int), 1] := rfl
theorem vals_one (a : Fp.F) : Pol.vals [a] = [(a.val : Int)] := rfl

set_option maxRecDepth 100000 in
set_option maxHeartbeats 3200000 in
theorem through_ok (A B : Option Addr) (p q : List Fp.F) (n c d : Nat) (w : World) (ha : Lies w A (Pol.vals p)) (hb : Lies w B (Pol.vals q)) (hn : n = p.length) (hq : n = q.length) (ln : n ≤ 6) (hc : n ≤ c) (hX : Pol.Apart (Pol.co p) n) :
    Calls Try.prog 25 #[.slice A n c, .slice B n d] w fun e w' => Gives (Pol.thr (Pol.co p) (Pol.co q) n) w e w' := by
  have ST := Lib.hid (steps_ok A B p q n c d w ha hb hn hq ln hc hX)
  have HA := Lib.hid ha
  have HN := Lib.hid hn
  have HQ := Lib.hid hq
  clear ha hb hn hq hX hc
  go_enter Try.func25, Try.ntmps25
  go_wp2_with fail
  refine (ST.out).mono ?_; rintro e w1 ⟨A1, c1, rfl, hl1, hc1, hkp⟩
  rw [len_stepRow, ← HN.out] at hc1 ⊢
  have HL1 := Lib.hid hl1
  have HK1 := Lib.hid hkp
  clear hl1 hkp ST
  go_wp2_with fail
  go_loopw [8, 7, 9] (fun f err i wr => ∃ (m len c' : Nat) (A' : Option Addr) (z : Int), m ≤ n ∧ f = .slice A' len c' ∧ len = (Pol.hor (Pol.co p) (stp p q) n m).length ∧ Lies wr A' (Pol.vals (Pol.hor (Pol.co p) (stp p q) n m)) ∧ len ≤ c' ∧
      err = .nilIface ∧ i = .int .i64 z ∧ z = (n : Int) - 1 - (m : Int) ∧ Kp w1 wr) (fun _ _ i _ => (intOf i + 1).toNat)
  case atStart => exact ⟨0, 0, 0, Option.none, _, Nat.zero_le _, rfl, rfl, Lies.empty _ _, Nat.le_refl _, rfl, rfl, by omega, Kp.rfl' _⟩
  case round =>
    obtain ⟨m, len, c', A', z, hm, rfl, hlen, hlies, hc', rfl, rfl, hz, hkp⟩ := hrel
    have HLEN := Lib.hid hlen
    have HLI := Lib.hid hlies
    have HK := Lib.hid hkp
    have LB := Lib.hid (Pol.len_hor (Pol.co p) (stp p q) n m (by omega))
    clear hlen hlies hkp
    by_cases hlt : m < n
    · obtain ⟨k, hk⟩ : ∃ k, k = n - (m + 1) := ⟨_, rfl⟩
      obtain rfl : z = (k : Int) := by omega
      have hkn : k < n := by omega
      have HKM := Lib.hid hk
      have HZ := Lib.hid hz
      clear hz hk
      obtain ⟨ad, rfl, _, xc⟩ := (HA.out.keep (HK1.out.trans HK.out)) k (by rw [Pol.len_vals, ← HN.out]; exact hkn)
      rw [Pol.vals_at] at xc
      have hll : len ≤ 6 := by have := HLEN.out; have := LB.out; omega
      obtain ⟨a, haa⟩ : ∃ a, a = Pol.co p k := ⟨_, rfl⟩
      rw [← haa] at xc
      have MZ := Lib.hid (fun w => minus_zero a w)
      have MU := Lib.hid (fun (w' : World) (B' : Option Addr) (d' : Nat) (hw : Kp wr w') (hB : Lies w' B' (Pol.vals [-a, 1])) => mul_ok' A' B' (Pol.hor (Pol.co p) (stp p q) n m) [-a, 1] len 2 c' d' w' (HLI.out.keep hw) hB HLEN.out rfl (by omega) (by omega))
      obtain ⟨bd, rfl, hbb, yc⟩ := (HL1.out.keep HK.out) k (by rw [Pol.len_vals, len_stepRow, ← HN.out]; exact hkn)
      rw [Pol.vals_at, co_stepRow _ _ _ (by rw [← HN.out]; exact hkn)] at yc
      have HY := Lib.hid (show Lies wr (some (bd.add k)) (Pol.vals [stp p q k]) from fun j hj => by
        obtain rfl : j = 0 := by rw [Pol.len_vals] at hj; simp at hj; exact hj
        exact ⟨_, rfl, by rw [block_add]; exact hbb, by rw [add_add, Nat.add_zero, yc]; rfl⟩)
      have AD := Lib.hid (fun (w' : World) (A2 : Option Addr) (c2 d2 : Nat) (hw : Kp wr w') (hA : Lies w' A2 (Pol.vals (Pol.mul (Pol.hor (Pol.co p) (stp p q) n m) [-a, 1]))) =>
        add_ok' A2 (some (bd.add k)) (Pol.mul (Pol.hor (Pol.co p) (stp p q) n m) [-a, 1]) [stp p q k] _ 1 c2 d2 w' hA (HY.out.keep hw) rfl rfl (by have h1 : (Pol.mul (Pol.hor (Pol.co p) (stp p q) n m) [-a, 1]).length ≤ (Pol.hor (Pol.co p) (stp p q) n m).length + 2 := Pol.len_mul _ _; have := HLEN.out; omega) (by omega))
      have EQ := Lib.hid (show Pol.add (Pol.mul (Pol.hor (Pol.co p) (stp p q) n m) [-a, 1]) [stp p q k] = Pol.hor (Pol.co p) (stp p q) n (m + 1) by rw [Pol.hor, haa, HKM.out])
      have hkc : (k : Int) < (c1 : Int) := by omega
      have hkc2 : (k : Int) + 1 ≤ (c1 : Int) := by omega
      clear haa yc hbb
      unfold el at *
      generalize hv : (a.val : Int) = va at *
      generalize hv' : ((-a).val : Int) = vna at *
      have HV' := Lib.hid hv'
      clear hv hv'
      go_wp2_with fail
      refine (MZ.out _).mono ?_; rintro e w' ⟨rfl, rfl⟩
      go_wp2_with fail
      refine (MU.out _ _ _ ((Kp.rfl' wr).new _) (by rw [vals_two, HV'.out]; exact lies_new wr _ [vna, 1])).mono ?_; rintro e w2 ⟨A2, c2, rfl, hl2, hc2, hk2⟩
      have HL2 := Lib.hid hl2
      have HK2 := Lib.hid (((Kp.rfl' wr).new _).trans hk2)
      clear hl2 hc2 hk2 MU MZ
      go_wp2_with fail
      refine (AD.out _ _ _ _ HK2.out HL2.out).mono ?_; rintro e w3 ⟨A3, c3, rfl, hl3, hc3, hk3⟩
      rw [EQ.out] at hl3 hc3 ⊢
      have HL3 := Lib.hid hl3
      have HC3 := Lib.hid hc3
      have HK3 := Lib.hid (HK.out.trans (HK2.out.trans hk3))
      clear hl3 hc3 hk3 AD EQ
      go_wp2_with fail
      go_roundw
      case rel => exact ⟨m + 1, _, c3, A3, _, by omega, rfl, rfl, HL3.out, HC3.out, rfl, rfl, by have := HZ.out; omega, HK3.out⟩
      case measure => simp [intOf]
    · obtain rfl : m = n := by omega
      obtain rfl : z = -1 := by omega
      have E := Lib.hid (show Pol.hor (Pol.co p) (stp p q) m m = Pol.thr (Pol.co p) (Pol.co q) m from rfl)
      have HT := Lib.hid (HK1.out.trans HK.out)
      go_wp2_with fail
      go_ret2
      exact ⟨A', c', by rw [← E.out, ← HLEN.out]; rfl, by rw [← E.out]; exact HLI.out, by rw [← E.out, ← HLEN.out]; exact hc', HT.out⟩

end Go.Proofs.Ytpffekaldpllkaa

/- Contracts of package charpoly, second part: Trace, Of. -/
namespace Go.Proofs.Ytpffekaldpllkaa
open Go.ChangeShapes Go.WideShapes Go.ChangeAt Go.RowKit
set_option linter.unusedVariables false


theorem COf_bad (A : Option Addr) (m : List (List Int)) (n d : Nat) (w : World) (ha : LiesM w A m) (hn : m.length = n) (h : qcode 5 0 9972 m ≠ 0) :
    Calls Try.prog 13 #[.slice A n d] w fun e w' => Fails (qcode 5 0 9972 m) w e w' := by
  have CK := Lib.hid (fun w (ha : LiesM w A m) => DChk_any A m n d w ha hn)
  unfold Fails
  rw [errOf_ne _ h] at CK ⊢
  generalize qcode 5 0 9972 m = z at *
  have HA := Lib.hid ha
  clear ha h hn
  go_enter Try.func13, Try.ntmps13
  go_wp2_with fail
  refine (CK.out _ HA.out).mono ?_; rintro e w' ⟨rfl, rfl⟩
  go_wp2_with fail
  go_ret2
  exact ⟨rfl, Kp.rfl' _⟩

theorem vals_snoc (p : List Fp.F) (a : Fp.F) : Pol.vals (p ++ [a]) = Pol.vals p ++ [(a.val : Int)] := by simp [Pol.vals]

set_option maxRecDepth 100000 in
set_option maxHeartbeats 3200000 in
theorem COf_ok (A : Option Addr) (f : Nat → Nat → Fp.F) (n d : Nat) (w : World) (ha : LiesM w A (Mx.matl n n f)) (h0 : 0 < n) (hn : n ≤ 5) :
    Calls Try.prog 13 #[.slice A n d] w fun e w' => Gives (Mx.chl n f) w e w' := by
  have CK := Lib.hid (fun w (ha : LiesM w A (Mx.matl n n f)) => DChk_any A (Mx.matl n n f) n d w ha (Mx.len_matl _ _ _))
  rw [qcode_matl f h0 hn, errOf_zero] at CK
  have HA := Lib.hid ha
  have DI := Lib.hid (fun (x : Nat) (hx : x ≤ 5) w1 (k : Kp w w1) => difference_any A f n d x w1 (ha.keep k) hn hx)
  have OF := Lib.hid (fun (x g : Nat) w1 h => Of_ok (some ⟨g, 0, none⟩) (Mx.chm f (Fp.ofInt (x : Int))) n n w1 h h0 hn)
  have TH := Lib.hid (fun (X Y : Option Addr) (c1 c2 : Nat) w1 h1 h2 (hc : n + 1 ≤ c1) => through_ok X Y (Mx.upto (n + 1)) (Mx.cdet n f (n + 1)) (n + 1) c1 c2 w1 h1 h2 (Mx.len_upto _).symm (Mx.len_cdet _ _ _).symm (by omega) hc (Mx.upto_apart (Nat.le_refl _) (by omega)))
  rw [Mx.thr_chl (by omega)] at TH
  clear ha h0
  go_enter Try.func13, Try.ntmps13
  go_wp2_with fail
  refine (CK.out _ HA.out).mono ?_; rintro e w' ⟨rfl, rfl⟩
  have hwn : IntKind.i64.wrap ((n : Int) + 1) = (n : Int) + 1 := IntWalk.i64_in _ (by omega)
  go_wp2_with fail
  go_loopw [2, 3, 5, 6, 7, 8, 9, 18] (fun _ _ V1 V2 _ _ _ i wr => ∃ k : Nat, k ≤ n + 1 ∧ i = .int .i64 (k : Int) ∧ Two w V1 V2 (Pol.vals (Mx.upto k)) (Pol.vals (Mx.cdet n f k)) wr) (fun _ _ _ _ _ _ _ i _ => n + 1 - (intOf i).toNat)
  case atStart => exact ⟨0, Nat.zero_le _, rfl, ⟨Own.none _ _, Own.none _ _, fun g e => (by cases e), Kp.rfl' _⟩⟩
  case round =>
    obtain ⟨k, hk, rfl, ht⟩ := hrel
    have HT := Lib.hid ht
    clear ht
    by_cases hlt : k < n + 1
    · have hlt' : (k : Int) < (n : Int) + 1 := by omega
      have DI1 := Lib.hid (DI.out k (by omega) wr HT.out.kp)
      have HR1 := Lib.hid (show Pol.vals (Mx.upto (k + 1)) = Pol.vals (Mx.upto k) ++ [(k : Int)] by rw [Mx.upto_succ, vals_snoc, Fp.ofInt_of _ (by omega) (by omega)])
      obtain ⟨y, hy⟩ : ∃ y, y = ((Mx.dt n (Mx.chm f (Fp.ofInt (k : Int)))).val : Int) := ⟨_, rfl⟩
      have HR2 := Lib.hid (show Pol.vals (Mx.cdet n f (k + 1)) = Pol.vals (Mx.cdet n f k) ++ [y] by rw [Mx.cdet_succ, vals_snoc, hy])
      have OF1 := Lib.hid (OF.out k)
      rw [← hy] at OF1
      have hl1 : (Pol.vals (Mx.upto k)).length + 1 ≤ 17000000000000 := by rw [Pol.len_vals, Mx.len_upto]; omega
      have hl2 : (Pol.vals (Mx.cdet n f k)).length + 1 ≤ 17000000000000 := by rw [Pol.len_vals, Mx.len_cdet]; omega
      have HL1 := Lib.hid hl1
      have HL2 := Lib.hid hl2
      obtain ⟨r1, hr1⟩ : ∃ r, r = Pol.vals (Mx.upto k) := ⟨_, rfl⟩
      obtain ⟨r2, hr2⟩ : ∃ r, r = Pol.vals (Mx.cdet n f k) := ⟨_, rfl⟩
      rw [← hr1] at HT HR1 HL1
      rw [← hr2] at HT HR2 HL2
      clear hl1 hl2 hr1 hr2 hy
      go_wp2_with fail
      refine (DI1.out).mono ?_; rintro e w1 ⟨g, rfl, hl, k1⟩
      have HLx := Lib.hid hl
      have HT1 := Lib.hid (show Two w _ _ r1 r2 w1 from ⟨HT.out.one.kp k1, HT.out.two.kp k1, HT.out.apart, HT.out.kp.trans k1⟩)
      clear hl k1 HT DI1
      go_wp2_with fail
      refine (OF1.out g w1 HLx.out).mono ?_; rintro e w2 ⟨rfl, k2⟩
      have HT2 := Lib.hid (show Two w _ _ r1 r2 w2 from ⟨HT1.out.one.kp k2, HT1.out.two.kp k2, HT1.out.apart, HT1.out.kp.trans k2⟩)
      have hs2 := HT2.out.kp.size
      clear k2 HT1 HLx OF1
      go_wp2_with (first
        | (at_builtin; refine wpList_push rfl _ _ rfl w.heap.size _ r1 (k : Int) w2.heap.size 1 rfl rfl (HT2.out.one.new _) (by simp) HL1.out (by simp; omega) ?_; intro v3 w3 h1 h2 h3; have TW := Lib.hid ((HT2.out.new _).grown h1 h2 h3); have hs3 := TW.out.kp.size; clear h1 h2 h3)
        | (at_builtin; refine wpList_push rfl _ _ rfl w.heap.size _ r2 y w3.heap.size 1 rfl rfl (TW.out.two.new _) (by simp) HL2.out (by simp; omega) ?_; intro v4 w4 h1 h2 h3; have TZ := Lib.hid (((TW.out.symm).new _).grown h1 h2 h3).symm; clear h1 h2 h3))
      go_roundw
      case rel => exact ⟨k + 1, by omega, by go_num, by rw [HR1.out, HR2.out]; exact TZ.out⟩
      case measure => simp [intOf]; omega
    · obtain rfl : k = n + 1 := by omega
      obtain ⟨g1, c1, e1, _, hc1⟩ := own_some HT.out.one (by rw [Pol.len_vals, Mx.len_upto]; omega)
      obtain ⟨X, _, e1', L1⟩ := HT.out.one.lies
      obtain ⟨Y, c2, e2, L2⟩ := HT.out.two.lies
      rw [Pol.len_vals, Mx.len_upto] at e1 hc1 e1'
      rw [Pol.len_vals, Mx.len_cdet] at e2
      rw [e1] at e1'
      cases e1'
      subst e1 e2
      have hlt' : ¬ (((n + 1 : Nat) : Int) < (n : Int) + 1) := by omega
      have K3 := Lib.hid HT.out.kp
      have T1 := Lib.hid (TH.out _ Y c1 c2 wr L1 L2 hc1)
      clear HT L1 L2
      go_wp2_with fail
      refine (T1.out).mono ?_; rintro e w2 ⟨Z, cz, rfl, hz, hcz, k2⟩
      have HZ := Lib.hid hz
      have HCZ := Lib.hid hcz
      have K4 := Lib.hid (K3.out.trans k2)
      clear hz hcz k2 K3
      go_wp2_with fail
      go_ret2
      exact ⟨Z, cz, rfl, HZ.out, HCZ.out, K4.out⟩
end Go.Proofs.Ytpffekaldpllkaa

/- Comparing rows and matrices, small matrices just laid down: for all packages. -/
namespace Go.Proofs.Ytpffekaldpllkaa
open Go.ChangeShapes Go.WideShapes Go.ChangeAt Go.RowKit
set_option linter.unusedVariables false

set_option maxHeartbeats 1600000 in
theorem ints_drew (A B : Option Addr) (l m : List Int) (c d : Nat) (w : World) (ha : Lies w A l) (hb : Lies w B m) (hn : l.length ≤ 1000000) (hm : m.length ≤ 1000000) :
    Calls Try.prog 12 #[.slice A l.length c, .slice B m.length d] w fun e w' => Tells (l = m) e ∧ Drew w w' := by
  have HA := Lib.hid ha
  have HB := Lib.hid hb
  obtain ⟨n, hn'⟩ : ∃ n, n = l.length := ⟨_, rfl⟩
  obtain ⟨q, hq'⟩ : ∃ q, q = m.length := ⟨_, rfl⟩
  rw [← hn'] at hn ⊢
  rw [← hq'] at hm ⊢
  have HN := Lib.hid hn'
  have HQ := Lib.hid hq'
  clear ha hb hn' hq'
  by_cases he : n = q
  · subst he
    have hne : ((n : Int) != (n : Int)) = false := by simp
    go_enter Try.func12, Try.ntmps12
    go_wp2_with fail
    go_loopw [5] (fun i wr => ∃ k : Nat, k ≤ n ∧ i = .int .i64 (k : Int) ∧ (∀ j, j < k → l.getD j 0 = m.getD j 0) ∧ Drew w wr) (fun i _ => n - (intOf i).toNat)
    case atStart => exact ⟨0, Nat.zero_le _, rfl, fun j hj => absurd hj (by omega), Drew.refl _⟩
    case round =>
      obtain ⟨k, hk, rfl, hg, hkp⟩ := hrel
      have HG := Lib.hid hg
      have HK := Lib.hid hkp
      clear hg hkp
      by_cases hlt : k < n
      · obtain ⟨ad, rfl, _, hc⟩ := (HA.out.keep HK.out.kp) k (by have := HN.out; omega)
        obtain ⟨bd, rfl, _, hd⟩ := (HB.out.keep HK.out.kp) k (by have := HQ.out; omega)
        obtain ⟨x, hx⟩ : ∃ x, x = l.getD k 0 := ⟨_, rfl⟩
        obtain ⟨y, hy⟩ : ∃ y, y = m.getD k 0 := ⟨_, rfl⟩
        rw [← hx] at hc
        rw [← hy] at hd
        by_cases hxy : x = y
        · have GG := Lib.hid (show ∀ j, j < k + 1 → l.getD j 0 = m.getD j 0 from fun j hj => by
            by_cases e : j = k
            · subst e; rw [← hx, ← hy]; exact hxy
            · exact HG.out j (by omega))
          have hb : (x != y) = false := by rw [hxy]; simp
          clear hx hy hxy
          go_wp2_with fail
          go_quiet (fail)
          go_wp2_with fail
          go_roundw
          case rel => exact ⟨k + 1, by omega, by go_num, GG.out, HK.out.more _⟩
          case measure => simp [intOf]; omega
        · have NF := Lib.hid (show ¬ l = m from fun e => hxy (by rw [hx, hy, e]))
          have hb : (x != y) = true := by rw [bne_iff_ne]; exact hxy
          clear hx hy hxy
          go_wp2_with fail
          go_quiet (fail)
          go_wp2_with fail
          go_ret
          exact ⟨.inr ⟨NF.out, rfl⟩, HK.out.more _⟩
      · have YES := Lib.hid (show l = m from list_same l m (by rw [← HN.out, ← HQ.out]) fun j hj => HG.out j (by have := HN.out; omega))
        go_wp2_with fail
        go_ret
        exact ⟨.inl ⟨YES.out, rfl⟩, HK.out⟩
  · have hne : ((n : Int) != (q : Int)) = true := by rw [bne_iff_ne]; omega
    have NF := Lib.hid (show ¬ l = m from fun e => he (by rw [HN.out, HQ.out, e]))
    clear he
    go_enter Try.func12, Try.ntmps12
    go_wp2_with fail
    go_ret
    exact ⟨.inr ⟨NF.out, rfl⟩, Drew.refl _⟩
theorem rows_same (a b : List (List Int)) (h : a.length = b.length) (h2 : ∀ k, k < a.length → a.getD k [] = b.getD k []) : a = b := by
  refine List.ext_getElem h fun k h3 h4 => ?_
  have := h2 k h3
  rwa [List.getD_eq_getElem?_getD, List.getD_eq_getElem?_getD, List.getElem?_eq_getElem h3, List.getElem?_eq_getElem h4] at this

/-- No row is longer than a slice may be. -/
def Modest (m : List (List Int)) : Prop := m.length ≤ 1000000 ∧ ∀ k, k < m.length → (m.getD k []).length ≤ 1000000
theorem modest_tab {r c : Nat} (g : Nat → Nat → Int) (hr : r ≤ 1000000) (hc : c ≤ 1000000) : Modest (Mx.tab r c g) :=
  ⟨by rw [Mx.len_tab]; exact hr, fun k hk => by rw [Mx.len_tab] at hk; rw [Mx.tab_len _ _ _ _ hk]; exact hc⟩
theorem modest_nil : Modest [] := ⟨by decide, fun k hk => absurd hk (by simp)⟩


theorem cell_just (w : World) (cs : Array Value) (e : TypeId) (g k : Nat) (h : g = w.heap.size) : (w.alloc (.cells cs e)).cell? ⟨g, k, none⟩ = cs[k]? := by
  subst h
  exact cell_of_row _ _ k _ e (0, 0) (heap_alloc_new w _)
/-- What came in: the rows up to the capacity, each with its numbers up to its own; its rows are the first of them. -/
theorem liesM_open {w : World} {a : Addr} {len cap : Nat} {A : Nat → Option Addr} {L C : Nat → Nat} {Z : Nat → List Int} (hl : len ≤ cap)
    (h : ∀ r, r < cap → w.cell? (a.add r) = some (.slice (A r) (L r) (C r)) ∧ L r ≤ C r ∧ C r ≤ maxLen ∧ (Z r).length = C r ∧ (∀ n ∈ Z r, (Lit.int .i64 n).wf = true) ∧ (A r = none → C r = 0) ∧
      ∀ a', A r = some a' → 0 ≤ a'.block ∧ ∀ c, c < C r → w.cell? (a'.add c) = some (.int .i64 ((Z r).getD c 0))) :
    ((List.range len).map fun r => (Z r).take (L r)).length = len ∧ LiesM w (some a) ((List.range len).map fun r => (Z r).take (L r)) := by
  refine ⟨by simp, fun k hk => ?_⟩
  have hk' : k < len := by simpa using hk
  obtain ⟨h1, h2, _, h4, _, h6, h7⟩ := h k (by omega)
  have e : ((List.range len).map fun r => (Z r).take (L r)).getD k [] = (Z k).take (L k) := by simp [hk']
  have el : ((Z k).take (L k)).length = L k := by rw [List.length_take]; omega
  rw [e, el]
  refine ⟨a, A k, C k, rfl, ?_, h1, h2, ?_⟩
  · have := cell_lt h1; rwa [block_add] at this
  · cases hA : A k with
    | none =>
      intro j hj
      have := h6 hA
      rw [el] at hj
      omega
    | some a' => exact (lies_take (w := w) (x := a') h2 h4 (fun i hi => (h7 a' hA).2 i (by omega))).2
/-- Two rows of two, and the heads of both, just laid down. -/
def laid22 (w : World) (x : Nat → Nat → Int) : World :=
  ((w.alloc (.cells #[.int .i64 (x 0 0), .int .i64 (x 0 1)] 3)).alloc (.cells #[.int .i64 (x 1 0), .int .i64 (x 1 1)] 3)).alloc (.cells #[.slice (some ⟨w.heap.size, 0, none⟩) 2 2, .slice (some ⟨w.heap.size + 1, 0, none⟩) 2 2] 22)
theorem laid22_kp (w : World) (x : Nat → Nat → Int) : Kp w (laid22 w x) := (((Kp.rfl' w).new _).new _).new _
theorem laid22_size (w : World) (x : Nat → Nat → Int) : (laid22 w x).heap.size = w.heap.size + 3 := by simp [laid22]
theorem laid22_lies (w : World) (x : Nat → Nat → Int) : LiesM (laid22 w x) (some ⟨w.heap.size + 2, 0, none⟩) (Mx.tab 2 2 x) := by
  have h0 : Lies (w.alloc (.cells #[.int .i64 (x 0 0), .int .i64 (x 0 1)] 3)) (some ⟨w.heap.size, 0, none⟩) (Mx.row 2 (x 0)) := lies_new' w _ [x 0 0, x 0 1] _ rfl
  have h1 : Lies ((w.alloc (.cells #[.int .i64 (x 0 0), .int .i64 (x 0 1)] 3)).alloc (.cells #[.int .i64 (x 1 0), .int .i64 (x 1 1)] 3)) (some ⟨w.heap.size + 1, 0, none⟩) (Mx.row 2 (x 1)) :=
    lies_new' (w.alloc _) _ [x 1 0, x 1 1] _ (by simp)
  have k2 := ((Kp.rfl' (w.alloc (.cells #[.int .i64 (x 0 0), .int .i64 (x 0 1)] 3))).new (.cells #[.int .i64 (x 1 0), .int .i64 (x 1 1)] 3)).new (.cells #[.slice (some ⟨w.heap.size, 0, none⟩) 2 2, .slice (some ⟨w.heap.size + 1, 0, none⟩) 2 2] 22)
  have k3 := (Kp.rfl' ((w.alloc (.cells #[.int .i64 (x 0 0), .int .i64 (x 0 1)] 3)).alloc (.cells #[.int .i64 (x 1 0), .int .i64 (x 1 1)] 3))).new (.cells #[.slice (some ⟨w.heap.size, 0, none⟩) 2 2, .slice (some ⟨w.heap.size + 1, 0, none⟩) 2 2] 22)
  have hs : w.heap.size + 2 < (laid22 w x).heap.size := by rw [laid22_size]; omega
  intro k hk
  rw [Mx.len_tab] at hk
  match k, hk with
  | 0, _ => exact ⟨_, some ⟨w.heap.size, 0, none⟩, 2, rfl, hs, by rw [add_at]; unfold laid22; rw [cell_just _ _ _ _ _ (by simp)]; simp [Mx.tab, Mx.row], by simp [Mx.tab, Mx.row], h0.keep k2⟩
  | 1, _ => exact ⟨_, some ⟨w.heap.size + 1, 0, none⟩, 2, rfl, hs, by rw [add_at]; unfold laid22; rw [cell_just _ _ _ _ _ (by simp)]; simp [Mx.tab, Mx.row], by simp [Mx.tab, Mx.row], h1.keep k3⟩

def n22 (a b c d : Int) : Nat → Nat → Int := fun i j => if i = 0 then (if j = 0 then a else b) else (if j = 0 then c else d)
/-- The same with the numbers and the block as they stand in a walk. -/
abbrev lit22 (w : World) (g : Nat) (a b c d : Int) : World :=
  ((w.alloc (.cells #[.int .i64 a, .int .i64 b] 3)).alloc (.cells #[.int .i64 c, .int .i64 d] 3)).alloc (.cells #[.slice (some ⟨g, 0, none⟩) 2 2, .slice (some ⟨g + 1, 0, none⟩) 2 2] 22)
theorem lit22_lies (w : World) (g : Nat) (a b c d : Int) (h : g = w.heap.size) : LiesM (lit22 w g a b c d) (some ⟨g + 1 + 1, 0, none⟩) (Mx.tab 2 2 (n22 a b c d)) := by
  subst h
  exact laid22_lies w (n22 a b c d)
theorem lit22_kp (w : World) (g : Nat) (a b c d : Int) : Kp w (lit22 w g a b c d) := (((Kp.rfl' w).new _).new _).new _
theorem lit22_size (w : World) (g : Nat) (a b c d : Int) : (lit22 w g a b c d).heap.size = w.heap.size + 1 + 1 + 1 := by simp [lit22]

end Go.Proofs.Ytpffekaldpllkaa

/- Good matrices, as package mat wants them. For all packages on matrices. -/
namespace Go.Proofs.Ytpffekaldpllkaa
set_option linter.unusedVariables false

def f22 (a b c d : Fp.F) : Nat → Nat → Fp.F := fun i j => if i = 0 then (if j = 0 then a else b) else (if j = 0 then c else d)
/-- A matrix of r rows and c columns, as package mat wants it. -/
structure Sh (r c : Nat) (f : Nat → Nat → Fp.F) (m : List (List Int)) : Prop where
  eq : m = Mx.matl r c f
  r0 : 0 < r
  r5 : r ≤ 5
  c0 : 0 < c
  c5 : c ≤ 5
theorem Sh.len {r c : Nat} {f : Nat → Nat → Fp.F} {m : List (List Int)} (h : Sh r c f m) : m.length = r := by rw [h.eq, Mx.len_matl]
theorem Sh.mat {r c : Nat} {f : Nat → Nat → Fp.F} {m : List (List Int)} (h : Sh r c f m) : Sh r c f (Mx.matl r c f) := ⟨rfl, h.r0, h.r5, h.c0, h.c5⟩
theorem sh_or (m : List (List Int)) : (Mx.mcode 5 0 9972 m = 0 ∧ ∃ r c f, Sh r c f m) ∨ Mx.mcode 5 0 9972 m ≠ 0 := by
  by_cases h : Mx.mcode 5 0 9972 m = 0
  · obtain ⟨r, c, f, e, h1, h2, h3, h4⟩ := Mx.mcode_zero h
    exact .inl ⟨h, r, c, f, ⟨e, h1, h2, h3, h4⟩⟩
  · exact .inr h
theorem Sh.code {r c : Nat} {f : Nat → Nat → Fp.F} {m : List (List Int)} (h : Sh r c f m) : Mx.mcode 5 0 9972 m = 0 := by
  rw [h.eq]; exact Mx.mcode_matl f h.r0 h.r5 h.c0 h.c5

theorem Sh.mul {r q k : Nat} {f f' : Nat → Nat → Fp.F} {a b : List (List Int)} (sa : Sh r q f a) (sb : Sh q k f' b) : Sh r k (Mx.mul q f f') (Mx.matl r k (Mx.mul q f f')) := ⟨rfl, sa.r0, sa.r5, sb.c0, sb.c5⟩
theorem Sh.flip {r q : Nat} {f : Nat → Nat → Fp.F} {a : List (List Int)} (sa : Sh r q f a) : Sh q r (Mx.flip f) (Mx.matl q r (Mx.flip f)) := ⟨rfl, sa.c0, sa.c5, sa.r0, sa.r5⟩
theorem Sh.plus {r q : Nat} {f f' : Nat → Nat → Fp.F} {a : List (List Int)} (sa : Sh r q f a) : Sh r q (Mx.plus f f') (Mx.matl r q (Mx.plus f f')) := ⟨rfl, sa.r0, sa.r5, sa.c0, sa.c5⟩
theorem Sh.pow {r : Nat} {f : Nat → Nat → Fp.F} {a : List (List Int)} (sa : Sh r r f a) (k : Nat) : Sh r r (Mx.pwm r f k) (Mx.matl r r (Mx.pwm r f k)) := ⟨rfl, sa.r0, sa.r5, sa.c0, sa.c5⟩
theorem Sh.one {r q : Nat} {f : Nat → Nat → Fp.F} {a : List (List Int)} (sa : Sh r q f a) : Sh r r Mx.one (Mx.matl r r Mx.one) := ⟨rfl, sa.r0, sa.r5, sa.r0, sa.r5⟩
theorem Sh.modest {r q : Nat} {f : Nat → Nat → Fp.F} {a : List (List Int)} (sa : Sh r q f a) : Modest a := by
  rw [sa.eq]; exact modest_tab _ (Nat.le_trans sa.r5 (by decide)) (Nat.le_trans sa.c5 (by decide))

end Go.Proofs.Ytpffekaldpllkaa

/- What det says of whatever comes in; its closed fact. -/
namespace Go.Proofs.Ytpffekaldpllkaa
open Go.ChangeShapes Go.WideShapes Go.ChangeAt Go.RowKit
set_option linter.unusedVariables false

theorem sq_or (m : List (List Int)) {n : Nat} (hn : m.length = n) : (∃ f, Sh n n f m) ∨ qcode 5 0 9972 m ≠ 0 := by
  by_cases h : qcode 5 0 9972 m = 0
  · obtain ⟨h1, h2⟩ := qcode_zero h
    obtain ⟨r, c, f, e, r0, r5, c0, c5⟩ := Mx.mcode_zero h1
    have hr : r = n := by rw [← hn, e, Mx.len_matl]
    have hc : c = n := by
      rw [e, Mx.len_matl] at h2
      rw [← hr, h2]
      exact (Mx.tab_len r c _ 0 r0).symm
    subst hr hc
    exact .inl ⟨f, e, r0, r5, c0, c5⟩
  · exact .inr h
theorem Sh.code2 {n : Nat} {f : Nat → Nat → Fp.F} {m : List (List Int)} (h : Sh n n f m) : qcode 5 0 9972 m = 0 := by
  rw [h.eq]; exact qcode_matl f h.r0 h.r5

theorem Of_or (A : Option Addr) (m : List (List Int)) (n d : Nat) (hn : m.length = n) :
    (∃ f, Sh n n f m) ∨ ∀ (w : World), LiesM w A m → Calls Try.prog 23 #[.slice A n d] w fun e w' => ∃ z : Nat, e = .returned (.tuple #[.int .i64 0, .iface 46 (.int .i64 (z : Int))]) ∧ Kp w w' := by
  rcases sq_or m hn with h | h
  · exact .inl h
  · exact .inr fun w ha => ((Of_bad A m n d w ha hn h).mono fun e w' h' => ⟨qcode 5 0 9972 m, by rw [h'.1, errOf_ne _ h], h'.2⟩)
theorem Of_sh {A : Option Addr} {m : List (List Int)} {n : Nat} {f : Nat → Nat → Fp.F} (s : Sh n n f m) (d : Nat) (w : World) (ha : LiesM w A m) :
    Calls Try.prog 23 #[.slice A n d] w fun e w' => e = .returned (.tuple #[.int .i64 ((Mx.dt n f).val : Int), .nilIface]) ∧ Kp w w' := by
  rw [s.eq] at ha
  exact Of_ok A f n d w ha s.r0 s.r5

def fdet : Nat → Nat → Fp.F := f22 1 2 3 4
theorem fdet_mat : Mx.tab 2 2 (n22 1 2 3 4) = Mx.matl 2 2 fdet := by decide +kernel
theorem fdet_val : ((Mx.dt 2 fdet).val : Int) = 9971 := by decide +kernel
theorem sp_10 : Mx.sp 2 (fun i => [(1 : Int), 0].getD i 0) = -1 := by decide +kernel
theorem sp_11 : Mx.sp 2 (fun i => [(1 : Int), 1].getD i 0) = 0 := by decide +kernel


end Go.Proofs.Ytpffekaldpllkaa

/- What the laws on package charpoly share: the closed fact, the cases, what a row of factors holds. -/
namespace Go.Proofs.Ytpffekaldpllkaa
open Go.ChangeShapes Go.WideShapes Go.ChangeAt Go.RowKit
set_option linter.unusedVariables false

theorem minus_mod (d : Fp.F) : (-(d.val : Int)) % 9973 = ((-d : Fp.F).val : Int) := by
  rw [← Fp.ofInt_val]
  congr 2
  have h2 := Fp.ofInt_add (-(d.val : Int)) (d.val : Int)
  rw [Fp.ofInt_self, show -(d.val : Int) + (d.val : Int) = 0 by omega, show Fp.ofInt 0 = 0 from by decide] at h2
  grind
theorem val_mod (d : Fp.F) : (d.val : Int) % 9973 = (d.val : Int) := by have := d.isLt; omega
theorem vals_el {w : World} {A : Option Addr} {p : List Fp.F} (h : Lies w A (Pol.vals p)) {k : Nat} (hk : k < p.length) : ∃ ad, A = some ad ∧ ad.block < w.heap.size ∧ w.cell? (ad.add k) = some (.int .i64 ((Pol.co p k).val : Int)) := by
  obtain ⟨ad, e, hl, hc⟩ := h k (by rw [Pol.len_vals]; exact hk)
  rw [Pol.vals_at] at hc
  exact ⟨ad, e, hl, hc⟩
theorem chl_el {w : World} {A : Option Addr} {n : Nat} {f : Nat → Nat → Fp.F} (h : Lies w A (Pol.vals (Mx.chl n f))) {k : Nat} (hk : k ≤ n) : ∃ ad, A = some ad ∧ ad.block < w.heap.size ∧ w.cell? (ad.add k) = some (.int .i64 ((Mx.ch n f k).val : Int)) := by
  obtain ⟨ad, e, hl, hc⟩ := vals_el h (k := k) (by rw [Mx.len_chl]; omega)
  rw [Mx.co_chl f hk] at hc
  exact ⟨ad, e, hl, hc⟩

/-- A row of factors is the answer. -/
def GivesCh (n : Nat) (f : Nat → Nat → Fp.F) (w : World) (e : Ending) (w' : World) : Prop :=
  ∃ A c, e = .returned (.tuple #[.slice A (n + 1) c, .nilIface]) ∧ Lies w' A (Pol.vals (Mx.chl n f)) ∧ n + 1 ≤ c ∧ Kp w w'

theorem COf_or (A : Option Addr) (m : List (List Int)) (n d : Nat) (hn : m.length = n) :
    (∃ f, Sh n n f m) ∨ ∀ (w : World), LiesM w A m → Calls Try.prog 13 #[.slice A n d] w fun e w' => ∃ z : Nat, e = .returned (.tuple #[.slice none 0 0, .iface 46 (.int .i64 (z : Int))]) ∧ Kp w w' := by
  rcases sq_or m hn with h | h
  · exact .inl h
  · exact .inr fun w ha => ((COf_bad A m n d w ha hn h).mono fun e w' h' => ⟨qcode 5 0 9972 m, by rw [h'.1, errOf_ne _ h], h'.2⟩)
theorem COf_sh {A : Option Addr} {m : List (List Int)} {n : Nat} {f : Nat → Nat → Fp.F} (s : Sh n n f m) (d : Nat) (w : World) (ha : LiesM w A m) :
    Calls Try.prog 13 #[.slice A n d] w fun e w' => GivesCh n f w e w' := by
  rw [s.eq] at ha
  refine (COf_ok A f n d w ha s.r0 s.r5).mono fun e w' h => ?_
  unfold Gives at h
  rw [Mx.len_chl] at h
  exact h

theorem fch_val : Pol.vals (Mx.chl 2 fdet) = [9971, 9968, 1] := by decide +kernel

end Go.Proofs.Ytpffekaldpllkaa

/- The body of a range over a function: a region that draws its order and ends in one store; and the iterator 'places' of package mat. -/
namespace Go.Proofs.Ytpffekaldpllkaa
open Go.ChangeShapes Go.WideShapes Go.ChangeAt Go.RowKit Go.Shelf
set_option linter.unusedVariables false

/-- An operation that goes on, and nothing else. -/
def OnlyOn (Q : Exit → Act → World → Prop) : Exit → Act → World → Prop := fun e a w => e = .normal ∧ Q .normal a w

theorem oper_in {l n : Nat} {P : Program} {o : Oper} {a : Act} {w : World} {K K' : Act → World → Prop} {Q Q' : Exit → Act → World → Prop} (hd : ∀ c, o.op ≠ .defer c)
    (hK : ∀ a w, K a w → K' a w) (h : o.wp P a w K (OnlyOn Q)) : o.wpIn (Fence.wide.inRound l) n P a w K' Q' := by
  unfold Oper.wp at h
  unfold Oper.wpIn
  refine ⟨fun _ _ => trivial, ?_⟩
  rw [Oper.semAt_eq _ _ _ hd]
  generalize (execOp a.eval o).run P w = r at *
  cases r with
  | ok x w' =>
    cases x <;> simp only [Oper.upon, Oper.uponIn] at h ⊢
    case value => exact hK _ _ h
    case skip => exact hK _ _ h
    case defer => exact hK _ _ h
    case enter f args =>
      refine ⟨fun e => (by cases e), CallsIn.inRound l ((callsIn_wide (n := n - 1)).2 (h.mono fun e w2 he => ?_))⟩
      cases e with
      | returned v => exact hK _ _ he
      | panicked c => exact absurd he.1 (by simp)
      | outgrown => obtain ⟨_, _, h', _⟩ := he; cases h'
    case row s args =>
      refine ⟨fun e => (by cases e), fun c cs _ => ?_⟩
      obtain ⟨v, w2, h1, h2⟩ := h c cs
      exact ⟨v, w2, hK _ _ h1, stepsIn_wide.2 h2⟩
  | halt x w' =>
    cases x <;> simp only [Oper.upon, Oper.uponIn] at h ⊢
    exact absurd h.1 (by simp)

def noDefer (ops : List Oper) : Bool := ops.all fun o => match o.op with | .defer _ => false | _ => true
theorem noDefer_at {ops : List Oper} (h : noDefer ops = true) {i : Nat} {o : Oper} (hi : ops.toArray[i]? = some o) : ∀ c, o.op ≠ .defer c := fun c e => by
  have hm : o ∈ ops := by
    have : ops[i]? = some o := by simpa using hi
    exact List.mem_of_getElem? this
  have := List.all_eq_true.1 h o hm
  rw [e] at this
  cases this

theorem any_in {l n : Nat} {P : Program} {md : Region.Mode} {ops : List Oper} {Q : Exit → Act → World → Prop} (hd : noDefer ops = true) :
    ∀ (f : Nat) (listed : Array Bool) (a : Act) (w : World), wpAny P md ops.toArray (OnlyOn Q) f listed a w → wpAnyIn (Fence.wide.inRound l) n P md ops.toArray Q f listed a w
  | 0, _, _, _, h => ⟨h.1, h.2.2⟩
  | f + 1, listed, a, w, h => by
    refine ⟨fun h0 => (h.1 h0).2, fun i hi => ?_⟩
    have h2 := h.2 i hi
    unfold wpOp at h2
    unfold wpOpIn
    split
    · rename_i ho; simp only [ho] at h2; exact any_in hd f _ _ _ h2
    · rename_i o ho
      simp only [ho] at h2
      split
      · rename_i hw
        simp only [hw, if_true] at h2
        rcases h2 with h2 | ⟨_, _, _, h3, _⟩
        · exact oper_in (noDefer_at hd ho) (fun a w => any_in hd f _ a w) h2
        · cases h3
      · rename_i hw
        simp only [hw] at h2
        exact ⟨fun _ _ => trivial, any_in hd f _ _ _ h2⟩

/-- In a round: a region that draws its order and whose first k operations only read, the rest one behind the other. -/
theorem region_tail {l n : Nat} {P : Program} {id : Nat} {Q : Exit → Act → World → Prop} {a : Act} {w : World} {ops : List Oper} (k : Nat) (hm : P.follows .mixedOrders = true) (hd : noDefer ops = true)
    (hB : Region.lexTailB .any ops.toArray k = true) (h : wpStill P ops.toArray w.drew (fun a' => wpList P ops.toArray (OnlyOn Q) (ops.drop k) a' w.drew) (ops.take k) a) :
    (Code.region id ops.toArray true).wpIn (Fence.wide.inRound l) n P Q a w := by
  refine wpIn_region_any hm (any_in hd _ _ _ _ ?_)
  simp only [Region.lexTailB, Bool.and_eq_true, decide_eq_true_eq] at hB
  obtain ⟨⟨⟨⟨b1, b2⟩, b3⟩, b4⟩, b5⟩ := hB
  have hk : k < ops.length := by simpa using b2
  have ht : (ops.take k).length = k := by rw [List.length_take]; omega
  have he : (ops.drop k).length = ops.toArray.size - k := by simp
  have start : HeadInv .any ops.toArray k (Array.replicate ops.toArray.size false) :=
    { size := by simp
      closed := fun j oj _ hl => by rw [getD_replicate_false] at hl; cases hl
      tail := fun t _ hlt => getD_in (by simpa using hlt) (getD_replicate_false _ _) }
  have first := wpAnyL_lex (md := .any) (g := ops.toArray.size - k) b1 b3 b4 b2 (ops.take k) 0 _ a
    (fun j hj => by
      rw [ht] at hj
      simp [hj]) (by rw [ht, Nat.zero_add]) start (by rw [ht]; exact b5) h
  have all := wpAny_of_head (Q' := OnlyOn Q) (g := ops.toArray.size - k)
    (fun listed a' hL => by
      have s := wpAny_of_seq (md := .any) (Q' := OnlyOn Q) (ops.drop k) k listed a' w.drew (fun j => by simp [List.getElem?_drop]) (by rw [he]; exact hL.1) hL.2
      rw [he] at s
      exact s) _ _ _ first
  rw [ht, Nat.add_sub_cancel' (Nat.le_of_lt b2)] at all
  exact all

attribute [local go_sem] Oper.semAt_some

/-- Row and column of place k. -/
def rowOf (r c : Nat) (k : Nat) : Nat := k / c % r
def colOf (c : Nat) (k : Nat) : Nat := k % c
theorem rowOf_lt {r c : Nat} (k : Nat) (h : 0 < r) : rowOf r c k < r := Nat.mod_lt _ h
theorem colOf_lt {c : Nat} (k : Nat) (h : 0 < c) : colOf c k < c := Nat.mod_lt _ h
def placeOf (r c : Nat) (k : Nat) : Array Value := #[.int .i64 ((rowOf r c k : Nat) : Int), .int .i64 ((colOf c k : Nat) : Int)]
theorem placeOf_at {r c i j : Nat} (hi : i < r) (hj : j < c) : placeOf r c (i * c + j) = #[.int .i64 (i : Int), .int .i64 (j : Int)] := by
  have hc : 0 < c := by omega
  have e1 : rowOf r c (i * c + j) = i := by unfold rowOf; rw [Nat.mul_comm, Nat.mul_add_div hc, Nat.div_eq_of_lt hj, Nat.add_zero, Nat.mod_eq_of_lt hi]
  have e2 : colOf c (i * c + j) = j := by unfold colOf; rw [Nat.mul_comm, Nat.mul_add_mod, Nat.mod_eq_of_lt hj]
  unfold placeOf
  rw [e1, e2]

set_option maxHeartbeats 800000 in
theorem places_any (A : Option Addr) (n d : Nat) (w : World) :
    Calls Try.prog 45 #[.slice A n d] w fun e w' => e = .returned (.func (.func 53) #[] #[.pointer (some ⟨w.heap.size, 0, none⟩)]) ∧ w' = w.alloc (.cells #[.slice A n d] 36) := by
  go_enter Try.func45, Try.ntmps45
  go_wp2
  go_ret
  exact ⟨rfl, rfl⟩

set_option maxRecDepth 100000 in
set_option maxHeartbeats 2000000 in
theorem places_in (n : Nat) (hn : 1 ≤ n) (l Bs n₀ g r c : Nat) (G : Nat → Nat) (hr : r ≤ 1000) (hc : c ≤ 1000) (hg : g < n₀) (J Jx : List Nat → World → Prop)
    (hY : ∀ pre x W, J pre W → pre.length < r * c → YieldAt Fence.wide (n - 1) Try.prog l (placeOf r c x) W fun e W' =>
      (e = .returned (.bool true) ∧ J (pre ++ [x]) W' ∧ Below n₀ W W') ∨ (e = .returned (.bool false) ∧ Jx (pre ++ [x]) W'))
    (W : World) (hBs : W.cell? ⟨Bs, 0, none⟩ = some (.slice (some ⟨g, 0, none⟩) r r)) (hcs : ∀ i, i < r → W.cell? ⟨g, i, none⟩ = some (.slice (some ⟨G i, 0, none⟩) c c)) (h0 : J [] W) :
    CallsIn Fence.wide n Try.prog 53 #[.func (.yield l) #[] #[], .pointer (some ⟨Bs, 0, none⟩)] W fun e W' => (∃ v, e = .returned v) ∧
      ((∃ ys, ys = List.range (r * c) ∧ J ys W') ∨ (∃ pre, True ∧ Jx pre W')) := by
  refine callsIn_of_wp Try.func53 rfl trivial ?_ rfl
  simp only [Try.ntmps53, List.size_toArray, List.length_cons, List.length_nil, Nat.reduceAdd, Nat.reduceSub, Array.replicate_succ, Array.replicate_zero, List.push_toArray, List.append_toArray, List.nil_append, List.cons_append]
  gi_wp2
  gi_loopw [8] (fun i wr => ∃ k : Nat, k ≤ r ∧ i = .int .i64 (k : Int) ∧ J (List.range (k * c)) wr ∧ Below n₀ W wr) (fun i _ => r - (intOf i).toNat)
  case atStart => exact ⟨0, Nat.zero_le _, rfl, by rw [Nat.zero_mul]; exact h0, Below.refl _ _⟩
  case round =>
    obtain ⟨k, hk, rfl, hJs, hnx⟩ := hrel
    by_cases hlt : k < r
    · have hcx : wr.cell? ⟨g, k, none⟩ = some (.slice (some ⟨G k, 0, none⟩) c c) := (hnx.cell (p := ⟨g, k, none⟩) hg).trans (hcs k hlt)
      have JS := Lib.hid hJs
      have NX := Lib.hid hnx
      clear hJs hnx
      gi_wp2
      gi_loopw [15] (fun j wq => ∃ m : Nat, m ≤ c ∧ j = .int .i64 (m : Int) ∧ J (List.range (k * c + m)) wq ∧ Below n₀ W wq) (fun j _ => c - (intOf j).toNat)
      case atStart => exact ⟨0, Nat.zero_le _, rfl, JS.out, NX.out⟩
      case round =>
        obtain ⟨m, hm, rfl, hJq, hnq⟩ := hrel
        by_cases hmt : m < c
        · obtain ⟨fn, tmps, assign, body, hy, hR⟩ := hY _ (k * c + m) _ hJq (by rw [List.length_range]; exact Mx.place_lt hlt hmt)
          rw [placeOf_at hlt hmt] at hy
          have NQ := Lib.hid hnq
          have RR := Lib.hid hR
          clear hnq hJq hR
          gi_wp2
          refine (RR.out).mono ?_
          rintro e W3 (⟨rfl, hJ3, hk3⟩ | ⟨rfl, hJx3⟩)
          · gi_wp2
            go_roundw
            case rel => exact ⟨m + 1, by omega, by go_num, by rw [← Nat.add_assoc, List.range_succ]; exact hJ3, NQ.out.trans hk3⟩
            case measure => simp [intOf]; omega
          · gi_wp2
            refine bodyPost_ret (results_none rfl _ _ _) rfl ?_
            exact ⟨⟨_, rfl⟩, .inr ⟨_, trivial, hJx3⟩⟩
        · obtain rfl : m = c := by omega
          have NQ := Lib.hid hnq
          have JQ := Lib.hid hJq
          clear hnq hJq
          gi_wp2
          go_roundw
          case rel => exact ⟨k + 1, by omega, by go_num, by rw [Nat.add_mul, Nat.one_mul]; exact JQ.out, NQ.out⟩
          case measure => simp [intOf]; omega
    · obtain rfl : k = r := by omega
      gi_wp2
      go_end0
      exact ⟨⟨_, rfl⟩, .inl ⟨_, rfl, hJs⟩⟩

theorem places_stops (n : Nat) (hn : 1 ≤ n) (Bs n₀ g r c : Nat) (G : Nat → Nat) (hr : r ≤ 1000) (hc : c ≤ 1000) (hg : g < n₀) (w : World) (hn0 : n₀ ≤ w.heap.size) (hB : Bs < w.heap.size)
    (hBs : w.cell? ⟨Bs, 0, none⟩ = some (.slice (some ⟨g, 0, none⟩) r r)) (hcs : ∀ i, i < r → w.cell? ⟨g, i, none⟩ = some (.slice (some ⟨G i, 0, none⟩) c c)) :
    SeqStopsK Fence.wide n Try.prog 53 #[.pointer (some ⟨Bs, 0, none⟩)] (placeOf r c) (Below n₀) (fun ys => ys = List.range (r * c)) (fun _ => True) (r * c) w := fun l J Jx W hW _ _ hY h0 =>
  places_in n hn l Bs n₀ g r c G hr hc hg J Jx hY W ((hW.cell (p := ⟨Bs, 0, none⟩) hB).trans hBs) (fun i hi => (hW.cell (p := ⟨g, i, none⟩) (by show g < _; omega)).trans (hcs i hi)) h0


end Go.Proofs.Ytpffekaldpllkaa

/- A matrix just made in a variable, what a loop over all places keeps, and the ends of functions that hold such a loop; the contract of package mat's Turn. -/
namespace Go.Proofs.Ytpffekaldpllkaa
open Go.ChangeShapes Go.WideShapes Go.ChangeAt Go.RowKit Go.Shelf
set_option linter.unusedVariables false
attribute [local go_sem] Oper.semAt_some

/-- A matrix just made, all of noughts, and the variable that holds it. -/
structure Fresh (w : World) (p : Value) (r c : Nat) (w' : World) : Prop where
  ex : ∃ B g G, p = .pointer (some ⟨B, 0, none⟩) ∧ w'.cell? ⟨B, 0, none⟩ = some (.slice (some ⟨g, 0, none⟩) r r) ∧ Grid w' g G r c (fun _ _ => 0) ∧ w.heap.size ≤ g ∧ w.heap.size ≤ B ∧ Kp w w'

/-- What the call says: an error, or a matrix. -/
def GivesM (m : List (List Int)) (w : World) (e : Ending) (w' : World) : Prop := ∃ A d, e = .returned (.tuple #[.slice A m.length d, .nilIface]) ∧ m.length ≤ d ∧ LiesM w' A m ∧ Kp w w'
def FailsM (c : Nat) (w : World) (e : Ending) (w' : World) : Prop := e = .returned (.tuple #[.slice none 0 0, errOf c]) ∧ Kp w w'

/-- A row of the call's own heads and rows abides what the loop's own book-keeping does. -/
theorem Grid.kept {W W' : World} {row : Option Nat} {g : Nat} {G : Nat → Nat} {r c : Nat} {f : Nat → Nat → Int} (h : Grid W g G r c f) (hg : W.grownBy W' row)
    (hr : ∀ k, row = some k → ∃ o : Obj, W.heap[k]? = some o ∧ o.isCells = false) : Grid W' g G r c f :=
  ⟨(grownBy_keeps_cells hg hr h.head rfl).trans h.head, fun i hi => (grownBy_keeps_cells hg hr (h.row i hi) rfl).trans (h.row i hi), h.after, h.apart⟩
theorem Grid.far {w : World} {g : Nat} {G : Nat → Nat} {r c : Nat} {f : Nat → Nat → Int} (h : Grid w g G r c f) {a : Addr} (h1 : g ≠ a.block) (h2 : ∀ i, i < r → G i ≠ a.block) (u : Value) : Grid (w.setCell a u) g G r c f :=
  ⟨by rw [heap_setCell_other w a g u h1]; exact h.head, fun i hi => (h.row i hi).far (h2 i hi) u, h.after, h.apart⟩
/-- A variable that holds a matrix is no row of one. -/
theorem Grid.ne {w : World} {g : Nat} {G : Nat → Nat} {r c : Nat} {f : Nat → Nat → Int} (h : Grid w g G r c f) (hc : 0 < c) {i : Nat} (hi : i < r) {B : Nat} {A : Option Addr} {n d : Nat}
    (hB : w.cell? ⟨B, 0, none⟩ = some (.slice A n d)) : B ≠ G i := fun e => by
  have := h.el hi hc
  rw [← e, hB] at this
  cases this

theorem fresh_a {w1 w2 : World} {g : Nat} {G : Nat → Nat} {r c : Nat} (hg : Grid w2 g G r c (fun _ _ => 0)) (hk : Kp w1 w2) (hle : w1.heap.size ≤ g) :
    Fresh w1 (.pointer (some ⟨w2.heap.size, 0, none⟩)) r c (w2.alloc (.cells #[.slice (some ⟨g, 0, none⟩) r r] 36)) :=
  ⟨w2.heap.size, g, G, rfl, by simp, hg.new _, hle, hk.size, hk.new _⟩
theorem fresh_b {w1 w2 : World} {G : Nat → Nat} {r c : Nat} (hg : Grid w2 (w1.heap.size + 1) G r c (fun _ _ => 0)) (hk : Kp w1 w2) (hb : w2.cell? ⟨w1.heap.size, 0, none⟩ = some (.slice none 0 0)) :
    Fresh w1 (.pointer (some ⟨w1.heap.size, 0, none⟩)) r c (w2.setCell ⟨w1.heap.size, 0, none⟩ (.slice (some ⟨w1.heap.size + 1, 0, none⟩) r r)) :=
  ⟨w1.heap.size, w1.heap.size + 1, G, rfl, World.cell?_setCell_same' _ _ _ (by rw [hb]; rfl), hg.far (by show w1.heap.size + 1 ≠ w1.heap.size; omega) (fun i hi => by show G i ≠ w1.heap.size; have := hg.after i hi; omega) _,
    by omega, Nat.le_refl _, hk.put (Nat.le_refl _) _⟩

theorem zero_box (r c : Nat) (w : World) (hr : r ≤ 1000) (hc : c ≤ 1000) :
    Calls Try.prog 44 #[.int .i64 (r : Int), .int .i64 (c : Int)] (w.alloc (.cells #[.slice none 0 0] 36)).drew fun e w' =>
      ∃ G, e = .returned (.slice (some ⟨w.heap.size + 1, 0, none⟩) r r) ∧ Grid w' (w.heap.size + 1) G r c (fun _ _ => 0) ∧ Kp (w.alloc (.cells #[.slice none 0 0] 36)).drew w' ∧
        w'.cell? ⟨w.heap.size, 0, none⟩ = some (.slice none 0 0) ∧ w'.frozen? ⟨w.heap.size, 0, none⟩ = false :=
  (zero_any r c _ hr hc).mono fun e w2 ⟨G, he, hg, hk⟩ => by
    have hsz : (w.alloc (.cells #[.slice none 0 0] 36)).drew.heap.size = w.heap.size + 1 := by simp [World.drew]
    have hlt : w.heap.size < (w.alloc (.cells #[.slice none 0 0] 36)).drew.heap.size := by rw [hsz]; exact Nat.lt_succ_self _
    rw [hsz] at he hg
    refine ⟨G, he, hg, hk, (hk.cell (p := ⟨w.heap.size, 0, none⟩) hlt).trans ?_, (hk.frozen (p := ⟨w.heap.size, 0, none⟩) hlt).trans ?_⟩
    · simp
    · simp


end Go.Proofs.Ytpffekaldpllkaa

/- Contract of package mat's Add. -/
namespace Go.Proofs.Ytpffekaldpllkaa
open Go.ChangeShapes Go.WideShapes Go.ChangeAt Go.RowKit Go.Shelf
set_option linter.unusedVariables false
attribute [local go_sem] Oper.semAt_some

theorem fval (a : Fp.F) : 0 ≤ (a.val : Int) ∧ (a.val : Int) ≤ 9972 := by have := a.isLt; omega
theorem sum_mod (a b : Fp.F) : ((a.val : Int) + (b.val : Int)).tmod 9973 = ((a + b).val : Int) := by
  rw [Int.tmod_eq_emod_of_nonneg (by have := fval a; have := fval b; omega), Mx.val_plus]


end Go.Proofs.Ytpffekaldpllkaa

/- Contract of package mat's multiply. -/
namespace Go.Proofs.Ytpffekaldpllkaa
open Go.ChangeShapes Go.WideShapes Go.ChangeAt Go.RowKit Go.Shelf
set_option linter.unusedVariables false
attribute [local go_sem] Oper.semAt_some

theorem mmore_mod (s a b : Fp.F) : ((s.val : Int) + (a.val : Int) * (b.val : Int)).tmod 9973 = ((s + a * b).val : Int) := by
  have h : 0 ≤ (a.val : Int) * (b.val : Int) := Int.mul_nonneg (fval a).1 (fval b).1
  rw [Int.tmod_eq_emod_of_nonneg (by have := fval s; omega), Mx.val_more]
theorem more_bound (s a b : Fp.F) : 0 ≤ (a.val : Int) * (b.val : Int) ∧ (a.val : Int) * (b.val : Int) ≤ 99440784 := by
  have h1 := fval a
  have h2 := fval b
  exact ⟨Int.mul_nonneg h1.1 h2.1, Int.mul_le_mul h1.2 h2.2 h2.1 (by decide)⟩
theorem zero_val : ((0 : Fp.F).val : Int) = 0 := rfl
theorem plus_zero (a : Fp.F) : a + 0 = a := by grind

set_option maxRecDepth 100000 in
set_option maxHeartbeats 3200000 in
theorem multiply_grid (A A' : Option Addr) (f f' : Nat → Nat → Fp.F) (r q c d d' : Nat) (w : World) (ha : LiesM w A (Mx.matl r q f)) (ha' : LiesM w A' (Mx.matl q c f')) (hr0 : 0 < r) (hr : r ≤ 5) (hq0 : 0 < q) (hq : q ≤ 5) (hc0 : 0 < c) (hc : c ≤ 5) :
    Calls Try.prog 29 #[.slice A r d, .slice A' q d'] w fun e w' => ∃ g G, e = .returned (.slice (some ⟨g, 0, none⟩) r r) ∧ Grid w' g G r c (fun a b => ((Mx.mul q f f' a b).val : Int)) ∧ w.heap.size ≤ g ∧ Kp w w' := by
  obtain ⟨ad, A0, d0, rfl, hlt0, hc00, _, hr00⟩ := ha.row hr0
  obtain ⟨bd, B0, e0, rfl, hlt1, hc01, _, hr01⟩ := ha'.row hq0
  rw [add_zero'] at hc00 hc01
  have HA := Lib.hid ha
  have HA' := Lib.hid ha'
  clear ha ha' hr00 hr01
  refine callsIn_wide.1 (callsIn_of_wp_marks (F := Fence.wide) (n := 9) Try.func29 rfl trivial ?_ rfl)
  simp only [Try.ntmps29, List.size_toArray, List.length_cons, List.length_nil, Nat.reduceAdd, Nat.reduceSub, Array.replicate_succ, Array.replicate_zero, List.push_toArray, List.append_toArray, List.nil_append, List.cons_append]
  refine wpIn_wide.2 ?_
  go_wp2_with fail
  obtain ⟨w2, hw1⟩ : ∃ x, x = (w.alloc (.cells #[.slice (some ad) r d] 36)).alloc (.cells #[.slice (some bd) q d'] 36) := ⟨_, rfl⟩
  have k1 : Kp w w2 := by rw [hw1]; exact ((Kp.rfl' w).new _).new _
  have b1 : w2.cell? ⟨w.heap.size, 0, none⟩ = some (.slice (some ad) r d) := by rw [hw1]; simp
  have b2 : w2.cell? ⟨w.heap.size + 1, 0, none⟩ = some (.slice (some bd) q d') := by rw [hw1]; simp
  rw [← hw1]
  have s1 : w.heap.size + 1 < w2.heap.size := by rw [hw1]; simp
  clear hw1
  have c2 := (k1.cell (p := bd) hlt1).trans hc01
  have kd : Kp w2 w2.drew := (Kp.rfl' w2).drewN 1
  have ZA := Lib.hid (zero_any r c w2.drew (by omega) (by omega))
  have ZB := Lib.hid (zero_box r c w2 (by omega) (by omega))
  have kb := ((Kp.rfl' w2).new (.cells #[.slice none 0 0] 36)).drewN 1
  have SK := Lib.hid (fun (w' : World) (h : Kp w2 w') => (show w'.cell? ⟨w.heap.size, 0, none⟩ = some (.slice (some ad) r d) ∧ w'.cell? ⟨w.heap.size + 1, 0, none⟩ = some (.slice (some bd) q d') ∧ w'.cell? bd = some (.slice B0 c e0) ∧ Kp w2 w' from
    ⟨(h.cell (p := ⟨w.heap.size, 0, none⟩) (by show w.heap.size < _; omega)).trans b1, (h.cell (p := ⟨w.heap.size + 1, 0, none⟩) s1).trans b2, (h.cell (p := bd) (by omega)).trans c2, h⟩))
  go_upto_region 1 with (fail)
  go_cut [5] from 5 to 16 (fun p wc => Fresh w2 p r c wc)
  case first =>
    go_region_held3 (fun w' => w'.cell? ⟨w.heap.size, 0, none⟩ = some (.slice (some ad) r d) ∧ w'.cell? ⟨w.heap.size + 1, 0, none⟩ = some (.slice (some bd) q d') ∧ w'.cell? bd = some (.slice B0 c e0) ∧ Kp w2 w')
      (first
      | exact SK.out _ (Kp.rfl' _)
      | exact SK.out _ kd
      | exact SK.out _ (kd.trans k2)
      | exact SK.out _ ((kd.trans k2).new _)
      | exact SK.out _ kb
      | exact SK.out _ (kb.trans k2)
      | exact SK.out _ ((kb.trans k2).put (Nat.le_refl _) _))
      ((first
      | (go_at_call 44; (with_reducible refine (ZA.out).mono ?_); rintro e w2 ⟨G, rfl, gr, k2⟩)
      | (go_at_call 44; (with_reducible refine (ZB.out).mono ?_); rintro e w2 ⟨G, rfl, gr, k2, y1, y2⟩)))
    all_goals
      go_wp2_with fail
      go_meet
      case rel => first | exact fresh_a gr (kd.trans k2) (Nat.le_refl _) | exact fresh_b gr (kb.trans k2) y1
  case rest =>
    obtain ⟨B, g, G, rfl, hb, hgr, hg, hB, hk⟩ := hcut.ex
    have hb1 := (SK.out wc hk).1
    have hb2 := (SK.out wc hk).2.1
    have GR := Lib.hid hgr
    have HK := Lib.hid hk
    clear hcut hgr hk ZA ZB SK c2 b1 b2
    go_wp2_with fail
    refine (places_any (some ⟨g, 0, none⟩) r r wc).mono ?_; rintro e w3 ⟨rfl, rfl⟩
    go_wp2_with fail
    have sB : B < wc.heap.size := cell_lt hb
    have sg := GR.out.lt
    have sw := k1.size
    have sc := HK.out.size
    obtain ⟨w4, hw4⟩ : ∃ x, x = wc.alloc (.cells #[.slice (some ⟨g, 0, none⟩) r r] 36) := ⟨_, rfl⟩
    rw [← hw4]
    have kc : Kp wc w4 := by rw [hw4]; exact (Kp.rfl' wc).new _
    have s4 : w4.heap.size = wc.heap.size + 1 := by rw [hw4]; simp
    have c4 : w4.cell? ⟨wc.heap.size, 0, none⟩ = some (.slice (some ⟨g, 0, none⟩) r r) := by rw [hw4]; simp
    have kw := (k1.trans HK.out).trans kc
    have gr4 := GR.out.keep kc
    have hb4 := (kc.cell (p := ⟨B, 0, none⟩) sB).trans hb
    have hm4 := (kc.cell (p := ⟨w.heap.size, 0, none⟩) (by show w.heap.size < _; omega)).trans hb1
    have hm5 := (kc.cell (p := ⟨w.heap.size + 1, 0, none⟩) (by show w.heap.size + 1 < _; omega)).trans hb2
    clear hw4
    refine (wpIn_wide (n := 9)).1 (wpIn_rangeFunc_ownF (F := Fence.wide) rfl (Nat.le_add_left 1 8) (gf := 53) (lb := #[.pointer (some ⟨wc.heap.size, 0, none⟩)]) rfl trivial (enters_of Try.func53 (by kernel_rfl) rfl)
      (places_stops 8 (Nat.le_add_left 1 7) wc.heap.size (g + 1) g r c G (Nat.le_trans hr (by decide)) (Nat.le_trans hc (by decide)) (Nat.lt_succ_self g) w4 (by omega) (by omega) c4 (fun i hi => gr4.cell hi))
      belowK_t (belowK_b (by omega)) (Below.refl _ _) (fun _ => rfl)
      (fun pre W => (W.cell? ⟨B, 0, none⟩ = some (.slice (some ⟨g, 0, none⟩) r r) ∧ W.cell? ⟨w.heap.size, 0, none⟩ = some (.slice (some ad) r d) ∧ W.cell? ⟨w.heap.size + 1, 0, none⟩ = some (.slice (some bd) q d') ∧ Grid W g G r c (fun a b => ((Mx.acc r c (Mx.mul q f f') pre a b).val : Int))) ∧ Below w.heap.size w W)
      (fun _ _ _ => False)
      (OwnFrom.and (Go.Own.from (fun s W1 W2 row hs hg hr => ⟨cell_kept hs.1 hg hr, cell_kept hs.2.1 hg hr, cell_kept hs.2.2.1 hg hr, hs.2.2.2.kept hg hr⟩) _) (ownFrom_below (Nat.le_refl _) (by omega)))
      (fun _ _ _ _ _ hs _ _ => hs)
      ⟨⟨hb4, hm4, hm5, gr4.ext (fun a b _ _ => rfl)⟩, kw⟩
      ?a1 ?assign ?body ?done ?stop)
    case assign =>
      intro l x W K hK
      unfold placeOf
      gi_wp2
      exact hK
    case body =>
      rintro l pre x W ⟨⟨q1, q2, q5, q3⟩, q4⟩ _
      have hst := fun a b => Mx.acc_snoc r c (Mx.mul q f f') pre x a b
      change ∀ a b, _ = _ + if a = rowOf r c x ∧ b = colOf c x then _ else _ at hst
      have hi := rowOf_lt (c := c) x hr0
      have hj := colOf_lt x hc0
      generalize rowOf r c x = i at *
      generalize colOf c x = j at *
      have hbg : ∀ a, a < r → g < G a := q3.after
      have hn : B ≠ G i := q3.ne hc0 hi q1
      have hm : w.heap.size ≠ G i := q3.ne hc0 hi q2
      have hm' : w.heap.size + 1 ≠ G i := q3.ne hc0 hi q5
      have hp : w.heap.size ≤ G i := by have := hbg i hi; omega
      obtain ⟨ad', A1, d1, ea, had, x4w, _, l1⟩ := HA.out.row hi
      obtain rfl := Option.some.inj ea
      have x4 := (q4.cell (p := ad.add i) (by rw [block_add]; exact had)).trans x4w
      obtain ⟨ad1, rfl, had1, _⟩ := l1.el hq0
      have L1 := Lib.hid l1
      have Q3 := Lib.hid q3
      have Q4 := Lib.hid q4
      have HST := Lib.hid hst
      have HBG := Lib.hid hbg
      clear q3 q4 hst l1 hbg
      refine wpIn_block ?_
      gi_wp2
      gi_loopw [26] (fun u wr => ∃ k : Nat, k ≤ q ∧ u = .int .i64 (k : Int) ∧ wr.cell? ⟨B, 0, none⟩ = some (.slice (some ⟨g, 0, none⟩) r r) ∧ wr.cell? ⟨w.heap.size, 0, none⟩ = some (.slice (some ad) r d) ∧ wr.cell? ⟨w.heap.size + 1, 0, none⟩ = some (.slice (some bd) q d') ∧
        Grid wr g G r c (fun a b => ((Mx.acc r c (Mx.mul q f f') pre a b + if a = i ∧ b = j then Mx.sg k (fun x => f i x * f' x j) else 0).val : Int)) ∧ KeepsOthers W wr ∧ Below (g + 1) W wr ∧ Below w.heap.size w wr) (fun u _ => q - (intOf u).toNat)
      case atStart =>
        refine ⟨0, Nat.zero_le _, rfl, q1, q2, q5, Q3.out.ext (fun a b _ _ => ?_), KeepsOthers.refl _, Below.refl _ _, Q4.out⟩
        rw [Mx.sg_zero, ite_self, plus_zero]
      case round =>
        obtain ⟨k, hk, rfl, y1, y2, y5, y3, y6, y7, y8⟩ := hrel
        by_cases hlt : k < q
        · obtain ⟨ad1', e1, _, x5⟩ := (L1.out.keep y8).el hlt
          obtain rfl := Option.some.inj e1
          obtain ⟨bd', B1, d2, eb, _, x6, _, l2⟩ := (HA'.out.keep y8).row hlt
          obtain rfl := Option.some.inj eb
          obtain ⟨bd1, rfl, _, x7⟩ := l2.el hj
          have z1 := y3.cell hi
          have z2 := y3.el hi hj
          have z3 := y3.free hi j
          rw [if_pos ⟨rfl, rfl⟩] at z2
          obtain ⟨s, hs⟩ : ∃ s, s = Mx.acc r c (Mx.mul q f f') pre i j + Mx.sg k (fun x => f i x * f' x j) := ⟨_, rfl⟩
          rw [← hs] at z2
          have hmod := mmore_mod s (f i k) (f' k j)
          have v0 := fval s
          have v3 := more_bound s (f i k) (f' k j)
          obtain ⟨z, hz⟩ : ∃ z, z = ((s + f i k * f' k j).val : Int) := ⟨_, rfl⟩
          rw [← hz] at hmod
          have HZ := Lib.hid hz
          have HS := Lib.hid hs
          generalize (s.val : Int) = u0 at *
          generalize ((f i k).val : Int) = u at *
          generalize ((f' k j).val : Int) = v at *
          have hwm : IntKind.i64.wrap (u * v) = u * v := IntWalk.i64_in _ (by omega)
          have hwa : IntKind.i64.wrap (u0 + u * v) = u0 + u * v := IntWalk.i64_in _ (by omega)
          have Y1 := Lib.hid y1
          have Y3 := Lib.hid y3
          have Y6 := Lib.hid y6
          have Y7 := Lib.hid y7
          have Y8 := Lib.hid y8
          clear y3 y6 y7 y8 hz hs l2 v0 v3
          gi_wp2
          refine region_tail 24 (by kernel_rfl) (by kernel_rfl) (by kernel_rfl) ?_
          simp only [List.take_succ_cons, List.take_zero, List.drop_succ_cons, List.drop_zero]
          repeat still_step
          refine wpStill_nil ?_
          go_wp2_with fail
          refine ⟨rfl, ?_⟩
          gi_wp2
          go_roundw
          case rel =>
            refine ⟨k + 1, by omega, by go_num, ?_, ?_, ?_, ?_, Y6.out.trans ((KeepsOthers.setCell _ _ _).trans (KeepsOthers.drew _)), (Y7.out.setCell (p := ⟨G i, j, none⟩) (by show g + 1 ≤ G i; have := HBG.out i hi; omega) _).drew, ((Y8.out).setCell (p := ⟨G i, j, none⟩) hp _).drew⟩
            · exact (World.cell?_setCell_far wr ⟨G i, j, none⟩ ⟨B, 0, none⟩ _ (fun e => hn e.symm)).trans Y1.out
            · exact (World.cell?_setCell_far wr ⟨G i, j, none⟩ ⟨w.heap.size, 0, none⟩ _ (fun e => hm e.symm)).trans y2
            · exact (World.cell?_setCell_far wr ⟨G i, j, none⟩ ⟨w.heap.size + 1, 0, none⟩ _ (fun e => hm' e.symm)).trans y5
            · refine ((Y3.out.put hi j _).keep ((Kp.rfl' _).drewN 1)).ext fun a b _ _ => ?_
              by_cases e : a = i ∧ b = j
              · rw [if_pos e, if_pos e, HZ.out, e.1, e.2, HS.out, Mx.sg_succ]; congr 2; grind
              · rw [if_neg e, if_neg e, if_neg e]
          case measure => simp [intOf]; omega
        · obtain rfl : k = q := by omega
          have Y1 := Lib.hid y1
          have Y3 := Lib.hid y3
          have Y6 := Lib.hid y6
          have Y7 := Lib.hid y7
          have Y8 := Lib.hid y8
          clear y1 y3 y6 y7 y8
          gi_wp2
          refine ⟨Y6.out, Y7.out, ⟨Y1.out, y2, y5, Y3.out.ext (fun a b _ _ => ?_)⟩, Y8.out⟩
          rw [HST.out a b]
          by_cases e : a = i ∧ b = j
          · rw [if_pos e, if_pos e, e.1, e.2]; rfl
          · rw [if_neg e, if_neg e]
    case done =>
      rintro D ys W hD rfl ⟨⟨q1, q2, q5, q3⟩, q4⟩ hK
      have Q3 := Lib.hid q3
      have Q4 := Lib.hid q4
      clear q3 q4
      go_wp2_with fail
      refine ⟨by simp, .inl ⟨_, _, rfl, run_takeDeferred hK, ?_⟩⟩
      refine ⟨.slice (some ⟨g, 0, none⟩) r r, by simp [results, Try.results29, go_sem], ?_⟩
      have hg2 := Q3.out.kept (grownBy_putObj' W D (.deferred none)) (fun r e => by cases e; exact ⟨_, hK, rfl⟩)
      refine ⟨g, G, rfl, ?_, by have := k1.size; omega, Q4.out.trans (belowK_b (w := w) (Nat.le_refl _) W D _ _ (by have := kw.size; omega) hK rfl rfl)⟩
      exact hg2.ext fun a b ha hb => by rw [Mx.acc_all r c (Mx.mul q f f') a b ha hb]
    case stop =>
      rintro D c pre W _ _ h _
      exact h.elim
theorem multiply_any (A A' : Option Addr) (f f' : Nat → Nat → Fp.F) (r q c d d' : Nat) (w : World) (ha : LiesM w A (Mx.matl r q f)) (ha' : LiesM w A' (Mx.matl q c f')) (hr0 : 0 < r) (hr : r ≤ 5) (hq0 : 0 < q) (hq : q ≤ 5) (hc0 : 0 < c) (hc : c ≤ 5) :
    Calls Try.prog 29 #[.slice A r d, .slice A' q d'] w fun e w' => ∃ g, e = .returned (.slice (some ⟨g, 0, none⟩) r r) ∧ LiesM w' (some ⟨g, 0, none⟩) (Mx.matl r c (Mx.mul q f f')) ∧ Kp w w' :=
  (multiply_grid A A' f f' r q c d d' w ha ha' hr0 hr hq0 hq hc0 hc).mono fun _ _ ⟨_, _, he, hg, _, hk⟩ => ⟨_, he, hg.lies, hk⟩

end Go.Proofs.Ytpffekaldpllkaa

/- Contracts of package mat's Mul, One, Pow; and the errors of all of its functions. -/
namespace Go.Proofs.Ytpffekaldpllkaa
open Go.ChangeShapes Go.WideShapes Go.ChangeAt Go.RowKit
set_option linter.unusedVariables false





set_option maxHeartbeats 800000 in
theorem Pow_bad (A : Option Addr) (m : List (List Int)) (n d : Nat) (k : Int) (w : World) (ha : LiesM w A m) (hn : m.length = n) (hz : Mx.mcode 5 0 9972 m ≠ 0) :
    Calls Try.prog 16 #[.slice A n d, .int .i64 k] w fun e w' => FailsM (Mx.mcode 5 0 9972 m) w e w' := by
  have CH := Lib.hid (Check_any A m n d w ha hn)
  have E := Lib.hid (errOf_ne _ hz)
  rw [errOf_ne _ hz] at CH
  unfold FailsM
  rw [E.out]
  generalize Mx.mcode 5 0 9972 m = z at *
  clear ha hn hz E
  go_enter Try.func16, Try.ntmps16
  go_wp2_with fail
  refine (CH.out).mono ?_; rintro e w' ⟨rfl, rfl⟩
  go_wp2_with fail
  refine bodyPost_ret (v := .tuple #[.slice none 0 0, .iface 46 (.int .i64 (z : Int))]) (by simp [results, Try.results16, go_sem]) rfl ⟨rfl, Kp.rfl' _⟩
set_option maxHeartbeats 800000 in
theorem Pow_shape (A : Option Addr) (f : Nat → Nat → Fp.F) (r c d : Nat) (k : Int) (w : World) (ha : LiesM w A (Mx.matl r c f)) (hr0 : 0 < r) (hr : r ≤ 5) (hc0 : 0 < c) (hc : c ≤ 5) (hne : r ≠ c) :
    Calls Try.prog 16 #[.slice A r d, .int .i64 k] w fun e w' => FailsM 3 w e w' := by
  have CH := Lib.hid (Check_any A (Mx.matl r c f) r d w ha (Mx.len_matl _ _ _))
  rw [Mx.mcode_matl f hr0 hr hc0 hc] at CH
  obtain ⟨ad, A0, d0, rfl, hlt0, hc00, _, _⟩ := ha.row hr0
  rw [add_zero'] at hc00
  have e1 : ((r : Int) != (c : Int)) = true := by rw [bne_iff_ne]; omega
  clear ha
  go_enter Try.func16, Try.ntmps16
  go_wp2_with fail
  refine (CH.out).mono ?_; rintro e w' ⟨rfl, rfl⟩
  rw [errOf_zero]
  go_wp2_with fail
  refine bodyPost_ret (v := .tuple #[.slice none 0 0, errOf 3]) (by simp [results, Try.results16, go_sem, errOf]) rfl ⟨rfl, Kp.rfl' _⟩
set_option maxHeartbeats 800000 in
theorem Pow_range (A : Option Addr) (f : Nat → Nat → Fp.F) (r d : Nat) (k : Int) (w : World) (ha : LiesM w A (Mx.matl r r f)) (hr0 : 0 < r) (hr : r ≤ 5) (hk : ¬ (0 ≤ k ∧ k ≤ 1000)) :
    Calls Try.prog 16 #[.slice A r d, .int .i64 k] w fun e w' => FailsM 1 w e w' := by
  have CH := Lib.hid (Check_any A (Mx.matl r r f) r d w ha (Mx.len_matl _ _ _))
  rw [Mx.mcode_matl f hr0 hr hr0 hr] at CH
  obtain ⟨ad, A0, d0, rfl, hlt0, hc00, _, _⟩ := ha.row hr0
  rw [add_zero'] at hc00
  have e1 : ((r : Int) != (r : Int)) = false := by simp
  clear ha
  by_cases h1 : k < 0
  · clear hk
    go_enter Try.func16, Try.ntmps16
    go_wp2_with fail
    refine (CH.out).mono ?_; rintro e w' ⟨rfl, rfl⟩
    rw [errOf_zero]
    go_wp2_with fail
    refine bodyPost_ret (v := .tuple #[.slice none 0 0, errOf 1]) (by simp [results, Try.results16, go_sem, errOf]) rfl ⟨rfl, Kp.rfl' _⟩
  · have h2 : 1000 < k := by omega
    clear hk
    go_enter Try.func16, Try.ntmps16
    go_wp2_with fail
    refine (CH.out).mono ?_; rintro e w' ⟨rfl, rfl⟩
    rw [errOf_zero]
    go_wp2_with fail
    refine bodyPost_ret (v := .tuple #[.slice none 0 0, errOf 1]) (by simp [results, Try.results16, go_sem, errOf]) rfl ⟨rfl, Kp.rfl' _⟩

set_option maxRecDepth 100000 in
set_option maxHeartbeats 1600000 in
theorem Pow_grid (A : Option Addr) (f : Nat → Nat → Fp.F) (n d k : Nat) (w : World) (ha : LiesM w A (Mx.matl n n f)) (h0 : 0 < n) (h5 : n ≤ 5) (hk : k ≤ 1000) :
    Calls Try.prog 16 #[.slice A n d, .int .i64 (k : Int)] w fun e w' => ∃ g G, e = .returned (.tuple #[.slice (some ⟨g, 0, none⟩) n n, .nilIface]) ∧ Grid w' g G n n (fun a b => ((Mx.pwm n f k a b).val : Int)) ∧ w.heap.size ≤ g ∧ Kp w w' := by
  have CH := Lib.hid (Check_any A (Mx.matl n n f) n d w ha (Mx.len_matl _ _ _))
  rw [Mx.mcode_matl f h0 h5 h0 h5] at CH
  have ID := Lib.hid (identity_grid n w (by omega))
  have HA := Lib.hid ha
  obtain ⟨ad, A0, d0, rfl, hlt0, hc00, _, _⟩ := ha.row h0
  rw [add_zero'] at hc00
  have e1 : ((n : Int) != (n : Int)) = false := by simp
  have e2 : ¬ (k : Int) < 0 := by omega
  have e3 : ¬ (1000 : Int) < k := by omega
  clear ha
  go_enter Try.func16, Try.ntmps16
  go_wp2_with fail
  refine (CH.out).mono ?_; rintro e w' ⟨rfl, rfl⟩
  rw [errOf_zero]
  go_wp2_with fail
  refine (ID.out).mono ?_; rintro e w1 ⟨gI, GI, rfl, hl, hgI, hk1⟩
  have HL := Lib.hid hl
  have HK1 := Lib.hid hk1
  clear hl hk1 hc00
  go_wp2_with fail
  go_loopw [0, 1, 7] (fun u v p wr => ∃ (m : Nat) (A1 : Option Addr) (d1 g2 : Nat) (G2 : Nat → Nat) (x y : Nat → Nat → Fp.F), m ≤ k ∧ v = .int .i64 (m : Int) ∧ u = .slice A1 n d1 ∧ p = .slice (some ⟨g2, 0, none⟩) n n ∧ w.heap.size ≤ g2 ∧ LiesM wr A1 (Mx.matl n n x) ∧ Grid wr g2 G2 n n (fun a b => ((y a b).val : Int)) ∧ Mx.Eqm n n (Mx.mul n y (Mx.pwm n x m)) (Mx.pwm n f k) ∧ Kp w wr) (fun _ v _ _ => (intOf v).toNat)
  case atStart => exact ⟨k, some ad, d, gI, GI, f, Mx.one, Nat.le_refl _, rfl, rfl, rfl, hgI, HA.out.keep HK1.out, HL.out, Mx.one_mul n n _, HK1.out⟩
  case round =>
    obtain ⟨m, A1, d1, g2, G2, x, y, hm, rfl, rfl, rfl, hd2, l1, l2, heq, hkw⟩ := hrel
    have L1 := Lib.hid l1
    have L2 := Lib.hid l2
    have EQ := Lib.hid heq
    have HK := Lib.hid hkw
    clear l1 l2 heq hkw
    by_cases hm0 : m = 0
    · subst hm0
      go_wp2_with fail
      refine bodyPost_ret (v := .tuple #[.slice (some ⟨g2, 0, none⟩) n n, .nilIface]) (by simp [results, Try.results16, go_sem]) rfl ⟨g2, G2, rfl, L2.out.ext fun a b ha hb => ?_, hd2, HK.out⟩
      rw [← EQ.out a b ha hb, show Mx.pwm n x 0 = Mx.one from rfl, Mx.mul_one n n y a b ha hb]
    · have hpos : (0 : Int) < (m : Int) := by omega
      have hdiv : (m : Int).tdiv 2 = ((m / 2 : Nat) : Int) := by rw [Int.tdiv_eq_ediv_of_nonneg (by omega)]; omega
      have hdiv' : (m : Int) / 2 = ((m / 2 : Nat) : Int) := by omega
      have M1 := Lib.hid (fun (w' : World) (h : Kp wr w') => multiply_any A1 A1 x x n n n d1 d1 w' (L1.out.keep h) (L1.out.keep h) h0 h5 h0 h5 h0 h5)
      have M2 := Lib.hid (multiply_grid (some ⟨g2, 0, none⟩) A1 y x n n n n d1 wr L2.out.lies L1.out h0 h5 h0 h5 h0 h5)
      have HF := Lib.hid (Mx.pwm_half n x y m)
      have hlt : m / 2 < m := by omega
      have hle : m / 2 ≤ k := by omega
      by_cases hodd : m % 2 = 1
      · have hmod : (m : Int).tmod 2 = 1 := by rw [Int.tmod_eq_emod_of_nonneg (by omega)]; omega
        have hmod' : (m : Int) % 2 = 1 := by omega
        rw [if_pos hodd] at HF
        clear hodd hm0
        generalize m / 2 = h at *
        go_wp2_with fail
        refine (M2.out).mono ?_; rintro e w2 ⟨g3', G3', rfl, l3, hg3, k3⟩
        have L3 := Lib.hid l3
        have K3 := Lib.hid k3
        have hg4 : w.heap.size ≤ g3' := by have := HK.out.size; omega
        clear l3 k3 hg3
        go_wp2_with fail
        refine (M1.out w2 K3.out).mono ?_; rintro e w3 ⟨g3, rfl, l4, k4⟩
        have L4 := Lib.hid l4
        have K4 := Lib.hid k4
        clear l4 k4
        go_wp2_with fail
        go_roundw
        case rel => exact ⟨h, _, _, _, _, _, _, hle, rfl, rfl, rfl, hg4, L4.out, L3.out.keep K4.out, HF.out.trans EQ.out, (HK.out.trans K3.out).trans K4.out⟩
        case measure => simp [intOf]; omega
      · have hmod : (m : Int).tmod 2 = 0 := by rw [Int.tmod_eq_emod_of_nonneg (by omega)]; omega
        have hmod' : (m : Int) % 2 = 0 := by omega
        rw [if_neg hodd] at HF
        clear hodd hm0
        generalize m / 2 = h at *
        go_wp2_with fail
        refine (M1.out wr (Kp.rfl' _)).mono ?_; rintro e w3 ⟨g3, rfl, l4, k4⟩
        have L4 := Lib.hid l4
        have K4 := Lib.hid k4
        clear l4 k4
        go_wp2_with fail
        go_roundw
        case rel => exact ⟨h, _, _, _, _, _, _, hle, rfl, rfl, rfl, hd2, L4.out, L2.out.keep K4.out, HF.out.trans EQ.out, HK.out.trans K4.out⟩
        case measure => simp [intOf]; omega
theorem Pow_ok (A : Option Addr) (f : Nat → Nat → Fp.F) (n d k : Nat) (w : World) (ha : LiesM w A (Mx.matl n n f)) (h0 : 0 < n) (h5 : n ≤ 5) (hk : k ≤ 1000) :
    Calls Try.prog 16 #[.slice A n d, .int .i64 (k : Int)] w fun e w' => GivesM (Mx.matl n n (Mx.pwm n f k)) w e w' :=
  (Pow_grid A f n d k w ha h0 h5 hk).mono fun _ _ ⟨_, _, he, hg, _, hk⟩ => ⟨_, _, by rw [Mx.len_matl]; exact he, by rw [Mx.len_matl]; exact Nat.le_refl _, hg.lies, hk⟩

end Go.Proofs.Ytpffekaldpllkaa

/- The laws' small function 'in'. -/
namespace Go.Proofs.Ytpffekaldpllkaa
open Go.ChangeShapes Go.WideShapes Go.ChangeAt Go.RowKit
set_option linter.unusedVariables false


theorem law3In_any (n a b : Int) (w : World) (t : Bool) (h : (decide (a ≤ n) && decide (n ≤ b)) = t) :
    Calls Try.prog 8 #[.int .i64 n, .int .i64 a, .int .i64 b] w fun e w' => e = .returned (.bool t) ∧ w = w' := by
  have H := Lib.hid h
  clear h
  by_cases h1 : a ≤ n
  · by_cases h2 : n ≤ b
    · go_enter Try.func8, Try.ntmps8
      go_wp2
      go_ret
      exact ⟨ret_bool (by rw [← H.out]; simp [h1, h2]), rfl⟩
    · go_enter Try.func8, Try.ntmps8
      go_wp2
      go_ret
      exact ⟨ret_bool (by rw [← H.out]; simp [h1]; omega), rfl⟩
  · go_enter Try.func8, Try.ntmps8
    go_wp2
    go_ret
    exact ⟨ret_bool (by rw [← H.out]; simp; omega), rfl⟩

theorem topIn_any (n a b : Int) (w : World) (t : Bool) (h : (decide (a ≤ n) && decide (n ≤ b)) = t) :
    Calls Try.prog 14 #[.int .i64 n, .int .i64 a, .int .i64 b] w fun e w' => e = .returned (.bool t) ∧ w = w' := by
  have H := Lib.hid h
  clear h
  by_cases h1 : a ≤ n
  · by_cases h2 : n ≤ b
    · go_enter Try.func14, Try.ntmps14
      go_wp2
      go_ret
      exact ⟨ret_bool (by rw [← H.out]; simp [h1, h2]), rfl⟩
    · go_enter Try.func14, Try.ntmps14
      go_wp2
      go_ret
      exact ⟨ret_bool (by rw [← H.out]; simp [h1]; omega), rfl⟩
  · go_enter Try.func14, Try.ntmps14
    go_wp2
    go_ret
    exact ⟨ret_bool (by rw [← H.out]; simp; omega), rfl⟩

end Go.Proofs.Ytpffekaldpllkaa

/- Contracts of the document's answer on matrices (package rankmereref1: Mod, Unit, Flip, Copy, MatMul, MatAdd, Matrix, Field). For all packages. -/
namespace Go.Proofs.Ytpffekaldpllkaa
open Go.ChangeShapes Go.WideShapes Go.ChangeAt Go.RowKit
set_option linter.unusedVariables false

theorem own_made {w : World} {base g n : Nat} (h : w.ownsRow base 3 1 (.slice (some ⟨g, 0, none⟩) n n) n (madeCells #[.int .i64 0] (n * 1)).toList) : Own w base (.slice (some ⟨g, 0, none⟩) n n) (Mx.row n fun _ => 0) := by
  unfold Own
  rw [Mx.len_row, ← Mx.row_rep]
  rw [toList_madeCells_one, Nat.mul_one] at h
  simpa [ints] using h
theorem rval (a : Fp.F) : 0 ≤ (a.val : Int) ∧ (a.val : Int) ≤ 9972 := by have := a.isLt; omega
theorem rprod (a b : Fp.F) : 0 ≤ (a.val : Int) * (b.val : Int) ∧ (a.val : Int) * (b.val : Int) ≤ 99440784 := by
  have h1 := rval a
  have h2 := rval b
  exact ⟨Int.mul_nonneg h1.1 h2.1, Int.mul_le_mul h1.2 h2.2 h2.1 (by decide)⟩
theorem rzero : ((0 : Fp.F).val : Int) = 0 := rfl

theorem rMod_any (n : Int) (w : World) (h1 : -1000000000000000 ≤ n) (h2 : n ≤ 1000000000000000) :
    Calls Try.prog 17 #[.int .i64 n] w fun e w' => e = .returned (.int .i64 (n % 9973)) ∧ w = w' := by
  obtain ⟨f1, f2⟩ := Num.tmod_fix n 9973 (by omega)
  obtain ⟨b2, b1⟩ := Num.tmod_bound n 9973 (by omega)
  have F1 := Lib.hid f1
  have F2 := Lib.hid f2
  clear f1 f2
  by_cases h : n.tmod 9973 < 0
  · go_enter Try.func17, Try.ntmps17
    go_wp2
    go_ret
    exact ⟨ret_int (F1.out h), rfl⟩
  · have h' : 0 ≤ n.tmod 9973 := by omega
    clear h
    go_enter Try.func17, Try.ntmps17
    go_wp2
    go_ret
    exact ⟨ret_int (F2.out h'), rfl⟩

/-- A matrix that the call made. -/
def Made (r c : Nat) (f : Nat → Nat → Fp.F) (w : World) (e : Ending) (w' : World) : Prop := ∃ A d, e = .returned (.slice A r d) ∧ LiesM w' A (Mx.matl r c f) ∧ Kp w w'
/-- The same, to be written to. -/
def MadeOwn (r c : Nat) (f : Nat → Nat → Fp.F) (w : World) (e : Ending) (w' : World) : Prop := ∃ v G C, e = .returned v ∧ OwnM w' w.heap.size v G C (Mx.matl r c f) ∧ Kp w w'



end Go.Proofs.Ytpffekaldpllkaa

/- Contracts of the document's answer on matrices, second part: Copy, MatMul, MatAdd, Matrix, Field. For all packages. -/
namespace Go.Proofs.Ytpffekaldpllkaa
open Go.ChangeShapes Go.WideShapes Go.ChangeAt Go.RowKit
set_option linter.unusedVariables false

/-- Where the heads lie. -/
theorem OwnM.some {w : World} {B : Nat} {v : Value} {G C : Nat → Nat} {m : List (List Int)} (h : OwnM w B v G C m) (h0 : 0 < m.length) : ∃ g c, v = .slice (.some ⟨g, 0, .none⟩) m.length c ∧ B ≤ g := by
  rcases h.top.2 with ⟨_, h1⟩ | ⟨g, cap, cur, e, hg, _⟩
  · omega
  · exact ⟨g, cap, e, hg⟩




end Go.Proofs.Ytpffekaldpllkaa

/- The law TopKrylov. -/
namespace Go.Proofs.Ytpffekaldpllkaa
open Go.ChangeShapes Go.WideShapes Go.ChangeAt Go.RowKit
set_option linter.unusedVariables false

namespace Mx
/-- The factors by which the powers of a matrix go on. -/
def kry (n : Nat) (f : Nat → Nat → Fp.F) : Nat → Fp.F := fun k => -(ch n f (n - 1 - k))
theorem kry_goes {n p : Nat} (hn : n = p + 1) (hp : n < 9973) (f : Nat → Nat → Fp.F) {i j : Nat} (hi : i < n) (hj : j < n) : Goes n (kry n f) fun k => pwm n f k i j := fun t ht => by
  obtain ⟨r, hr⟩ : ∃ r, t = r + n := ⟨t - n, by omega⟩
  have hz : (sg (n + 1) fun q => ch n f q * pwm n f (q + r) i j) = 0 := by
    have h1 : (sg (n + 1) fun q => ch n f q * pwm n f (q + r) i j) = sg (n + 1) fun q => sg n fun y => (ch n f q * pwm n f q i y) * pwm n f r y j := sg_congr fun q hq => by
      rw [← pwm_add n f q r i j hi hj]
      unfold mul
      rw [← sg_times]
      exact sg_congr fun y _ => by grind
    rw [h1, sg_swap, sg_congr (g := fun _ => 0) fun y hy => by
      rw [sg_by]
      have h2 : (sg (n + 1) fun q => ch n f q * pwm n f q i y) = 0 := by
        subst hn; exact cayley p hp f i y hi hy
      rw [h2]; grind, sg_none]
  rw [sg_succ, ch_top] at hz
  show pwm n f t i j = sg n fun k => kry n f k * pwm n f (t - 1 - k) i j
  have h3 : (sg n fun k => kry n f k * pwm n f (t - 1 - k) i j) = -(sg n fun q => ch n f q * pwm n f (q + r) i j) := by
    rw [← sg_back n fun q => ch n f q * pwm n f (q + r) i j]
    have h4 : (sg n fun k => kry n f k * pwm n f (t - 1 - k) i j) = sg n fun k => (-1) * (ch n f (n - 1 - k) * pwm n f (n - 1 - k + r) i j) := sg_congr fun k hk => by
      show -(ch n f (n - 1 - k)) * pwm n f (t - 1 - k) i j = _
      rw [show t - 1 - k = n - 1 - k + r by omega]; grind
    rw [h4, sg_times]; grind
  rw [h3, show t = n + r by omega]
  grind
end Mx
theorem knot (a : Fp.F) : (-(a.val : Int)) % 9973 = ((-a : Fp.F).val : Int) := minus_mod a

set_option maxRecDepth 100000 in
set_option maxHeartbeats 12800000 in
theorem kry_main (A : Option Addr) (m : List (List Int)) (n c i j : Nat) (f : Nat → Nat → Fp.F) (w : World) (ha : LiesM w A m) (sa : Sh n n f m) (hi : i < n) (hj : j < n) :
    Calls Try.prog 5 #[.slice A n c, .int .i64 (i : Int), .int .i64 (j : Int)] w fun e w' => e = .returned (.bool true) ∧ Kp w w' := by
  have HA := Lib.hid ha
  have n0 := sa.r0
  have n5 := sa.r5
  obtain ⟨p, hp⟩ : ∃ p, n = p + 1 := ⟨n - 1, by omega⟩
  have CO := Lib.hid (COf_sh sa c w ha)
  have F5 := Lib.hid (fun (w1 : World) (h1 : Lies w1 (some ⟨w.heap.size, 0, none⟩) [0, 0, 5]) => h1)
  have FE5 := Lib.hid (fun (w1 : World) (B : Option Addr) (h1 : Lies w1 B [0, 0, 5]) => Fewest_ok B 3 3 3 x5 w1 (by rw [sr5]; exact h1) (by decide) few5)
  have PW := Lib.hid (fun k w (h : LiesM w A m) (hk : k ≤ 1000) => Pow_grid A f n c k w (by rw [← sa.eq]; exact h) n0 n5 hk)
  have GO := Lib.hid (Mx.kry_goes hp (by omega) f hi hj)
  obtain ⟨x, hx⟩ : ∃ x : Nat → Fp.F, x = fun k => Mx.pwm n f k i j := ⟨_, rfl⟩
  rw [← hx] at GO
  have HX := Lib.hid (fun k => show ((Mx.pwm n f k i j).val : Int) = ((x k).val : Int) by rw [hx])
  obtain ⟨l, hl, hf⟩ := Mx.few_some 12 x
  have hln := hf.le (GO.out.gn 12)
  have HF := Lib.hid hf
  have IN1 := Lib.hid (fun w => topIn_any (i : Int) 0 (p : Int) w true (by simp; omega))
  have IN2 := Lib.hid (fun w => topIn_any (j : Int) 0 (p : Int) w true (by simp; omega))
  have e1 : (n : Int) - 1 = (p : Int) := by omega
  have hw1 : IntKind.i64.wrap ((n : Int) - 1) = (p : Int) := by rw [e1]; exact IntWalk.i64_in _ (by omega)
  have hnw : IntKind.i64.wrap ((n : Int) + 1) = (n : Int) + 1 := IntWalk.i64_in _ (by omega)
  have hlI : (l : Int) ≤ (n : Int) := by omega
  clear ha sa hp hx hf hl hln e1 F5
  unfold GivesCh at CO
  go_enter Try.func5, Try.ntmps5
  go_wp2_with fail
  refine (CO.out).mono ?_; rintro e w1 ⟨Z, cz, rfl, lz, _, k1⟩
  have LZ := Lib.hid lz
  have K1 := Lib.hid k1
  clear lz k1 CO
  go_wp2_with fail
  refine (FE5.out _ _ (lies_new w1 _ [0, 0, 5])).mono ?_; rintro e w2 ⟨rfl, k2⟩
  have LZ2 := Lib.hid (LZ.out.keep (((Kp.rfl' w1).new _).trans k2))
  have K2 := Lib.hid (K1.out.trans (((Kp.rfl' w1).new _).trans k2))
  clear k2 LZ K1 FE5
  go_wp2_with fail
  refine (IN1.out _).mono ?_; rintro e w' ⟨rfl, rfl⟩
  go_wp2_with fail
  refine (IN2.out _).mono ?_; rintro e w' ⟨rfl, rfl⟩
  have ALL := Lib.hid (show Calls Try.prog 15 #[.slice Z (n + 1) cz, .int .i64 0, .int .i64 9972] w2 fun e w' => e = .returned (.bool true) ∧ w2 = w' by
    have h := all_any Z (Pol.vals (Mx.chl n f)) cz 0 9972 w2 LZ2.out (by rw [Pol.len_vals, Mx.len_chl]; omega)
    rw [Pol.len_vals, Mx.len_chl] at h
    exact h.mono fun e w' hh => ⟨tells_yes hh.1 (vals_allIn _), hh.2⟩)
  have z1 : (((n : Int) + 1) != ((n : Int) + 1)) = false := by simp
  have z2 : ((n : Int) != (n : Int)) = false := by simp
  clear IN1 IN2
  go_wp2_with fail
  refine (ALL.out).mono ?_; rintro e w' ⟨rfl, rfl⟩
  clear ALL
  go_wp2_with fail
  go_loopw [6, 12, 14, 15, 16] (fun _ v u _ _ wr => ∃ k : Nat, k ≤ 12 ∧ u = .int .i64 (k : Int) ∧ Own wr w2.heap.size v (rowF k x) ∧ Kp w2 wr) (fun _ _ u _ _ _ => 12 - (intOf u).toNat)
  case atStart => exact ⟨0, by omega, rfl, Own.none _ _, Kp.rfl' _⟩
  case round =>
    obtain ⟨k, hk, rfl, ho, hkp⟩ := hrel
    have HO := Lib.hid ho
    have HK := Lib.hid hkp
    have hsz := hkp.size
    clear ho
    by_cases hlt : k < 12
    · have PK := Lib.hid (PW.out k wr (HA.out.keep (K2.out.trans hkp)) (by omega))
      have hlt' : (k : Int) < 12 := by omega
      have hlen : (rowF k x).length + 1 ≤ 17000000000000 := by rw [Mx.len_row]; omega
      have HS := Lib.hid (show rowF (k + 1) x = rowF k x ++ [((x k).val : Int)] from Mx.row_snoc _ _)
      have HXK := HX.out k
      obtain ⟨y, hy⟩ : ∃ y, y = ((x k).val : Int) := ⟨_, rfl⟩
      rw [← hy] at HS HXK
      clear hkp hy
      go_wp2_with fail
      refine (PK.out).mono ?_; rintro e w3 ⟨g3, G3, rfl, hg3, _, k3⟩
      have y1 := hg3.cell hi
      have y2 := hg3.el hi hj
      rw [HXK] at y2
      have HO3 := Lib.hid (HO.out.kp k3)
      have HK3 := Lib.hid (HK.out.trans k3)
      have hsz3 := HK3.out.size
      clear hg3 k3 PK HXK
      go_wp2_with (at_builtin; refine wpList_push rfl _ _ rfl w2.heap.size _ (rowF k x) y w3.heap.size 1 rfl rfl (HO3.out.new _) (by simp) hlen (by simp; omega) ?_; intro v' w' h1 h2 _; have HO' := Lib.hid (show Own w' w2.heap.size v' (rowF (k + 1) x) by rw [HS.out]; exact h1); have HK' := Lib.hid (show Kp w2 w' from own_below (HO3.out.new _) (HK3.out.new _) (Nat.le_trans hsz3 (by simp)) h2); clear h1 h2)
      go_roundw
      case rel => exact ⟨k + 1, by omega, by go_num, HO'.out, HK'.out⟩
      case measure => simp [intOf]; omega
    · have hk12 : k = 12 := by omega
      have hlt' : ¬ (k : Int) < 12 := by omega
      rw [hk12] at HO
      clear hk12 hlt hk
      have LZ3 := Lib.hid (LZ2.out.keep hkp)
      have K3 := Lib.hid (K2.out.trans hkp)
      clear hkp hsz
      obtain ⟨w4, hw4⟩ : ∃ y, y = wr := ⟨_, rfl⟩
      subst hw4
      go_wp2_with fail
      go_loopw [13, 17] (fun v u wr => ∃ t : Nat, 1 ≤ t ∧ t ≤ n + 1 ∧ u = .int .i64 (t : Int) ∧ Own wr w4.heap.size v (rowF (t - 1) (Mx.kry n f)) ∧ Kp w4 wr) (fun _ u _ => n + 1 - (intOf u).toNat)
      case atStart => exact ⟨1, by omega, by omega, rfl, Own.none _ _, Kp.rfl' _⟩
      case round =>
        obtain ⟨t, ht1, ht, rfl, ho2, hkp⟩ := hrel
        obtain ⟨k, hkt⟩ : ∃ k, k = t - 1 := ⟨_, rfl⟩
        rw [← hkt] at ho2
        have HO2 := Lib.hid ho2
        have HK4 := Lib.hid hkp
        have HKT := Lib.hid hkt
        have hsz := hkp.size
        clear ho2
        by_cases hlt : t ≤ n
        · have hle : (t : Int) ≤ (n : Int) := by omega
          obtain ⟨a, haa⟩ : ∃ a, a = n - 1 - k := ⟨_, rfl⟩
          have e3 : (n : Int) - (t : Int) = (a : Int) := by omega
          have hwa : IntKind.i64.wrap ((n : Int) - (t : Int)) = (a : Int) := by rw [e3]; exact IntWalk.i64_in _ (by omega)
          obtain ⟨zd, rfl, _, x1⟩ := chl_el (LZ3.out.keep hkp) (k := a) (by omega)
          have b1 := cval (Mx.ch n f a)
          have MD := Lib.hid (fun w => rMod_any (-((Mx.ch n f a).val : Int)) w (by omega) (by omega))
          have HS := Lib.hid (show rowF (k + 1) (Mx.kry n f) = rowF k (Mx.kry n f) ++ [((-(Mx.ch n f a) : Fp.F).val : Int)] by rw [haa]; exact Mx.row_snoc _ _)
          have hlen : (rowF k (Mx.kry n f)).length + 1 ≤ 17000000000000 := by rw [Mx.len_row]; omega
          rw [knot] at MD
          have han : a < n + 1 := by omega
          generalize ((-(Mx.ch n f a) : Fp.F).val : Int) = v1 at *
          generalize ((Mx.ch n f a).val : Int) = v2 at *
          have hwc : IntKind.i64.wrap (-v2) = -v2 := IntWalk.i64_in _ (by omega)
          have HTK := Lib.hid (show t + 1 - 1 = k + 1 by omega)
          clear hkp haa hkt e3
          obtain ⟨w5, hw5⟩ : ∃ y, y = wr := ⟨_, rfl⟩
          subst hw5
          go_wp2_with fail
          refine (MD.out _).mono ?_; rintro e w' ⟨rfl, rfl⟩
          go_wp2_with (at_builtin; refine wpList_push rfl _ _ rfl w4.heap.size _ (rowF k (Mx.kry n f)) v1 w5.heap.size 1 rfl rfl (HO2.out.new _) (by simp) hlen (by simp; omega) ?_; intro v' w' h1 h2 _; have HO' := Lib.hid (show Own w' w4.heap.size v' (rowF (k + 1) (Mx.kry n f)) by rw [HS.out]; exact h1); have HK' := Lib.hid (show Kp w4 w' from own_below (HO2.out.new _) (HK4.out.new _) (Nat.le_trans hsz (by simp)) h2); clear h1 h2)
          go_roundw
          case rel => exact ⟨t + 1, by omega, by omega, by go_num, by rw [HTK.out]; exact HO'.out, HK'.out⟩
          case measure => simp [intOf]; omega
        · obtain rfl : k = n := by omega
          have hle : ¬ (t : Int) ≤ (k : Int) := by omega
          clear hkt
          obtain ⟨R, cr, rfl, lr, _⟩ := (HO.out.kp hkp).cap
          obtain ⟨S, cs, rfl, ls, _⟩ := HO2.out.cap
          have G2 := Lib.hid (SGoes_ok R S 12 k cr cs x (Mx.kry k f) wr lr ls (by decide) (by omega) true ⟨fun _ => GO.out.gn 12, fun _ => rfl⟩)
          have FE := Lib.hid (Fewest_ok R 12 cr l x wr lr (by decide) HF.out)
          have K5 := Lib.hid (K3.out.trans hkp)
          rw [Mx.len_row, Mx.len_row]
          clear hkp lr ls HO HO2
          go_wp2_with fail
          refine (G2.out).mono ?_; rintro e w' ⟨rfl, rfl⟩
          go_wp2_with fail
          refine (FE.out).mono ?_; rintro e w6 ⟨rfl, k6⟩
          have K6 := Lib.hid (K5.out.trans k6)
          clear k6 FE G2
          go_wp2_with fail
          go_ret
          exact ⟨rfl, K6.out⟩

set_option maxRecDepth 100000 in
set_option maxHeartbeats 3200000 in
theorem walk_TopKrylov (A : Option Addr) (m : List (List Int)) (c : Nat) (i j : Int) (w : World) (ha : LiesM w A m) :
    Calls Try.prog 5 #[.slice A m.length c, .int .i64 i, .int .i64 j] w fun e w' => e = .returned (.bool true) ∧ Kp w w' := by
  have FE5 := Lib.hid (fun (w1 : World) (B : Option Addr) (h1 : Lies w1 B [0, 0, 5]) => Fewest_ok B 3 3 3 x5 w1 (by rw [sr5]; exact h1) (by decide) few5)
  rcases COf_or A m m.length c rfl with ⟨f, sa⟩ | bad
  · obtain ⟨n, hn⟩ : ∃ n, n = m.length := ⟨_, rfl⟩
    rw [← hn] at sa ⊢
    have n0 := sa.r0
    have n5 := sa.r5
    by_cases hin : (0 ≤ i ∧ i < n) ∧ (0 ≤ j ∧ j < n)
    · obtain ⟨i', rfl⟩ := Int.eq_ofNat_of_zero_le hin.1.1
      obtain ⟨j', rfl⟩ := Int.eq_ofNat_of_zero_le hin.2.1
      exact kry_main A m n c i' j' f w ha sa (by omega) (by omega)
    · have CO := Lib.hid (COf_sh sa c w ha)
      have hw1 : IntKind.i64.wrap ((n : Int) - 1) = (n : Int) - 1 := IntWalk.i64_in _ (by omega)
      unfold GivesCh at CO
      by_cases h1 : 0 ≤ i ∧ i < n
      · have IN1 := Lib.hid (fun w => topIn_any i 0 ((n : Int) - 1) w true (by simp; omega))
        have IN2 := Lib.hid (fun w => topIn_any j 0 ((n : Int) - 1) w false (by simp; omega))
        clear ha sa hin h1 hn
        go_enter Try.func5, Try.ntmps5
        go_wp2_with fail
        refine (CO.out).mono ?_; rintro e w1 ⟨Z, cz, rfl, lz, _, k1⟩
        have K1 := Lib.hid k1
        clear lz k1 CO
        go_wp2_with fail
        refine (FE5.out _ _ (lies_new w1 _ [0, 0, 5])).mono ?_; rintro e w2 ⟨rfl, k2⟩
        have K2 := Lib.hid (K1.out.trans (((Kp.rfl' w1).new _).trans k2))
        clear k2 K1 FE5
        go_wp2_with fail
        refine (IN1.out _).mono ?_; rintro e w' ⟨rfl, rfl⟩
        go_wp2_with fail
        refine (IN2.out _).mono ?_; rintro e w' ⟨rfl, rfl⟩
        go_wp2_with fail
        go_ret
        exact ⟨rfl, K2.out⟩
      · have IN1 := Lib.hid (fun w => topIn_any i 0 ((n : Int) - 1) w false (by simp; omega))
        clear ha sa hin h1 hn
        go_enter Try.func5, Try.ntmps5
        go_wp2_with fail
        refine (CO.out).mono ?_; rintro e w1 ⟨Z, cz, rfl, lz, _, k1⟩
        have K1 := Lib.hid k1
        clear lz k1 CO
        go_wp2_with fail
        refine (FE5.out _ _ (lies_new w1 _ [0, 0, 5])).mono ?_; rintro e w2 ⟨rfl, k2⟩
        have K2 := Lib.hid (K1.out.trans (((Kp.rfl' w1).new _).trans k2))
        clear k2 K1 FE5
        go_wp2_with fail
        refine (IN1.out _).mono ?_; rintro e w' ⟨rfl, rfl⟩
        go_wp2_with fail
        go_ret
        exact ⟨rfl, K2.out⟩
  · have CB := Lib.hid (bad w ha)
    generalize m.length = n at *
    clear ha bad
    go_enter Try.func5, Try.ntmps5
    go_wp2_with fail
    refine (CB.out).mono ?_; rintro e w1 ⟨z, rfl, k1⟩
    have K1 := Lib.hid k1
    clear k1 CB
    go_wp2_with fail
    refine (FE5.out _ _ (lies_new w1 _ [0, 0, 5])).mono ?_; rintro e w2 ⟨rfl, k2⟩
    have K2 := Lib.hid (K1.out.trans (((Kp.rfl' w1).new _).trans k2))
    clear k2 K1 FE5
    go_wp2_with fail
    go_ret
    exact ⟨rfl, K2.out⟩

end Go.Proofs.Ytpffekaldpllkaa
