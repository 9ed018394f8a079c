/- Contracts of package det, second part: the sum over all orders, Check, Of. -/
import Derived.Test.YtolkdbijenbchaaDeC1
import Derived.Test.YtolkdbijenbchaaSqr
import Derived.Test.YtolkdbijenbchaaMtC1
import Derived.Test.YtolkdbijenbchaaGaC1
import Derived.Deep.RegionHeld3
namespace Go.Proofs.Ytolkdbijenbchaa
open Go.ChangeShapes Go.WideShapes Go.ChangeAt Go.RowKit
set_option linter.unusedVariables false

/-- The order of the numbers, the sum and the matrix, each in a block of its own. -/
structure Vis (w0 w : World) (gm gs g n d : Nat) (A : Option Addr) (s : Nat → Nat) (z : Int) : Prop where
  mb : w.cell? ⟨gm, 0, none⟩ = some (.slice A n d)
  sb : w.cell? ⟨gs, 0, none⟩ = some (.int .i64 z)
  sf : w.frozen? ⟨gs, 0, none⟩ = false
  row : Row w g (Mx.row n fun i => (s i : Int))
  kp : Kp w0 w
  ms : gm ≠ gs
  mg : gm ≠ g
  sg : gs ≠ g
  bs : w0.heap.size ≤ gs
  bg : w0.heap.size ≤ g
theorem cell_far {w : World} {a b : Addr} {v : Value} (x : Value) (hc : w.cell? b = some v) (hne : a ≠ b) : (w.setCell a x).cell? b = some v := by
  rw [World.cell?_setCell_other (w := w) (v := x) (h := hne)]; exact hc
theorem Vis.keep {w0 w w' : World} {gm gs g n d : Nat} {A : Option Addr} {s : Nat → Nat} {z : Int} (h : Vis w0 w gm gs g n d A s z) (hk : Kp w w') : Vis w0 w' gm gs g n d A s z :=
  ⟨(hk.cell (p := ⟨gm, 0, none⟩) (cell_lt h.mb)).trans h.mb, (hk.cell (p := ⟨gs, 0, none⟩) (cell_lt h.sb)).trans h.sb, (hk.frozen (p := ⟨gs, 0, none⟩) (cell_lt h.sb)).trans h.sf, h.row.keep hk, h.kp.trans hk, h.ms, h.mg, h.sg, h.bs, h.bg⟩
theorem Vis.drewN {w0 w : World} {gm gs g n d : Nat} {A : Option Addr} {s : Nat → Nat} {z : Int} (h : Vis w0 w gm gs g n d A s z) (k : Nat) : Vis w0 (w.drewN k) gm gs g n d A s z := h.keep ((Kp.rfl' w).drewN k)
theorem Vis.ext {w0 w : World} {gm gs g n d : Nat} {A : Option Addr} {s t : Nat → Nat} {z : Int} (h : Vis w0 w gm gs g n d A s z) (e : ∀ i, i < n → s i = t i) : Vis w0 w gm gs g n d A t z :=
  ⟨h.mb, h.sb, h.sf, by rw [Mx.row_ext (h := fun i => (s i : Int)) fun i hi => by rw [e i hi]]; exact h.row, h.kp, h.ms, h.mg, h.sg, h.bs, h.bg⟩
theorem Vis.add {w0 w : World} {gm gs g n d : Nat} {A : Option Addr} {s : Nat → Nat} {z : Int} (h : Vis w0 w gm gs g n d A s z) (y : Int) : Vis w0 (w.setCell ⟨gs, 0, none⟩ (.int .i64 y)) gm gs g n d A s y :=
  ⟨cell_far _ h.mb (fun e => h.ms (by cases e; rfl)), World.cell?_setCell_same _ _ _ h.sb, by simp [h.sf], h.row.far (fun e => h.sg e.symm) _, h.kp.put (p := ⟨gs, 0, none⟩) h.bs _, h.ms, h.mg, h.sg, h.bs, h.bg⟩
theorem Vis.swap {w0 w : World} {gm gs g n d : Nat} {A : Option Addr} {s : Nat → Nat} {z : Int} (h : Vis w0 w gm gs g n d A s z) {a b : Nat} (ha : a < n) (hb : b < n) :
    Vis w0 ((w.setCell ⟨g, a, none⟩ (.int .i64 (s b : Int))).setCell ⟨g, b, none⟩ (.int .i64 (s a : Int))) gm gs g n d A (fun i => s (Mx.sw a b i)) z := by
  have other : ∀ (w : World) (k b x : Nat) (v : Value), g ≠ b → w.cell? ⟨b, 0, none⟩ = some v → (w.setCell ⟨g, k, none⟩ (.int .i64 (x : Int))).cell? ⟨b, 0, none⟩ = some v := fun w k b x v hne hc => by
    have hne' : (⟨g, k, none⟩ : Addr) ≠ ⟨b, 0, none⟩ := fun e => hne (by cases e; rfl)
    exact cell_far _ hc hne'
  refine ⟨other _ _ _ _ _ (fun e => h.mg e.symm) (other _ _ _ _ _ (fun e => h.mg e.symm) h.mb), other _ _ _ _ _ (fun e => h.sg e.symm) (other _ _ _ _ _ (fun e => h.sg e.symm) h.sb), by simp [h.sf], ?_,
    (h.kp.put (p := ⟨g, a, none⟩) h.bg _).put (p := ⟨g, b, none⟩) h.bg _, h.ms, h.mg, h.sg, h.bs, h.bg⟩
  have := (h.row.put a (s b : Int)).put b (s a : Int)
  rw [Mx.row_set, Mx.row_set] at this
  rw [show (Mx.row n fun i => ((s (Mx.sw a b i) : Nat) : Int)) = Mx.row n fun j => if j = b then (s a : Int) else if j = a then (s b : Int) else (s j : Int) from Mx.row_ext fun j _ => by
    by_cases h1 : j = b
    · rw [if_pos h1, h1, Mx.sw_right]
    · rw [if_neg h1]
      by_cases h2 : j = a
      · rw [if_pos h2, h2, Mx.sw_left]
      · rw [if_neg h2, Mx.sw_none h2 h1]]
  exact this
/-- What a visit leaves: the order as it was, so much more in the sum. -/
def VisEnd (w0 : World) (gm gs g n d : Nat) (A : Option Addr) (s : Nat → Nat) (z : Int) (x : Fp.F) (b : Nat) (e : Ending) (w' : World) : Prop :=
  e = .returned (.tuple #[]) ∧ ∃ z', Vis w0 w' gm gs g n d A s z' ∧ Fp.ofInt z' = Fp.ofInt z + x ∧ -(b : Int) ≤ z' ∧ z' ≤ (b : Int)

set_option maxRecDepth 100000 in
set_option maxHeartbeats 3200000 in
theorem visit_any (w0 : World) (gm gs g n d b : Nat) (A : Option Addr) (f : Nat → Nat → Fp.F) (s : Nat → Nat) (z : Int) (w : World) (ha : LiesM w0 A (Mx.matl n n f)) (hn : n ≤ 5) (hs : ∀ i, i < n → s i < n)
    (h : Vis w0 w gm gs g n d A s z) (h1 : -(b : Int) ≤ z) (h2 : z ≤ (b : Int)) (hb : b ≤ 1000000000000) :
    Calls Try.prog 20 #[.slice (some ⟨g, 0, none⟩) n n, .pointer (some ⟨gm, 0, none⟩), .pointer (some ⟨gs, 0, none⟩)] w fun e w' =>
      VisEnd w0 gm gs g n d A s z (Mx.part' n n f s) (b + 9972) e w' := by
  have SG := Lib.hid (Sign_any (some ⟨g, 0, none⟩) (Mx.row n fun i => (s i : Int)) n n w h.row.lies (Mx.len_row _ _) (by omega))
  rw [Mx.sp_congr (t := fun i => (s i : Int)) fun i hi => Mx.row_at n (fun i => (s i : Int)) i hi] at SG
  have HA := Lib.hid ha
  have HV := Lib.hid h
  have HS := Lib.hid hs
  have HP := Lib.hid (Mx.part_end n f s)
  obtain ⟨S, hS⟩ : ∃ S, S = Mx.sp n fun i => (s i : Int) := ⟨_, rfl⟩
  rw [← hS] at SG HP
  clear ha h hs hS
  go_enter Try.func20, Try.ntmps20
  go_wp2_with fail
  refine (SG.out).mono ?_; rintro e w1 ⟨x, rfl, hx, hk⟩
  have HX := Lib.hid hx
  have HV1 := Lib.hid (HV.out.keep hk)
  clear hx hk HV SG
  go_wp2_with fail
  go_loopw [4, 11] (fun p i wr => ∃ (k : Nat) (q : Int), k ≤ n ∧ i = .int .i64 (k : Int) ∧ p = .int .i64 q ∧ -9972 ≤ q ∧ q ≤ 9972 ∧ Fp.ofInt q = S * Mx.pr k (fun i => f i (s i)) ∧ w1 = wr) (fun _ i _ => n - (intOf i).toNat)
  case atStart =>
    have := HX.out.bound
    exact ⟨0, x, Nat.zero_le _, rfl, rfl, by omega, by omega, by rw [HX.out.2]; show S = S * 1; grind, rfl⟩
  case round =>
    obtain ⟨k, q, hk, rfl, rfl, hq1, hq2, hq, rfl⟩ := hrel
    have HQ := Lib.hid hq
    clear hq
    by_cases hlt : k < n
    · have y1 := HV1.out.row.cell k (by rw [Mx.len_row]; exact hlt)
      rw [Mx.row_at _ _ _ hlt] at y1
      have y2 := HV1.out.mb
      obtain ⟨ad, A0, d0, rfl, hl0, x1, _, l1⟩ := (HA.out.keep HV1.out.kp).row hlt
      obtain ⟨j, hj⟩ : ∃ j, j = s k := ⟨_, rfl⟩
      have hjn : j < n := by rw [hj]; exact HS.out k hlt
      rw [← hj] at y1
      obtain ⟨ad1, rfl, hl1, x2⟩ := l1.el hjn
      obtain ⟨v, hv⟩ : ∃ v, v = f k j := ⟨_, rfl⟩
      rw [← hv] at x2
      have hvb := gval v
      have HT := Lib.hid (show Fp.ofInt ((q * (v.val : Int)).tmod 9973) = S * Mx.pr (k + 1) (fun i => f i (s i)) by
        rw [Mx.tmod_F, Fp.ofInt_mul, Fp.ofInt_self, HQ.out]
        show _ = S * (Mx.pr k (fun i => f i (s i)) * f k (s k))
        rw [← hj, ← hv]; grind)
      have hmb : -99440784 ≤ q * (v.val : Int) ∧ q * (v.val : Int) ≤ 99440784 := by
        have a1 : q * (v.val : Int) ≤ 9972 * 9972 := by
          rcases Int.lt_or_le q 0 with hq0 | hq0
          · have := Int.mul_le_mul_of_nonneg_right (show q ≤ 0 by omega) hvb.1; omega
          · have := Int.mul_le_mul hq2 hvb.2 hvb.1 (by omega); omega
        have a2 : -q * (v.val : Int) ≤ 9972 * 9972 := by
          rcases Int.lt_or_le (-q) 0 with hq0 | hq0
          · have := Int.mul_le_mul_of_nonneg_right (show -q ≤ 0 by omega) hvb.1; omega
          · have := Int.mul_le_mul (show -q ≤ 9972 by omega) hvb.2 hvb.1 (by omega); omega
        rw [Int.neg_mul] at a2
        omega
      have HTB := Lib.hid (Mx.tmod_bound (q * (v.val : Int)))
      generalize (v.val : Int) = u at *
      have hwm : IntKind.i64.wrap (q * u) = q * u := IntWalk.i64_in _ (by omega)
      clear hj hv hmb
      go_wp2_with fail
      go_roundw
      case rel => exact ⟨k + 1, _, by omega, by go_num, rfl, HTB.out.1, HTB.out.2, HT.out, by first | rfl | trivial⟩
      case measure => simp [intOf]; omega
    · obtain rfl : k = n := by omega
      have y1 := HV1.out.sb
      have y2 := HV1.out.sf
      have hwa : IntKind.i64.wrap (z + q) = z + q := IntWalk.i64_in _ (by omega)
      have HV2 := Lib.hid (HV1.out.add (z + q))
      have HB := Lib.hid (show -((b + 9972 : Nat) : Int) ≤ z + q ∧ z + q ≤ ((b + 9972 : Nat) : Int) by omega)
      go_wp2_with fail
      go_end0
      exact ⟨rfl, z + q, HV2.out, by rw [Fp.ofInt_add, HQ.out, HP.out], HB.out.1, HB.out.2⟩

set_option maxRecDepth 100000 in
theorem orders_base (w0 : World) (gm gs g n d b : Nat) (A : Option Addr) (f : Nat → Nat → Fp.F) (s : Nat → Nat) (z : Int) (w : World) (ha : LiesM w0 A (Mx.matl n n f)) (hn : n ≤ 5) (hs : ∀ i, i < n → s i < n)
    (h : Vis w0 w gm gs g n d A s z) (h1 : -(b : Int) ≤ z) (h2 : z ≤ (b : Int)) (hb : b ≤ 1000000000000) :
    Calls Try.prog 18 #[.slice (some ⟨g, 0, none⟩) n n, .int .i64 (n : Int), .func (.func 20) #[] #[.pointer (some ⟨gm, 0, none⟩), .pointer (some ⟨gs, 0, none⟩)]] w fun e w' =>
      VisEnd w0 gm gs g n d A s z (Mx.part' n n f s) (b + 9972) e w' := by
  have C := Lib.hid (visit_any w0 gm gs g n d b A f s z w ha hn hs h h1 h2 hb)
  have e0 : ((n : Int) == (n : Int)) = true := by simp
  clear ha hs h h1 h2 hb
  go_enter Try.func18, Try.ntmps18
  go_wp2_with fail
  refine (C.out).mono ?_; rintro e w1 ⟨rfl, hv⟩
  have HV := Lib.hid hv
  clear hv
  go_wp2_with fail
  go_end0
  exact ⟨rfl, HV.out⟩

set_option maxRecDepth 100000 in
set_option maxHeartbeats 6400000 in
theorem orders_step (w0 : World) (gm gs g n d : Nat) (A : Option Addr) (f : Nat → Nat → Fp.F) (m k : Nat) (hkm : k + (m + 1) = n) (hn : n ≤ 5)
    (ih : ∀ (s : Nat → Nat) (z : Int) (b : Nat) (w : World), (∀ i, i < n → s i < n) → Vis w0 w gm gs g n d A s z → -(b : Int) ≤ z → z ≤ (b : Int) → b + 9972 * Mx.lv m ≤ 1000000000000 →
      Calls Try.prog 18 #[.slice (some ⟨g, 0, none⟩) n n, .int .i64 ((k + 1 : Nat) : Int), .func (.func 20) #[] #[.pointer (some ⟨gm, 0, none⟩), .pointer (some ⟨gs, 0, none⟩)]] w fun e w' =>
        VisEnd w0 gm gs g n d A s z (Mx.part' n (k + 1) f s) (b + 9972 * Mx.lv m) e w')
    (s : Nat → Nat) (z : Int) (b : Nat) (w : World) (hs : ∀ i, i < n → s i < n) (h : Vis w0 w gm gs g n d A s z) (h1 : -(b : Int) ≤ z) (h2 : z ≤ (b : Int)) (hb : b + 9972 * Mx.lv (m + 1) ≤ 1000000000000) :
    Calls Try.prog 18 #[.slice (some ⟨g, 0, none⟩) n n, .int .i64 (k : Int), .func (.func 20) #[] #[.pointer (some ⟨gm, 0, none⟩), .pointer (some ⟨gs, 0, none⟩)]] w fun e w' =>
      VisEnd w0 gm gs g n d A s z (Mx.part' n k f s) (b + 9972 * Mx.lv (m + 1)) e w' := by
  have IH := Lib.hid ih
  have HV := Lib.hid h
  have HS := Lib.hid hs
  have HP := Lib.hid (Mx.part_next (n := n) (k := k) f s (by omega))
  have HB := Lib.hid (show Mx.lv (m + 1) = 5 * Mx.lv m from rfl)
  have HZ := Lib.hid (And.intro h1 h2)
  have HM := Lib.hid (And.intro hkm hb)
  have hkn : k < n := by omega
  have e0 : ((k : Int) == (n : Int)) = false := by rw [beq_eq_false_iff_ne]; omega
  clear ih h hs h1 h2 hb hkm
  go_enter Try.func18, Try.ntmps18
  go_wp2_with fail
  go_loopw [6] (fun i wr => ∃ (j t : Nat) (y : Int), j = k + t ∧ j ≤ n ∧ i = .int .i64 (j : Int) ∧ Vis w0 wr gm gs g n d A s y ∧ Fp.ofInt y = Fp.ofInt z + Mx.sg t (fun t => Mx.part' n (k + 1) f fun i => s (Mx.sw k (k + t) i)) ∧ -((b + 9972 * (t * Mx.lv m) : Nat) : Int) ≤ y ∧ y ≤ ((b + 9972 * (t * Mx.lv m) : Nat) : Int)) (fun i _ => n - (intOf i).toNat)
  case atStart => exact ⟨k, 0, z, rfl, by omega, rfl, HV.out, by rw [Mx.sg_zero]; grind, by simpa using HZ.out.1, by simpa using HZ.out.2⟩
  case round =>
    clear HV
    obtain ⟨j, t, y, hjt, hjn, rfl, hv, hy, hy1, hy2⟩ := hrel
    have HJ := Lib.hid hjt
    have HV := Lib.hid hv
    have HY := Lib.hid hy
    have HYB := Lib.hid (And.intro hy1 hy2)
    clear hjt hv hy hy1 hy2
    by_cases hlt : j < n
    · have y1 := HV.out.row.cell k (by rw [Mx.len_row]; exact hkn)
      have y2 := HV.out.row.cell j (by rw [Mx.len_row]; exact hlt)
      have y3 := HV.out.row.free k
      have y4 := HV.out.row.free j
      rw [Mx.row_at _ _ _ hkn] at y1
      rw [Mx.row_at _ _ _ hlt] at y2
      have SW := HV.out.swap hkn hlt
      have y5 := (HV.out.row.put k (s j : Int)).free j
      have y6 : ∃ v, (wr.setCell ⟨g, k, none⟩ (.int .i64 (s j : Int))).cell? ⟨g, j, none⟩ = some v := ⟨_, (HV.out.row.put k (s j : Int)).cell j (by rw [List.length_set, Mx.len_row]; exact hlt)⟩
      obtain ⟨v6, y6⟩ := y6
      obtain ⟨sk, hsk⟩ : ∃ x : Int, x = (s k : Int) := ⟨_, rfl⟩
      obtain ⟨sj, hsj⟩ : ∃ x : Int, x = (s j : Int) := ⟨_, rfl⟩
      rw [← hsk] at y1 SW
      rw [← hsj] at y2 y5 y6 SW
      have hs' : ∀ i, i < n → (fun i => s (Mx.sw k j i)) i < n := fun i hi => HS.out _ (Mx.sw_lt hkn hlt hi)
      have hm : 9972 * (t * Mx.lv m) + 9972 * Mx.lv m = 9972 * ((t + 1) * Mx.lv m) := by rw [show (t + 1) * Mx.lv m = t * Mx.lv m + Mx.lv m from Nat.succ_mul _ _]; omega
      have hle : b + 9972 * ((t + 1) * Mx.lv m) ≤ 1000000000000 := by
        have a1 : (t + 1) * Mx.lv m ≤ 5 * Mx.lv m := Nat.mul_le_mul_right _ (by have := HJ.out; omega)
        have := HM.out.2
        rw [HB.out] at this
        omega
      have CALL := Lib.hid (fun w1 (hv : Vis w0 w1 gm gs g n d A (fun i => s (Mx.sw k j i)) y) => IH.out (fun i => s (Mx.sw k j i)) y (b + 9972 * (t * Mx.lv m)) w1 hs' hv HYB.out.1 HYB.out.2 (by omega))
      rw [show b + 9972 * (t * Mx.lv m) + 9972 * Mx.lv m = b + 9972 * ((t + 1) * Mx.lv m) by omega] at CALL
      have SWH := Lib.hid SW
      have hwk : IntKind.i64.wrap ((k : Int) + 1) = ((k + 1 : Nat) : Int) := by rw [IntWalk.i64_in _ (by omega)]; omega
      have HSK := Lib.hid (And.intro hsk hsj)
      clear SW hs' hm hle hsk hsj
      go_wp2_with fail
      go_region_law (fail)
      all_goals
        go_wp2_with fail
        refine (CALL.out _ (SWH.out.drewN 1)).mono ?_; rintro e w2 ⟨rfl, y', hv2, hy', hb1, hb2⟩
        have HV2 := Lib.hid hv2
        have HY2 := Lib.hid hy'
        have HB2 := Lib.hid (And.intro hb1 hb2)
        have x1 := hv2.row.cell k (by rw [Mx.len_row]; exact hkn)
        have x2 := hv2.row.cell j (by rw [Mx.len_row]; exact hlt)
        have x3 := hv2.row.free k
        have x4 := hv2.row.free j
        rw [Mx.row_at _ _ _ hkn, Mx.sw_left, ← HSK.out.2] at x1
        rw [Mx.row_at _ _ _ hlt, Mx.sw_right, ← HSK.out.1] at x2
        have x5 := (hv2.row.put k sk).free j
        have x6 : ∃ v, (w2.setCell ⟨g, k, none⟩ (.int .i64 sk)).cell? ⟨g, j, none⟩ = some v := ⟨_, (hv2.row.put k sk).cell j (by rw [List.length_set, Mx.len_row]; exact hlt)⟩
        obtain ⟨v7, x6⟩ := x6
        have SW2 := (hv2.swap hkn hlt).ext (t := s) fun i _ => by rw [Mx.sw_sw]
        simp only [Mx.sw_left, Mx.sw_right] at SW2
        rw [← HSK.out.1, ← HSK.out.2] at SW2
        have SWH2 := Lib.hid SW2
        clear SW2 hv2 hy' hb1 hb2 y1 y2 y3 y4 y5 y6
        go_wp2_with fail
        go_region_law (fail)
        all_goals
          go_wp2_with fail
          go_roundw
          case rel => exact ⟨j + 1, t + 1, y', by rw [HJ.out]; omega, by omega, by go_num, SWH2.out.drewN 1, by rw [HY2.out, HY.out, Mx.sg_succ, HJ.out]; grind, HB2.out.1, HB2.out.2⟩
          case measure => simp [intOf]; omega
    · have HE := Lib.hid (show t = m + 1 ∧ j = n by have := HJ.out; have := HM.out.1; omega)
      have HL := Lib.hid (show t * Mx.lv m ≤ Mx.lv (m + 1) by
        rw [HE.out.1, HB.out]; exact Nat.mul_le_mul_right _ (by have := HM.out.1; omega))
      go_wp2_with fail
      go_end0
      refine ⟨rfl, y, HV.out, ?_, ?_, ?_⟩
      · rw [HY.out, ← HP.out, show n - k = t by have := HJ.out; have := HE.out; omega]
      · have := HYB.out.1; have := HL.out; omega
      · have := HYB.out.2; have := HL.out; omega
theorem orders_any (w0 : World) (gm gs g n d : Nat) (A : Option Addr) (f : Nat → Nat → Fp.F) (ha : LiesM w0 A (Mx.matl n n f)) (hn : n ≤ 5) :
    ∀ (m k : Nat), k + m = n → ∀ (s : Nat → Nat) (z : Int) (b : Nat) (w : World), (∀ i, i < n → s i < n) → Vis w0 w gm gs g n d A s z → -(b : Int) ≤ z → z ≤ (b : Int) → b + 9972 * Mx.lv m ≤ 1000000000000 →
      Calls Try.prog 18 #[.slice (some ⟨g, 0, none⟩) n n, .int .i64 (k : Int), .func (.func 20) #[] #[.pointer (some ⟨gm, 0, none⟩), .pointer (some ⟨gs, 0, none⟩)]] w fun e w' =>
        VisEnd w0 gm gs g n d A s z (Mx.part' n k f s) (b + 9972 * Mx.lv m) e w'
  | 0, k, hkm => fun s z b w hs h h1 h2 hb => by
    obtain rfl : k = n := by omega
    exact orders_base w0 gm gs g k d b A f s z w ha hn hs h h1 h2 (by omega)
  | m + 1, k, hkm => fun s z b w hs h h1 h2 hb => orders_step w0 gm gs g n d A f m k hkm hn (orders_any w0 gm gs g n d A f ha hn m (k + 1) (by omega)) s z b w hs h h1 h2 hb

end Go.Proofs.Ytolkdbijenbchaa
