/- Contract of package vander's Det. -/
import Derived.Test.YtldkamhknaflbaaVdC1
import Derived.RangeFuncNested
namespace Go.Proofs.Ytldkamhknaflbaa
open Go.ChangeShapes Go.WideShapes Go.ChangeAt Go.RowKit Go.Shelf
set_option linter.unusedVariables false
attribute [local go_sem] Oper.semAt_some

theorem VDet_bad (A : Option Addr) (L : List Int) (c : Nat) (w : World) (ha : Lies w A L) (h : vcd L ≠ 0) :
    Calls Try.prog 9 #[.slice A L.length c] w fun e w' => e = .returned (.tuple #[.int .i64 0, errOf (vcd L)]) ∧ Kp w w' := by
  have CK := Lib.hid (vChk_any A L c w ha)
  rw [errOf_ne _ h] at CK ⊢
  generalize vcd L = z at *
  generalize L.length = n at *
  clear ha h
  go_enter Try.func9, Try.ntmps9
  go_wp2_with fail
  refine (CK.out).mono ?_; rintro e w' ⟨rfl, rfl⟩
  go_wp2_with fail
  go_ret2
  exact ⟨rfl, Kp.rfl' w⟩

set_option maxHeartbeats 800000 in
theorem pairs_any (A : Option Addr) (n d : Nat) (w : World) :
    Calls Try.prog 26 #[.slice A n d] w fun e w' => e = .returned (.func (.func 42) #[] #[.pointer (some ⟨w.heap.size, 0, none⟩)]) ∧ w' = w.alloc (.cells #[.slice A n d] 22) := by
  go_enter Try.func26, Try.ntmps26
  go_wp2
  go_ret
  exact ⟨rfl, rfl⟩

/-- The two numbers of a pair of places. -/
def twoOf (n : Nat) (X : Nat → Fp.F) (y : Nat) : Array Value := #[.int .i64 ((X (rowOf n n y)).val : Int), .int .i64 ((X (colOf n y)).val : Int)]
theorem vplace_row {n i j : Nat} (hi : i < n) (hj : j < n) : rowOf n n (i * n + j) = i ∧ colOf n (i * n + j) = j := by
  have hc : 0 < n := by omega
  constructor
  · unfold rowOf; rw [Nat.mul_comm, Nat.mul_add_div hc, Nat.div_eq_of_lt hj, Nat.add_zero, Nat.mod_eq_of_lt hi]
  · unfold colOf; rw [Nat.mul_comm, Nat.mul_add_mod, Nat.mod_eq_of_lt hj]
theorem twoOf_at {n i j : Nat} (X : Nat → Fp.F) (hi : i < n) (hj : j < n) : twoOf n X (i * n + j) = #[.int .i64 ((X i).val : Int), .int .i64 ((X j).val : Int)] := by
  obtain ⟨e1, e2⟩ := vplace_row hi hj
  unfold twoOf; rw [e1, e2]
/-- What a round keeps: what lay before, and the variable with the row. -/
def KeepXs (n₀ Bs : Nat) (v : Value) (W W' : World) : Prop := Below n₀ W W' ∧ (W.cell? ⟨Bs, 0, none⟩ = some v → W'.cell? ⟨Bs, 0, none⟩ = some v)
theorem keepXs_t {n₀ Bs : Nat} {v : Value} {a b c : World} (h : KeepXs n₀ Bs v a b) (h' : KeepXs n₀ Bs v b c) : KeepXs n₀ Bs v a c := ⟨h.1.trans h'.1, fun x => h'.2 (h.2 x)⟩
theorem keepXs_b {w : World} {n₀ Bs : Nat} {v : Value} (hn : n₀ ≤ w.heap.size) (W : World) (l : Nat) (o o' : Obj) (hl : w.heap.size ≤ l) (ho : W.heap[l]? = some o) (h1 : o.isCells = false) (h2 : o.isWalk = false) : KeepXs n₀ Bs v W (W.putObj l o') :=
  ⟨belowK_b hn W l o o' hl ho h1 h2, fun x => cell_kept x (grownBy_putObj' W l o') (fun r e => by cases e; exact ⟨_, ho, h1⟩)⟩

set_option maxRecDepth 100000 in
set_option maxHeartbeats 3200000 in
theorem pairs_in (n : Nat) (hn : 1 ≤ n) (l Bs n₀ c d : Nat) (A : Option Addr) (X : Nat → Fp.F) (hc : c ≤ 1000) (hd : c ≤ d) (J Jx : List Nat → World → Prop)
    (hY : ∀ pre y W, J pre W → pre.length < c * c → YieldAt Fence.wide (n - 1) Try.prog l (twoOf c X y) W fun e W' =>
      (e = .returned (.bool true) ∧ J (pre ++ [y]) W' ∧ KeepXs n₀ Bs (.slice A c d) W W') ∨ (e = .returned (.bool false) ∧ Jx (pre ++ [y]) W'))
    (W : World) (hBs : W.cell? ⟨Bs, 0, none⟩ = some (.slice A c d)) (hl : LiesIn W n₀ A (Mx.row c fun j => ((X j).val : Int))) (h0 : J [] W) :
    CallsIn Fence.wide n Try.prog 42 #[.func (.yield l) #[] #[], .pointer (some ⟨Bs, 0, none⟩)] W fun e W' => (∃ v, e = .returned v) ∧
      ((∃ ys, ys = Mx.ups c c ∧ J ys W') ∨ (∃ pre, True ∧ Jx pre W')) := by
  have HL := Lib.hid (fun (W' : World) (hx : Below n₀ W W') (k : Nat) (hk : k < c) => (show ∃ ad, A = some ad ∧ W'.cell? (ad.add k) = some (.int .i64 ((X k).val : Int)) by
    obtain ⟨ad, e, _, h⟩ := (hl.below hx) k (by rw [Mx.len_row]; exact hk)
    rw [Mx.row_at _ _ _ hk] at h
    exact ⟨ad, e, h⟩))
  clear hl
  refine callsIn_of_wp Try.func42 rfl trivial ?_ rfl
  simp only [Try.ntmps42, List.size_toArray, List.length_cons, List.length_nil, Nat.reduceAdd, Nat.reduceSub, Array.replicate_succ, Array.replicate_zero, List.push_toArray, List.append_toArray, List.nil_append, List.cons_append]
  gi_wp2
  gi_loopw [9] (fun i wr => ∃ k : Nat, k ≤ c ∧ i = .int .i64 (k : Int) ∧ J (Mx.ups c k) wr ∧ KeepXs n₀ Bs (.slice A c d) W wr) (fun i _ => c - (intOf i).toNat)
  case atStart => exact ⟨0, Nat.zero_le _, rfl, h0, Below.refl _ _, id⟩
  case round =>
    obtain ⟨k, hk, rfl, hJs, hnx⟩ := hrel
    by_cases hlt : k < c
    · have hcx : wr.cell? ⟨Bs, 0, none⟩ = some (.slice A c d) := hnx.2 hBs
      obtain ⟨ad, rfl, hx1⟩ := HL.out wr hnx.1 k hlt
      have JS := Lib.hid hJs
      have NX := Lib.hid hnx
      clear hJs hnx
      have hki : (k : Int) + 1 ≤ (c : Int) := by omega
      have hkd : (k : Int) + 1 ≤ (d : Int) := by omega
      by_cases hcap : k + 1 = d
      · have hcq : c = k + 1 := by omega
        have UP := Lib.hid (show Mx.ups c k = Mx.ups c (k + 1) by
          show _ = Mx.ups c k ++ Mx.urow c k (c - (k + 1))
          rw [show c - (k + 1) = 0 by omega, Mx.urow_zero, List.append_nil])
        have HC := Lib.hid hcq
        clear hki
        gi_wp2
        gi_loopw [19] (fun t wq => t = .int .i64 0 ∧ wq = wr) (fun _ _ => 0)
        case atStart => exact ⟨rfl, rfl⟩
        case round =>
          obtain ⟨rfl, rfl⟩ := hrel
          gi_wp2
          go_roundw
          case rel => exact ⟨k + 1, by have := HC.out; omega, by go_num, by rw [← UP.out]; exact JS.out, NX.out⟩
          case measure => have := HC.out; simp [intOf]; omega
      · gi_wp2
        gi_loopw [19] (fun t wq => ∃ m : Nat, m ≤ c - (k + 1) ∧ t = .int .i64 (m : Int) ∧ J (Mx.ups c k ++ Mx.urow c k m) wq ∧ KeepXs n₀ Bs (.slice (some ad) c d) W wq) (fun t _ => c - (k + 1) - (intOf t).toNat)
        case atStart => exact ⟨0, Nat.zero_le _, rfl, by rw [Mx.urow_zero, List.append_nil]; exact JS.out, NX.out⟩
        case round =>
          obtain ⟨m, hm, rfl, hJq, hnq⟩ := hrel
          by_cases hmt : m < c - (k + 1)
          · obtain ⟨ad', e, hx2⟩ := HL.out _ hnq.1 (k + 1 + m) (by omega)
            obtain rfl := Option.some.inj e
            rw [show ad.add (k + 1 + m) = ⟨ad.block, ad.off + (k + 1) + m, none⟩ by
              rw [show k + 1 + m = (k + m) + 1 by omega, Addr.add_succ', show ad.off + (k + 1) + m = ad.off + (k + m + 1) by omega]] at hx2
            obtain ⟨fn, tmps, assign, body, hy, hR⟩ := hY _ (k * c + (k + 1 + m)) _ hJq (by
              rw [List.length_append, Mx.len_urow]
              have h1 := Mx.len_ups c k
              have h2 := Mx.place_lt hlt (show k + 1 + m < c by omega)
              omega)
            rw [twoOf_at X hlt (show k + 1 + m < c by omega)] at hy
            have NQ := Lib.hid hnq
            have RR := Lib.hid hR
            have TS := Lib.hid (show Mx.ups c k ++ Mx.urow c k m ++ [k * c + (k + 1 + m)] = Mx.ups c k ++ Mx.urow c k (m + 1) by
              rw [Mx.urow_succ, List.append_assoc])
            generalize (X (k + 1 + m)).val = z at *
            clear hnq hJq hR
            gi_wp2
            refine (RR.out).mono ?_
            rintro e W3 (⟨rfl, hJ3, hk3⟩ | ⟨rfl, hJx3⟩)
            · gi_wp2
              go_roundw
              case rel => exact ⟨m + 1, by omega, by go_num, by rw [← TS.out]; exact hJ3, keepXs_t NQ.out hk3⟩
              case measure => simp [intOf]; omega
            · gi_wp2
              refine bodyPost_ret (results_none rfl _ _ _) rfl ?_
              exact ⟨⟨_, rfl⟩, .inr ⟨_, trivial, hJx3⟩⟩
          · obtain rfl : m = c - (k + 1) := by omega
            have NQ := Lib.hid hnq
            have JQ := Lib.hid hJq
            clear hnq hJq
            gi_wp2
            go_roundw
            case rel => exact ⟨k + 1, by omega, by go_num, JQ.out, NQ.out⟩
            case measure => simp [intOf]; omega
    · obtain rfl : k = c := by omega
      gi_wp2
      go_end0
      exact ⟨⟨_, rfl⟩, .inl ⟨_, rfl, hJs⟩⟩

theorem pairs_stops (n : Nat) (hn : 1 ≤ n) (Bs n₀ c d : Nat) (A : Option Addr) (X : Nat → Fp.F) (hc : c ≤ 1000) (hd : c ≤ d) (w : World) (hB : Bs < w.heap.size) (hn0 : n₀ ≤ w.heap.size) (hBs : w.cell? ⟨Bs, 0, none⟩ = some (.slice A c d)) (hl : LiesIn w n₀ A (Mx.row c fun j => ((X j).val : Int))) :
    SeqStopsK Fence.wide n Try.prog 42 #[.pointer (some ⟨Bs, 0, none⟩)] (twoOf c X) (KeepXs n₀ Bs (.slice A c d)) (fun ys => ys = Mx.ups c c) (fun _ => True) (c * c) w := fun l J Jx W hW _ _ hY h0 =>
  pairs_in n hn l Bs n₀ c d A X hc hd J Jx hY W ((hW.cell (p := ⟨Bs, 0, none⟩) hB).trans hBs) (hl.below (hW.mono hn0)) h0

/-- The product as far as the pairs of pre. -/
def vpr (n : Nat) (X : Nat → Fp.F) (pre : List Nat) : Fp.F := Mx.lpr (fun y => X (colOf n y) - X (rowOf n n y)) pre
theorem vpr_all (n : Nat) (X : Nat → Fp.F) : vpr n X (Mx.ups n n) = Mx.df n X := by
  unfold vpr
  rw [Mx.lpr_ups, Mx.df_rows]
  refine Mx.pr_congr fun i hi => Mx.pr_congr fun t ht => ?_
  obtain ⟨e1, e2⟩ := vplace_row hi (show i + 1 + t < n by omega)
  show X (colOf n (i * n + (i + 1 + t))) - X (rowOf n n (i * n + (i + 1 + t))) = _
  rw [e1, e2]
theorem vstep (t a b : Fp.F) : ((t.val : Int) * ((b.val : Int) - (a.val : Int) + 9973)) % 9973 = ((t * (b - a)).val : Int) := by
  have h : Fp.ofInt ((t.val : Int) * ((b.val : Int) - (a.val : Int) + 9973)) = t * (b - a) := by
    have hn : Fp.ofInt (-(a.val : Int)) = -a := by
      have h1 := Fp.ofInt_add (a.val : Int) (-(a.val : Int))
      rw [show (a.val : Int) + -(a.val : Int) = 0 by omega, Fp.ofInt_self, show Fp.ofInt 0 = 0 by decide +kernel] at h1
      grind
    rw [Fp.ofInt_mul, Fp.ofInt_self, show (b.val : Int) - (a.val : Int) + 9973 = (b.val : Int) + -(a.val : Int) + 9973 by omega, Fp.ofInt_add, Fp.ofInt_add, Fp.ofInt_self, hn, show Fp.ofInt 9973 = 0 by decide +kernel]
    grind
  rw [← h, Fp.ofInt_val]
theorem vstep_bound (t a b : Fp.F) : 0 ≤ (t.val : Int) * ((b.val : Int) - (a.val : Int) + 9973) ∧ (t.val : Int) * ((b.val : Int) - (a.val : Int) + 9973) ≤ 1000000000 := by
  have h1 := vval t
  have h2 := vval a
  have h3 := vval b
  refine ⟨Int.mul_nonneg h1.1 (by omega), ?_⟩
  have := Int.mul_le_mul h1.2 (show (b.val : Int) - (a.val : Int) + 9973 ≤ 19945 by omega) (by omega) (by omega)
  omega

/-- The product's variable. -/
structure VAt (w0 : World) (b : Nat) (t : Int) (W : World) : Prop where
  t : Boxed W b 3 (.int .i64 t)
  kp : Kp w0 W
theorem VAt.keep {w0 : World} {b : Nat} {t : Int} {W W' : World} (h : VAt w0 b t W) (k : Kp W W') : VAt w0 b t W' := ⟨boxed_kp h.t k, h.kp.trans k⟩
theorem VAt.put {w0 : World} {b : Nat} {t : Int} {W : World} (h : VAt w0 b t W) (h0 : w0.heap.size ≤ b) (u : Int) : VAt w0 b u (W.setCell ⟨b, 0, none⟩ (.int .i64 u)) := ⟨Boxed.set _ h.t, h.kp.put (p := ⟨b, 0, none⟩) h0 _⟩
theorem vat_own (w0 : World) (b : Nat) (t : List Nat → Int) (B : Nat) (hw : w0.heap.size ≤ B) : OwnFrom B (fun (pre : List Nat) W => VAt w0 b (t pre) W) := fun s W W' row h hg hr => by
  have hr' : ∀ r, row = some r → ∃ o : Obj, W.heap[r]? = some o ∧ o.isCells = false := fun r e => (hr r e).2
  exact ⟨boxed_keptN h.t hg hr', h.kp.grown hg h.kp.size (fun k e => Nat.le_trans hw (hr k e).1)⟩

set_option maxRecDepth 100000 in
set_option maxHeartbeats 3200000 in
theorem VDet_ok (A : Option Addr) (L : List Int) (n c : Nat) (X : Nat → Fp.F) (w : World) (ha : Lies w A L) (s : Vd n X L) (hc : n ≤ c) :
    Calls Try.prog 9 #[.slice A n c] w fun e w' => e = .returned (.tuple #[.int .i64 ((Mx.df n X).val : Int), .nilIface]) ∧ Kp w w' := by
  have CK := Lib.hid (vChk_good s A c w ha)
  have HA := Lib.hid (show Lies w A (Mx.row n fun j => ((X j).val : Int)) from by have h := ha; rw [s.row] at h; exact h)
  have hn0 := s.n0
  have hn5 := s.n5
  have ALL := Lib.hid (vpr_all n X)
  generalize Mx.df n X = dd at *
  clear ha s
  refine callsIn_wide.1 (callsIn_of_wp_marks (F := Fence.wide) (n := 9) Try.func9 rfl trivial ?_ rfl)
  simp only [Try.ntmps9, List.size_toArray, List.length_cons, List.length_nil, Nat.reduceAdd, Nat.reduceSub, Array.replicate_succ, Array.replicate_zero, List.push_toArray, List.append_toArray, List.nil_append, List.cons_append]
  refine wpIn_wide.2 ?_
  go_wp2_with fail
  refine (CK.out).mono ?_; rintro e w' ⟨rfl, rfl⟩
  go_wp2_with fail
  obtain ⟨w1, hw1⟩ : ∃ y, y = w.alloc (.cells #[.int .i64 1] 3) := ⟨_, rfl⟩
  have S1 := Lib.hid (show VAt w w.heap.size 1 w1 by rw [hw1]; exact ⟨Boxed.new w _ _, (Kp.rfl' w).new _⟩)
  have s1 : w1.heap.size = w.heap.size + 1 := by rw [hw1]; simp
  rw [← hw1]
  clear hw1
  refine (pairs_any A n c w1).mono ?_; rintro e w2 ⟨rfl, hw2⟩
  have k2 : Kp w1 w2 := by rw [hw2]; exact (Kp.rfl' w1).new _
  have n2 : w2.cell? ⟨w1.heap.size, 0, none⟩ = some (.slice A n c) := by rw [hw2]; exact (Boxed.new w1 22 (.slice A n c)).cell
  have s2 : w2.heap.size = w.heap.size + 2 := by rw [hw2]; simp [s1]
  rw [s1] at n2 ⊢
  have S2 := Lib.hid (S1.out.keep k2)
  have L2 := Lib.hid (HA.out.in.below S2.out.kp)
  clear hw2 k2 S1
  go_wp2_with fail
  refine (wpIn_wide (n := 9)).1 (wpIn_rangeFunc_ownF (F := Fence.wide) rfl (Nat.le_add_left 1 8) (gf := 42) (lb := #[.pointer (some ⟨w.heap.size + 1, 0, none⟩)]) rfl trivial (enters_of Try.func42 (by kernel_rfl) rfl)
    (pairs_stops 8 (Nat.le_add_left 1 7) (w.heap.size + 1) w.heap.size n c A X (by omega) hc w2 (by omega) (by omega) n2 L2.out)
    keepXs_t (keepXs_b (by omega)) (Below.refl _ _) (fun _ => rfl)
    (fun pre W => VAt w w.heap.size ((vpr n X pre).val : Int) W)
    (fun _ _ _ => False)
    (vat_own w _ _ _ (by omega))
    (fun _ _ _ _ _ hs _ _ => hs)
    S2.out
    ?a1 ?assign ?body ?done ?stop)
  case assign =>
    intro l y W K hK
    unfold twoOf
    gi_wp2
    exact hK
  case body =>
    rintro l pre y W hs hlen
    have ST := Lib.hid (show vpr n X (pre ++ [y]) = vpr n X pre * (X (colOf n y) - X (rowOf n n y)) from Mx.lpr_snoc _ _ _)
    have VS := vstep (vpr n X pre) (X (rowOf n n y)) (X (colOf n y))
    have vb := vstep_bound (vpr n X pre) (X (rowOf n n y)) (X (colOf n y))
    rw [← ST.out] at VS
    have h2 := vval (X (rowOf n n y))
    have h3 := vval (X (colOf n y))
    have t1 := hs.t.cell
    have f1 := hs.t.frozen
    have SS := Lib.hid hs
    generalize (vpr n X pre).val = t at *
    generalize (X (rowOf n n y)).val = a at *
    generalize (X (colOf n y)).val = b at *
    have VV := Lib.hid VS
    have hw1 : IntKind.i64.wrap ((b : Int) - (a : Int)) = (b : Int) - (a : Int) := IntWalk.i64_in _ (by omega)
    have hw2 : IntKind.i64.wrap ((b : Int) - (a : Int) + 9973) = (b : Int) - (a : Int) + 9973 := IntWalk.i64_in _ (by omega)
    have hw3 : IntKind.i64.wrap ((t : Int) * ((b : Int) - (a : Int) + 9973)) = (t : Int) * ((b : Int) - (a : Int) + 9973) := IntWalk.i64_in _ (by omega)
    have TM := Int.tmod_eq_emod_of_nonneg (b := 9973) vb.1
    have hk1 : w.heap.size ≠ w.heap.size + 1 := by omega
    clear hs hlen VS vb h2 h3
    gi_wp2
    refine ⟨KeepsOthers.setCell _ _ _, ⟨(Below.refl _ _).setCell (p := ⟨w.heap.size, 0, none⟩) (Nat.le_refl _) _, fun x => ?_⟩, ?_⟩
    · rw [World.cell?_of_block (Below.heap_setCell W ⟨w.heap.size, 0, none⟩ _ (w.heap.size + 1) (by show w.heap.size + 1 ≠ w.heap.size; omega))]
      exact x
    · show VAt w w.heap.size ((vpr n X (pre ++ [y])).val : Int) _
      rw [← VV.out]
      exact SS.out.put (Nat.le_refl _) _
  case done =>
    rintro D ys W hD rfl hs hK
    rw [ALL.out] at hs
    have r2 := (vat_own w w.heap.size (fun _ => (dd.val : Int)) w.heap.size (Nat.le_refl _)) [] W (W.putObj D (.deferred none)) (some D) hs (grownBy_putObj' _ _ _) (fun r e => by cases e; exact ⟨by omega, _, hK, rfl⟩)
    have t1 := hs.t.cell
    have R2 := Lib.hid r2.kp
    clear hs r2
    go_wp2_with fail
    refine ⟨by simp, .inl ⟨_, _, rfl, run_takeDeferred hK, ?_⟩⟩
    refine ⟨.tuple #[.int .i64 (dd.val : Int), .nilIface], by simp [results, Try.results9, go_sem], ?_⟩
    exact ⟨rfl, R2.out⟩
  case stop =>
    rintro D c pre W _ _ h _
    exact h.elim

end Go.Proofs.Ytldkamhknaflbaa
