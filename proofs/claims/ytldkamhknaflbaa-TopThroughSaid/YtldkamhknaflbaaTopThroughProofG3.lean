/- Several texts, one behind the other: VdC2, VdC3, RowsG, ShM, VdFact, MxRef, SoR1, PolN, PolC1, PolC2, PolC3, PolC4, FldRef, PolLaw, VdPow, IpM, Idx, IpC, IpC2, IpC3, SoC2, SoC3, SoC4, LawIn, TpThr. -/
import Derived.Test.YtldkamhknaflbaaTopThroughProofG2
import Derived.RangeFuncNested
import Derived.Test.YtldkamhknaflbaaTopThroughProofG1
import Derived.StillTailTactics
import Derived.BigQuiet
import Derived.Laws.CopyOwn
import Derived.Lib.SliceRun
import Derived.Deep.RegionLaw
import Derived.Deep.Cut
import Derived.Deep.CutRange
import Derived.Deep.DeepCutAuto

/- Contract of package vander's Full. -/
namespace Go.Proofs.Ytldkamhknaflbaa
open Go.ChangeShapes Go.WideShapes Go.ChangeAt Go.RowKit
set_option linter.unusedVariables false

theorem VFull_bad (A : Option Addr) (L : List Int) (c : Nat) (w : World) (ha : Lies w A L) (h : vcd L ≠ 0) :
    Calls Try.prog 7 #[.slice A L.length c] w fun e w' => e = .returned (.tuple #[.slice none 0 0, errOf (vcd L)]) ∧ w = w' := by
  have CK := Lib.hid (vChk_any A L c w ha)
  rw [errOf_ne _ h] at CK ⊢
  generalize vcd L = z at *
  generalize L.length = n at *
  clear ha h
  go_enter Try.func7, Try.ntmps7
  go_wp2_with fail
  refine (CK.out).mono ?_; rintro e w' ⟨rfl, rfl⟩
  go_wp2_with fail
  go_ret2
  exact ⟨rfl, rfl⟩

set_option maxRecDepth 100000 in
set_option maxHeartbeats 6400000 in
theorem VFull_ok (A : Option Addr) (L : List Int) (n c : Nat) (X : Nat → Fp.F) (w : World) (ha : Lies w A L) (s : Vd n X L) :
    Calls Try.prog 7 #[.slice A n c] w fun e w' => MadeM n (Mx.vm X) w e w' := by
  have CK := Lib.hid (vChk_good s A c w ha)
  have HA := Lib.hid (show Lies w A (Mx.row n fun j => ((X j).val : Int)) from by have h := ha; rw [s.row] at h; exact h)
  have hn0 := s.n0
  have hn5 := s.n5
  obtain ⟨j0, hj, hz0, hz1, hz2⟩ := info_parts ints_info
  clear ha s
  go_enter Try.func7, Try.ntmps7
  go_wp2_with fail
  refine (CK.out).mono ?_; rintro e w' ⟨rfl, rfl⟩
  go_wp2_with (first
    | (at_make; refine wpList_make_full _ rfl _ _ 24 rfl _ 22 j0 (.slice none 0 0) 1 Try.underlying24 hj hz0 hz1 _ _ _ _ n rfl rfl rfl rfl (by rw [hz2]; omega) (by unfold maxLen; omega) (Nat.le_refl _) ?_; intro w3 hown hgrow))
  have K3 : Kp w w3 := (Kp.rfl' w).grown hgrow (by simp) (fun k hk => by cases hk)
  have G2 : HdP w3 w.heap.size (fun _ => 0) (fun _ => 0) n 0 (fun i j => ((Mx.vm X i j).val : Int)) := HdP.start _ hown
  clear hown hgrow hj hz0 hz1 hz2
  obtain ⟨g2, hg2⟩ : ∃ x, x = w.heap.size := ⟨_, rfl⟩
  rw [← hg2] at G2 ⊢
  have HG := Lib.hid hg2
  have H2 := Lib.hid G2
  have H3 := Lib.hid K3
  clear G2 K3 hg2
  go_loopw [18] (fun i wr => ∃ (k : Nat) (G C : Nat → Nat), k ≤ n ∧ i = .int .i64 (k : Int) ∧ HdP wr g2 G C n k (fun i j => ((Mx.vm X i j).val : Int)) ∧ Kp w wr) (fun i _ => n - (intOf i).toNat)
  case atStart => exact ⟨0, _, _, Nat.zero_le _, rfl, H2.out, H3.out⟩
  case round =>
    obtain ⟨k, G, C, hk, rfl, h2, h3⟩ := hrel
    clear H2 H3
    by_cases hlt : k < n
    · obtain ⟨w6, hw6⟩ : ∃ x, x = wr := ⟨_, rfl⟩
      subst hw6
      obtain ⟨ad, rfl, _, hx⟩ := (HA.out.keep h3).el hlt
      have H2 := Lib.hid h2
      have H3 := Lib.hid h3
      clear h2 h3
      go_wp2_with fail
      refine (powers_any _ n w6).mono ?_; rintro e w7 ⟨rfl, hw7⟩
      have k7 : Kp w6 w7 := by rw [hw7]; exact ((Kp.rfl' w6).new _).new _
      have c0 : w7.cell? ⟨w6.heap.size, 0, none⟩ = some (.int .i64 ((X k).val : Int)) := by
        rw [hw7]; exact ((Boxed.new w6 3 (.int .i64 ((X k).val : Int))).alloc _).cell
      have c1 : w7.cell? ⟨w6.heap.size + 1, 0, none⟩ = some (.int .i64 (n : Int)) := by
        rw [hw7]
        have := (Boxed.new (w6.alloc (.cells #[.int .i64 ((X k).val : Int)] 3)) 3 (.int .i64 (n : Int))).cell
        rwa [World.size_alloc] at this
      have s7 := k7.size
      have CL := Lib.hid (show Calls Try.prog 19 #[.func (.func 39) #[] #[.pointer (some ⟨w6.heap.size + 1, 0, none⟩), .pointer (some ⟨w6.heap.size, 0, none⟩)]] w7 fun e w' => ∃ z cz, e = .returned (.slice (some ⟨z, 0, none⟩) n cz) ∧ w6.heap.size ≤ z ∧ n ≤ cz ∧ Lies w' (some ⟨z, 0, none⟩) (Mx.row n fun j => ((Mx.vm X k j).val : Int)) ∧ Kp w6 w' by
        refine (collectPow_any w6.heap.size (w6.heap.size + 1) n (X k) (by omega) w7 c0 c1).mono ?_
        rintro e w'' ⟨v, rfl, hv, hk2⟩
        obtain ⟨z, cz, rfl, hz, hcz⟩ := own_some hv (by rw [Mx.len_row]; exact hn0)
        obtain ⟨A', c', e', hl'⟩ := hv.lies
        cases e'
        rw [Mx.len_row] at hcz ⊢
        exact ⟨z, cz, rfl, by omega, hcz, hl', k7.trans hk2⟩)
      clear hw7 k7 c0 c1
      go_wp2_with fail
      refine (CL.out).mono ?_; rintro e w9 ⟨z, cz, rfl, hz, hcz, hlz, hk9⟩
      have hsz := H2.out.lt
      have M2 := H2.out.keep hk9
      have x1 := M2.cell (Nat.le_refl k) hlt
      have x2 := M2.free k
      have M2' := Lib.hid (M2.step hlt hlz hcz (by omega))
      have M3 := Lib.hid ((H3.out.trans hk9).put (p := ⟨g2, k, none⟩) (by show w.heap.size ≤ g2; exact Nat.le_of_eq HG.out.symm) (.slice (some ⟨z, 0, none⟩) n cz))
      clear M2 hlz hk9 hz CL
      go_wp2_with fail
      go_roundw
      case rel => exact ⟨k + 1, _, _, by omega, by go_num, M2'.out, M3.out⟩
      case measure => simp [intOf]; omega
    · obtain rfl : k = n := by omega
      have H2 := Lib.hid h2
      have H3 := Lib.hid h3
      clear h2 h3
      go_wp2_with fail
      go_ret2
      exact ⟨_, k, rfl, Nat.le_refl _, H2.out.lies, H3.out⟩

end Go.Proofs.Ytldkamhknaflbaa

/- Contract of package vander's Det. -/
namespace Go.Proofs.Ytldkamhknaflbaa
open Go.ChangeShapes Go.WideShapes Go.ChangeAt Go.RowKit Go.Shelf
set_option linter.unusedVariables false
attribute [local go_sem] Oper.semAt_some

theorem VDet_bad (A : Option Addr) (L : List Int) (c : Nat) (w : World) (ha : Lies w A L) (h : vcd L ≠ 0) :
    Calls Try.prog 9 #[.slice A L.length c] w fun e w' => e = .returned (.tuple #[.int .i64 0, errOf (vcd L)]) ∧ Kp w w' := by
  have CK := Lib.hid (vChk_any A L c w ha)
  rw [errOf_ne _ h] at CK ⊢
  generalize vcd L = z at *
  generalize L.length = n at *
  clear ha h
  go_enter Try.func9, Try.ntmps9
  go_wp2_with fail
  refine (CK.out).mono ?_; rintro e w' ⟨rfl, rfl⟩
  go_wp2_with fail
  go_ret2
  exact ⟨rfl, Kp.rfl' w⟩

set_option maxHeartbeats 800000 in
theorem pairs_any (A : Option Addr) (n d : Nat) (w : World) :
    Calls Try.prog 26 #[.slice A n d] w fun e w' => e = .returned (.func (.func 42) #[] #[.pointer (some ⟨w.heap.size, 0, none⟩)]) ∧ w' = w.alloc (.cells #[.slice A n d] 22) := by
  go_enter Try.func26, Try.ntmps26
  go_wp2
  go_ret
  exact ⟨rfl, rfl⟩

/-- The two numbers of a pair of places. -/
def twoOf (n : Nat) (X : Nat → Fp.F) (y : Nat) : Array Value := #[.int .i64 ((X (rowOf n n y)).val : Int), .int .i64 ((X (colOf n y)).val : Int)]
theorem vplace_row {n i j : Nat} (hi : i < n) (hj : j < n) : rowOf n n (i * n + j) = i ∧ colOf n (i * n + j) = j := by
  have hc : 0 < n := by omega
  constructor
  · unfold rowOf; rw [Nat.mul_comm, Nat.mul_add_div hc, Nat.div_eq_of_lt hj, Nat.add_zero, Nat.mod_eq_of_lt hi]
  · unfold colOf; rw [Nat.mul_comm, Nat.mul_add_mod, Nat.mod_eq_of_lt hj]
theorem twoOf_at {n i j : Nat} (X : Nat → Fp.F) (hi : i < n) (hj : j < n) : twoOf n X (i * n + j) = #[.int .i64 ((X i).val : Int), .int .i64 ((X j).val : Int)] := by
  obtain ⟨e1, e2⟩ := vplace_row hi hj
  unfold twoOf; rw [e1, e2]
/-- What a round keeps: what lay before, and the variable with the row. -/
def KeepXs (n₀ Bs : Nat) (v : Value) (W W' : World) : Prop := Below n₀ W W' ∧ (W.cell? ⟨Bs, 0, none⟩ = some v → W'.cell? ⟨Bs, 0, none⟩ = some v)
theorem keepXs_t {n₀ Bs : Nat} {v : Value} {a b c : World} (h : KeepXs n₀ Bs v a b) (h' : KeepXs n₀ Bs v b c) : KeepXs n₀ Bs v a c := ⟨h.1.trans h'.1, fun x => h'.2 (h.2 x)⟩
theorem keepXs_b {w : World} {n₀ Bs : Nat} {v : Value} (hn : n₀ ≤ w.heap.size) (W : World) (l : Nat) (o o' : Obj) (hl : w.heap.size ≤ l) (ho : W.heap[l]? = some o) (h1 : o.isCells = false) (h2 : o.isWalk = false) : KeepXs n₀ Bs v W (W.putObj l o') :=
  ⟨belowK_b hn W l o o' hl ho h1 h2, fun x => cell_kept x (grownBy_putObj' W l o') (fun r e => by cases e; exact ⟨_, ho, h1⟩)⟩

set_option maxRecDepth 100000 in
set_option maxHeartbeats 3200000 in
theorem pairs_in (n : Nat) (hn : 1 ≤ n) (l Bs n₀ c d : Nat) (A : Option Addr) (X : Nat → Fp.F) (hc : c ≤ 1000) (hd : c ≤ d) (J Jx : List Nat → World → Prop)
    (hY : ∀ pre y W, J pre W → pre.length < c * c → YieldAt Fence.wide (n - 1) Try.prog l (twoOf c X y) W fun e W' =>
      (e = .returned (.bool true) ∧ J (pre ++ [y]) W' ∧ KeepXs n₀ Bs (.slice A c d) W W') ∨ (e = .returned (.bool false) ∧ Jx (pre ++ [y]) W'))
    (W : World) (hBs : W.cell? ⟨Bs, 0, none⟩ = some (.slice A c d)) (hl : LiesIn W n₀ A (Mx.row c fun j => ((X j).val : Int))) (h0 : J [] W) :
    CallsIn Fence.wide n Try.prog 42 #[.func (.yield l) #[] #[], .pointer (some ⟨Bs, 0, none⟩)] W fun e W' => (∃ v, e = .returned v) ∧
      ((∃ ys, ys = Mx.ups c c ∧ J ys W') ∨ (∃ pre, True ∧ Jx pre W')) := by
  have HL := Lib.hid (fun (W' : World) (hx : Below n₀ W W') (k : Nat) (hk : k < c) => (show ∃ ad, A = some ad ∧ W'.cell? (ad.add k) = some (.int .i64 ((X k).val : Int)) by
    obtain ⟨ad, e, _, h⟩ := (hl.below hx) k (by rw [Mx.len_row]; exact hk)
    rw [Mx.row_at _ _ _ hk] at h
    exact ⟨ad, e, h⟩))
  clear hl
  refine callsIn_of_wp Try.func42 rfl trivial ?_ rfl
  simp only [Try.ntmps42, List.size_toArray, List.length_cons, List.length_nil, Nat.reduceAdd, Nat.reduceSub, Array.replicate_succ, Array.replicate_zero, List.push_toArray, List.append_toArray, List.nil_append, List.cons_append]
  gi_wp2
  gi_loopw [9] (fun i wr => ∃ k : Nat, k ≤ c ∧ i = .int .i64 (k : Int) ∧ J (Mx.ups c k) wr ∧ KeepXs n₀ Bs (.slice A c d) W wr) (fun i _ => c - (intOf i).toNat)
  case atStart => exact ⟨0, Nat.zero_le _, rfl, h0, Below.refl _ _, id⟩
  case round =>
    obtain ⟨k, hk, rfl, hJs, hnx⟩ := hrel
    by_cases hlt : k < c
    · have hcx : wr.cell? ⟨Bs, 0, none⟩ = some (.slice A c d) := hnx.2 hBs
      obtain ⟨ad, rfl, hx1⟩ := HL.out wr hnx.1 k hlt
      have JS := Lib.hid hJs
      have NX := Lib.hid hnx
      clear hJs hnx
      have hki : (k : Int) + 1 ≤ (c : Int) := by omega
      have hkd : (k : Int) + 1 ≤ (d : Int) := by omega
      by_cases hcap : k + 1 = d
      · have hcq : c = k + 1 := by omega
        have UP := Lib.hid (show Mx.ups c k = Mx.ups c (k + 1) by
          show _ = Mx.ups c k ++ Mx.urow c k (c - (k + 1))
          rw [show c - (k + 1) = 0 by omega, Mx.urow_zero, List.append_nil])
        have HC := Lib.hid hcq
        clear hki
        gi_wp2
        gi_loopw [19] (fun t wq => t = .int .i64 0 ∧ wq = wr) (fun _ _ => 0)
        case atStart => exact ⟨rfl, rfl⟩
        case round =>
          obtain ⟨rfl, rfl⟩ := hrel
          gi_wp2
          go_roundw
          case rel => exact ⟨k + 1, by have := HC.out; omega, by go_num, by rw [← UP.out]; exact JS.out, NX.out⟩
          case measure => have := HC.out; simp [intOf]; omega
      · gi_wp2
        gi_loopw [19] (fun t wq => ∃ m : Nat, m ≤ c - (k + 1) ∧ t = .int .i64 (m : Int) ∧ J (Mx.ups c k ++ Mx.urow c k m) wq ∧ KeepXs n₀ Bs (.slice (some ad) c d) W wq) (fun t _ => c - (k + 1) - (intOf t).toNat)
        case atStart => exact ⟨0, Nat.zero_le _, rfl, by rw [Mx.urow_zero, List.append_nil]; exact JS.out, NX.out⟩
        case round =>
          obtain ⟨m, hm, rfl, hJq, hnq⟩ := hrel
          by_cases hmt : m < c - (k + 1)
          · obtain ⟨ad', e, hx2⟩ := HL.out _ hnq.1 (k + 1 + m) (by omega)
            obtain rfl := Option.some.inj e
            rw [show ad.add (k + 1 + m) = ⟨ad.block, ad.off + (k + 1) + m, none⟩ by
              rw [show k + 1 + m = (k + m) + 1 by omega, Addr.add_succ', show ad.off + (k + 1) + m = ad.off + (k + m + 1) by omega]] at hx2
            obtain ⟨fn, tmps, assign, body, hy, hR⟩ := hY _ (k * c + (k + 1 + m)) _ hJq (by
              rw [List.length_append, Mx.len_urow]
              have h1 := Mx.len_ups c k
              have h2 := Mx.place_lt hlt (show k + 1 + m < c by omega)
              omega)
            rw [twoOf_at X hlt (show k + 1 + m < c by omega)] at hy
            have NQ := Lib.hid hnq
            have RR := Lib.hid hR
            have TS := Lib.hid (show Mx.ups c k ++ Mx.urow c k m ++ [k * c + (k + 1 + m)] = Mx.ups c k ++ Mx.urow c k (m + 1) by
              rw [Mx.urow_succ, List.append_assoc])
            generalize (X (k + 1 + m)).val = z at *
            clear hnq hJq hR
            gi_wp2
            refine (RR.out).mono ?_
            rintro e W3 (⟨rfl, hJ3, hk3⟩ | ⟨rfl, hJx3⟩)
            · gi_wp2
              go_roundw
              case rel => exact ⟨m + 1, by omega, by go_num, by rw [← TS.out]; exact hJ3, keepXs_t NQ.out hk3⟩
              case measure => simp [intOf]; omega
            · gi_wp2
              refine bodyPost_ret (results_none rfl _ _ _) rfl ?_
              exact ⟨⟨_, rfl⟩, .inr ⟨_, trivial, hJx3⟩⟩
          · obtain rfl : m = c - (k + 1) := by omega
            have NQ := Lib.hid hnq
            have JQ := Lib.hid hJq
            clear hnq hJq
            gi_wp2
            go_roundw
            case rel => exact ⟨k + 1, by omega, by go_num, JQ.out, NQ.out⟩
            case measure => simp [intOf]; omega
    · obtain rfl : k = c := by omega
      gi_wp2
      go_end0
      exact ⟨⟨_, rfl⟩, .inl ⟨_, rfl, hJs⟩⟩

theorem pairs_stops (n : Nat) (hn : 1 ≤ n) (Bs n₀ c d : Nat) (A : Option Addr) (X : Nat → Fp.F) (hc : c ≤ 1000) (hd : c ≤ d) (w : World) (hB : Bs < w.heap.size) (hn0 : n₀ ≤ w.heap.size) (hBs : w.cell? ⟨Bs, 0, none⟩ = some (.slice A c d)) (hl : LiesIn w n₀ A (Mx.row c fun j => ((X j).val : Int))) :
    SeqStopsK Fence.wide n Try.prog 42 #[.pointer (some ⟨Bs, 0, none⟩)] (twoOf c X) (KeepXs n₀ Bs (.slice A c d)) (fun ys => ys = Mx.ups c c) (fun _ => True) (c * c) w := fun l J Jx W hW _ _ hY h0 =>
  pairs_in n hn l Bs n₀ c d A X hc hd J Jx hY W ((hW.cell (p := ⟨Bs, 0, none⟩) hB).trans hBs) (hl.below (hW.mono hn0)) h0

/-- The product as far as the pairs of pre. -/
def vpr (n : Nat) (X : Nat → Fp.F) (pre : List Nat) : Fp.F := Mx.lpr (fun y => X (colOf n y) - X (rowOf n n y)) pre
theorem vpr_all (n : Nat) (X : Nat → Fp.F) : vpr n X (Mx.ups n n) = Mx.df n X := by
  unfold vpr
  rw [Mx.lpr_ups, Mx.df_rows]
  refine Mx.pr_congr fun i hi => Mx.pr_congr fun t ht => ?_
  obtain ⟨e1, e2⟩ := vplace_row hi (show i + 1 + t < n by omega)
  show X (colOf n (i * n + (i + 1 + t))) - X (rowOf n n (i * n + (i + 1 + t))) = _
  rw [e1, e2]
theorem vstep (t a b : Fp.F) : ((t.val : Int) * ((b.val : Int) - (a.val : Int) + 9973)) % 9973 = ((t * (b - a)).val : Int) := by
  have h : Fp.ofInt ((t.val : Int) * ((b.val : Int) - (a.val : Int) + 9973)) = t * (b - a) := by
    have hn : Fp.ofInt (-(a.val : Int)) = -a := by
      have h1 := Fp.ofInt_add (a.val : Int) (-(a.val : Int))
      rw [show (a.val : Int) + -(a.val : Int) = 0 by omega, Fp.ofInt_self, show Fp.ofInt 0 = 0 by decide +kernel] at h1
      grind
    rw [Fp.ofInt_mul, Fp.ofInt_self, show (b.val : Int) - (a.val : Int) + 9973 = (b.val : Int) + -(a.val : Int) + 9973 by omega, Fp.ofInt_add, Fp.ofInt_add, Fp.ofInt_self, hn, show Fp.ofInt 9973 = 0 by decide +kernel]
    grind
  rw [← h, Fp.ofInt_val]
theorem vstep_bound (t a b : Fp.F) : 0 ≤ (t.val : Int) * ((b.val : Int) - (a.val : Int) + 9973) ∧ (t.val : Int) * ((b.val : Int) - (a.val : Int) + 9973) ≤ 1000000000 := by
  have h1 := vval t
  have h2 := vval a
  have h3 := vval b
  refine ⟨Int.mul_nonneg h1.1 (by omega), ?_⟩
  have := Int.mul_le_mul h1.2 (show (b.val : Int) - (a.val : Int) + 9973 ≤ 19945 by omega) (by omega) (by omega)
  omega

/-- The product's variable. -/
structure VAt (w0 : World) (b : Nat) (t : Int) (W : World) : Prop where
  t : Boxed W b 3 (.int .i64 t)
  kp : Kp w0 W
theorem VAt.keep {w0 : World} {b : Nat} {t : Int} {W W' : World} (h : VAt w0 b t W) (k : Kp W W') : VAt w0 b t W' := ⟨boxed_kp h.t k, h.kp.trans k⟩
theorem VAt.put {w0 : World} {b : Nat} {t : Int} {W : World} (h : VAt w0 b t W) (h0 : w0.heap.size ≤ b) (u : Int) : VAt w0 b u (W.setCell ⟨b, 0, none⟩ (.int .i64 u)) := ⟨Boxed.set _ h.t, h.kp.put (p := ⟨b, 0, none⟩) h0 _⟩
theorem vat_own (w0 : World) (b : Nat) (t : List Nat → Int) (B : Nat) (hw : w0.heap.size ≤ B) : OwnFrom B (fun (pre : List Nat) W => VAt w0 b (t pre) W) := fun s W W' row h hg hr => by
  have hr' : ∀ r, row = some r → ∃ o : Obj, W.heap[r]? = some o ∧ o.isCells = false := fun r e => (hr r e).2
  exact ⟨boxed_keptN h.t hg hr', h.kp.grown hg h.kp.size (fun k e => Nat.le_trans hw (hr k e).1)⟩

set_option maxRecDepth 100000 in
set_option maxHeartbeats 3200000 in
theorem VDet_ok (A : Option Addr) (L : List Int) (n c : Nat) (X : Nat → Fp.F) (w : World) (ha : Lies w A L) (s : Vd n X L) (hc : n ≤ c) :
    Calls Try.prog 9 #[.slice A n c] w fun e w' => e = .returned (.tuple #[.int .i64 ((Mx.df n X).val : Int), .nilIface]) ∧ Kp w w' := by
  have CK := Lib.hid (vChk_good s A c w ha)
  have HA := Lib.hid (show Lies w A (Mx.row n fun j => ((X j).val : Int)) from by have h := ha; rw [s.row] at h; exact h)
  have hn0 := s.n0
  have hn5 := s.n5
  have ALL := Lib.hid (vpr_all n X)
  generalize Mx.df n X = dd at *
  clear ha s
  refine callsIn_wide.1 (callsIn_of_wp_marks (F := Fence.wide) (n := 9) Try.func9 rfl trivial ?_ rfl)
  simp only [Try.ntmps9, List.size_toArray, List.length_cons, List.length_nil, Nat.reduceAdd, Nat.reduceSub, Array.replicate_succ, Array.replicate_zero, List.push_toArray, List.append_toArray, List.nil_append, List.cons_append]
  refine wpIn_wide.2 ?_
  go_wp2_with fail
  refine (CK.out).mono ?_; rintro e w' ⟨rfl, rfl⟩
  go_wp2_with fail
  obtain ⟨w1, hw1⟩ : ∃ y, y = w.alloc (.cells #[.int .i64 1] 3) := ⟨_, rfl⟩
  have S1 := Lib.hid (show VAt w w.heap.size 1 w1 by rw [hw1]; exact ⟨Boxed.new w _ _, (Kp.rfl' w).new _⟩)
  have s1 : w1.heap.size = w.heap.size + 1 := by rw [hw1]; simp
  rw [← hw1]
  clear hw1
  refine (pairs_any A n c w1).mono ?_; rintro e w2 ⟨rfl, hw2⟩
  have k2 : Kp w1 w2 := by rw [hw2]; exact (Kp.rfl' w1).new _
  have n2 : w2.cell? ⟨w1.heap.size, 0, none⟩ = some (.slice A n c) := by rw [hw2]; exact (Boxed.new w1 22 (.slice A n c)).cell
  have s2 : w2.heap.size = w.heap.size + 2 := by rw [hw2]; simp [s1]
  rw [s1] at n2 ⊢
  have S2 := Lib.hid (S1.out.keep k2)
  have L2 := Lib.hid (HA.out.in.below S2.out.kp)
  clear hw2 k2 S1
  go_wp2_with fail
  refine (wpIn_wide (n := 9)).1 (wpIn_rangeFunc_ownF (F := Fence.wide) rfl (Nat.le_add_left 1 8) (gf := 42) (lb := #[.pointer (some ⟨w.heap.size + 1, 0, none⟩)]) rfl trivial (enters_of Try.func42 (by kernel_rfl) rfl)
    (pairs_stops 8 (Nat.le_add_left 1 7) (w.heap.size + 1) w.heap.size n c A X (by omega) hc w2 (by omega) (by omega) n2 L2.out)
    keepXs_t (keepXs_b (by omega)) (Below.refl _ _) (fun _ => rfl)
    (fun pre W => VAt w w.heap.size ((vpr n X pre).val : Int) W)
    (fun _ _ _ => False)
    (vat_own w _ _ _ (by omega))
    (fun _ _ _ _ _ hs _ _ => hs)
    S2.out
    ?a1 ?assign ?body ?done ?stop)
  case assign =>
    intro l y W K hK
    unfold twoOf
    gi_wp2
    exact hK
  case body =>
    rintro l pre y W hs hlen
    have ST := Lib.hid (show vpr n X (pre ++ [y]) = vpr n X pre * (X (colOf n y) - X (rowOf n n y)) from Mx.lpr_snoc _ _ _)
    have VS := vstep (vpr n X pre) (X (rowOf n n y)) (X (colOf n y))
    have vb := vstep_bound (vpr n X pre) (X (rowOf n n y)) (X (colOf n y))
    rw [← ST.out] at VS
    have h2 := vval (X (rowOf n n y))
    have h3 := vval (X (colOf n y))
    have t1 := hs.t.cell
    have f1 := hs.t.frozen
    have SS := Lib.hid hs
    generalize (vpr n X pre).val = t at *
    generalize (X (rowOf n n y)).val = a at *
    generalize (X (colOf n y)).val = b at *
    have VV := Lib.hid VS
    have hw1 : IntKind.i64.wrap ((b : Int) - (a : Int)) = (b : Int) - (a : Int) := IntWalk.i64_in _ (by omega)
    have hw2 : IntKind.i64.wrap ((b : Int) - (a : Int) + 9973) = (b : Int) - (a : Int) + 9973 := IntWalk.i64_in _ (by omega)
    have hw3 : IntKind.i64.wrap ((t : Int) * ((b : Int) - (a : Int) + 9973)) = (t : Int) * ((b : Int) - (a : Int) + 9973) := IntWalk.i64_in _ (by omega)
    have TM := Int.tmod_eq_emod_of_nonneg (b := 9973) vb.1
    have hk1 : w.heap.size ≠ w.heap.size + 1 := by omega
    clear hs hlen VS vb h2 h3
    gi_wp2
    refine ⟨KeepsOthers.setCell _ _ _, ⟨(Below.refl _ _).setCell (p := ⟨w.heap.size, 0, none⟩) (Nat.le_refl _) _, fun x => ?_⟩, ?_⟩
    · rw [World.cell?_of_block (Below.heap_setCell W ⟨w.heap.size, 0, none⟩ _ (w.heap.size + 1) (by show w.heap.size + 1 ≠ w.heap.size; omega))]
      exact x
    · show VAt w w.heap.size ((vpr n X (pre ++ [y])).val : Int) _
      rw [← VV.out]
      exact SS.out.put (Nat.le_refl _) _
  case done =>
    rintro D ys W hD rfl hs hK
    rw [ALL.out] at hs
    have r2 := (vat_own w w.heap.size (fun _ => (dd.val : Int)) w.heap.size (Nat.le_refl _)) [] W (W.putObj D (.deferred none)) (some D) hs (grownBy_putObj' _ _ _) (fun r e => by cases e; exact ⟨by omega, _, hK, rfl⟩)
    have t1 := hs.t.cell
    have R2 := Lib.hid r2.kp
    clear hs r2
    go_wp2_with fail
    refine ⟨by simp, .inl ⟨_, _, rfl, run_takeDeferred hK, ?_⟩⟩
    refine ⟨.tuple #[.int .i64 (dd.val : Int), .nilIface], by simp [results, Try.results9, go_sem], ?_⟩
    exact ⟨rfl, R2.out⟩
  case stop =>
    rintro D c pre W _ _ h _
    exact h.elim

end Go.Proofs.Ytldkamhknaflbaa

/- Comparing rows and matrices, small matrices just laid down: for all packages. -/
namespace Go.Proofs.Ytldkamhknaflbaa
open Go.ChangeShapes Go.WideShapes Go.ChangeAt Go.RowKit
set_option linter.unusedVariables false

set_option maxHeartbeats 1600000 in
theorem ints_drew (A B : Option Addr) (l m : List Int) (c d : Nat) (w : World) (ha : Lies w A l) (hb : Lies w B m) (hn : l.length ≤ 1000000) (hm : m.length ≤ 1000000) :
    Calls Try.prog 15 #[.slice A l.length c, .slice B m.length d] w fun e w' => Tells (l = m) e ∧ Drew w w' := by
  have HA := Lib.hid ha
  have HB := Lib.hid hb
  obtain ⟨n, hn'⟩ : ∃ n, n = l.length := ⟨_, rfl⟩
  obtain ⟨q, hq'⟩ : ∃ q, q = m.length := ⟨_, rfl⟩
  rw [← hn'] at hn ⊢
  rw [← hq'] at hm ⊢
  have HN := Lib.hid hn'
  have HQ := Lib.hid hq'
  clear ha hb hn' hq'
  by_cases he : n = q
  · subst he
    have hne : ((n : Int) != (n : Int)) = false := by simp
    go_enter Try.func15, Try.ntmps15
    go_wp2_with fail
    go_loopw [5] (fun i wr => ∃ k : Nat, k ≤ n ∧ i = .int .i64 (k : Int) ∧ (∀ j, j < k → l.getD j 0 = m.getD j 0) ∧ Drew w wr) (fun i _ => n - (intOf i).toNat)
    case atStart => exact ⟨0, Nat.zero_le _, rfl, fun j hj => absurd hj (by omega), Drew.refl _⟩
    case round =>
      obtain ⟨k, hk, rfl, hg, hkp⟩ := hrel
      have HG := Lib.hid hg
      have HK := Lib.hid hkp
      clear hg hkp
      by_cases hlt : k < n
      · obtain ⟨ad, rfl, _, hc⟩ := (HA.out.keep HK.out.kp) k (by have := HN.out; omega)
        obtain ⟨bd, rfl, _, hd⟩ := (HB.out.keep HK.out.kp) k (by have := HQ.out; omega)
        obtain ⟨x, hx⟩ : ∃ x, x = l.getD k 0 := ⟨_, rfl⟩
        obtain ⟨y, hy⟩ : ∃ y, y = m.getD k 0 := ⟨_, rfl⟩
        rw [← hx] at hc
        rw [← hy] at hd
        by_cases hxy : x = y
        · have GG := Lib.hid (show ∀ j, j < k + 1 → l.getD j 0 = m.getD j 0 from fun j hj => by
            by_cases e : j = k
            · subst e; rw [← hx, ← hy]; exact hxy
            · exact HG.out j (by omega))
          have hb : (x != y) = false := by rw [hxy]; simp
          clear hx hy hxy
          go_wp2_with fail
          go_quiet (fail)
          go_wp2_with fail
          go_roundw
          case rel => exact ⟨k + 1, by omega, by go_num, GG.out, HK.out.more _⟩
          case measure => simp [intOf]; omega
        · have NF := Lib.hid (show ¬ l = m from fun e => hxy (by rw [hx, hy, e]))
          have hb : (x != y) = true := by rw [bne_iff_ne]; exact hxy
          clear hx hy hxy
          go_wp2_with fail
          go_quiet (fail)
          go_wp2_with fail
          go_ret
          exact ⟨.inr ⟨NF.out, rfl⟩, HK.out.more _⟩
      · have YES := Lib.hid (show l = m from list_same l m (by rw [← HN.out, ← HQ.out]) fun j hj => HG.out j (by have := HN.out; omega))
        go_wp2_with fail
        go_ret
        exact ⟨.inl ⟨YES.out, rfl⟩, HK.out⟩
  · have hne : ((n : Int) != (q : Int)) = true := by rw [bne_iff_ne]; omega
    have NF := Lib.hid (show ¬ l = m from fun e => he (by rw [HN.out, HQ.out, e]))
    clear he
    go_enter Try.func15, Try.ntmps15
    go_wp2_with fail
    go_ret
    exact ⟨.inr ⟨NF.out, rfl⟩, Drew.refl _⟩
theorem rows_same (a b : List (List Int)) (h : a.length = b.length) (h2 : ∀ k, k < a.length → a.getD k [] = b.getD k []) : a = b := by
  refine List.ext_getElem h fun k h3 h4 => ?_
  have := h2 k h3
  rwa [List.getD_eq_getElem?_getD, List.getD_eq_getElem?_getD, List.getElem?_eq_getElem h3, List.getElem?_eq_getElem h4] at this

/-- No row is longer than a slice may be. -/
def Modest (m : List (List Int)) : Prop := m.length ≤ 1000000 ∧ ∀ k, k < m.length → (m.getD k []).length ≤ 1000000
theorem modest_tab {r c : Nat} (g : Nat → Nat → Int) (hr : r ≤ 1000000) (hc : c ≤ 1000000) : Modest (Mx.tab r c g) :=
  ⟨by rw [Mx.len_tab]; exact hr, fun k hk => by rw [Mx.len_tab] at hk; rw [Mx.tab_len _ _ _ _ hk]; exact hc⟩
theorem modest_nil : Modest [] := ⟨by decide, fun k hk => absurd hk (by simp)⟩


theorem cell_just (w : World) (cs : Array Value) (e : TypeId) (g k : Nat) (h : g = w.heap.size) : (w.alloc (.cells cs e)).cell? ⟨g, k, none⟩ = cs[k]? := by
  subst h
  exact cell_of_row _ _ k _ e (0, 0) (heap_alloc_new w _)
/-- What came in: the rows up to the capacity, each with its numbers up to its own; its rows are the first of them. -/
theorem liesM_open {w : World} {a : Addr} {len cap : Nat} {A : Nat → Option Addr} {L C : Nat → Nat} {Z : Nat → List Int} (hl : len ≤ cap)
    (h : ∀ r, r < cap → w.cell? (a.add r) = some (.slice (A r) (L r) (C r)) ∧ L r ≤ C r ∧ C r ≤ maxLen ∧ (Z r).length = C r ∧ (∀ n ∈ Z r, (Lit.int .i64 n).wf = true) ∧ (A r = none → C r = 0) ∧
      ∀ a', A r = some a' → 0 ≤ a'.block ∧ ∀ c, c < C r → w.cell? (a'.add c) = some (.int .i64 ((Z r).getD c 0))) :
    ((List.range len).map fun r => (Z r).take (L r)).length = len ∧ LiesM w (some a) ((List.range len).map fun r => (Z r).take (L r)) := by
  refine ⟨by simp, fun k hk => ?_⟩
  have hk' : k < len := by simpa using hk
  obtain ⟨h1, h2, _, h4, _, h6, h7⟩ := h k (by omega)
  have e : ((List.range len).map fun r => (Z r).take (L r)).getD k [] = (Z k).take (L k) := by simp [hk']
  have el : ((Z k).take (L k)).length = L k := by rw [List.length_take]; omega
  rw [e, el]
  refine ⟨a, A k, C k, rfl, ?_, h1, h2, ?_⟩
  · have := cell_lt h1; rwa [block_add] at this
  · cases hA : A k with
    | none =>
      intro j hj
      have := h6 hA
      rw [el] at hj
      omega
    | some a' => exact (lies_take (w := w) (x := a') h2 h4 (fun i hi => (h7 a' hA).2 i (by omega))).2
/-- Two rows of two, and the heads of both, just laid down. -/
def laid22 (w : World) (x : Nat → Nat → Int) : World :=
  ((w.alloc (.cells #[.int .i64 (x 0 0), .int .i64 (x 0 1)] 3)).alloc (.cells #[.int .i64 (x 1 0), .int .i64 (x 1 1)] 3)).alloc (.cells #[.slice (some ⟨w.heap.size, 0, none⟩) 2 2, .slice (some ⟨w.heap.size + 1, 0, none⟩) 2 2] 22)
theorem laid22_kp (w : World) (x : Nat → Nat → Int) : Kp w (laid22 w x) := (((Kp.rfl' w).new _).new _).new _
theorem laid22_size (w : World) (x : Nat → Nat → Int) : (laid22 w x).heap.size = w.heap.size + 3 := by simp [laid22]
theorem laid22_lies (w : World) (x : Nat → Nat → Int) : LiesM (laid22 w x) (some ⟨w.heap.size + 2, 0, none⟩) (Mx.tab 2 2 x) := by
  have h0 : Lies (w.alloc (.cells #[.int .i64 (x 0 0), .int .i64 (x 0 1)] 3)) (some ⟨w.heap.size, 0, none⟩) (Mx.row 2 (x 0)) := lies_new' w _ [x 0 0, x 0 1] _ rfl
  have h1 : Lies ((w.alloc (.cells #[.int .i64 (x 0 0), .int .i64 (x 0 1)] 3)).alloc (.cells #[.int .i64 (x 1 0), .int .i64 (x 1 1)] 3)) (some ⟨w.heap.size + 1, 0, none⟩) (Mx.row 2 (x 1)) :=
    lies_new' (w.alloc _) _ [x 1 0, x 1 1] _ (by simp)
  have k2 := ((Kp.rfl' (w.alloc (.cells #[.int .i64 (x 0 0), .int .i64 (x 0 1)] 3))).new (.cells #[.int .i64 (x 1 0), .int .i64 (x 1 1)] 3)).new (.cells #[.slice (some ⟨w.heap.size, 0, none⟩) 2 2, .slice (some ⟨w.heap.size + 1, 0, none⟩) 2 2] 22)
  have k3 := (Kp.rfl' ((w.alloc (.cells #[.int .i64 (x 0 0), .int .i64 (x 0 1)] 3)).alloc (.cells #[.int .i64 (x 1 0), .int .i64 (x 1 1)] 3))).new (.cells #[.slice (some ⟨w.heap.size, 0, none⟩) 2 2, .slice (some ⟨w.heap.size + 1, 0, none⟩) 2 2] 22)
  have hs : w.heap.size + 2 < (laid22 w x).heap.size := by rw [laid22_size]; omega
  intro k hk
  rw [Mx.len_tab] at hk
  match k, hk with
  | 0, _ => exact ⟨_, some ⟨w.heap.size, 0, none⟩, 2, rfl, hs, by rw [add_at]; unfold laid22; rw [cell_just _ _ _ _ _ (by simp)]; simp [Mx.tab, Mx.row], by simp [Mx.tab, Mx.row], h0.keep k2⟩
  | 1, _ => exact ⟨_, some ⟨w.heap.size + 1, 0, none⟩, 2, rfl, hs, by rw [add_at]; unfold laid22; rw [cell_just _ _ _ _ _ (by simp)]; simp [Mx.tab, Mx.row], by simp [Mx.tab, Mx.row], h1.keep k3⟩

def n22 (a b c d : Int) : Nat → Nat → Int := fun i j => if i = 0 then (if j = 0 then a else b) else (if j = 0 then c else d)
/-- The same with the numbers and the block as they stand in a walk. -/
abbrev lit22 (w : World) (g : Nat) (a b c d : Int) : World :=
  ((w.alloc (.cells #[.int .i64 a, .int .i64 b] 3)).alloc (.cells #[.int .i64 c, .int .i64 d] 3)).alloc (.cells #[.slice (some ⟨g, 0, none⟩) 2 2, .slice (some ⟨g + 1, 0, none⟩) 2 2] 22)
theorem lit22_lies (w : World) (g : Nat) (a b c d : Int) (h : g = w.heap.size) : LiesM (lit22 w g a b c d) (some ⟨g + 1 + 1, 0, none⟩) (Mx.tab 2 2 (n22 a b c d)) := by
  subst h
  exact laid22_lies w (n22 a b c d)
theorem lit22_kp (w : World) (g : Nat) (a b c d : Int) : Kp w (lit22 w g a b c d) := (((Kp.rfl' w).new _).new _).new _
theorem lit22_size (w : World) (g : Nat) (a b c d : Int) : (lit22 w g a b c d).heap.size = w.heap.size + 1 + 1 + 1 := by simp [lit22]

end Go.Proofs.Ytldkamhknaflbaa

/- Good matrices, as package mat wants them. For all packages on matrices. -/
namespace Go.Proofs.Ytldkamhknaflbaa
set_option linter.unusedVariables false

def f22 (a b c d : Fp.F) : Nat → Nat → Fp.F := fun i j => if i = 0 then (if j = 0 then a else b) else (if j = 0 then c else d)
/-- A matrix of r rows and c columns, as package mat wants it. -/
structure Sh (r c : Nat) (f : Nat → Nat → Fp.F) (m : List (List Int)) : Prop where
  eq : m = Mx.matl r c f
  r0 : 0 < r
  r5 : r ≤ 5
  c0 : 0 < c
  c5 : c ≤ 5
theorem Sh.len {r c : Nat} {f : Nat → Nat → Fp.F} {m : List (List Int)} (h : Sh r c f m) : m.length = r := by rw [h.eq, Mx.len_matl]
theorem Sh.mat {r c : Nat} {f : Nat → Nat → Fp.F} {m : List (List Int)} (h : Sh r c f m) : Sh r c f (Mx.matl r c f) := ⟨rfl, h.r0, h.r5, h.c0, h.c5⟩
theorem sh_or (m : List (List Int)) : (Mx.mcode 5 0 9972 m = 0 ∧ ∃ r c f, Sh r c f m) ∨ Mx.mcode 5 0 9972 m ≠ 0 := by
  by_cases h : Mx.mcode 5 0 9972 m = 0
  · obtain ⟨r, c, f, e, h1, h2, h3, h4⟩ := Mx.mcode_zero h
    exact .inl ⟨h, r, c, f, ⟨e, h1, h2, h3, h4⟩⟩
  · exact .inr h
theorem Sh.code {r c : Nat} {f : Nat → Nat → Fp.F} {m : List (List Int)} (h : Sh r c f m) : Mx.mcode 5 0 9972 m = 0 := by
  rw [h.eq]; exact Mx.mcode_matl f h.r0 h.r5 h.c0 h.c5

theorem Sh.mul {r q k : Nat} {f f' : Nat → Nat → Fp.F} {a b : List (List Int)} (sa : Sh r q f a) (sb : Sh q k f' b) : Sh r k (Mx.mul q f f') (Mx.matl r k (Mx.mul q f f')) := ⟨rfl, sa.r0, sa.r5, sb.c0, sb.c5⟩
theorem Sh.flip {r q : Nat} {f : Nat → Nat → Fp.F} {a : List (List Int)} (sa : Sh r q f a) : Sh q r (Mx.flip f) (Mx.matl q r (Mx.flip f)) := ⟨rfl, sa.c0, sa.c5, sa.r0, sa.r5⟩
theorem Sh.plus {r q : Nat} {f f' : Nat → Nat → Fp.F} {a : List (List Int)} (sa : Sh r q f a) : Sh r q (Mx.plus f f') (Mx.matl r q (Mx.plus f f')) := ⟨rfl, sa.r0, sa.r5, sa.c0, sa.c5⟩
theorem Sh.pow {r : Nat} {f : Nat → Nat → Fp.F} {a : List (List Int)} (sa : Sh r r f a) (k : Nat) : Sh r r (Mx.pwm r f k) (Mx.matl r r (Mx.pwm r f k)) := ⟨rfl, sa.r0, sa.r5, sa.c0, sa.c5⟩
theorem Sh.one {r q : Nat} {f : Nat → Nat → Fp.F} {a : List (List Int)} (sa : Sh r q f a) : Sh r r Mx.one (Mx.matl r r Mx.one) := ⟨rfl, sa.r0, sa.r5, sa.r0, sa.r5⟩
theorem Sh.modest {r q : Nat} {f : Nat → Nat → Fp.F} {a : List (List Int)} (sa : Sh r q f a) : Modest a := by
  rw [sa.eq]; exact modest_tab _ (Nat.le_trans sa.r5 (by decide)) (Nat.le_trans sa.c5 (by decide))

end Go.Proofs.Ytldkamhknaflbaa

/- Package vander in the laws' words: what comes in are numbers of a matrix, or every call fails; the closed fact. -/
namespace Go.Proofs.Ytldkamhknaflbaa
open Go.ChangeShapes Go.WideShapes Go.ChangeAt Go.RowKit
set_option linter.unusedVariables false

/-- An error, and no matrix. -/
def NoMx (w : World) (e : Ending) (w' : World) : Prop := ∃ z : Nat, e = .returned (.tuple #[.slice none 0 0, .iface 56 (.int .i64 (z : Int))]) ∧ Kp w w'
theorem VFull_no {L : List Int} (h : vcd L ≠ 0) (A : Option Addr) (c : Nat) (w : World) (ha : Lies w A L) :
    Calls Try.prog 7 #[.slice A L.length c] w fun e w' => NoMx w e w' :=
  (VFull_bad A L c w ha h).mono fun e w' h' => ⟨vcd L, by rw [h'.1, errOf_ne _ h], by rw [← h'.2]; exact Kp.rfl' w⟩
theorem Vd.sh {n : Nat} {X : Nat → Fp.F} {L : List Int} (h : Vd n X L) : Sh n n (Mx.vm X) (Mx.matl n n (Mx.vm X)) := ⟨rfl, h.n0, h.n5, h.n0, h.n5⟩
theorem Vd.lies {n : Nat} {X : Nat → Fp.F} {L : List Int} (h : Vd n X L) {A : Option Addr} {w : World} (ha : Lies w A L) : Lies w A (Mx.row n fun j => ((X j).val : Int)) := by
  rw [h.row] at ha; exact ha

def x124 : Nat → Fp.F := fun i => Fp.ofInt ([1, 2, 4].getD i 0)
theorem vd124 : Vd 3 x124 [1, 2, 4] := ⟨by decide +kernel, by decide, by decide⟩
theorem df124 : (Mx.df 3 x124).val = 6 := by decide +kernel
set_option maxRecDepth 100000 in
set_option maxHeartbeats 1600000 in
theorem vanderFact_any (w : World) : Calls Try.prog 6 #[] w fun e w' => e = .returned (.bool true) ∧ Kp w w' := by
  have R1 := Lib.hid (fun (w1 : World) (A : Option Addr) (h1 : Lies w1 A [1, 2, 4]) => VDet_ok A [1, 2, 4] 3 3 x124 w1 h1 vd124 (by decide))
  rw [df124] at R1
  go_enter Try.func6, Try.ntmps6
  go_wp2_with fail
  refine (R1.out _ _ (lies_new w _ [1, 2, 4])).mono ?_; rintro e w1 ⟨rfl, k1⟩
  have K := Lib.hid (((Kp.rfl' w).new _).trans k1)
  clear k1
  go_wp2_with fail
  go_ret
  exact ⟨rfl, K.out⟩

end Go.Proofs.Ytldkamhknaflbaa

/- Contracts of the document's answer on matrices (package rankmereref1: Mod, Unit, Flip, Copy, MatMul, MatAdd, Matrix, Field). For all packages. -/
namespace Go.Proofs.Ytldkamhknaflbaa
open Go.ChangeShapes Go.WideShapes Go.ChangeAt Go.RowKit
set_option linter.unusedVariables false

theorem own_made {w : World} {base g n : Nat} (h : w.ownsRow base 3 1 (.slice (some ⟨g, 0, none⟩) n n) n (madeCells #[.int .i64 0] (n * 1)).toList) : Own w base (.slice (some ⟨g, 0, none⟩) n n) (Mx.row n fun _ => 0) := by
  unfold Own
  rw [Mx.len_row, ← Mx.row_rep]
  rw [toList_madeCells_one, Nat.mul_one] at h
  simpa [ints] using h
theorem rval (a : Fp.F) : 0 ≤ (a.val : Int) ∧ (a.val : Int) ≤ 9972 := by have := a.isLt; omega
theorem rprod (a b : Fp.F) : 0 ≤ (a.val : Int) * (b.val : Int) ∧ (a.val : Int) * (b.val : Int) ≤ 99440784 := by
  have h1 := rval a
  have h2 := rval b
  exact ⟨Int.mul_nonneg h1.1 h2.1, Int.mul_le_mul h1.2 h2.2 h2.1 (by decide)⟩
theorem rzero : ((0 : Fp.F).val : Int) = 0 := rfl

theorem rMod_any (n : Int) (w : World) (h1 : -1000000000000000 ≤ n) (h2 : n ≤ 1000000000000000) :
    Calls Try.prog 10 #[.int .i64 n] w fun e w' => e = .returned (.int .i64 (n % 9973)) ∧ w = w' := by
  obtain ⟨f1, f2⟩ := Num.tmod_fix n 9973 (by omega)
  obtain ⟨b2, b1⟩ := Num.tmod_bound n 9973 (by omega)
  have F1 := Lib.hid f1
  have F2 := Lib.hid f2
  clear f1 f2
  by_cases h : n.tmod 9973 < 0
  · go_enter Try.func10, Try.ntmps10
    go_wp2
    go_ret
    exact ⟨ret_int (F1.out h), rfl⟩
  · have h' : 0 ≤ n.tmod 9973 := by omega
    clear h
    go_enter Try.func10, Try.ntmps10
    go_wp2
    go_ret
    exact ⟨ret_int (F2.out h'), rfl⟩

/-- A matrix that the call made. -/
def Made (r c : Nat) (f : Nat → Nat → Fp.F) (w : World) (e : Ending) (w' : World) : Prop := ∃ A d, e = .returned (.slice A r d) ∧ LiesM w' A (Mx.matl r c f) ∧ Kp w w'
/-- The same, to be written to. -/
def MadeOwn (r c : Nat) (f : Nat → Nat → Fp.F) (w : World) (e : Ending) (w' : World) : Prop := ∃ v G C, e = .returned v ∧ OwnM w' w.heap.size v G C (Mx.matl r c f) ∧ Kp w w'



end Go.Proofs.Ytldkamhknaflbaa

/- Contracts of the document's To: where a matrix takes a row. -/
namespace Go.Proofs.Ytldkamhknaflbaa
open Go.ChangeShapes Go.WideShapes Go.ChangeAt Go.RowKit
set_option linter.unusedVariables false

/-- A row made. -/
def MadeRow (n : Nat) (v : Nat → Fp.F) (w : World) (e : Ending) (w' : World) : Prop := ∃ A d, e = .returned (.slice A n d) ∧ Lies w' A (rowF n v) ∧ Kp w w'

set_option maxRecDepth 100000 in
set_option maxHeartbeats 6400000 in
theorem rTo_any (A X : Option Addr) (f : Nat → Nat → Fp.F) (x : Nat → Fp.F) (r c d e : Nat) (w : World) (ha : LiesM w A (Mx.matl r c f)) (hx : Lies w X (rowF c x)) (hr : r ≤ 1000) (hc : c ≤ 1000) :
    Calls Try.prog 12 #[.slice A r d, .slice X c e] w fun e w' => MadeRow r (Mx.tov c f x) w e w' := by
  have HA := Lib.hid ha
  have HX := Lib.hid hx
  clear ha hx
  go_enter Try.func12, Try.ntmps12
  go_wp2_with fail
  go_loopw [5, 6] (fun v i wr => ∃ k : Nat, k ≤ r ∧ i = .int .i64 (k : Int) ∧ Own wr w.heap.size v (rowF k (Mx.tov c f x)) ∧ Kp w wr) (fun _ i _ => r - (intOf i).toNat)
  case atStart => exact ⟨0, Nat.zero_le _, rfl, Own.none _ _, Kp.rfl' _⟩
  case round =>
    obtain ⟨k, hk, rfl, hu, hkq⟩ := hrel
    have HU := Lib.hid hu
    have HQ := Lib.hid hkq
    by_cases hlt : k < r
    · obtain ⟨w1, hw1⟩ : ∃ x, x = wr := ⟨_, rfl⟩
      subst hw1
      clear hu hkq
      go_wp2_with fail
      go_loopw [7, 8] (fun s i wz => ∃ p : Nat, p ≤ c ∧ i = .int .i64 (p : Int) ∧ s = .int .i64 ((Mx.sg p (fun j => f k j * x j)).val : Int) ∧ Drew w1 wz) (fun _ i _ => c - (intOf i).toNat)
      case atStart => exact ⟨0, Nat.zero_le _, rfl, rfl, Drew.refl _⟩
      case round =>
        obtain ⟨p, hp, rfl, rfl, hdr⟩ := hrel
        have HD := Lib.hid hdr
        by_cases hlt3 : p < c
        · have kz := HQ.out.trans hdr.kp
          obtain ⟨ad, A1, d1, rfl, _, x1, _, l1⟩ := (HA.out.keep kz).row hlt
          obtain ⟨ad1, rfl, _, x2⟩ := l1.el hlt3
          obtain ⟨xd, rfl, _, x4⟩ := (HX.out.keep kz).el hlt3
          have HSG := Lib.hid (show ((Mx.sg p (fun j => f k j * x j)).val : Int) + ((f k p).val : Int) * ((x p).val : Int) < 1000000000000 ∧ (((Mx.sg p (fun j => f k j * x j)).val : Int) + ((f k p).val : Int) * ((x p).val : Int)) % 9973 = ((Mx.sg (p + 1) (fun j => f k j * x j)).val : Int) by
            have b1 := gval (Mx.sg p (fun j => f k j * x j))
            have b2 := times_bound (f k p) (x p)
            exact ⟨by omega, Mx.val_more _ _ _⟩)
          have v0 := gval (Mx.sg p (fun j => f k j * x j))
          have v3 := times_bound (f k p) (x p)
          generalize ((Mx.sg p (fun j => f k j * x j)).val : Int) = u0 at *
          obtain ⟨u1, hu1⟩ : ∃ u1, u1 = ((Mx.sg (p + 1) (fun j => f k j * x j)).val : Int) := ⟨_, rfl⟩
          rw [← hu1] at HSG
          have HU1 := Lib.hid hu1
          generalize ((f k p).val : Int) = y at *
          generalize ((x p).val : Int) = z at *
          have hwm : IntKind.i64.wrap (y * z) = y * z := IntWalk.i64_in _ (by omega)
          have hwa : IntKind.i64.wrap (u0 + y * z) = u0 + y * z := IntWalk.i64_in _ (by omega)
          have MO := Lib.hid (fun w => (rMod_any (u0 + y * z) w (by omega) (by omega)))
          rw [HSG.out.2] at MO
          clear hdr kz l1 v0 v3 hu1
          go_wp2_with fail
          go_quiet ((first
            | (with_reducible exact quiet_here (MO.out _))
            | (with_reducible exact quiet_more (MO.out _))))
          go_wp2_with fail
          go_roundw
          case rel => exact ⟨p + 1, by omega, by go_num, by rw [HU1.out], HD.out.more _⟩
          case measure => simp [intOf]; omega
        · obtain rfl : p = c := by omega
          obtain ⟨wd, hwd⟩ : ∃ x, x = wr := ⟨_, rfl⟩
          subst hwd
          have hlen : (rowF k (Mx.tov p f x)).length + 1 ≤ 17000000000000 := by rw [Mx.len_row]; omega
          have HUd := Lib.hid (HU.out.kp HD.out.kp)
          have HQd := Lib.hid (HQ.out.trans HD.out.kp)
          have hsz := HQd.out.size
          have HSN := Lib.hid (show rowF (k + 1) (Mx.tov p f x) = rowF k (Mx.tov p f x) ++ [((Mx.sg p (fun j => f k j * x j)).val : Int)] from Mx.row_snoc k _)
          generalize ((Mx.sg p (fun j => f k j * x j)).val : Int) = z at *
          clear hdr
          go_wp2_with (at_builtin; refine wpList_push rfl _ _ rfl w.heap.size _ (rowF k (Mx.tov p f x)) z wd.heap.size 1 rfl rfl (HUd.out.new _) (by simp; done) hlen (Nat.le_trans hsz ((Kp.rfl' _).new _).size) ?_; intro v' w' h1 h2 _)
          have HU' := Lib.hid h1
          have HQ' := Lib.hid (own_below (HUd.out.new _) (HQd.out.new _) (Nat.le_trans hsz ((Kp.rfl' _).new _).size) h2)
          clear h1 h2
          go_wp2_with fail
          go_roundw
          case rel => exact ⟨k + 1, by omega, by go_num, by rw [HSN.out]; exact HU'.out, HQ'.out⟩
          case measure => simp [intOf]; omega
    · obtain rfl : k = r := by omega
      obtain ⟨A5, d5, rfl, hl5⟩ := hu.lies
      have HL := Lib.hid hl5
      rw [Mx.len_row]
      clear hu hkq hl5
      go_wp2_with fail
      go_ret
      exact ⟨A5, d5, rfl, HL.out, HQ.out⟩
end Go.Proofs.Ytldkamhknaflbaa

/- Plain facts on polynomials, second part: rows that are changed cell by cell, Euclid's steps, the monic one, and the numbers as the program has them. -/
namespace Go.Proofs.Ytldkamhknaflbaa.Pol
open Fp
set_option linter.unusedVariables false

theorem co_set (p : List F) (k m : Nat) (a : F) (h : k < p.length) : co (p.set k a) m = if m = k then a else co p m := by
  unfold co
  rw [List.getD_eq_getElem?_getD, List.getD_eq_getElem?_getD, List.getElem?_set]
  by_cases e : k = m
  · subst e; simp [h]
  · rw [if_neg e, if_neg (fun h => e h.symm)]

theorem ev_take_more (p : List F) (k : Nat) (x : F) : ev (p.take (k + 1)) x = ev (p.take k) x + co p k * pw x k := by
  rcases Nat.lt_or_ge k p.length with h | h
  · exact ev_take_succ p k h x
  · rw [List.take_of_length_le h, List.take_of_length_le (by omega), co_out p k h]; grind

/-- To R from place i on c times the first j of g are added. -/
def addAt (R : List F) (c : F) (g : List F) (i : Nat) : Nat → List F
  | 0 => R
  | j + 1 => (addAt R c g i j).set (i + j) (co (addAt R c g i j) (i + j) + c * co g j)
theorem len_addAt (R : List F) (c : F) (g : List F) (i j : Nat) : (addAt R c g i j).length = R.length := by
  induction j with
  | zero => rfl
  | succ j ih => rw [addAt, List.length_set, ih]
theorem ev_addAt (R : List F) (c : F) (g : List F) (i j : Nat) (h : i + j ≤ R.length) (x : F) : ev (addAt R c g i j) x = ev R x + c * pw x i * ev (g.take j) x := by
  induction j with
  | zero => rw [addAt, List.take_zero, ev_nil]; grind
  | succ j ih => rw [addAt, ev_set _ _ _ _ (by rw [len_addAt]; omega), ih (by omega), ev_take_more, pw_add]; grind
theorem co_addAt_far (R : List F) (c : F) (g : List F) (i j k : Nat) (h : i + j ≤ R.length) (hk : i + j ≤ k) : co (addAt R c g i j) k = co R k := by
  induction j with
  | zero => rfl
  | succ j ih => rw [addAt, co_set _ _ _ _ (by rw [len_addAt]; omega), if_neg (by omega), ih (by omega) (by omega)]
theorem co_addAt_top (R : List F) (c : F) (g : List F) (i m : Nat) (h : i + m < R.length) : co (addAt R c g i (m + 1)) (i + m) = co R (i + m) + c * co g m := by
  rw [addAt, co_set _ _ _ _ (by rw [len_addAt]; exact h), if_pos rfl, co_addAt_far R c g i m _ (by omega) (Nat.le_refl _)]

/-- The rows of a product, one after another. -/
def mulRows (f g : List F) : Nat → List F
  | 0 => List.replicate (f.length + g.length) 0
  | i + 1 => addAt (mulRows f g i) (co f i) g i g.length
theorem len_mulRows (f g : List F) (i : Nat) : (mulRows f g i).length = f.length + g.length := by
  induction i with
  | zero => rw [mulRows, List.length_replicate]
  | succ i ih => rw [mulRows, len_addAt, ih]
theorem ev_mulRows (f g : List F) (i : Nat) (h : i ≤ f.length) (x : F) : ev (mulRows f g i) x = ev (f.take i) x * ev g x := by
  induction i with
  | zero => rw [mulRows, ev_zeros, List.take_zero, ev_nil]; grind
  | succ i ih => rw [mulRows, ev_addAt _ _ _ _ _ (by rw [len_mulRows]; omega), List.take_length, ih (by omega), ev_take_more]; grind

/-- The sum, without noughts at its end. -/
def add (f g : List F) : List F := trim (padd f g)
/-- The product, without noughts at its end. -/
def mul (f g : List F) : List F := trim (pmul f g)
theorem ev_add (f g : List F) (x : F) : ev (add f g) x = ev f x + ev g x := by rw [add, ev_trim, ev_padd]
theorem ev_mul (f g : List F) (x : F) : ev (mul f g) x = ev f x * ev g x := by rw [mul, ev_trim, ev_pmul]
theorem tr_add (f g : List F) : Tr (add f g) := tr_trim _
theorem tr_mul (f g : List F) : Tr (mul f g) := tr_trim _
theorem len_add (f g : List F) : (add f g).length ≤ max f.length g.length := Nat.le_trans (len_trim _) (Nat.le_of_eq (len_padd _ _))
theorem len_mul (f g : List F) : (mul f g).length ≤ f.length + g.length := Nat.le_trans (len_trim _) (len_pmul_le _ _)
theorem len_mul' (f g : List F) (h : f.length + g.length ≤ 9973) : (mul f g).length ≤ f.length + g.length - 1 := by
  by_cases h1 : f = []
  · subst h1; rw [mul, pmul, trim_nil]; simp
  · by_cases h2 : g = []
    · have : mul f g = [] := zero_of _ (tr_mul f g) (Nat.le_trans (len_mul f g) h) fun x => by rw [ev_mul, h2, ev_nil]; grind
      rw [this]; simp
    · have := len_pmul f g h1 h2
      have := len_trim (pmul f g)
      rw [mul]; omega
theorem is_add (f g r : List F) (lf : f.length ≤ 1000) (lg : g.length ≤ 1000) (lr : r.length ≤ 1000) (h : ∀ x, ev r x = ev f x + ev g x) : trim r = add f g := by
  have := len_add f g
  have := len_trim r
  exact same _ _ (tr_trim r) (tr_add f g) (by omega) (by omega) fun x => by rw [ev_trim, h, ev_add]
theorem is_mul (f g r : List F) (lf : f.length ≤ 1000) (lg : g.length ≤ 1000) (lr : r.length ≤ 2000) (h : ∀ x, ev r x = ev f x * ev g x) : trim r = mul f g := by
  have := len_mul f g
  have := len_trim r
  exact same _ _ (tr_trim r) (tr_mul f g) (by omega) (by omega) fun x => by rw [ev_trim, h, ev_mul]
theorem rows_mul (f g : List F) (lf : f.length ≤ 1000) (lg : g.length ≤ 1000) : trim (mulRows f g f.length) = mul f g :=
  is_mul f g _ lf lg (by rw [len_mulRows]; omega) fun x => by rw [ev_mulRows f g _ (Nat.le_refl _), List.take_length]
/-- The sum's row: f, noughts behind it, g added. -/
theorem row_add (f g : List F) (lf : f.length ≤ 1000) (lg : g.length ≤ 1000) :
    trim (addAt (f ++ List.replicate (max f.length g.length - f.length) 0) 1 g 0 g.length) = add f g :=
  is_add f g _ lf lg (by rw [len_addAt, List.length_append, List.length_replicate]; omega) fun x => by
    rw [ev_addAt _ _ _ _ _ (by rw [List.length_append, List.length_replicate]; omega), ev_append, ev_zeros, List.take_length, pw_zero]; grind

theorem mul_of (f g : List F) (lf : f.length ≤ 1000) (lg : g.length ≤ 1000) (h : trim g ≠ []) : mul f g = pmul (trim f) (trim g) := by
  have := len_mul f g
  have := len_trim f
  have := len_trim g
  have := len_pmul_le (trim f) (trim g)
  exact same _ _ (tr_mul f g) (tr_pmul _ _ (tr_trim f) (tr_trim g) h) (by omega) (by omega) fun x => by rw [ev_mul, ev_pmul, ev_trim, ev_trim]

/-- EUCLID's steps: from f and g they come to c. -/
inductive Gc : List F → List F → List F → Prop
  | done (f : List F) : Gc f [] f
  | step {f g q r c : List F} (d : Dv f g q r) (h : Gc g r c) : Gc f g c

theorem Dv.ne {f g q r : List F} (h : Dv f g q r) : g ≠ [] := fun e => by
  have := h.lt
  rw [e] at this; simp at this

theorem Gc.one {f g c : List F} (h : Gc f g c) : ∀ {c' : List F}, Tr g → f.length ≤ 1000 → g.length ≤ 1000 → Gc f g c' → c = c' := by
  induction h with
  | done f =>
    intro c' _ _ _ h'
    cases h' with
    | done => rfl
    | step d _ => exact absurd rfl d.ne
  | step d h ih =>
    intro c' hg lf lg h'
    cases h' with
    | done => exact absurd rfl d.ne
    | step d' h' =>
      obtain ⟨rfl, rfl⟩ := d.one hg lf lg d'
      have := d.lt
      exact ih d.tr lg (by omega) h'

theorem Gc.facts {f g c : List F} (h : Gc f g c) : Tr f → Tr g → f.length ≤ 1000 → g.length ≤ 1000 → Tr c ∧ c.length ≤ 1000 ∧ (c = [] ↔ f = [] ∧ g = []) ∧
    ∃ a b, Tr a ∧ Tr b ∧ a.length ≤ f.length ∧ b.length ≤ g.length ∧ (∀ x, ev f x = ev c x * ev a x) ∧ (∀ x, ev g x = ev c x * ev b x) := by
  induction h with
  | done f =>
    intro hf _ lf _
    refine ⟨hf, lf, ⟨fun h => ⟨h, rfl⟩, fun h => h.1⟩, ?_⟩
    by_cases h0 : f = []
    · subst h0
      exact ⟨[], [], tr_nil, tr_nil, Nat.le_refl _, Nat.le_refl _, fun x => by rw [ev_nil]; grind, fun x => by rw [ev_nil]; grind⟩
    · have := List.length_pos_iff.2 h0
      exact ⟨[1], [], fun _ => by simp [co], tr_nil, by simp; omega, Nat.le_refl _, fun x => by rw [ev_one]; grind, fun x => by rw [ev_nil]; grind⟩
  | @step f g q r c d h ih =>
    intro hf hg lf lg
    have hlt := d.lt
    have hlq := d.lq
    obtain ⟨tc, lc, hz, a, b, ta, tb, la, lb, ea, eb⟩ := ih hg d.tr lg (by omega)
    have c0 : c ≠ [] := fun e => d.ne (hz.1 e).1
    refine ⟨tc, lc, ⟨fun e => absurd e c0, fun e => absurd e.2 d.ne⟩, trim (padd (pmul a q) b), a, tr_trim _, ta, ?_, la, fun x => ?_, ea⟩
    · by_cases z : trim (padd (pmul a q) b) = []
      · rw [z]; simp
      · have e1 := len_trim (padd (pmul a q) b)
        rw [len_padd] at e1
        have e2 := len_pmul_le a q
        have e := prod_len c _ f tc (tr_trim _) hf c0 z (by omega) (by omega) fun x => by
          rw [ev_trim, ev_padd, ev_pmul, d.eq, ea, eb]; grind
        have l := len_pmul c _ c0 z
        rw [← e] at l
        have := List.length_pos_iff.2 c0
        omega
    · rw [ev_trim, ev_padd, ev_pmul, d.eq, ea, eb]; grind

theorem Dv.scale {f g q r h : List F} (d : Dv f g q r) (hh : Tr h) (h0 : h ≠ []) : Dv (pmul f h) (pmul g h) q (pmul r h) := by
  have g0 := d.ne
  have lg := len_pmul g h g0 h0
  have lh := List.length_pos_iff.2 h0
  have lgp := List.length_pos_iff.2 g0
  have hlt := d.lt
  have hlq := d.lq
  refine ⟨d.tq, tr_pmul r h d.tr hh h0, ?_, ?_, fun x => by rw [ev_pmul, ev_pmul, ev_pmul, d.eq]; grind⟩
  · by_cases r0 : r = []
    · rw [r0, pmul]; simp; omega
    · have := len_pmul r h r0 h0; omega
  · by_cases f0 : f = []
    · rw [f0] at hlq; simp at hlq; rw [hlq]; simp
    · have := len_pmul f h f0 h0; omega
theorem Gc.scale {f g c h : List F} (d : Gc f g c) (hh : Tr h) (h0 : h ≠ []) : Gc (pmul f h) (pmul g h) (pmul c h) := by
  induction d with
  | done f => exact .done _
  | step d _ ih => exact .step (d.scale hh h0) ih

theorem swap (a b i : F) (h : i * (a * b) = 1) : (i * b) * a = 1 := by rw [Fin.mul_assoc, Fin.mul_comm b, h]
theorem cancel (a b i : F) (h : i * b = 1) : a + -(a * i) * b = 0 := by
  have : (a * i) * b = a := by rw [Fin.mul_assoc, h, Fin.mul_one]
  have e : -(a * i) * b = -((a * i) * b) := by grind
  rw [e, this]; grind
/-- The greatest factor. -/
def top (p : List F) : F := co p (p.length - 1)
theorem top_ne {p : List F} (h : Tr p) (h0 : p ≠ []) : top p ≠ 0 := h h0
/-- Made monic. -/
def mon (p : List F) : List F := times (inv (top p)) p
theorem mon_nil : mon [] = [] := rfl
theorem len_mon (p : List F) : (mon p).length = p.length := len_times _ _
theorem mon_ne {p : List F} (h0 : p ≠ []) : mon p ≠ [] := fun e => h0 (List.eq_nil_of_length_eq_zero (by rw [← len_mon, e]; rfl))
theorem ev_mon (p : List F) (x : F) : ev (mon p) x = inv (top p) * ev p x := ev_times _ _ _
theorem top_mon {p : List F} (h : Tr p) (h0 : p ≠ []) : top (mon p) = 1 := by
  rw [top, len_mon, mon, co_times]
  exact inv_mul (top_ne h h0)
theorem tr_mon {p : List F} (h : Tr p) : Tr (mon p) := fun h1 => by
  have h0 : p ≠ [] := fun e => h1 (by rw [e]; rfl)
  have := top_mon h h0
  rw [top] at this
  rw [this]; exact one_ne
theorem inv_ne {a : F} (h : a ≠ 0) : inv a ≠ 0 := fun e => by
  have := inv_mul h
  rw [e] at this
  exact one_ne (by rw [← this]; grind)
theorem tr_times {c : F} {p : List F} (hc : c ≠ 0) (h : Tr p) : Tr (times c p) := fun h1 => by
  have h0 : p ≠ [] := fun e => h1 (by rw [e]; rfl)
  rw [len_times, co_times]
  intro e
  rcases mul_zero_or e with e | e
  · exact hc e
  · exact h h0 e

/-- What is divided by its greatest factor alone. -/
theorem mon_dv {p q r : List F} (h : Tr p) (h0 : p ≠ []) (lp : p.length ≤ 1000) (d : Dv p [top p] q r) : q = mon p := by
  have t := top_ne h h0
  have t1 : Tr [top p] := fun _ => t
  refine (d.one t1 lp (by simp) ⟨tr_mon h, tr_nil, by simp, by rw [len_mon]; exact Nat.le_refl _, fun x => ?_⟩).1
  rw [ev_one, ev_mon, ev_nil]
  have := mul_inv t
  grind

/-- c divides f, and so does it made monic. -/
theorem mon_divides {f c a : List F} (hc : Tr c) (h0 : c ≠ []) (ha : Tr a) (la : a.length ≤ f.length) (h : ∀ x, ev f x = ev c x * ev a x) : Dv f (mon c) (times (top c) a) [] := by
  have t := top_ne hc h0
  have := List.length_pos_iff.2 h0
  refine ⟨tr_times t ha, tr_nil, by rw [len_mon]; simpa using this, by rw [len_times]; exact la, fun x => ?_⟩
  rw [ev_mon, ev_times, ev_nil, h]
  have := inv_mul t
  grind

theorem top_pmul {p q : List F} (h1 : p ≠ []) (h2 : q ≠ []) : top (pmul p q) = top p * top q := by
  have l1 := List.length_pos_iff.2 h1
  have l2 := List.length_pos_iff.2 h2
  have e := len_pmul p q h1 h2
  rw [top, show (pmul p q).length - 1 = (p.length - 1) + (q.length - 1) by omega]
  exact co_pmul p q _ _ (by omega) (by omega)

/-- The monic divisor so many times, by the monic divisor of what is so many times: a number. -/
theorem mon_scale {c h : List F} (hc : Tr c) (hh : Tr h) (c0 : c ≠ []) (h0 : h ≠ []) : Dv (pmul (mon c) h) (mon (pmul c h)) [top h] [] := by
  have tc := top_ne hc c0
  have th := top_ne hh h0
  have l := List.length_pos_iff.2 (pmul_ne c h c0 h0)
  have l2 := List.length_pos_iff.2 (pmul_ne (mon c) h (mon_ne c0) h0)
  refine ⟨fun _ => th, tr_nil, by rw [len_mon]; simpa using l, by simp; omega, fun x => ?_⟩
  rw [ev_pmul, ev_mon, ev_mon, ev_pmul, ev_one, ev_nil, top_pmul c0 h0]
  have e1 := inv_mul tc
  have e2 := inv_mul th
  have e3 : inv (top c * top h) * (top c * top h) = 1 := inv_mul fun e => by
    rcases mul_zero_or e with e | e
    · exact tc e
    · exact th e
  have e4 : inv (top c * top h) * top h = inv (top c) := by
    have : (inv (top c * top h) * top h) * top c = inv (top c) * top c := by rw [e1]; exact swap _ _ _ e3
    exact mul_cancel tc this
  rw [← e4]; grind

/-- The same one, so many times and shifted, added: as the document's answer does it. -/
def shift (t : F) (up : Nat) (g : List F) : List F := List.replicate up 0 ++ times t g
theorem ev_shift (t : F) (up : Nat) (g : List F) (x : F) : ev (shift t up g) x = t * pw x up * ev g x := by
  rw [shift, ev_append, ev_zeros, ev_times, List.length_replicate]; grind
theorem len_shift (t : F) (up : Nat) (g : List F) : (shift t up g).length = up + g.length := by rw [shift, List.length_append, List.length_replicate, len_times]
theorem co_shift_low (t : F) (up : Nat) (g : List F) (k : Nat) (h : k < up) : co (shift t up g) k = 0 := by
  rw [shift, co, List.getD_eq_getElem?_getD, List.getElem?_append_left (by simpa using h)]
  simp [h]
theorem co_shift (t : F) (up : Nat) (g : List F) (k : Nat) (h : up ≤ k) : co (shift t up g) k = t * co g (k - up) := by
  rw [← co_times, shift, co, List.getD_eq_getElem?_getD, List.getElem?_append_right (by simpa using h), List.length_replicate, co, List.getD_eq_getElem?_getD]
def plus (f g : List F) (t : F) (up : Nat) : List F := trim (padd f (shift t up g))
theorem ev_plus (f g : List F) (t : F) (up : Nat) (x : F) : ev (plus f g t up) x = ev f x + t * pw x up * ev g x := by rw [plus, ev_trim, ev_padd, ev_shift]
theorem tr_plus (f g : List F) (t : F) (up : Nat) : Tr (plus f g t up) := tr_trim _
theorem len_plus (f g : List F) (t : F) (up : Nat) : (plus f g t up).length ≤ max f.length (up + g.length) := by
  have := len_trim (padd f (shift t up g))
  rw [len_padd, len_shift] at this
  exact this
/-- The row of the first k of a sum. -/
def plusRow (f g : List F) (t : F) (up : Nat) : Nat → List F
  | 0 => []
  | k + 1 => plusRow f g t up k ++ [co f k + co (shift t up g) k]
theorem len_plusRow (f g : List F) (t : F) (up k : Nat) : (plusRow f g t up k).length = k := by
  induction k with
  | zero => rfl
  | succ k ih => rw [plusRow, List.length_append, ih]; rfl
theorem ev_plusRow (f g : List F) (t : F) (up k : Nat) (x : F) : ev (plusRow f g t up k) x = ev (f.take k) x + ev ((shift t up g).take k) x := by
  induction k with
  | zero => rw [plusRow, List.take_zero, List.take_zero, ev_nil]; grind
  | succ k ih => rw [plusRow, ev_snoc, len_plusRow, ih, ev_take_more, ev_take_more]; grind
theorem row_plus (f g : List F) (t : F) (up k : Nat) (h1 : f.length ≤ k) (h2 : up + g.length ≤ k) (hk : k ≤ 1000) : trim (plusRow f g t up k) = plus f g t up := by
  have := len_trim (plusRow f g t up k)
  have e := len_plusRow f g t up k
  have := len_plus f g t up
  refine same _ _ (tr_trim _) (tr_plus f g t up) (by omega) (by omega) fun x => ?_
  rw [ev_trim, ev_plusRow, ev_plus, List.take_of_length_le h1, List.take_of_length_le (by rw [len_shift]; exact h2), ev_shift]

/-- One step of dividing takes the greatest factor away. -/
theorem plus_less (f g : List F) (hf : f ≠ []) (hg : Tr g) (g0 : g ≠ []) (hl : g.length ≤ f.length) :
    (plus f g (-(top f * inv (top g))) (f.length - g.length)).length < f.length := by
  have l1 := List.length_pos_iff.2 hf
  have l2 := List.length_pos_iff.2 g0
  have t := top_ne hg g0
  have : (plus f g (-(top f * inv (top g))) (f.length - g.length)).length ≤ f.length - 1 := trim_short _ _ fun k hk => by
    rw [co_padd, co_shift _ _ _ _ (by omega)]
    by_cases e : k = f.length - 1
    · have e2 : k - (f.length - g.length) = g.length - 1 := by omega
      have e3 : co f k = top f := by rw [e]; rfl
      have e4 : co g (g.length - 1) = top g := rfl
      rw [e2, e3, e4]
      exact cancel _ _ _ (inv_mul t)
    · rw [co_out f k (by omega), co_out g _ (by omega), Fin.mul_zero, Fin.add_zero]
  omega

/-- The numbers of a row as the program has them. -/
def vals (p : List F) : List Int := p.map fun a => (a.val : Int)
theorem len_vals (p : List F) : (vals p).length = p.length := List.length_map ..
theorem vals_at (p : List F) (k : Nat) : (vals p).getD k 0 = ((co p k).val : Int) := by
  unfold vals co
  rw [List.getD_eq_getElem?_getD, List.getD_eq_getElem?_getD, List.getElem?_map]
  cases p[k]? <;> rfl
theorem vals_set (p : List F) (k : Nat) (a : F) : vals (p.set k a) = (vals p).set k (a.val : Int) := List.map_set ..
theorem vals_take (p : List F) (k : Nat) : vals (p.take k) = (vals p).take k := List.map_take ..
theorem vals_append (p q : List F) : vals (p ++ q) = vals p ++ vals q := List.map_append ..
theorem vals_inj {p q : List F} (h : vals p = vals q) : p = q := by
  refine list_ext p q (by rw [← len_vals p, h, len_vals]) fun k => ?_
  have := vals_at p k
  rw [h, vals_at] at this
  exact (val_inj this).symm
theorem vals_zeros (n : Nat) : vals (List.replicate n 0) = List.replicate n 0 := List.map_replicate ..

/-- What is wrong with a row of numbers, as a number. -/
def code (l : List Int) : Nat := if 12 < l.length then 4 else if ∀ n ∈ l, 0 ≤ n ∧ n ≤ 9972 then 0 else 1
theorem code_zero {l : List Int} (h : code l = 0) : ∃ p : List F, l = vals p ∧ p.length ≤ 12 := by
  unfold code at h
  split at h
  · cases h
  · split at h
    · rename_i h1 h2
      refine ⟨l.map ofInt, ?_, by simpa using h1⟩
      unfold vals
      rw [List.map_map]
      conv => lhs; rw [← List.map_id l]
      exact List.map_congr_left fun n hn => (ofInt_of n (h2 n hn).1 (h2 n hn).2).symm
    · cases h
theorem code_vals (p : List F) (h : p.length ≤ 12) : code (vals p) = 0 := by
  unfold code
  rw [if_neg (by rw [len_vals]; omega), if_pos]
  intro n hn
  obtain ⟨a, _, rfl⟩ := List.mem_map.1 hn
  exact val_bound a
theorem code_some (l : List Int) : code l = 0 ∨ code l = 1 ∨ code l = 4 := by
  unfold code
  split
  · exact .inr (.inr rfl)
  · split
    · exact .inl rfl
    · exact .inr (.inl rfl)
theorem code_full {l : List Int} (h : 12 < l.length) : code l = 4 := by unfold code; rw [if_pos h]
theorem code_range {l : List Int} (h : ¬ 12 < l.length) {k : Nat} (hk : k < l.length) (hn : ¬ (0 ≤ l.getD k 0 ∧ l.getD k 0 ≤ 9972)) : code l = 1 := by
  unfold code
  rw [if_neg h, if_neg]
  intro f
  refine hn ?_
  rw [List.getD_eq_getElem?_getD, List.getElem?_eq_getElem hk]
  exact f _ (List.getElem_mem _)
theorem code_ok {l : List Int} (h : ¬ 12 < l.length) (hn : ∀ k, k < l.length → 0 ≤ l.getD k 0 ∧ l.getD k 0 ≤ 9972) : code l = 0 := by
  unfold code
  rw [if_neg h, if_pos]
  intro n hm
  obtain ⟨k, hk, rfl⟩ := List.mem_iff_getElem.1 hm
  have := hn k hk
  rwa [List.getD_eq_getElem?_getD, List.getElem?_eq_getElem hk] at this
theorem code_zero_iff (l : List Int) : code l = 0 ↔ l.length ≤ 12 ∧ ∀ k, k < l.length → 0 ≤ l.getD k 0 ∧ l.getD k 0 ≤ 9972 := by
  constructor
  · intro h
    obtain ⟨p, rfl, hp⟩ := code_zero h
    refine ⟨by rw [len_vals]; exact hp, fun k _ => ?_⟩
    rw [vals_at]; exact val_bound _
  · rintro ⟨h1, h2⟩
    exact code_ok (by omega) h2

/-- The error of two rows, as a number. -/
def code2 (l m : List Int) : Nat := if code l = 0 then code m else code l
theorem code2_zero {l m : List Int} (h : code2 l m = 0) : code l = 0 ∧ code m = 0 := by
  unfold code2 at h
  split at h
  · exact ⟨by assumption, h⟩
  · contradiction

/-- Sums and products as the program has them. -/
theorem val_madd (s a b : F) : ((s.val : Int) + (a.val : Int) * (b.val : Int)) % 9973 = ((s + a * b).val : Int) := by
  rw [add_val, mul_val, Int.add_emod_emod]
theorem val_msub (s t c : F) : ((s.val : Int) + (9973 - (t.val : Int)) * (c.val : Int)) % 9973 = ((s + -t * c).val : Int) := by
  have e : ofInt (9973 - (t.val : Int)) = -t := by
    have : ofInt (9973 - (t.val : Int)) + ofInt (t.val : Int) = 0 := by
      rw [← ofInt_add, show 9973 - (t.val : Int) + (t.val : Int) = 9973 by omega]; rfl
    rw [ofInt_self] at this; grind
  have h := ofInt_val ((s.val : Int) + (9973 - (t.val : Int)) * (c.val : Int))
  rw [ofInt_add, ofInt_mul, e, ofInt_self, ofInt_self] at h
  exact h.symm
theorem val_horner (v x a : F) : ((v.val : Int) * (x.val : Int) + (a.val : Int)) % 9973 = ((a + x * v).val : Int) := by
  rw [add_val, mul_val, Int.add_emod_emod]
  congr 1
  rw [Int.mul_comm (x.val : Int)]; omega

end Go.Proofs.Ytldkamhknaflbaa.Pol

/- Contracts of package poly, first part: a row of memory of the call's own, Check, checkBoth, trimmed. -/
namespace Go.Proofs.Ytldkamhknaflbaa
open Go.ChangeShapes Go.WideShapes Go.ChangeAt Go.RowKit
set_option linter.unusedVariables false

theorem check_full (A : Option Addr) (l : List Int) (c : Nat) (w : World) (h : 12 < l.length) :
    Calls Try.prog 28 #[.slice A l.length c] w fun e w' => e = .returned (errOf (Pol.code l)) ∧ w = w' := by
  rw [Pol.code_full h]
  generalize l.length = n at *
  have h' : (12 : Int) < n := by omega
  go_enter Try.func28, Try.ntmps28
  go_wp2
  go_ret
  exact ⟨rfl, rfl⟩

set_option maxHeartbeats 800000 in
theorem check_few (A : Option Addr) (l : List Int) (c : Nat) (w : World) (hl : Lies w A l) (hn : ¬ 12 < l.length) :
    Calls Try.prog 28 #[.slice A l.length c] w fun e w' => e = .returned (errOf (Pol.code l)) ∧ w = w' := by
  have HL := Lib.hid hl
  have BAD := Lib.hid (fun k hk h => Pol.code_range hn (k := k) hk h)
  have OK := Lib.hid (Pol.code_ok hn)
  obtain ⟨n, hn'⟩ : ∃ n, n = l.length := ⟨_, rfl⟩
  rw [← hn'] at hn ⊢
  rw [← hn'] at BAD OK
  have HN := Lib.hid hn'
  have h' : ¬ (12 : Int) < n := by omega
  obtain ⟨v, hv⟩ : ∃ v, v = Pol.code l := ⟨_, rfl⟩
  rw [← hv] at BAD OK ⊢
  clear hl hn' hv
  go_enter Try.func28, Try.ntmps28
  go_wp2_with fail
  go_loop [11] (fun i => ∃ k : Nat, k ≤ n ∧ i = .int .i64 (k : Int) ∧ ∀ j, j < k → 0 ≤ l.getD j 0 ∧ l.getD j 0 ≤ 9972) (fun i => n - (intOf i).toNat)
  case atStart => exact ⟨0, Nat.zero_le _, rfl, fun j hj => absurd hj (by omega)⟩
  case round =>
    obtain ⟨k, hk, rfl, hg⟩ := hrel
    have HG := Lib.hid hg
    clear hg
    by_cases hlt : k < n
    · obtain ⟨ad, rfl, _, hc⟩ := HL.out k (by have := HN.out; omega)
      obtain ⟨m, hm⟩ : ∃ m, m = l.getD k 0 := ⟨_, rfl⟩
      rw [← hm] at hc
      by_cases h0 : m < 0
      · have E := Lib.hid (BAD.out k hlt (by rw [← hm]; omega))
        clear hm
        go_wp2_with fail
        go_ret
        exact ⟨by rw [E.out]; rfl, rfl⟩
      · by_cases h1 : m ≤ 9972
        · have GG := Lib.hid (show ∀ j, j < k + 1 → 0 ≤ l.getD j 0 ∧ l.getD j 0 ≤ 9972 from fun j hj => by
            by_cases e : j = k
            · subst e; rw [← hm]; omega
            · exact HG.out j (by omega))
          clear hm
          go_wp2_with fail
          go_round
          case rel => exact ⟨k + 1, by omega, by go_num, GG.out⟩
          case measure => simp [intOf]; omega
        · have E := Lib.hid (BAD.out k hlt (by rw [← hm]; omega))
          clear hm
          go_wp2_with fail
          go_ret
          exact ⟨by rw [E.out]; rfl, rfl⟩
    · have E := Lib.hid (OK.out fun j hj => HG.out j (by omega))
      go_wp2_with fail
      go_ret
      exact ⟨by rw [E.out]; rfl, rfl⟩

theorem check_any (A : Option Addr) (l : List Int) (c : Nat) (w : World) (hl : Lies w A l) :
    Calls Try.prog 28 #[.slice A l.length c] w fun e w' => e = .returned (errOf (Pol.code l)) ∧ w = w' := by
  by_cases h : 12 < l.length
  · exact check_full A l c w h
  · exact check_few A l c w hl h

theorem pcheckBoth_any (A B : Option Addr) (l m : List Int) (c d : Nat) (w : World) (ha : Lies w A l) (hb : Lies w B m) :
    Calls Try.prog 45 #[.slice A l.length c, .slice B m.length d] w fun e w' => e = .returned (errOf (Pol.code2 l m)) ∧ w = w' := by
  have CA := Lib.hid (check_any A l c w ha)
  have CB := Lib.hid (check_any B m d w hb)
  unfold Pol.code2
  have hs := Pol.code_some l
  generalize Pol.code l = x at *
  generalize Pol.code m = y at *
  generalize l.length = n at *
  generalize m.length = q at *
  clear ha hb
  rcases hs with rfl | rfl | rfl
  · go_enter Try.func45, Try.ntmps45
    go_wp2_with fail
    refine (CA.out).mono ?_; rintro e w' ⟨rfl, rfl⟩
    rw [show errOf 0 = .nilIface from rfl]
    go_wp2_with fail
    refine (CB.out).mono ?_; rintro e w' ⟨rfl, rfl⟩
    go_wp2_with fail
    go_ret
    exact ⟨rfl, rfl⟩
  · go_enter Try.func45, Try.ntmps45
    go_wp2_with fail
    refine (CA.out).mono ?_; rintro e w' ⟨rfl, rfl⟩
    rw [show errOf 1 = .iface 56 (.int .i64 1) from rfl]
    go_wp2_with fail
    go_ret
    exact ⟨rfl, rfl⟩
  · go_enter Try.func45, Try.ntmps45
    go_wp2_with fail
    refine (CA.out).mono ?_; rintro e w' ⟨rfl, rfl⟩
    rw [show errOf 4 = .iface 56 (.int .i64 4) from rfl]
    go_wp2_with fail
    go_ret
    exact ⟨rfl, rfl⟩

/-- How long a slice is. -/
def sliceLen : Value → Nat
  | .slice _ n _ => n
  | _ => 0

theorem trim_step0 (p : List Fp.F) (k : Nat) (hk : k < p.length) (h : Pol.co p k = 0) : Pol.trim (p.take (k + 1)) = Pol.trim (p.take k) := by
  rw [Pol.take_succ p k hk, h, Pol.trim_zero]

theorem trimmed_any (A : Option Addr) (p : List Fp.F) (c : Nat) (w : World) (hl : Lies w A (Pol.vals p)) (hc : p.length ≤ c) (hn : p.length ≤ 1000000) :
    Calls Try.prog 46 #[.slice A p.length c] w fun e w' => e = .returned (.slice A (Pol.trim p).length c) ∧ w = w' := by
  have HL := Lib.hid hl
  obtain ⟨n, hn'⟩ : ∃ n, n = p.length := ⟨_, rfl⟩
  rw [← hn'] at hn hc ⊢
  have HN := Lib.hid hn'
  clear hl hn'
  go_enter Try.func46, Try.ntmps46
  go_wp2_with fail
  go_loop [0] (fun v => ∃ k : Nat, k ≤ n ∧ v = .slice A k c ∧ Pol.trim (p.take k) = Pol.trim p) (fun v => sliceLen v)
  case atStart => exact ⟨n, Nat.le_refl _, rfl, by rw [HN.out, List.take_length]⟩
  case round =>
    obtain ⟨k, hk, rfl, ht⟩ := hrel
    have HT := Lib.hid ht
    clear ht
    cases k with
    | zero =>
      have E := Lib.hid (show Pol.trim p = [] by rw [← HT.out]; rfl)
      go_wp2_with fail
      go_ret
      exact ⟨by rw [E.out]; rfl, rfl⟩
    | succ k =>
      obtain ⟨ad, rfl, _, hcell⟩ := HL.out k (by rw [Pol.len_vals, ← HN.out]; omega)
      rw [Pol.vals_at] at hcell
      by_cases h0 : Pol.co p k = 0
      · have e0 : (((Pol.co p k).val : Int) == 0) = true := by rw [h0]; rfl
        have ST := Lib.hid (trim_step0 p k (by have := HN.out; omega) h0)
        generalize ((Pol.co p k).val : Int) = m at *
        clear h0
        go_wp2_with fail
        go_round
        case rel => exact ⟨k, by omega, rfl, by rw [← ST.out]; exact HT.out⟩
        case measure => simp [sliceLen]
      · have e0 : (((Pol.co p k).val : Int) == 0) = false := by rw [beq_eq_false_iff_ne]; intro e; exact h0 (Fp.val_inj e)
        have E := Lib.hid (show Pol.trim p = p.take (k + 1) by rw [← HT.out, Pol.take_succ p k (by have := HN.out; omega), Pol.trim_not _ _ h0])
        have E2 := Lib.hid (show (p.take (k + 1)).length = k + 1 by rw [List.length_take]; have := HN.out; omega)
        generalize ((Pol.co p k).val : Int) = m at *
        clear h0
        go_wp2_with fail
        go_ret
        exact ⟨by rw [E.out, E2.out]; rfl, rfl⟩

end Go.Proofs.Ytldkamhknaflbaa

/- Contracts of package poly, second part: Add and Mul. -/
namespace Go.Proofs.Ytldkamhknaflbaa
open Go.ChangeShapes Go.WideShapes Go.ChangeAt Go.RowKit
set_option linter.unusedVariables false

/-- The answer is a row of factors, and no error. -/
def Gives (l : List Fp.F) (w : World) (e : Ending) (w' : World) : Prop :=
  ∃ A c, e = .returned (.tuple #[.slice A l.length c, .nilIface]) ∧ Lies w' A (Pol.vals l) ∧ l.length ≤ c ∧ Kp w w'
/-- The answer is an error, and nothing else. -/
def Fails (c : Nat) (w : World) (e : Ending) (w' : World) : Prop := e = .returned (.tuple #[.slice none 0 0, errOf c]) ∧ Kp w w'

theorem Row.trim {w : World} {g : Nat} {R : List Fp.F} (h : Row w g (Pol.vals R)) : Lies w (some ⟨g, 0, none⟩) (Pol.vals (Pol.trim R)) := by
  rw [Pol.trim_take, Pol.vals_take]; exact h.lies.take _

set_option maxRecDepth 100000 in
/-- copy(row, l): a row of noughts just made, and a slice that is no longer. -/
theorem copy_run (w1 : World) (g N n c : Nat) (A : Option Addr) (p : List Fp.F) (ty : TypeId) (hr : Row w1 g (Pol.vals (List.replicate N 0))) (hl : Lies w1 A (Pol.vals p)) (hn : n = p.length) (hN : n ≤ N) :
    ∃ w2, (Builtin.copy_ #[22, 22] ty #[.slice (some ⟨g, 0, none⟩) N N, .slice A n c]).run Try.prog w1 = .ok (goInt n) w2 ∧
      Row w2 g (Pol.vals (p ++ List.replicate (N - n) 0)) ∧ ∀ B w0, Below B w0 w1 → B ≤ g → Below B w0 w2 := by
  obtain ⟨i0, hi, hz0, hz1, hz2⟩ := info_parts int_info
  have hsz : (Try.prog.info? 3).map (·.size) = some 1 := by rw [hi]; simp [hz1]
  subst hn
  by_cases h0 : p.length = 0
  · obtain rfl : p = [] := List.eq_nil_of_length_eq_zero h0
    exact ⟨w1, run_copy_none w1 _ _ ty 3 _ A N N 0 c Try.underlying22 hsz (by simp), by simpa using hr, fun _ _ h _ => h⟩
  · obtain ⟨ad, rfl, _, _⟩ := hl 0 (by rw [Pol.len_vals]; omega)
    have hlen : (ints (Pol.vals p)).length = p.length := by rw [ints, List.length_map, Pol.len_vals]
    have hrun := run_copy_row (P := Try.prog) w1 22 22 ty 3 g 0 N N ad p.length c _ 3 (ints (Pol.vals p)) Try.underlying22 hsz hr (by rw [hlen]; exact (Nat.min_eq_left hN).symm)
      (fun j v hj => by
        have hj' : j < (Pol.vals p).length := by
          rcases Nat.lt_or_ge j (Pol.vals p).length with hlt | hge
          · exact hlt
          · rw [List.getElem?_eq_none (by simpa using hge)] at hj; cases hj
        obtain ⟨ad', e, _, hc⟩ := hl j hj'
        injection e with e
        subst e
        rw [hc, ← hj]
        simp [hj']) (by rw [hlen]; simp [Pol.len_vals]; omega) (fun v hv => by simp at hv; obtain ⟨y, _, rfl⟩ := hv; rfl)
    rw [hlen] at hrun
    refine ⟨_, hrun, ?_, fun B w0 hb hB => below_setRow hb hB _⟩
    unfold Row
    rw [setRow_heap w1 g _ _ 3 (0, 0) hr]
    congr 3
    rw [Pol.vals_append, ints, ints, ints, List.map_append]
    simp [Pol.vals]

theorem code2_ok (p q : List Fp.F) (hp : p.length ≤ 12) (hq : q.length ≤ 12) : Pol.code2 (Pol.vals p) (Pol.vals q) = 0 := by
  unfold Pol.code2
  rw [if_pos (Pol.code_vals p hp), Pol.code_vals q hq]
theorem checkBoth_ok (A B : Option Addr) (p q : List Fp.F) (c d : Nat) (w : World) (ha : Lies w A (Pol.vals p)) (hb : Lies w B (Pol.vals q)) (hp : p.length ≤ 12) (hq : q.length ≤ 12) :
    Calls Try.prog 45 #[.slice A p.length c, .slice B q.length d] w fun e w' => e = .returned .nilIface ∧ w = w' := by
  have h := pcheckBoth_any A B (Pol.vals p) (Pol.vals q) c d w ha hb
  rw [Pol.len_vals, Pol.len_vals, code2_ok p q hp hq] at h
  exact h
theorem code2_some (l m : List Int) (h : Pol.code2 l m ≠ 0) : Pol.code2 l m = 1 ∨ Pol.code2 l m = 4 := by
  unfold Pol.code2 at *
  have h1 := Pol.code_some l
  have h2 := Pol.code_some m
  split <;> simp_all

set_option maxRecDepth 100000 in
theorem add_bad (A B : Option Addr) (l m : List Int) (c d : Nat) (w : World) (ha : Lies w A l) (hb : Lies w B m)
    (h : Pol.code2 l m ≠ 0) :
    Calls Try.prog 32 #[.slice A l.length c, .slice B m.length d] w fun e w' => Fails (Pol.code2 l m) w e w' := by
  have C := Lib.hid (pcheckBoth_any A B l m c d w ha hb)
  have hs := code2_some l m h
  clear h ha hb
  generalize Pol.code2 l m = x at *
  generalize l.length = n at *
  generalize m.length = q at *
  rcases hs with rfl | rfl
  · go_enter Try.func32, Try.ntmps32
    go_wp2_with fail
    refine (C.out).mono ?_; rintro e w' ⟨rfl, rfl⟩
    rw [show errOf 1 = .iface 56 (.int .i64 1) from rfl]
    go_wp2_with fail
    go_ret2
    exact ⟨rfl, Kp.rfl' _⟩
  · go_enter Try.func32, Try.ntmps32
    go_wp2_with fail
    refine (C.out).mono ?_; rintro e w' ⟨rfl, rfl⟩
    rw [show errOf 4 = .iface 56 (.int .i64 4) from rfl]
    go_wp2_with fail
    go_ret2
    exact ⟨rfl, Kp.rfl' _⟩

set_option maxRecDepth 100000 in
theorem mul_bad (A B : Option Addr) (l m : List Int) (c d : Nat) (w : World) (ha : Lies w A l) (hb : Lies w B m)
    (h : Pol.code2 l m ≠ 0) :
    Calls Try.prog 30 #[.slice A l.length c, .slice B m.length d] w fun e w' => Fails (Pol.code2 l m) w e w' := by
  have C := Lib.hid (pcheckBoth_any A B l m c d w ha hb)
  have hs := code2_some l m h
  clear h ha hb
  generalize Pol.code2 l m = x at *
  generalize l.length = n at *
  generalize m.length = q at *
  rcases hs with rfl | rfl
  · go_enter Try.func30, Try.ntmps30
    go_wp2_with fail
    refine (C.out).mono ?_; rintro e w' ⟨rfl, rfl⟩
    rw [show errOf 1 = .iface 56 (.int .i64 1) from rfl]
    go_wp2_with fail
    go_ret2
    exact ⟨rfl, Kp.rfl' _⟩
  · go_enter Try.func30, Try.ntmps30
    go_wp2_with fail
    refine (C.out).mono ?_; rintro e w' ⟨rfl, rfl⟩
    rw [show errOf 4 = .iface 56 (.int .i64 4) from rfl]
    go_wp2_with fail
    go_ret2
    exact ⟨rfl, Kp.rfl' _⟩

set_option maxRecDepth 100000 in
set_option maxHeartbeats 1600000 in
theorem mul_ok (A B : Option Addr) (p q : List Fp.F) (c d : Nat) (w : World) (ha : Lies w A (Pol.vals p)) (hb : Lies w B (Pol.vals q)) (hp : p.length ≤ 12) (hq : q.length ≤ 12) :
    Calls Try.prog 30 #[.slice A p.length c, .slice B q.length d] w fun e w' => Gives (Pol.mul p q) w e w' := by
  have C := Lib.hid (checkBoth_ok A B p q c d w ha hb hp hq)
  have HA := Lib.hid ha
  have HB := Lib.hid hb
  obtain ⟨n, hn⟩ : ∃ n, n = p.length := ⟨_, rfl⟩
  obtain ⟨m, hm⟩ : ∃ m, m = q.length := ⟨_, rfl⟩
  rw [← hn] at hp C ⊢
  rw [← hm] at hq C ⊢
  have HN := Lib.hid hn
  have HM := Lib.hid hm
  clear ha hb hn hm
  obtain ⟨i0, hi, hz0, hz1, hz2⟩ := info_parts int_info
  go_enter Try.func30, Try.ntmps30
  go_wp2_with fail
  refine (C.out).mono ?_; rintro e w' ⟨rfl, rfl⟩
  go_wp2_with (at_make; refine wpList_make_full _ rfl _ _ 22 rfl w.heap.size 3 i0 (.int .i64 0) 1 Try.underlying22 hi hz0 hz1 _ _ _ _ (n + m) rfl rfl (by simp) (by simp) (by rw [hz2]; omega) (by unfold maxLen; omega) (Nat.le_refl _) ?_; intro w1 hown hgrow)
  have hrow : Row w1 w.heap.size (Pol.vals (Pol.mulRows p q 0)) := by
    rw [Pol.mulRows, Pol.vals_zeros, ← HN.out, ← HM.out]; exact row_made hown
  have hkp : Kp w w1 := (Kp.rfl' w).grown hgrow (by simp) (fun k hk => by cases hk)
  clear hown hgrow hi hz0 hz1 hz2 C
  obtain ⟨g, hg⟩ : ∃ g, g = w.heap.size := ⟨_, rfl⟩
  rw [← hg] at hrow ⊢
  have HG := Lib.hid hg
  clear hg
  go_loopw [26] (fun i wr => ∃ k : Nat, k ≤ n ∧ i = .int .i64 (k : Int) ∧ Row wr g (Pol.vals (Pol.mulRows p q k)) ∧ Kp w wr) (fun i _ => n - (intOf i).toNat)
  case atStart => exact ⟨0, Nat.zero_le _, rfl, hrow, hkp⟩
  case round =>
    clear hrow hkp
    obtain ⟨k, hk, rfl, hr, hkp⟩ := hrel
    have HR := Lib.hid hr
    have HK := Lib.hid hkp
    clear hr hkp
    by_cases hlt : k < n
    · obtain ⟨ad, rfl, _, hc⟩ := (HA.out.keep HK.out) k (by rw [Pol.len_vals, ← HN.out]; exact hlt)
      rw [Pol.vals_at] at hc
      obtain ⟨a, ha⟩ : ∃ a, a = Pol.co p k := ⟨_, rfl⟩
      rw [← ha] at hc
      have HA1 := Lib.hid ha
      clear ha
      go_wp2_with fail
      go_loopw [33] (fun j wr' => ∃ t : Nat, t ≤ m ∧ j = .int .i64 (t : Int) ∧ Row wr' g (Pol.vals (Pol.addAt (Pol.mulRows p q k) a q k t)) ∧ Kp w wr') (fun j _ => m - (intOf j).toNat)
      case atStart => exact ⟨0, Nat.zero_le _, rfl, HR.out, HK.out⟩
      case round =>
        obtain ⟨t, ht, rfl, hr2, hkp2⟩ := hrel
        by_cases hlt2 : t < m
        · obtain ⟨bd, rfl, _, hd⟩ := (HB.out.keep hkp2) t (by rw [Pol.len_vals, ← HM.out]; exact hlt2)
          rw [Pol.vals_at] at hd
          obtain ⟨b, hb⟩ : ∃ b, b = Pol.co q t := ⟨_, rfl⟩
          rw [← hb] at hd
          have hlen : (Pol.vals (Pol.addAt (Pol.mulRows p q k) a q k t)).length = n + m := by rw [Pol.len_vals, Pol.len_addAt, Pol.len_mulRows, HN.out, HM.out]
          have hcell := hr2.cell (k + t) (by omega)
          have hfree := hr2.free (k + t)
          rw [Pol.vals_at] at hcell
          have HS := Lib.hid (show Pol.addAt (Pol.mulRows p q k) a q k (t + 1) = (Pol.addAt (Pol.mulRows p q k) a q k t).set (k + t) (Pol.co (Pol.addAt (Pol.mulRows p q k) a q k t) (k + t) + a * b) by rw [Pol.addAt, hb])
          have HR2 := Lib.hid hr2
          have HK2 := Lib.hid hkp2
          clear hr2 hkp2 hb hlen
          generalize Pol.co (Pol.addAt (Pol.mulRows p q k) a q k t) (k + t) = s at *
          have HV := Lib.hid (Pol.val_madd s a b)
          obtain ⟨p1, p2⟩ := prod_bound a b
          have s1 := Fp.val_bound s
          have a1 := Fp.val_bound a
          have b1 := Fp.val_bound b
          generalize (a.val : Int) = x at *
          generalize (b.val : Int) = y at *
          generalize (s.val : Int) = v at *
          go_wp2_with fail
          go_roundw
          case rel =>
            refine ⟨t + 1, by omega, by go_num, ?_, HK2.out.put (p := ⟨g, k + t, none⟩) (by show w.heap.size ≤ g; rw [HG.out]; exact Nat.le_refl _) _⟩
            rw [HS.out, Pol.vals_set, HV.out]
            exact HR2.out.put _ _
          case measure => simp [intOf]; omega
        · have HR3 := Lib.hid (show Row wr g (Pol.vals (Pol.mulRows p q (k + 1))) by
            rw [Pol.mulRows, ← HA1.out, ← HM.out, show m = t by omega]; exact hr2)
          have HK2 := Lib.hid hkp2
          clear hr2 hkp2
          go_wp2_with fail
          go_roundw
          case rel => exact ⟨k + 1, by omega, by go_num, HR3.out, HK2.out⟩
          case measure => simp [intOf]; omega
    · obtain rfl : k = n := by omega
      have e := Lib.hid (show Pol.trim (Pol.mulRows p q k) = Pol.mul p q by
        have h := Pol.rows_mul p q (by have := HN.out; omega) (by have := HM.out; omega)
        rw [← HN.out] at h; exact h)
      have T := Lib.hid (trimmed_any (some ⟨g, 0, none⟩) (Pol.mulRows p q k) (k + m) wr HR.out.lies (by rw [Pol.len_mulRows, HN.out, HM.out]; exact Nat.le_refl _) (by rw [Pol.len_mulRows, ← HN.out, ← HM.out]; omega))
      rw [Pol.len_mulRows, ← HN.out, ← HM.out] at T
      go_wp2_with fail
      refine (T.out).mono ?_; rintro e w' ⟨rfl, rfl⟩
      go_wp2_with fail
      go_ret2
      exact ⟨some ⟨g, 0, none⟩, k + m, by rw [← e.out]; rfl, by rw [← e.out]; exact HR.out.trim, by rw [← e.out]; have := Pol.len_trim (Pol.mulRows p q k); rw [Pol.len_mulRows, ← HN.out, ← HM.out] at this; exact this, HK.out⟩

set_option maxRecDepth 100000 in
set_option maxHeartbeats 1600000 in
theorem add_ok (A B : Option Addr) (p q : List Fp.F) (c d : Nat) (w : World) (ha : Lies w A (Pol.vals p)) (hb : Lies w B (Pol.vals q)) (hp : p.length ≤ 12) (hq : q.length ≤ 12) :
    Calls Try.prog 32 #[.slice A p.length c, .slice B q.length d] w fun e w' => Gives (Pol.add p q) w e w' := by
  have C := Lib.hid (checkBoth_ok A B p q c d w ha hb hp hq)
  have HA := Lib.hid ha
  have HB := Lib.hid hb
  obtain ⟨n, hn⟩ : ∃ n, n = p.length := ⟨_, rfl⟩
  obtain ⟨m, hm⟩ : ∃ m, m = q.length := ⟨_, rfl⟩
  rw [← hn] at hp C ⊢
  rw [← hm] at hq C ⊢
  have HN := Lib.hid hn
  have HM := Lib.hid hm
  clear ha hb hn hm
  obtain ⟨i0, hi, hz0, hz1, hz2⟩ := info_parts int_info
  go_enter Try.func32, Try.ntmps32
  go_wp2_with fail
  refine (C.out).mono ?_; rintro e w' ⟨rfl, rfl⟩
  go_wp2_with (at_make; refine wpList_make_full _ rfl _ _ 22 rfl w.heap.size 3 i0 (.int .i64 0) 1 Try.underlying22 hi hz0 hz1 _ _ _ _ (max n m) rfl rfl (by omega) (by omega) (by rw [hz2]; omega) (by unfold maxLen; omega) (Nat.le_refl _) ?_; intro w1 hown hgrow; have hrow : Row w1 w.heap.size (Pol.vals (List.replicate (max n m) 0)) := (by rw [Pol.vals_zeros]; exact row_made hown); have hkp : Kp w w1 := (Kp.rfl' w).grown hgrow (by simp) (fun k hk => by cases hk); clear hown hgrow)
  all_goals
    obtain ⟨w2, hrun, hr2, hk2⟩ := copy_run w1 w.heap.size (max n m) n c A p 3 hrow (HA.out.keep hkp) HN.out (Nat.le_max_left n m)
    rw [hrun]
    clear hrun hi hz0 hz1 hz2 C
    have hkp2 : Kp w w2 := hk2 _ _ hkp (Nat.le_refl _)
    clear hrow hkp hk2
    obtain ⟨g, hg⟩ : ∃ g, g = w.heap.size := ⟨_, rfl⟩
    rw [← hg] at hr2 ⊢
    have HG := Lib.hid hg
    clear hg
    obtain ⟨N, hN⟩ : ∃ N, N = max n m := ⟨_, rfl⟩
    rw [← hN] at hr2 ⊢
    have hNN : n ≤ N ∧ m ≤ N ∧ N ≤ 12 := by omega
    have HNN := Lib.hid hN
    clear hN
    have hl2 : (p ++ List.replicate (N - n) (0 : Fp.F)).length = N := by rw [List.length_append, List.length_replicate, ← HN.out]; omega
    obtain ⟨R, hR⟩ : ∃ R, R = p ++ List.replicate (N - n) (0 : Fp.F) := ⟨_, rfl⟩
    rw [← hR] at hr2 hl2
    have HR0 := Lib.hid hR
    have HL2 := Lib.hid hl2
    clear hR hl2
    go_wp2_with fail
    go_loopw [27] (fun i wr => ∃ k : Nat, k ≤ m ∧ i = .int .i64 (k : Int) ∧ Row wr g (Pol.vals (Pol.addAt R 1 q 0 k)) ∧ Kp w wr) (fun i _ => m - (intOf i).toNat)
    case atStart => exact ⟨0, Nat.zero_le _, rfl, hr2, hkp2⟩
    case round =>
      clear hr2 hkp2
      obtain ⟨t, ht, rfl, hr2, hkp2⟩ := hrel
      by_cases hlt2 : t < m
      · obtain ⟨bd, rfl, _, hd⟩ := (HB.out.keep hkp2) t (by rw [Pol.len_vals, ← HM.out]; exact hlt2)
        rw [Pol.vals_at] at hd
        obtain ⟨b, hb⟩ : ∃ b, b = Pol.co q t := ⟨_, rfl⟩
        rw [← hb] at hd
        have hlen : (Pol.vals (Pol.addAt R 1 q 0 t)).length = N := by rw [Pol.len_vals, Pol.len_addAt, HL2.out]
        have hcell := hr2.cell t (by omega)
        have hfree := hr2.free t
        rw [Pol.vals_at] at hcell
        have HS := Lib.hid (show Pol.addAt R 1 q 0 (t + 1) = (Pol.addAt R 1 q 0 t).set t (Pol.co (Pol.addAt R 1 q 0 t) t + b) by rw [Pol.addAt, hb, Nat.zero_add, Fin.one_mul])
        have HR2 := Lib.hid hr2
        have HK2 := Lib.hid hkp2
        clear hr2 hkp2 hb hlen
        generalize Pol.co (Pol.addAt R 1 q 0 t) t = s at *
        have HV := Lib.hid (Fp.add_val s b)
        have s1 := Fp.val_bound s
        have b1 := Fp.val_bound b
        generalize (b.val : Int) = y at *
        generalize (s.val : Int) = v at *
        go_wp2_with fail
        go_roundw
        case rel =>
          refine ⟨t + 1, by omega, by go_num, ?_, HK2.out.put (p := ⟨g, t, none⟩) (by show w.heap.size ≤ g; rw [HG.out]; exact Nat.le_refl _) _⟩
          rw [HS.out, Pol.vals_set, HV.out]
          exact HR2.out.put _ _
        case measure => simp [intOf]; omega
      · obtain rfl : t = m := by omega
        have HR2 := Lib.hid hr2
        have HK2 := Lib.hid hkp2
        clear hr2 hkp2
        have e := Lib.hid (show Pol.trim (Pol.addAt R 1 q 0 t) = Pol.add p q by
          have h := Pol.row_add p q (by have := HN.out; omega) (by have := HM.out; omega)
          rw [← HN.out, ← HM.out, ← HNN.out, ← HR0.out] at h; exact h)
        have T := Lib.hid (trimmed_any (some ⟨g, 0, none⟩) (Pol.addAt R 1 q 0 t) N wr HR2.out.lies (by rw [Pol.len_addAt, HL2.out]; exact Nat.le_refl _) (by rw [Pol.len_addAt, HL2.out]; omega))
        rw [Pol.len_addAt, HL2.out] at T
        go_wp2_with fail
        refine (T.out).mono ?_; rintro e w' ⟨rfl, rfl⟩
        go_wp2_with fail
        go_ret2
        exact ⟨some ⟨g, 0, none⟩, N, by rw [← e.out]; rfl, by rw [← e.out]; exact HR2.out.trim, by rw [← e.out]; have := Pol.len_trim (Pol.addAt R 1 q 0 t); rw [Pol.len_addAt, HL2.out] at this; exact this, HK2.out⟩

/-- The contracts, with the lengths as numbers. -/
theorem mul_ok' (A B : Option Addr) (p q : List Fp.F) (n m c d : Nat) (w : World) (ha : Lies w A (Pol.vals p)) (hb : Lies w B (Pol.vals q)) (hn : n = p.length) (hm : m = q.length) (hp : n ≤ 12) (hq : m ≤ 12) :
    Calls Try.prog 30 #[.slice A n c, .slice B m d] w fun e w' => Gives (Pol.mul p q) w e w' := by subst hn hm; exact mul_ok A B p q c d w ha hb hp hq
theorem add_ok' (A B : Option Addr) (p q : List Fp.F) (n m c d : Nat) (w : World) (ha : Lies w A (Pol.vals p)) (hb : Lies w B (Pol.vals q)) (hn : n = p.length) (hm : m = q.length) (hp : n ≤ 12) (hq : m ≤ 12) :
    Calls Try.prog 32 #[.slice A n c, .slice B m d] w fun e w' => Gives (Pol.add p q) w e w' := by subst hn hm; exact add_ok A B p q c d w ha hb hp hq
end Go.Proofs.Ytldkamhknaflbaa

/- Contracts of package poly, third part: divide. -/
namespace Go.Proofs.Ytldkamhknaflbaa
open Go.ChangeShapes Go.WideShapes Go.ChangeAt Go.RowKit
set_option linter.unusedVariables false

/-- The answer is two rows of factors, and no error. -/
def GivesTwo (q r : List Fp.F) (w : World) (e : Ending) (w' : World) : Prop :=
  ∃ A c B d, e = .returned (.tuple #[.slice A q.length c, .slice B r.length d, .nilIface]) ∧ Lies w' A (Pol.vals q) ∧ q.length ≤ c ∧ Lies w' B (Pol.vals r) ∧ r.length ≤ d ∧ Kp w w'

theorem msub_bound (t c : Fp.F) : 0 ≤ (9973 - (t.val : Int)) * (c.val : Int) ∧ (9973 - (t.val : Int)) * (c.val : Int) ≤ 99450756 := by
  have h1 := Fp.val_bound t
  have h2 := Fp.val_bound c
  have := Int.mul_le_mul (show 9973 - (t.val : Int) ≤ 9973 by omega) h2.2 h2.1 (by omega)
  exact ⟨Int.mul_nonneg (by omega) h2.1, by omega⟩

/-- What dividing keeps: so many places of the quotient are still to come. -/
structure Left (p g R Q : List Fp.F) (j : Nat) : Prop where
  lr : R.length = p.length
  lq : Q.length = p.length - (g.length - 1)
  eq : ∀ x, Pol.ev p x = Pol.ev g x * Pol.ev Q x + Pol.ev R x
  zr : ∀ k, j + (g.length - 1) ≤ k → Pol.co R k = 0
  zq : ∀ k, k < j → Pol.co Q k = 0

theorem co_zeros (n k : Nat) : Pol.co (List.replicate n 0) k = 0 := by
  unfold Pol.co
  rw [List.getD_eq_getElem?_getD, List.getElem?_replicate]
  split <;> rfl

theorem left_start (p g : List Fp.F) : Left p g p (List.replicate (p.length - (g.length - 1)) 0) (p.length - (g.length - 1)) :=
  ⟨rfl, List.length_replicate .., fun x => by rw [Pol.ev_zeros]; grind, fun k hk => Pol.co_out _ _ (by omega), fun k _ => co_zeros _ k⟩

theorem left_step (p g R Q : List Fp.F) (j : Nat) (hg : Pol.Tr g) (g0 : g ≠ []) (hj : j + 1 ≤ p.length - (g.length - 1)) (h : Left p g R Q (j + 1)) (t : Fp.F) (ht : t = Pol.co R (j + (g.length - 1)) * Fp.inv (Pol.top g)) :
    Left p g (Pol.addAt R (-t) g j g.length) (Q.set j t) j := by
  have l := List.length_pos_iff.2 g0
  have lr := h.lr
  have lq := h.lq
  have tg := Pol.top_ne hg g0
  refine ⟨by rw [Pol.len_addAt, lr], by rw [List.length_set, lq], fun x => ?_, fun k hk => ?_, fun k hk => ?_⟩
  · rw [Pol.ev_set _ _ _ _ (by omega), Pol.ev_addAt _ _ _ _ _ (by omega), List.take_length, h.zq j (by omega), h.eq]; grind
  · by_cases e : k = j + (g.length - 1)
    · have e1 := Pol.co_addAt_top R (-t) g j (g.length - 1) (by omega)
      rw [Nat.sub_add_cancel (by omega)] at e1
      rw [e, e1, ht]
      exact Pol.cancel _ _ _ (Fp.inv_mul tg)
    · rw [Pol.co_addAt_far _ _ _ _ _ _ (by omega) (by omega)]
      exact h.zr k (by omega)
  · rw [Pol.co_set _ _ _ _ (by omega), if_neg (by omega)]
    exact h.zq k (by omega)

theorem left_end (p g R Q : List Fp.F) (hp : Pol.Tr p) (hg : Pol.Tr g) (g0 : g ≠ []) (lp : p.length ≤ 1000) (lg : g.length ≤ 1000) (h : Left p g R Q 0) : Pol.Dv p g Q (Pol.trim R) := by
  have l := List.length_pos_iff.2 g0
  refine Pol.Dv.full hp hg lp lg g0 h.lq ?_ h.eq
  have := Pol.trim_short R (g.length - 1) fun k hk => h.zr k (by omega)
  omega

end Go.Proofs.Ytldkamhknaflbaa

/- Contracts of package poly, fourth part: monic, Div, Gcd, At. -/
namespace Go.Proofs.Ytldkamhknaflbaa
open Go.ChangeShapes Go.WideShapes Go.ChangeAt Go.RowKit
set_option linter.unusedVariables false

theorem Lies.trim {w : World} {A : Option Addr} {p : List Fp.F} (h : Lies w A (Pol.vals p)) : Lies w A (Pol.vals (Pol.trim p)) := by
  rw [Pol.trim_take, Pol.vals_take]; exact h.take _

/-- The last one alone. -/
theorem lies_last {w : World} {ad : Addr} {p : List Fp.F} {k : Nat} (hk : p.length = k + 1) (h : Lies w (some ad) (Pol.vals p)) : Lies w (some (ad.add k)) (Pol.vals [Pol.top p]) := fun j hj => by
  have hj0 : j = 0 := by simp [Pol.vals] at hj; exact hj
  subst hj0
  obtain ⟨ad', e, h1, h2⟩ := h k (by rw [Pol.len_vals]; omega)
  injection e with e
  subst e
  refine ⟨_, rfl, by rw [block_add]; exact h1, ?_⟩
  rw [add_add, Nat.add_zero, h2, Pol.vals_at, Pol.vals_at, Pol.co_zero, Pol.top, hk]
  rfl

/-- The answer is an error, and no rows. -/
def Fails2 (c : Nat) (w : World) (e : Ending) (w' : World) : Prop := e = .returned (.tuple #[.slice none 0 0, .slice none 0 0, errOf c]) ∧ Kp w w'

/-- What is wrong with a row and a place. -/
def atCode (l : List Int) (x : Int) : Nat := if Pol.code l = 0 then (if 0 ≤ x ∧ x ≤ 9972 then 0 else 1) else Pol.code l

set_option maxRecDepth 100000 in
theorem at_bad (A : Option Addr) (l : List Int) (c : Nat) (x : Int) (w : World) (ha : Lies w A l) (h : atCode l x ≠ 0) :
    Calls Try.prog 13 #[.slice A l.length c, .int .i64 x] w fun e w' => e = .returned (.tuple #[.int .i64 0, errOf (atCode l x)]) ∧ w = w' := by
  have C := Lib.hid (check_any A l c w ha)
  have hs := Pol.code_some l
  unfold atCode at *
  clear ha
  generalize Pol.code l = y at *
  generalize l.length = n at *
  rcases hs with rfl | rfl | rfl
  · by_cases hx : 0 ≤ x ∧ x ≤ 9972
    · rw [if_pos rfl, if_pos hx] at h; exact absurd rfl h
    · rw [if_pos rfl, if_neg hx]
      clear h
      by_cases h0 : x < 0
      · clear hx
        go_enter Try.func13, Try.ntmps13
        go_wp2_with fail
        refine (C.out).mono ?_; rintro e w' ⟨rfl, rfl⟩
        rw [show errOf 0 = .nilIface from rfl]
        go_wp2_with fail
        go_ret2
        exact ⟨rfl, rfl⟩
      · have h1 : 9973 ≤ x := by omega
        clear hx
        go_enter Try.func13, Try.ntmps13
        go_wp2_with fail
        refine (C.out).mono ?_; rintro e w' ⟨rfl, rfl⟩
        rw [show errOf 0 = .nilIface from rfl]
        go_wp2_with fail
        go_ret2
        exact ⟨rfl, rfl⟩
  · rw [if_neg (by decide)]
    go_enter Try.func13, Try.ntmps13
    go_wp2_with fail
    refine (C.out).mono ?_; rintro e w' ⟨rfl, rfl⟩
    rw [show errOf 1 = .iface 56 (.int .i64 1) from rfl]
    go_wp2_with fail
    go_ret2
    exact ⟨rfl, rfl⟩
  · rw [if_neg (by decide)]
    go_enter Try.func13, Try.ntmps13
    go_wp2_with fail
    refine (C.out).mono ?_; rintro e w' ⟨rfl, rfl⟩
    rw [show errOf 4 = .iface 56 (.int .i64 4) from rfl]
    go_wp2_with fail
    go_ret2
    exact ⟨rfl, rfl⟩

set_option maxRecDepth 100000 in
theorem at_ok (A : Option Addr) (p : List Fp.F) (c : Nat) (x : Fp.F) (w : World) (ha : Lies w A (Pol.vals p)) (hp : p.length ≤ 100) (hc : Pol.code (Pol.vals p) = 0) :
    Calls Try.prog 13 #[.slice A p.length c, el x] w fun e w' => e = .returned (.tuple #[el (Pol.ev p x), .nilIface]) ∧ w = w' := by
  have C := Lib.hid (check_any A (Pol.vals p) c w ha)
  rw [Pol.len_vals, hc, show errOf 0 = .nilIface from rfl] at C
  have HA := Lib.hid ha
  obtain ⟨n, hn⟩ : ∃ n, n = p.length := ⟨_, rfl⟩
  rw [← hn] at hp C ⊢
  have HN := Lib.hid hn
  have x1 := Fp.val_bound x
  have ST := Lib.hid (fun (v a : Fp.F) => Pol.val_horner v x a)
  have PB := Lib.hid (fun (v : Fp.F) => prod_bound v x)
  have hxv : el x = .int .i64 (x.val : Int) := rfl
  clear ha hn hc
  rw [hxv]
  generalize (x.val : Int) = xv at *
  clear hxv
  go_enter Try.func13, Try.ntmps13
  go_wp2_with fail
  refine (C.out).mono ?_; rintro e w' ⟨rfl, rfl⟩
  go_wp2_with fail
  go_loop [7, 8] (fun v i => ∃ j : Nat, j ≤ n ∧ i = .int .i64 ((j : Int) - 1) ∧ v = el (Pol.ev (p.drop j) x)) (fun _ i => (intOf i + 1).toNat)
  case atStart => exact ⟨n, Nat.le_refl _, by go_num, by rw [HN.out, List.drop_length]; rfl⟩
  case round =>
    obtain ⟨j, hj, rfl, rfl⟩ := hrel
    cases j with
    | zero =>
      have ei : ((0 : Nat) : Int) - 1 = -1 := by decide
      rw [ei, List.drop_zero]
      go_wp2_with fail
      go_ret2
      exact ⟨rfl, rfl⟩
    | succ j =>
      have ei : ((j + 1 : Nat) : Int) - 1 = (j : Int) := by omega
      rw [ei]
      obtain ⟨ad, rfl, _, hcell⟩ := HA.out j (by rw [Pol.len_vals, ← HN.out]; omega)
      rw [Pol.vals_at] at hcell
      have E := Lib.hid (Pol.ev_drop p j (by have := HN.out; omega) x)
      obtain ⟨v, hv⟩ : ∃ v, v = Pol.ev (p.drop (j + 1)) x := ⟨_, rfl⟩
      obtain ⟨a, ha⟩ : ∃ a, a = Pol.co p j := ⟨_, rfl⟩
      rw [← hv]
      rw [← ha] at hcell
      rw [← hv, ← ha] at E
      have HV := Lib.hid (ST.out v a)
      obtain ⟨p1, p2⟩ := PB.out v
      have v1 := Fp.val_bound v
      have a1 := Fp.val_bound a
      clear hv ha
      unfold el
      generalize (v.val : Int) = vv at *
      generalize (a.val : Int) = av at *
      go_wp2_with fail
      go_round
      case rel => exact ⟨j, by omega, by go_num, by rw [HV.out, ← E.out]⟩
      case measure => simp [intOf]

end Go.Proofs.Ytldkamhknaflbaa

/- Contracts of the document's answer for package field (package rankmereref1: Mod, Pow, Div), within the document's bounds. -/
namespace Go.Proofs.Ytldkamhknaflbaa
open Go.ChangeShapes Go.WideShapes Go.ChangeAt Go.RowKit
set_option linter.unusedVariables false

theorem refMod_any (n : Int) (w : World) (h1 : -1000000000000000 ≤ n) (h2 : n ≤ 1000000000000000) :
    Calls Try.prog 10 #[.int .i64 n] w fun e w' => e = .returned (.int .i64 (n % 9973)) ∧ w = w' := by
  obtain ⟨f1, f2⟩ := Num.tmod_fix n 9973 (by omega)
  obtain ⟨b2, b1⟩ := Num.tmod_bound n 9973 (by omega)
  have F1 := Lib.hid f1
  have F2 := Lib.hid f2
  clear f1 f2
  by_cases h : n.tmod 9973 < 0
  · go_enter Try.func10, Try.ntmps10
    go_wp2
    go_ret
    exact ⟨ret_int (F1.out h), rfl⟩
  · have h' : 0 ≤ n.tmod 9973 := by omega
    clear h
    go_enter Try.func10, Try.ntmps10
    go_wp2
    go_ret
    exact ⟨ret_int (F2.out h'), rfl⟩

theorem refMod_el (n : Int) (w : World) (h1 : -1000000000000000 ≤ n) (h2 : n ≤ 1000000000000000) :
    Calls Try.prog 10 #[.int .i64 n] w fun e w' => e = .returned (el (Fp.ofInt n)) ∧ w = w' := by
  have h := refMod_any n w h1 h2
  unfold el
  rw [Fp.ofInt_val]
  exact h



end Go.Proofs.Ytldkamhknaflbaa

/- What the laws of package poly share: Factors, Trim and Ints on rows of factors, the closed fact. -/
namespace Go.Proofs.Ytldkamhknaflbaa
open Go.ChangeShapes Go.WideShapes Go.ChangeAt Go.RowKit
set_option linter.unusedVariables false

theorem code_all (l : List Int) (h : ¬ 12 < l.length) : (AllIn l 0 9972 ∧ Pol.code l = 0) ∨ (¬ AllIn l 0 9972 ∧ Pol.code l = 1) := by
  by_cases ha : AllIn l 0 9972
  · exact .inl ⟨ha, Pol.code_ok h ha⟩
  · refine .inr ⟨ha, ?_⟩
    rcases Pol.code_some l with e | e | e
    · exact absurd ((Pol.code_zero_iff l).1 e).2 ha
    · exact e
    · exfalso
      unfold Pol.code at e
      rw [if_neg h] at e
      split at e <;> cases e

theorem refTrim_any (A : Option Addr) (p : List Fp.F) (c : Nat) (w : World) (hl : Lies w A (Pol.vals p)) (hc : p.length ≤ c) (hn : p.length ≤ 1000000) :
    Calls Try.prog 17 #[.slice A p.length c] w fun e w' => e = .returned (.slice A (Pol.trim p).length c) ∧ w = w' := by
  have HL := Lib.hid hl
  obtain ⟨n, hn'⟩ : ∃ n, n = p.length := ⟨_, rfl⟩
  rw [← hn'] at hn hc ⊢
  have HN := Lib.hid hn'
  clear hl hn'
  go_enter Try.func17, Try.ntmps17
  go_wp2_with fail
  go_loop [3] (fun v => ∃ k : Nat, k ≤ n ∧ v = .int .i64 (k : Int) ∧ Pol.trim (p.take k) = Pol.trim p) (fun v => (intOf v).toNat)
  case atStart => exact ⟨n, Nat.le_refl _, rfl, by rw [HN.out, List.take_length]⟩
  case round =>
    obtain ⟨k, hk, rfl, ht⟩ := hrel
    have HT := Lib.hid ht
    clear ht
    have kc : (k : Int) ≤ (c : Int) := by omega
    cases k with
    | zero =>
      have E := Lib.hid (show Pol.trim p = [] by rw [← HT.out]; rfl)
      go_wp2_with fail
      go_ret
      exact ⟨by rw [E.out]; rfl, rfl⟩
    | succ k =>
      obtain ⟨ad, rfl, _, hcell⟩ := HL.out k (by rw [Pol.len_vals, ← HN.out]; omega)
      rw [Pol.vals_at] at hcell
      by_cases h0 : Pol.co p k = 0
      · have e0 : (((Pol.co p k).val : Int) == 0) = true := by rw [h0]; rfl
        have ST := Lib.hid (trim_step0 p k (by have := HN.out; omega) h0)
        generalize ((Pol.co p k).val : Int) = m at *
        clear h0
        go_wp2_with fail
        go_round
        case rel => exact ⟨k, by omega, by go_num, by rw [← ST.out]; exact HT.out⟩
        case measure => simp [intOf]
      · have e0 : (((Pol.co p k).val : Int) == 0) = false := by rw [beq_eq_false_iff_ne]; intro e; exact h0 (Fp.val_inj e)
        have E := Lib.hid (show Pol.trim p = p.take (k + 1) by rw [← HT.out, Pol.take_succ p k (by have := HN.out; omega), Pol.trim_not _ _ h0])
        have E2 := Lib.hid (show (p.take (k + 1)).length = k + 1 by rw [List.length_take]; have := HN.out; omega)
        generalize ((Pol.co p k).val : Int) = m at *
        clear h0
        go_wp2_with fail
        go_ret
        exact ⟨by rw [E.out, E2.out]; rfl, rfl⟩

/-- Two rows that are the same. -/
theorem ints_eq (A B : Option Addr) (p q : List Fp.F) (c d : Nat) (w : World) (ha : Lies w A (Pol.vals p)) (hb : Lies w B (Pol.vals q)) (hp : p.length ≤ 1000) (h : p = q) :
    Calls Try.prog 15 #[.slice A p.length c, .slice B q.length d] w fun e w' => e = .returned (.bool true) ∧ Kp w w' := by
  subst h
  have := ints_any A B (Pol.vals p) (Pol.vals p) c d w ha hb (by rw [Pol.len_vals]; omega) (by rw [Pol.len_vals]; omega)
  rw [Pol.len_vals] at this
  exact this.mono fun e w' ⟨ht, hk⟩ => ⟨tells_yes ht rfl, hk⟩
/-- The same, with the lengths as numbers. -/
theorem ints_eq' (A B : Option Addr) (p q : List Fp.F) (n m c d : Nat) (w : World) (ha : Lies w A (Pol.vals p)) (hb : Lies w B (Pol.vals q)) (hn : n = p.length) (hm : m = q.length) (hp : n ≤ 1000) (h : p = q) :
    Calls Try.prog 15 #[.slice A n c, .slice B m d] w fun e w' => e = .returned (.bool true) ∧ Kp w w' := by
  subst hn hm
  exact ints_eq A B p q c d w ha hb hp h

theorem fact_mul : Pol.mul [1, 1] [9972, 1] = [9972, 0, 1] := by decide +kernel
theorem fact_div (q r : List Fp.F) (h : Pol.Dv (Pol.trim [5, 0, 1]) (Pol.trim [1, 1]) q r) : q = [9972, 1] ∧ r = [6] := by
  rw [show Pol.trim [5, 0, 1] = [5, 0, 1] by decide +kernel, show Pol.trim [1, 1] = [1, 1] by decide +kernel] at h
  refine h.one (by unfold Pol.Tr; decide) (by simp) (by simp) ⟨by unfold Pol.Tr; decide, by unfold Pol.Tr; decide, by simp, by simp, fun x => ?_⟩
  simp only [Pol.ev_cons, Pol.ev_nil]
  grind

/-- The contracts, with the lengths as numbers. -/
theorem at_ok' (A : Option Addr) (p : List Fp.F) (n c : Nat) (x : Fp.F) (w : World) (ha : Lies w A (Pol.vals p)) (hn : n = p.length) (hp : n ≤ 12) :
    Calls Try.prog 13 #[.slice A n c, el x] w fun e w' => e = .returned (.tuple #[el (Pol.ev p x), .nilIface]) ∧ w = w' := by subst hn; exact at_ok A p c x w ha (by omega) (Pol.code_vals p hp)
theorem trim_ok' (A : Option Addr) (p : List Fp.F) (n c : Nat) (w : World) (hl : Lies w A (Pol.vals p)) (hn : n = p.length) (hc : n ≤ c) (hp : n ≤ 12) :
    Calls Try.prog 17 #[.slice A n c] w fun e w' => e = .returned (.slice A (Pol.trim p).length c) ∧ w = w' := by subst hn; exact refTrim_any A p c w hl hc (by omega)

end Go.Proofs.Ytldkamhknaflbaa

/- The law VanderPowers. -/
namespace Go.Proofs.Ytldkamhknaflbaa
open Go.ChangeShapes Go.WideShapes Go.ChangeAt Go.RowKit
set_option linter.unusedVariables false

theorem rowF_vals (n : Nat) (f : Nat → Fp.F) : rowF n f = Pol.vals ((List.range n).map f) := by
  unfold rowF Mx.row Pol.vals
  rw [List.map_map]
  rfl
theorem vm_ev {n : Nat} (X f : Nat → Fp.F) (h0 : 0 < n) (i : Nat) : Pol.ev ((List.range n).map f) (X i) = Mx.tov n (Mx.vm X) f i := by
  obtain ⟨p, rfl⟩ : ∃ p, n = p + 1 := ⟨n - 1, by omega⟩
  rw [Mx.vx_ev]
  exact (Mx.vm_to p X f i).symm

set_option maxRecDepth 100000 in
set_option maxHeartbeats 3200000 in
theorem vpow_bad (A B : Option Addr) (L : List Int) (m c d : Nat) (w : World) (ha : Lies w A L) (h : vcd L ≠ 0) :
    Calls Try.prog 4 #[.slice A L.length c, .slice B m d] w fun e w' => e = .returned (.bool true) ∧ Kp w w' := by
  have FU := Lib.hid (fun w' (k : Kp w w') => VFull_no h A c w' (ha.keep k))
  unfold NoMx at FU
  generalize L.length = n at *
  clear ha h
  go_enter Try.func4, Try.ntmps4
  go_wp2_with fail
  refine (vanderFact_any _).mono ?_; rintro e w1 ⟨rfl, k1⟩
  have K := Lib.hid k1
  clear k1
  go_wp2_with fail
  refine (FU.out _ K.out).mono ?_; rintro e w2 ⟨z, rfl, k2⟩
  replace K := Lib.hid (K.out.trans k2)
  clear k2
  go_wp2_with fail
  go_ret
  exact ⟨rfl, K.out⟩
set_option maxRecDepth 100000 in
set_option maxHeartbeats 3200000 in
theorem vpow_shape (A B : Option Addr) (L : List Int) (n m c d : Nat) (X : Nat → Fp.F) (w : World) (ha : Lies w A L) (s : Vd n X L) (h : m ≠ n) :
    Calls Try.prog 4 #[.slice A n c, .slice B m d] w fun e w' => e = .returned (.bool true) ∧ Kp w w' := by
  have FU := Lib.hid (fun w' (k : Kp w w') => VFull_ok A L n c X w' (ha.keep k) s)
  unfold MadeM at FU
  have e1 : ((m : Int) != (n : Int)) = true := by rw [bne_iff_ne]; omega
  clear ha s h
  go_enter Try.func4, Try.ntmps4
  go_wp2_with fail
  refine (vanderFact_any _).mono ?_; rintro e w1 ⟨rfl, k1⟩
  have K := Lib.hid k1
  clear k1
  go_wp2_with fail
  refine (FU.out _ K.out).mono ?_; rintro e w2 ⟨M, dm, rfl, _, lm, k2⟩
  replace K := Lib.hid (K.out.trans k2)
  clear k2 lm
  go_wp2_with fail
  go_ret
  exact ⟨rfl, K.out⟩
set_option maxRecDepth 100000 in
set_option maxHeartbeats 3200000 in
theorem vpow_range (A B : Option Addr) (L F : List Int) (n c d : Nat) (X : Nat → Fp.F) (w : World) (ha : Lies w A L) (hb : Lies w B F) (s : Vd n X L) (hf : F.length = n) (h : ¬ AllIn F 0 9972) :
    Calls Try.prog 4 #[.slice A n c, .slice B n d] w fun e w' => e = .returned (.bool true) ∧ Kp w w' := by
  have FU := Lib.hid (fun w' (k : Kp w w') => VFull_ok A L n c X w' (ha.keep k) s)
  unfold MadeM at FU
  have h5 := s.n5
  have AL := Lib.hid (fun w' (k : Kp w w') => show Calls Try.prog 11 #[.slice B n d, .int .i64 0, .int .i64 9972] w' fun e w'' => e = .returned (.bool false) ∧ w' = w'' by
    have h1 := all_any B F d 0 9972 w' (hb.keep k) (by omega)
    rw [hf] at h1
    exact h1.mono fun e w'' h2 => ⟨tells_no h2.1 h, h2.2⟩)
  have e1 : ((n : Int) != (n : Int)) = false := by simp
  clear ha hb s h hf
  go_enter Try.func4, Try.ntmps4
  go_wp2_with fail
  refine (vanderFact_any _).mono ?_; rintro e w1 ⟨rfl, k1⟩
  have K := Lib.hid k1
  clear k1
  go_wp2_with fail
  refine (FU.out _ K.out).mono ?_; rintro e w2 ⟨M, dm, rfl, _, lm, k2⟩
  replace K := Lib.hid (K.out.trans k2)
  clear k2 lm
  go_wp2_with fail
  refine (AL.out _ K.out).mono ?_; rintro e w3 ⟨rfl, rfl⟩
  go_wp2_with fail
  go_ret
  exact ⟨rfl, K.out⟩
set_option maxRecDepth 100000 in
set_option maxHeartbeats 3200000 in
theorem vpow_good (A B : Option Addr) (L F : List Int) (n c d : Nat) (X f : Nat → Fp.F) (w : World) (ha : Lies w A L) (hb : Lies w B F) (s : Vd n X L) (hf : F = rowF n f) :
    Calls Try.prog 4 #[.slice A n c, .slice B n d] w fun e w' => e = .returned (.bool true) ∧ Kp w w' := by
  have HA := Lib.hid (s.lies ha)
  have FU := Lib.hid (fun w' (k : Kp w w') => VFull_ok A L n c X w' (ha.keep k) s)
  unfold MadeM at FU
  have h5 := s.n5
  have h0 := s.n0
  have HB := Lib.hid (show Lies w B (rowF n f) by rw [← hf]; exact hb)
  have AL := Lib.hid (fun w' (k : Kp w w') => show Calls Try.prog 11 #[.slice B n d, .int .i64 0, .int .i64 9972] w' fun e w'' => e = .returned (.bool true) ∧ w' = w'' by
    have hl : F.length = n := by rw [hf, Mx.len_row]
    have h1 := all_any B F d 0 9972 w' (hb.keep k) (by omega)
    rw [hl] at h1
    exact h1.mono fun e w'' h2 => ⟨tells_yes h2.1 (by rw [hf]; exact rrow_in _ _), h2.2⟩)
  have TO := Lib.hid (fun (M : Option Addr) (dm : Nat) (w' : World) (k : Kp w w') (h : LiesM w' M (Mx.matl n n (Mx.vm X))) => rTo_any M B (Mx.vm X) f n n dm d w' h (HB.out.keep k) (by omega) (by omega))
  unfold MadeRow at TO
  have AT := Lib.hid (fun (i : Nat) w' (k : Kp w w') => show Calls Try.prog 13 #[.slice B n d, .int .i64 ((X i).val : Int)] w' fun e w'' => e = .returned (.tuple #[.int .i64 ((Mx.tov n (Mx.vm X) f i).val : Int), .nilIface]) ∧ w' = w'' by
    have h1 := at_ok' B ((List.range n).map f) n d (X i) w' (by rw [← rowF_vals]; exact HB.out.keep k) (by simp) (by omega)
    rw [vm_ev X f h0] at h1
    exact h1)
  have e1 : ((n : Int) != (n : Int)) = false := by simp
  clear ha hb s hf
  go_enter Try.func4, Try.ntmps4
  go_wp2_with fail
  refine (vanderFact_any _).mono ?_; rintro e w1 ⟨rfl, k1⟩
  have K := Lib.hid k1
  clear k1
  go_wp2_with fail
  refine (FU.out _ K.out).mono ?_; rintro e w2 ⟨M, dm, rfl, _, lm, k2⟩
  replace K := Lib.hid (K.out.trans k2)
  have LM := Lib.hid lm
  clear k2 lm
  go_wp2_with fail
  refine (AL.out _ K.out).mono ?_; rintro e w3 ⟨rfl, rfl⟩
  go_wp2_with fail
  refine (TO.out M dm _ K.out LM.out).mono ?_; rintro e w4 ⟨T, dt, rfl, lt, k4⟩
  replace K := Lib.hid (K.out.trans k4)
  have LT := Lib.hid (show Lies w4 T (Mx.row n fun i => ((Mx.tov n (Mx.vm X) f i).val : Int)) from lt)
  clear k4 lt
  go_wp2_with fail
  go_loopw [9] (fun i wr => ∃ k : Nat, k ≤ n ∧ i = .int .i64 (k : Int) ∧ Kp w wr ∧ Kp w4 wr) (fun i _ => n - (intOf i).toNat)
  case atStart => exact ⟨0, Nat.zero_le _, rfl, K.out, Kp.rfl' _⟩
  case round =>
    obtain ⟨k, hk, rfl, hk1, hk2⟩ := hrel
    have K1 := Lib.hid hk1
    by_cases hlt : k < n
    · obtain ⟨xd, rfl, _, x1⟩ := (HA.out.keep hk1).el hlt
      obtain ⟨td, rfl, _, x2⟩ := (LT.out.keep hk2).el hlt
      have K2 := Lib.hid hk2
      clear hk1 hk2
      have e2 : (((Mx.tov n (Mx.vm X) f k).val : Int) != ((Mx.tov n (Mx.vm X) f k).val : Int)) = false := by simp
      go_wp2_with fail
      refine (AT.out k _ K1.out).mono ?_; rintro e w5 ⟨rfl, rfl⟩
      go_wp2_with fail
      go_roundw
      case rel => exact ⟨k + 1, by omega, by go_num, K1.out, K2.out⟩
      case measure => simp [intOf]; omega
    · obtain rfl : k = n := by omega
      clear hk1 hk2
      go_wp2_with fail
      go_ret
      exact ⟨rfl, K1.out⟩
theorem walk_VanderPowers (A : Option Addr) (L : List Int) (c : Nat) (B : Option Addr) (F : List Int) (d : Nat) (w : World) (ha : Lies w A L) (hb : Lies w B F) :
    Calls Try.prog 4 #[.slice A L.length c, .slice B F.length d] w fun e w' => e = .returned (.bool true) ∧ Kp w w' := by
  rcases vd_or L with ⟨n, X, s⟩ | h
  · rw [s.len]
    by_cases h1 : F.length = n
    · rw [h1]
      by_cases h2 : AllIn F 0 9972
      · obtain ⟨f, hf⟩ := rrow_of h2
        rw [h1] at hf
        exact vpow_good A B L F n c d X f w ha hb s hf
      · exact vpow_range A B L F n c d X w ha hb s h1 h2
    · exact vpow_shape A B L n F.length c d X w ha s h1
  · exact vpow_bad A B L F.length c d w ha h

end Go.Proofs.Ytldkamhknaflbaa

/- Plain facts on polynomials through given points: there is one, divided differences make it, and so does Lagrange's sum. -/
namespace Go.Proofs.Ytldkamhknaflbaa.Pol
open Fp
set_option linter.unusedVariables false

/-- The first n points have different places. -/
def Apart (X : Nat → F) (n : Nat) : Prop := ∀ i j, i < j → j < n → X i ≠ X j
theorem Apart.le {X : Nat → F} {n m : Nat} (h : Apart X n) (hm : m ≤ n) : Apart X m := fun i j h1 h2 => h i j h1 (by omega)
theorem Apart.ne {X : Nat → F} {n i j : Nat} (h : Apart X n) (hi : i < n) (hj : j < n) (e : i ≠ j) : X i ≠ X j := by
  rcases Nat.lt_or_ge i j with l | l
  · exact h i j l hj
  · exact fun e2 => h j i (by omega) hi e2.symm
/-- p has at most n factors and goes through the first n points. -/
def Th (X Y : Nat → F) (n : Nat) (p : List F) : Prop := p.length ≤ n ∧ ∀ i, i < n → ev p (X i) = Y i

theorem sub_ne {a b : F} (h : a ≠ b) : a - b ≠ 0 := fun e => h (by grind)

theorem zero_dots (n : Nat) : ∀ (X : Nat → F) (p : List F), p.length ≤ n → Apart X n → (∀ i, i < n → ev p (X i) = 0) → ∀ b ∈ p, b = 0 := by
  induction n with
  | zero =>
    intro X p hp _ _ b hb
    have : p = [] := List.eq_nil_of_length_eq_zero (by omega)
    subst this; simp at hb
  | succ n ih =>
    intro X p hp hX hz
    by_cases h0 : p = []
    · subst h0; intro b hb; simp at hb
    · obtain ⟨q, h1, h2, h3⟩ := synth p (X n) h0
      have hr := hz n (by omega)
      refine h3 (ih X q (by omega) (hX.le (by omega)) fun i hi => ?_) hr
      have e := h2 (X i)
      rw [hr, hz i (by omega)] at e
      have e2 : (X i - X n) * ev q (X i) = 0 := by grind
      rcases mul_zero_or e2 with h | h
      · exact absurd h (sub_ne (hX i n hi (by omega)))
      · exact h

theorem co_mem_zero {p : List F} (h : ∀ b ∈ p, b = 0) (k : Nat) : co p k = 0 := by
  rcases Nat.lt_or_ge k p.length with l | l
  · have : co p k ∈ p := by
      unfold co; rw [List.getD_eq_getElem?_getD, List.getElem?_eq_getElem l]; exact List.getElem_mem l
    exact h _ this
  · exact co_out p k l

theorem Th.one {X Y : Nat → F} {n : Nat} {p q : List F} (hX : Apart X n) (hp : Th X Y n p) (hq : Th X Y n q) (k : Nat) : co p k = co q k := by
  have h := zero_dots n X (padd p (times (-1) q)) (by have h1 := hp.1; have h2 := hq.1; rw [len_padd, len_times]; omega) hX fun i hi => by
    rw [ev_padd, ev_times, hp.2 i hi, hq.2 i hi]; grind
  have := co_mem_zero h k
  rw [co_padd, co_times] at this
  grind
theorem ev_of_co {p q : List F} (h : ∀ k, co p k = co q k) (x : F) : ev p x = ev q x := by
  have e : trim p = trim q := tr_ext _ _ (tr_trim p) (tr_trim q) fun k => by rw [co_trim, co_trim, h]
  rw [← ev_trim p, e, ev_trim]
theorem Th.ev {X Y : Nat → F} {n : Nat} {p q : List F} (hX : Apart X n) (hp : Th X Y n p) (hq : Th X Y n q) (x : F) : Pol.ev p x = Pol.ev q x := ev_of_co (hp.one hX hq) x
theorem Th.same {X Y : Nat → F} {n : Nat} {p q : List F} (hX : Apart X n) (hp : Th X Y n p) (hq : Th X Y n q) (tp : Tr p) (tq : Tr q) : p = q := tr_ext _ _ tp tq (hp.one hX hq)
theorem Th.trim {X Y : Nat → F} {n : Nat} {p : List F} (hp : Th X Y n p) : Th X Y n (Pol.trim p) :=
  ⟨Nat.le_trans (len_trim p) hp.1, fun i hi => by rw [ev_trim]; exact hp.2 i hi⟩

/-- Divided differences: of the points j to j + k. -/
def dd (X Y : Nat → F) : Nat → Nat → F
  | 0, j => Y j
  | k + 1, j => (dd X Y k (j + 1) - dd X Y k j) * inv (X (j + k + 1) - X j)

theorem co_lin (a b : F) (p : List F) (k : Nat) : co (pmul [a, b] p) (k + 1) = a * co p (k + 1) + b * co p k := by
  simp only [pmul]
  rw [co_padd, co_times, co_succ, co_padd, co_times]
  have : co (0 :: []) k = (0 : F) := by cases k <;> simp [co]
  rw [this]; grind
theorem ev_lin (a b : F) (p : List F) (x : F) : Pol.ev (pmul [a, b] p) x = (a + b * x) * Pol.ev p x := by
  rw [ev_pmul, ev_cons, ev_one]; grind

/-- AITKEN: what goes through the points j to j + k, and its greatest factor is the divided difference. -/
theorem dd_is (X Y : Nat → F) (k : Nat) : ∀ j, Apart X (j + k + 1) → ∃ p : List F, p.length ≤ k + 1 ∧ (∀ i, j ≤ i → i ≤ j + k → Pol.ev p (X i) = Y i) ∧ co p k = dd X Y k j := by
  induction k with
  | zero =>
    intro j _
    refine ⟨[Y j], by simp, fun i h1 h2 => ?_, by simp [co, dd]⟩
    rw [show i = j by omega, ev_one]
  | succ k ih =>
    intro j hX
    obtain ⟨p, lp, ep, cp⟩ := ih j (hX.le (by omega))
    obtain ⟨q, lq, eq, cq⟩ := ih (j + 1) (by rw [show j + 1 + k + 1 = j + (k + 1) + 1 by omega]; exact hX)
    have ne : X (j + k + 1) - X j ≠ 0 := sub_ne (hX.ne (by omega) (by omega) (by omega))
    have hi := inv_mul ne
    refine ⟨trim (times (inv (X (j + k + 1) - X j)) (padd (pmul [-(X j), 1] q) (pmul [X (j + k + 1), -1] p))), trim_short _ _ fun m hm => ?_, fun i h1 h2 => ?_, ?_⟩
    · obtain ⟨m, rfl⟩ : ∃ t, m = t + 1 := ⟨m - 1, by omega⟩
      rw [co_times, co_padd, co_lin, co_lin, co_out q (m + 1) (by omega), co_out p (m + 1) (by omega), co_out q m (by omega), co_out p m (by omega)]; grind
    · rw [ev_trim, ev_times, ev_padd, ev_lin, ev_lin]
      by_cases a : i = j
      · subst a
        rw [ep i (by omega) (by omega)]; grind
      · by_cases b : i = j + k + 1
        · subst b
          rw [eq (j + k + 1) (by omega) (by omega)]; grind
        · rw [ep i (by omega) (by omega), eq i (by omega) (by omega)]; grind
    · rw [co_trim, co_times, co_padd, co_lin, co_lin, co_out q (k + 1) (by omega), co_out p (k + 1) (by omega), cp, cq, dd]; grind

/-- The divided difference is the factor of the k-th power of what goes through the points 0 to k. -/
theorem dd_top {X Y : Nat → F} {k : Nat} {p : List F} (hX : Apart X (k + 1)) (hp : Th X Y (k + 1) p) : co p k = dd X Y k 0 := by
  obtain ⟨q, lq, eq, cq⟩ := dd_is X Y k 0 (by rw [Nat.zero_add]; exact hX)
  rw [← cq]
  exact hp.one hX ⟨lq, fun i hi => eq i (Nat.zero_le _) (by omega)⟩ k

/-- Some polynomial goes through the points. -/
theorem th_some (X Y : Nat → F) (n : Nat) (hX : Apart X n) : ∃ p, Th X Y n p := by
  cases n with
  | zero => exact ⟨[], Nat.le_refl _, fun i hi => by omega⟩
  | succ n =>
    obtain ⟨p, lp, ep, _⟩ := dd_is X Y n 0 (by rw [Nat.zero_add]; exact hX)
    exact ⟨p, lp, fun i hi => ep i (Nat.zero_le _) (by omega)⟩

/-- (x - x0) .. (x - xk): the polynomial. -/
def way (X : Nat → F) : Nat → List F
  | 0 => [1]
  | k + 1 => mul (way X k) [-(X k), 1]
theorem len_way (X : Nat → F) (k : Nat) (hk : k ≤ 100) : (way X k).length ≤ k + 1 := by
  induction k with
  | zero => exact Nat.le_refl _
  | succ k ih =>
    have h := ih (by omega)
    have := len_mul' (way X k) [-(X k), 1] (by simp; omega)
    simp at this
    rw [way]; omega
theorem tr_way (X : Nat → F) (k : Nat) : Tr (way X k) := by
  cases k with
  | zero => exact fun _ => one_ne
  | succ k => exact tr_mul _ _
theorem ev_way_zero (X : Nat → F) (k i : Nat) (h : i < k) : Pol.ev (way X k) (X i) = 0 := by
  induction k with
  | zero => omega
  | succ k ih =>
    rw [way, ev_mul, ev_cons, ev_one]
    by_cases e : i = k
    · subst e; grind
    · rw [ih (by omega)]; grind
/-- The factor of the greatest power is one. -/
theorem co_way (X : Nat → F) (k : Nat) (hk : k ≤ 100) : co (way X k) k = 1 := by
  induction k with
  | zero => rfl
  | succ k ih =>
    have h := ih (by omega)
    have l := len_way X k (by omega)
    rw [way, mul, co_trim]
    have := co_pmul (way X k) [-(X k), 1] k 1 l (by simp)
    rw [this, h]; simp [co]

/-- NEWTON's sum: of the first m steps. -/
def nsum (X S : Nat → F) : Nat → List F
  | 0 => []
  | m + 1 => plus (nsum X S m) (way X m) (S m) 0
theorem tr_nsum (X S : Nat → F) (m : Nat) : Tr (nsum X S m) := by
  cases m with
  | zero => exact tr_nil
  | succ m => exact tr_plus _ _ _ _
theorem len_nsum (X S : Nat → F) (m : Nat) (hm : m ≤ 100) : (nsum X S m).length ≤ m := by
  induction m with
  | zero => exact Nat.le_refl _
  | succ m ih =>
    have h := ih (by omega)
    have l := len_way X m (by omega)
    have := len_plus (nsum X S m) (way X m) (S m) 0
    rw [nsum]; omega
theorem th_nsum (X Y : Nat → F) (m : Nat) (hm : m ≤ 100) (hX : Apart X m) : Th X Y m (nsum X (fun k => dd X Y k 0) m) := by
  induction m with
  | zero => exact ⟨Nat.le_refl _, fun i hi => by omega⟩
  | succ m ih =>
    have h := ih (by omega) (hX.le (by omega))
    obtain ⟨p, hp⟩ := th_some X Y (m + 1) hX
    have c := dd_top hX hp
    have l := len_way X m (by omega)
    -- p without its greatest factor times the way
    have hq : Th X Y m (trim (padd p (times (-(dd X Y m 0)) (way X m)))) := by
      refine ⟨trim_short _ _ fun k hk => ?_, fun i hi => ?_⟩
      · rw [co_padd, co_times]
        by_cases e : k = m
        · subst e; rw [c, co_way X k (by omega)]; grind
        · rw [co_out p k (by have := hp.1; omega), co_out _ k (by omega)]; grind
      · rw [ev_trim, ev_padd, ev_times, ev_way_zero X m i hi, hp.2 i (by omega)]; grind
    refine ⟨len_nsum X _ (m + 1) hm, fun i hi => ?_⟩
    have e := h.ev (hX.le (by omega)) hq (X i)
    rw [nsum, ev_plus, e, ev_trim, ev_padd, ev_times, pw_zero, hp.2 i hi]; grind

/-- From the end on: what the last n - i steps make. -/
def hor (X S : Nat → F) (n : Nat) : Nat → List F
  | 0 => []
  | m + 1 => add (mul (hor X S n m) [-(X (n - (m + 1))), 1]) [S (n - (m + 1))]
theorem len_hor (X S : Nat → F) (n m : Nat) (hm : m ≤ 100) : (hor X S n m).length ≤ m := by
  induction m with
  | zero => exact Nat.le_refl _
  | succ m ih =>
    have h := ih (by omega)
    have l := len_mul' (hor X S n m) [-(X (n - (m + 1))), 1] (by simp; omega)
    have := len_add (mul (hor X S n m) [-(X (n - (m + 1))), 1]) [S (n - (m + 1))]
    simp at l this
    rw [hor]; omega
theorem tr_hor (X S : Nat → F) (n m : Nat) : Tr (hor X S n m) := by
  cases m with
  | zero => exact tr_nil
  | succ m => exact tr_add _ _
theorem ev_hor (X S : Nat → F) (n m : Nat) (hm : m ≤ n) (x : F) : Pol.ev (nsum X S n) x = Pol.ev (nsum X S (n - m)) x + Pol.ev (way X (n - m)) x * Pol.ev (hor X S n m) x := by
  induction m with
  | zero => rw [hor, ev_nil, Nat.sub_zero]; grind
  | succ m ih =>
    have e : n - m = (n - (m + 1)) + 1 := by omega
    rw [ih (by omega), e, nsum, ev_plus, way, ev_mul, hor, ev_add, ev_mul, ev_one, ev_cons, ev_one, pw_zero]; grind
theorem hor_nsum (X S : Nat → F) (n : Nat) (hn : n ≤ 100) : hor X S n n = nsum X S n := by
  refine Pol.same _ _ (tr_hor X S n n) (tr_nsum X S n) (by have := len_hor X S n n hn; omega) (by have := len_nsum X S n hn; omega) fun x => ?_
  have := ev_hor X S n n (Nat.le_refl _) x
  rw [Nat.sub_self] at this
  rw [this]; show _ = 0 + _ * _; rw [show Pol.ev (way X 0) x = 1 from ev_one 1 x]; grind

/-- The one that goes through the points, without noughts at its end. -/
def thr (X Y : Nat → F) (n : Nat) : List F := hor X (fun k => dd X Y k 0) n n
theorem thr_nsum (X Y : Nat → F) (n : Nat) (hn : n ≤ 100) : thr X Y n = nsum X (fun k => dd X Y k 0) n := hor_nsum X _ n hn
theorem th_thr (X Y : Nat → F) (n : Nat) (hn : n ≤ 100) (hX : Apart X n) : Th X Y n (thr X Y n) := by
  rw [thr_nsum X Y n hn]; exact th_nsum X Y n hn hX
theorem tr_thr (X Y : Nat → F) (n : Nat) : Tr (thr X Y n) := tr_hor _ _ _ _
theorem len_thr (X Y : Nat → F) (n : Nat) (hn : n ≤ 100) : (thr X Y n).length ≤ n := len_hor _ _ _ _ hn
theorem thr_of {X Y : Nat → F} {n : Nat} {p : List F} (hn : n ≤ 100) (hX : Apart X n) (h : Th X Y n p) (tp : Tr p) : p = thr X Y n :=
  h.same hX (th_thr X Y n hn hX) tp (tr_thr X Y n)
theorem co_thr {X Y : Nat → F} {k : Nat} (hk : k < 100) (hX : Apart X (k + 1)) : co (thr X Y (k + 1)) k = dd X Y k 0 := dd_top hX (th_thr X Y (k + 1) (by omega) hX)

/-- LAGRANGE: the one that is y at place i and nought at the others, of the first k. -/
def lag (X : Nat → F) (y : F) (i : Nat) : Nat → List F
  | 0 => [y]
  | k + 1 => if k = i then lag X y i k else mul (lag X y i k) [-(X k) * inv (X i - X k), inv (X i - X k)]
theorem len_lag (X : Nat → F) (y : F) (i k : Nat) (hk : k ≤ 100) : (lag X y i k).length ≤ k + 1 ∧ (i < k → (lag X y i k).length ≤ k) := by
  induction k with
  | zero => exact ⟨by simp [lag], fun h => by omega⟩
  | succ k ih =>
    have h := ih (by omega)
    rw [lag]
    by_cases e : k = i
    · rw [if_pos e]; exact ⟨by omega, fun _ => by omega⟩
    · rw [if_neg e]
      have l := len_mul' (lag X y i k) [-(X k) * inv (X i - X k), inv (X i - X k)] (by simp; omega)
      simp at l
      exact ⟨by omega, fun hi => by have := h.2 (by omega); omega⟩
theorem lag_one (a b i y : F) (h : i * (a - b) = 1) : y * (-b * i + a * i) = y := by
  have : -b * i + a * i = i * (a - b) := by grind
  rw [this, h, Fin.mul_one]
theorem lag_zero (a i y : F) : y * (-a * i + a * i) = 0 := by grind
theorem ev_lag_at (X : Nat → F) (y : F) (n i k : Nat) (hX : Apart X n) (hi : i < n) (hk : k ≤ n) : Pol.ev (lag X y i k) (X i) = y := by
  induction k with
  | zero => rw [lag, ev_one]
  | succ k ih =>
    rw [lag]
    by_cases e : k = i
    · rw [if_pos e]; exact ih (by omega)
    · rw [if_neg e, ev_mul, ih (by omega), ev_cons, ev_one]
      exact lag_one _ _ _ _ (inv_mul (sub_ne (hX.ne hi (show k < n by omega) (fun h => e h.symm))))
theorem ev_lag_no (X : Nat → F) (y : F) (i k j : Nat) (hj : j < k) (h : j ≠ i) : Pol.ev (lag X y i k) (X j) = 0 := by
  induction k with
  | zero => omega
  | succ k ih =>
    rw [lag]
    by_cases e : k = i
    · rw [if_pos e]; exact ih (by omega)
    · rw [if_neg e, ev_mul, ev_cons, ev_one]
      by_cases e2 : j = k
      · subst e2; exact lag_zero _ _ _
      · rw [ih (by omega), Fin.zero_mul]
/-- LAGRANGE's sum of the first m. -/
def lsum (X Y : Nat → F) (n : Nat) : Nat → List F
  | 0 => []
  | m + 1 => plus (lsum X Y n m) (lag X (Y m) m n) 1 0
theorem len_lsum (X Y : Nat → F) (n m : Nat) (hn : n ≤ 100) (hm : m ≤ n) : (lsum X Y n m).length ≤ n := by
  induction m with
  | zero => exact Nat.zero_le _
  | succ m ih =>
    have h := ih (by omega)
    have l := (len_lag X (Y m) m n hn).2 (by omega)
    have := len_plus (lsum X Y n m) (lag X (Y m) m n) 1 0
    rw [lsum]; omega
theorem ev_lsum (X Y : Nat → F) (n m j : Nat) (hX : Apart X n) (hm : m ≤ n) (hj : j < n) : Pol.ev (lsum X Y n m) (X j) = if j < m then Y j else 0 := by
  induction m with
  | zero => rw [lsum, ev_nil, if_neg (by omega)]
  | succ m ih =>
    rw [lsum, ev_plus, ih (by omega), pw_zero]
    by_cases e : j = m
    · subst e
      rw [if_neg (by omega), if_pos (by omega), ev_lag_at X (Y j) n j n hX hj (Nat.le_refl _)]; grind
    · rw [ev_lag_no X (Y m) m n j hj e]
      by_cases l : j < m
      · rw [if_pos l, if_pos (by omega)]; grind
      · rw [if_neg l, if_neg (by omega)]; grind
theorem lsum_thr (X Y : Nat → F) (n : Nat) (hn : n ≤ 100) (hX : Apart X n) : lsum X Y n n = thr X Y n := by
  refine thr_of hn hX ⟨len_lsum X Y n n hn (Nat.le_refl _), fun i hi => ?_⟩ ?_
  · rw [ev_lsum X Y n n i hX (Nat.le_refl _) hi, if_pos hi]
  · cases n with
    | zero => exact tr_nil
    | succ n => exact tr_plus _ _ _ _

/-- The points from the end on. -/
theorem thr_turned (X Y X' Y' : Nat → F) (n : Nat) (hn : n ≤ 100) (hX : Apart X n) (hx : ∀ i, i < n → X' i = X (n - 1 - i)) (hy : ∀ i, i < n → Y' i = Y (n - 1 - i)) :
    Apart X' n ∧ thr X' Y' n = thr X Y n := by
  have hA : Apart X' n := fun i j h1 h2 => by
    rw [hx i (by omega), hx j h2]
    exact hX.ne (by omega) (by omega) (by omega)
  refine ⟨hA, thr_of hn hX ⟨len_thr X' Y' n hn, fun i hi => ?_⟩ (tr_thr X' Y' n)⟩
  have h := (th_thr X' Y' n hn hA).2 (n - 1 - i) (by omega)
  rw [hx _ (by omega), hy _ (by omega), show n - 1 - (n - 1 - i) = i by omega] at h
  exact h
theorem thr_congr {X Y X' Y' : Nat → F} {n : Nat} (hn : n ≤ 100) (hX : Apart X n) (hx : ∀ i, i < n → X' i = X i) (hy : ∀ i, i < n → Y' i = Y i) : Apart X' n ∧ thr X' Y' n = thr X Y n := by
  have hA : Apart X' n := fun i j h1 h2 => by rw [hx i (by omega), hx j h2]; exact hX i j h1 h2
  refine ⟨hA, thr_of hn hX ⟨len_thr X' Y' n hn, fun i hi => ?_⟩ (tr_thr X' Y' n)⟩
  have h := (th_thr X' Y' n hn hA).2 i hi
  rw [hx i hi, hy i hi] at h
  exact h
/-- What goes through sums is the sum. -/
theorem thr_sum (X Y Z : Nat → F) (n : Nat) (hn : n ≤ 100) (hX : Apart X n) : thr X (fun i => Y i + Z i) n = add (thr X Y n) (thr X Z n) := by
  refine (thr_of hn hX ⟨?_, fun i hi => ?_⟩ (tr_add _ _)).symm
  · have := len_add (thr X Y n) (thr X Z n)
    have := len_thr X Y n hn
    have := len_thr X Z n hn
    omega
  · rw [ev_add, (th_thr X Y n hn hX).2 i hi, (th_thr X Z n hn hX).2 i hi]

/-- The table of the divided differences: cell k after the orders up to o. -/
def tab (X Y : Nat → F) (o k : Nat) : F := dd X Y (min k o) (k - min k o)
theorem tab_zero (X Y : Nat → F) (k : Nat) : tab X Y 0 k = Y k := by rw [tab, Nat.min_zero]; rfl
theorem tab_low (X Y : Nat → F) (o k : Nat) (h : k ≤ o) : tab X Y o k = dd X Y k 0 := by rw [tab, Nat.min_eq_left h, Nat.sub_self]
theorem tab_keep (X Y : Nat → F) (o k : Nat) (h : k ≤ o) : tab X Y (o + 1) k = tab X Y o k := by rw [tab_low X Y o k h, tab_low X Y (o + 1) k (by omega)]
theorem tab_step (X Y : Nat → F) (o k : Nat) (h : o + 1 ≤ k) : tab X Y (o + 1) k = (tab X Y o k - tab X Y o (k - 1)) * inv (X k - X (k - (o + 1))) := by
  obtain ⟨j, rfl⟩ : ∃ j, k = j + (o + 1) := ⟨k - (o + 1), by omega⟩
  rw [tab, Nat.min_eq_right h, Nat.add_sub_cancel, dd, tab, Nat.min_eq_right (by omega), tab, Nat.min_eq_right (by omega)]
  rw [show j + (o + 1) - o = j + 1 by omega, show j + (o + 1) - 1 - o = j by omega, show j + o + 1 = j + (o + 1) by omega]
/-- While order o + 1 is made: the cells from i on have it. -/
def mid (X Y : Nat → F) (o i k : Nat) : F := if i < k then tab X Y (o + 1) k else tab X Y o k
/-- A row from a rule. -/
def row (n : Nat) (g : Nat → F) : List F := (List.range n).map g
theorem len_row (n : Nat) (g : Nat → F) : (row n g).length = n := by simp [row]
theorem co_row (n : Nat) (g : Nat → F) (k : Nat) (h : k < n) : co (row n g) k = g k := by
  unfold co row
  rw [List.getD_eq_getElem?_getD, List.getElem?_map, List.getElem?_range h]; rfl
theorem row_ext (n : Nat) (g h : Nat → F) (e : ∀ k, k < n → g k = h k) : row n g = row n h :=
  List.map_congr_left fun k hk => e k (List.mem_range.1 hk)
theorem row_self (p : List F) : row p.length (co p) = p := by
  refine list_ext _ _ (len_row _ _) fun k => ?_
  rcases Nat.lt_or_ge k p.length with h | h
  · exact co_row _ _ k h
  · rw [co_out _ k (by rw [len_row]; exact h), co_out _ k h]
theorem row_set (n : Nat) (g h : Nat → F) (i : Nat) (hi : i < n) (e : ∀ k, k < n → h k = if k = i then h i else g k) : (row n g).set i (h i) = row n h := by
  refine list_ext _ _ (by rw [List.length_set, len_row, len_row]) fun k => ?_
  rcases Nat.lt_or_ge k n with l | l
  · rw [co_set _ _ _ _ (by rw [len_row]; exact hi), co_row n h k l, e k l, co_row n g k l]
  · rw [co_out _ k (by rw [List.length_set, len_row]; exact l), co_out _ k (by rw [len_row]; exact l)]
theorem row_mid (X Y : Nat → F) (n o i : Nat) (hi : i < n) (ho : o + 1 ≤ i) :
    (row n (mid X Y o i)).set i (tab X Y (o + 1) i) = row n (mid X Y o (i - 1)) := by
  have e : mid X Y o (i - 1) i = tab X Y (o + 1) i := by rw [mid, if_pos (by omega)]
  rw [← e]
  refine row_set n _ _ i hi fun k hk => ?_
  by_cases h : k = i
  · subst h; rw [if_pos rfl]
  · rw [if_neg h, mid, mid]
    by_cases h2 : i < k
    · rw [if_pos h2, if_pos (by omega)]
    · rw [if_neg h2, if_neg (by omega)]
theorem mid_start (X Y : Nat → F) (n o : Nat) : row n (mid X Y o (n - 1)) = row n (tab X Y o) := row_ext _ _ _ fun k hk => by rw [mid, if_neg (by omega)]
theorem mid_end (X Y : Nat → F) (n o : Nat) : row n (mid X Y o o) = row n (tab X Y (o + 1)) := row_ext _ _ _ fun k hk => by
  rw [mid]
  by_cases h : o < k
  · rw [if_pos h]
  · rw [if_neg h, tab_keep X Y o k (by omega)]
theorem tab_end (X Y : Nat → F) (n o : Nat) (h : n ≤ o + 1) : row n (tab X Y o) = row n (fun k => dd X Y k 0) := row_ext _ _ _ fun k hk => tab_low X Y o k (by omega)

end Go.Proofs.Ytldkamhknaflbaa.Pol

/- Contracts of slices.Index and slices.Contains at rows of integers: for all packages. -/
namespace Go.Proofs.Ytldkamhknaflbaa
open Go.ChangeShapes Go.WideShapes Go.ChangeAt Go.RowKit
set_option linter.unusedVariables false

/-- A number occurs among the first. -/
def Occurs (l : List Int) (n : Nat) (v : Int) : Prop := ∃ j, j < n ∧ l.getD j 0 = v
/-- An index where it occurs, or -1. -/
def Idx (P : Prop) (e : Ending) : Prop := (P ∧ ∃ k : Nat, e = .returned (.int .i64 (k : Int))) ∨ (¬ P ∧ e = .returned (.int .i64 (-1)))

set_option maxHeartbeats 800000 in
theorem index_any (A : Option Addr) (l : List Int) (n c : Nat) (v : Int) (w : World) (hl : Lies w A l) (hn : n ≤ l.length) (ln : n ≤ 1000000) :
    Calls Try.prog 62 #[.slice A n c, .int .i64 v] w fun e w' => Idx (Occurs l n v) e ∧ w = w' := by
  have HL := Lib.hid hl
  have HN := Lib.hid hn
  clear hl hn
  go_enter Try.func62, Try.ntmps62
  go_wp2_with fail
  go_loop [8] (fun i => ∃ k : Nat, k ≤ n ∧ i = .int .i64 (k : Int) ∧ ∀ j, j < k → l.getD j 0 ≠ v) (fun i => n - (intOf i).toNat)
  case atStart => exact ⟨0, Nat.zero_le _, rfl, fun j hj => absurd hj (by omega)⟩
  case round =>
    obtain ⟨k, hk, rfl, hg⟩ := hrel
    have HG := Lib.hid hg
    clear hg
    by_cases hlt : k < n
    · obtain ⟨ad, rfl, _, hc⟩ := HL.out k (by have := HN.out; omega)
      obtain ⟨m, hm⟩ : ∃ m, m = l.getD k 0 := ⟨_, rfl⟩
      rw [← hm] at hc
      by_cases h0 : v = m
      · have F := Lib.hid (show Occurs l n v from ⟨k, hlt, by rw [← hm, h0]⟩)
        have e0 : (v == m) = true := by rw [h0]; exact beq_self_eq_true m
        clear hm h0
        go_wp2_with fail
        go_ret
        exact ⟨.inl ⟨F.out, k, rfl⟩, rfl⟩
      · have GG := Lib.hid (show ∀ j, j < k + 1 → l.getD j 0 ≠ v from fun j hj => by
          by_cases e : j = k
          · subst e; rw [← hm]; exact fun h => h0 h.symm
          · exact HG.out j (by omega))
        have e0 : (v == m) = false := by rw [beq_eq_false_iff_ne]; exact h0
        clear hm h0
        go_wp2_with fail
        go_round
        case rel => exact ⟨k + 1, by omega, by go_num, GG.out⟩
        case measure => simp [intOf]; omega
    · have F := Lib.hid (show ¬ Occurs l n v from fun ⟨j, h1, h2⟩ => HG.out j (by omega) h2)
      go_wp2_with fail
      go_ret
      exact ⟨.inr ⟨F.out, rfl⟩, rfl⟩

theorem contains_any (A : Option Addr) (l : List Int) (n c : Nat) (v : Int) (w : World) (hl : Lies w A l) (hn : n ≤ l.length) (ln : n ≤ 1000000) :
    Calls Try.prog 57 #[.slice A n c, .int .i64 v] w fun e w' => Tells (Occurs l n v) e ∧ w = w' := by
  have H := Lib.hid (index_any A l n c v w hl hn ln)
  clear hl hn
  go_enter Try.func57, Try.ntmps57
  go_wp2_with fail
  refine (H.out).mono ?_; rintro e w' ⟨hi, rfl⟩
  rcases hi with ⟨hp, k, rfl⟩ | ⟨hp, rfl⟩
  · have HP := Lib.hid hp
    go_wp2_with fail
    go_ret
    exact ⟨.inl ⟨HP.out, by simp⟩, rfl⟩
  · have HP := Lib.hid hp
    go_wp2_with fail
    go_ret
    exact ⟨.inr ⟨HP.out, by simp⟩, rfl⟩

end Go.Proofs.Ytldkamhknaflbaa

/- Contracts of package ipol: Check, Steps, Through. -/
namespace Go.Proofs.Ytldkamhknaflbaa
open Go.ChangeShapes Go.WideShapes Go.ChangeAt Go.RowKit
set_option linter.unusedVariables false

set_option maxRecDepth 100000 in
theorem ipElement_any (n : Int) (w : World) (b : Bool) (hb : (decide (0 ≤ n) && decide (n ≤ 9972)) = b) :
    Calls Try.prog 56 #[.int .i64 n] w fun e w' => e = .returned (.bool b) ∧ w = w' := by
  have H := Lib.hid hb
  clear hb
  by_cases h1 : 0 ≤ n
  · go_enter Try.func56, Try.ntmps56
    go_wp2
    go_ret
    exact ⟨ret_bool (by rw [← H.out, decide_eq_true h1, Bool.true_and]; exact decide_eq_decide.2 (by omega)), rfl⟩
  · go_enter Try.func56, Try.ntmps56
    go_wp2
    go_ret
    exact ⟨ret_bool (by rw [← H.out, decide_eq_false (show ¬ 0 ≤ n by omega), Bool.false_and]), rfl⟩

set_option maxRecDepth 100000 in
theorem minus_el (a b : Fp.F) (w : World) :
    Calls Try.prog 31 #[el a, el b] w fun e w' => e = .returned (el (a - b)) ∧ w = w' := by
  have E := Lib.hid (show ((a.val : Int) - (b.val : Int) + 9973) % 9973 = ((a - b : Fp.F).val : Int) by
    rw [← Fp.ofInt_val]
    have h : Fp.ofInt ((a.val : Int) - (b.val : Int) + 9973) + b = a := by
      have := Fp.ofInt_add ((a.val : Int) - (b.val : Int) + 9973) (b.val : Int)
      rw [Fp.ofInt_self, show (a.val : Int) - (b.val : Int) + 9973 + (b.val : Int) = (a.val : Int) + 9973 by omega, Fp.ofInt_add, Fp.ofInt_self, show Fp.ofInt 9973 = 0 from rfl] at this
      rw [← this]; grind
    have : Fp.ofInt ((a.val : Int) - (b.val : Int) + 9973) = a - b := by rw [← h]; grind
    rw [this])
  have h1 := Fp.val_bound a
  have h2 := Fp.val_bound b
  unfold el
  generalize ((a - b : Fp.F).val : Int) = z at *
  generalize (a.val : Int) = x at *
  generalize (b.val : Int) = y at *
  go_enter Try.func31, Try.ntmps31
  go_wp2
  go_ret
  exact ⟨ret_int (by rw [E.out]), rfl⟩

/-- One of the first places comes twice. -/
def Twice (l : List Int) : Prop := ∃ i, i < l.length ∧ Occurs l i (l.getD i 0)
open Classical in
/-- What is wrong with points, as a number. -/
noncomputable def dcode (l m : List Int) : Nat :=
  if 6 < l.length then 4 else if m.length ≠ l.length then 3 else if ¬ (AllIn l 0 9972 ∧ AllIn m 0 9972) then 1 else if Twice l then 6 else 0
theorem dcode_some (l m : List Int) : dcode l m = 0 ∨ dcode l m = 1 ∨ dcode l m = 3 ∨ dcode l m = 4 ∨ dcode l m = 6 := by
  unfold dcode; split
  · simp
  · split
    · simp
    · split
      · simp
      · split <;> simp
theorem dcode_full {l m : List Int} (h : 6 < l.length) : dcode l m = 4 := by unfold dcode; rw [if_pos h]
theorem dcode_shape {l m : List Int} (h : ¬ 6 < l.length) (h1 : m.length ≠ l.length) : dcode l m = 3 := by unfold dcode; rw [if_neg h, if_pos h1]
theorem dcode_range {l m : List Int} (h : ¬ 6 < l.length) (h1 : m.length = l.length) (h2 : ¬ (AllIn l 0 9972 ∧ AllIn m 0 9972)) : dcode l m = 1 := by
  unfold dcode; rw [if_neg h, if_neg (fun e => e h1), if_pos h2]
theorem dcode_twice {l m : List Int} (h : ¬ 6 < l.length) (h1 : m.length = l.length) (h2 : AllIn l 0 9972) (h3 : AllIn m 0 9972) (h4 : Twice l) : dcode l m = 6 := by
  unfold dcode; rw [if_neg h, if_neg (fun e => e h1), if_neg (fun e => e ⟨h2, h3⟩), if_pos h4]
theorem dcode_ok {l m : List Int} (h : ¬ 6 < l.length) (h1 : m.length = l.length) (h2 : AllIn l 0 9972) (h3 : AllIn m 0 9972) (h4 : ¬ Twice l) : dcode l m = 0 := by
  unfold dcode; rw [if_neg h, if_neg (fun e => e h1), if_neg (fun e => e ⟨h2, h3⟩), if_neg h4]

/-- A row of numbers that are elements. -/
theorem allIn_vals {l : List Int} (h : AllIn l 0 9972) : ∃ p : List Fp.F, l = Pol.vals p := by
  refine ⟨l.map Fp.ofInt, ?_⟩
  unfold Pol.vals
  rw [List.map_map]
  conv => lhs; rw [← List.map_id l]
  refine List.map_congr_left fun n hn => ?_
  obtain ⟨k, hk, rfl⟩ := List.mem_iff_getElem.1 hn
  have := h k hk
  rw [List.getD_eq_getElem?_getD, List.getElem?_eq_getElem hk] at this
  exact (Fp.ofInt_of _ this.1 this.2).symm
theorem vals_allIn (p : List Fp.F) : AllIn (Pol.vals p) 0 9972 := fun k _ => by rw [Pol.vals_at]; exact Fp.val_bound _

theorem dcode_zero {l m : List Int} (h : dcode l m = 0) : ∃ p q : List Fp.F, l = Pol.vals p ∧ m = Pol.vals q ∧ p.length ≤ 6 ∧ q.length = p.length ∧ Pol.Apart (Pol.co p) p.length := by
  by_cases h1 : 6 < l.length
  · rw [dcode_full h1] at h; cases h
  by_cases h2 : m.length = l.length
  · by_cases h3 : AllIn l 0 9972 ∧ AllIn m 0 9972
    · by_cases h4 : Twice l
      · rw [dcode_twice h1 h2 h3.1 h3.2 h4] at h; cases h
      · obtain ⟨p, rfl⟩ := allIn_vals h3.1
        obtain ⟨q, rfl⟩ := allIn_vals h3.2
        rw [Pol.len_vals] at h1 h2
        rw [Pol.len_vals] at h2
        refine ⟨p, q, rfl, rfl, by omega, h2, fun i j hi hj e => h4 ⟨j, by rw [Pol.len_vals]; exact hj, i, hi, ?_⟩⟩
        rw [Pol.vals_at, Pol.vals_at, e]
    · rw [dcode_range h1 h2 h3] at h; cases h
  · rw [dcode_shape h1 h2] at h; cases h
theorem dcode_vals {p q : List Fp.F} (hp : p.length ≤ 6) (hq : q.length = p.length) (hX : Pol.Apart (Pol.co p) p.length) : dcode (Pol.vals p) (Pol.vals q) = 0 := by
  refine dcode_ok (by rw [Pol.len_vals]; omega) (by rw [Pol.len_vals, Pol.len_vals]; exact hq) (vals_allIn p) (vals_allIn q) fun ⟨i, hi, j, hj, e⟩ => ?_
  rw [Pol.len_vals] at hi
  rw [Pol.vals_at, Pol.vals_at] at e
  exact hX j i hj hi (Fp.val_inj e)

set_option maxRecDepth 100000 in
theorem ipCheck_full (A B : Option Addr) (l m : List Int) (c d : Nat) (w : World) (h : 6 < l.length) :
    Calls Try.prog 43 #[.slice A l.length c, .slice B m.length d] w fun e w' => e = .returned (errOf (dcode l m)) ∧ w = w' := by
  rw [dcode_full h]
  generalize l.length = n at *
  generalize m.length = q at *
  have h' : (6 : Int) < n := by omega
  go_enter Try.func43, Try.ntmps43
  go_wp2
  go_ret
  exact ⟨rfl, rfl⟩
set_option maxRecDepth 100000 in
theorem ipCheck_shape (A B : Option Addr) (l m : List Int) (c d : Nat) (w : World) (h : ¬ 6 < l.length) (h1 : m.length ≠ l.length) :
    Calls Try.prog 43 #[.slice A l.length c, .slice B m.length d] w fun e w' => e = .returned (errOf (dcode l m)) ∧ w = w' := by
  rw [dcode_shape h h1]
  generalize l.length = n at *
  generalize m.length = q at *
  have h' : ¬ (6 : Int) < n := by omega
  have h2 : ((q : Int) != (n : Int)) = true := by simp; omega
  clear h h1
  go_enter Try.func43, Try.ntmps43
  go_wp2
  go_ret
  exact ⟨rfl, rfl⟩

set_option maxRecDepth 100000 in
set_option maxHeartbeats 1600000 in
theorem ipCheck_main (A B : Option Addr) (l m : List Int) (c d : Nat) (w : World) (ha : Lies w A l) (hb : Lies w B m) (hc : l.length ≤ c) (h : ¬ 6 < l.length) (h1 : m.length = l.length) :
    Calls Try.prog 43 #[.slice A l.length c, .slice B l.length d] w fun e w' => e = .returned (errOf (dcode l m)) ∧ w = w' := by
  have HA := Lib.hid ha
  have HB := Lib.hid hb
  have RNG := Lib.hid (fun h2 => dcode_range h h1 h2)
  have TWI := Lib.hid (fun h2 h3 h4 => dcode_twice h h1 h2 h3 h4)
  have OKS := Lib.hid (fun h2 h3 h4 => dcode_ok h h1 h2 h3 h4)
  obtain ⟨v, hv⟩ : ∃ v, v = dcode l m := ⟨_, rfl⟩
  rw [← hv] at RNG TWI OKS ⊢
  obtain ⟨n, hn⟩ : ∃ n, n = l.length := ⟨_, rfl⟩
  rw [← hn] at h h1 hc ⊢
  have HN := Lib.hid hn
  have HM := Lib.hid h1
  have h' : ¬ (6 : Int) < n := by omega
  clear ha hb hv hn h1
  go_enter Try.func43, Try.ntmps43
  go_wp2_with fail
  go_loop [20] (fun i => ∃ k : Nat, k ≤ n ∧ i = .int .i64 (k : Int) ∧ ∀ j, j < k → (0 ≤ l.getD j 0 ∧ l.getD j 0 ≤ 9972) ∧ (0 ≤ m.getD j 0 ∧ m.getD j 0 ≤ 9972)) (fun i => n - (intOf i).toNat)
  case atStart => exact ⟨0, Nat.zero_le _, rfl, fun j hj => absurd hj (by omega)⟩
  case round =>
    obtain ⟨k, hk, rfl, hg⟩ := hrel
    have HG := Lib.hid hg
    clear hg
    by_cases hlt : k < n
    · obtain ⟨ad, rfl, _, hcx⟩ := HA.out k (by have := HN.out; omega)
      obtain ⟨bd, rfl, _, hcy⟩ := HB.out k (by have := HM.out; omega)
      obtain ⟨x, hx⟩ : ∃ x, x = l.getD k 0 := ⟨_, rfl⟩
      obtain ⟨y, hy⟩ : ∃ y, y = m.getD k 0 := ⟨_, rfl⟩
      rw [← hx] at hcx
      rw [← hy] at hcy
      by_cases x1 : 0 ≤ x ∧ x ≤ 9972
      · have EX := Lib.hid (ipElement_any x w true (by simp; omega))
        by_cases y1 : 0 ≤ y ∧ y ≤ 9972
        · have EY := Lib.hid (ipElement_any y w true (by simp; omega))
          have GG := Lib.hid (show ∀ j, j < k + 1 → (0 ≤ l.getD j 0 ∧ l.getD j 0 ≤ 9972) ∧ (0 ≤ m.getD j 0 ∧ m.getD j 0 ≤ 9972) from fun j hj => by
            by_cases e : j = k
            · subst e; rw [← hx, ← hy]; exact ⟨x1, y1⟩
            · exact HG.out j (by omega))
          clear hx hy x1 y1
          go_wp2_with fail
          refine (EX.out).mono ?_; rintro e w' ⟨rfl, rfl⟩
          go_wp2_with fail
          refine (EY.out).mono ?_; rintro e w' ⟨rfl, rfl⟩
          go_wp2_with fail
          go_round
          case rel => exact ⟨k + 1, by omega, by go_num, GG.out⟩
          case measure => simp [intOf]; omega
        · have EY := Lib.hid (ipElement_any y w false (by simp; omega))
          have E := Lib.hid (RNG.out fun hh => y1 (by have := hh.2 k (by have := HM.out; omega); rw [← hy] at this; exact this))
          clear hx hy x1 y1
          go_wp2_with fail
          refine (EX.out).mono ?_; rintro e w' ⟨rfl, rfl⟩
          go_wp2_with fail
          refine (EY.out).mono ?_; rintro e w' ⟨rfl, rfl⟩
          go_wp2_with fail
          go_ret
          exact ⟨by rw [E.out]; rfl, rfl⟩
      · have EX := Lib.hid (ipElement_any x w false (by simp; omega))
        have E := Lib.hid (RNG.out fun hh => x1 (by have := hh.1 k (by have := HN.out; omega); rw [← hx] at this; exact this))
        clear hx hy x1
        go_wp2_with fail
        refine (EX.out).mono ?_; rintro e w' ⟨rfl, rfl⟩
        go_wp2_with fail
        go_ret
        exact ⟨by rw [E.out]; rfl, rfl⟩
    · have AX := Lib.hid (show AllIn l 0 9972 from fun j hj => (HG.out j (by have := HN.out; omega)).1)
      have AY := Lib.hid (show AllIn m 0 9972 from fun j hj => (HG.out j (by have := HM.out; omega)).2)
      go_wp2_with fail
      go_loop [41] (fun i => ∃ k : Nat, k ≤ n ∧ i = .int .i64 (k : Int) ∧ ∀ j, j < k → ¬ Occurs l j (l.getD j 0)) (fun i => n - (intOf i).toNat)
      case atStart => exact ⟨0, Nat.zero_le _, rfl, fun j hj => absurd hj (by omega)⟩
      case round =>
        obtain ⟨t, ht, rfl, hg2⟩ := hrel
        have HG2 := Lib.hid hg2
        clear hg2
        by_cases hlt2 : t < n
        · have CT := Lib.hid (contains_any A l t c (l.getD t 0) w HA.out (by have := HN.out; omega) (by omega))
          obtain ⟨ad, rfl, _, hcx⟩ := HA.out t (by have := HN.out; omega)
          have tc : (t : Int) ≤ (c : Int) := by omega
          have DN := Lib.hid (fun hno : ¬ Occurs l t (l.getD t 0) => show ∀ j, j < t + 1 → ¬ Occurs l j (l.getD j 0) from fun j hj => by
            by_cases e : j = t
            · subst e; exact hno
            · exact HG2.out j (by omega))
          have DY := Lib.hid (fun hy : Occurs l t (l.getD t 0) => TWI.out AX.out AY.out ⟨t, by have := HN.out; omega, hy⟩)
          obtain ⟨x, hx⟩ : ∃ x, x = l.getD t 0 := ⟨_, rfl⟩
          rw [← hx] at hcx CT DN DY
          clear hx
          go_wp2_with fail
          refine (CT.out).mono ?_; rintro e w' ⟨hte, rfl⟩
          rcases hte with ⟨hp, rfl⟩ | ⟨hp, rfl⟩
          · have E := Lib.hid (DY.out hp)
            clear hp
            go_wp2_with fail
            go_ret
            exact ⟨by rw [E.out]; rfl, rfl⟩
          · have E := Lib.hid (DN.out hp)
            clear hp
            go_wp2_with fail
            go_round
            case rel => exact ⟨t + 1, by omega, by go_num, E.out⟩
            case measure => simp [intOf]; omega
        · have E := Lib.hid (OKS.out AX.out AY.out fun ⟨j, hj, ho⟩ => HG2.out j (by have := HN.out; omega) ho)
          go_wp2_with fail
          go_ret
          exact ⟨by rw [E.out]; rfl, rfl⟩

theorem ipCheck_any (A B : Option Addr) (l m : List Int) (c d : Nat) (w : World) (ha : Lies w A l) (hb : Lies w B m) (hc : l.length ≤ c) :
    Calls Try.prog 43 #[.slice A l.length c, .slice B m.length d] w fun e w' => e = .returned (errOf (dcode l m)) ∧ w = w' := by
  by_cases h : 6 < l.length
  · exact ipCheck_full A B l m c d w h
  · by_cases h1 : m.length = l.length
    · have := ipCheck_main A B l m c d w ha hb hc h h1
      rw [h1]; exact this
    · exact ipCheck_shape A B l m c d w h h1

set_option maxRecDepth 100000 in
theorem iclone_any (A : Option Addr) (l : List Int) (c : Nat) (w : World) (hl : Lies w A l) (hn : l.length ≤ 1000000) :
    Calls Try.prog 41 #[.slice A l.length c] w fun e w' => SomeRow l w e w' := by
  have HL := Lib.hid hl
  have q22 : ∀ (w : World) (a : Option Addr) (n c n' c' : Nat), (binOp .eql 22 (.slice a n c) (.slice none n' c')).run Try.prog w = .ok (.bool a.isNone) w := fun w a n c n' c' => Lib.run_eql_slice_nil w _ _ a n c n' c' Try.underlying22
  rcases A with _ | ad
  · obtain rfl : l = [] := by
      rcases Nat.eq_zero_or_pos l.length with h0 | h0
      · exact List.eq_nil_of_length_eq_zero h0
      · obtain ⟨ad, h, _⟩ := hl 0 h0; cases h
    clear hl
    go_enter Try.func41, Try.ntmps41
    go_wp2_with fail
    go_ret
    exact ⟨_, rfl, Own.none _ _, Kp.rfl' _⟩
  · clear hl
    have hm : Own (w.alloc (.cells #[] 3)) w.heap.size (.slice (some ⟨w.heap.size, 0, none⟩) 0 0) [] := World.ownsRow_made w #[] 0 (Nat.le_refl _) (Nat.zero_le _) rfl
    have HM := Lib.hid hm
    have HK := Lib.hid ((Kp.rfl' w).new (.cells #[] 3))
    clear hm
    go_enter Try.func41, Try.ntmps41
    go_wp2_with (at_builtin; refine wpList_cat rfl _ _ rfl w.heap.size _ [] l (some ad) l.length c rfl rfl rfl HM.out (HL.out.keep HK.out) (by simp; omega) (by simp) ?_; intro v' w' h1 h2 _)
    have HO := Lib.hid h1
    have HK' := Lib.hid (own_below HM.out HK.out (by simp) h2)
    clear h1 h2
    go_wp2_with fail
    go_ret
    exact ⟨v', rfl, HO.out, HK'.out⟩

end Go.Proofs.Ytldkamhknaflbaa

/- Contracts of package ipol, second part: Steps, Through. -/
namespace Go.Proofs.Ytldkamhknaflbaa
open Go.ChangeShapes Go.WideShapes Go.ChangeAt Go.RowKit
set_option linter.unusedVariables false

/-- The row of the divided differences. -/
def stepRow (p q : List Fp.F) : List Fp.F := Pol.row p.length (fun k => Pol.dd (Pol.co p) (Pol.co q) k 0)
theorem len_stepRow (p q : List Fp.F) : (stepRow p q).length = p.length := Pol.len_row _ _
theorem co_stepRow (p q : List Fp.F) (k : Nat) (h : k < p.length) : Pol.co (stepRow p q) k = Pol.dd (Pol.co p) (Pol.co q) k 0 := Pol.co_row _ _ k h

set_option maxRecDepth 100000 in
theorem steps_bad (A B : Option Addr) (l m : List Int) (c d : Nat) (w : World) (ha : Lies w A l) (hb : Lies w B m) (hc : l.length ≤ c) (h : dcode l m ≠ 0) :
    Calls Try.prog 29 #[.slice A l.length c, .slice B m.length d] w fun e w' => Fails (dcode l m) w e w' := by
  have C := Lib.hid (ipCheck_any A B l m c d w ha hb hc)
  unfold Fails
  have e := errOf_ne _ h
  rw [e] at C ⊢
  clear e h ha hb hc
  generalize dcode l m = x at *
  generalize l.length = n at *
  generalize m.length = q at *
  go_enter Try.func29, Try.ntmps29
  go_wp2_with fail
  refine (C.out).mono ?_; rintro e w' ⟨rfl, rfl⟩
  go_wp2_with fail
  go_ret2
  exact ⟨rfl, Kp.rfl' _⟩

set_option maxRecDepth 100000 in
set_option maxHeartbeats 3200000 in
theorem steps_ok (A B : Option Addr) (p q : List Fp.F) (n c d : Nat) (w : World) (ha : Lies w A (Pol.vals p)) (hb : Lies w B (Pol.vals q)) (hn : n = p.length) (hq : n = q.length) (ln : n ≤ 6) (hc : n ≤ c) (hX : Pol.Apart (Pol.co p) n) :
    Calls Try.prog 29 #[.slice A n c, .slice B n d] w fun e w' => Gives (stepRow p q) w e w' := by
  have C := Lib.hid (by
    have h := ipCheck_any A B (Pol.vals p) (Pol.vals q) c d w ha hb (by rw [Pol.len_vals]; omega)
    rw [dcode_vals (by omega) (by omega) (by rw [← hn]; exact hX), Pol.len_vals, Pol.len_vals, ← hn, ← hq] at h
    exact h)
  rw [errOf_zero] at C
  have CL := Lib.hid (by
    have h := iclone_any B (Pol.vals q) d w hb (by rw [Pol.len_vals]; omega)
    rw [Pol.len_vals, ← hq] at h
    exact h)
  have HA := Lib.hid ha
  have HN := Lib.hid hn
  have HQ := Lib.hid hq
  have HX := Lib.hid hX
  have HC := Lib.hid hc
  have ROW := Lib.hid (show stepRow p q = Pol.row n (fun k => Pol.dd (Pol.co p) (Pol.co q) k 0) by rw [hn]; rfl)
  clear ha hb hn hq hX hc
  go_enter Try.func29, Try.ntmps29
  go_wp2_with fail
  refine (C.out).mono ?_; rintro e w' ⟨rfl, rfl⟩
  go_wp2_with fail
  refine (CL.out).mono ?_; rintro e w1 ⟨v, rfl, hown, hkp⟩
  have HK1 := Lib.hid hkp
  obtain ⟨A1, c1, rfl, hl1, hc1⟩ := hown.cap
  rw [Pol.len_vals, ← HQ.out] at hc1
  have ev1 : (Pol.vals q).length = n := by rw [Pol.len_vals, ← HQ.out]
  rw [ev1] at hown ⊢
  have HO0 := Lib.hid (show Own w1 w.heap.size (.slice A1 n c1) (Pol.vals (Pol.row n (Pol.tab (Pol.co p) (Pol.co q) 0))) by
    have e : Pol.row n (Pol.tab (Pol.co p) (Pol.co q) 0) = q := by
      rw [Pol.row_ext n _ (Pol.co q) (fun k _ => Pol.tab_zero _ _ k), HQ.out, Pol.row_self]
    rw [e]; exact hown)
  have HC1 := Lib.hid hc1
  clear hown hkp hl1 C CL ev1 hc1
  go_wp2_with fail
  go_loopw [8] (fun i wr => ∃ o : Nat, o + 1 ≤ max n 1 ∧ i = .int .i64 ((o : Int) + 1) ∧ Own wr w.heap.size (.slice A1 n c1) (Pol.vals (Pol.row n (Pol.tab (Pol.co p) (Pol.co q) o))) ∧ Kp w wr) (fun i _ => n + 1 - (intOf i).toNat)
  case atStart => exact ⟨0, by omega, rfl, HO0.out, HK1.out⟩
  case round =>
    obtain ⟨o, ho, rfl, hown, hkp⟩ := hrel
    have HO := Lib.hid hown
    have HK := Lib.hid hkp
    clear hown hkp
    by_cases hlt : o + 1 < n
    · have hso := own_some HO.out (by rw [Pol.len_vals, Pol.len_row]; omega)
      obtain ⟨g, c', e, hg, hcx⟩ := hso
      injection e with e1 e2 e3
      subst e1
      have HG := Lib.hid hg
      clear hg hcx e2 e3
      obtain ⟨n', hn'⟩ : ∃ n', n = n' + 1 := ⟨n - 1, by omega⟩
      have HN' := Lib.hid hn'
      clear hn'
      go_wp2_with fail
      go_loopw [9] (fun j wr' => ∃ i : Nat, o ≤ i ∧ i + 1 ≤ n ∧ j = .int .i64 (i : Int) ∧ Own wr' w.heap.size (.slice (some ⟨g, 0, none⟩) n c1) (Pol.vals (Pol.row n (Pol.mid (Pol.co p) (Pol.co q) o i))) ∧ Kp w wr') (fun j _ => (intOf j).toNat)
      case atStart => exact ⟨n', by have := HN'.out; omega, by have := HN'.out; omega, by rw [show (n : Int) - 1 = (n' : Int) by have := HN'.out; omega], by
        have e := HO.out
        rw [← Pol.mid_start, show n - 1 = n' by have := HN'.out; omega] at e
        exact e, HK.out⟩
      case round =>
        obtain ⟨i, hi, hi2, rfl, hown2, hkp2⟩ := hrel
        by_cases hge : o + 1 ≤ i
        · obtain ⟨j, hj⟩ : ∃ j, i = j + o + 1 := ⟨i - (o + 1), by omega⟩
          obtain ⟨i0, hi0⟩ : ∃ i0, i0 = j + o := ⟨_, rfl⟩
          have hln : (Pol.vals (Pol.row n (Pol.mid (Pol.co p) (Pol.co q) o i))).length = n := by rw [Pol.len_vals, Pol.len_row]
          have s1 := own_cell hown2 i (by rw [hln]; omega)
          have s0 := own_cell hown2 i0 (by rw [hln]; omega)
          rw [Pol.vals_at, Pol.co_row _ _ _ (by omega), Pol.mid, if_neg (by omega)] at s1 s0
          have fr := own_free hown2 i
          obtain ⟨ad, rfl, _, x1⟩ := (HA.out.keep hkp2) i (by rw [Pol.len_vals, ← HN.out]; omega)
          obtain ⟨ad', ee, _, x0⟩ := (HA.out.keep hkp2) j (by rw [Pol.len_vals, ← HN.out]; omega)
          injection ee with ee
          subst ee
          rw [Pol.vals_at] at x1 x0
          have ne := Pol.sub_ne (HX.out.ne (i := i) (j := j) (by omega) (by omega) (by omega))
          have ST := Lib.hid (show Pol.vals (Pol.row n (Pol.mid (Pol.co p) (Pol.co q) o i0)) = (Pol.vals (Pol.row n (Pol.mid (Pol.co p) (Pol.co q) o i))).set i ((Pol.tab (Pol.co p) (Pol.co q) (o + 1) i).val : Int) by
            have h := Pol.row_mid (Pol.co p) (Pol.co q) n o i (by omega) (by omega)
            rw [show i - 1 = i0 by omega] at h
            rw [← h, Pol.vals_set])
          have TS := Lib.hid (Pol.tab_step (Pol.co p) (Pol.co q) o i (by omega))
          rw [show i - (o + 1) = j by omega, show i - 1 = i0 by omega] at TS
          have PUT := Lib.hid (fun (m : Nat) (x : Int) => own_put (hown2.drewN m) i x)
          have HK2 := Lib.hid hkp2
          have f1 : i < n := by omega
          have f2 : i0 < n := by omega
          have f3 : j < n := by omega
          have e1 : (i : Int) - 1 = (i0 : Int) := by omega
          have e2 : (i : Int) - ((o : Int) + 1) = (j : Int) := by omega
          have HI0 := Lib.hid hi0
          have HJ := Lib.hid hj
          clear hown2 hkp2 hln hi0 hj
          generalize Pol.co p i = a1 at *
          generalize Pol.co p j = a0 at *
          generalize Pol.tab (Pol.co p) (Pol.co q) o i = b1 at *
          generalize Pol.tab (Pol.co p) (Pol.co q) o i0 = b0 at *
          have MB := Lib.hid (fun w => minus_el b1 b0 w)
          have MA := Lib.hid (fun w => minus_el a1 a0 w)
          have DV := Lib.hid (fun w => div_el (b1 - b0) (a1 - a0) w ne)
          rw [← TS.out] at DV
          clear TS ne
          unfold el at *
          generalize ((Pol.tab (Pol.co p) (Pol.co q) (o + 1) i).val : Int) = z at *
          generalize ((b1 - b0).val : Int) = db at *
          generalize ((a1 - a0).val : Int) = da at *
          generalize (a1.val : Int) = va1 at *
          generalize (a0.val : Int) = va0 at *
          generalize (b1.val : Int) = vb1 at *
          generalize (b0.val : Int) = vb0 at *
          go_wp2_with fail
          go_quiet ((first
            | (with_reducible exact quiet_here (MB.out _))
            | (with_reducible exact quiet_more (MB.out _))
            | (with_reducible exact quiet_here (MA.out _))
            | (with_reducible exact quiet_more (MA.out _))
            | (with_reducible exact quiet_drew (DV.out _))
            | (with_reducible exact quiet_drew_more (DV.out _))))
          go_wp2_with fail
          go_roundw
          case rel =>
            have h1 := HJ.out
            have h0 := HI0.out
            exact ⟨i0, by omega, by omega, rfl, by rw [ST.out]; exact PUT.out _ _, (HK2.out.drewN _).put (p := ⟨g, i, none⟩) HG.out _⟩
          case measure => simp [intOf]; omega
        · have e : i = o := by omega
          subst e
          have HO2 := Lib.hid (show Own wr w.heap.size (.slice (some ⟨g, 0, none⟩) n c1) (Pol.vals (Pol.row n (Pol.tab (Pol.co p) (Pol.co q) (i + 1)))) by
            rw [← Pol.mid_end]; exact hown2)
          have HK2 := Lib.hid hkp2
          clear hown2 hkp2
          go_wp2_with fail
          go_roundw
          case rel => exact ⟨i + 1, by omega, by go_num, HO2.out, HK2.out⟩
          case measure => simp [intOf]; omega
    · have E := Lib.hid (Pol.tab_end (Pol.co p) (Pol.co q) n o (by omega))
      obtain ⟨A2, c2, e, hl, hc2⟩ := HO.out.cap
      injection e with e1 e2 e3
      subst e1 e3
      rw [E.out, ← ROW.out] at hl
      rw [E.out, ← ROW.out] at hc2
      rw [Pol.len_vals] at hc2
      have HL := Lib.hid hl
      have HC2 := Lib.hid hc2
      have EL := Lib.hid (show n = (stepRow p q).length by rw [len_stepRow, HN.out])
      clear hl hc2 e2
      have hge : (n : Int) ≤ (o : Int) + 1 := by omega
      go_wp2_with fail
      go_ret2
      exact ⟨A1, c1, by rw [← EL.out]; rfl, HL.out, HC2.out, HK.out⟩

end Go.Proofs.Ytldkamhknaflbaa

/- Contracts of package ipol, third part: Through. -/
namespace Go.Proofs.Ytldkamhknaflbaa
open Go.ChangeShapes Go.WideShapes Go.ChangeAt Go.RowKit
set_option linter.unusedVariables false

set_option maxRecDepth 100000 in
theorem through_bad (A B : Option Addr) (l m : List Int) (c d : Nat) (w : World) (ha : Lies w A l) (hb : Lies w B m) (hc : l.length ≤ c) (h : dcode l m ≠ 0) :
    Calls Try.prog 14 #[.slice A l.length c, .slice B m.length d] w fun e w' => Fails (dcode l m) w e w' := by
  have C := Lib.hid (steps_bad A B l m c d w ha hb hc h)
  unfold Fails at *
  have e := errOf_ne _ h
  rw [e] at C ⊢
  clear e h ha hb hc
  generalize dcode l m = x at *
  generalize l.length = n at *
  generalize m.length = q at *
  go_enter Try.func14, Try.ntmps14
  go_wp2_with fail
  refine (C.out).mono ?_; rintro e w' ⟨rfl, hk⟩
  have HK := Lib.hid hk
  clear hk
  go_wp2_with fail
  go_ret2
  exact ⟨rfl, HK.out⟩

theorem minus_zero (a : Fp.F) (w : World) :
    Calls Try.prog 31 #[.int .i64 0, el a] w fun e w' => e = .returned (el (-a)) ∧ w = w' := by
  have h := minus_el 0 a w
  rw [show (0 : Fp.F) - a = -a by grind] at h
  exact h

/-- The rule of the divided differences. -/
def stp (p q : List Fp.F) (k : Nat) : Fp.F := Pol.dd (Pol.co p) (Pol.co q) k 0

theorem vals_two (a : Fp.F) : Pol.vals [a, 1] = [(a.val : Int), 1] := rfl
theorem vals_one (a : Fp.F) : Pol.vals [a] = [(a.val : Int)] := rfl

set_option maxRecDepth 100000 in
set_option maxHeartbeats 3200000 in
theorem through_ok (A B : Option Addr) (p q : List Fp.F) (n c d : Nat) (w : World) (ha : Lies w A (Pol.vals p)) (hb : Lies w B (Pol.vals q)) (hn : n = p.length) (hq : n = q.length) (ln : n ≤ 6) (hc : n ≤ c) (hX : Pol.Apart (Pol.co p) n) :
    Calls Try.prog 14 #[.slice A n c, .slice B n d] w fun e w' => Gives (Pol.thr (Pol.co p) (Pol.co q) n) w e w' := by
  have ST := Lib.hid (steps_ok A B p q n c d w ha hb hn hq ln hc hX)
  have HA := Lib.hid ha
  have HN := Lib.hid hn
  have HQ := Lib.hid hq
  clear ha hb hn hq hX hc
  go_enter Try.func14, Try.ntmps14
  go_wp2_with fail
  refine (ST.out).mono ?_; rintro e w1 ⟨A1, c1, rfl, hl1, hc1, hkp⟩
  rw [len_stepRow, ← HN.out] at hc1 ⊢
  have HL1 := Lib.hid hl1
  have HK1 := Lib.hid hkp
  clear hl1 hkp ST
  go_wp2_with fail
  go_loopw [8, 7, 9] (fun f err i wr => ∃ (m len c' : Nat) (A' : Option Addr) (z : Int), m ≤ n ∧ f = .slice A' len c' ∧ len = (Pol.hor (Pol.co p) (stp p q) n m).length ∧ Lies wr A' (Pol.vals (Pol.hor (Pol.co p) (stp p q) n m)) ∧ len ≤ c' ∧
      err = .nilIface ∧ i = .int .i64 z ∧ z = (n : Int) - 1 - (m : Int) ∧ Kp w1 wr) (fun _ _ i _ => (intOf i + 1).toNat)
  case atStart => exact ⟨0, 0, 0, Option.none, _, Nat.zero_le _, rfl, rfl, Lies.empty _ _, Nat.le_refl _, rfl, rfl, by omega, Kp.rfl' _⟩
  case round =>
    obtain ⟨m, len, c', A', z, hm, rfl, hlen, hlies, hc', rfl, rfl, hz, hkp⟩ := hrel
    have HLEN := Lib.hid hlen
    have HLI := Lib.hid hlies
    have HK := Lib.hid hkp
    have LB := Lib.hid (Pol.len_hor (Pol.co p) (stp p q) n m (by omega))
    clear hlen hlies hkp
    by_cases hlt : m < n
    · obtain ⟨k, hk⟩ : ∃ k, k = n - (m + 1) := ⟨_, rfl⟩
      obtain rfl : z = (k : Int) := by omega
      have hkn : k < n := by omega
      have HKM := Lib.hid hk
      have HZ := Lib.hid hz
      clear hz hk
      obtain ⟨ad, rfl, _, xc⟩ := (HA.out.keep (HK1.out.trans HK.out)) k (by rw [Pol.len_vals, ← HN.out]; exact hkn)
      rw [Pol.vals_at] at xc
      have hll : len ≤ 6 := by have := HLEN.out; have := LB.out; omega
      obtain ⟨a, haa⟩ : ∃ a, a = Pol.co p k := ⟨_, rfl⟩
      rw [← haa] at xc
      have MZ := Lib.hid (fun w => minus_zero a w)
      have MU := Lib.hid (fun (w' : World) (B' : Option Addr) (d' : Nat) (hw : Kp wr w') (hB : Lies w' B' (Pol.vals [-a, 1])) => mul_ok' A' B' (Pol.hor (Pol.co p) (stp p q) n m) [-a, 1] len 2 c' d' w' (HLI.out.keep hw) hB HLEN.out rfl (by omega) (by omega))
      obtain ⟨bd, rfl, hbb, yc⟩ := (HL1.out.keep HK.out) k (by rw [Pol.len_vals, len_stepRow, ← HN.out]; exact hkn)
      rw [Pol.vals_at, co_stepRow _ _ _ (by rw [← HN.out]; exact hkn)] at yc
      have HY := Lib.hid (show Lies wr (some (bd.add k)) (Pol.vals [stp p q k]) from fun j hj => by
        obtain rfl : j = 0 := by rw [Pol.len_vals] at hj; simp at hj; exact hj
        exact ⟨_, rfl, by rw [block_add]; exact hbb, by rw [add_add, Nat.add_zero, yc]; rfl⟩)
      have AD := Lib.hid (fun (w' : World) (A2 : Option Addr) (c2 d2 : Nat) (hw : Kp wr w') (hA : Lies w' A2 (Pol.vals (Pol.mul (Pol.hor (Pol.co p) (stp p q) n m) [-a, 1]))) =>
        add_ok' A2 (some (bd.add k)) (Pol.mul (Pol.hor (Pol.co p) (stp p q) n m) [-a, 1]) [stp p q k] _ 1 c2 d2 w' hA (HY.out.keep hw) rfl rfl (by have h1 : (Pol.mul (Pol.hor (Pol.co p) (stp p q) n m) [-a, 1]).length ≤ (Pol.hor (Pol.co p) (stp p q) n m).length + 2 := Pol.len_mul _ _; have := HLEN.out; omega) (by omega))
      have EQ := Lib.hid (show Pol.add (Pol.mul (Pol.hor (Pol.co p) (stp p q) n m) [-a, 1]) [stp p q k] = Pol.hor (Pol.co p) (stp p q) n (m + 1) by rw [Pol.hor, haa, HKM.out])
      have hkc : (k : Int) < (c1 : Int) := by omega
      have hkc2 : (k : Int) + 1 ≤ (c1 : Int) := by omega
      clear haa yc hbb
      unfold el at *
      generalize hv : (a.val : Int) = va at *
      generalize hv' : ((-a).val : Int) = vna at *
      have HV' := Lib.hid hv'
      clear hv hv'
      go_wp2_with fail
      refine (MZ.out _).mono ?_; rintro e w' ⟨rfl, rfl⟩
      go_wp2_with fail
      refine (MU.out _ _ _ ((Kp.rfl' wr).new _) (by rw [vals_two, HV'.out]; exact lies_new wr _ [vna, 1])).mono ?_; rintro e w2 ⟨A2, c2, rfl, hl2, hc2, hk2⟩
      have HL2 := Lib.hid hl2
      have HK2 := Lib.hid (((Kp.rfl' wr).new _).trans hk2)
      clear hl2 hc2 hk2 MU MZ
      go_wp2_with fail
      refine (AD.out _ _ _ _ HK2.out HL2.out).mono ?_; rintro e w3 ⟨A3, c3, rfl, hl3, hc3, hk3⟩
      rw [EQ.out] at hl3 hc3 ⊢
      have HL3 := Lib.hid hl3
      have HC3 := Lib.hid hc3
      have HK3 := Lib.hid (HK.out.trans (HK2.out.trans hk3))
      clear hl3 hc3 hk3 AD EQ
      go_wp2_with fail
      go_roundw
      case rel => exact ⟨m + 1, _, c3, A3, _, by omega, rfl, rfl, HL3.out, HC3.out, rfl, rfl, by have := HZ.out; omega, HK3.out⟩
      case measure => simp [intOf]
    · obtain rfl : m = n := by omega
      obtain rfl : z = -1 := by omega
      have E := Lib.hid (show Pol.hor (Pol.co p) (stp p q) m m = Pol.thr (Pol.co p) (Pol.co q) m from rfl)
      have HT := Lib.hid (HK1.out.trans HK.out)
      go_wp2_with fail
      go_ret2
      exact ⟨A', c', by rw [← E.out, ← HLEN.out]; rfl, by rw [← E.out]; exact HLI.out, by rw [← E.out, ← HLEN.out]; exact hc', HT.out⟩

end Go.Proofs.Ytldkamhknaflbaa

/- Contracts of package solve, second part: a way less (slices.Delete), move, satisfy. -/
namespace Go.Proofs.Ytldkamhknaflbaa
open Go.ChangeShapes Go.WideShapes Go.ChangeAt Go.RowKit
set_option linter.unusedVariables false

theorem own_at {w : World} {B n d : Nat} {A : Option Addr} {l : List Int} (h : Own w B (.slice A n d) l) : Lies w A l := by
  obtain ⟨A', c', e, hl⟩ := h.lies
  cases e; exact hl
theorem ownM_some {w : World} {B : Nat} {v : Value} {G C : Nat → Nat} {m : List (List Int)} (h : OwnM w B v G C m) (h0 : 0 < m.length) : ∃ g cap, v = .slice (some ⟨g, 0, none⟩) m.length cap ∧ m.length ≤ cap ∧ cap ≤ maxLen ∧ B ≤ g := by
  rcases h.top.2 with ⟨_, h1⟩ | ⟨g, cap, cur, e, hg, _, hc, hm, _⟩
  · omega
  · exact ⟨g, cap, e, hc, hm, hg⟩
/-- A row of such a matrix has turned, and nothing else. -/
theorem OwnM.turned {w w' : World} {B n c g cap : Nat} {G C : Nat → Nat} {F : Nat → Nat → Int} {t : Nat} {h1 : Nat → Int} (h : OwnM w B (.slice (Option.some ⟨g, 0, Option.none⟩) n cap) G C (Mx.tab n c F)) (ht : t < n)
    (ho : Own w' B (.slice (Option.some ⟨G t, 0, Option.none⟩) c (C t)) (Mx.row c h1)) (hs : Save (fun b => b = G t) w w') : OwnM w' B (.slice (Option.some ⟨g, 0, Option.none⟩) n cap) G C (Mx.tab n c fun s => if s = t then h1 else F s) := by
  have hw := h.weak
  have ap : ∀ i j, i < n → j < n → i ≠ j → G i ≠ G j := fun i j hi hj => h.apart i j (by rw [Mx.len_tab]; exact hi) (by rw [Mx.len_tab]; exact hj)
  refine OwnH.strong ⟨ownsRow_save hw.top hs fun b hb e => ?_, fun i hi => ?_⟩ ap
  · have : g = b := Option.some.inj hb
    exact hw.apartTop ht (by rw [← e, this])
  · by_cases e : i = t
    · subst e; rw [if_pos rfl]; exact ho
    · rw [if_neg e]
      exact (hw.row i hi).save hs fun b hb e2 => ap i t hi ht e (by rw [← e2]; exact Option.some.inj hb)

theorem save_setCells (g : Nat) : ∀ (vs : List Value) (o : Nat) (w : World), Save (fun b => b = g) w (w.setCells g o vs)
  | [], _, w => Save.refl _ w
  | v :: r, o, w => by
    rw [World.setCells]
    exact Save.trans (S := fun b => b = g) ((Save.refl (fun b => b = g) w).put (p := ⟨g, o, none⟩) rfl v) (save_setCells g r (o + 1) _)
theorem heap_setCells (g : Nat) (e : TypeId) : ∀ (vs : List Value) (o : Nat) (w : World) (cur : Array Value), w.heap[g]? = some (.cells cur e (0, 0)) →
    ∃ cur', (w.setCells g o vs).heap[g]? = some (.cells cur' e (0, 0)) ∧ cur'.size = cur.size ∧ ∀ j, j < cur.size → cur'[j]? = if o ≤ j ∧ j < o + vs.length then vs[j - o]? else cur[j]?
  | [], o, w, cur, h => ⟨cur, h, rfl, fun j _ => by simp; omega⟩
  | v :: r, o, w, cur, h => by
    rw [World.setCells]
    obtain ⟨cur', h1, h2, h3⟩ := heap_setCells g e r (o + 1) (w.setCell ⟨g, o, none⟩ v) _ (heap_setCell_same w g o _ _ v h)
    refine ⟨cur', h1, by rw [h2]; simp, fun j hj => ?_⟩
    rw [h3 j (by simpa using hj)]
    by_cases e1 : j = o
    · subst e1
      rw [if_neg (by omega), if_pos ⟨Nat.le_refl _, by simp⟩]
      simp [hj]
    · by_cases e2 : o + 1 ≤ j ∧ j < o + 1 + r.length
      · rw [if_pos e2, if_pos ⟨by omega, by simp; omega⟩]
        obtain ⟨t, rfl⟩ : ∃ t, j = o + 1 + t := ⟨j - (o + 1), by omega⟩
        rw [show o + 1 + t - (o + 1) = t by omega, show o + 1 + t - o = t + 1 by omega, List.getElem?_cons_succ]
      · rw [if_neg e2, if_neg (by simp; omega), Array.getElem?_setIfInBounds_ne (by omega)]

set_option maxRecDepth 100000 in
set_option maxHeartbeats 4000000 in
/-- One row less. -/
theorem delete_any {B g cap N c k j : Nat} {G C : Nat → Nat} {F : Nat → Nat → Int} (w : World) (hk : k < N) (hj : j = k + 1) (h : OwnM w B (.slice (some ⟨g, 0, none⟩) N cap) G C (Mx.tab N c F)) :
    Calls Try.prog 52 #[.slice (some ⟨g, 0, none⟩) N cap, .int .i64 (k : Int), .int .i64 (j : Int)] w fun e w' =>
      e = .returned (.slice (some ⟨g, 0, none⟩) (N - 1) cap) ∧ OwnM w' B (.slice (some ⟨g, 0, none⟩) (N - 1) cap) (fun i => G (Mx.sk k i)) (fun i => C (Mx.sk k i)) (Mx.tab (N - 1) c fun i => F (Mx.sk k i)) ∧ Save (fun b => b = g) w w' := by
  obtain ⟨i0, hi, hz0, hz1, hz2⟩ := info_parts ints_info
  have hw := h.weak
  have ap : ∀ i j, i < N → j < N → i ≠ j → G i ≠ G j := fun i j hi hj => h.apart i j (by rw [Mx.len_tab]; exact hi) (by rw [Mx.len_tab]; exact hj)
  rcases hw.top.2 with ⟨e, _⟩ | ⟨g', cap', cur, hv, hg, hh, hcap, hmx, hsz, htk⟩
  · cases e
  cases hv
  rw [Nat.mul_one] at hsz htk
  have hlt : k < j := by omega
  have hjN : j ≤ N := by omega
  have hcur : ∀ t, t < N → cur[t]? = some (.slice (some ⟨G t, 0, none⟩) c (C t)) := fun t ht => by
    rw [← Array.getElem?_toList, ← List.getElem?_take_of_lt ht, htk]
    simp [hds, ht]
  obtain ⟨news, hnews⟩ : ∃ news, news = (List.range (N - j)).map fun t => Value.slice (some ⟨G (j + t), 0, none⟩) c (C (j + t)) := ⟨_, rfl⟩
  have hlen : news.length = N - j := by rw [hnews]; simp
  have hget : ∀ t, t < N - j → news[t]? = some (Value.slice (some ⟨G (j + t), 0, none⟩) c (C (j + t))) := fun t ht => by rw [hnews]; simp [ht]
  obtain ⟨A, hA, hsrc⟩ : ∃ A : Addr, (if cap = j then some (⟨g, 0, none⟩ : Addr) else some ⟨g, j, none⟩) = some A ∧ Hid (∀ t u, news[t]? = some u → w.drew.cell? (A.add t) = some u) := by
    by_cases hc : cap = j
    · refine ⟨⟨g, 0, none⟩, by simp [hc], fun t u hu => ?_⟩
      have h0 : news.length = 0 := by rw [hlen]; omega
      rw [List.length_eq_zero_iff.1 h0] at hu
      simp at hu
    · refine ⟨⟨g, j, none⟩, by simp [hc], fun t u hu => ?_⟩
      have ht : t < N - j := by
        have := (List.getElem?_eq_some_iff.1 hu).1
        rwa [hlen] at this
      rw [hget t ht] at hu
      have e : (⟨g, j, none⟩ : Addr).add t = ⟨g, j + t, none⟩ := by
        unfold Addr.add
        by_cases h0 : t = 0 <;> simp [h0]
      rw [e]
      show w.cell? ⟨g, j + t, none⟩ = some u
      rw [hw.head (show j + t < N by omega), ← hu]
  have s1 : Hid (news.length = (N - j) * 1) := by rw [Nat.mul_one]; exact hlen
  have s2 : Hid (∀ u ∈ news, u.oneCell' = true) := by
    intro u hu
    rw [hnews] at hu
    obtain ⟨x, _, rfl⟩ := List.mem_map.1 hu
    rfl
  have s3 : Hid (∀ t, t < news.length → (w.drew.cell? ⟨g, 0 + k * 1 + t, none⟩).isSome = true ∧ w.drew.frozen? ⟨g, 0 + k * 1 + t, none⟩ = false) := by
    intro t ht
    rw [hlen] at ht
    rw [Nat.mul_one, Nat.zero_add]
    exact ⟨by show (w.cell? _).isSome = true; rw [hw.head (show k + t < N by omega)]; rfl, hw.topFree _⟩
  obtain ⟨W1, hW1⟩ : ∃ W1, W1 = w.drew.setCells g (0 + k * 1) news := ⟨_, rfl⟩
  obtain ⟨cur1, hc1, hs1, hg1⟩ := heap_setCells g 22 news (0 + k * 1) w.drew cur hh
  rw [← hW1] at hc1
  have hcell1 : ∀ t, t < cap → W1.cell? ⟨g, t, none⟩ = cur1[t]? := fun t ht => cell_of_row _ _ t _ _ (0, 0) hc1
  have hsome1 : ∀ t, t < cap → (W1.cell? ⟨g, t, none⟩).isSome = true := fun t ht => by rw [hcell1 t ht, Array.getElem?_eq_getElem (by omega)]; rfl
  have hfree1 : ∀ t, W1.frozen? ⟨g, t, none⟩ = false := fun t => frozen_of_row W1 g t _ _ hc1
  have hcl : ∀ ty, (Builtin.clear_ #[24] ty #[.slice (some ⟨g, k + (N - j), none⟩) (N - (k + (N - j))) (cap - (k + (N - j)))]).run Try.prog W1 = .ok (.tuple #[]) (W1.setCells g (k + (N - j)) (List.replicate (N - (k + (N - j))) (.slice none 0 0))) :=
    fun ty => Lib.run_clear_slice W1 _ 22 ty (.slice none 0 0) Try.underlying24 (fun w => by simp [zeroValue, typeInfo, hi, hz0]) rfl rfl g (k + (N - j)) _ _ (by omega) (fun t ht => hsome1 _ (by omega)) (fun t ht => hfree1 _)
  obtain ⟨W2, hW2⟩ : ∃ W2, W2 = W1.setCells g (k + (N - j)) (List.replicate (N - (k + (N - j))) (Value.slice none 0 0)) := ⟨_, rfl⟩
  have ANS : Hid (OwnM W2 B (.slice (some ⟨g, 0, none⟩) (N - 1) cap) (fun i => G (Mx.sk k i)) (fun i => C (Mx.sk k i)) (Mx.tab (N - 1) c fun i => F (Mx.sk k i)) ∧ Save (fun b => b = g) w W2) := by
    have hsv : Save (fun b => b = g) w W2 := by
      rw [hW2, hW1]
      exact (((Save.refl _ w).drewN 1).trans (save_setCells g _ _ _)).trans (save_setCells g _ _ _)
    obtain ⟨cur2, hc2, hs2, hg2⟩ := heap_setCells g 22 (List.replicate (N - (k + (N - j))) (Value.slice none 0 0)) (k + (N - j)) W1 cur1 hc1
    rw [← hW2] at hc2
    have hsk : ∀ i, i < N - 1 → Mx.sk k i < N := fun i hi => by unfold Mx.sk; split <;> omega
    refine ⟨OwnH.strong ⟨⟨by rw [len_hds, Nat.mul_one], .inr ⟨g, cap, cur2, rfl, hg, hc2, by omega, hmx, by rw [Nat.mul_one]; omega, ?_⟩⟩, fun i hi => ?_⟩ fun a b ha hb hne => ap _ _ (hsk a ha) (hsk b hb) fun e => hne (Mx.sk_inj e), hsv⟩
    · rw [Nat.mul_one]
      refine List.ext_getElem? fun t => ?_
      by_cases ht : t < N - 1
      · rw [List.getElem?_take_of_lt ht, Array.getElem?_toList, hg2 t (by omega), if_neg (by omega), hg1 t (by omega)]
        have er : (hds (N - 1) c (fun i => G (Mx.sk k i)) fun i => C (Mx.sk k i))[t]? = some (Value.slice (some ⟨G (Mx.sk k t), 0, none⟩) c (C (Mx.sk k t))) := by simp [hds, ht]
        rw [er]
        by_cases hkt : t < k
        · rw [if_neg (by omega), hcur t (by omega)]
          have : Mx.sk k t = t := by unfold Mx.sk; rw [if_pos hkt]
          rw [this]
        · rw [if_pos ⟨by omega, by rw [hlen]; omega⟩, hget _ (by omega)]
          have : Mx.sk k t = j + (t - (0 + k * 1)) := by unfold Mx.sk; rw [if_neg hkt]; omega
          rw [this]
      · rw [List.getElem?_eq_none (by simp; omega), List.getElem?_eq_none (by rw [len_hds]; omega)]
    · exact (hw.row _ (hsk i hi)).save hsv fun b hb e => hw.apartTop (hsk i hi) (by rw [← e]; exact Option.some.inj hb)
  rw [← hW2] at hcl
  have hW : Hid (W1 = w.drew.setCells g (0 + k * 1) news) := hW1
  have e1 : ((k : Int) == (j : Int)) = false := by rw [beq_eq_false_iff_ne]; omega
  have e2 : k + (N - j) = N - 1 := by omega
  have E2 := Lib.hid e2
  have hkc : k ≤ cap := by omega
  have hjc : j ≤ cap := by omega
  have hmx2 : cap ≤ 9223372036854775807 := by unfold maxLen at hmx; omega
  clear h hw ap hh htk hsz hmx hcur hget hlen hnews hc1 hs1 hg1 hcell1 hsome1 hfree1 hW1 hW2 e2 hz0 hz2 hg
  clear hj
  go_enter Try.func52, Try.ntmps52
  go_wp2_with fail
  go_region_law (refine step_append_room rfl (.tmp 22) (.tmp 25) 24 rfl 22 i0 1 Try.underlying24 hi hz1 g 0 k cap (by simp [Act.eval, Act.put]) A (N - j) (cap - j) news (by simp [Act.eval, Act.put]) s1.out hsrc.out s2.out (by omega) s3.out ?_; rw [← hW.out])
  go_wp2_with fail
  go_ret
  exact ⟨by rw [E2.out]; rfl, ANS.out⟩

set_option maxRecDepth 100000 in
set_option maxHeartbeats 1600000 in
theorem move_any {B B' gt ct gw cw gp B0 c i : Nat} {f : Nat → Nat → Fp.F} {u wv : Nat → Fp.F} (want : Fp.F) (w : World) (hc : c ≤ 1000) (hv : Val w gp B0 c f i) (ht : Own w B (.slice (some ⟨gt, 0, none⟩) c ct) (rowF c u))
    (hw : Own w B' (.slice (some ⟨gw, 0, none⟩) c cw) (rowF c wv)) (hne : gw ≠ gt) (hgp : gp ≠ gt) (hB : B0 ≤ gt) (h0 : Mx.tov c f wv i ≠ 0) :
    Calls Try.prog 53 #[.func (.func 54) #[] #[.pointer (some ⟨gp, 0, none⟩)], .int .i64 (want.val : Int), .slice (some ⟨gt, 0, none⟩) c ct, .slice (some ⟨gw, 0, none⟩) c cw] w fun e w' =>
      e = .returned .nilIface ∧ Own w' B (.slice (some ⟨gt, 0, none⟩) c ct) (rowF c (Mx.mv c f i want wv u)) ∧ Save (fun b => b = gt) w w' := by
  have hlt : gt < w.heap.size := (World.ownsRow.lt ht gt rfl).2
  have V1 := Lib.hid (value_any (some ⟨gt, 0, none⟩) gp B0 c ct i f u w hc hv (by omega) (own_at ht))
  have V2 := Lib.hid (value_any (some ⟨gw, 0, none⟩) gp B0 c cw i f wv w hc hv (by omega) (own_at hw))
  have DV := Lib.hid (fun w => div_el (want - Mx.tov c f u i) (Mx.tov c f wv i) w h0)
  have HM := Lib.hid (show ∀ j, Mx.mv c f i want wv u j = u j + ((want - Mx.tov c f u i) * Fp.inv (Mx.tov c f wv i)) * wv j from fun j => rfl)
  generalize Mx.mv c f i want wv u = res at *
  have HQ := Lib.hid (sub_mod want (Mx.tov c f u i))
  have q1 := gval want
  have q2 := gval (Mx.tov c f u i)
  unfold el at DV
  obtain ⟨q, hq⟩ : ∃ q, q = (want - Mx.tov c f u i) * Fp.inv (Mx.tov c f wv i) := ⟨_, rfl⟩
  rw [← hq] at DV HM
  have q3 := gval q
  have HT := Lib.hid ht
  have HW := Lib.hid hw
  have HNE := Lib.hid hne
  clear hv ht hw hne hgp h0 hB hq
  generalize ((want - Mx.tov c f u i : Fp.F).val : Int) = mis at *
  generalize ((Mx.tov c f wv i).val : Int) = den at *
  generalize ((Mx.tov c f u i).val : Int) = cur at *
  generalize (want.val : Int) = wnt at *
  have hm := HQ.out
  have hw1 : IntKind.i64.wrap (wnt - cur) = wnt - cur := IntWalk.i64_in _ (by omega)
  have hw2 : IntKind.i64.wrap (wnt - cur + 9973) = wnt - cur + 9973 := IntWalk.i64_in _ (by omega)
  clear q1 q2
  go_enter Try.func53, Try.ntmps53
  go_wp2_with fail
  refine (V1.out).mono ?_; rintro e w' ⟨rfl, rfl⟩
  go_wp2_with fail
  refine (V2.out).mono ?_; rintro e w' ⟨rfl, rfl⟩
  go_wp2_with fail
  refine (DV.out _).mono ?_; rintro e w1 ⟨rfl, hd⟩
  have HT1 := Lib.hid (HT.out.kp hd.kp)
  have HW1 := Lib.hid (HW.out.kp hd.kp)
  have HS1 := Lib.hid (Save.of (S := fun b => b = gt) hd.kp)
  clear hd hm hw1 hw2
  go_wp2_with fail
  go_loopw [34] (fun j wr => ∃ k : Nat, k ≤ c ∧ j = .int .i64 (k : Int) ∧ Own wr B (.slice (some ⟨gt, 0, none⟩) c ct) (Mx.row c fun j => if j < k then ((u j + q * wv j : Fp.F).val : Int) else ((u j).val : Int)) ∧ Save (fun b => b = gt) w wr ∧ Save (fun b => b = gt) w1 wr) (fun j _ => c - (intOf j).toNat)
  case atStart => exact ⟨0, Nat.zero_le _, rfl, by rw [Mx.row_ext (h := fun j => ((u j).val : Int)) (fun j _ => by rw [if_neg (by omega)])]; exact HT1.out, HS1.out, Save.refl _ _⟩
  case round =>
    obtain ⟨k, hk, rfl, ho, hs, hs1⟩ := hrel
    by_cases hlt2 : k < c
    · have hw' := HW1.out.save hs1 (fun b hb e => HNE.out (by rw [← e]; exact Option.some.inj hb))
      have y1 := own_cell hw' k (by rw [Mx.len_row]; exact hlt2)
      have y2 := own_cell ho k (by rw [Mx.len_row]; exact hlt2)
      have y3 := own_free ho k
      rw [Mx.row_at _ _ _ hlt2] at y1 y2
      rw [if_neg (by omega)] at y2
      have HP := Lib.hid ho
      have HS := Lib.hid hs
      have HS1' := Lib.hid hs1
      have hm := more_mod (u k) q (wv k)
      have hb := times_bound q (wv k)
      have hb2 := gval (u k)
      obtain ⟨z, hz⟩ : ∃ z, z = ((u k + q * wv k : Fp.F).val : Int) := ⟨_, rfl⟩
      rw [← hz] at hm
      have HZ := Lib.hid hz
      generalize ((u k).val : Int) = a0 at *
      generalize ((wv k).val : Int) = b0 at *
      generalize (q.val : Int) = c0 at *
      have hwm : IntKind.i64.wrap (c0 * b0) = c0 * b0 := IntWalk.i64_in _ (by omega)
      have hwa : IntKind.i64.wrap (a0 + c0 * b0) = a0 + c0 * b0 := IntWalk.i64_in _ (by omega)
      clear ho hs hs1 hw' hz hb hb2
      go_wp2_with fail
      go_roundw
      case rel =>
        refine ⟨k + 1, by omega, by go_num, ?_, HS.out.put (p := ⟨gt, k, none⟩) rfl _, HS1'.out.put (p := ⟨gt, k, none⟩) rfl _⟩
        have := own_put HP.out k z
        rw [Mx.row_set] at this
        rw [Mx.row_ext (h := fun j => if j = k then z else if j < k then ((u j + q * wv j : Fp.F).val : Int) else ((u j).val : Int)) fun j hj => ?_]
        · exact this
        · by_cases e : j = k
          · rw [if_pos e, if_pos (by omega), HZ.out, e]
          · rw [if_neg e]
            by_cases e2 : j < k
            · rw [if_pos e2, if_pos (by omega)]
            · rw [if_neg e2, if_neg (by omega)]
      case measure => simp [intOf]; omega
    · obtain rfl : k = c := by omega
      have HP := Lib.hid ho
      have HS := Lib.hid hs
      clear ho hs hs1
      go_wp2_with fail
      go_ret
      refine ⟨rfl, ?_, HS.out⟩
      rw [show rowF k res = Mx.row k fun j => if j < k then ((u j + q * wv j : Fp.F).val : Int) else ((u j).val : Int) from Mx.row_ext fun j hj => by rw [if_pos hj, HM.out j]]
      exact HP.out
end Go.Proofs.Ytldkamhknaflbaa

/- Contracts of package solve, third part: satisfy. -/
namespace Go.Proofs.Ytldkamhknaflbaa
open Go.ChangeShapes Go.WideShapes Go.ChangeAt Go.RowKit
set_option linter.unusedVariables false

/-- One more row is met; or there is no answer at all. -/
def Stepped (B0 B gx cx r c i : Nat) (f : Nat → Nat → Fp.F) (tt0 : Nat → Fp.F) (b : List Nat) (w : World) (e : Ending) (w' : World) : Prop :=
  (∃ A n d G C x W, e = .returned (.tuple #[.slice A n d, .nilIface]) ∧ OwnM w' B (.slice A n d) G C (Mx.matl n c W) ∧ Own w' B0 (.slice (some ⟨gx, 0, none⟩) c cx) (rowF c x) ∧
    Mx.Srch c f tt0 b (i + 1) x (Mx.wl n W) ∧ n ≤ 1000 ∧ Below B0 w w') ∨
  (e = .returned (.tuple #[.slice none 0 0, .iface 56 (.int .i64 5)]) ∧ Mx.NoAns r c f tt0 ∧ Below B0 w w')

set_option maxRecDepth 100000 in
set_option maxHeartbeats 6400000 in
theorem satisfy_any {B0 B gx cx gp r c i n : Nat} {f gg W : Nat → Nat → Fp.F} {tt0 x : Nat → Fp.F} {b : List Nat} {v : Value} {G C : Nat → Nat} (w : World) (hc : c ≤ 1000) (hn : n ≤ 1000) (hi : i < r)
    (st : Mx.Steps r c b gg) (er : Mx.Req r c f gg) (sr : Mx.Srch c f tt0 b i x (Mx.wl n W)) (hv : Val w gp B0 c f i)
    (hx : Own w B0 (.slice (some ⟨gx, 0, none⟩) c cx) (rowF c x)) (hm : OwnM w B v G C (Mx.matl n c W)) (hgx : gx < B) (hB0 : B0 ≤ B) (hp1 : gp ≠ gx) (hp2 : v.ownBlock ≠ some gp) (hp3 : ∀ t, t < n → G t ≠ gp) :
    Calls Try.prog 36 #[.func (.func 54) #[] #[.pointer (some ⟨gp, 0, none⟩)], .int .i64 ((tt0 i).val : Int), .slice (some ⟨gx, 0, none⟩) c cx, v] w fun e w' => Stepped B0 B gx cx r c i f tt0 b w e w' := by
  have hxl := World.ownsRow.lt hx gx rfl
  have hgpl : gp < w.heap.size := by obtain ⟨A1, d1, h1, _⟩ := hv.ex; exact cell_lt h1
  obtain ⟨w1, hw1⟩ : ∃ w1, w1 = w.alloc (.cells #[.func (.func 54) #[] #[.pointer (some ⟨gp, 0, none⟩)]] 50) := ⟨_, rfl⟩
  have hk1 : Kp w w1 := by rw [hw1]; exact (Kp.rfl' w).new _
  have hbx : w1.cell? ⟨w.heap.size, 0, none⟩ = some (.func (.func 54) #[] #[.pointer (some ⟨gp, 0, none⟩)]) := by rw [hw1]; exact cell_made w _ _ _ 0 rfl
  obtain ⟨gb, hgb⟩ : ∃ gb, gb = w.heap.size := ⟨_, rfl⟩
  rw [← hgb] at hbx
  have hm1 := hm.kp hk1
  obtain ⟨A, d, rfl, hl1, _⟩ := hm1.lies
  rw [Mx.len_matl] at hm hp2 hm1 ⊢
  have hv1 := hv.keep hk1 (by omega)
  have hx1 := hx.kp hk1
  have WY := Lib.hid (ways_any A gb gp B0 n c d i f W w1 hc hn hbx hv1 (by have := hk1.size; omega) hl1)
  have VX := Lib.hid (value_any (some ⟨gx, 0, none⟩) gp B0 c cx i f x w1 hc hv1 (by have := hk1.size; omega) (own_at hx1))
  have K1 := Lib.hid hk1
  have HM := Lib.hid hm1
  have HX := Lib.hid hx1
  have HV := Lib.hid hv1
  have SR := Lib.hid sr
  have ST := Lib.hid st
  have ER := Lib.hid er
  have HW1 := Lib.hid hw1
  have GX := Lib.hid (show gx < B ∧ B0 ≤ gx ∧ gp ≠ gx ∧ B0 ≤ w.heap.size from ⟨hgx, hxl.1, hp1, by omega⟩)
  have GM := Lib.hid (show (Value.slice A n d).ownBlock ≠ some gp ∧ (∀ t, t < n → G t ≠ gp) ∧ (∀ t, t < n → B ≤ G t ∧ G t < gb) ∧ (∀ g, (Value.slice A n d).ownBlock = some g → B ≤ g ∧ g < gb) from
    ⟨hp2, hp3, fun t ht => by rw [hgb]; exact hm.lt (by rw [Mx.len_matl]; exact ht), fun g hg => by rw [hgb]; exact World.ownsRow.lt hm.top g hg⟩)
  have GB := Lib.hid (show gx < gb ∧ gp < gb by rw [hgb]; exact ⟨hxl.2, hgpl⟩)
  clear hxl hgpl hm hx hv hp1 hp2 hp3 hm1 hl1 hx1 hv1 st er sr hgx hB0 hk1
  clear hw1
  go_enter Try.func36, Try.ntmps36
  go_wp2_with fail
  rw [← HW1.out, ← hgb]
  clear hgb
  refine (WY.out).mono ?_; rintro e w' ⟨(⟨k, hk, h0, rfl⟩ | ⟨hz, rfl⟩), rfl⟩
  · -- a way moves
    have HN0 := Lib.hid h0
    clear h0
    obtain ⟨g, cap, hsl, _, hmx, _⟩ := ownM_some HM.out (by rw [Mx.len_matl]; omega)
    rw [Mx.len_matl] at hsl
    cases hsl
    have y1 := HM.out.weak.head hk
    have hhead := HM.out.weak.row k hk
    have htop := HM.out.weak.apartTop hk
    have DL := delete_any (k := k) (j := k + 1) w1 hk rfl HM.out
    obtain ⟨n1, hn1⟩ : ∃ n1, n1 = n - 1 := ⟨_, rfl⟩
    rw [show ((k + 1 : Nat) : Int) = (k : Int) + 1 by omega, ← hn1] at DL
    have DL := Lib.hid DL
    have HN1 := Lib.hid (show n = n1 + 1 by omega)
    have hn1000 : n1 ≤ 1000 := by omega
    have HSK := Lib.hid (show ∀ s, s < n1 → Mx.sk k s < n ∧ Mx.sk k s ≠ k from fun s hs => ⟨by unfold Mx.sk; split <;> omega, Mx.sk_ne k s⟩)
    have hg1 := GM.out.2.2.2 g rfl
    have hg2 : g ≠ gp := fun e => GM.out.1 (by rw [e]; rfl)
    have hgk := GM.out.2.2.1 k hk
    have hgk2 := GM.out.2.1 k hk
    have HGX := Lib.hid (show gx ≠ g ∧ G k ≠ gx ∧ gb ≠ g ∧ gb ≠ gx ∧ gb ≠ G k ∧ G k ≠ gp ∧ g ≠ gp ∧ B0 ≤ g by
      have := GX.out; have := GB.out
      exact ⟨by omega, by omega, by omega, by omega, by omega, hgk2, hg2, by omega⟩)
    have HTOP := Lib.hid htop
    have HHD := Lib.hid hhead
    clear hn1 hg1 hg2 hgk hgk2 htop hhead
    go_wp2_with fail
    refine (DL.out).mono ?_; rintro e w2 ⟨rfl, hm2, hs2⟩
    have hx2 := HX.out.save hs2 (fun b hb e => HGX.out.1 (by rw [← e]; exact Option.some.inj hb))
    have hway2 := HHD.out.save hs2 (fun b hb e => HTOP.out (by rw [← e]; exact Option.some.inj hb))
    have hv2 := HV.out.save hs2 (fun e => HGX.out.2.2.2.2.2.2.1 e.symm) (fun b hb => by rw [hb]; exact HGX.out.2.2.2.2.2.2.2) (by have := K1.out.size; have := GX.out; omega)
    have y2 := hs2.cell hbx HGX.out.2.2.1
    have B2 := Lib.hid (hs2.below (K1.out.mono GX.out.2.2.2) (by have := K1.out.size; have := GX.out; omega) (fun b hb => by rw [hb]; exact HGX.out.2.2.2.2.2.2.2))
    have MV := Lib.hid (move_any (tt0 i) w2 hc hv2 hx2 hway2 HGX.out.2.1 GX.out.2.2.1 GX.out.2.1 HN0.out)
    have HM2 := Lib.hid hm2
    have HV2 := Lib.hid hv2
    have HWAY2 := Lib.hid hway2
    have Y2 := Lib.hid y2
    clear hm2 hs2 hx2 hway2 hv2 hbx y1
    go_wp2_with fail
    refine (MV.out).mono ?_; rintro e w3 ⟨rfl, hx3, hs3⟩
    have hb2s : B0 ≤ w2.heap.size := by have := B2.out.size; have := GX.out; omega
    have hm3 := HM2.out.save hs3 (fun b hb e => HGX.out.1 (by rw [← e]; exact (Option.some.inj hb).symm)) (fun s hs e => by
      rw [Mx.len_tab] at hs
      have := GM.out.2.2.1 _ (HSK.out s hs).1
      have := GX.out
      omega)
    have hway3 := HWAY2.out.save hs3 (fun b hb e => HGX.out.2.1 (by rw [← e]; exact Option.some.inj hb))
    have hv3 := HV2.out.save hs3 GX.out.2.2.1 (fun b hb => by rw [hb]; exact GX.out.2.1) hb2s
    have y3 := hs3.cell Y2.out HGX.out.2.2.2.1
    have B3 := Lib.hid (hs3.below B2.out hb2s (fun b hb => by rw [hb]; exact GX.out.2.1))
    have HM3 := Lib.hid hm3
    have HX3 := Lib.hid hx3
    have HV3 := Lib.hid hv3
    have HWAY3 := Lib.hid hway3
    have Y3 := Lib.hid y3
    have B3S := Lib.hid (show B0 ≤ w3.heap.size from Nat.le_trans hb2s hs3.size)
    clear hm3 hs3 hx3 hway3 hv3 y2 hb2s
    go_wp2_with fail
    go_loopw [47] (fun j wr => ∃ t : Nat, t ≤ n1 ∧ j = .int .i64 (t : Int) ∧ OwnM wr B (.slice (some ⟨g, 0, none⟩) n1 d) (fun s => G (Mx.sk k s)) (fun s => C (Mx.sk k s)) (Mx.matl n1 c fun s => if s < t then Mx.mv c f i 0 (W k) (W (Mx.sk k s)) else W (Mx.sk k s)) ∧ Save (fun b => ∃ s, s < n1 ∧ b = G (Mx.sk k s)) w3 wr) (fun j _ => n1 - (intOf j).toNat)
    case atStart => exact ⟨0, Nat.zero_le _, rfl, HM3.out.ext (fun s q _ _ => by dsimp only; rw [if_neg (by omega)]), Save.refl _ _⟩
    case round =>
      clear y3
      obtain ⟨t, ht, rfl, ho, hs⟩ := hrel
      by_cases hlt : t < n1
      · have z1 := ho.weak.head hlt
        have z2 := hs.cell Y3.out (fun ⟨s, h1, h2⟩ => by have h3 : gb = G (Mx.sk k s) := h2; have := GM.out.2.2.1 _ (HSK.out s h1).1; omega)
        have hv4 := HV3.out.save hs (fun ⟨s, h1, h2⟩ => GM.out.2.1 _ (HSK.out s h1).1 h2.symm) (fun b ⟨s, h1, h2⟩ => by have := GM.out.2.2.1 _ (HSK.out s h1).1; have := GX.out; omega) B3S.out
        have hway4 := HWAY3.out.save hs (fun b hb ⟨s, h1, h2⟩ => (by
          have e : G k = b := Option.some.inj hb
          exact HM.out.apart k _ (by rw [Mx.len_matl]; exact hk) (by rw [Mx.len_matl]; exact (HSK.out s h1).1) (fun e2 => (HSK.out s h1).2 e2.symm) (e.trans h2)))
        have hrow4 := ho.weak.row t hlt
        have MV4 := move_any (gt := G (Mx.sk k t)) (ct := C (Mx.sk k t)) (u := W (Mx.sk k t)) 0 wr hc hv4 (by rw [show rowF c (W (Mx.sk k t)) = Mx.row c (fun q => (((if t < t then Mx.mv c f i 0 (W k) (W (Mx.sk k t)) else W (Mx.sk k t)) q).val : Int)) by rw [if_neg (Nat.lt_irrefl t)]]; exact hrow4) hway4
          (fun e => HM.out.apart k _ (by rw [Mx.len_matl]; exact hk) (by rw [Mx.len_matl]; exact (HSK.out t hlt).1) (fun e2 => (HSK.out t hlt).2 e2.symm) e) (fun e => GM.out.2.1 _ (HSK.out t hlt).1 e.symm) (by have := GM.out.2.2.1 _ (HSK.out t hlt).1; have := GX.out; omega) HN0.out
        rw [show (((0 : Fp.F).val : Nat) : Int) = 0 from rfl] at MV4
        have MV4 := Lib.hid MV4
        have HO := Lib.hid ho
        have HS := Lib.hid hs
        clear ho hs hv4 hway4 hrow4
        go_wp2_with fail
        refine (MV4.out).mono ?_; rintro e w4 ⟨rfl, hr4, hs4⟩
        have HO4 := Lib.hid ((HO.out.turned hlt hr4 hs4).ext (f' := fun s q => (((if s < t + 1 then Mx.mv c f i 0 (W k) (W (Mx.sk k s)) else W (Mx.sk k s)) q).val : Int)) fun s q _ _ => by
          dsimp only
          by_cases e : s = t
          · subst e; rw [if_pos rfl, if_pos (by omega)]
          · rw [if_neg e]
            by_cases e2 : s < t
            · rw [if_pos e2, if_pos (by omega)]
            · rw [if_neg e2, if_neg (by omega)])
        have HS4 := Lib.hid (HS.out.trans (⟨hs4.os, hs4.tape, hs4.output, hs4.size, fun b hb hn => hs4.block b hb fun e => hn ⟨t, hlt, e⟩⟩ : Save (fun b => ∃ s, s < n1 ∧ b = G (Mx.sk k s)) wr w4))
        clear hr4 hs4
        go_wp2_with fail
        go_roundw
        case rel => exact ⟨t + 1, by omega, by go_num, HO4.out, HS4.out⟩
        case measure => simp [intOf]; omega
      · obtain rfl : t = n1 := by omega
        have hx4 := HX3.out.save hs (fun b hb ⟨s, h1, h2⟩ => (by
          have e : gx = b := Option.some.inj hb
          have := GM.out.2.2.1 _ (HSK.out s h1).1
          have := GX.out
          omega))
        have HB := Lib.hid (hs.below B3.out B3S.out (fun b ⟨s, h1, h2⟩ => by have := GM.out.2.2.1 _ (HSK.out s h1).1; have := GX.out; omega))
        have HX4 := Lib.hid hx4
        have HO := Lib.hid (ho.ext (f' := fun s q => ((Mx.mv c f i 0 (W k) (W (Mx.sk k s)) q).val : Int)) fun s q hs' _ => by dsimp only; rw [if_pos hs'])
        have HSR := Lib.hid (show Mx.Srch c f tt0 b (i + 1) (Mx.mv c f i (tt0 i) (W k) x) (Mx.wl t fun s => Mx.mv c f i 0 (W k) (W (Mx.sk k s))) from by
          have hlen : k < (Mx.wl n W).length := by rw [Mx.len_wl]; exact hk
          have h := SR.out.move k hlen (by rw [Mx.wl_at]; exact HN0.out)
          rw [Mx.wl_at] at h
          rw [show (Mx.wl n W).eraseIdx k = Mx.wl t fun s => W (Mx.sk k s) by
            have e := HN1.out
            rw [e]; exact Mx.wl_erase t W k (by omega), Mx.wl_map] at h
          exact h)
        clear ho hs hx4
        go_wp2_with fail
        go_ret2
        exact .inl ⟨_, _, _, _, _, _, _, rfl, HO.out, HX4.out, HSR.out, hn1000, HB.out⟩
  · -- none does
    have HZ := Lib.hid hz
    clear hz
    have HB := Lib.hid (K1.out.mono GX.out.2.2.2)
    go_wp2_with fail
    refine (VX.out).mono ?_; rintro e w' ⟨rfl, rfl⟩
    by_cases he : Mx.tov c f x i = tt0 i
    · have HSR := Lib.hid (SR.out.keep (fun w hw => by obtain ⟨k, hk, rfl⟩ := Mx.wl_mem.1 hw; exact HZ.out k hk) he)
      have e1 : (((Mx.tov c f x i).val : Int) != ((tt0 i).val : Int)) = false := by rw [he]; simp
      generalize ((Mx.tov c f x i).val : Int) = p1 at *
      generalize ((tt0 i).val : Int) = p2 at *
      clear he
      go_wp2_with fail
      go_ret2
      exact .inl ⟨_, _, _, _, _, _, _, rfl, HM.out, HX.out, HSR.out, hn, HB.out⟩
    · have HNO := Lib.hid (SR.out.fail ST.out ER.out hi (fun w hw => by obtain ⟨k, hk, rfl⟩ := Mx.wl_mem.1 hw; exact HZ.out k hk) he)
      have e1 : (((Mx.tov c f x i).val : Int) != ((tt0 i).val : Int)) = true := by
        rw [bne_iff_ne]
        exact fun e => he (Fin.ext (by omega))
      generalize ((Mx.tov c f x i).val : Int) = p1 at *
      generalize ((tt0 i).val : Int) = p2 at *
      clear he
      go_wp2_with fail
      go_ret2
      exact .inr ⟨rfl, HNO.out, HB.out⟩
end Go.Proofs.Ytldkamhknaflbaa

/- Contracts of package solve, fourth part: One. -/
namespace Go.Proofs.Ytldkamhknaflbaa
open Go.ChangeShapes Go.WideShapes Go.ChangeAt Go.RowKit
set_option linter.unusedVariables false

theorem cols_at (b : List Nat) {k : Nat} (hk : k < b.length) : (cols b).getD k 0 = (Mx.pv b k : Int) := by simp [cols, Mx.pv, hk]
/-- What satisfy leaves, value by value. -/
def SRel (B0 B gx cx r c i : Nat) (f : Nat → Nat → Fp.F) (ys : Nat → Fp.F) (b : List Nat) (q p : Value) (w w' : World) : Prop :=
  (∃ n G C x W, p = .nilIface ∧ OwnM w' B q G C (Mx.matl n c W) ∧ Own w' B0 (.slice (some ⟨gx, 0, none⟩) c cx) (rowF c x) ∧ Mx.Srch c f ys b (i + 1) x (Mx.wl n W) ∧ n ≤ 1000 ∧ Below B0 w w') ∨
  (p = .iface 56 (.int .i64 5) ∧ Mx.NoAns r c f ys ∧ Below B0 w w')
theorem stepped_rel {B0 B gx cx r c i : Nat} {f : Nat → Nat → Fp.F} {ys : Nat → Fp.F} {b : List Nat} {w : World} {e : Ending} {w' : World} (h : Stepped B0 B gx cx r c i f ys b w e w') :
    ∃ q p, e = .returned (.tuple #[q, p]) ∧ SRel B0 B gx cx r c i f ys b q p w w' := by
  rcases h with ⟨A, n, d, G, C, x, W, he, h⟩ | ⟨he, h⟩
  · exact ⟨_, _, he, .inl ⟨n, G, C, x, W, rfl, h⟩⟩
  · exact ⟨_, _, he, .inr ⟨rfl, h⟩⟩

theorem SRel.from {B0 B gx cx r c i : Nat} {f : Nat → Nat → Fp.F} {ys : Nat → Fp.F} {b : List Nat} {q p : Value} {w0 w w' : World} (h : SRel B0 B gx cx r c i f ys b q p w w') (k : Below B0 w0 w) : SRel B0 B gx cx r c i f ys b q p w0 w' := by
  rcases h with ⟨n, G, C, x, W, h1, h2, h3, h4, h5, h6⟩ | ⟨h1, h2, h3⟩
  · exact .inl ⟨n, G, C, x, W, h1, h2, h3, h4, h5, k.trans h6⟩
  · exact .inr ⟨h1, h2, k.trans h3⟩

/-- The answer of a system, or that there is none. -/
def GotOne (r c : Nat) (f : Nat → Nat → Fp.F) (ys : Nat → Fp.F) (w : World) (e : Ending) (w' : World) : Prop :=
  ∃ b g, Stair r c c f b g ∧ ((∃ x A d, Mx.Ans r c f ys b x ∧ e = .returned (.tuple #[.slice A c d, .nilIface]) ∧ Lies w' A (rowF c x) ∧ Kp w w') ∨
    (Mx.NoAns r c f ys ∧ e = .returned (.tuple #[.slice none 0 0, .iface 56 (.int .i64 5)]) ∧ Kp w w'))
/-- The same, with the row's capacity. -/
def GotOneC (r c : Nat) (f : Nat → Nat → Fp.F) (ys : Nat → Fp.F) (w : World) (e : Ending) (w' : World) : Prop :=
  ∃ b g, Stair r c c f b g ∧ ((∃ x A d, Mx.Ans r c f ys b x ∧ e = .returned (.tuple #[.slice A c d, .nilIface]) ∧ c ≤ d ∧ Lies w' A (rowF c x) ∧ Kp w w') ∨
    (Mx.NoAns r c f ys ∧ e = .returned (.tuple #[.slice none 0 0, .iface 56 (.int .i64 5)]) ∧ Kp w w'))
/-- No row, an error. -/
def FailsRow (c : Nat) (w : World) (e : Ending) (w' : World) : Prop := e = .returned (.tuple #[.slice none 0 0, errOf c]) ∧ Kp w w'

set_option maxRecDepth 100000 in
theorem SOne_bad (A : Option Addr) (m : List (List Int)) (n d : Nat) (T : Option Addr) (q e : Nat) (w : World) (ha : LiesM w A m) (hn : m.length = n) (h : Mx.mcode 5 0 9972 m ≠ 0) :
    Calls Try.prog 16 #[.slice A n d, .slice T q e] w fun e w' => FailsRow (Mx.mcode 5 0 9972 m) w e w' := by
  have C := Lib.hid (Steps_bad A m n d w ha hn h)
  unfold FailsSteps at C
  unfold FailsRow
  rw [errOf_ne _ h] at C ⊢
  generalize Mx.mcode 5 0 9972 m = z at *
  clear ha hn h
  go_enter Try.func16, Try.ntmps16
  go_wp2_with fail
  refine (C.out).mono ?_; rintro e w' ⟨rfl, hk⟩
  have HK := Lib.hid hk
  clear hk
  go_wp2_with fail
  go_ret2
  exact ⟨rfl, HK.out⟩

set_option maxRecDepth 100000 in
theorem One_side (A : Option Addr) (f : Nat → Nat → Fp.F) (r c d : Nat) (T : Option Addr) (l : List Int) (q e : Nat) (w : World) (ha : LiesM w A (Mx.matl r c f)) (ht : Lies w T l) (hl : l.length = q) (hr0 : 0 < r) (hr : r ≤ 5) (hc0 : 0 < c) (hc : c ≤ 5) (h : Mx.rcode 0 9972 r l ≠ 0) :
    Calls Try.prog 16 #[.slice A r d, .slice T q e] w fun e w' => FailsRow (Mx.rcode 0 9972 r l) w e w' := by
  have ST := Lib.hid (Steps_ok A f r c d w ha hr0 hr hc0 hc)
  have CS := Lib.hid (fun (w1 : World) (k : Kp w w1) => checkSide_any T l q e r w1 (ht.keep k) hl (by omega))
  unfold FailsRow
  rw [errOf_ne _ h] at CS ⊢
  generalize Mx.rcode 0 9972 r l = z at *
  clear ha ht h
  go_enter Try.func16, Try.ntmps16
  go_wp2_with fail
  refine (ST.out).mono ?_; rintro e w1 ⟨b, g, A1, d1, A2, d2, hs, rfl, l1, l2, k1⟩
  have K1 := Lib.hid k1
  clear hs l1 l2 k1
  go_wp2_with fail
  refine (CS.out _ K1.out).mono ?_; rintro e w' ⟨rfl, rfl⟩
  go_wp2_with fail
  go_ret2
  exact ⟨rfl, K1.out⟩

set_option maxRecDepth 100000 in
set_option maxHeartbeats 6400000 in
theorem SOne_cap (A : Option Addr) (f : Nat → Nat → Fp.F) (r c d : Nat) (T : Option Addr) (t : Nat → Fp.F) (e : Nat) (w : World) (ha : LiesM w A (Mx.matl r c f)) (ht : Lies w T (rowF r t)) (hr0 : 0 < r) (hr : r ≤ 5) (hc0 : 0 < c) (hc : c ≤ 5) :
    Calls Try.prog 16 #[.slice A r d, .slice T r e] w fun e w' => GotOneC r c f t w e w' := by
  have STP := Lib.hid (Steps_ok A f r c d w ha hr0 hr hc0 hc)
  have CS := Lib.hid (fun (w1 : World) (k : Kp w w1) => checkSide_any T (rowF r t) r e r w1 (ht.keep k) (Mx.len_row _ _) (by omega))
  rw [Mx.rcode_ok (Mx.len_row _ _) (fun k hk => by
    rw [Mx.len_row] at hk
    rw [Mx.row_at _ _ _ hk]; exact gval _), errOf_zero] at CS
  have HA := Lib.hid ha
  have HT := Lib.hid ht
  obtain ⟨i0, hi, hz0, hz1, hz2⟩ := info_parts int_info
  clear ha ht
  go_enter Try.func16, Try.ntmps16
  go_wp2_with fail
  refine (STP.out).mono ?_; rintro e w1 ⟨b, g, A1, d1, A2, d2, hs, rfl, l1, l2, k1⟩
  obtain ⟨p, hp⟩ : ∃ p, p = b.length := ⟨_, rfl⟩
  rw [← hp]
  have HP := Lib.hid hp
  have ST := Lib.hid hs
  have L2 := Lib.hid l2
  have K1 := Lib.hid k1
  have hpr : p ≤ r := by rw [hp]; exact hs.le
  obtain ⟨ad, A0, d0, rfl, _, x1, _, _⟩ := (HA.out.keep k1).row hr0
  rw [add_zero'] at x1
  clear hs l1 l2 k1 hp
  go_wp2_with fail
  refine (CS.out _ K1.out).mono ?_; rintro e w' ⟨rfl, rfl⟩
  go_wp2_with (at_make; refine wpList_make_full _ rfl _ _ 22 rfl w1.heap.size 3 i0 (.int .i64 0) 1 Try.underlying22 hi hz0 hz1 _ _ _ _ c rfl rfl rfl rfl (by rw [hz2]; omega) (by unfold maxLen; omega) (Nat.le_refl _) ?_; intro w2 hown hgrow)
  have hkp2 : Kp w1 w2 := (Kp.rfl' w1).grown hgrow (by simp) (fun k hk => by cases hk)
  have hrow := row_made hown
  obtain ⟨gx, hgx⟩ : ∃ gx, gx = w1.heap.size := ⟨_, rfl⟩
  rw [← hgx] at hrow ⊢
  have hx0 : Own w2 w.heap.size (.slice (some ⟨gx, 0, none⟩) c c) (rowF c fun _ => 0) := by
    rw [Mx.row_rep] at hrow
    exact hrow.own (by rw [hgx]; exact K1.out.size) (Mx.len_row _ _) (by omega)
  have GX := Lib.hid (show gx < w2.heap.size ∧ w.heap.size ≤ w2.heap.size from ⟨hrow.lt, Nat.le_trans K1.out.size hkp2.size⟩)
  have HX0 := Lib.hid hx0
  have K2 := Lib.hid (K1.out.trans hkp2)
  have K12 := Lib.hid hkp2
  clear hown hgrow hkp2 hrow hgx hx0 x1
  go_loopw [11, 39] (fun v j wr => ∃ (k : Nat) (G C : Nat → Nat), k ≤ p ∧ j = .int .i64 (k : Int) ∧ OwnM wr w2.heap.size v G C (Mx.matl k c fun s q => if q = Mx.pv b s then 1 else 0) ∧ Kp w2 wr) (fun _ j _ => p - (intOf j).toNat)
  case atStart => exact ⟨0, fun _ => 0, fun _ => 0, Nat.zero_le _, rfl, ownM_none _ _ _ _, Kp.rfl' _⟩
  case round =>
    obtain ⟨k, G, C, hk, rfl, ho, hkp⟩ := hrel
    have HO := Lib.hid ho
    have HK := Lib.hid hkp
    clear ho hkp
    by_cases hlt : k < p
    · obtain ⟨ad2, rfl, _, x2⟩ := ((L2.out.keep K12.out).keep HK.out) k (by rw [len_cols, ← HP.out]; exact hlt)
      rw [cols_at b (by rw [← HP.out]; exact hlt)] at x2
      have UN := Lib.hid (unit_any c (Mx.pv b k) wr (by omega) (ST.out.steps.lt k (by rw [← HP.out]; exact hlt)))
      generalize hj : Mx.pv b k = j at *
      have HJ := Lib.hid hj
      clear hj
      go_wp2_with fail
      refine (UN.out).mono ?_; rintro e w3 ⟨gu, rfl, hgu, hru, k3⟩
      have OM := Lib.hid (HO.out.kp k3)
      have HU := Lib.hid (hru.own (B := w2.heap.size) (Nat.le_trans HK.out.size hgu) (Mx.len_row _ _) (by omega))
      have HAP := Lib.hid (show ∀ i, i < (Mx.matl k c fun s q => if q = Mx.pv b s then 1 else 0).length → G i ≠ gu from fun i hi => by
        have := (HO.out.lt hi).2
        omega)
      have HK3 := Lib.hid (HK.out.trans k3)
      have HNX := Lib.hid (show (Mx.matl k c fun s q => if q = Mx.pv b s then 1 else 0) ++ [rowF c fun q => if q = j then 1 else 0] = Mx.matl (k + 1) c fun s q => if q = Mx.pv b s then 1 else 0 by
        rw [← HJ.out]; exact (Mx.tab_snoc _ _ _).symm)
      clear hgu hru k3 x2
      go_wp2_with (at_builtin; refine wpList_pushM rfl _ _ rfl w2.heap.size _ G C (Mx.matl k c fun s q => if q = Mx.pv b s then 1 else 0) _ gu c c _ 1 (Mx.len_row _ _) rfl rfl (OM.out.new _) (cell_made _ _ _ _ 0 rfl) (HU.out.new _) HAP.out (by rw [Mx.len_matl]; omega) (Nat.le_trans HK3.out.size ((Kp.rfl' _).new _).size) ?_; intro v' w4 G' C' ho4 hk4)
      rw [HNX.out] at ho4
      have HO4 := Lib.hid ho4
      have HK4 := Lib.hid (hk4 w2 (Nat.le_refl _) (HK3.out.new _))
      clear ho4 hk4
      go_wp2_with fail
      go_roundw
      case rel => exact ⟨k + 1, G', C', by omega, by go_num, HO4.out, HK4.out⟩
      case measure => simp [intOf]; omega
    · obtain rfl : k = p := by omega
      have SR0 := Lib.hid (show Mx.Srch c f t b 0 (fun _ => 0) (Mx.wl k fun s q => if q = Mx.pv b s then 1 else 0) from by
        have h := Mx.Srch.start c f t b
        rw [Mx.wl_units, ← HP.out] at h
        exact h)
      have HX1 := Lib.hid (HX0.out.kp HK.out)
      have K4 := Lib.hid (K2.out.trans HK.out)
      have hk1000 : k ≤ 1000 := by omega
      obtain ⟨w0', hw0'⟩ : ∃ x, x = wr := ⟨_, rfl⟩
      subst hw0'
      go_wp2_with fail
      go_loopw [11, 53] (fun v j wr => ∃ (i n : Nat) (G C : Nat → Nat) (x : Nat → Fp.F) (W : Nat → Nat → Fp.F), i ≤ r ∧ j = .int .i64 (i : Int) ∧ n ≤ 1000 ∧ OwnM wr w2.heap.size v G C (Mx.matl n c W) ∧ Own wr w.heap.size (.slice (some ⟨gx, 0, none⟩) c c) (rowF c x) ∧ Mx.Srch c f t b i x (Mx.wl n W) ∧ Kp w wr) (fun _ j _ => r - (intOf j).toNat)
      case atStart => exact ⟨0, k, G, C, _, _, Nat.zero_le _, rfl, hk1000, HO.out, HX1.out, SR0.out, K4.out⟩
      case round =>
        obtain ⟨i, n, G, C, x, W, hir, rfl, hn, ho, hx, hsr, hkp⟩ := hrel
        by_cases hlt : i < r
        · obtain ⟨_, A3, d3, e3, _, x3, _, l3⟩ := (HA.out.keep hkp).row hlt
          obtain rfl := Option.some.inj e3
          obtain ⟨ad4, rfl, _, x4⟩ := (HT.out.keep hkp).el hlt
          have ROW := Lib.hid (show LiesIn w w.heap.size A3 (rowF c (f i)) from by
            obtain ⟨_, A0', d0', e0, _, x0, _, l0⟩ := HA.out.row hlt
            obtain rfl := Option.some.inj e0
            have := (hkp.cell (p := ad.add i) (by rw [block_add]; assumption)).symm.trans x3
            rw [x0] at this
            cases this
            exact l0)
          have VO := Lib.hid ((valueOf_any A3 c d3 wr.drew).mono fun e w' h => (⟨wr.drew.heap.size, h.1, h.2.1, h.2.2, Nat.le_refl _⟩ :
            ∃ gp, e = .returned (.func (.func 54) #[] #[.pointer (some ⟨gp, 0, none⟩)]) ∧ w'.cell? ⟨gp, 0, none⟩ = some (.slice A3 c d3) ∧ Kp wr.drew w' ∧ wr.drew.heap.size ≤ gp))
          have KD := Lib.hid (show Kp w wr.drew from hkp.drewN 1)
          have SAT := Lib.hid (fun (w5 : World) (gp : Nat) (hb : w5.cell? ⟨gp, 0, none⟩ = some (.slice A3 c d3)) (k5 : Kp wr.drew w5) (hgp : wr.drew.heap.size ≤ gp) =>
            (satisfy_any (B0 := w.heap.size) (B := w2.heap.size) (gx := gx) (cx := c) (gp := gp) (r := r) (v := u11) w5 (by omega) hn hlt ST.out.steps ST.out.req hsr ⟨⟨A3, d3, hb, ROW.out.below (KD.out.trans k5)⟩⟩
              (hx.kp (((Kp.rfl' wr).drewN 1).trans k5)) (ho.kp (((Kp.rfl' wr).drewN 1).trans k5)) GX.out.1 GX.out.2 (fun e => by have h1 : wr.heap.size ≤ gp := hgp; have := (World.ownsRow.lt hx gx rfl).2; omega)
              (fun e => by have h1 : wr.heap.size ≤ gp := hgp; have := (World.ownsRow.lt ho.top gp e).2; omega) (fun s hs e => by have h1 : wr.heap.size ≤ gp := hgp; have := (ho.lt (by rw [Mx.len_matl]; exact hs)).2; omega)).mono
              fun e w' h => (show ∃ q p, e = .returned (.tuple #[q, p]) ∧ SRel w.heap.size w2.heap.size gx c r c i f t b q p w w' from by
                obtain ⟨q, p, he, hr⟩ := stepped_rel h
                exact ⟨q, p, he, hr.from (KD.out.trans k5)⟩))
          have XK := Lib.hid (fun (w5 : World) (k5 : Kp wr.drew w5) => (show w5.cell? (ad4.add i) = some (.int .i64 ((t i).val : Int)) from by
            have h4 := x4
            rw [← x4]
            exact ((((Kp.rfl' wr).drewN 1).trans k5).cell (p := ad4.add i) (cell_lt h4))))
          generalize ((t i).val : Int) = ti at *
          clear ho hx hsr hkp l3
          go_upto_region 17 with (fail)
          go_cut [8, 11, 53] from 53 to 73 (fun p q j wc => j = .int .i64 (i : Int) ∧ SRel w.heap.size w2.heap.size gx c r c i f t b q p w wc)
          case first =>
            go_region_law (first
              | (go_simp; go_at_call 37; (with_reducible refine (VO.out).mono ?_); rintro e w5 ⟨gp, rfl, hb5, hk5, hgp⟩
                 have c5 := XK.out w5 hk5)
              | (go_simp; go_at_call 36; (with_reducible refine (SAT.out w5 gp hb5 hk5 hgp).mono ?_); rintro e w6 ⟨q6, p6, rfl, hrel6⟩))
            all_goals
              go_wp2_with fail
              go_meet
              case rel => exact ⟨rfl, hrel6⟩
          case rest =>
            obtain ⟨rfl, hrel⟩ := hcut
            rcases hrel with ⟨n2, G2, C2, x2, W2, rfl, ho2, hx2, hsr2, hn2, hk2⟩ | ⟨rfl, hno, hk2⟩
            · have HO2 := Lib.hid ho2
              have HX2 := Lib.hid hx2
              have HSR2 := Lib.hid hsr2
              have HK2 := Lib.hid hk2
              clear ho2 hx2 hsr2 hk2
              go_wp2_with fail
              go_roundw
              case rel => exact ⟨i + 1, n2, G2, C2, x2, W2, by omega, by go_num, hn2, HO2.out, HX2.out, HSR2.out, HK2.out⟩
              case measure => simp [intOf]; omega
            · have HNO := Lib.hid hno
              have HK2 := Lib.hid hk2
              clear hno hk2
              go_wp2_with fail
              go_ret2
              exact ⟨b, g, ST.out, .inr ⟨HNO.out, rfl, HK2.out⟩⟩
        · obtain rfl : i = r := by omega
          have HX := Lib.hid (own_at hx)
          have HSR := Lib.hid hsr
          have HKP := Lib.hid hkp
          clear ho hx hsr hkp
          go_wp2_with fail
          go_ret2
          exact ⟨b, g, ST.out, .inl ⟨x, some ⟨gx, 0, none⟩, c, HSR.out.done, rfl, Nat.le_refl _, HX.out, HKP.out⟩⟩
theorem SOne_ok (A : Option Addr) (f : Nat → Nat → Fp.F) (r c d : Nat) (T : Option Addr) (t : Nat → Fp.F) (e : Nat) (w : World) (ha : LiesM w A (Mx.matl r c f)) (ht : Lies w T (rowF r t)) (hr0 : 0 < r) (hr : r ≤ 5) (hc0 : 0 < c) (hc : c ≤ 5) :
    Calls Try.prog 16 #[.slice A r d, .slice T r e] w fun e w' => GotOne r c f t w e w' :=
  (SOne_cap A f r c d T t e w ha ht hr0 hr hc0 hc).mono fun e w' ⟨b, g, hs, h⟩ => ⟨b, g, hs, h.imp_left fun ⟨x, A', d', h1, h2, _, h3, h4⟩ => ⟨x, A', d', h1, h2, h3, h4⟩⟩
end Go.Proofs.Ytldkamhknaflbaa

/- The laws' small function 'in'. -/
namespace Go.Proofs.Ytldkamhknaflbaa
open Go.ChangeShapes Go.WideShapes Go.ChangeAt Go.RowKit
set_option linter.unusedVariables false




end Go.Proofs.Ytldkamhknaflbaa

/- The law TopThrough. -/
namespace Go.Proofs.Ytldkamhknaflbaa
open Go.ChangeShapes Go.WideShapes Go.ChangeAt Go.RowKit
set_option linter.unusedVariables false

theorem vals_rowF (p : List Fp.F) : Pol.vals p = rowF p.length (Pol.co p) := by
  rw [rowF_vals, show (List.range p.length).map (Pol.co p) = p from Pol.row_self p]
theorem co_range (n : Nat) (p : List Fp.F) (h : p.length ≤ n) (k : Nat) : Pol.co ((List.range n).map (Pol.co p)) k = Pol.co p k := by
  by_cases hk : k < n
  · exact Pol.co_row n (Pol.co p) k hk
  · rw [Pol.co_out p k (by omega), Pol.co_out _ k (by simp; omega)]
/-- What goes through solves the powers, and nothing else does. -/
theorem thr_ans {n : Nat} {X Y : Nat → Fp.F} {b : List Nat} {x : Nat → Fp.F} (hn : n ≤ 100) (h0 : 0 < n) (hX : Pol.Apart X n) (h : Mx.Ans n n (Mx.vm X) Y b x) : Pol.trim ((List.range n).map x) = Pol.thr X Y n := by
  refine Pol.thr_of hn hX (Pol.Th.trim ⟨by simp, fun i hi => ?_⟩) (Pol.tr_trim _)
  rw [vm_ev X x h0]
  exact h.sol i hi
theorem thr_some {n : Nat} {X Y : Nat → Fp.F} (hn : n ≤ 100) (h0 : 0 < n) (hX : Pol.Apart X n) (h : Mx.NoAns n n (Mx.vm X) Y) : False := by
  obtain ⟨h1, h2⟩ := Pol.th_thr X Y n hn hX
  refine h ⟨Pol.co (Pol.thr X Y n), fun i hi => ?_⟩
  rw [← vm_ev X _ h0, ← h2 i hi]
  exact Pol.ev_of_co (co_range n _ h1) _

theorem fx1_apart : Pol.Apart (Pol.co [3]) 1 := fun i j h1 h2 => by omega
theorem fx1_thr : Pol.thr (Pol.co [3]) (Pol.co [5]) 1 = [5] := (Pol.thr_of (by decide) fx1_apart (show Pol.Th (Pol.co [3]) (Pol.co [5]) 1 [5] from ⟨by decide, by decide +kernel⟩) (by unfold Pol.Tr; decide)).symm

theorem one35 (w : World) : Calls Try.prog 14 #[.slice (some ⟨w.heap.size, 0, none⟩) 1 1, .slice (some ⟨w.heap.size + 1, 0, none⟩) 1 1] ((w.alloc (.cells #[.int .i64 3] 3)).alloc (.cells #[.int .i64 5] 3)) fun e w' => ∃ C d, e = .returned (.tuple #[.slice C 1 d, .nilIface]) ∧ Lies w' C [5] ∧ Kp w w' := by
  have h := through_ok _ _ [3] [5] 1 1 1 _ ((lies_new w 3 [3]).keep ((Kp.rfl' _).new (.cells #[.int .i64 5] 3))) (lies_new' (w.alloc (.cells #[.int .i64 3] 3)) 3 [5] (w.heap.size + 1) (by simp)) rfl rfl (by decide) (by decide) fx1_apart
  rw [fx1_thr] at h
  exact h.mono fun e w' ⟨C, d, he, hl, _, hk⟩ => ⟨C, d, he, hl, (((Kp.rfl' w).new _).new _).trans hk⟩
theorem same5 (w : World) (A : Option Addr) (d : Nat) (h1 : Lies w A [5]) : Calls Try.prog 15 #[.slice A 1 d, .slice (some ⟨w.heap.size, 0, none⟩) 1 1] (w.alloc (.cells #[.int .i64 5] 3)) fun e w' => e = .returned (.bool true) ∧ Kp w w' :=
  (same_eq A _ [5] [5] 1 1 d 1 _ (h1.keep ((Kp.rfl' w).new _)) (lies_new w 3 [5]) rfl rfl (by decide) rfl).mono fun e w' h => ⟨h.1, ((Kp.rfl' w).new _).trans h.2⟩

set_option maxRecDepth 100000 in
set_option maxHeartbeats 6400000 in
theorem tthr_bad (A B : Option Addr) (L M : List Int) (c d : Nat) (w : World) (ha : Lies w A L) (hb : Lies w B M) (lc : L.length ≤ c) (h : dcode L M ≠ 0) :
    Calls Try.prog 5 #[.slice A L.length c, .slice B M.length d] w fun e w' => e = .returned (.bool true) ∧ Kp w w' := by
  have TH := Lib.hid (through_bad A B L M c d w ha hb lc h)
  unfold Fails at TH
  rw [errOf_ne _ h] at TH
  have FU := Lib.hid (fun w' (k : Kp w w') => show Calls Try.prog 7 #[.slice A L.length c] w' fun e w'' => ∃ u q, e = .returned (.tuple #[u, q]) ∧ Kp w' w'' by
    rcases vd_or L with ⟨n, X, s⟩ | h2
    · rw [s.len]
      exact (VFull_ok A L n c X w' (ha.keep k) s).mono fun e w'' ⟨C, dc, he, _, _, hk⟩ => ⟨_, _, he, hk⟩
    · exact (VFull_no h2 A c w' (ha.keep k)).mono fun e w'' ⟨z, he, hk⟩ => ⟨_, _, he, hk⟩)
  generalize dcode L M = z at *
  generalize L.length = n at *
  generalize M.length = m at *
  clear ha hb lc h
  go_enter Try.func5, Try.ntmps5
  go_wp2_with fail
  refine (TH.out).mono ?_; rintro e w1 ⟨rfl, k1⟩
  have K := Lib.hid k1
  clear k1
  go_wp2_with fail
  refine (FU.out _ K.out).mono ?_; rintro e w2 ⟨u, q, rfl, k2⟩
  replace K := Lib.hid (K.out.trans k2)
  clear k2
  go_wp2_with fail
  refine (one35 _).mono ?_; rintro e w3 ⟨C, d3, rfl, l3, k3⟩
  replace K := Lib.hid (K.out.trans k3)
  have L3 := Lib.hid l3
  clear k3 l3
  go_wp2_with fail
  refine (same5 _ C d3 L3.out).mono ?_; rintro e w4 ⟨rfl, k4⟩
  replace K := Lib.hid (K.out.trans k4)
  clear k4
  go_wp2_with fail
  go_ret
  exact ⟨rfl, K.out⟩

set_option maxRecDepth 100000 in
set_option maxHeartbeats 6400000 in
/-- Numbers that go through something, and no matrix. -/
theorem tthr_none (A B : Option Addr) (L M : List Int) (c d : Nat) (w : World) (ha : Lies w A L) (hb : Lies w B M) (lc : L.length ≤ c) (h0 : dcode L M = 0) (h : vcd L ≠ 0) :
    Calls Try.prog 5 #[.slice A L.length c, .slice B M.length d] w fun e w' => e = .returned (.bool true) ∧ Kp w w' := by
  have TH := Lib.hid (show Calls Try.prog 14 #[.slice A L.length c, .slice B M.length d] w fun e w' => ∃ C q dc, e = .returned (.tuple #[.slice C q dc, .nilIface]) ∧ Kp w w' by
    obtain ⟨p, q, rfl, rfl, h1, h2, h3⟩ := dcode_zero h0
    rw [Pol.len_vals, Pol.len_vals, h2]
    rw [Pol.len_vals] at lc
    exact (through_ok A B p q p.length c d w ha hb rfl h2.symm h1 lc h3).mono fun e w' ⟨C, dc, he, _, _, hk⟩ => ⟨_, _, _, he, hk⟩)
  have FU := Lib.hid (fun w' (k : Kp w w') => VFull_no h A c w' (ha.keep k))
  unfold NoMx at FU
  generalize L.length = n at *
  generalize M.length = m at *
  clear ha hb lc h h0
  go_enter Try.func5, Try.ntmps5
  go_wp2_with fail
  refine (TH.out).mono ?_; rintro e w1 ⟨F, q, df, rfl, k1⟩
  have K := Lib.hid k1
  clear k1
  go_wp2_with fail
  refine (FU.out _ K.out).mono ?_; rintro e w2 ⟨z, rfl, k2⟩
  replace K := Lib.hid (K.out.trans k2)
  clear k2
  go_wp2_with fail
  refine (one35 _).mono ?_; rintro e w3 ⟨C, d3, rfl, l3, k3⟩
  replace K := Lib.hid (K.out.trans k3)
  have L3 := Lib.hid l3
  clear k3 l3
  go_wp2_with fail
  refine (same5 _ C d3 L3.out).mono ?_; rintro e w4 ⟨rfl, k4⟩
  replace K := Lib.hid (K.out.trans k4)
  clear k4
  go_wp2_with fail
  all_goals go_ret
  all_goals exact ⟨rfl, K.out⟩

set_option maxRecDepth 100000 in
set_option maxHeartbeats 6400000 in
theorem tthr_good (A B : Option Addr) (p q : List Fp.F) (n c d : Nat) (w : World) (ha : Lies w A (Pol.vals p)) (hb : Lies w B (Pol.vals q)) (hn : n = p.length) (hq : n = q.length) (h0 : 0 < n) (h5 : n ≤ 5) (lc : n ≤ c) (hX : Pol.Apart (Pol.co p) n) :
    Calls Try.prog 5 #[.slice A n c, .slice B n d] w fun e w' => e = .returned (.bool true) ∧ Kp w w' := by
  have TH := Lib.hid (through_ok A B p q n c d w ha hb hn hq (by omega) lc hX)
  unfold Gives at TH
  have sv : Vd n (Pol.co p) (Pol.vals p) := ⟨by rw [vals_rowF, ← hn], h0, h5⟩
  have FU := Lib.hid (fun w' (k : Kp w w') => VFull_ok A (Pol.vals p) n c (Pol.co p) w' (ha.keep k) sv)
  unfold MadeM at FU
  have HB := Lib.hid (show Lies w B (rowF n (Pol.co q)) by rw [hq, ← vals_rowF]; exact hb)
  have ON := Lib.hid (fun (M : Option Addr) (dm : Nat) (w' : World) (k : Kp w w') (hm : LiesM w' M (Mx.matl n n (Mx.vm (Pol.co p)))) => show Calls Try.prog 16 #[.slice M n dm, .slice B n d] w' fun e w'' => ∃ x X dx, Pol.trim ((List.range n).map x) = Pol.thr (Pol.co p) (Pol.co q) n ∧ e = .returned (.tuple #[.slice X n dx, .nilIface]) ∧ n ≤ dx ∧ Lies w'' X (rowF n x) ∧ Kp w' w'' by
    refine (SOne_cap M (Mx.vm (Pol.co p)) n n dm B (Pol.co q) d w' hm (HB.out.keep k) h0 h5 h0 h5).mono ?_
    rintro e w'' ⟨b, g, _, ⟨x, X, dx, h1, h2, h3, h4, h6⟩ | ⟨h1, _⟩⟩
    · exact ⟨x, X, dx, thr_ans (by omega) h0 hX h1, h2, h3, h4, h6⟩
    · exact (thr_some (by omega) h0 hX h1).elim)
  have TL := Pol.len_thr (Pol.co p) (Pol.co q) n (by omega)
  generalize Pol.thr (Pol.co p) (Pol.co q) n = t at *
  have TR := Lib.hid (fun (x : Nat → Fp.F) (X : Option Addr) (dx : Nat) (w' : World) (ht : Pol.trim ((List.range n).map x) = t) (h : Lies w' X (rowF n x)) (hd : n ≤ dx) => show Calls Try.prog 17 #[.slice X n dx] w' fun e w'' => e = .returned (.slice X t.length dx) ∧ w' = w'' by
    rw [← ht]
    exact trim_ok' X _ n dx w' (by rw [← rowF_vals]; exact h) (by simp) hd (by omega))
  have SM := Lib.hid (fun (x : Nat → Fp.F) (X F : Option Addr) (dx df : Nat) (w' : World) (ht : Pol.trim ((List.range n).map x) = t) (h : Lies w' X (rowF n x)) (hf : Lies w' F (Pol.vals t)) => show Calls Try.prog 15 #[.slice X t.length dx, .slice F t.length df] w' fun e w'' => e = .returned (.bool true) ∧ Kp w' w'' from
    same_eq X F (Pol.vals t) (Pol.vals t) t.length t.length dx df w' (by
      rw [rowF_vals] at h
      rw [← ht, Pol.trim_take, Pol.vals_take]; exact h.take _) hf (Pol.len_vals _).symm (Pol.len_vals _).symm (by omega) rfl)
  have e1 : ((n : Int) != (n : Int)) = false := by simp
  have e2 : ¬ (n : Int) < (t.length : Int) := by omega
  generalize hlt : t.length = tl at *
  have HT := Lib.hid hlt
  clear ha hb hn hq h0 lc hX sv hlt TL
  go_enter Try.func5, Try.ntmps5
  go_wp2_with fail
  refine (TH.out).mono ?_; rintro e w1 ⟨F, df, rfl, lf, _, k1⟩
  have K := Lib.hid k1
  have LF := Lib.hid lf
  clear k1 lf
  go_wp2_with fail
  refine (FU.out _ K.out).mono ?_; rintro e w2 ⟨M, dm, rfl, _, lm, k2⟩
  replace K := Lib.hid (K.out.trans k2)
  replace LF := Lib.hid (LF.out.keep k2)
  have LM := Lib.hid lm
  clear k2 lm
  go_wp2_with fail
  refine (one35 _).mono ?_; rintro e w3 ⟨C, d3, rfl, l3, k3⟩
  replace K := Lib.hid (K.out.trans k3)
  have L3 := Lib.hid l3
  replace LF := Lib.hid (LF.out.keep k3)
  replace LM := Lib.hid (LM.out.keep k3)
  clear k3 l3
  go_wp2_with fail
  refine (same5 _ C d3 L3.out).mono ?_; rintro e w4 ⟨rfl, k4⟩
  replace K := Lib.hid (K.out.trans k4)
  replace LF := Lib.hid (LF.out.keep k4)
  replace LM := Lib.hid (LM.out.keep k4)
  clear k4
  go_wp2_with fail
  refine (ON.out M dm _ K.out LM.out).mono ?_; rintro e w5 ⟨x, X, dx, ht, rfl, hdx, lx, k5⟩
  replace K := Lib.hid (K.out.trans k5)
  replace LF := Lib.hid (LF.out.keep k5)
  have LX := Lib.hid lx
  have HX := Lib.hid ht
  have HD := Lib.hid hdx
  clear k5 lx ht hdx
  go_wp2_with fail
  refine (TR.out x X dx _ HX.out LX.out HD.out).mono ?_; rintro e w6 ⟨rfl, rfl⟩
  go_wp2_with fail
  refine (SM.out x X F dx df _ HX.out LX.out LF.out).mono ?_; rintro e w7 ⟨rfl, k7⟩
  replace K := Lib.hid (K.out.trans k7)
  clear k7
  go_wp2_with fail
  go_ret
  exact ⟨rfl, K.out⟩

theorem walk_TopThrough (A : Option Addr) (L : List Int) (c : Nat) (B : Option Addr) (M : List Int) (d : Nat) (w : World) (ha : Lies w A L) (lc : L.length ≤ c) (hb : Lies w B M) :
    Calls Try.prog 5 #[.slice A L.length c, .slice B M.length d] w fun e w' => e = .returned (.bool true) ∧ Kp w w' := by
  by_cases h : dcode L M = 0
  · by_cases h2 : vcd L = 0
    · obtain ⟨p, q, rfl, rfl, h3, h4, h5⟩ := dcode_zero h
      obtain ⟨v0, v1, _⟩ := vcd_zero h2
      rw [Pol.len_vals] at v0 v1 lc
      rw [Pol.len_vals, Pol.len_vals, h4]
      exact tthr_good A B p q p.length c d w ha hb rfl h4.symm (by omega) v1 lc h5
    · exact tthr_none A B L M c d w ha hb lc h h2
  · exact tthr_bad A B L M c d w ha hb lc h

end Go.Proofs.Ytldkamhknaflbaa
