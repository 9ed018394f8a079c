/- Several texts, one behind the other: VdC2, VdC3, RowsG, ShM, VdFact, MxRef, SoR1, PolN, PolC1, PolC2, PolC3, PolC4, FldRef, PolLaw, VdPow. -/
import Derived.Test.YtldkamhknaflbaaVanderPowersProofG2
import Derived.RangeFuncNested
import Derived.Test.YtldkamhknaflbaaVanderPowersProofG1
import Derived.StillTailTactics
import Derived.BigQuiet
import Derived.Laws.CopyOwn

/- Contract of package vander's Full. -/
namespace Go.Proofs.Ytldkamhknaflbaa
open Go.ChangeShapes Go.WideShapes Go.ChangeAt Go.RowKit
set_option linter.unusedVariables false

theorem VFull_bad (A : Option Addr) (L : List Int) (c : Nat) (w : World) (ha : Lies w A L) (h : vcd L ≠ 0) :
    Calls Try.prog 7 #[.slice A L.length c] w fun e w' => e = .returned (.tuple #[.slice none 0 0, errOf (vcd L)]) ∧ w = w' := by
  have CK := Lib.hid (vChk_any A L c w ha)
  rw [errOf_ne _ h] at CK ⊢
  generalize vcd L = z at *
  generalize L.length = n at *
  clear ha h
  go_enter Try.func7, Try.ntmps7
  go_wp2_with fail
  refine (CK.out).mono ?_; rintro e w' ⟨rfl, rfl⟩
  go_wp2_with fail
  go_ret2
  exact ⟨rfl, rfl⟩

set_option maxRecDepth 100000 in
set_option maxHeartbeats 6400000 in
theorem VFull_ok (A : Option Addr) (L : List Int) (n c : Nat) (X : Nat → Fp.F) (w : World) (ha : Lies w A L) (s : Vd n X L) :
    Calls Try.prog 7 #[.slice A n c] w fun e w' => MadeM n (Mx.vm X) w e w' := by
  have CK := Lib.hid (vChk_good s A c w ha)
  have HA := Lib.hid (show Lies w A (Mx.row n fun j => ((X j).val : Int)) from by have h := ha; rw [s.row] at h; exact h)
  have hn0 := s.n0
  have hn5 := s.n5
  obtain ⟨j0, hj, hz0, hz1, hz2⟩ := info_parts ints_info
  clear ha s
  go_enter Try.func7, Try.ntmps7
  go_wp2_with fail
  refine (CK.out).mono ?_; rintro e w' ⟨rfl, rfl⟩
  go_wp2_with (first
    | (at_make; refine wpList_make_full _ rfl _ _ 24 rfl _ 22 j0 (.slice none 0 0) 1 Try.underlying24 hj hz0 hz1 _ _ _ _ n rfl rfl rfl rfl (by rw [hz2]; omega) (by unfold maxLen; omega) (Nat.le_refl _) ?_; intro w3 hown hgrow))
  have K3 : Kp w w3 := (Kp.rfl' w).grown hgrow (by simp) (fun k hk => by cases hk)
  have G2 : HdP w3 w.heap.size (fun _ => 0) (fun _ => 0) n 0 (fun i j => ((Mx.vm X i j).val : Int)) := HdP.start _ hown
  clear hown hgrow hj hz0 hz1 hz2
  obtain ⟨g2, hg2⟩ : ∃ x, x = w.heap.size := ⟨_, rfl⟩
  rw [← hg2] at G2 ⊢
  have HG := Lib.hid hg2
  have H2 := Lib.hid G2
  have H3 := Lib.hid K3
  clear G2 K3 hg2
  go_loopw [18] (fun i wr => ∃ (k : Nat) (G C : Nat → Nat), k ≤ n ∧ i = .int .i64 (k : Int) ∧ HdP wr g2 G C n k (fun i j => ((Mx.vm X i j).val : Int)) ∧ Kp w wr) (fun i _ => n - (intOf i).toNat)
  case atStart => exact ⟨0, _, _, Nat.zero_le _, rfl, H2.out, H3.out⟩
  case round =>
    obtain ⟨k, G, C, hk, rfl, h2, h3⟩ := hrel
    clear H2 H3
    by_cases hlt : k < n
    · obtain ⟨w6, hw6⟩ : ∃ x, x = wr := ⟨_, rfl⟩
      subst hw6
      obtain ⟨ad, rfl, _, hx⟩ := (HA.out.keep h3).el hlt
      have H2 := Lib.hid h2
      have H3 := Lib.hid h3
      clear h2 h3
      go_wp2_with fail
      refine (powers_any _ n w6).mono ?_; rintro e w7 ⟨rfl, hw7⟩
      have k7 : Kp w6 w7 := by rw [hw7]; exact ((Kp.rfl' w6).new _).new _
      have c0 : w7.cell? ⟨w6.heap.size, 0, none⟩ = some (.int .i64 ((X k).val : Int)) := by
        rw [hw7]; exact ((Boxed.new w6 3 (.int .i64 ((X k).val : Int))).alloc _).cell
      have c1 : w7.cell? ⟨w6.heap.size + 1, 0, none⟩ = some (.int .i64 (n : Int)) := by
        rw [hw7]
        have := (Boxed.new (w6.alloc (.cells #[.int .i64 ((X k).val : Int)] 3)) 3 (.int .i64 (n : Int))).cell
        rwa [World.size_alloc] at this
      have s7 := k7.size
      have CL := Lib.hid (show Calls Try.prog 19 #[.func (.func 39) #[] #[.pointer (some ⟨w6.heap.size + 1, 0, none⟩), .pointer (some ⟨w6.heap.size, 0, none⟩)]] w7 fun e w' => ∃ z cz, e = .returned (.slice (some ⟨z, 0, none⟩) n cz) ∧ w6.heap.size ≤ z ∧ n ≤ cz ∧ Lies w' (some ⟨z, 0, none⟩) (Mx.row n fun j => ((Mx.vm X k j).val : Int)) ∧ Kp w6 w' by
        refine (collectPow_any w6.heap.size (w6.heap.size + 1) n (X k) (by omega) w7 c0 c1).mono ?_
        rintro e w'' ⟨v, rfl, hv, hk2⟩
        obtain ⟨z, cz, rfl, hz, hcz⟩ := own_some hv (by rw [Mx.len_row]; exact hn0)
        obtain ⟨A', c', e', hl'⟩ := hv.lies
        cases e'
        rw [Mx.len_row] at hcz ⊢
        exact ⟨z, cz, rfl, by omega, hcz, hl', k7.trans hk2⟩)
      clear hw7 k7 c0 c1
      go_wp2_with fail
      refine (CL.out).mono ?_; rintro e w9 ⟨z, cz, rfl, hz, hcz, hlz, hk9⟩
      have hsz := H2.out.lt
      have M2 := H2.out.keep hk9
      have x1 := M2.cell (Nat.le_refl k) hlt
      have x2 := M2.free k
      have M2' := Lib.hid (M2.step hlt hlz hcz (by omega))
      have M3 := Lib.hid ((H3.out.trans hk9).put (p := ⟨g2, k, none⟩) (by show w.heap.size ≤ g2; exact Nat.le_of_eq HG.out.symm) (.slice (some ⟨z, 0, none⟩) n cz))
      clear M2 hlz hk9 hz CL
      go_wp2_with fail
      go_roundw
      case rel => exact ⟨k + 1, _, _, by omega, by go_num, M2'.out, M3.out⟩
      case measure => simp [intOf]; omega
    · obtain rfl : k = n := by omega
      have H2 := Lib.hid h2
      have H3 := Lib.hid h3
      clear h2 h3
      go_wp2_with fail
      go_ret2
      exact ⟨_, k, rfl, Nat.le_refl _, H2.out.lies, H3.out⟩

end Go.Proofs.Ytldkamhknaflbaa

/- Contract of package vander's Det. -/
namespace Go.Proofs.Ytldkamhknaflbaa
open Go.ChangeShapes Go.WideShapes Go.ChangeAt Go.RowKit Go.Shelf
set_option linter.unusedVariables false
attribute [local go_sem] Oper.semAt_some

theorem VDet_bad (A : Option Addr) (L : List Int) (c : Nat) (w : World) (ha : Lies w A L) (h : vcd L ≠ 0) :
    Calls Try.prog 9 #[.slice A L.length c] w fun e w' => e = .returned (.tuple #[.int .i64 0, errOf (vcd L)]) ∧ Kp w w' := by
  have CK := Lib.hid (vChk_any A L c w ha)
  rw [errOf_ne _ h] at CK ⊢
  generalize vcd L = z at *
  generalize L.length = n at *
  clear ha h
  go_enter Try.func9, Try.ntmps9
  go_wp2_with fail
  refine (CK.out).mono ?_; rintro e w' ⟨rfl, rfl⟩
  go_wp2_with fail
  go_ret2
  exact ⟨rfl, Kp.rfl' w⟩

set_option maxHeartbeats 800000 in
theorem pairs_any (A : Option Addr) (n d : Nat) (w : World) :
    Calls Try.prog 26 #[.slice A n d] w fun e w' => e = .returned (.func (.func 42) #[] #[.pointer (some ⟨w.heap.size, 0, none⟩)]) ∧ w' = w.alloc (.cells #[.slice A n d] 22) := by
  go_enter Try.func26, Try.ntmps26
  go_wp2
  go_ret
  exact ⟨rfl, rfl⟩

/-- The two numbers of a pair of places. -/
def twoOf (n : Nat) (X : Nat → Fp.F) (y : Nat) : Array Value := #[.int .i64 ((X (rowOf n n y)).val : Int), .int .i64 ((X (colOf n y)).val : Int)]
theorem vplace_row {n i j : Nat} (hi : i < n) (hj : j < n) : rowOf n n (i * n + j) = i ∧ colOf n (i * n + j) = j := by
  have hc : 0 < n := by omega
  constructor
  · unfold rowOf; rw [Nat.mul_comm, Nat.mul_add_div hc, Nat.div_eq_of_lt hj, Nat.add_zero, Nat.mod_eq_of_lt hi]
  · unfold colOf; rw [Nat.mul_comm, Nat.mul_add_mod, Nat.mod_eq_of_lt hj]
theorem twoOf_at {n i j : Nat} (X : Nat → Fp.F) (hi : i < n) (hj : j < n) : twoOf n X (i * n + j) = #[.int .i64 ((X i).val : Int), .int .i64 ((X j).val : Int)] := by
  obtain ⟨e1, e2⟩ := vplace_row hi hj
  unfold twoOf; rw [e1, e2]
/-- What a round keeps: what lay before, and the variable with the row. -/
def KeepXs (n₀ Bs : Nat) (v : Value) (W W' : World) : Prop := Below n₀ W W' ∧ (W.cell? ⟨Bs, 0, none⟩ = some v → W'.cell? ⟨Bs, 0, none⟩ = some v)
theorem keepXs_t {n₀ Bs : Nat} {v : Value} {a b c : World} (h : KeepXs n₀ Bs v a b) (h' : KeepXs n₀ Bs v b c) : KeepXs n₀ Bs v a c := ⟨h.1.trans h'.1, fun x => h'.2 (h.2 x)⟩
theorem keepXs_b {w : World} {n₀ Bs : Nat} {v : Value} (hn : n₀ ≤ w.heap.size) (W : World) (l : Nat) (o o' : Obj) (hl : w.heap.size ≤ l) (ho : W.heap[l]? = some o) (h1 : o.isCells = false) (h2 : o.isWalk = false) : KeepXs n₀ Bs v W (W.putObj l o') :=
  ⟨belowK_b hn W l o o' hl ho h1 h2, fun x => cell_kept x (grownBy_putObj' W l o') (fun r e => by cases e; exact ⟨_, ho, h1⟩)⟩

set_option maxRecDepth 100000 in
set_option maxHeartbeats 3200000 in
theorem pairs_in (n : Nat) (hn : 1 ≤ n) (l Bs n₀ c d : Nat) (A : Option Addr) (X : Nat → Fp.F) (hc : c ≤ 1000) (hd : c ≤ d) (J Jx : List Nat → World → Prop)
    (hY : ∀ pre y W, J pre W → pre.length < c * c → YieldAt Fence.wide (n - 1) Try.prog l (twoOf c X y) W fun e W' =>
      (e = .returned (.bool true) ∧ J (pre ++ [y]) W' ∧ KeepXs n₀ Bs (.slice A c d) W W') ∨ (e = .returned (.bool false) ∧ Jx (pre ++ [y]) W'))
    (W : World) (hBs : W.cell? ⟨Bs, 0, none⟩ = some (.slice A c d)) (hl : LiesIn W n₀ A (Mx.row c fun j => ((X j).val : Int))) (h0 : J [] W) :
    CallsIn Fence.wide n Try.prog 42 #[.func (.yield l) #[] #[], .pointer (some ⟨Bs, 0, none⟩)] W fun e W' => (∃ v, e = .returned v) ∧
      ((∃ ys, ys = Mx.ups c c ∧ J ys W') ∨ (∃ pre, True ∧ Jx pre W')) := by
  have HL := Lib.hid (fun (W' : World) (hx : Below n₀ W W') (k : Nat) (hk : k < c) => (show ∃ ad, A = some ad ∧ W'.cell? (ad.add k) = some (.int .i64 ((X k).val : Int)) by
    obtain ⟨ad, e, _, h⟩ := (hl.below hx) k (by rw [Mx.len_row]; exact hk)
    rw [Mx.row_at _ _ _ hk] at h
    exact ⟨ad, e, h⟩))
  clear hl
  refine callsIn_of_wp Try.func42 rfl trivial ?_ rfl
  simp only [Try.ntmps42, List.size_toArray, List.length_cons, List.length_nil, Nat.reduceAdd, Nat.reduceSub, Array.replicate_succ, Array.replicate_zero, List.push_toArray, List.append_toArray, List.nil_append, List.cons_append]
  gi_wp2
  gi_loopw [9] (fun i wr => ∃ k : Nat, k ≤ c ∧ i = .int .i64 (k : Int) ∧ J (Mx.ups c k) wr ∧ KeepXs n₀ Bs (.slice A c d) W wr) (fun i _ => c - (intOf i).toNat)
  case atStart => exact ⟨0, Nat.zero_le _, rfl, h0, Below.refl _ _, id⟩
  case round =>
    obtain ⟨k, hk, rfl, hJs, hnx⟩ := hrel
    by_cases hlt : k < c
    · have hcx : wr.cell? ⟨Bs, 0, none⟩ = some (.slice A c d) := hnx.2 hBs
      obtain ⟨ad, rfl, hx1⟩ := HL.out wr hnx.1 k hlt
      have JS := Lib.hid hJs
      have NX := Lib.hid hnx
      clear hJs hnx
      have hki : (k : Int) + 1 ≤ (c : Int) := by omega
      have hkd : (k : Int) + 1 ≤ (d : Int) := by omega
      by_cases hcap : k + 1 = d
      · have hcq : c = k + 1 := by omega
        have UP := Lib.hid (show Mx.ups c k = Mx.ups c (k + 1) by
          show _ = Mx.ups c k ++ Mx.urow c k (c - (k + 1))
          rw [show c - (k + 1) = 0 by omega, Mx.urow_zero, List.append_nil])
        have HC := Lib.hid hcq
        clear hki
        gi_wp2
        gi_loopw [19] (fun t wq => t = .int .i64 0 ∧ wq = wr) (fun _ _ => 0)
        case atStart => exact ⟨rfl, rfl⟩
        case round =>
          obtain ⟨rfl, rfl⟩ := hrel
          gi_wp2
          go_roundw
          case rel => exact ⟨k + 1, by have := HC.out; omega, by go_num, by rw [← UP.out]; exact JS.out, NX.out⟩
          case measure => have := HC.out; simp [intOf]; omega
      · gi_wp2
        gi_loopw [19] (fun t wq => ∃ m : Nat, m ≤ c - (k + 1) ∧ t = .int .i64 (m : Int) ∧ J (Mx.ups c k ++ Mx.urow c k m) wq ∧ KeepXs n₀ Bs (.slice (some ad) c d) W wq) (fun t _ => c - (k + 1) - (intOf t).toNat)
        case atStart => exact ⟨0, Nat.zero_le _, rfl, by rw [Mx.urow_zero, List.append_nil]; exact JS.out, NX.out⟩
        case round =>
          obtain ⟨m, hm, rfl, hJq, hnq⟩ := hrel
          by_cases hmt : m < c - (k + 1)
          · obtain ⟨ad', e, hx2⟩ := HL.out _ hnq.1 (k + 1 + m) (by omega)
            obtain rfl := Option.some.inj e
            rw [show ad.add (k + 1 + m) = ⟨ad.block, ad.off + (k + 1) + m, none⟩ by
              rw [show k + 1 + m = (k + m) + 1 by omega, Addr.add_succ', show ad.off + (k + 1) + m = ad.off + (k + m + 1) by omega]] at hx2
            obtain ⟨fn, tmps, assign, body, hy, hR⟩ := hY _ (k * c + (k + 1 + m)) _ hJq (by
              rw [List.length_append, Mx.len_urow]
              have h1 := Mx.len_ups c k
              have h2 := Mx.place_lt hlt (show k + 1 + m < c by omega)
              omega)
            rw [twoOf_at X hlt (show k + 1 + m < c by omega)] at hy
            have NQ := Lib.hid hnq
            have RR := Lib.hid hR
            have TS := Lib.hid (show Mx.ups c k ++ Mx.urow c k m ++ [k * c + (k + 1 + m)] = Mx.ups c k ++ Mx.urow c k (m + 1) by
              rw [Mx.urow_succ, List.append_assoc])
            generalize (X (k + 1 + m)).val = z at *
            clear hnq hJq hR
            gi_wp2
            refine (RR.out).mono ?_
            rintro e W3 (⟨rfl, hJ3, hk3⟩ | ⟨rfl, hJx3⟩)
            · gi_wp2
              go_roundw
              case rel => exact ⟨m + 1, by omega, by go_num, by rw [← TS.out]; exact hJ3, keepXs_t NQ.out hk3⟩
              case measure => simp [intOf]; omega
            · gi_wp2
              refine bodyPost_ret (results_none rfl _ _ _) rfl ?_
              exact ⟨⟨_, rfl⟩, .inr ⟨_, trivial, hJx3⟩⟩
          · obtain rfl : m = c - (k + 1) := by omega
            have NQ := Lib.hid hnq
            have JQ := Lib.hid hJq
            clear hnq hJq
            gi_wp2
            go_roundw
            case rel => exact ⟨k + 1, by omega, by go_num, JQ.out, NQ.out⟩
            case measure => simp [intOf]; omega
    · obtain rfl : k = c := by omega
      gi_wp2
      go_end0
      exact ⟨⟨_, rfl⟩, .inl ⟨_, rfl, hJs⟩⟩

theorem pairs_stops (n : Nat) (hn : 1 ≤ n) (Bs n₀ c d : Nat) (A : Option Addr) (X : Nat → Fp.F) (hc : c ≤ 1000) (hd : c ≤ d) (w : World) (hB : Bs < w.heap.size) (hn0 : n₀ ≤ w.heap.size) (hBs : w.cell? ⟨Bs, 0, none⟩ = some (.slice A c d)) (hl : LiesIn w n₀ A (Mx.row c fun j => ((X j).val : Int))) :
    SeqStopsK Fence.wide n Try.prog 42 #[.pointer (some ⟨Bs, 0, none⟩)] (twoOf c X) (KeepXs n₀ Bs (.slice A c d)) (fun ys => ys = Mx.ups c c) (fun _ => True) (c * c) w := fun l J Jx W hW _ _ hY h0 =>
  pairs_in n hn l Bs n₀ c d A X hc hd J Jx hY W ((hW.cell (p := ⟨Bs, 0, none⟩) hB).trans hBs) (hl.below (hW.mono hn0)) h0

/-- The product as far as the pairs of pre. -/
def vpr (n : Nat) (X : Nat → Fp.F) (pre : List Nat) : Fp.F := Mx.lpr (fun y => X (colOf n y) - X (rowOf n n y)) pre
theorem vpr_all (n : Nat) (X : Nat → Fp.F) : vpr n X (Mx.ups n n) = Mx.df n X := by
  unfold vpr
  rw [Mx.lpr_ups, Mx.df_rows]
  refine Mx.pr_congr fun i hi => Mx.pr_congr fun t ht => ?_
  obtain ⟨e1, e2⟩ := vplace_row hi (show i + 1 + t < n by omega)
  show X (colOf n (i * n + (i + 1 + t))) - X (rowOf n n (i * n + (i + 1 + t))) = _
  rw [e1, e2]
theorem vstep (t a b : Fp.F) : ((t.val : Int) * ((b.val : Int) - (a.val : Int) + 9973)) % 9973 = ((t * (b - a)).val : Int) := by
  have h : Fp.ofInt ((t.val : Int) * ((b.val : Int) - (a.val : Int) + 9973)) = t * (b - a) := by
    have hn : Fp.ofInt (-(a.val : Int)) = -a := by
      have h1 := Fp.ofInt_add (a.val : Int) (-(a.val : Int))
      rw [show (a.val : Int) + -(a.val : Int) = 0 by omega, Fp.ofInt_self, show Fp.ofInt 0 = 0 by decide +kernel] at h1
      grind
    rw [Fp.ofInt_mul, Fp.ofInt_self, show (b.val : Int) - (a.val : Int) + 9973 = (b.val : Int) + -(a.val : Int) + 9973 by omega, Fp.ofInt_add, Fp.ofInt_add, Fp.ofInt_self, hn, show Fp.ofInt 9973 = 0 by decide +kernel]
    grind
  rw [← h, Fp.ofInt_val]
theorem vstep_bound (t a b : Fp.F) : 0 ≤ (t.val : Int) * ((b.val : Int) - (a.val : Int) + 9973) ∧ (t.val : Int) * ((b.val : Int) - (a.val : Int) + 9973) ≤ 1000000000 := by
  have h1 := vval t
  have h2 := vval a
  have h3 := vval b
  refine ⟨Int.mul_nonneg h1.1 (by omega), ?_⟩
  have := Int.mul_le_mul h1.2 (show (b.val : Int) - (a.val : Int) + 9973 ≤ 19945 by omega) (by omega) (by omega)
  omega

/-- The product's variable. -/
structure VAt (w0 : World) (b : Nat) (t : Int) (W : World) : Prop where
  t : Boxed W b 3 (.int .i64 t)
  kp : Kp w0 W
theorem VAt.keep {w0 : World} {b : Nat} {t : Int} {W W' : World} (h : VAt w0 b t W) (k : Kp W W') : VAt w0 b t W' := ⟨boxed_kp h.t k, h.kp.trans k⟩
theorem VAt.put {w0 : World} {b : Nat} {t : Int} {W : World} (h : VAt w0 b t W) (h0 : w0.heap.size ≤ b) (u : Int) : VAt w0 b u (W.setCell ⟨b, 0, none⟩ (.int .i64 u)) := ⟨Boxed.set _ h.t, h.kp.put (p := ⟨b, 0, none⟩) h0 _⟩
theorem vat_own (w0 : World) (b : Nat) (t : List Nat → Int) (B : Nat) (hw : w0.heap.size ≤ B) : OwnFrom B (fun (pre : List Nat) W => VAt w0 b (t pre) W) := fun s W W' row h hg hr => by
  have hr' : ∀ r, row = some r → ∃ o : Obj, W.heap[r]? = some o ∧ o.isCells = false := fun r e => (hr r e).2
  exact ⟨boxed_keptN h.t hg hr', h.kp.grown hg h.kp.size (fun k e => Nat.le_trans hw (hr k e).1)⟩

set_option maxRecDepth 100000 in
set_option maxHeartbeats 3200000 in
theorem VDet_ok (A : Option Addr) (L : List Int) (n c : Nat) (X : Nat → Fp.F) (w : World) (ha : Lies w A L) (s : Vd n X L) (hc : n ≤ c) :
    Calls Try.prog 9 #[.slice A n c] w fun e w' => e = .returned (.tuple #[.int .i64 ((Mx.df n X).val : Int), .nilIface]) ∧ Kp w w' := by
  have CK := Lib.hid (vChk_good s A c w ha)
  have HA := Lib.hid (show Lies w A (Mx.row n fun j => ((X j).val : Int)) from by have h := ha; rw [s.row] at h; exact h)
  have hn0 := s.n0
  have hn5 := s.n5
  have ALL := Lib.hid (vpr_all n X)
  generalize Mx.df n X = dd at *
  clear ha s
  refine callsIn_wide.1 (callsIn_of_wp_marks (F := Fence.wide) (n := 9) Try.func9 rfl trivial ?_ rfl)
  simp only [Try.ntmps9, List.size_toArray, List.length_cons, List.length_nil, Nat.reduceAdd, Nat.reduceSub, Array.replicate_succ, Array.replicate_zero, List.push_toArray, List.append_toArray, List.nil_append, List.cons_append]
  refine wpIn_wide.2 ?_
  go_wp2_with fail
  refine (CK.out).mono ?_; rintro e w' ⟨rfl, rfl⟩
  go_wp2_with fail
  obtain ⟨w1, hw1⟩ : ∃ y, y = w.alloc (.cells #[.int .i64 1] 3) := ⟨_, rfl⟩
  have S1 := Lib.hid (show VAt w w.heap.size 1 w1 by rw [hw1]; exact ⟨Boxed.new w _ _, (Kp.rfl' w).new _⟩)
  have s1 : w1.heap.size = w.heap.size + 1 := by rw [hw1]; simp
  rw [← hw1]
  clear hw1
  refine (pairs_any A n c w1).mono ?_; rintro e w2 ⟨rfl, hw2⟩
  have k2 : Kp w1 w2 := by rw [hw2]; exact (Kp.rfl' w1).new _
  have n2 : w2.cell? ⟨w1.heap.size, 0, none⟩ = some (.slice A n c) := by rw [hw2]; exact (Boxed.new w1 22 (.slice A n c)).cell
  have s2 : w2.heap.size = w.heap.size + 2 := by rw [hw2]; simp [s1]
  rw [s1] at n2 ⊢
  have S2 := Lib.hid (S1.out.keep k2)
  have L2 := Lib.hid (HA.out.in.below S2.out.kp)
  clear hw2 k2 S1
  go_wp2_with fail
  refine (wpIn_wide (n := 9)).1 (wpIn_rangeFunc_ownF (F := Fence.wide) rfl (Nat.le_add_left 1 8) (gf := 42) (lb := #[.pointer (some ⟨w.heap.size + 1, 0, none⟩)]) rfl trivial (enters_of Try.func42 (by kernel_rfl) rfl)
    (pairs_stops 8 (Nat.le_add_left 1 7) (w.heap.size + 1) w.heap.size n c A X (by omega) hc w2 (by omega) (by omega) n2 L2.out)
    keepXs_t (keepXs_b (by omega)) (Below.refl _ _) (fun _ => rfl)
    (fun pre W => VAt w w.heap.size ((vpr n X pre).val : Int) W)
    (fun _ _ _ => False)
    (vat_own w _ _ _ (by omega))
    (fun _ _ _ _ _ hs _ _ => hs)
    S2.out
    ?a1 ?assign ?body ?done ?stop)
  case assign =>
    intro l y W K hK
    unfold twoOf
    gi_wp2
    exact hK
  case body =>
    rintro l pre y W hs hlen
    have ST := Lib.hid (show vpr n X (pre ++ [y]) = vpr n X pre * (X (colOf n y) - X (rowOf n n y)) from Mx.lpr_snoc _ _ _)
    have VS := vstep (vpr n X pre) (X (rowOf n n y)) (X (colOf n y))
    have vb := vstep_bound (vpr n X pre) (X (rowOf n n y)) (X (colOf n y))
    rw [← ST.out] at VS
    have h2 := vval (X (rowOf n n y))
    have h3 := vval (X (colOf n y))
    have t1 := hs.t.cell
    have f1 := hs.t.frozen
    have SS := Lib.hid hs
    generalize (vpr n X pre).val = t at *
    generalize (X (rowOf n n y)).val = a at *
    generalize (X (colOf n y)).val = b at *
    have VV := Lib.hid VS
    have hw1 : IntKind.i64.wrap ((b : Int) - (a : Int)) = (b : Int) - (a : Int) := IntWalk.i64_in _ (by omega)
    have hw2 : IntKind.i64.wrap ((b : Int) - (a : Int) + 9973) = (b : Int) - (a : Int) + 9973 := IntWalk.i64_in _ (by omega)
    have hw3 : IntKind.i64.wrap ((t : Int) * ((b : Int) - (a : Int) + 9973)) = (t : Int) * ((b : Int) - (a : Int) + 9973) := IntWalk.i64_in _ (by omega)
    have TM := Int.tmod_eq_emod_of_nonneg (b := 9973) vb.1
    have hk1 : w.heap.size ≠ w.heap.size + 1 := by omega
    clear hs hlen VS vb h2 h3
    gi_wp2
    refine ⟨KeepsOthers.setCell _ _ _, ⟨(Below.refl _ _).setCell (p := ⟨w.heap.size, 0, none⟩) (Nat.le_refl _) _, fun x => ?_⟩, ?_⟩
    · rw [World.cell?_of_block (Below.heap_setCell W ⟨w.heap.size, 0, none⟩ _ (w.heap.size + 1) (by show w.heap.size + 1 ≠ w.heap.size; omega))]
      exact x
    · show VAt w w.heap.size ((vpr n X (pre ++ [y])).val : Int) _
      rw [← VV.out]
      exact SS.out.put (Nat.le_refl _) _
  case done =>
    rintro D ys W hD rfl hs hK
    rw [ALL.out] at hs
    have r2 := (vat_own w w.heap.size (fun _ => (dd.val : Int)) w.heap.size (Nat.le_refl _)) [] W (W.putObj D (.deferred none)) (some D) hs (grownBy_putObj' _ _ _) (fun r e => by cases e; exact ⟨by omega, _, hK, rfl⟩)
    have t1 := hs.t.cell
    have R2 := Lib.hid r2.kp
    clear hs r2
    go_wp2_with fail
    refine ⟨by simp, .inl ⟨_, _, rfl, run_takeDeferred hK, ?_⟩⟩
    refine ⟨.tuple #[.int .i64 (dd.val : Int), .nilIface], by simp [results, Try.results9, go_sem], ?_⟩
    exact ⟨rfl, R2.out⟩
  case stop =>
    rintro D c pre W _ _ h _
    exact h.elim

end Go.Proofs.Ytldkamhknaflbaa

/- Comparing rows and matrices, small matrices just laid down: for all packages. -/
namespace Go.Proofs.Ytldkamhknaflbaa
open Go.ChangeShapes Go.WideShapes Go.ChangeAt Go.RowKit
set_option linter.unusedVariables false

set_option maxHeartbeats 1600000 in
theorem ints_drew (A B : Option Addr) (l m : List Int) (c d : Nat) (w : World) (ha : Lies w A l) (hb : Lies w B m) (hn : l.length ≤ 1000000) (hm : m.length ≤ 1000000) :
    Calls Try.prog 15 #[.slice A l.length c, .slice B m.length d] w fun e w' => Tells (l = m) e ∧ Drew w w' := by
  have HA := Lib.hid ha
  have HB := Lib.hid hb
  obtain ⟨n, hn'⟩ : ∃ n, n = l.length := ⟨_, rfl⟩
  obtain ⟨q, hq'⟩ : ∃ q, q = m.length := ⟨_, rfl⟩
  rw [← hn'] at hn ⊢
  rw [← hq'] at hm ⊢
  have HN := Lib.hid hn'
  have HQ := Lib.hid hq'
  clear ha hb hn' hq'
  by_cases he : n = q
  · subst he
    have hne : ((n : Int) != (n : Int)) = false := by simp
    go_enter Try.func15, Try.ntmps15
    go_wp2_with fail
    go_loopw [5] (fun i wr => ∃ k : Nat, k ≤ n ∧ i = .int .i64 (k : Int) ∧ (∀ j, j < k → l.getD j 0 = m.getD j 0) ∧ Drew w wr) (fun i _ => n - (intOf i).toNat)
    case atStart => exact ⟨0, Nat.zero_le _, rfl, fun j hj => absurd hj (by omega), Drew.refl _⟩
    case round =>
      obtain ⟨k, hk, rfl, hg, hkp⟩ := hrel
      have HG := Lib.hid hg
      have HK := Lib.hid hkp
      clear hg hkp
      by_cases hlt : k < n
      · obtain ⟨ad, rfl, _, hc⟩ := (HA.out.keep HK.out.kp) k (by have := HN.out; omega)
        obtain ⟨bd, rfl, _, hd⟩ := (HB.out.keep HK.out.kp) k (by have := HQ.out; omega)
        obtain ⟨x, hx⟩ : ∃ x, x = l.getD k 0 := ⟨_, rfl⟩
        obtain ⟨y, hy⟩ : ∃ y, y = m.getD k 0 := ⟨_, rfl⟩
        rw [← hx] at hc
        rw [← hy] at hd
        by_cases hxy : x = y
        · have GG := Lib.hid (show ∀ j, j < k + 1 → l.getD j 0 = m.getD j 0 from fun j hj => by
            by_cases e : j = k
            · subst e; rw [← hx, ← hy]; exact hxy
            · exact HG.out j (by omega))
          have hb : (x != y) = false := by rw [hxy]; simp
          clear hx hy hxy
          go_wp2_with fail
          go_quiet (fail)
          go_wp2_with fail
          go_roundw
          case rel => exact ⟨k + 1, by omega, by go_num, GG.out, HK.out.more _⟩
          case measure => simp [intOf]; omega
        · have NF := Lib.hid (show ¬ l = m from fun e => hxy (by rw [hx, hy, e]))
          have hb : (x != y) = true := by rw [bne_iff_ne]; exact hxy
          clear hx hy hxy
          go_wp2_with fail
          go_quiet (fail)
          go_wp2_with fail
          go_ret
          exact ⟨.inr ⟨NF.out, rfl⟩, HK.out.more _⟩
      · have YES := Lib.hid (show l = m from list_same l m (by rw [← HN.out, ← HQ.out]) fun j hj => HG.out j (by have := HN.out; omega))
        go_wp2_with fail
        go_ret
        exact ⟨.inl ⟨YES.out, rfl⟩, HK.out⟩
  · have hne : ((n : Int) != (q : Int)) = true := by rw [bne_iff_ne]; omega
    have NF := Lib.hid (show ¬ l = m from fun e => he (by rw [HN.out, HQ.out, e]))
    clear he
    go_enter Try.func15, Try.ntmps15
    go_wp2_with fail
    go_ret
    exact ⟨.inr ⟨NF.out, rfl⟩, Drew.refl _⟩
theorem rows_same (a b : List (List Int)) (h : a.length = b.length) (h2 : ∀ k, k < a.length → a.getD k [] = b.getD k []) : a = b := by
  refine List.ext_getElem h fun k h3 h4 => ?_
  have := h2 k h3
  rwa [List.getD_eq_getElem?_getD, List.getD_eq_getElem?_getD, List.getElem?_eq_getElem h3, List.getElem?_eq_getElem h4] at this

/-- No row is longer than a slice may be. -/
def Modest (m : List (List Int)) : Prop := m.length ≤ 1000000 ∧ ∀ k, k < m.length → (m.getD k []).length ≤ 1000000
theorem modest_tab {r c : Nat} (g : Nat → Nat → Int) (hr : r ≤ 1000000) (hc : c ≤ 1000000) : Modest (Mx.tab r c g) :=
  ⟨by rw [Mx.len_tab]; exact hr, fun k hk => by rw [Mx.len_tab] at hk; rw [Mx.tab_len _ _ _ _ hk]; exact hc⟩
theorem modest_nil : Modest [] := ⟨by decide, fun k hk => absurd hk (by simp)⟩


theorem cell_just (w : World) (cs : Array Value) (e : TypeId) (g k : Nat) (h : g = w.heap.size) : (w.alloc (.cells cs e)).cell? ⟨g, k, none⟩ = cs[k]? := by
  subst h
  exact cell_of_row _ _ k _ e (0, 0) (heap_alloc_new w _)
/-- What came in: the rows up to the capacity, each with its numbers up to its own; its rows are the first of them. -/
theorem liesM_open {w : World} {a : Addr} {len cap : Nat} {A : Nat → Option Addr} {L C : Nat → Nat} {Z : Nat → List Int} (hl : len ≤ cap)
    (h : ∀ r, r < cap → w.cell? (a.add r) = some (.slice (A r) (L r) (C r)) ∧ L r ≤ C r ∧ C r ≤ maxLen ∧ (Z r).length = C r ∧ (∀ n ∈ Z r, (Lit.int .i64 n).wf = true) ∧ (A r = none → C r = 0) ∧
      ∀ a', A r = some a' → 0 ≤ a'.block ∧ ∀ c, c < C r → w.cell? (a'.add c) = some (.int .i64 ((Z r).getD c 0))) :
    ((List.range len).map fun r => (Z r).take (L r)).length = len ∧ LiesM w (some a) ((List.range len).map fun r => (Z r).take (L r)) := by
  refine ⟨by simp, fun k hk => ?_⟩
  have hk' : k < len := by simpa using hk
  obtain ⟨h1, h2, _, h4, _, h6, h7⟩ := h k (by omega)
  have e : ((List.range len).map fun r => (Z r).take (L r)).getD k [] = (Z k).take (L k) := by simp [hk']
  have el : ((Z k).take (L k)).length = L k := by rw [List.length_take]; omega
  rw [e, el]
  refine ⟨a, A k, C k, rfl, ?_, h1, h2, ?_⟩
  · have := cell_lt h1; rwa [block_add] at this
  · cases hA : A k with
    | none =>
      intro j hj
      have := h6 hA
      rw [el] at hj
      omega
    | some a' => exact (lies_take (w := w) (x := a') h2 h4 (fun i hi => (h7 a' hA).2 i (by omega))).2
/-- Two rows of two, and the heads of both, just laid down. -/
def laid22 (w : World) (x : Nat → Nat → Int) : World :=
  ((w.alloc (.cells #[.int .i64 (x 0 0), .int .i64 (x 0 1)] 3)).alloc (.cells #[.int .i64 (x 1 0), .int .i64 (x 1 1)] 3)).alloc (.cells #[.slice (some ⟨w.heap.size, 0, none⟩) 2 2, .slice (some ⟨w.heap.size + 1, 0, none⟩) 2 2] 22)
theorem laid22_kp (w : World) (x : Nat → Nat → Int) : Kp w (laid22 w x) := (((Kp.rfl' w).new _).new _).new _
theorem laid22_size (w : World) (x : Nat → Nat → Int) : (laid22 w x).heap.size = w.heap.size + 3 := by simp [laid22]
theorem laid22_lies (w : World) (x : Nat → Nat → Int) : LiesM (laid22 w x) (some ⟨w.heap.size + 2, 0, none⟩) (Mx.tab 2 2 x) := by
  have h0 : Lies (w.alloc (.cells #[.int .i64 (x 0 0), .int .i64 (x 0 1)] 3)) (some ⟨w.heap.size, 0, none⟩) (Mx.row 2 (x 0)) := lies_new' w _ [x 0 0, x 0 1] _ rfl
  have h1 : Lies ((w.alloc (.cells #[.int .i64 (x 0 0), .int .i64 (x 0 1)] 3)).alloc (.cells #[.int .i64 (x 1 0), .int .i64 (x 1 1)] 3)) (some ⟨w.heap.size + 1, 0, none⟩) (Mx.row 2 (x 1)) :=
    lies_new' (w.alloc _) _ [x 1 0, x 1 1] _ (by simp)
  have k2 := ((Kp.rfl' (w.alloc (.cells #[.int .i64 (x 0 0), .int .i64 (x 0 1)] 3))).new (.cells #[.int .i64 (x 1 0), .int .i64 (x 1 1)] 3)).new (.cells #[.slice (some ⟨w.heap.size, 0, none⟩) 2 2, .slice (some ⟨w.heap.size + 1, 0, none⟩) 2 2] 22)
  have k3 := (Kp.rfl' ((w.alloc (.cells #[.int .i64 (x 0 0), .int .i64 (x 0 1)] 3)).alloc (.cells #[.int .i64 (x 1 0), .int .i64 (x 1 1)] 3))).new (.cells #[.slice (some ⟨w.heap.size, 0, none⟩) 2 2, .slice (some ⟨w.heap.size + 1, 0, none⟩) 2 2] 22)
  have hs : w.heap.size + 2 < (laid22 w x).heap.size := by rw [laid22_size]; omega
  intro k hk
  rw [Mx.len_tab] at hk
  match k, hk with
  | 0, _ => exact ⟨_, some ⟨w.heap.size, 0, none⟩, 2, rfl, hs, by rw [add_at]; unfold laid22; rw [cell_just _ _ _ _ _ (by simp)]; simp [Mx.tab, Mx.row], by simp [Mx.tab, Mx.row], h0.keep k2⟩
  | 1, _ => exact ⟨_, some ⟨w.heap.size + 1, 0, none⟩, 2, rfl, hs, by rw [add_at]; unfold laid22; rw [cell_just _ _ _ _ _ (by simp)]; simp [Mx.tab, Mx.row], by simp [Mx.tab, Mx.row], h1.keep k3⟩

def n22 (a b c d : Int) : Nat → Nat → Int := fun i j => if i = 0 then (if j = 0 then a else b) else (if j = 0 then c else d)
/-- The same with the numbers and the block as they stand in a walk. -/
abbrev lit22 (w : World) (g : Nat) (a b c d : Int) : World :=
  ((w.alloc (.cells #[.int .i64 a, .int .i64 b] 3)).alloc (.cells #[.int .i64 c, .int .i64 d] 3)).alloc (.cells #[.slice (some ⟨g, 0, none⟩) 2 2, .slice (some ⟨g + 1, 0, none⟩) 2 2] 22)
theorem lit22_lies (w : World) (g : Nat) (a b c d : Int) (h : g = w.heap.size) : LiesM (lit22 w g a b c d) (some ⟨g + 1 + 1, 0, none⟩) (Mx.tab 2 2 (n22 a b c d)) := by
  subst h
  exact laid22_lies w (n22 a b c d)
theorem lit22_kp (w : World) (g : Nat) (a b c d : Int) : Kp w (lit22 w g a b c d) := (((Kp.rfl' w).new _).new _).new _
theorem lit22_size (w : World) (g : Nat) (a b c d : Int) : (lit22 w g a b c d).heap.size = w.heap.size + 1 + 1 + 1 := by simp [lit22]

end Go.Proofs.Ytldkamhknaflbaa

/- Good matrices, as package mat wants them. For all packages on matrices. -/
namespace Go.Proofs.Ytldkamhknaflbaa
set_option linter.unusedVariables false

def f22 (a b c d : Fp.F) : Nat → Nat → Fp.F := fun i j => if i = 0 then (if j = 0 then a else b) else (if j = 0 then c else d)
/-- A matrix of r rows and c columns, as package mat wants it. -/
structure Sh (r c : Nat) (f : Nat → Nat → Fp.F) (m : List (List Int)) : Prop where
  eq : m = Mx.matl r c f
  r0 : 0 < r
  r5 : r ≤ 5
  c0 : 0 < c
  c5 : c ≤ 5
theorem Sh.len {r c : Nat} {f : Nat → Nat → Fp.F} {m : List (List Int)} (h : Sh r c f m) : m.length = r := by rw [h.eq, Mx.len_matl]
theorem Sh.mat {r c : Nat} {f : Nat → Nat → Fp.F} {m : List (List Int)} (h : Sh r c f m) : Sh r c f (Mx.matl r c f) := ⟨rfl, h.r0, h.r5, h.c0, h.c5⟩
theorem sh_or (m : List (List Int)) : (Mx.mcode 5 0 9972 m = 0 ∧ ∃ r c f, Sh r c f m) ∨ Mx.mcode 5 0 9972 m ≠ 0 := by
  by_cases h : Mx.mcode 5 0 9972 m = 0
  · obtain ⟨r, c, f, e, h1, h2, h3, h4⟩ := Mx.mcode_zero h
    exact .inl ⟨h, r, c, f, ⟨e, h1, h2, h3, h4⟩⟩
  · exact .inr h
theorem Sh.code {r c : Nat} {f : Nat → Nat → Fp.F} {m : List (List Int)} (h : Sh r c f m) : Mx.mcode 5 0 9972 m = 0 := by
  rw [h.eq]; exact Mx.mcode_matl f h.r0 h.r5 h.c0 h.c5

theorem Sh.mul {r q k : Nat} {f f' : Nat → Nat → Fp.F} {a b : List (List Int)} (sa : Sh r q f a) (sb : Sh q k f' b) : Sh r k (Mx.mul q f f') (Mx.matl r k (Mx.mul q f f')) := ⟨rfl, sa.r0, sa.r5, sb.c0, sb.c5⟩
theorem Sh.flip {r q : Nat} {f : Nat → Nat → Fp.F} {a : List (List Int)} (sa : Sh r q f a) : Sh q r (Mx.flip f) (Mx.matl q r (Mx.flip f)) := ⟨rfl, sa.c0, sa.c5, sa.r0, sa.r5⟩
theorem Sh.plus {r q : Nat} {f f' : Nat → Nat → Fp.F} {a : List (List Int)} (sa : Sh r q f a) : Sh r q (Mx.plus f f') (Mx.matl r q (Mx.plus f f')) := ⟨rfl, sa.r0, sa.r5, sa.c0, sa.c5⟩
theorem Sh.pow {r : Nat} {f : Nat → Nat → Fp.F} {a : List (List Int)} (sa : Sh r r f a) (k : Nat) : Sh r r (Mx.pwm r f k) (Mx.matl r r (Mx.pwm r f k)) := ⟨rfl, sa.r0, sa.r5, sa.c0, sa.c5⟩
theorem Sh.one {r q : Nat} {f : Nat → Nat → Fp.F} {a : List (List Int)} (sa : Sh r q f a) : Sh r r Mx.one (Mx.matl r r Mx.one) := ⟨rfl, sa.r0, sa.r5, sa.r0, sa.r5⟩
theorem Sh.modest {r q : Nat} {f : Nat → Nat → Fp.F} {a : List (List Int)} (sa : Sh r q f a) : Modest a := by
  rw [sa.eq]; exact modest_tab _ (Nat.le_trans sa.r5 (by decide)) (Nat.le_trans sa.c5 (by decide))

end Go.Proofs.Ytldkamhknaflbaa

/- Package vander in the laws' words: what comes in are numbers of a matrix, or every call fails; the closed fact. -/
namespace Go.Proofs.Ytldkamhknaflbaa
open Go.ChangeShapes Go.WideShapes Go.ChangeAt Go.RowKit
set_option linter.unusedVariables false

/-- An error, and no matrix. -/
def NoMx (w : World) (e : Ending) (w' : World) : Prop := ∃ z : Nat, e = .returned (.tuple #[.slice none 0 0, .iface 56 (.int .i64 (z : Int))]) ∧ Kp w w'
theorem VFull_no {L : List Int} (h : vcd L ≠ 0) (A : Option Addr) (c : Nat) (w : World) (ha : Lies w A L) :
    Calls Try.prog 7 #[.slice A L.length c] w fun e w' => NoMx w e w' :=
  (VFull_bad A L c w ha h).mono fun e w' h' => ⟨vcd L, by rw [h'.1, errOf_ne _ h], by rw [← h'.2]; exact Kp.rfl' w⟩
theorem Vd.sh {n : Nat} {X : Nat → Fp.F} {L : List Int} (h : Vd n X L) : Sh n n (Mx.vm X) (Mx.matl n n (Mx.vm X)) := ⟨rfl, h.n0, h.n5, h.n0, h.n5⟩
theorem Vd.lies {n : Nat} {X : Nat → Fp.F} {L : List Int} (h : Vd n X L) {A : Option Addr} {w : World} (ha : Lies w A L) : Lies w A (Mx.row n fun j => ((X j).val : Int)) := by
  rw [h.row] at ha; exact ha

def x124 : Nat → Fp.F := fun i => Fp.ofInt ([1, 2, 4].getD i 0)
theorem vd124 : Vd 3 x124 [1, 2, 4] := ⟨by decide +kernel, by decide, by decide⟩
theorem df124 : (Mx.df 3 x124).val = 6 := by decide +kernel
set_option maxRecDepth 100000 in
set_option maxHeartbeats 1600000 in
theorem vanderFact_any (w : World) : Calls Try.prog 6 #[] w fun e w' => e = .returned (.bool true) ∧ Kp w w' := by
  have R1 := Lib.hid (fun (w1 : World) (A : Option Addr) (h1 : Lies w1 A [1, 2, 4]) => VDet_ok A [1, 2, 4] 3 3 x124 w1 h1 vd124 (by decide))
  rw [df124] at R1
  go_enter Try.func6, Try.ntmps6
  go_wp2_with fail
  refine (R1.out _ _ (lies_new w _ [1, 2, 4])).mono ?_; rintro e w1 ⟨rfl, k1⟩
  have K := Lib.hid (((Kp.rfl' w).new _).trans k1)
  clear k1
  go_wp2_with fail
  go_ret
  exact ⟨rfl, K.out⟩

end Go.Proofs.Ytldkamhknaflbaa

/- Contracts of the document's answer on matrices (package rankmereref1: Mod, Unit, Flip, Copy, MatMul, MatAdd, Matrix, Field). For all packages. -/
namespace Go.Proofs.Ytldkamhknaflbaa
open Go.ChangeShapes Go.WideShapes Go.ChangeAt Go.RowKit
set_option linter.unusedVariables false

theorem own_made {w : World} {base g n : Nat} (h : w.ownsRow base 3 1 (.slice (some ⟨g, 0, none⟩) n n) n (madeCells #[.int .i64 0] (n * 1)).toList) : Own w base (.slice (some ⟨g, 0, none⟩) n n) (Mx.row n fun _ => 0) := by
  unfold Own
  rw [Mx.len_row, ← Mx.row_rep]
  rw [toList_madeCells_one, Nat.mul_one] at h
  simpa [ints] using h
theorem rval (a : Fp.F) : 0 ≤ (a.val : Int) ∧ (a.val : Int) ≤ 9972 := by have := a.isLt; omega
theorem rprod (a b : Fp.F) : 0 ≤ (a.val : Int) * (b.val : Int) ∧ (a.val : Int) * (b.val : Int) ≤ 99440784 := by
  have h1 := rval a
  have h2 := rval b
  exact ⟨Int.mul_nonneg h1.1 h2.1, Int.mul_le_mul h1.2 h2.2 h2.1 (by decide)⟩
theorem rzero : ((0 : Fp.F).val : Int) = 0 := rfl

theorem rMod_any (n : Int) (w : World) (h1 : -1000000000000000 ≤ n) (h2 : n ≤ 1000000000000000) :
    Calls Try.prog 10 #[.int .i64 n] w fun e w' => e = .returned (.int .i64 (n % 9973)) ∧ w = w' := by
  obtain ⟨f1, f2⟩ := Num.tmod_fix n 9973 (by omega)
  obtain ⟨b2, b1⟩ := Num.tmod_bound n 9973 (by omega)
  have F1 := Lib.hid f1
  have F2 := Lib.hid f2
  clear f1 f2
  by_cases h : n.tmod 9973 < 0
  · go_enter Try.func10, Try.ntmps10
    go_wp2
    go_ret
    exact ⟨ret_int (F1.out h), rfl⟩
  · have h' : 0 ≤ n.tmod 9973 := by omega
    clear h
    go_enter Try.func10, Try.ntmps10
    go_wp2
    go_ret
    exact ⟨ret_int (F2.out h'), rfl⟩

/-- A matrix that the call made. -/
def Made (r c : Nat) (f : Nat → Nat → Fp.F) (w : World) (e : Ending) (w' : World) : Prop := ∃ A d, e = .returned (.slice A r d) ∧ LiesM w' A (Mx.matl r c f) ∧ Kp w w'
/-- The same, to be written to. -/
def MadeOwn (r c : Nat) (f : Nat → Nat → Fp.F) (w : World) (e : Ending) (w' : World) : Prop := ∃ v G C, e = .returned v ∧ OwnM w' w.heap.size v G C (Mx.matl r c f) ∧ Kp w w'



end Go.Proofs.Ytldkamhknaflbaa

/- Contracts of the document's To: where a matrix takes a row. -/
namespace Go.Proofs.Ytldkamhknaflbaa
open Go.ChangeShapes Go.WideShapes Go.ChangeAt Go.RowKit
set_option linter.unusedVariables false

/-- A row made. -/
def MadeRow (n : Nat) (v : Nat → Fp.F) (w : World) (e : Ending) (w' : World) : Prop := ∃ A d, e = .returned (.slice A n d) ∧ Lies w' A (rowF n v) ∧ Kp w w'

set_option maxRecDepth 100000 in
set_option maxHeartbeats 6400000 in
theorem rTo_any (A X : Option Addr) (f : Nat → Nat → Fp.F) (x : Nat → Fp.F) (r c d e : Nat) (w : World) (ha : LiesM w A (Mx.matl r c f)) (hx : Lies w X (rowF c x)) (hr : r ≤ 1000) (hc : c ≤ 1000) :
    Calls Try.prog 12 #[.slice A r d, .slice X c e] w fun e w' => MadeRow r (Mx.tov c f x) w e w' := by
  have HA := Lib.hid ha
  have HX := Lib.hid hx
  clear ha hx
  go_enter Try.func12, Try.ntmps12
  go_wp2_with fail
  go_loopw [5, 6] (fun v i wr => ∃ k : Nat, k ≤ r ∧ i = .int .i64 (k : Int) ∧ Own wr w.heap.size v (rowF k (Mx.tov c f x)) ∧ Kp w wr) (fun _ i _ => r - (intOf i).toNat)
  case atStart => exact ⟨0, Nat.zero_le _, rfl, Own.none _ _, Kp.rfl' _⟩
  case round =>
    obtain ⟨k, hk, rfl, hu, hkq⟩ := hrel
    have HU := Lib.hid hu
    have HQ := Lib.hid hkq
    by_cases hlt : k < r
    · obtain ⟨w1, hw1⟩ : ∃ x, x = wr := ⟨_, rfl⟩
      subst hw1
      clear hu hkq
      go_wp2_with fail
      go_loopw [7, 8] (fun s i wz => ∃ p : Nat, p ≤ c ∧ i = .int .i64 (p : Int) ∧ s = .int .i64 ((Mx.sg p (fun j => f k j * x j)).val : Int) ∧ Drew w1 wz) (fun _ i _ => c - (intOf i).toNat)
      case atStart => exact ⟨0, Nat.zero_le _, rfl, rfl, Drew.refl _⟩
      case round =>
        obtain ⟨p, hp, rfl, rfl, hdr⟩ := hrel
        have HD := Lib.hid hdr
        by_cases hlt3 : p < c
        · have kz := HQ.out.trans hdr.kp
          obtain ⟨ad, A1, d1, rfl, _, x1, _, l1⟩ := (HA.out.keep kz).row hlt
          obtain ⟨ad1, rfl, _, x2⟩ := l1.el hlt3
          obtain ⟨xd, rfl, _, x4⟩ := (HX.out.keep kz).el hlt3
          have HSG := Lib.hid (show ((Mx.sg p (fun j => f k j * x j)).val : Int) + ((f k p).val : Int) * ((x p).val : Int) < 1000000000000 ∧ (((Mx.sg p (fun j => f k j * x j)).val : Int) + ((f k p).val : Int) * ((x p).val : Int)) % 9973 = ((Mx.sg (p + 1) (fun j => f k j * x j)).val : Int) by
            have b1 := gval (Mx.sg p (fun j => f k j * x j))
            have b2 := times_bound (f k p) (x p)
            exact ⟨by omega, Mx.val_more _ _ _⟩)
          have v0 := gval (Mx.sg p (fun j => f k j * x j))
          have v3 := times_bound (f k p) (x p)
          generalize ((Mx.sg p (fun j => f k j * x j)).val : Int) = u0 at *
          obtain ⟨u1, hu1⟩ : ∃ u1, u1 = ((Mx.sg (p + 1) (fun j => f k j * x j)).val : Int) := ⟨_, rfl⟩
          rw [← hu1] at HSG
          have HU1 := Lib.hid hu1
          generalize ((f k p).val : Int) = y at *
          generalize ((x p).val : Int) = z at *
          have hwm : IntKind.i64.wrap (y * z) = y * z := IntWalk.i64_in _ (by omega)
          have hwa : IntKind.i64.wrap (u0 + y * z) = u0 + y * z := IntWalk.i64_in _ (by omega)
          have MO := Lib.hid (fun w => (rMod_any (u0 + y * z) w (by omega) (by omega)))
          rw [HSG.out.2] at MO
          clear hdr kz l1 v0 v3 hu1
          go_wp2_with fail
          go_quiet ((first
            | (with_reducible exact quiet_here (MO.out _))
            | (with_reducible exact quiet_more (MO.out _))))
          go_wp2_with fail
          go_roundw
          case rel => exact ⟨p + 1, by omega, by go_num, by rw [HU1.out], HD.out.more _⟩
          case measure => simp [intOf]; omega
        · obtain rfl : p = c := by omega
          obtain ⟨wd, hwd⟩ : ∃ x, x = wr := ⟨_, rfl⟩
          subst hwd
          have hlen : (rowF k (Mx.tov p f x)).length + 1 ≤ 17000000000000 := by rw [Mx.len_row]; omega
          have HUd := Lib.hid (HU.out.kp HD.out.kp)
          have HQd := Lib.hid (HQ.out.trans HD.out.kp)
          have hsz := HQd.out.size
          have HSN := Lib.hid (show rowF (k + 1) (Mx.tov p f x) = rowF k (Mx.tov p f x) ++ [((Mx.sg p (fun j => f k j * x j)).val : Int)] from Mx.row_snoc k _)
          generalize ((Mx.sg p (fun j => f k j * x j)).val : Int) = z at *
          clear hdr
          go_wp2_with (at_builtin; refine wpList_push rfl _ _ rfl w.heap.size _ (rowF k (Mx.tov p f x)) z wd.heap.size 1 rfl rfl (HUd.out.new _) (by simp; done) hlen (Nat.le_trans hsz ((Kp.rfl' _).new _).size) ?_; intro v' w' h1 h2 _)
          have HU' := Lib.hid h1
          have HQ' := Lib.hid (own_below (HUd.out.new _) (HQd.out.new _) (Nat.le_trans hsz ((Kp.rfl' _).new _).size) h2)
          clear h1 h2
          go_wp2_with fail
          go_roundw
          case rel => exact ⟨k + 1, by omega, by go_num, by rw [HSN.out]; exact HU'.out, HQ'.out⟩
          case measure => simp [intOf]; omega
    · obtain rfl : k = r := by omega
      obtain ⟨A5, d5, rfl, hl5⟩ := hu.lies
      have HL := Lib.hid hl5
      rw [Mx.len_row]
      clear hu hkq hl5
      go_wp2_with fail
      go_ret
      exact ⟨A5, d5, rfl, HL.out, HQ.out⟩
end Go.Proofs.Ytldkamhknaflbaa

/- Plain facts on polynomials, second part: rows that are changed cell by cell, Euclid's steps, the monic one, and the numbers as the program has them. -/
namespace Go.Proofs.Ytldkamhknaflbaa.Pol
open Fp
set_option linter.unusedVariables false

theorem co_set (p : List F) (k m : Nat) (a : F) (h : k < p.length) : co (p.set k a) m = if m = k then a else co p m := by
  unfold co
  rw [List.getD_eq_getElem?_getD, List.getD_eq_getElem?_getD, List.getElem?_set]
  by_cases e : k = m
  · subst e; simp [h]
  · rw [if_neg e, if_neg (fun h => e h.symm)]

theorem ev_take_more (p : List F) (k : Nat) (x : F) : ev (p.take (k + 1)) x = ev (p.take k) x + co p k * pw x k := by
  rcases Nat.lt_or_ge k p.length with h | h
  · exact ev_take_succ p k h x
  · rw [List.take_of_length_le h, List.take_of_length_le (by omega), co_out p k h]; grind

/-- To R from place i on c times the first j of g are added. -/
def addAt (R : List F) (c : F) (g : List F) (i : Nat) : Nat → List F
  | 0 => R
  | j + 1 => (addAt R c g i j).set (i + j) (co (addAt R c g i j) (i + j) + c * co g j)
theorem len_addAt (R : List F) (c : F) (g : List F) (i j : Nat) : (addAt R c g i j).length = R.length := by
  induction j with
  | zero => rfl
  | succ j ih => rw [addAt, List.length_set, ih]
theorem ev_addAt (R : List F) (c : F) (g : List F) (i j : Nat) (h : i + j ≤ R.length) (x : F) : ev (addAt R c g i j) x = ev R x + c * pw x i * ev (g.take j) x := by
  induction j with
  | zero => rw [addAt, List.take_zero, ev_nil]; grind
  | succ j ih => rw [addAt, ev_set _ _ _ _ (by rw [len_addAt]; omega), ih (by omega), ev_take_more, pw_add]; grind
theorem co_addAt_far (R : List F) (c : F) (g : List F) (i j k : Nat) (h : i + j ≤ R.length) (hk : i + j ≤ k) : co (addAt R c g i j) k = co R k := by
  induction j with
  | zero => rfl
  | succ j ih => rw [addAt, co_set _ _ _ _ (by rw [len_addAt]; omega), if_neg (by omega), ih (by omega) (by omega)]
theorem co_addAt_top (R : List F) (c : F) (g : List F) (i m : Nat) (h : i + m < R.length) : co (addAt R c g i (m + 1)) (i + m) = co R (i + m) + c * co g m := by
  rw [addAt, co_set _ _ _ _ (by rw [len_addAt]; exact h), if_pos rfl, co_addAt_far R c g i m _ (by omega) (Nat.le_refl _)]

/-- The rows of a product, one after another. -/
def mulRows (f g : List F) : Nat → List F
  | 0 => List.replicate (f.length + g.length) 0
  | i + 1 => addAt (mulRows f g i) (co f i) g i g.length
theorem len_mulRows (f g : List F) (i : Nat) : (mulRows f g i).length = f.length + g.length := by
  induction i with
  | zero => rw [mulRows, List.length_replicate]
  | succ i ih => rw [mulRows, len_addAt, ih]
theorem ev_mulRows (f g : List F) (i : Nat) (h : i ≤ f.length) (x : F) : ev (mulRows f g i) x = ev (f.take i) x * ev g x := by
  induction i with
  | zero => rw [mulRows, ev_zeros, List.take_zero, ev_nil]; grind
  | succ i ih => rw [mulRows, ev_addAt _ _ _ _ _ (by rw [len_mulRows]; omega), List.take_length, ih (by omega), ev_take_more]; grind

/-- The sum, without noughts at its end. -/
def add (f g : List F) : List F := trim (padd f g)
/-- The product, without noughts at its end. -/
def mul (f g : List F) : List F := trim (pmul f g)
theorem ev_add (f g : List F) (x : F) : ev (add f g) x = ev f x + ev g x := by rw [add, ev_trim, ev_padd]
theorem ev_mul (f g : List F) (x : F) : ev (mul f g) x = ev f x * ev g x := by rw [mul, ev_trim, ev_pmul]
theorem tr_add (f g : List F) : Tr (add f g) := tr_trim _
theorem tr_mul (f g : List F) : Tr (mul f g) := tr_trim _
theorem len_add (f g : List F) : (add f g).length ≤ max f.length g.length := Nat.le_trans (len_trim _) (Nat.le_of_eq (len_padd _ _))
theorem len_mul (f g : List F) : (mul f g).length ≤ f.length + g.length := Nat.le_trans (len_trim _) (len_pmul_le _ _)
theorem len_mul' (f g : List F) (h : f.length + g.length ≤ 9973) : (mul f g).length ≤ f.length + g.length - 1 := by
  by_cases h1 : f = []
  · subst h1; rw [mul, pmul, trim_nil]; simp
  · by_cases h2 : g = []
    · have : mul f g = [] := zero_of _ (tr_mul f g) (Nat.le_trans (len_mul f g) h) fun x => by rw [ev_mul, h2, ev_nil]; grind
      rw [this]; simp
    · have := len_pmul f g h1 h2
      have := len_trim (pmul f g)
      rw [mul]; omega
theorem is_add (f g r : List F) (lf : f.length ≤ 1000) (lg : g.length ≤ 1000) (lr : r.length ≤ 1000) (h : ∀ x, ev r x = ev f x + ev g x) : trim r = add f g := by
  have := len_add f g
  have := len_trim r
  exact same _ _ (tr_trim r) (tr_add f g) (by omega) (by omega) fun x => by rw [ev_trim, h, ev_add]
theorem is_mul (f g r : List F) (lf : f.length ≤ 1000) (lg : g.length ≤ 1000) (lr : r.length ≤ 2000) (h : ∀ x, ev r x = ev f x * ev g x) : trim r = mul f g := by
  have := len_mul f g
  have := len_trim r
  exact same _ _ (tr_trim r) (tr_mul f g) (by omega) (by omega) fun x => by rw [ev_trim, h, ev_mul]
theorem rows_mul (f g : List F) (lf : f.length ≤ 1000) (lg : g.length ≤ 1000) : trim (mulRows f g f.length) = mul f g :=
  is_mul f g _ lf lg (by rw [len_mulRows]; omega) fun x => by rw [ev_mulRows f g _ (Nat.le_refl _), List.take_length]
/-- The sum's row: f, noughts behind it, g added. -/
theorem row_add (f g : List F) (lf : f.length ≤ 1000) (lg : g.length ≤ 1000) :
    trim (addAt (f ++ List.replicate (max f.length g.length - f.length) 0) 1 g 0 g.length) = add f g :=
  is_add f g _ lf lg (by rw [len_addAt, List.length_append, List.length_replicate]; omega) fun x => by
    rw [ev_addAt _ _ _ _ _ (by rw [List.length_append, List.length_replicate]; omega), ev_append, ev_zeros, List.take_length, pw_zero]; grind

theorem mul_of (f g : List F) (lf : f.length ≤ 1000) (lg : g.length ≤ 1000) (h : trim g ≠ []) : mul f g = pmul (trim f) (trim g) := by
  have := len_mul f g
  have := len_trim f
  have := len_trim g
  have := len_pmul_le (trim f) (trim g)
  exact same _ _ (tr_mul f g) (tr_pmul _ _ (tr_trim f) (tr_trim g) h) (by omega) (by omega) fun x => by rw [ev_mul, ev_pmul, ev_trim, ev_trim]

/-- EUCLID's steps: from f and g they come to c. -/
inductive Gc : List F → List F → List F → Prop
  | done (f : List F) : Gc f [] f
  | step {f g q r c : List F} (d : Dv f g q r) (h : Gc g r c) : Gc f g c

theorem Dv.ne {f g q r : List F} (h : Dv f g q r) : g ≠ [] := fun e => by
  have := h.lt
  rw [e] at this; simp at this

theorem Gc.one {f g c : List F} (h : Gc f g c) : ∀ {c' : List F}, Tr g → f.length ≤ 1000 → g.length ≤ 1000 → Gc f g c' → c = c' := by
  induction h with
  | done f =>
    intro c' _ _ _ h'
    cases h' with
    | done => rfl
    | step d _ => exact absurd rfl d.ne
  | step d h ih =>
    intro c' hg lf lg h'
    cases h' with
    | done => exact absurd rfl d.ne
    | step d' h' =>
      obtain ⟨rfl, rfl⟩ := d.one hg lf lg d'
      have := d.lt
      exact ih d.tr lg (by omega) h'

theorem Gc.facts {f g c : List F} (h : Gc f g c) : Tr f → Tr g → f.length ≤ 1000 → g.length ≤ 1000 → Tr c ∧ c.length ≤ 1000 ∧ (c = [] ↔ f = [] ∧ g = []) ∧
    ∃ a b, Tr a ∧ Tr b ∧ a.length ≤ f.length ∧ b.length ≤ g.length ∧ (∀ x, ev f x = ev c x * ev a x) ∧ (∀ x, ev g x = ev c x * ev b x) := by
  induction h with
  | done f =>
    intro hf _ lf _
    refine ⟨hf, lf, ⟨fun h => ⟨h, rfl⟩, fun h => h.1⟩, ?_⟩
    by_cases h0 : f = []
    · subst h0
      exact ⟨[], [], tr_nil, tr_nil, Nat.le_refl _, Nat.le_refl _, fun x => by rw [ev_nil]; grind, fun x => by rw [ev_nil]; grind⟩
    · have := List.length_pos_iff.2 h0
      exact ⟨[1], [], fun _ => by simp [co], tr_nil, by simp; omega, Nat.le_refl _, fun x => by rw [ev_one]; grind, fun x => by rw [ev_nil]; grind⟩
  | @step f g q r c d h ih =>
    intro hf hg lf lg
    have hlt := d.lt
    have hlq := d.lq
    obtain ⟨tc, lc, hz, a, b, ta, tb, la, lb, ea, eb⟩ := ih hg d.tr lg (by omega)
    have c0 : c ≠ [] := fun e => d.ne (hz.1 e).1
    refine ⟨tc, lc, ⟨fun e => absurd e c0, fun e => absurd e.2 d.ne⟩, trim (padd (pmul a q) b), a, tr_trim _, ta, ?_, la, fun x => ?_, ea⟩
    · by_cases z : trim (padd (pmul a q) b) = []
      · rw [z]; simp
      · have e1 := len_trim (padd (pmul a q) b)
        rw [len_padd] at e1
        have e2 := len_pmul_le a q
        have e := prod_len c _ f tc (tr_trim _) hf c0 z (by omega) (by omega) fun x => by
          rw [ev_trim, ev_padd, ev_pmul, d.eq, ea, eb]; grind
        have l := len_pmul c _ c0 z
        rw [← e] at l
        have := List.length_pos_iff.2 c0
        omega
    · rw [ev_trim, ev_padd, ev_pmul, d.eq, ea, eb]; grind

theorem Dv.scale {f g q r h : List F} (d : Dv f g q r) (hh : Tr h) (h0 : h ≠ []) : Dv (pmul f h) (pmul g h) q (pmul r h) := by
  have g0 := d.ne
  have lg := len_pmul g h g0 h0
  have lh := List.length_pos_iff.2 h0
  have lgp := List.length_pos_iff.2 g0
  have hlt := d.lt
  have hlq := d.lq
  refine ⟨d.tq, tr_pmul r h d.tr hh h0, ?_, ?_, fun x => by rw [ev_pmul, ev_pmul, ev_pmul, d.eq]; grind⟩
  · by_cases r0 : r = []
    · rw [r0, pmul]; simp; omega
    · have := len_pmul r h r0 h0; omega
  · by_cases f0 : f = []
    · rw [f0] at hlq; simp at hlq; rw [hlq]; simp
    · have := len_pmul f h f0 h0; omega
theorem Gc.scale {f g c h : List F} (d : Gc f g c) (hh : Tr h) (h0 : h ≠ []) : Gc (pmul f h) (pmul g h) (pmul c h) := by
  induction d with
  | done f => exact .done _
  | step d _ ih => exact .step (d.scale hh h0) ih

theorem swap (a b i : F) (h : i * (a * b) = 1) : (i * b) * a = 1 := by rw [Fin.mul_assoc, Fin.mul_comm b, h]
theorem cancel (a b i : F) (h : i * b = 1) : a + -(a * i) * b = 0 := by
  have : (a * i) * b = a := by rw [Fin.mul_assoc, h, Fin.mul_one]
  have e : -(a * i) * b = -((a * i) * b) := by grind
  rw [e, this]; grind
/-- The greatest factor. -/
def top (p : List F) : F := co p (p.length - 1)
theorem top_ne {p : List F} (h : Tr p) (h0 : p ≠ []) : top p ≠ 0 := h h0
/-- Made monic. -/
def mon (p : List F) : List F := times (inv (top p)) p
theorem mon_nil : mon [] = [] := rfl
theorem len_mon (p : List F) : (mon p).length = p.length := len_times _ _
theorem mon_ne {p : List F} (h0 : p ≠ []) : mon p ≠ [] := fun e => h0 (List.eq_nil_of_length_eq_zero (by rw [← len_mon, e]; rfl))
theorem ev_mon (p : List F) (x : F) : ev (mon p) x = inv (top p) * ev p x := ev_times _ _ _
theorem top_mon {p : List F} (h : Tr p) (h0 : p ≠ []) : top (mon p) = 1 := by
  rw [top, len_mon, mon, co_times]
  exact inv_mul (top_ne h h0)
theorem tr_mon {p : List F} (h : Tr p) : Tr (mon p) := fun h1 => by
  have h0 : p ≠ [] := fun e => h1 (by rw [e]; rfl)
  have := top_mon h h0
  rw [top] at this
  rw [this]; exact one_ne
theorem inv_ne {a : F} (h : a ≠ 0) : inv a ≠ 0 := fun e => by
  have := inv_mul h
  rw [e] at this
  exact one_ne (by rw [← this]; grind)
theorem tr_times {c : F} {p : List F} (hc : c ≠ 0) (h : Tr p) : Tr (times c p) := fun h1 => by
  have h0 : p ≠ [] := fun e => h1 (by rw [e]; rfl)
  rw [len_times, co_times]
  intro e
  rcases mul_zero_or e with e | e
  · exact hc e
  · exact h h0 e

/-- What is divided by its greatest factor alone. -/
theorem mon_dv {p q r : List F} (h : Tr p) (h0 : p ≠ []) (lp : p.length ≤ 1000) (d : Dv p [top p] q r) : q = mon p := by
  have t := top_ne h h0
  have t1 : Tr [top p] := fun _ => t
  refine (d.one t1 lp (by simp) ⟨tr_mon h, tr_nil, by simp, by rw [len_mon]; exact Nat.le_refl _, fun x => ?_⟩).1
  rw [ev_one, ev_mon, ev_nil]
  have := mul_inv t
  grind

/-- c divides f, and so does it made monic. -/
theorem mon_divides {f c a : List F} (hc : Tr c) (h0 : c ≠ []) (ha : Tr a) (la : a.length ≤ f.length) (h : ∀ x, ev f x = ev c x * ev a x) : Dv f (mon c) (times (top c) a) [] := by
  have t := top_ne hc h0
  have := List.length_pos_iff.2 h0
  refine ⟨tr_times t ha, tr_nil, by rw [len_mon]; simpa using this, by rw [len_times]; exact la, fun x => ?_⟩
  rw [ev_mon, ev_times, ev_nil, h]
  have := inv_mul t
  grind

theorem top_pmul {p q : List F} (h1 : p ≠ []) (h2 : q ≠ []) : top (pmul p q) = top p * top q := by
  have l1 := List.length_pos_iff.2 h1
  have l2 := List.length_pos_iff.2 h2
  have e := len_pmul p q h1 h2
  rw [top, show (pmul p q).length - 1 = (p.length - 1) + (q.length - 1) by omega]
  exact co_pmul p q _ _ (by omega) (by omega)

/-- The monic divisor so many times, by the monic divisor of what is so many times: a number. -/
theorem mon_scale {c h : List F} (hc : Tr c) (hh : Tr h) (c0 : c ≠ []) (h0 : h ≠ []) : Dv (pmul (mon c) h) (mon (pmul c h)) [top h] [] := by
  have tc := top_ne hc c0
  have th := top_ne hh h0
  have l := List.length_pos_iff.2 (pmul_ne c h c0 h0)
  have l2 := List.length_pos_iff.2 (pmul_ne (mon c) h (mon_ne c0) h0)
  refine ⟨fun _ => th, tr_nil, by rw [len_mon]; simpa using l, by simp; omega, fun x => ?_⟩
  rw [ev_pmul, ev_mon, ev_mon, ev_pmul, ev_one, ev_nil, top_pmul c0 h0]
  have e1 := inv_mul tc
  have e2 := inv_mul th
  have e3 : inv (top c * top h) * (top c * top h) = 1 := inv_mul fun e => by
    rcases mul_zero_or e with e | e
    · exact tc e
    · exact th e
  have e4 : inv (top c * top h) * top h = inv (top c) := by
    have : (inv (top c * top h) * top h) * top c = inv (top c) * top c := by rw [e1]; exact swap _ _ _ e3
    exact mul_cancel tc this
  rw [← e4]; grind

/-- The same one, so many times and shifted, added: as the document's answer does it. -/
def shift (t : F) (up : Nat) (g : List F) : List F := List.replicate up 0 ++ times t g
theorem ev_shift (t : F) (up : Nat) (g : List F) (x : F) : ev (shift t up g) x = t * pw x up * ev g x := by
  rw [shift, ev_append, ev_zeros, ev_times, List.length_replicate]; grind
theorem len_shift (t : F) (up : Nat) (g : List F) : (shift t up g).length = up + g.length := by rw [shift, List.length_append, List.length_replicate, len_times]
theorem co_shift_low (t : F) (up : Nat) (g : List F) (k : Nat) (h : k < up) : co (shift t up g) k = 0 := by
  rw [shift, co, List.getD_eq_getElem?_getD, List.getElem?_append_left (by simpa using h)]
  simp [h]
theorem co_shift (t : F) (up : Nat) (g : List F) (k : Nat) (h : up ≤ k) : co (shift t up g) k = t * co g (k - up) := by
  rw [← co_times, shift, co, List.getD_eq_getElem?_getD, List.getElem?_append_right (by simpa using h), List.length_replicate, co, List.getD_eq_getElem?_getD]
def plus (f g : List F) (t : F) (up : Nat) : List F := trim (padd f (shift t up g))
theorem ev_plus (f g : List F) (t : F) (up : Nat) (x : F) : ev (plus f g t up) x = ev f x + t * pw x up * ev g x := by rw [plus, ev_trim, ev_padd, ev_shift]
theorem tr_plus (f g : List F) (t : F) (up : Nat) : Tr (plus f g t up) := tr_trim _
theorem len_plus (f g : List F) (t : F) (up : Nat) : (plus f g t up).length ≤ max f.length (up + g.length) := by
  have := len_trim (padd f (shift t up g))
  rw [len_padd, len_shift] at this
  exact this
/-- The row of the first k of a sum. -/
def plusRow (f g : List F) (t : F) (up : Nat) : Nat → List F
  | 0 => []
  | k + 1 => plusRow f g t up k ++ [co f k + co (shift t up g) k]
theorem len_plusRow (f g : List F) (t : F) (up k : Nat) : (plusRow f g t up k).length = k := by
  induction k with
  | zero => rfl
  | succ k ih => rw [plusRow, List.length_append, ih]; rfl
theorem ev_plusRow (f g : List F) (t : F) (up k : Nat) (x : F) : ev (plusRow f g t up k) x = ev (f.take k) x + ev ((shift t up g).take k) x := by
  induction k with
  | zero => rw [plusRow, List.take_zero, List.take_zero, ev_nil]; grind
  | succ k ih => rw [plusRow, ev_snoc, len_plusRow, ih, ev_take_more, ev_take_more]; grind
theorem row_plus (f g : List F) (t : F) (up k : Nat) (h1 : f.length ≤ k) (h2 : up + g.length ≤ k) (hk : k ≤ 1000) : trim (plusRow f g t up k) = plus f g t up := by
  have := len_trim (plusRow f g t up k)
  have e := len_plusRow f g t up k
  have := len_plus f g t up
  refine same _ _ (tr_trim _) (tr_plus f g t up) (by omega) (by omega) fun x => ?_
  rw [ev_trim, ev_plusRow, ev_plus, List.take_of_length_le h1, List.take_of_length_le (by rw [len_shift]; exact h2), ev_shift]

/-- One step of dividing takes the greatest factor away. -/
theorem plus_less (f g : List F) (hf : f ≠ []) (hg : Tr g) (g0 : g ≠ []) (hl : g.length ≤ f.length) :
    (plus f g (-(top f * inv (top g))) (f.length - g.length)).length < f.length := by
  have l1 := List.length_pos_iff.2 hf
  have l2 := List.length_pos_iff.2 g0
  have t := top_ne hg g0
  have : (plus f g (-(top f * inv (top g))) (f.length - g.length)).length ≤ f.length - 1 := trim_short _ _ fun k hk => by
    rw [co_padd, co_shift _ _ _ _ (by omega)]
    by_cases e : k = f.length - 1
    · have e2 : k - (f.length - g.length) = g.length - 1 := by omega
      have e3 : co f k = top f := by rw [e]; rfl
      have e4 : co g (g.length - 1) = top g := rfl
      rw [e2, e3, e4]
      exact cancel _ _ _ (inv_mul t)
    · rw [co_out f k (by omega), co_out g _ (by omega), Fin.mul_zero, Fin.add_zero]
  omega

/-- The numbers of a row as the program has them. -/
def vals (p : List F) : List Int := p.map fun a => (a.val : Int)
theorem len_vals (p : List F) : (vals p).length = p.length := List.length_map ..
theorem vals_at (p : List F) (k : Nat) : (vals p).getD k 0 = ((co p k).val : Int) := by
  unfold vals co
  rw [List.getD_eq_getElem?_getD, List.getD_eq_getElem?_getD, List.getElem?_map]
  cases p[k]? <;> rfl
theorem vals_set (p : List F) (k : Nat) (a : F) : vals (p.set k a) = (vals p).set k (a.val : Int) := List.map_set ..
theorem vals_take (p : List F) (k : Nat) : vals (p.take k) = (vals p).take k := List.map_take ..
theorem vals_append (p q : List F) : vals (p ++ q) = vals p ++ vals q := List.map_append ..
theorem vals_inj {p q : List F} (h : vals p = vals q) : p = q := by
  refine list_ext p q (by rw [← len_vals p, h, len_vals]) fun k => ?_
  have := vals_at p k
  rw [h, vals_at] at this
  exact (val_inj this).symm
theorem vals_zeros (n : Nat) : vals (List.replicate n 0) = List.replicate n 0 := List.map_replicate ..

/-- What is wrong with a row of numbers, as a number. -/
def code (l : List Int) : Nat := if 12 < l.length then 4 else if ∀ n ∈ l, 0 ≤ n ∧ n ≤ 9972 then 0 else 1
theorem code_zero {l : List Int} (h : code l = 0) : ∃ p : List F, l = vals p ∧ p.length ≤ 12 := by
  unfold code at h
  split at h
  · cases h
  · split at h
    · rename_i h1 h2
      refine ⟨l.map ofInt, ?_, by simpa using h1⟩
      unfold vals
      rw [List.map_map]
      conv => lhs; rw [← List.map_id l]
      exact List.map_congr_left fun n hn => (ofInt_of n (h2 n hn).1 (h2 n hn).2).symm
    · cases h
theorem code_vals (p : List F) (h : p.length ≤ 12) : code (vals p) = 0 := by
  unfold code
  rw [if_neg (by rw [len_vals]; omega), if_pos]
  intro n hn
  obtain ⟨a, _, rfl⟩ := List.mem_map.1 hn
  exact val_bound a
theorem code_some (l : List Int) : code l = 0 ∨ code l = 1 ∨ code l = 4 := by
  unfold code
  split
  · exact .inr (.inr rfl)
  · split
    · exact .inl rfl
    · exact .inr (.inl rfl)
theorem code_full {l : List Int} (h : 12 < l.length) : code l = 4 := by unfold code; rw [if_pos h]
theorem code_range {l : List Int} (h : ¬ 12 < l.length) {k : Nat} (hk : k < l.length) (hn : ¬ (0 ≤ l.getD k 0 ∧ l.getD k 0 ≤ 9972)) : code l = 1 := by
  unfold code
  rw [if_neg h, if_neg]
  intro f
  refine hn ?_
  rw [List.getD_eq_getElem?_getD, List.getElem?_eq_getElem hk]
  exact f _ (List.getElem_mem _)
theorem code_ok {l : List Int} (h : ¬ 12 < l.length) (hn : ∀ k, k < l.length → 0 ≤ l.getD k 0 ∧ l.getD k 0 ≤ 9972) : code l = 0 := by
  unfold code
  rw [if_neg h, if_pos]
  intro n hm
  obtain ⟨k, hk, rfl⟩ := List.mem_iff_getElem.1 hm
  have := hn k hk
  rwa [List.getD_eq_getElem?_getD, List.getElem?_eq_getElem hk] at this
theorem code_zero_iff (l : List Int) : code l = 0 ↔ l.length ≤ 12 ∧ ∀ k, k < l.length → 0 ≤ l.getD k 0 ∧ l.getD k 0 ≤ 9972 := by
  constructor
  · intro h
    obtain ⟨p, rfl, hp⟩ := code_zero h
    refine ⟨by rw [len_vals]; exact hp, fun k _ => ?_⟩
    rw [vals_at]; exact val_bound _
  · rintro ⟨h1, h2⟩
    exact code_ok (by omega) h2

/-- The error of two rows, as a number. -/
def code2 (l m : List Int) : Nat := if code l = 0 then code m else code l
theorem code2_zero {l m : List Int} (h : code2 l m = 0) : code l = 0 ∧ code m = 0 := by
  unfold code2 at h
  split at h
  · exact ⟨by assumption, h⟩
  · contradiction

/-- Sums and products as the program has them. -/
theorem val_madd (s a b : F) : ((s.val : Int) + (a.val : Int) * (b.val : Int)) % 9973 = ((s + a * b).val : Int) := by
  rw [add_val, mul_val, Int.add_emod_emod]
theorem val_msub (s t c : F) : ((s.val : Int) + (9973 - (t.val : Int)) * (c.val : Int)) % 9973 = ((s + -t * c).val : Int) := by
  have e : ofInt (9973 - (t.val : Int)) = -t := by
    have : ofInt (9973 - (t.val : Int)) + ofInt (t.val : Int) = 0 := by
      rw [← ofInt_add, show 9973 - (t.val : Int) + (t.val : Int) = 9973 by omega]; rfl
    rw [ofInt_self] at this; grind
  have h := ofInt_val ((s.val : Int) + (9973 - (t.val : Int)) * (c.val : Int))
  rw [ofInt_add, ofInt_mul, e, ofInt_self, ofInt_self] at h
  exact h.symm
theorem val_horner (v x a : F) : ((v.val : Int) * (x.val : Int) + (a.val : Int)) % 9973 = ((a + x * v).val : Int) := by
  rw [add_val, mul_val, Int.add_emod_emod]
  congr 1
  rw [Int.mul_comm (x.val : Int)]; omega

end Go.Proofs.Ytldkamhknaflbaa.Pol

/- Contracts of package poly, first part: a row of memory of the call's own, Check, checkBoth, trimmed. -/
namespace Go.Proofs.Ytldkamhknaflbaa
open Go.ChangeShapes Go.WideShapes Go.ChangeAt Go.RowKit
set_option linter.unusedVariables false

theorem check_full (A : Option Addr) (l : List Int) (c : Nat) (w : World) (h : 12 < l.length) :
    Calls Try.prog 28 #[.slice A l.length c] w fun e w' => e = .returned (errOf (Pol.code l)) ∧ w = w' := by
  rw [Pol.code_full h]
  generalize l.length = n at *
  have h' : (12 : Int) < n := by omega
  go_enter Try.func28, Try.ntmps28
  go_wp2
  go_ret
  exact ⟨rfl, rfl⟩

set_option maxHeartbeats 800000 in
theorem check_few (A : Option Addr) (l : List Int) (c : Nat) (w : World) (hl : Lies w A l) (hn : ¬ 12 < l.length) :
    Calls Try.prog 28 #[.slice A l.length c] w fun e w' => e = .returned (errOf (Pol.code l)) ∧ w = w' := by
  have HL := Lib.hid hl
  have BAD := Lib.hid (fun k hk h => Pol.code_range hn (k := k) hk h)
  have OK := Lib.hid (Pol.code_ok hn)
  obtain ⟨n, hn'⟩ : ∃ n, n = l.length := ⟨_, rfl⟩
  rw [← hn'] at hn ⊢
  rw [← hn'] at BAD OK
  have HN := Lib.hid hn'
  have h' : ¬ (12 : Int) < n := by omega
  obtain ⟨v, hv⟩ : ∃ v, v = Pol.code l := ⟨_, rfl⟩
  rw [← hv] at BAD OK ⊢
  clear hl hn' hv
  go_enter Try.func28, Try.ntmps28
  go_wp2_with fail
  go_loop [11] (fun i => ∃ k : Nat, k ≤ n ∧ i = .int .i64 (k : Int) ∧ ∀ j, j < k → 0 ≤ l.getD j 0 ∧ l.getD j 0 ≤ 9972) (fun i => n - (intOf i).toNat)
  case atStart => exact ⟨0, Nat.zero_le _, rfl, fun j hj => absurd hj (by omega)⟩
  case round =>
    obtain ⟨k, hk, rfl, hg⟩ := hrel
    have HG := Lib.hid hg
    clear hg
    by_cases hlt : k < n
    · obtain ⟨ad, rfl, _, hc⟩ := HL.out k (by have := HN.out; omega)
      obtain ⟨m, hm⟩ : ∃ m, m = l.getD k 0 := ⟨_, rfl⟩
      rw [← hm] at hc
      by_cases h0 : m < 0
      · have E := Lib.hid (BAD.out k hlt (by rw [← hm]; omega))
        clear hm
        go_wp2_with fail
        go_ret
        exact ⟨by rw [E.out]; rfl, rfl⟩
      · by_cases h1 : m ≤ 9972
        · have GG := Lib.hid (show ∀ j, j < k + 1 → 0 ≤ l.getD j 0 ∧ l.getD j 0 ≤ 9972 from fun j hj => by
            by_cases e : j = k
            · subst e; rw [← hm]; omega
            · exact HG.out j (by omega))
          clear hm
          go_wp2_with fail
          go_round
          case rel => exact ⟨k + 1, by omega, by go_num, GG.out⟩
          case measure => simp [intOf]; omega
        · have E := Lib.hid (BAD.out k hlt (by rw [← hm]; omega))
          clear hm
          go_wp2_with fail
          go_ret
          exact ⟨by rw [E.out]; rfl, rfl⟩
    · have E := Lib.hid (OK.out fun j hj => HG.out j (by omega))
      go_wp2_with fail
      go_ret
      exact ⟨by rw [E.out]; rfl, rfl⟩

theorem check_any (A : Option Addr) (l : List Int) (c : Nat) (w : World) (hl : Lies w A l) :
    Calls Try.prog 28 #[.slice A l.length c] w fun e w' => e = .returned (errOf (Pol.code l)) ∧ w = w' := by
  by_cases h : 12 < l.length
  · exact check_full A l c w h
  · exact check_few A l c w hl h

theorem pcheckBoth_any (A B : Option Addr) (l m : List Int) (c d : Nat) (w : World) (ha : Lies w A l) (hb : Lies w B m) :
    Calls Try.prog 45 #[.slice A l.length c, .slice B m.length d] w fun e w' => e = .returned (errOf (Pol.code2 l m)) ∧ w = w' := by
  have CA := Lib.hid (check_any A l c w ha)
  have CB := Lib.hid (check_any B m d w hb)
  unfold Pol.code2
  have hs := Pol.code_some l
  generalize Pol.code l = x at *
  generalize Pol.code m = y at *
  generalize l.length = n at *
  generalize m.length = q at *
  clear ha hb
  rcases hs with rfl | rfl | rfl
  · go_enter Try.func45, Try.ntmps45
    go_wp2_with fail
    refine (CA.out).mono ?_; rintro e w' ⟨rfl, rfl⟩
    rw [show errOf 0 = .nilIface from rfl]
    go_wp2_with fail
    refine (CB.out).mono ?_; rintro e w' ⟨rfl, rfl⟩
    go_wp2_with fail
    go_ret
    exact ⟨rfl, rfl⟩
  · go_enter Try.func45, Try.ntmps45
    go_wp2_with fail
    refine (CA.out).mono ?_; rintro e w' ⟨rfl, rfl⟩
    rw [show errOf 1 = .iface 56 (.int .i64 1) from rfl]
    go_wp2_with fail
    go_ret
    exact ⟨rfl, rfl⟩
  · go_enter Try.func45, Try.ntmps45
    go_wp2_with fail
    refine (CA.out).mono ?_; rintro e w' ⟨rfl, rfl⟩
    rw [show errOf 4 = .iface 56 (.int .i64 4) from rfl]
    go_wp2_with fail
    go_ret
    exact ⟨rfl, rfl⟩

/-- How long a slice is. -/
def sliceLen : Value → Nat
  | .slice _ n _ => n
  | _ => 0

theorem trim_step0 (p : List Fp.F) (k : Nat) (hk : k < p.length) (h : Pol.co p k = 0) : Pol.trim (p.take (k + 1)) = Pol.trim (p.take k) := by
  rw [Pol.take_succ p k hk, h, Pol.trim_zero]

theorem trimmed_any (A : Option Addr) (p : List Fp.F) (c : Nat) (w : World) (hl : Lies w A (Pol.vals p)) (hc : p.length ≤ c) (hn : p.length ≤ 1000000) :
    Calls Try.prog 46 #[.slice A p.length c] w fun e w' => e = .returned (.slice A (Pol.trim p).length c) ∧ w = w' := by
  have HL := Lib.hid hl
  obtain ⟨n, hn'⟩ : ∃ n, n = p.length := ⟨_, rfl⟩
  rw [← hn'] at hn hc ⊢
  have HN := Lib.hid hn'
  clear hl hn'
  go_enter Try.func46, Try.ntmps46
  go_wp2_with fail
  go_loop [0] (fun v => ∃ k : Nat, k ≤ n ∧ v = .slice A k c ∧ Pol.trim (p.take k) = Pol.trim p) (fun v => sliceLen v)
  case atStart => exact ⟨n, Nat.le_refl _, rfl, by rw [HN.out, List.take_length]⟩
  case round =>
    obtain ⟨k, hk, rfl, ht⟩ := hrel
    have HT := Lib.hid ht
    clear ht
    cases k with
    | zero =>
      have E := Lib.hid (show Pol.trim p = [] by rw [← HT.out]; rfl)
      go_wp2_with fail
      go_ret
      exact ⟨by rw [E.out]; rfl, rfl⟩
    | succ k =>
      obtain ⟨ad, rfl, _, hcell⟩ := HL.out k (by rw [Pol.len_vals, ← HN.out]; omega)
      rw [Pol.vals_at] at hcell
      by_cases h0 : Pol.co p k = 0
      · have e0 : (((Pol.co p k).val : Int) == 0) = true := by rw [h0]; rfl
        have ST := Lib.hid (trim_step0 p k (by have := HN.out; omega) h0)
        generalize ((Pol.co p k).val : Int) = m at *
        clear h0
        go_wp2_with fail
        go_round
        case rel => exact ⟨k, by omega, rfl, by rw [← ST.out]; exact HT.out⟩
        case measure => simp [sliceLen]
      · have e0 : (((Pol.co p k).val : Int) == 0) = false := by rw [beq_eq_false_iff_ne]; intro e; exact h0 (Fp.val_inj e)
        have E := Lib.hid (show Pol.trim p = p.take (k + 1) by rw [← HT.out, Pol.take_succ p k (by have := HN.out; omega), Pol.trim_not _ _ h0])
        have E2 := Lib.hid (show (p.take (k + 1)).length = k + 1 by rw [List.length_take]; have := HN.out; omega)
        generalize ((Pol.co p k).val : Int) = m at *
        clear h0
        go_wp2_with fail
        go_ret
        exact ⟨by rw [E.out, E2.out]; rfl, rfl⟩

end Go.Proofs.Ytldkamhknaflbaa

/- Contracts of package poly, second part: Add and Mul. -/
namespace Go.Proofs.Ytldkamhknaflbaa
open Go.ChangeShapes Go.WideShapes Go.ChangeAt Go.RowKit
set_option linter.unusedVariables false

/-- The answer is a row of factors, and no error. -/
def Gives (l : List Fp.F) (w : World) (e : Ending) (w' : World) : Prop :=
  ∃ A c, e = .returned (.tuple #[.slice A l.length c, .nilIface]) ∧ Lies w' A (Pol.vals l) ∧ l.length ≤ c ∧ Kp w w'
/-- The answer is an error, and nothing else. -/
def Fails (c : Nat) (w : World) (e : Ending) (w' : World) : Prop := e = .returned (.tuple #[.slice none 0 0, errOf c]) ∧ Kp w w'

theorem Row.trim {w : World} {g : Nat} {R : List Fp.F} (h : Row w g (Pol.vals R)) : Lies w (some ⟨g, 0, none⟩) (Pol.vals (Pol.trim R)) := by
  rw [Pol.trim_take, Pol.vals_take]; exact h.lies.take _

set_option maxRecDepth 100000 in
/-- copy(row, l): a row of noughts just made, and a slice that is no longer. -/
theorem copy_run (w1 : World) (g N n c : Nat) (A : Option Addr) (p : List Fp.F) (ty : TypeId) (hr : Row w1 g (Pol.vals (List.replicate N 0))) (hl : Lies w1 A (Pol.vals p)) (hn : n = p.length) (hN : n ≤ N) :
    ∃ w2, (Builtin.copy_ #[22, 22] ty #[.slice (some ⟨g, 0, none⟩) N N, .slice A n c]).run Try.prog w1 = .ok (goInt n) w2 ∧
      Row w2 g (Pol.vals (p ++ List.replicate (N - n) 0)) ∧ ∀ B w0, Below B w0 w1 → B ≤ g → Below B w0 w2 := by
  obtain ⟨i0, hi, hz0, hz1, hz2⟩ := info_parts int_info
  have hsz : (Try.prog.info? 3).map (·.size) = some 1 := by rw [hi]; simp [hz1]
  subst hn
  by_cases h0 : p.length = 0
  · obtain rfl : p = [] := List.eq_nil_of_length_eq_zero h0
    exact ⟨w1, run_copy_none w1 _ _ ty 3 _ A N N 0 c Try.underlying22 hsz (by simp), by simpa using hr, fun _ _ h _ => h⟩
  · obtain ⟨ad, rfl, _, _⟩ := hl 0 (by rw [Pol.len_vals]; omega)
    have hlen : (ints (Pol.vals p)).length = p.length := by rw [ints, List.length_map, Pol.len_vals]
    have hrun := run_copy_row (P := Try.prog) w1 22 22 ty 3 g 0 N N ad p.length c _ 3 (ints (Pol.vals p)) Try.underlying22 hsz hr (by rw [hlen]; exact (Nat.min_eq_left hN).symm)
      (fun j v hj => by
        have hj' : j < (Pol.vals p).length := by
          rcases Nat.lt_or_ge j (Pol.vals p).length with hlt | hge
          · exact hlt
          · rw [List.getElem?_eq_none (by simpa using hge)] at hj; cases hj
        obtain ⟨ad', e, _, hc⟩ := hl j hj'
        injection e with e
        subst e
        rw [hc, ← hj]
        simp [hj']) (by rw [hlen]; simp [Pol.len_vals]; omega) (fun v hv => by simp at hv; obtain ⟨y, _, rfl⟩ := hv; rfl)
    rw [hlen] at hrun
    refine ⟨_, hrun, ?_, fun B w0 hb hB => below_setRow hb hB _⟩
    unfold Row
    rw [setRow_heap w1 g _ _ 3 (0, 0) hr]
    congr 3
    rw [Pol.vals_append, ints, ints, ints, List.map_append]
    simp [Pol.vals]

theorem code2_ok (p q : List Fp.F) (hp : p.length ≤ 12) (hq : q.length ≤ 12) : Pol.code2 (Pol.vals p) (Pol.vals q) = 0 := by
  unfold Pol.code2
  rw [if_pos (Pol.code_vals p hp), Pol.code_vals q hq]
theorem checkBoth_ok (A B : Option Addr) (p q : List Fp.F) (c d : Nat) (w : World) (ha : Lies w A (Pol.vals p)) (hb : Lies w B (Pol.vals q)) (hp : p.length ≤ 12) (hq : q.length ≤ 12) :
    Calls Try.prog 45 #[.slice A p.length c, .slice B q.length d] w fun e w' => e = .returned .nilIface ∧ w = w' := by
  have h := pcheckBoth_any A B (Pol.vals p) (Pol.vals q) c d w ha hb
  rw [Pol.len_vals, Pol.len_vals, code2_ok p q hp hq] at h
  exact h
theorem code2_some (l m : List Int) (h : Pol.code2 l m ≠ 0) : Pol.code2 l m = 1 ∨ Pol.code2 l m = 4 := by
  unfold Pol.code2 at *
  have h1 := Pol.code_some l
  have h2 := Pol.code_some m
  split <;> simp_all

set_option maxRecDepth 100000 in
theorem add_bad (A B : Option Addr) (l m : List Int) (c d : Nat) (w : World) (ha : Lies w A l) (hb : Lies w B m)
    (h : Pol.code2 l m ≠ 0) :
    Calls Try.prog 32 #[.slice A l.length c, .slice B m.length d] w fun e w' => Fails (Pol.code2 l m) w e w' := by
  have C := Lib.hid (pcheckBoth_any A B l m c d w ha hb)
  have hs := code2_some l m h
  clear h ha hb
  generalize Pol.code2 l m = x at *
  generalize l.length = n at *
  generalize m.length = q at *
  rcases hs with rfl | rfl
  · go_enter Try.func32, Try.ntmps32
    go_wp2_with fail
    refine (C.out).mono ?_; rintro e w' ⟨rfl, rfl⟩
    rw [show errOf 1 = .iface 56 (.int .i64 1) from rfl]
    go_wp2_with fail
    go_ret2
    exact ⟨rfl, Kp.rfl' _⟩
  · go_enter Try.func32, Try.ntmps32
    go_wp2_with fail
    refine (C.out).mono ?_; rintro e w' ⟨rfl, rfl⟩
    rw [show errOf 4 = .iface 56 (.int .i64 4) from rfl]
    go_wp2_with fail
    go_ret2
    exact ⟨rfl, Kp.rfl' _⟩

set_option maxRecDepth 100000 in
theorem mul_bad (A B : Option Addr) (l m : List Int) (c d : Nat) (w : World) (ha : Lies w A l) (hb : Lies w B m)
    (h : Pol.code2 l m ≠ 0) :
    Calls Try.prog 30 #[.slice A l.length c, .slice B m.length d] w fun e w' => Fails (Pol.code2 l m) w e w' := by
  have C := Lib.hid (pcheckBoth_any A B l m c d w ha hb)
  have hs := code2_some l m h
  clear h ha hb
  generalize Pol.code2 l m = x at *
  generalize l.length = n at *
  generalize m.length = q at *
  rcases hs with rfl | rfl
  · go_enter Try.func30, Try.ntmps30
    go_wp2_with fail
    refine (C.out).mono ?_; rintro e w' ⟨rfl, rfl⟩
    rw [show errOf 1 = .iface 56 (.int .i64 1) from rfl]
    go_wp2_with fail
    go_ret2
    exact ⟨rfl, Kp.rfl' _⟩
  · go_enter Try.func30, Try.ntmps30
    go_wp2_with fail
    refine (C.out).mono ?_; rintro e w' ⟨rfl, rfl⟩
    rw [show errOf 4 = .iface 56 (.int .i64 4) from rfl]
    go_wp2_with fail
    go_ret2
    exact ⟨rfl, Kp.rfl' _⟩

set_option maxRecDepth 100000 in
set_option maxHeartbeats 1600000 in
theorem mul_ok (A B : Option Addr) (p q : List Fp.F) (c d : Nat) (w : World) (ha : Lies w A (Pol.vals p)) (hb : Lies w B (Pol.vals q)) (hp : p.length ≤ 12) (hq : q.length ≤ 12) :
    Calls Try.prog 30 #[.slice A p.length c, .slice B q.length d] w fun e w' => Gives (Pol.mul p q) w e w' := by
  have C := Lib.hid (checkBoth_ok A B p q c d w ha hb hp hq)
  have HA := Lib.hid ha
  have HB := Lib.hid hb
  obtain ⟨n, hn⟩ : ∃ n, n = p.length := ⟨_, rfl⟩
  obtain ⟨m, hm⟩ : ∃ m, m = q.length := ⟨_, rfl⟩
  rw [← hn] at hp C ⊢
  rw [← hm] at hq C ⊢
  have HN := Lib.hid hn
  have HM := Lib.hid hm
  clear ha hb hn hm
  obtain ⟨i0, hi, hz0, hz1, hz2⟩ := info_parts int_info
  go_enter Try.func30, Try.ntmps30
  go_wp2_with fail
  refine (C.out).mono ?_; rintro e w' ⟨rfl, rfl⟩
  go_wp2_with (at_make; refine wpList_make_full _ rfl _ _ 22 rfl w.heap.size 3 i0 (.int .i64 0) 1 Try.underlying22 hi hz0 hz1 _ _ _ _ (n + m) rfl rfl (by simp) (by simp) (by rw [hz2]; omega) (by unfold maxLen; omega) (Nat.le_refl _) ?_; intro w1 hown hgrow)
  have hrow : Row w1 w.heap.size (Pol.vals (Pol.mulRows p q 0)) := by
    rw [Pol.mulRows, Pol.vals_zeros, ← HN.out, ← HM.out]; exact row_made hown
  have hkp : Kp w w1 := (Kp.rfl' w).grown hgrow (by simp) (fun k hk => by cases hk)
  clear hown hgrow hi hz0 hz1 hz2 C
  obtain ⟨g, hg⟩ : ∃ g, g = w.heap.size := ⟨_, rfl⟩
  rw [← hg] at hrow ⊢
  have HG := Lib.hid hg
  clear hg
  go_loopw [26] (fun i wr => ∃ k : Nat, k ≤ n ∧ i = .int .i64 (k : Int) ∧ Row wr g (Pol.vals (Pol.mulRows p q k)) ∧ Kp w wr) (fun i _ => n - (intOf i).toNat)
  case atStart => exact ⟨0, Nat.zero_le _, rfl, hrow, hkp⟩
  case round =>
    clear hrow hkp
    obtain ⟨k, hk, rfl, hr, hkp⟩ := hrel
    have HR := Lib.hid hr
    have HK := Lib.hid hkp
    clear hr hkp
    by_cases hlt : k < n
    · obtain ⟨ad, rfl, _, hc⟩ := (HA.out.keep HK.out) k (by rw [Pol.len_vals, ← HN.out]; exact hlt)
      rw [Pol.vals_at] at hc
      obtain ⟨a, ha⟩ : ∃ a, a = Pol.co p k := ⟨_, rfl⟩
      rw [← ha] at hc
      have HA1 := Lib.hid ha
      clear ha
      go_wp2_with fail
      go_loopw [33] (fun j wr' => ∃ t : Nat, t ≤ m ∧ j = .int .i64 (t : Int) ∧ Row wr' g (Pol.vals (Pol.addAt (Pol.mulRows p q k) a q k t)) ∧ Kp w wr') (fun j _ => m - (intOf j).toNat)
      case atStart => exact ⟨0, Nat.zero_le _, rfl, HR.out, HK.out⟩
      case round =>
        obtain ⟨t, ht, rfl, hr2, hkp2⟩ := hrel
        by_cases hlt2 : t < m
        · obtain ⟨bd, rfl, _, hd⟩ := (HB.out.keep hkp2) t (by rw [Pol.len_vals, ← HM.out]; exact hlt2)
          rw [Pol.vals_at] at hd
          obtain ⟨b, hb⟩ : ∃ b, b = Pol.co q t := ⟨_, rfl⟩
          rw [← hb] at hd
          have hlen : (Pol.vals (Pol.addAt (Pol.mulRows p q k) a q k t)).length = n + m := by rw [Pol.len_vals, Pol.len_addAt, Pol.len_mulRows, HN.out, HM.out]
          have hcell := hr2.cell (k + t) (by omega)
          have hfree := hr2.free (k + t)
          rw [Pol.vals_at] at hcell
          have HS := Lib.hid (show Pol.addAt (Pol.mulRows p q k) a q k (t + 1) = (Pol.addAt (Pol.mulRows p q k) a q k t).set (k + t) (Pol.co (Pol.addAt (Pol.mulRows p q k) a q k t) (k + t) + a * b) by rw [Pol.addAt, hb])
          have HR2 := Lib.hid hr2
          have HK2 := Lib.hid hkp2
          clear hr2 hkp2 hb hlen
          generalize Pol.co (Pol.addAt (Pol.mulRows p q k) a q k t) (k + t) = s at *
          have HV := Lib.hid (Pol.val_madd s a b)
          obtain ⟨p1, p2⟩ := prod_bound a b
          have s1 := Fp.val_bound s
          have a1 := Fp.val_bound a
          have b1 := Fp.val_bound b
          generalize (a.val : Int) = x at *
          generalize (b.val : Int) = y at *
          generalize (s.val : Int) = v at *
          go_wp2_with fail
          go_roundw
          case rel =>
            refine ⟨t + 1, by omega, by go_num, ?_, HK2.out.put (p := ⟨g, k + t, none⟩) (by show w.heap.size ≤ g; rw [HG.out]; exact Nat.le_refl _) _⟩
            rw [HS.out, Pol.vals_set, HV.out]
            exact HR2.out.put _ _
          case measure => simp [intOf]; omega
        · have HR3 := Lib.hid (show Row wr g (Pol.vals (Pol.mulRows p q (k + 1))) by
            rw [Pol.mulRows, ← HA1.out, ← HM.out, show m = t by omega]; exact hr2)
          have HK2 := Lib.hid hkp2
          clear hr2 hkp2
          go_wp2_with fail
          go_roundw
          case rel => exact ⟨k + 1, by omega, by go_num, HR3.out, HK2.out⟩
          case measure => simp [intOf]; omega
    · obtain rfl : k = n := by omega
      have e := Lib.hid (show Pol.trim (Pol.mulRows p q k) = Pol.mul p q by
        have h := Pol.rows_mul p q (by have := HN.out; omega) (by have := HM.out; omega)
        rw [← HN.out] at h; exact h)
      have T := Lib.hid (trimmed_any (some ⟨g, 0, none⟩) (Pol.mulRows p q k) (k + m) wr HR.out.lies (by rw [Pol.len_mulRows, HN.out, HM.out]; exact Nat.le_refl _) (by rw [Pol.len_mulRows, ← HN.out, ← HM.out]; omega))
      rw [Pol.len_mulRows, ← HN.out, ← HM.out] at T
      go_wp2_with fail
      refine (T.out).mono ?_; rintro e w' ⟨rfl, rfl⟩
      go_wp2_with fail
      go_ret2
      exact ⟨some ⟨g, 0, none⟩, k + m, by rw [← e.out]; rfl, by rw [← e.out]; exact HR.out.trim, by rw [← e.out]; have := Pol.len_trim (Pol.mulRows p q k); rw [Pol.len_mulRows, ← HN.out, ← HM.out] at this; exact this, HK.out⟩

set_option maxRecDepth 100000 in
set_option maxHeartbeats 1600000 in
theorem add_ok (A B : Option Addr) (p q : List Fp.F) (c d : Nat) (w : World) (ha : Lies w A (Pol.vals p)) (hb : Lies w B (Pol.vals q)) (hp : p.length ≤ 12) (hq : q.length ≤ 12) :
    Calls Try.prog 32 #[.slice A p.length c, .slice B q.length d] w fun e w' => Gives (Pol.add p q) w e w' := by
  have C := Lib.hid (checkBoth_ok A B p q c d w ha hb hp hq)
  have HA := Lib.hid ha
  have HB := Lib.hid hb
  obtain ⟨n, hn⟩ : ∃ n, n = p.length := ⟨_, rfl⟩
  obtain ⟨m, hm⟩ : ∃ m, m = q.length := ⟨_, rfl⟩
  rw [← hn] at hp C ⊢
  rw [← hm] at hq C ⊢
  have HN := Lib.hid hn
  have HM := Lib.hid hm
  clear ha hb hn hm
  obtain ⟨i0, hi, hz0, hz1, hz2⟩ := info_parts int_info
  go_enter Try.func32, Try.ntmps32
  go_wp2_with fail
  refine (C.out).mono ?_; rintro e w' ⟨rfl, rfl⟩
  go_wp2_with (at_make; refine wpList_make_full _ rfl _ _ 22 rfl w.heap.size 3 i0 (.int .i64 0) 1 Try.underlying22 hi hz0 hz1 _ _ _ _ (max n m) rfl rfl (by omega) (by omega) (by rw [hz2]; omega) (by unfold maxLen; omega) (Nat.le_refl _) ?_; intro w1 hown hgrow; have hrow : Row w1 w.heap.size (Pol.vals (List.replicate (max n m) 0)) := (by rw [Pol.vals_zeros]; exact row_made hown); have hkp : Kp w w1 := (Kp.rfl' w).grown hgrow (by simp) (fun k hk => by cases hk); clear hown hgrow)
  all_goals
    obtain ⟨w2, hrun, hr2, hk2⟩ := copy_run w1 w.heap.size (max n m) n c A p 3 hrow (HA.out.keep hkp) HN.out (Nat.le_max_left n m)
    rw [hrun]
    clear hrun hi hz0 hz1 hz2 C
    have hkp2 : Kp w w2 := hk2 _ _ hkp (Nat.le_refl _)
    clear hrow hkp hk2
    obtain ⟨g, hg⟩ : ∃ g, g = w.heap.size := ⟨_, rfl⟩
    rw [← hg] at hr2 ⊢
    have HG := Lib.hid hg
    clear hg
    obtain ⟨N, hN⟩ : ∃ N, N = max n m := ⟨_, rfl⟩
    rw [← hN] at hr2 ⊢
    have hNN : n ≤ N ∧ m ≤ N ∧ N ≤ 12 := by omega
    have HNN := Lib.hid hN
    clear hN
    have hl2 : (p ++ List.replicate (N - n) (0 : Fp.F)).length = N := by rw [List.length_append, List.length_replicate, ← HN.out]; omega
    obtain ⟨R, hR⟩ : ∃ R, R = p ++ List.replicate (N - n) (0 : Fp.F) := ⟨_, rfl⟩
    rw [← hR] at hr2 hl2
    have HR0 := Lib.hid hR
    have HL2 := Lib.hid hl2
    clear hR hl2
    go_wp2_with fail
    go_loopw [27] (fun i wr => ∃ k : Nat, k ≤ m ∧ i = .int .i64 (k : Int) ∧ Row wr g (Pol.vals (Pol.addAt R 1 q 0 k)) ∧ Kp w wr) (fun i _ => m - (intOf i).toNat)
    case atStart => exact ⟨0, Nat.zero_le _, rfl, hr2, hkp2⟩
    case round =>
      clear hr2 hkp2
      obtain ⟨t, ht, rfl, hr2, hkp2⟩ := hrel
      by_cases hlt2 : t < m
      · obtain ⟨bd, rfl, _, hd⟩ := (HB.out.keep hkp2) t (by rw [Pol.len_vals, ← HM.out]; exact hlt2)
        rw [Pol.vals_at] at hd
        obtain ⟨b, hb⟩ : ∃ b, b = Pol.co q t := ⟨_, rfl⟩
        rw [← hb] at hd
        have hlen : (Pol.vals (Pol.addAt R 1 q 0 t)).length = N := by rw [Pol.len_vals, Pol.len_addAt, HL2.out]
        have hcell := hr2.cell t (by omega)
        have hfree := hr2.free t
        rw [Pol.vals_at] at hcell
        have HS := Lib.hid (show Pol.addAt R 1 q 0 (t + 1) = (Pol.addAt R 1 q 0 t).set t (Pol.co (Pol.addAt R 1 q 0 t) t + b) by rw [Pol.addAt, hb, Nat.zero_add, Fin.one_mul])
        have HR2 := Lib.hid hr2
        have HK2 := Lib.hid hkp2
        clear hr2 hkp2 hb hlen
        generalize Pol.co (Pol.addAt R 1 q 0 t) t = s at *
        have HV := Lib.hid (Fp.add_val s b)
        have s1 := Fp.val_bound s
        have b1 := Fp.val_bound b
        generalize (b.val : Int) = y at *
        generalize (s.val : Int) = v at *
        go_wp2_with fail
        go_roundw
        case rel =>
          refine ⟨t + 1, by omega, by go_num, ?_, HK2.out.put (p := ⟨g, t, none⟩) (by show w.heap.size ≤ g; rw [HG.out]; exact Nat.le_refl _) _⟩
          rw [HS.out, Pol.vals_set, HV.out]
          exact HR2.out.put _ _
        case measure => simp [intOf]; omega
      · obtain rfl : t = m := by omega
        have HR2 := Lib.hid hr2
        have HK2 := Lib.hid hkp2
        clear hr2 hkp2
        have e := Lib.hid (show Pol.trim (Pol.addAt R 1 q 0 t) = Pol.add p q by
          have h := Pol.row_add p q (by have := HN.out; omega) (by have := HM.out; omega)
          rw [← HN.out, ← HM.out, ← HNN.out, ← HR0.out] at h; exact h)
        have T := Lib.hid (trimmed_any (some ⟨g, 0, none⟩) (Pol.addAt R 1 q 0 t) N wr HR2.out.lies (by rw [Pol.len_addAt, HL2.out]; exact Nat.le_refl _) (by rw [Pol.len_addAt, HL2.out]; omega))
        rw [Pol.len_addAt, HL2.out] at T
        go_wp2_with fail
        refine (T.out).mono ?_; rintro e w' ⟨rfl, rfl⟩
        go_wp2_with fail
        go_ret2
        exact ⟨some ⟨g, 0, none⟩, N, by rw [← e.out]; rfl, by rw [← e.out]; exact HR2.out.trim, by rw [← e.out]; have := Pol.len_trim (Pol.addAt R 1 q 0 t); rw [Pol.len_addAt, HL2.out] at this; exact this, HK2.out⟩

/-- The contracts, with the lengths as numbers. -/
theorem mul_ok' (A B : Option Addr) (p q : List Fp.F) (n m c d : Nat) (w : World) (ha : Lies w A (Pol.vals p)) (hb : Lies w B (Pol.vals q)) (hn : n = p.length) (hm : m = q.length) (hp : n ≤ 12) (hq : m ≤ 12) :
    Calls Try.prog 30 #[.slice A n c, .slice B m d] w fun e w' => Gives (Pol.mul p q) w e w' := by subst hn hm; exact mul_ok A B p q c d w ha hb hp hq
theorem add_ok' (A B : Option Addr) (p q : List Fp.F) (n m c d : Nat) (w : World) (ha : Lies w A (Pol.vals p)) (hb : Lies w B (Pol.vals q)) (hn : n = p.length) (hm : m = q.length) (hp : n ≤ 12) (hq : m ≤ 12) :
    Calls Try.prog 32 #[.slice A n c, .slice B m d] w fun e w' => Gives (Pol.add p q) w e w' := by subst hn hm; exact add_ok A B p q c d w ha hb hp hq
end Go.Proofs.Ytldkamhknaflbaa

/- Contracts of package poly, third part: divide. -/
namespace Go.Proofs.Ytldkamhknaflbaa
open Go.ChangeShapes Go.WideShapes Go.ChangeAt Go.RowKit
set_option linter.unusedVariables false

/-- The answer is two rows of factors, and no error. -/
def GivesTwo (q r : List Fp.F) (w : World) (e : Ending) (w' : World) : Prop :=
  ∃ A c B d, e = .returned (.tuple #[.slice A q.length c, .slice B r.length d, .nilIface]) ∧ Lies w' A (Pol.vals q) ∧ q.length ≤ c ∧ Lies w' B (Pol.vals r) ∧ r.length ≤ d ∧ Kp w w'

theorem msub_bound (t c : Fp.F) : 0 ≤ (9973 - (t.val : Int)) * (c.val : Int) ∧ (9973 - (t.val : Int)) * (c.val : Int) ≤ 99450756 := by
  have h1 := Fp.val_bound t
  have h2 := Fp.val_bound c
  have := Int.mul_le_mul (show 9973 - (t.val : Int) ≤ 9973 by omega) h2.2 h2.1 (by omega)
  exact ⟨Int.mul_nonneg (by omega) h2.1, by omega⟩

/-- What dividing keeps: so many places of the quotient are still to come. -/
structure Left (p g R Q : List Fp.F) (j : Nat) : Prop where
  lr : R.length = p.length
  lq : Q.length = p.length - (g.length - 1)
  eq : ∀ x, Pol.ev p x = Pol.ev g x * Pol.ev Q x + Pol.ev R x
  zr : ∀ k, j + (g.length - 1) ≤ k → Pol.co R k = 0
  zq : ∀ k, k < j → Pol.co Q k = 0

theorem co_zeros (n k : Nat) : Pol.co (List.replicate n 0) k = 0 := by
  unfold Pol.co
  rw [List.getD_eq_getElem?_getD, List.getElem?_replicate]
  split <;> rfl

theorem left_start (p g : List Fp.F) : Left p g p (List.replicate (p.length - (g.length - 1)) 0) (p.length - (g.length - 1)) :=
  ⟨rfl, List.length_replicate .., fun x => by rw [Pol.ev_zeros]; grind, fun k hk => Pol.co_out _ _ (by omega), fun k _ => co_zeros _ k⟩

theorem left_step (p g R Q : List Fp.F) (j : Nat) (hg : Pol.Tr g) (g0 : g ≠ []) (hj : j + 1 ≤ p.length - (g.length - 1)) (h : Left p g R Q (j + 1)) (t : Fp.F) (ht : t = Pol.co R (j + (g.length - 1)) * Fp.inv (Pol.top g)) :
    Left p g (Pol.addAt R (-t) g j g.length) (Q.set j t) j := by
  have l := List.length_pos_iff.2 g0
  have lr := h.lr
  have lq := h.lq
  have tg := Pol.top_ne hg g0
  refine ⟨by rw [Pol.len_addAt, lr], by rw [List.length_set, lq], fun x => ?_, fun k hk => ?_, fun k hk => ?_⟩
  · rw [Pol.ev_set _ _ _ _ (by omega), Pol.ev_addAt _ _ _ _ _ (by omega), List.take_length, h.zq j (by omega), h.eq]; grind
  · by_cases e : k = j + (g.length - 1)
    · have e1 := Pol.co_addAt_top R (-t) g j (g.length - 1) (by omega)
      rw [Nat.sub_add_cancel (by omega)] at e1
      rw [e, e1, ht]
      exact Pol.cancel _ _ _ (Fp.inv_mul tg)
    · rw [Pol.co_addAt_far _ _ _ _ _ _ (by omega) (by omega)]
      exact h.zr k (by omega)
  · rw [Pol.co_set _ _ _ _ (by omega), if_neg (by omega)]
    exact h.zq k (by omega)

theorem left_end (p g R Q : List Fp.F) (hp : Pol.Tr p) (hg : Pol.Tr g) (g0 : g ≠ []) (lp : p.length ≤ 1000) (lg : g.length ≤ 1000) (h : Left p g R Q 0) : Pol.Dv p g Q (Pol.trim R) := by
  have l := List.length_pos_iff.2 g0
  refine Pol.Dv.full hp hg lp lg g0 h.lq ?_ h.eq
  have := Pol.trim_short R (g.length - 1) fun k hk => h.zr k (by omega)
  omega

end Go.Proofs.Ytldkamhknaflbaa

/- Contracts of package poly, fourth part: monic, Div, Gcd, At. -/
namespace Go.Proofs.Ytldkamhknaflbaa
open Go.ChangeShapes Go.WideShapes Go.ChangeAt Go.RowKit
set_option linter.unusedVariables false

theorem Lies.trim {w : World} {A : Option Addr} {p : List Fp.F} (h : Lies w A (Pol.vals p)) : Lies w A (Pol.vals (Pol.trim p)) := by
  rw [Pol.trim_take, Pol.vals_take]; exact h.take _

/-- The last one alone. -/
theorem lies_last {w : World} {ad : Addr} {p : List Fp.F} {k : Nat} (hk : p.length = k + 1) (h : Lies w (some ad) (Pol.vals p)) : Lies w (some (ad.add k)) (Pol.vals [Pol.top p]) := fun j hj => by
  have hj0 : j = 0 := by simp [Pol.vals] at hj; exact hj
  subst hj0
  obtain ⟨ad', e, h1, h2⟩ := h k (by rw [Pol.len_vals]; omega)
  injection e with e
  subst e
  refine ⟨_, rfl, by rw [block_add]; exact h1, ?_⟩
  rw [add_add, Nat.add_zero, h2, Pol.vals_at, Pol.vals_at, Pol.co_zero, Pol.top, hk]
  rfl

/-- The answer is an error, and no rows. -/
def Fails2 (c : Nat) (w : World) (e : Ending) (w' : World) : Prop := e = .returned (.tuple #[.slice none 0 0, .slice none 0 0, errOf c]) ∧ Kp w w'

/-- What is wrong with a row and a place. -/
def atCode (l : List Int) (x : Int) : Nat := if Pol.code l = 0 then (if 0 ≤ x ∧ x ≤ 9972 then 0 else 1) else Pol.code l

set_option maxRecDepth 100000 in
theorem at_bad (A : Option Addr) (l : List Int) (c : Nat) (x : Int) (w : World) (ha : Lies w A l) (h : atCode l x ≠ 0) :
    Calls Try.prog 13 #[.slice A l.length c, .int .i64 x] w fun e w' => e = .returned (.tuple #[.int .i64 0, errOf (atCode l x)]) ∧ w = w' := by
  have C := Lib.hid (check_any A l c w ha)
  have hs := Pol.code_some l
  unfold atCode at *
  clear ha
  generalize Pol.code l = y at *
  generalize l.length = n at *
  rcases hs with rfl | rfl | rfl
  · by_cases hx : 0 ≤ x ∧ x ≤ 9972
    · rw [if_pos rfl, if_pos hx] at h; exact absurd rfl h
    · rw [if_pos rfl, if_neg hx]
      clear h
      by_cases h0 : x < 0
      · clear hx
        go_enter Try.func13, Try.ntmps13
        go_wp2_with fail
        refine (C.out).mono ?_; rintro e w' ⟨rfl, rfl⟩
        rw [show errOf 0 = .nilIface from rfl]
        go_wp2_with fail
        go_ret2
        exact ⟨rfl, rfl⟩
      · have h1 : 9973 ≤ x := by omega
        clear hx
        go_enter Try.func13, Try.ntmps13
        go_wp2_with fail
        refine (C.out).mono ?_; rintro e w' ⟨rfl, rfl⟩
        rw [show errOf 0 = .nilIface from rfl]
        go_wp2_with fail
        go_ret2
        exact ⟨rfl, rfl⟩
  · rw [if_neg (by decide)]
    go_enter Try.func13, Try.ntmps13
    go_wp2_with fail
    refine (C.out).mono ?_; rintro e w' ⟨rfl, rfl⟩
    rw [show errOf 1 = .iface 56 (.int .i64 1) from rfl]
    go_wp2_with fail
    go_ret2
    exact ⟨rfl, rfl⟩
  · rw [if_neg (by decide)]
    go_enter Try.func13, Try.ntmps13
    go_wp2_with fail
    refine (C.out).mono ?_; rintro e w' ⟨rfl, rfl⟩
    rw [show errOf 4 = .iface 56 (.int .i64 4) from rfl]
    go_wp2_with fail
    go_ret2
    exact ⟨rfl, rfl⟩

set_option maxRecDepth 100000 in
theorem at_ok (A : Option Addr) (p : List Fp.F) (c : Nat) (x : Fp.F) (w : World) (ha : Lies w A (Pol.vals p)) (hp : p.length ≤ 100) (hc : Pol.code (Pol.vals p) = 0) :
    Calls Try.prog 13 #[.slice A p.length c, el x] w fun e w' => e = .returned (.tuple #[el (Pol.ev p x), .nilIface]) ∧ w = w' := by
  have C := Lib.hid (check_any A (Pol.vals p) c w ha)
  rw [Pol.len_vals, hc, show errOf 0 = .nilIface from rfl] at C
  have HA := Lib.hid ha
  obtain ⟨n, hn⟩ : ∃ n, n = p.length := ⟨_, rfl⟩
  rw [← hn] at hp C ⊢
  have HN := Lib.hid hn
  have x1 := Fp.val_bound x
  have ST := Lib.hid (fun (v a : Fp.F) => Pol.val_horner v x a)
  have PB := Lib.hid (fun (v : Fp.F) => prod_bound v x)
  have hxv : el x = .int .i64 (x.val : Int) := rfl
  clear ha hn hc
  rw [hxv]
  generalize (x.val : Int) = xv at *
  clear hxv
  go_enter Try.func13, Try.ntmps13
  go_wp2_with fail
  refine (C.out).mono ?_; rintro e w' ⟨rfl, rfl⟩
  go_wp2_with fail
  go_loop [7, 8] (fun v i => ∃ j : Nat, j ≤ n ∧ i = .int .i64 ((j : Int) - 1) ∧ v = el (Pol.ev (p.drop j) x)) (fun _ i => (intOf i + 1).toNat)
  case atStart => exact ⟨n, Nat.le_refl _, by go_num, by rw [HN.out, List.drop_length]; rfl⟩
  case round =>
    obtain ⟨j, hj, rfl, rfl⟩ := hrel
    cases j with
    | zero =>
      have ei : ((0 : Nat) : Int) - 1 = -1 := by decide
      rw [ei, List.drop_zero]
      go_wp2_with fail
      go_ret2
      exact ⟨rfl, rfl⟩
    | succ j =>
      have ei : ((j + 1 : Nat) : Int) - 1 = (j : Int) := by omega
      rw [ei]
      obtain ⟨ad, rfl, _, hcell⟩ := HA.out j (by rw [Pol.len_vals, ← HN.out]; omega)
      rw [Pol.vals_at] at hcell
      have E := Lib.hid (Pol.ev_drop p j (by have := HN.out; omega) x)
      obtain ⟨v, hv⟩ : ∃ v, v = Pol.ev (p.drop (j + 1)) x := ⟨_, rfl⟩
      obtain ⟨a, ha⟩ : ∃ a, a = Pol.co p j := ⟨_, rfl⟩
      rw [← hv]
      rw [← ha] at hcell
      rw [← hv, ← ha] at E
      have HV := Lib.hid (ST.out v a)
      obtain ⟨p1, p2⟩ := PB.out v
      have v1 := Fp.val_bound v
      have a1 := Fp.val_bound a
      clear hv ha
      unfold el
      generalize (v.val : Int) = vv at *
      generalize (a.val : Int) = av at *
      go_wp2_with fail
      go_round
      case rel => exact ⟨j, by omega, by go_num, by rw [HV.out, ← E.out]⟩
      case measure => simp [intOf]

end Go.Proofs.Ytldkamhknaflbaa

/- Contracts of the document's answer for package field (package rankmereref1: Mod, Pow, Div), within the document's bounds. -/
namespace Go.Proofs.Ytldkamhknaflbaa
open Go.ChangeShapes Go.WideShapes Go.ChangeAt Go.RowKit
set_option linter.unusedVariables false

theorem refMod_any (n : Int) (w : World) (h1 : -1000000000000000 ≤ n) (h2 : n ≤ 1000000000000000) :
    Calls Try.prog 10 #[.int .i64 n] w fun e w' => e = .returned (.int .i64 (n % 9973)) ∧ w = w' := by
  obtain ⟨f1, f2⟩ := Num.tmod_fix n 9973 (by omega)
  obtain ⟨b2, b1⟩ := Num.tmod_bound n 9973 (by omega)
  have F1 := Lib.hid f1
  have F2 := Lib.hid f2
  clear f1 f2
  by_cases h : n.tmod 9973 < 0
  · go_enter Try.func10, Try.ntmps10
    go_wp2
    go_ret
    exact ⟨ret_int (F1.out h), rfl⟩
  · have h' : 0 ≤ n.tmod 9973 := by omega
    clear h
    go_enter Try.func10, Try.ntmps10
    go_wp2
    go_ret
    exact ⟨ret_int (F2.out h'), rfl⟩

theorem refMod_el (n : Int) (w : World) (h1 : -1000000000000000 ≤ n) (h2 : n ≤ 1000000000000000) :
    Calls Try.prog 10 #[.int .i64 n] w fun e w' => e = .returned (el (Fp.ofInt n)) ∧ w = w' := by
  have h := refMod_any n w h1 h2
  unfold el
  rw [Fp.ofInt_val]
  exact h



end Go.Proofs.Ytldkamhknaflbaa

/- What the laws of package poly share: Factors, Trim and Ints on rows of factors, the closed fact. -/
namespace Go.Proofs.Ytldkamhknaflbaa
open Go.ChangeShapes Go.WideShapes Go.ChangeAt Go.RowKit
set_option linter.unusedVariables false

theorem code_all (l : List Int) (h : ¬ 12 < l.length) : (AllIn l 0 9972 ∧ Pol.code l = 0) ∨ (¬ AllIn l 0 9972 ∧ Pol.code l = 1) := by
  by_cases ha : AllIn l 0 9972
  · exact .inl ⟨ha, Pol.code_ok h ha⟩
  · refine .inr ⟨ha, ?_⟩
    rcases Pol.code_some l with e | e | e
    · exact absurd ((Pol.code_zero_iff l).1 e).2 ha
    · exact e
    · exfalso
      unfold Pol.code at e
      rw [if_neg h] at e
      split at e <;> cases e

theorem refTrim_any (A : Option Addr) (p : List Fp.F) (c : Nat) (w : World) (hl : Lies w A (Pol.vals p)) (hc : p.length ≤ c) (hn : p.length ≤ 1000000) :
    Calls Try.prog 17 #[.slice A p.length c] w fun e w' => e = .returned (.slice A (Pol.trim p).length c) ∧ w = w' := by
  have HL := Lib.hid hl
  obtain ⟨n, hn'⟩ : ∃ n, n = p.length := ⟨_, rfl⟩
  rw [← hn'] at hn hc ⊢
  have HN := Lib.hid hn'
  clear hl hn'
  go_enter Try.func17, Try.ntmps17
  go_wp2_with fail
  go_loop [3] (fun v => ∃ k : Nat, k ≤ n ∧ v = .int .i64 (k : Int) ∧ Pol.trim (p.take k) = Pol.trim p) (fun v => (intOf v).toNat)
  case atStart => exact ⟨n, Nat.le_refl _, rfl, by rw [HN.out, List.take_length]⟩
  case round =>
    obtain ⟨k, hk, rfl, ht⟩ := hrel
    have HT := Lib.hid ht
    clear ht
    have kc : (k : Int) ≤ (c : Int) := by omega
    cases k with
    | zero =>
      have E := Lib.hid (show Pol.trim p = [] by rw [← HT.out]; rfl)
      go_wp2_with fail
      go_ret
      exact ⟨by rw [E.out]; rfl, rfl⟩
    | succ k =>
      obtain ⟨ad, rfl, _, hcell⟩ := HL.out k (by rw [Pol.len_vals, ← HN.out]; omega)
      rw [Pol.vals_at] at hcell
      by_cases h0 : Pol.co p k = 0
      · have e0 : (((Pol.co p k).val : Int) == 0) = true := by rw [h0]; rfl
        have ST := Lib.hid (trim_step0 p k (by have := HN.out; omega) h0)
        generalize ((Pol.co p k).val : Int) = m at *
        clear h0
        go_wp2_with fail
        go_round
        case rel => exact ⟨k, by omega, by go_num, by rw [← ST.out]; exact HT.out⟩
        case measure => simp [intOf]
      · have e0 : (((Pol.co p k).val : Int) == 0) = false := by rw [beq_eq_false_iff_ne]; intro e; exact h0 (Fp.val_inj e)
        have E := Lib.hid (show Pol.trim p = p.take (k + 1) by rw [← HT.out, Pol.take_succ p k (by have := HN.out; omega), Pol.trim_not _ _ h0])
        have E2 := Lib.hid (show (p.take (k + 1)).length = k + 1 by rw [List.length_take]; have := HN.out; omega)
        generalize ((Pol.co p k).val : Int) = m at *
        clear h0
        go_wp2_with fail
        go_ret
        exact ⟨by rw [E.out, E2.out]; rfl, rfl⟩

/-- Two rows that are the same. -/
theorem ints_eq (A B : Option Addr) (p q : List Fp.F) (c d : Nat) (w : World) (ha : Lies w A (Pol.vals p)) (hb : Lies w B (Pol.vals q)) (hp : p.length ≤ 1000) (h : p = q) :
    Calls Try.prog 15 #[.slice A p.length c, .slice B q.length d] w fun e w' => e = .returned (.bool true) ∧ Kp w w' := by
  subst h
  have := ints_any A B (Pol.vals p) (Pol.vals p) c d w ha hb (by rw [Pol.len_vals]; omega) (by rw [Pol.len_vals]; omega)
  rw [Pol.len_vals] at this
  exact this.mono fun e w' ⟨ht, hk⟩ => ⟨tells_yes ht rfl, hk⟩
/-- The same, with the lengths as numbers. -/
theorem ints_eq' (A B : Option Addr) (p q : List Fp.F) (n m c d : Nat) (w : World) (ha : Lies w A (Pol.vals p)) (hb : Lies w B (Pol.vals q)) (hn : n = p.length) (hm : m = q.length) (hp : n ≤ 1000) (h : p = q) :
    Calls Try.prog 15 #[.slice A n c, .slice B m d] w fun e w' => e = .returned (.bool true) ∧ Kp w w' := by
  subst hn hm
  exact ints_eq A B p q c d w ha hb hp h

theorem fact_mul : Pol.mul [1, 1] [9972, 1] = [9972, 0, 1] := by decide +kernel
theorem fact_div (q r : List Fp.F) (h : Pol.Dv (Pol.trim [5, 0, 1]) (Pol.trim [1, 1]) q r) : q = [9972, 1] ∧ r = [6] := by
  rw [show Pol.trim [5, 0, 1] = [5, 0, 1] by decide +kernel, show Pol.trim [1, 1] = [1, 1] by decide +kernel] at h
  refine h.one (by unfold Pol.Tr; decide) (by simp) (by simp) ⟨by unfold Pol.Tr; decide, by unfold Pol.Tr; decide, by simp, by simp, fun x => ?_⟩
  simp only [Pol.ev_cons, Pol.ev_nil]
  grind

/-- The contracts, with the lengths as numbers. -/
theorem at_ok' (A : Option Addr) (p : List Fp.F) (n c : Nat) (x : Fp.F) (w : World) (ha : Lies w A (Pol.vals p)) (hn : n = p.length) (hp : n ≤ 12) :
    Calls Try.prog 13 #[.slice A n c, el x] w fun e w' => e = .returned (.tuple #[el (Pol.ev p x), .nilIface]) ∧ w = w' := by subst hn; exact at_ok A p c x w ha (by omega) (Pol.code_vals p hp)
theorem trim_ok' (A : Option Addr) (p : List Fp.F) (n c : Nat) (w : World) (hl : Lies w A (Pol.vals p)) (hn : n = p.length) (hc : n ≤ c) (hp : n ≤ 12) :
    Calls Try.prog 17 #[.slice A n c] w fun e w' => e = .returned (.slice A (Pol.trim p).length c) ∧ w = w' := by subst hn; exact refTrim_any A p c w hl hc (by omega)

end Go.Proofs.Ytldkamhknaflbaa

/- The law VanderPowers. -/
namespace Go.Proofs.Ytldkamhknaflbaa
open Go.ChangeShapes Go.WideShapes Go.ChangeAt Go.RowKit
set_option linter.unusedVariables false

theorem rowF_vals (n : Nat) (f : Nat → Fp.F) : rowF n f = Pol.vals ((List.range n).map f) := by
  unfold rowF Mx.row Pol.vals
  rw [List.map_map]
  rfl
theorem vm_ev {n : Nat} (X f : Nat → Fp.F) (h0 : 0 < n) (i : Nat) : Pol.ev ((List.range n).map f) (X i) = Mx.tov n (Mx.vm X) f i := by
  obtain ⟨p, rfl⟩ : ∃ p, n = p + 1 := ⟨n - 1, by omega⟩
  rw [Mx.vx_ev]
  exact (Mx.vm_to p X f i).symm

set_option maxRecDepth 100000 in
set_option maxHeartbeats 3200000 in
theorem vpow_bad (A B : Option Addr) (L : List Int) (m c d : Nat) (w : World) (ha : Lies w A L) (h : vcd L ≠ 0) :
    Calls Try.prog 4 #[.slice A L.length c, .slice B m d] w fun e w' => e = .returned (.bool true) ∧ Kp w w' := by
  have FU := Lib.hid (fun w' (k : Kp w w') => VFull_no h A c w' (ha.keep k))
  unfold NoMx at FU
  generalize L.length = n at *
  clear ha h
  go_enter Try.func4, Try.ntmps4
  go_wp2_with fail
  refine (vanderFact_any _).mono ?_; rintro e w1 ⟨rfl, k1⟩
  have K := Lib.hid k1
  clear k1
  go_wp2_with fail
  refine (FU.out _ K.out).mono ?_; rintro e w2 ⟨z, rfl, k2⟩
  replace K := Lib.hid (K.out.trans k2)
  clear k2
  go_wp2_with fail
  go_ret
  exact ⟨rfl, K.out⟩
set_option maxRecDepth 100000 in
set_option maxHeartbeats 3200000 in
theorem vpow_shape (A B : Option Addr) (L : List Int) (n m c d : Nat) (X : Nat → Fp.F) (w : World) (ha : Lies w A L) (s : Vd n X L) (h : m ≠ n) :
    Calls Try.prog 4 #[.slice A n c, .slice B m d] w fun e w' => e = .returned (.bool true) ∧ Kp w w' := by
  have FU := Lib.hid (fun w' (k : Kp w w') => VFull_ok A L n c X w' (ha.keep k) s)
  unfold MadeM at FU
  have e1 : ((m : Int) != (n : Int)) = true := by rw [bne_iff_ne]; omega
  clear ha s h
  go_enter Try.func4, Try.ntmps4
  go_wp2_with fail
  refine (vanderFact_any _).mono ?_; rintro e w1 ⟨rfl, k1⟩
  have K := Lib.hid k1
  clear k1
  go_wp2_with fail
  refine (FU.out _ K.out).mono ?_; rintro e w2 ⟨M, dm, rfl, _, lm, k2⟩
  replace K := Lib.hid (K.out.trans k2)
  clear k2 lm
  go_wp2_with fail
  go_ret
  exact ⟨rfl, K.out⟩
set_option maxRecDepth 100000 in
set_option maxHeartbeats 3200000 in
theorem vpow_range (A B : Option Addr) (L F : List Int) (n c d : Nat) (X : Nat → Fp.F) (w : World) (ha : Lies w A L) (hb : Lies w B F) (s : Vd n X L) (hf : F.length = n) (h : ¬ AllIn F 0 9972) :
    Calls Try.prog 4 #[.slice A n c, .slice B n d] w fun e w' => e = .returned (.bool true) ∧ Kp w w' := by
  have FU := Lib.hid (fun w' (k : Kp w w') => VFull_ok A L n c X w' (ha.keep k) s)
  unfold MadeM at FU
  have h5 := s.n5
  have AL := Lib.hid (fun w' (k : Kp w w') => show Calls Try.prog 11 #[.slice B n d, .int .i64 0, .int .i64 9972] w' fun e w'' => e = .returned (.bool false) ∧ w' = w'' by
    have h1 := all_any B F d 0 9972 w' (hb.keep k) (by omega)
    rw [hf] at h1
    exact h1.mono fun e w'' h2 => ⟨tells_no h2.1 h, h2.2⟩)
  have e1 : ((n : Int) != (n : Int)) = false := by simp
  clear ha hb s h hf
  go_enter Try.func4, Try.ntmps4
  go_wp2_with fail
  refine (vanderFact_any _).mono ?_; rintro e w1 ⟨rfl, k1⟩
  have K := Lib.hid k1
  clear k1
  go_wp2_with fail
  refine (FU.out _ K.out).mono ?_; rintro e w2 ⟨M, dm, rfl, _, lm, k2⟩
  replace K := Lib.hid (K.out.trans k2)
  clear k2 lm
  go_wp2_with fail
  refine (AL.out _ K.out).mono ?_; rintro e w3 ⟨rfl, rfl⟩
  go_wp2_with fail
  go_ret
  exact ⟨rfl, K.out⟩
set_option maxRecDepth 100000 in
set_option maxHeartbeats 3200000 in
theorem vpow_good (A B : Option Addr) (L F : List Int) (n c d : Nat) (X f : Nat → Fp.F) (w : World) (ha : Lies w A L) (hb : Lies w B F) (s : Vd n X L) (hf : F = rowF n f) :
    Calls Try.prog 4 #[.slice A n c, .slice B n d] w fun e w' => e = .returned (.bool true) ∧ Kp w w' := by
  have HA := Lib.hid (s.lies ha)
  have FU := Lib.hid (fun w' (k : Kp w w') => VFull_ok A L n c X w' (ha.keep k) s)
  unfold MadeM at FU
  have h5 := s.n5
  have h0 := s.n0
  have HB := Lib.hid (show Lies w B (rowF n f) by rw [← hf]; exact hb)
  have AL := Lib.hid (fun w' (k : Kp w w') => show Calls Try.prog 11 #[.slice B n d, .int .i64 0, .int .i64 9972] w' fun e w'' => e = .returned (.bool true) ∧ w' = w'' by
    have hl : F.length = n := by rw [hf, Mx.len_row]
    have h1 := all_any B F d 0 9972 w' (hb.keep k) (by omega)
    rw [hl] at h1
    exact h1.mono fun e w'' h2 => ⟨tells_yes h2.1 (by rw [hf]; exact rrow_in _ _), h2.2⟩)
  have TO := Lib.hid (fun (M : Option Addr) (dm : Nat) (w' : World) (k : Kp w w') (h : LiesM w' M (Mx.matl n n (Mx.vm X))) => rTo_any M B (Mx.vm X) f n n dm d w' h (HB.out.keep k) (by omega) (by omega))
  unfold MadeRow at TO
  have AT := Lib.hid (fun (i : Nat) w' (k : Kp w w') => show Calls Try.prog 13 #[.slice B n d, .int .i64 ((X i).val : Int)] w' fun e w'' => e = .returned (.tuple #[.int .i64 ((Mx.tov n (Mx.vm X) f i).val : Int), .nilIface]) ∧ w' = w'' by
    have h1 := at_ok' B ((List.range n).map f) n d (X i) w' (by rw [← rowF_vals]; exact HB.out.keep k) (by simp) (by omega)
    rw [vm_ev X f h0] at h1
    exact h1)
  have e1 : ((n : Int) != (n : Int)) = false := by simp
  clear ha hb s hf
  go_enter Try.func4, Try.ntmps4
  go_wp2_with fail
  refine (vanderFact_any _).mono ?_; rintro e w1 ⟨rfl, k1⟩
  have K := Lib.hid k1
  clear k1
  go_wp2_with fail
  refine (FU.out _ K.out).mono ?_; rintro e w2 ⟨M, dm, rfl, _, lm, k2⟩
  replace K := Lib.hid (K.out.trans k2)
  have LM := Lib.hid lm
  clear k2 lm
  go_wp2_with fail
  refine (AL.out _ K.out).mono ?_; rintro e w3 ⟨rfl, rfl⟩
  go_wp2_with fail
  refine (TO.out M dm _ K.out LM.out).mono ?_; rintro e w4 ⟨T, dt, rfl, lt, k4⟩
  replace K := Lib.hid (K.out.trans k4)
  have LT := Lib.hid (show Lies w4 T (Mx.row n fun i => ((Mx.tov n (Mx.vm X) f i).val : Int)) from lt)
  clear k4 lt
  go_wp2_with fail
  go_loopw [9] (fun i wr => ∃ k : Nat, k ≤ n ∧ i = .int .i64 (k : Int) ∧ Kp w wr ∧ Kp w4 wr) (fun i _ => n - (intOf i).toNat)
  case atStart => exact ⟨0, Nat.zero_le _, rfl, K.out, Kp.rfl' _⟩
  case round =>
    obtain ⟨k, hk, rfl, hk1, hk2⟩ := hrel
    have K1 := Lib.hid hk1
    by_cases hlt : k < n
    · obtain ⟨xd, rfl, _, x1⟩ := (HA.out.keep hk1).el hlt
      obtain ⟨td, rfl, _, x2⟩ := (LT.out.keep hk2).el hlt
      have K2 := Lib.hid hk2
      clear hk1 hk2
      have e2 : (((Mx.tov n (Mx.vm X) f k).val : Int) != ((Mx.tov n (Mx.vm X) f k).val : Int)) = false := by simp
      go_wp2_with fail
      refine (AT.out k _ K1.out).mono ?_; rintro e w5 ⟨rfl, rfl⟩
      go_wp2_with fail
      go_roundw
      case rel => exact ⟨k + 1, by omega, by go_num, K1.out, K2.out⟩
      case measure => simp [intOf]; omega
    · obtain rfl : k = n := by omega
      clear hk1 hk2
      go_wp2_with fail
      go_ret
      exact ⟨rfl, K1.out⟩
theorem walk_VanderPowers (A : Option Addr) (L : List Int) (c : Nat) (B : Option Addr) (F : List Int) (d : Nat) (w : World) (ha : Lies w A L) (hb : Lies w B F) :
    Calls Try.prog 4 #[.slice A L.length c, .slice B F.length d] w fun e w' => e = .returned (.bool true) ∧ Kp w w' := by
  rcases vd_or L with ⟨n, X, s⟩ | h
  · rw [s.len]
    by_cases h1 : F.length = n
    · rw [h1]
      by_cases h2 : AllIn F 0 9972
      · obtain ⟨f, hf⟩ := rrow_of h2
        rw [h1] at hf
        exact vpow_good A B L F n c d X f w ha hb s hf
      · exact vpow_range A B L F n c d X w ha hb s h1 h2
    · exact vpow_shape A B L n F.length c d X w ha s h1
  · exact vpow_bad A B L F.length c d w ha h

end Go.Proofs.Ytldkamhknaflbaa
