/- Several texts, one behind the other: CpC2, RowsG, ShM, DeFact, CpFact, MatC3, MatI, Rnd, MtTurn, KeN, InC1, Oth, OthM, MiC, MiC2, InC2, InF0, MtAdd, MtMul, MtPow, MtFact, Told, ErrK, ErrG, CpBoth. -/
import Derived.Test.YtologiinkilooaaDoorCharBothProofG2
import Derived.Test.YtologiinkilooaaDoorCharBothProofG1
import Derived.RangeFuncNested
import Derived.RangeFuncBound
import Derived.RangeFuncCalls
import Derived.RangeFuncLeaves
import Derived.Shelf.Abstract
import Derived.WalkKit
import Derived.OwnWalkIn
import Derived.TacticsInMore
import Derived.LoopNIn
import Derived.LoopIn
import Derived.OrdersIn
import Derived.StillTailTactics
import Derived.Deep.RegionHeld3
import Derived.Deep.Cut
import Derived.Deep.CutRange
import Derived.Deep.DeepCutAuto
import Derived.RangeFuncWrites
import Derived.Maps.AppendAt
import Derived.BigQuiet
import Derived.Test.YtologiinkilooaaDoorProg
import Derived.LaidEql
import Derived.Stop.Asserts
import Derived.RowKitTokens
import Derived.Handy
import Derived.ProofKit
import Derived.OpenShut
import Derived.Lib.Hide

/- Contracts of package charpoly, second part: Trace, Of. -/
namespace Go.Proofs.YtologiinkilooaaDoor
open Go.ChangeShapes Go.WideShapes Go.ChangeAt Go.RowKit
set_option linter.unusedVariables false

theorem Trace_bad (A : Option Addr) (m : List (List Int)) (n d : Nat) (w : World) (ha : LiesM w A m) (hn : m.length = n) (h : qcode 5 0 9972 m ≠ 0) :
    Calls Tryd.prog 8 #[.slice A n d] w fun e w' => e = .returned (.tuple #[.int .i64 0, errOf (qcode 5 0 9972 m)]) ∧ Kp w w' := by
  have CK := Lib.hid (fun w (ha : LiesM w A m) => DChk_any A m n d w ha hn)
  rw [errOf_ne _ h] at CK ⊢
  generalize qcode 5 0 9972 m = z at *
  have HA := Lib.hid ha
  clear ha h hn
  go_enter Tryd.func8, Tryd.ntmps8
  go_wp2_with fail
  refine (CK.out _ HA.out).mono ?_; rintro e w' ⟨rfl, rfl⟩
  go_wp2_with fail
  go_ret2
  exact ⟨rfl, Kp.rfl' _⟩

set_option maxRecDepth 100000 in
set_option maxHeartbeats 1600000 in
theorem Trace_ok (A : Option Addr) (f : Nat → Nat → Fp.F) (n d : Nat) (w : World) (ha : LiesM w A (Mx.matl n n f)) (h0 : 0 < n) (hn : n ≤ 5) :
    Calls Tryd.prog 8 #[.slice A n d] w fun e w' => e = .returned (.tuple #[.int .i64 ((Mx.sg n fun i => f i i).val : Int), .nilIface]) ∧ Kp w w' := by
  have CK := Lib.hid (fun w (ha : LiesM w A (Mx.matl n n f)) => DChk_any A (Mx.matl n n f) n d w ha (Mx.len_matl _ _ _))
  rw [qcode_matl f h0 hn, errOf_zero] at CK
  have HA := Lib.hid ha
  clear ha h0
  go_enter Tryd.func8, Tryd.ntmps8
  go_wp2_with fail
  refine (CK.out _ HA.out).mono ?_; rintro e w' ⟨rfl, rfl⟩
  go_wp2_with fail
  go_loop [5, 6, 7, 15] (fun s _ _ i => ∃ (k : Nat) (z : Int), k ≤ n ∧ i = .int .i64 (k : Int) ∧ s = .int .i64 z ∧ 0 ≤ z ∧ z ≤ 9972 * k ∧ Fp.ofInt z = Mx.sg k fun i => f i i) (fun _ _ _ i => n - (intOf i).toNat)
  case atStart => exact ⟨0, 0, Nat.zero_le _, rfl, rfl, by omega, by omega, rfl⟩
  case round =>
    obtain ⟨k, z, hk, rfl, rfl, z0, z1, hz⟩ := hrel
    have HZ := Lib.hid hz
    clear hz
    by_cases hlt : k < n
    · obtain ⟨ad, A1, d1, rfl, _, x1, _, l1⟩ := HA.out.row hlt
      obtain ⟨bd, rfl, _, x2⟩ := l1.el hlt
      have hb := cval (f k k)
      have HF := Lib.hid (show Fp.ofInt (z + ((f k k).val : Int)) = Mx.sg (k + 1) fun i => f i i by rw [Fp.ofInt_add, HZ.out, Fp.ofInt_self, Mx.sg_succ])
      generalize ((f k k).val : Int) = v at *
      have hw : IntKind.i64.wrap (z + v) = z + v := IntWalk.i64_in _ (by omega)
      clear l1
      go_wp2_with fail
      go_round
      case rel => exact ⟨k + 1, z + v, by omega, by go_num, rfl, by omega, by omega, HF.out⟩
      case measure => simp [intOf]; omega
    · obtain rfl : k = n := by omega
      have HM := Lib.hid (show z % 9973 = ((Mx.sg k fun i => f i i).val : Int) by rw [← HZ.out, Fp.ofInt_val])
      go_wp2_with fail
      go_ret2
      refine ⟨?_, Kp.rfl' _⟩
      show Ending.returned (.tuple #[.int .i64 (z % 9973), .nilIface]) = _
      rw [HM.out]

theorem COf_bad (A : Option Addr) (m : List (List Int)) (n d : Nat) (w : World) (ha : LiesM w A m) (hn : m.length = n) (h : qcode 5 0 9972 m ≠ 0) :
    Calls Tryd.prog 10 #[.slice A n d] w fun e w' => Fails (qcode 5 0 9972 m) w e w' := by
  have CK := Lib.hid (fun w (ha : LiesM w A m) => DChk_any A m n d w ha hn)
  unfold Fails
  rw [errOf_ne _ h] at CK ⊢
  generalize qcode 5 0 9972 m = z at *
  have HA := Lib.hid ha
  clear ha h hn
  go_enter Tryd.func10, Tryd.ntmps10
  go_wp2_with fail
  refine (CK.out _ HA.out).mono ?_; rintro e w' ⟨rfl, rfl⟩
  go_wp2_with fail
  go_ret2
  exact ⟨rfl, Kp.rfl' _⟩

theorem vals_snoc (p : List Fp.F) (a : Fp.F) : Pol.vals (p ++ [a]) = Pol.vals p ++ [(a.val : Int)] := by simp [Pol.vals]

set_option maxRecDepth 100000 in
set_option maxHeartbeats 3200000 in
theorem COf_ok (A : Option Addr) (f : Nat → Nat → Fp.F) (n d : Nat) (w : World) (ha : LiesM w A (Mx.matl n n f)) (h0 : 0 < n) (hn : n ≤ 5) :
    Calls Tryd.prog 10 #[.slice A n d] w fun e w' => Gives (Mx.chl n f) w e w' := by
  have CK := Lib.hid (fun w (ha : LiesM w A (Mx.matl n n f)) => DChk_any A (Mx.matl n n f) n d w ha (Mx.len_matl _ _ _))
  rw [qcode_matl f h0 hn, errOf_zero] at CK
  have HA := Lib.hid ha
  have DI := Lib.hid (fun (x : Nat) (hx : x ≤ 5) w1 (k : Kp w w1) => difference_any A f n d x w1 (ha.keep k) hn hx)
  have OF := Lib.hid (fun (x g : Nat) w1 h => Of_ok (some ⟨g, 0, none⟩) (Mx.chm f (Fp.ofInt (x : Int))) n n w1 h h0 hn)
  have TH := Lib.hid (fun (X Y : Option Addr) (c1 c2 : Nat) w1 h1 h2 (hc : n + 1 ≤ c1) => through_ok X Y (Mx.upto (n + 1)) (Mx.cdet n f (n + 1)) (n + 1) c1 c2 w1 h1 h2 (Mx.len_upto _).symm (Mx.len_cdet _ _ _).symm (by omega) hc (Mx.upto_apart (Nat.le_refl _) (by omega)))
  rw [Mx.thr_chl (by omega)] at TH
  clear ha h0
  go_enter Tryd.func10, Tryd.ntmps10
  go_wp2_with fail
  refine (CK.out _ HA.out).mono ?_; rintro e w' ⟨rfl, rfl⟩
  have hwn : IntKind.i64.wrap ((n : Int) + 1) = (n : Int) + 1 := IntWalk.i64_in _ (by omega)
  go_wp2_with fail
  go_loopw [2, 3, 5, 6, 7, 8, 9, 18] (fun _ _ V1 V2 _ _ _ i wr => ∃ k : Nat, k ≤ n + 1 ∧ i = .int .i64 (k : Int) ∧ Two w V1 V2 (Pol.vals (Mx.upto k)) (Pol.vals (Mx.cdet n f k)) wr) (fun _ _ _ _ _ _ _ i _ => n + 1 - (intOf i).toNat)
  case atStart => exact ⟨0, Nat.zero_le _, rfl, ⟨Own.none _ _, Own.none _ _, fun g e => (by cases e), Kp.rfl' _⟩⟩
  case round =>
    obtain ⟨k, hk, rfl, ht⟩ := hrel
    have HT := Lib.hid ht
    clear ht
    by_cases hlt : k < n + 1
    · have hlt' : (k : Int) < (n : Int) + 1 := by omega
      have DI1 := Lib.hid (DI.out k (by omega) wr HT.out.kp)
      have HR1 := Lib.hid (show Pol.vals (Mx.upto (k + 1)) = Pol.vals (Mx.upto k) ++ [(k : Int)] by rw [Mx.upto_succ, vals_snoc, Fp.ofInt_of _ (by omega) (by omega)])
      obtain ⟨y, hy⟩ : ∃ y, y = ((Mx.dt n (Mx.chm f (Fp.ofInt (k : Int)))).val : Int) := ⟨_, rfl⟩
      have HR2 := Lib.hid (show Pol.vals (Mx.cdet n f (k + 1)) = Pol.vals (Mx.cdet n f k) ++ [y] by rw [Mx.cdet_succ, vals_snoc, hy])
      have OF1 := Lib.hid (OF.out k)
      rw [← hy] at OF1
      have hl1 : (Pol.vals (Mx.upto k)).length + 1 ≤ 17000000000000 := by rw [Pol.len_vals, Mx.len_upto]; omega
      have hl2 : (Pol.vals (Mx.cdet n f k)).length + 1 ≤ 17000000000000 := by rw [Pol.len_vals, Mx.len_cdet]; omega
      have HL1 := Lib.hid hl1
      have HL2 := Lib.hid hl2
      obtain ⟨r1, hr1⟩ : ∃ r, r = Pol.vals (Mx.upto k) := ⟨_, rfl⟩
      obtain ⟨r2, hr2⟩ : ∃ r, r = Pol.vals (Mx.cdet n f k) := ⟨_, rfl⟩
      rw [← hr1] at HT HR1 HL1
      rw [← hr2] at HT HR2 HL2
      clear hl1 hl2 hr1 hr2 hy
      go_wp2_with fail
      refine (DI1.out).mono ?_; rintro e w1 ⟨g, rfl, hl, k1⟩
      have HLx := Lib.hid hl
      have HT1 := Lib.hid (show Two w _ _ r1 r2 w1 from ⟨HT.out.one.kp k1, HT.out.two.kp k1, HT.out.apart, HT.out.kp.trans k1⟩)
      clear hl k1 HT DI1
      go_wp2_with fail
      refine (OF1.out g w1 HLx.out).mono ?_; rintro e w2 ⟨rfl, k2⟩
      have HT2 := Lib.hid (show Two w _ _ r1 r2 w2 from ⟨HT1.out.one.kp k2, HT1.out.two.kp k2, HT1.out.apart, HT1.out.kp.trans k2⟩)
      have hs2 := HT2.out.kp.size
      clear k2 HT1 HLx OF1
      go_wp2_with (first
        | (at_builtin; refine wpList_push rfl _ _ rfl w.heap.size _ r1 (k : Int) w2.heap.size 1 rfl rfl (HT2.out.one.new _) (by simp) HL1.out (by simp; omega) ?_; intro v3 w3 h1 h2 h3; have TW := Lib.hid ((HT2.out.new _).grown h1 h2 h3); have hs3 := TW.out.kp.size; clear h1 h2 h3)
        | (at_builtin; refine wpList_push rfl _ _ rfl w.heap.size _ r2 y w3.heap.size 1 rfl rfl (TW.out.two.new _) (by simp) HL2.out (by simp; omega) ?_; intro v4 w4 h1 h2 h3; have TZ := Lib.hid (((TW.out.symm).new _).grown h1 h2 h3).symm; clear h1 h2 h3))
      go_roundw
      case rel => exact ⟨k + 1, by omega, by go_num, by rw [HR1.out, HR2.out]; exact TZ.out⟩
      case measure => simp [intOf]; omega
    · obtain rfl : k = n + 1 := by omega
      obtain ⟨g1, c1, e1, _, hc1⟩ := own_some HT.out.one (by rw [Pol.len_vals, Mx.len_upto]; omega)
      obtain ⟨X, _, e1', L1⟩ := HT.out.one.lies
      obtain ⟨Y, c2, e2, L2⟩ := HT.out.two.lies
      rw [Pol.len_vals, Mx.len_upto] at e1 hc1 e1'
      rw [Pol.len_vals, Mx.len_cdet] at e2
      rw [e1] at e1'
      cases e1'
      subst e1 e2
      have hlt' : ¬ (((n + 1 : Nat) : Int) < (n : Int) + 1) := by omega
      have K3 := Lib.hid HT.out.kp
      have T1 := Lib.hid (TH.out _ Y c1 c2 wr L1 L2 hc1)
      clear HT L1 L2
      go_wp2_with fail
      refine (T1.out).mono ?_; rintro e w2 ⟨Z, cz, rfl, hz, hcz, k2⟩
      have HZ := Lib.hid hz
      have HCZ := Lib.hid hcz
      have K4 := Lib.hid (K3.out.trans k2)
      clear hz hcz k2 K3
      go_wp2_with fail
      go_ret2
      exact ⟨Z, cz, rfl, HZ.out, HCZ.out, K4.out⟩
end Go.Proofs.YtologiinkilooaaDoor

/- Comparing rows and matrices, small matrices just laid down: for all packages. -/
namespace Go.Proofs.YtologiinkilooaaDoor
open Go.ChangeShapes Go.WideShapes Go.ChangeAt Go.RowKit
set_option linter.unusedVariables false

set_option maxHeartbeats 1600000 in
theorem ints_drew (A B : Option Addr) (l m : List Int) (c d : Nat) (w : World) (ha : Lies w A l) (hb : Lies w B m) (hn : l.length ≤ 1000000) (hm : m.length ≤ 1000000) :
    Calls Tryd.prog 11 #[.slice A l.length c, .slice B m.length d] w fun e w' => Tells (l = m) e ∧ Drew w w' := by
  have HA := Lib.hid ha
  have HB := Lib.hid hb
  obtain ⟨n, hn'⟩ : ∃ n, n = l.length := ⟨_, rfl⟩
  obtain ⟨q, hq'⟩ : ∃ q, q = m.length := ⟨_, rfl⟩
  rw [← hn'] at hn ⊢
  rw [← hq'] at hm ⊢
  have HN := Lib.hid hn'
  have HQ := Lib.hid hq'
  clear ha hb hn' hq'
  by_cases he : n = q
  · subst he
    have hne : ((n : Int) != (n : Int)) = false := by simp
    go_enter Tryd.func11, Tryd.ntmps11
    go_wp2_with fail
    go_loopw [5] (fun i wr => ∃ k : Nat, k ≤ n ∧ i = .int .i64 (k : Int) ∧ (∀ j, j < k → l.getD j 0 = m.getD j 0) ∧ Drew w wr) (fun i _ => n - (intOf i).toNat)
    case atStart => exact ⟨0, Nat.zero_le _, rfl, fun j hj => absurd hj (by omega), Drew.refl _⟩
    case round =>
      obtain ⟨k, hk, rfl, hg, hkp⟩ := hrel
      have HG := Lib.hid hg
      have HK := Lib.hid hkp
      clear hg hkp
      by_cases hlt : k < n
      · obtain ⟨ad, rfl, _, hc⟩ := (HA.out.keep HK.out.kp) k (by have := HN.out; omega)
        obtain ⟨bd, rfl, _, hd⟩ := (HB.out.keep HK.out.kp) k (by have := HQ.out; omega)
        obtain ⟨x, hx⟩ : ∃ x, x = l.getD k 0 := ⟨_, rfl⟩
        obtain ⟨y, hy⟩ : ∃ y, y = m.getD k 0 := ⟨_, rfl⟩
        rw [← hx] at hc
        rw [← hy] at hd
        by_cases hxy : x = y
        · have GG := Lib.hid (show ∀ j, j < k + 1 → l.getD j 0 = m.getD j 0 from fun j hj => by
            by_cases e : j = k
            · subst e; rw [← hx, ← hy]; exact hxy
            · exact HG.out j (by omega))
          have hb : (x != y) = false := by rw [hxy]; simp
          clear hx hy hxy
          go_wp2_with fail
          go_quiet (fail)
          go_wp2_with fail
          go_roundw
          case rel => exact ⟨k + 1, by omega, by go_num, GG.out, HK.out.more _⟩
          case measure => simp [intOf]; omega
        · have NF := Lib.hid (show ¬ l = m from fun e => hxy (by rw [hx, hy, e]))
          have hb : (x != y) = true := by rw [bne_iff_ne]; exact hxy
          clear hx hy hxy
          go_wp2_with fail
          go_quiet (fail)
          go_wp2_with fail
          go_ret
          exact ⟨.inr ⟨NF.out, rfl⟩, HK.out.more _⟩
      · have YES := Lib.hid (show l = m from list_same l m (by rw [← HN.out, ← HQ.out]) fun j hj => HG.out j (by have := HN.out; omega))
        go_wp2_with fail
        go_ret
        exact ⟨.inl ⟨YES.out, rfl⟩, HK.out⟩
  · have hne : ((n : Int) != (q : Int)) = true := by rw [bne_iff_ne]; omega
    have NF := Lib.hid (show ¬ l = m from fun e => he (by rw [HN.out, HQ.out, e]))
    clear he
    go_enter Tryd.func11, Tryd.ntmps11
    go_wp2_with fail
    go_ret
    exact ⟨.inr ⟨NF.out, rfl⟩, Drew.refl _⟩
theorem rows_same (a b : List (List Int)) (h : a.length = b.length) (h2 : ∀ k, k < a.length → a.getD k [] = b.getD k []) : a = b := by
  refine List.ext_getElem h fun k h3 h4 => ?_
  have := h2 k h3
  rwa [List.getD_eq_getElem?_getD, List.getD_eq_getElem?_getD, List.getElem?_eq_getElem h3, List.getElem?_eq_getElem h4] at this

/-- No row is longer than a slice may be. -/
def Modest (m : List (List Int)) : Prop := m.length ≤ 1000000 ∧ ∀ k, k < m.length → (m.getD k []).length ≤ 1000000
theorem modest_tab {r c : Nat} (g : Nat → Nat → Int) (hr : r ≤ 1000000) (hc : c ≤ 1000000) : Modest (Mx.tab r c g) :=
  ⟨by rw [Mx.len_tab]; exact hr, fun k hk => by rw [Mx.len_tab] at hk; rw [Mx.tab_len _ _ _ _ hk]; exact hc⟩
theorem modest_nil : Modest [] := ⟨by decide, fun k hk => absurd hk (by simp)⟩


theorem cell_just (w : World) (cs : Array Value) (e : TypeId) (g k : Nat) (h : g = w.heap.size) : (w.alloc (.cells cs e)).cell? ⟨g, k, none⟩ = cs[k]? := by
  subst h
  exact cell_of_row _ _ k _ e (0, 0) (heap_alloc_new w _)
/-- What came in: the rows up to the capacity, each with its numbers up to its own; its rows are the first of them. -/
theorem liesM_open {w : World} {a : Addr} {len cap : Nat} {A : Nat → Option Addr} {L C : Nat → Nat} {Z : Nat → List Int} (hl : len ≤ cap)
    (h : ∀ r, r < cap → w.cell? (a.add r) = some (.slice (A r) (L r) (C r)) ∧ L r ≤ C r ∧ C r ≤ maxLen ∧ (Z r).length = C r ∧ (∀ n ∈ Z r, (Lit.int .i64 n).wf = true) ∧ (A r = none → C r = 0) ∧
      ∀ a', A r = some a' → 0 ≤ a'.block ∧ ∀ c, c < C r → w.cell? (a'.add c) = some (.int .i64 ((Z r).getD c 0))) :
    ((List.range len).map fun r => (Z r).take (L r)).length = len ∧ LiesM w (some a) ((List.range len).map fun r => (Z r).take (L r)) := by
  refine ⟨by simp, fun k hk => ?_⟩
  have hk' : k < len := by simpa using hk
  obtain ⟨h1, h2, _, h4, _, h6, h7⟩ := h k (by omega)
  have e : ((List.range len).map fun r => (Z r).take (L r)).getD k [] = (Z k).take (L k) := by simp [hk']
  have el : ((Z k).take (L k)).length = L k := by rw [List.length_take]; omega
  rw [e, el]
  refine ⟨a, A k, C k, rfl, ?_, h1, h2, ?_⟩
  · have := cell_lt h1; rwa [block_add] at this
  · cases hA : A k with
    | none =>
      intro j hj
      have := h6 hA
      rw [el] at hj
      omega
    | some a' => exact (lies_take (w := w) (x := a') h2 h4 (fun i hi => (h7 a' hA).2 i (by omega))).2
/-- Two rows of two, and the heads of both, just laid down. -/
def laid22 (w : World) (x : Nat → Nat → Int) : World :=
  ((w.alloc (.cells #[.int .i64 (x 0 0), .int .i64 (x 0 1)] 3)).alloc (.cells #[.int .i64 (x 1 0), .int .i64 (x 1 1)] 3)).alloc (.cells #[.slice (some ⟨w.heap.size, 0, none⟩) 2 2, .slice (some ⟨w.heap.size + 1, 0, none⟩) 2 2] 24)
theorem laid22_kp (w : World) (x : Nat → Nat → Int) : Kp w (laid22 w x) := (((Kp.rfl' w).new _).new _).new _
theorem laid22_size (w : World) (x : Nat → Nat → Int) : (laid22 w x).heap.size = w.heap.size + 3 := by simp [laid22]
theorem laid22_lies (w : World) (x : Nat → Nat → Int) : LiesM (laid22 w x) (some ⟨w.heap.size + 2, 0, none⟩) (Mx.tab 2 2 x) := by
  have h0 : Lies (w.alloc (.cells #[.int .i64 (x 0 0), .int .i64 (x 0 1)] 3)) (some ⟨w.heap.size, 0, none⟩) (Mx.row 2 (x 0)) := lies_new' w _ [x 0 0, x 0 1] _ rfl
  have h1 : Lies ((w.alloc (.cells #[.int .i64 (x 0 0), .int .i64 (x 0 1)] 3)).alloc (.cells #[.int .i64 (x 1 0), .int .i64 (x 1 1)] 3)) (some ⟨w.heap.size + 1, 0, none⟩) (Mx.row 2 (x 1)) :=
    lies_new' (w.alloc _) _ [x 1 0, x 1 1] _ (by simp)
  have k2 := ((Kp.rfl' (w.alloc (.cells #[.int .i64 (x 0 0), .int .i64 (x 0 1)] 3))).new (.cells #[.int .i64 (x 1 0), .int .i64 (x 1 1)] 3)).new (.cells #[.slice (some ⟨w.heap.size, 0, none⟩) 2 2, .slice (some ⟨w.heap.size + 1, 0, none⟩) 2 2] 24)
  have k3 := (Kp.rfl' ((w.alloc (.cells #[.int .i64 (x 0 0), .int .i64 (x 0 1)] 3)).alloc (.cells #[.int .i64 (x 1 0), .int .i64 (x 1 1)] 3))).new (.cells #[.slice (some ⟨w.heap.size, 0, none⟩) 2 2, .slice (some ⟨w.heap.size + 1, 0, none⟩) 2 2] 24)
  have hs : w.heap.size + 2 < (laid22 w x).heap.size := by rw [laid22_size]; omega
  intro k hk
  rw [Mx.len_tab] at hk
  match k, hk with
  | 0, _ => exact ⟨_, some ⟨w.heap.size, 0, none⟩, 2, rfl, hs, by rw [add_at]; unfold laid22; rw [cell_just _ _ _ _ _ (by simp)]; simp [Mx.tab, Mx.row], by simp [Mx.tab, Mx.row], h0.keep k2⟩
  | 1, _ => exact ⟨_, some ⟨w.heap.size + 1, 0, none⟩, 2, rfl, hs, by rw [add_at]; unfold laid22; rw [cell_just _ _ _ _ _ (by simp)]; simp [Mx.tab, Mx.row], by simp [Mx.tab, Mx.row], h1.keep k3⟩

def n22 (a b c d : Int) : Nat → Nat → Int := fun i j => if i = 0 then (if j = 0 then a else b) else (if j = 0 then c else d)
/-- The same with the numbers and the block as they stand in a walk. -/
abbrev lit22 (w : World) (g : Nat) (a b c d : Int) : World :=
  ((w.alloc (.cells #[.int .i64 a, .int .i64 b] 3)).alloc (.cells #[.int .i64 c, .int .i64 d] 3)).alloc (.cells #[.slice (some ⟨g, 0, none⟩) 2 2, .slice (some ⟨g + 1, 0, none⟩) 2 2] 24)
theorem lit22_lies (w : World) (g : Nat) (a b c d : Int) (h : g = w.heap.size) : LiesM (lit22 w g a b c d) (some ⟨g + 1 + 1, 0, none⟩) (Mx.tab 2 2 (n22 a b c d)) := by
  subst h
  exact laid22_lies w (n22 a b c d)
theorem lit22_kp (w : World) (g : Nat) (a b c d : Int) : Kp w (lit22 w g a b c d) := (((Kp.rfl' w).new _).new _).new _
theorem lit22_size (w : World) (g : Nat) (a b c d : Int) : (lit22 w g a b c d).heap.size = w.heap.size + 1 + 1 + 1 := by simp [lit22]

end Go.Proofs.YtologiinkilooaaDoor

/- Good matrices, as package mat wants them. For all packages on matrices. -/
namespace Go.Proofs.YtologiinkilooaaDoor
set_option linter.unusedVariables false

def f22 (a b c d : Fp.F) : Nat → Nat → Fp.F := fun i j => if i = 0 then (if j = 0 then a else b) else (if j = 0 then c else d)
/-- A matrix of r rows and c columns, as package mat wants it. -/
structure Sh (r c : Nat) (f : Nat → Nat → Fp.F) (m : List (List Int)) : Prop where
  eq : m = Mx.matl r c f
  r0 : 0 < r
  r5 : r ≤ 5
  c0 : 0 < c
  c5 : c ≤ 5
theorem Sh.len {r c : Nat} {f : Nat → Nat → Fp.F} {m : List (List Int)} (h : Sh r c f m) : m.length = r := by rw [h.eq, Mx.len_matl]
theorem Sh.mat {r c : Nat} {f : Nat → Nat → Fp.F} {m : List (List Int)} (h : Sh r c f m) : Sh r c f (Mx.matl r c f) := ⟨rfl, h.r0, h.r5, h.c0, h.c5⟩
theorem sh_or (m : List (List Int)) : (Mx.mcode 5 0 9972 m = 0 ∧ ∃ r c f, Sh r c f m) ∨ Mx.mcode 5 0 9972 m ≠ 0 := by
  by_cases h : Mx.mcode 5 0 9972 m = 0
  · obtain ⟨r, c, f, e, h1, h2, h3, h4⟩ := Mx.mcode_zero h
    exact .inl ⟨h, r, c, f, ⟨e, h1, h2, h3, h4⟩⟩
  · exact .inr h
theorem Sh.code {r c : Nat} {f : Nat → Nat → Fp.F} {m : List (List Int)} (h : Sh r c f m) : Mx.mcode 5 0 9972 m = 0 := by
  rw [h.eq]; exact Mx.mcode_matl f h.r0 h.r5 h.c0 h.c5

theorem Sh.mul {r q k : Nat} {f f' : Nat → Nat → Fp.F} {a b : List (List Int)} (sa : Sh r q f a) (sb : Sh q k f' b) : Sh r k (Mx.mul q f f') (Mx.matl r k (Mx.mul q f f')) := ⟨rfl, sa.r0, sa.r5, sb.c0, sb.c5⟩
theorem Sh.flip {r q : Nat} {f : Nat → Nat → Fp.F} {a : List (List Int)} (sa : Sh r q f a) : Sh q r (Mx.flip f) (Mx.matl q r (Mx.flip f)) := ⟨rfl, sa.c0, sa.c5, sa.r0, sa.r5⟩
theorem Sh.plus {r q : Nat} {f f' : Nat → Nat → Fp.F} {a : List (List Int)} (sa : Sh r q f a) : Sh r q (Mx.plus f f') (Mx.matl r q (Mx.plus f f')) := ⟨rfl, sa.r0, sa.r5, sa.c0, sa.c5⟩
theorem Sh.pow {r : Nat} {f : Nat → Nat → Fp.F} {a : List (List Int)} (sa : Sh r r f a) (k : Nat) : Sh r r (Mx.pwm r f k) (Mx.matl r r (Mx.pwm r f k)) := ⟨rfl, sa.r0, sa.r5, sa.c0, sa.c5⟩
theorem Sh.one {r q : Nat} {f : Nat → Nat → Fp.F} {a : List (List Int)} (sa : Sh r q f a) : Sh r r Mx.one (Mx.matl r r Mx.one) := ⟨rfl, sa.r0, sa.r5, sa.r0, sa.r5⟩
theorem Sh.modest {r q : Nat} {f : Nat → Nat → Fp.F} {a : List (List Int)} (sa : Sh r q f a) : Modest a := by
  rw [sa.eq]; exact modest_tab _ (Nat.le_trans sa.r5 (by decide)) (Nat.le_trans sa.c5 (by decide))

end Go.Proofs.YtologiinkilooaaDoor

/- What det says of whatever comes in; its closed fact. -/
namespace Go.Proofs.YtologiinkilooaaDoor
open Go.ChangeShapes Go.WideShapes Go.ChangeAt Go.RowKit
set_option linter.unusedVariables false

theorem sq_or (m : List (List Int)) {n : Nat} (hn : m.length = n) : (∃ f, Sh n n f m) ∨ qcode 5 0 9972 m ≠ 0 := by
  by_cases h : qcode 5 0 9972 m = 0
  · obtain ⟨h1, h2⟩ := qcode_zero h
    obtain ⟨r, c, f, e, r0, r5, c0, c5⟩ := Mx.mcode_zero h1
    have hr : r = n := by rw [← hn, e, Mx.len_matl]
    have hc : c = n := by
      rw [e, Mx.len_matl] at h2
      rw [← hr, h2]
      exact (Mx.tab_len r c _ 0 r0).symm
    subst hr hc
    exact .inl ⟨f, e, r0, r5, c0, c5⟩
  · exact .inr h
theorem Sh.code2 {n : Nat} {f : Nat → Nat → Fp.F} {m : List (List Int)} (h : Sh n n f m) : qcode 5 0 9972 m = 0 := by
  rw [h.eq]; exact qcode_matl f h.r0 h.r5

theorem Of_or (A : Option Addr) (m : List (List Int)) (n d : Nat) (hn : m.length = n) :
    (∃ f, Sh n n f m) ∨ ∀ (w : World), LiesM w A m → Calls Tryd.prog 19 #[.slice A n d] w fun e w' => ∃ z : Nat, e = .returned (.tuple #[.int .i64 0, .iface 43 (.int .i64 (z : Int))]) ∧ Kp w w' := by
  rcases sq_or m hn with h | h
  · exact .inl h
  · exact .inr fun w ha => ((Of_bad A m n d w ha hn h).mono fun e w' h' => ⟨qcode 5 0 9972 m, by rw [h'.1, errOf_ne _ h], h'.2⟩)
theorem Of_sh {A : Option Addr} {m : List (List Int)} {n : Nat} {f : Nat → Nat → Fp.F} (s : Sh n n f m) (d : Nat) (w : World) (ha : LiesM w A m) :
    Calls Tryd.prog 19 #[.slice A n d] w fun e w' => e = .returned (.tuple #[.int .i64 ((Mx.dt n f).val : Int), .nilIface]) ∧ Kp w w' := by
  rw [s.eq] at ha
  exact Of_ok A f n d w ha s.r0 s.r5

def fdet : Nat → Nat → Fp.F := f22 1 2 3 4
theorem fdet_mat : Mx.tab 2 2 (n22 1 2 3 4) = Mx.matl 2 2 fdet := by decide +kernel
theorem fdet_val : ((Mx.dt 2 fdet).val : Int) = 9971 := by decide +kernel
theorem sp_10 : Mx.sp 2 (fun i => [(1 : Int), 0].getD i 0) = -1 := by decide +kernel
theorem sp_11 : Mx.sp 2 (fun i => [(1 : Int), 1].getD i 0) = 0 := by decide +kernel


end Go.Proofs.YtologiinkilooaaDoor

/- What the laws on package charpoly share: the closed fact, the cases, what a row of factors holds. -/
namespace Go.Proofs.YtologiinkilooaaDoor
open Go.ChangeShapes Go.WideShapes Go.ChangeAt Go.RowKit
set_option linter.unusedVariables false

theorem minus_mod (d : Fp.F) : (-(d.val : Int)) % 9973 = ((-d : Fp.F).val : Int) := by
  rw [← Fp.ofInt_val]
  congr 2
  have h2 := Fp.ofInt_add (-(d.val : Int)) (d.val : Int)
  rw [Fp.ofInt_self, show -(d.val : Int) + (d.val : Int) = 0 by omega, show Fp.ofInt 0 = 0 from by decide] at h2
  grind
theorem val_mod (d : Fp.F) : (d.val : Int) % 9973 = (d.val : Int) := by have := d.isLt; omega
theorem vals_el {w : World} {A : Option Addr} {p : List Fp.F} (h : Lies w A (Pol.vals p)) {k : Nat} (hk : k < p.length) : ∃ ad, A = some ad ∧ ad.block < w.heap.size ∧ w.cell? (ad.add k) = some (.int .i64 ((Pol.co p k).val : Int)) := by
  obtain ⟨ad, e, hl, hc⟩ := h k (by rw [Pol.len_vals]; exact hk)
  rw [Pol.vals_at] at hc
  exact ⟨ad, e, hl, hc⟩
theorem chl_el {w : World} {A : Option Addr} {n : Nat} {f : Nat → Nat → Fp.F} (h : Lies w A (Pol.vals (Mx.chl n f))) {k : Nat} (hk : k ≤ n) : ∃ ad, A = some ad ∧ ad.block < w.heap.size ∧ w.cell? (ad.add k) = some (.int .i64 ((Mx.ch n f k).val : Int)) := by
  obtain ⟨ad, e, hl, hc⟩ := vals_el h (k := k) (by rw [Mx.len_chl]; omega)
  rw [Mx.co_chl f hk] at hc
  exact ⟨ad, e, hl, hc⟩

/-- A row of factors is the answer. -/
def GivesCh (n : Nat) (f : Nat → Nat → Fp.F) (w : World) (e : Ending) (w' : World) : Prop :=
  ∃ A c, e = .returned (.tuple #[.slice A (n + 1) c, .nilIface]) ∧ Lies w' A (Pol.vals (Mx.chl n f)) ∧ n + 1 ≤ c ∧ Kp w w'

theorem COf_or (A : Option Addr) (m : List (List Int)) (n d : Nat) (hn : m.length = n) :
    (∃ f, Sh n n f m) ∨ ∀ (w : World), LiesM w A m → Calls Tryd.prog 10 #[.slice A n d] w fun e w' => ∃ z : Nat, e = .returned (.tuple #[.slice none 0 0, .iface 43 (.int .i64 (z : Int))]) ∧ Kp w w' := by
  rcases sq_or m hn with h | h
  · exact .inl h
  · exact .inr fun w ha => ((COf_bad A m n d w ha hn h).mono fun e w' h' => ⟨qcode 5 0 9972 m, by rw [h'.1, errOf_ne _ h], h'.2⟩)
theorem COf_sh {A : Option Addr} {m : List (List Int)} {n : Nat} {f : Nat → Nat → Fp.F} (s : Sh n n f m) (d : Nat) (w : World) (ha : LiesM w A m) :
    Calls Tryd.prog 10 #[.slice A n d] w fun e w' => GivesCh n f w e w' := by
  rw [s.eq] at ha
  refine (COf_ok A f n d w ha s.r0 s.r5).mono fun e w' h => ?_
  unfold Gives at h
  rw [Mx.len_chl] at h
  exact h
theorem Trace_sh {A : Option Addr} {m : List (List Int)} {n : Nat} {f : Nat → Nat → Fp.F} (s : Sh n n f m) (d : Nat) (w : World) (ha : LiesM w A m) :
    Calls Tryd.prog 8 #[.slice A n d] w fun e w' => e = .returned (.tuple #[.int .i64 ((Mx.sg n fun i => f i i).val : Int), .nilIface]) ∧ Kp w w' := by
  rw [s.eq] at ha
  exact Trace_ok A f n d w ha s.r0 s.r5
theorem Trace_or (A : Option Addr) (m : List (List Int)) (n d : Nat) (hn : m.length = n) :
    (∃ f, Sh n n f m) ∨ ∀ (w : World), LiesM w A m → Calls Tryd.prog 8 #[.slice A n d] w fun e w' => ∃ z : Nat, e = .returned (.tuple #[.int .i64 0, .iface 43 (.int .i64 (z : Int))]) ∧ Kp w w' := by
  rcases sq_or m hn with h | h
  · exact .inl h
  · exact .inr fun w ha => ((Trace_bad A m n d w ha hn h).mono fun e w' h' => ⟨qcode 5 0 9972 m, by rw [h'.1, errOf_ne _ h], h'.2⟩)

theorem fch_val : Pol.vals (Mx.chl 2 fdet) = [9971, 9968, 1] := by decide +kernel

set_option maxRecDepth 100000 in
set_option maxHeartbeats 1600000 in
theorem charFact_any (w : World) : Calls Tryd.prog 12 #[] w fun e w' => e = .returned (.bool true) ∧ Kp w w' := by
  have A1 : LiesM (lit22 w w.heap.size 1 2 3 4) (some ⟨w.heap.size + 1 + 1, 0, none⟩) (Mx.matl 2 2 fdet) := by
    rw [← fdet_mat]; exact lit22_lies w _ 1 2 3 4 rfl
  have O1 := Lib.hid (COf_ok _ fdet 2 2 _ A1 (by decide) (by decide))
  unfold Gives at O1
  rw [fch_val, Mx.len_chl] at O1
  clear A1
  go_enter Tryd.func12, Tryd.ntmps12
  go_wp2_with fail
  refine (O1.out).mono ?_; rintro e w1 ⟨Z, cz, rfl, hz, hcz, k1⟩
  have K1 := Lib.hid ((lit22_kp w w.heap.size 1 2 3 4).trans k1)
  have HZ := Lib.hid hz
  clear k1 O1 hz hcz
  go_wp2_with fail
  refine (same_eq Z _ _ _ 3 3 cz 3 _ (HZ.out.keep ((Kp.rfl' w1).new _)) (lies_new w1 3 [9971, 9968, 1]) rfl rfl (by decide) rfl).mono ?_; rintro e w2 ⟨rfl, k2⟩
  have K2 := Lib.hid ((K1.out.new _).trans k2)
  clear k2
  go_wp2_with fail
  go_ret
  exact ⟨rfl, K2.out⟩
end Go.Proofs.YtologiinkilooaaDoor

/- Plain facts: a product has the same factors the other way round (Sylvester); a matrix takes itself to noughts (Cayley, Hamilton), and what undoes it is made of its powers. No program is named here. -/
namespace Go.Proofs.YtologiinkilooaaDoor.Mx
open Fp
set_option linter.unusedVariables false

/-- Noughts to the right of the first n rows and columns. -/
theorem dt_right : ∀ (n m : Nat) (g : Nat → Nat → F), (∀ i j, i < n → n ≤ j → j < n + m → g i j = 0) → dt (n + m) g = dt n g * dt m (fun i j => g (n + i) (n + j))
  | 0, m, g, _ => by
    have e : (fun i j => g (0 + i) (0 + j)) = g := funext fun i => funext fun j => by rw [Nat.zero_add, Nat.zero_add]
    rw [Nat.zero_add, e]
    show dt m g = 1 * dt m g
    grind
  | n + 1, m, g, h => by
    rw [show n + 1 + m = n + m + 1 by omega, dt_succ, dt_succ, ← sg_by, show n + m + 1 = (n + 1) + m by omega, sg_split]
    have e2 : (sg m fun i => sgn (n + 1 + i) * g 0 (n + 1 + i) * dt (n + m) (del (n + 1 + i) g)) = 0 := by
      rw [sg_congr (g := fun _ => 0) fun i hi => by rw [h 0 (n + 1 + i) (by omega) (by omega) (by omega)]; grind, sg_none]
    rw [e2]
    have e1 : (sg (n + 1) fun j => sgn j * g 0 j * dt (n + m) (del j g)) = sg (n + 1) fun j => sgn j * g 0 j * dt n (del j g) * dt m (fun i k => g (n + 1 + i) (n + 1 + k)) := sg_congr fun j hj => by
      have := dt_right n m (del j g) fun a b ha hb hb2 => by
        show g (a + 1) (sk j b) = 0
        unfold sk; rw [if_neg (by omega)]
        exact h _ _ (by omega) (by omega) (by omega)
      have e : dt m (fun i k => del j g (n + i) (n + k)) = dt m (fun i k => g (n + 1 + i) (n + 1 + k)) := dt_congr m fun i k _ _ => by
        show g (n + i + 1) (sk j (n + k)) = _
        unfold sk; rw [if_neg (by omega)]
        congr 1 <;> omega
      rw [this, e]; grind
    rw [e1]; grind
/-- Noughts below the first n rows and columns. -/
theorem dt_below (n m : Nat) (g : Nat → Nat → F) (h : ∀ i j, n ≤ i → i < n + m → j < n → g i j = 0) : dt (n + m) g = dt n g * dt m (fun i j => g (n + i) (n + j)) := by
  rw [← dt_flip (n + m) g, dt_right n m (flip g) (fun i j hi hj hj2 => h j i hj hj2 hi), dt_flip n g]
  congr 1
  exact dt_flip m fun i j => g (n + i) (n + j)

/-- Four matrices as one. -/
def four (n : Nat) (p q r s : Nat → Nat → F) : Nat → Nat → F := fun i j => if i < n then (if j < n then p i j else q i (j - n)) else (if j < n then r (i - n) j else s (i - n) (j - n))
theorem four_mul (n : Nat) (p q r s p' q' r' s' : Nat → Nat → F) :
    mul (n + n) (four n p q r s) (four n p' q' r' s') = four n (plus (mul n p p') (mul n q r')) (plus (mul n p q') (mul n q s')) (plus (mul n r p') (mul n s r')) (plus (mul n r q') (mul n s s')) := by
  funext i j
  unfold mul
  rw [sg_split]
  unfold four
  by_cases hi : i < n
  · rw [if_pos hi]
    by_cases hj : j < n
    · rw [if_pos hj]
      unfold plus
      congr 1
      · exact sg_congr fun x hx => by rw [if_pos hi, if_pos hx, if_pos hx, if_pos hj]
      · exact sg_congr fun x hx => by rw [if_pos hi, if_neg (by omega), if_neg (by omega), if_pos hj, Nat.add_sub_cancel_left]
    · rw [if_neg hj]
      unfold plus
      congr 1
      · exact sg_congr fun x hx => by rw [if_pos hi, if_pos hx, if_pos hx, if_neg hj]
      · exact sg_congr fun x hx => by rw [if_pos hi, if_neg (by omega), if_neg (by omega), if_neg hj, Nat.add_sub_cancel_left]
  · rw [if_neg hi]
    by_cases hj : j < n
    · rw [if_pos hj]
      unfold plus
      congr 1
      · exact sg_congr fun x hx => by rw [if_neg hi, if_pos hx, if_pos hx, if_pos hj]
      · exact sg_congr fun x hx => by rw [if_neg hi, if_neg (by omega), if_neg (by omega), if_pos hj, Nat.add_sub_cancel_left]
    · rw [if_neg hj]
      unfold plus
      congr 1
      · exact sg_congr fun x hx => by rw [if_neg hi, if_pos hx, if_pos hx, if_neg hj]
      · exact sg_congr fun x hx => by rw [if_neg hi, if_neg (by omega), if_neg (by omega), if_neg hj, Nat.add_sub_cancel_left]
def zer : Nat → Nat → F := fun _ _ => 0
def ngm (f : Nat → Nat → F) : Nat → Nat → F := fun i j => -(f i j)
theorem dt_four_high (n : Nat) (p q s : Nat → Nat → F) {r : Nat → Nat → F} (hr : Eqm n n r zer) : dt (n + n) (four n p q r s) = dt n p * dt n s := by
  rw [dt_below n n _ fun i j h1 h2 h3 => by unfold four; rw [if_neg (by omega), if_pos h3, hr _ _ (by omega) h3]; rfl]
  congr 1
  · exact dt_congr n fun i j hi hj => by unfold four; rw [if_pos hi, if_pos hj]
  · exact dt_congr n fun i j hi hj => by unfold four; rw [if_neg (by omega), if_neg (by omega), Nat.add_sub_cancel_left, Nat.add_sub_cancel_left]
theorem dt_four_low (n : Nat) (p r s : Nat → Nat → F) : dt (n + n) (four n p zer r s) = dt n p * dt n s := by
  rw [dt_right n n _ fun i j h1 h2 h3 => by unfold four; rw [if_pos h1, if_neg (by omega)]; rfl]
  congr 1
  · exact dt_congr n fun i j hi hj => by unfold four; rw [if_pos hi, if_pos hj]
  · exact dt_congr n fun i j hi hj => by unfold four; rw [if_neg (by omega), if_neg (by omega), Nat.add_sub_cancel_left, Nat.add_sub_cancel_left]
theorem mul_scal (n : Nat) (d : F) (f : Nat → Nat → F) {i j : Nat} (hj : j < n) : mul n f (scal d) i j = f i j * d := by
  unfold mul scal
  rw [sg_one hj fun k _ hk => by rw [if_neg hk]; grind, if_pos rfl]
theorem scal_mul (n : Nat) (d : F) (f : Nat → Nat → F) {i j : Nat} (hi : i < n) : mul n (scal d) f i j = d * f i j := by
  unfold mul scal
  rw [sg_one hi fun k _ hk => by rw [if_neg fun e => hk e.symm]; grind, if_pos rfl]
theorem mul_ngm (n : Nat) (f g : Nat → Nat → F) (i j : Nat) : mul n f (ngm g) i j = -(mul n f g i j) := by
  have : mul n f (ngm g) i j = (-1) * mul n f g i j := by
    unfold mul; rw [← sg_times]; exact sg_congr fun k _ => by show f i k * -(g k j) = _; grind
  rw [this]; grind
theorem ngm_mul (n : Nat) (f g : Nat → Nat → F) (i j : Nat) : mul n (ngm f) g i j = -(mul n f g i j) := by
  have : mul n (ngm f) g i j = (-1) * mul n f g i j := by
    unfold mul; rw [← sg_times]; exact sg_congr fun k _ => by show -(f i k) * g k j = _; grind
  rw [this]; grind
theorem pw_ne {x : F} (h : x ≠ 0) : ∀ n, pw x n ≠ 0
  | 0 => by rw [pw_zero]; decide
  | n + 1 => fun e => by
    rw [pw_succ] at e
    rcases mul_zero_or e with e | e
    · exact pw_ne h n e
    · exact h e
theorem scal_one : scal 1 = one := rfl
theorem chm_both (n : Nat) (a b : Nat → Nat → F) (x : F) : dt n (chm (mul n a b) x) = dt n (chm (mul n b a) x) := by
  by_cases h0 : x = 0
  · have e : ∀ f : Nat → Nat → F, dt n (chm f 0) = sgn n * dt n f := fun f => by
      rw [← dt_neg]
      exact dt_congr n fun i j _ _ => by unfold chm; split <;> grind
    rw [h0, e, e, dt_mul, dt_mul]; grind
  · have m1 := dt_mul (n + n) (four n (scal x) a b (scal 1)) (four n (scal 1) zer (ngm b) (scal 1))
    have m2 := dt_mul (n + n) (four n (scal 1) zer (ngm b) (scal x)) (four n (scal x) a b (scal 1))
    rw [four_mul, dt_four_low, dt_four_high n _ _ _ (fun i j hi hj => by
      show mul n b (scal 1) i j + mul n (scal 1) (ngm b) i j = 0
      rw [mul_scal n 1 b hj, scal_mul n 1 (ngm b) hi]; show b i j * 1 + 1 * -(b i j) = 0; grind)] at m1
    rw [four_mul, dt_four_low, dt_four_high n _ _ _ (fun i j hi hj => by
      show mul n (ngm b) (scal x) i j + mul n (scal x) b i j = 0
      rw [mul_scal n x (ngm b) hj, scal_mul n x b hi]; show -(b i j) * x + x * b i j = 0; grind)] at m2
    have d1 : dt n (scal 1) = 1 := by rw [dt_scal, pw_one_base]
    have p1 : dt n (plus (mul n (scal x) (scal 1)) (mul n a (ngm b))) = dt n (chm (mul n a b) x) := dt_congr n fun i j hi hj => by
      show mul n (scal x) (scal 1) i j + mul n a (ngm b) i j = _
      rw [mul_scal n 1 _ hj, mul_ngm]
      unfold chm scal; split <;> grind
    have s1 : dt n (plus (mul n b zer) (mul n (scal 1) (scal 1))) = 1 := by
      refine Eq.trans ?_ d1
      exact dt_congr n fun i j hi hj => by
        show mul n b zer i j + mul n (scal 1) (scal 1) i j = _
        have e : mul n b zer i j = 0 := by
          unfold mul
          rw [sg_congr (g := fun _ => 0) fun k _ => by show b i k * 0 = 0; grind, sg_none]
        rw [e, mul_scal n 1 _ hj]; grind
    have p2 : dt n (plus (mul n (scal 1) (scal x)) (mul n zer b)) = dt n (scal x) := dt_congr n fun i j hi hj => by
      show mul n (scal 1) (scal x) i j + mul n zer b i j = _
      have e : mul n zer b i j = 0 := by
        unfold mul
        rw [sg_congr (g := fun _ => 0) fun k _ => by show 0 * b k j = 0; grind, sg_none]
      rw [e, scal_mul n 1 _ hi]; grind
    have s2 : dt n (plus (mul n (ngm b) a) (mul n (scal x) (scal 1))) = dt n (chm (mul n b a) x) := dt_congr n fun i j hi hj => by
      show mul n (ngm b) a i j + mul n (scal x) (scal 1) i j = _
      rw [mul_scal n 1 _ hj, ngm_mul]
      unfold chm scal; split <;> grind
    rw [p1, s1, d1] at m1
    rw [p2, s2, d1] at m2
    have hne := pw_ne h0 n
    rw [dt_scal] at m2
    have : pw x n * (dt n (chm (mul n a b) x) - dt n (chm (mul n b a) x)) = 0 := by grind
    rcases mul_zero_or this with e | e
    · exact absurd e hne
    · grind
/-- A product has the same factors the other way round. -/
theorem ch_both {n : Nat} (hn : n < 9973) (a b : Nat → Nat → F) : ∀ k, k ≤ n → ch n (mul n a b) k = ch n (mul n b a) k := ch_one hn fun x => chm_both n a b x

/-- The sum of factors times powers. -/
def csum (n : Nat) (c : Nat → F) (f : Nat → Nat → F) (m : Nat) : Nat → Nat → F := fun i j => sg (m + 1) fun k => c k * pwm n f k i j
theorem csum_succ (n : Nat) (c : Nat → F) (f : Nat → Nat → F) (m i j : Nat) : csum n c f (m + 1) i j = csum n c f m i j + c (m + 1) * pwm n f (m + 1) i j := sg_succ _ _
/-- What is beside the rows and columns of x times the one less a matrix, in powers of x. -/
theorem adj_pol (p : Nat) (f : Nat → Nat → F) (i j : Nat) : IsP p fun x => adj p (chm f x) i j := by
  obtain ⟨c, hc⟩ := (IsP.dt p (fun a b => -(f (sk j a) (sk i b))) (fun a b => if sk j a = sk i b then 1 else 0)).times (sgn (i + j))
  refine ⟨c, fun x => ?_⟩
  rw [← hc]
  show sgn (i + j) * dt p (wo (chm f x) j i) = _
  congr 1
  refine dt_congr p fun a b _ _ => ?_
  show (if sk j a = sk i b then x else 0) - f (sk j a) (sk i b) = _
  split <;> grind
/-- A matrix takes itself to noughts. -/
theorem cayley (p : Nat) (hp : p + 1 < 9973) (f : Nat → Nat → F) : Eqm (p + 1) (p + 1) (csum (p + 1) (ch (p + 1) f) f (p + 1)) zer := by
  obtain ⟨B, hB⟩ : ∃ B : Nat → Nat → Nat → F, ∀ i j x, adj p (chm f x) i j = vx p (B i j) x :=
    ⟨fun i j => Classical.choose (adj_pol p f i j), fun i j => Classical.choose_spec (adj_pol p f i j)⟩
  -- what stands with x to the power k on both sides
  have HC : ∀ i j, i < p + 1 → j < p + 1 → ∀ k, k ≤ p + 1 → (if k = 0 then 0 else B i j (k - 1)) + (-1) * (if k ≤ p then sg (p + 1) (fun t => f i t * B t j k) else 0) = if i = j then ch (p + 1) f k else 0 := by
    intro i j hi hj
    refine vx_eq hp fun x => ?_
    have h := adj_right p (chm f x) i j hi hj
    have hl : mul (p + 1) (chm f x) (adj p (chm f x)) i j = x * vx p (B i j) x + (-1) * vx p (fun k => sg (p + 1) fun t => f i t * B t j k) x := by
      have e1 : mul (p + 1) (chm f x) (adj p (chm f x)) i j = (sg (p + 1) fun t => (if i = t then x else 0) * vx p (B t j) x) + (-1) * sg (p + 1) fun t => f i t * vx p (B t j) x := by
        unfold mul
        rw [← sg_times, ← sg_add]
        exact sg_congr fun t _ => by rw [hB]; unfold chm; grind
      have e2 : (sg (p + 1) fun t => (if i = t then x else 0) * vx p (B t j) x) = x * vx p (B i j) x := by
        rw [sg_one hi fun t _ ht => by rw [if_neg fun e => ht e.symm]; grind, if_pos rfl]
      have e3 : (sg (p + 1) fun t => f i t * vx p (B t j) x) = vx p (fun k => sg (p + 1) fun t => f i t * B t j k) x := by
        unfold vx
        rw [sg_congr (g := fun t => sg (p + 1) fun k => f i t * B t j k * pw x k) fun t _ => by rw [← sg_times]; exact sg_congr fun k _ => by grind, sg_swap]
        exact sg_congr fun k _ => by rw [sg_by]
      rw [e1, e2, e3]
    rw [hl, vx_shift, ← vx_up (Nat.le_succ p) (fun k => sg (p + 1) fun t => f i t * B t j k), vx_times, vx_add] at h
    rw [h]
    unfold scal
    by_cases e : i = j
    · rw [if_pos e, ch_is]
      exact vx_congr (fun k _ => by rw [if_pos e]) x
    · rw [if_neg e]
      rw [vx_congr (e := fun _ => 0) (fun k _ => by rw [if_neg e]) x]
      unfold vx
      rw [sg_congr (g := fun _ => 0) fun k _ => by grind, sg_none]
  let Bm : Nat → Nat → Nat → F := fun k i j => B i j k
  have S : ∀ m, m ≤ p → Eqm (p + 1) (p + 1) (csum (p + 1) (ch (p + 1) f) f m) (ngm (mul (p + 1) (pwm (p + 1) f (m + 1)) (Bm m))) := by
    intro m
    induction m with
    | zero =>
      intro _ i j hi hj
      have h := HC i j hi hj 0 (by omega)
      rw [if_pos rfl, if_pos (Nat.zero_le p)] at h
      have e := Eqm.mul (pwm_one (p + 1) f) (Eqm.rfl' (p + 1) (p + 1) (Bm 0)) i j hi hj
      show csum (p + 1) _ f 0 i j = -(mul (p + 1) (pwm (p + 1) f (0 + 1)) (Bm 0) i j)
      rw [e]
      show (sg (0 + 1) fun k => ch (p + 1) f k * pwm (p + 1) f k i j) = -(sg (p + 1) fun t => f i t * B t j 0)
      rw [sg_succ, sg_zero]
      show 0 + ch (p + 1) f 0 * (if i = j then 1 else 0) = _
      by_cases e2 : i = j
      · rw [if_pos e2] at h ⊢; grind
      · rw [if_neg e2] at h ⊢; grind
    | succ m ih =>
      intro hm i j hi hj
      have h0 := ih (by omega) i j hi hj
      rw [csum_succ, h0]
      -- B of m is the factor's one and what the matrix does to the next B
      have e1 : mul (p + 1) (pwm (p + 1) f (m + 1)) (Bm m) i j = mul (p + 1) (pwm (p + 1) f (m + 1)) (plus (scal (ch (p + 1) f (m + 1))) (mul (p + 1) f (Bm (m + 1)))) i j :=
        Eqm.mul (Eqm.rfl' (p + 1) (p + 1) _) (fun a b ha hb => by
          have h := HC a b ha hb (m + 1) (by omega)
          rw [if_neg (by omega), if_pos (by omega), show m + 1 - 1 = m from rfl] at h
          show B a b m = (if a = b then ch (p + 1) f (m + 1) else 0) + sg (p + 1) fun t => f a t * B t b (m + 1)
          rw [← h]; grind) i j hi hj
      have e2 : mul (p + 1) (pwm (p + 1) f (m + 1)) (mul (p + 1) f (Bm (m + 1))) i j = mul (p + 1) (pwm (p + 1) f (m + 1 + 1)) (Bm (m + 1)) i j := by
        rw [← mul_assoc]
        exact Eqm.mul (pwm_snoc (p + 1) f (m + 1)) (Eqm.rfl' (p + 1) (p + 1) _) i j hi hj
      show -(mul (p + 1) (pwm (p + 1) f (m + 1)) (Bm m) i j) + _ = -(mul (p + 1) (pwm (p + 1) f (m + 1 + 1)) (Bm (m + 1)) i j)
      rw [e1, mul_plus, ← e2]
      show -(mul (p + 1) (pwm (p + 1) f (m + 1)) (scal (ch (p + 1) f (m + 1))) i j + mul (p + 1) (pwm (p + 1) f (m + 1)) (mul (p + 1) f (Bm (m + 1))) i j) + _ = _
      rw [mul_scal (p + 1) _ _ hj]; grind
  intro i j hi hj
  have h := S p (Nat.le_refl p) i j hi hj
  rw [csum_succ, h]
  have e1 : mul (p + 1) (pwm (p + 1) f (p + 1)) (Bm p) i j = mul (p + 1) (pwm (p + 1) f (p + 1)) (scal (ch (p + 1) f (p + 1))) i j :=
    Eqm.mul (Eqm.rfl' (p + 1) (p + 1) _) (fun a b ha hb => by
      have h := HC a b ha hb (p + 1) (Nat.le_refl _)
      rw [if_neg (by omega), if_neg (by omega), show p + 1 - 1 = p from rfl] at h
      show B a b p = if a = b then ch (p + 1) f (p + 1) else 0
      rw [← h]; grind) i j hi hj
  show -(mul (p + 1) (pwm (p + 1) f (p + 1)) (Bm p) i j) + _ = 0
  rw [e1, mul_scal (p + 1) _ _ hj]; grind

theorem mul_sum (n m : Nat) (t : Nat → Nat → F) (c : Nat → F) (g : Nat → Nat → Nat → F) (i j : Nat) : mul n t (fun a b => sg m fun q => c q * g q a b) i j = sg m fun q => c q * mul n t (g q) i j := by
  unfold mul
  rw [sg_congr (g := fun k => sg m fun q => c q * (t i k * g q k j)) fun k _ => by rw [← sg_times]; exact sg_congr fun q _ => by grind, sg_swap]
  exact sg_congr fun q _ => by rw [sg_times]
/-- What undoes a matrix is made of its powers. -/
theorem undo_pol (p : Nat) (hp : p + 1 < 9973) {f t : Nat → Nat → F} (ht : Eqm (p + 1) (p + 1) (mul (p + 1) t f) one) {k : F} (hk : k * ch (p + 1) f 0 = -1) :
    Eqm (p + 1) (p + 1) t fun i j => sg (p + 1) fun q => ch (p + 1) f (q + 1) * k * pwm (p + 1) f q i j := fun i j hi hj => by
  have h := (Eqm.rfl' (p + 1) (p + 1) t).mul (cayley p hp f) i j hi hj
  have hz : mul (p + 1) t zer i j = 0 := by
    unfold mul
    rw [sg_congr (g := fun _ => 0) fun a _ => by show t i a * 0 = 0; grind, sg_none]
  rw [hz] at h
  have h1 : mul (p + 1) t (csum (p + 1) (ch (p + 1) f) f (p + 1)) i j = sg (p + 1 + 1) fun q => ch (p + 1) f q * mul (p + 1) t (pwm (p + 1) f q) i j := mul_sum _ _ _ _ _ _ _
  rw [h1, sg_first] at h
  have h2 : mul (p + 1) t (pwm (p + 1) f 0) i j = t i j := mul_one (p + 1) (p + 1) t i j hi hj
  have h3 : (sg (p + 1) fun q => ch (p + 1) f (q + 1) * mul (p + 1) t (pwm (p + 1) f (q + 1)) i j) = sg (p + 1) fun q => ch (p + 1) f (q + 1) * pwm (p + 1) f q i j := sg_congr fun q _ => by
    have e : mul (p + 1) t (pwm (p + 1) f (q + 1)) i j = pwm (p + 1) f q i j := by
      show mul (p + 1) t (mul (p + 1) f (pwm (p + 1) f q)) i j = _
      rw [← mul_assoc, Eqm.mul ht (Eqm.rfl' (p + 1) (p + 1) (pwm (p + 1) f q)) i j hi hj, one_mul (p + 1) (p + 1) _ i j hi hj]
    rw [e]
  rw [h2, h3] at h
  have h4 : (sg (p + 1) fun q => ch (p + 1) f (q + 1) * k * pwm (p + 1) f q i j) = k * sg (p + 1) fun q => ch (p + 1) f (q + 1) * pwm (p + 1) f q i j := by
    rw [← sg_times]; exact sg_congr fun q _ => by grind
  dsimp only
  rw [h4]
  grind

end Go.Proofs.YtologiinkilooaaDoor.Mx

/- Plain facts on what undoes a matrix over the field: it is one, from either side; products, the adjugate, steps of a matrix with the one beside it; a change of rank one (Sherman, Morrison). No program is named here. -/
namespace Go.Proofs.YtologiinkilooaaDoor.Mx
open Fp
set_option linter.unusedVariables false

/-- t undoes f, from either side. -/
structure Unm (n : Nat) (f t : Nat → Nat → F) : Prop where
  left : Eqm n n (mul n t f) one
  right : Eqm n n (mul n f t) one
theorem Unm.symm {n : Nat} {f t : Nat → Nat → F} (h : Unm n f t) : Unm n t f := ⟨h.right, h.left⟩
theorem Unm.congr {n : Nat} {f f' t t' : Nat → Nat → F} (h : Unm n f t) (e : Eqm n n f f') (e' : Eqm n n t t') : Unm n f' t' :=
  ⟨(e'.symm.mul e.symm).trans h.left, (e.symm.mul e'.symm).trans h.right⟩
/-- What undoes from the left is what undoes from the right. -/
theorem sides {n : Nat} {f t s : Nat → Nat → F} (h : Eqm n n (mul n t f) one) (h' : Eqm n n (mul n f s) one) : Eqm n n t s := by
  have e1 : Eqm n n (mul n (mul n t f) s) s := (h.mul (Eqm.rfl' n n s)).trans (one_mul n n s)
  have e2 : Eqm n n (mul n t (mul n f s)) t := ((Eqm.rfl' n n t).mul h').trans (mul_one n n t)
  rw [mul_assoc] at e1
  exact e2.symm.trans e1
theorem Unm.one_of {n : Nat} {f t s : Nat → Nat → F} (h : Unm n f t) (h' : Unm n f s) : Eqm n n t s := sides h.left h'.right
theorem Unm.dt {n : Nat} {f t : Nat → Nat → F} (h : Unm n f t) : Mx.dt n t * Mx.dt n f = 1 := by rw [← dt_mul, dt_congr n h.left, dt_one]
theorem Unm.ne {n : Nat} {f t : Nat → Nat → F} (h : Unm n f t) : Mx.dt n f ≠ 0 := fun e => by
  have := h.dt
  rw [e] at this
  exact absurd (this.symm.trans (by grind : Mx.dt n t * 0 = 0)) (by decide)
/-- The inverse, by the adjugate. -/
def invm (p : Nat) (f : Nat → Nat → F) : Nat → Nat → F := fun i j => Fp.inv (Mx.dt (p + 1) f) * adj p f i j
theorem unm_invm (p : Nat) (f : Nat → Nat → F) (h : Mx.dt (p + 1) f ≠ 0) : Unm (p + 1) f (invm p f) := by
  have hi := inv_mul h
  refine ⟨fun i j hx hy => ?_, fun i j hx hy => ?_⟩
  · have := adj_left p f i j hx hy
    show (sg (p + 1) fun x => Fp.inv (Mx.dt (p + 1) f) * adj p f i x * f x j) = if i = j then 1 else 0
    rw [show (sg (p + 1) fun x => Fp.inv (Mx.dt (p + 1) f) * adj p f i x * f x j) = Fp.inv (Mx.dt (p + 1) f) * mul (p + 1) (adj p f) f i j from by
      show _ = Fp.inv (Mx.dt (p + 1) f) * sg (p + 1) (fun x => adj p f i x * f x j)
      rw [← sg_times]; exact sg_congr fun x _ => by grind]
    rw [this]
    show Fp.inv (Mx.dt (p + 1) f) * (if i = j then Mx.dt (p + 1) f else 0) = _
    split
    · exact hi
    · grind
  · have := adj_right p f i j hx hy
    show (sg (p + 1) fun x => f i x * (Fp.inv (Mx.dt (p + 1) f) * adj p f x j)) = if i = j then 1 else 0
    rw [show (sg (p + 1) fun x => f i x * (Fp.inv (Mx.dt (p + 1) f) * adj p f x j)) = Fp.inv (Mx.dt (p + 1) f) * mul (p + 1) f (adj p f) i j from by
      show _ = Fp.inv (Mx.dt (p + 1) f) * sg (p + 1) (fun x => f i x * adj p f x j)
      rw [← sg_times]; exact sg_congr fun x _ => by grind]
    rw [this]
    show Fp.inv (Mx.dt (p + 1) f) * (if i = j then Mx.dt (p + 1) f else 0) = _
    split
    · exact hi
    · grind
theorem unm_some {n : Nat} {f : Nat → Nat → F} (h : Mx.dt n f ≠ 0) : ∃ t, Unm n f t := by
  cases n with
  | zero => exact ⟨one, fun i j hi => absurd hi (by omega), fun i j hi => absurd hi (by omega)⟩
  | succ p => exact ⟨_, unm_invm p f h⟩
/-- From the left is enough. -/
theorem unm_left {n : Nat} {f t : Nat → Nat → F} (h : Eqm n n (mul n t f) one) : Unm n f t := by
  have hne : Mx.dt n f ≠ 0 := fun e => by
    have h1 : Mx.dt n t * Mx.dt n f = 1 := by rw [← dt_mul, dt_congr n h, dt_one]
    rw [e] at h1
    exact absurd (h1.symm.trans (by grind : Mx.dt n t * 0 = 0)) (by decide)
  obtain ⟨s, hs⟩ := unm_some hne
  exact hs.congr (Eqm.rfl' n n f) (sides h hs.right).symm
theorem Unm.mul {n : Nat} {f g t s : Nat → Nat → F} (h : Unm n f t) (h' : Unm n g s) : Unm n (Mx.mul n f g) (Mx.mul n s t) := by
  refine unm_left ?_
  have e1 : Mx.mul n (Mx.mul n s t) (Mx.mul n f g) = Mx.mul n s (Mx.mul n (Mx.mul n t f) g) := by rw [mul_assoc, mul_assoc]
  rw [e1]
  exact ((Eqm.rfl' n n s).mul ((h.left.mul (Eqm.rfl' n n g)).trans (one_mul n n g))).trans h'.left

/-- With another matrix beside it. -/
def beside (n : Nat) (f g : Nat → Nat → F) : Nat → Nat → F := fun i j => if j < n then f i j else g i (j - n)
theorem beside_left {n : Nat} (f g : Nat → Nat → F) {i j : Nat} (h : j < n) : beside n f g i j = f i j := if_pos h
theorem beside_right (n : Nat) (f g : Nat → Nat → F) (i j : Nat) : beside n f g i (n + j) = g i j := by
  unfold beside
  rw [if_neg (by omega), Nat.add_sub_cancel_left]
/-- In steps as far as the first half goes, with the one beside it: the second half undoes. -/
theorem unm_steps {n : Nat} {b : List Nat} {f g : Nat → Nat → F} (hs : Steps n n b g) (hr : Req n (n + n) (beside n f one) g) (hd : Mx.dt n f ≠ 0) : b.length = n ∧ Unm n f fun i j => g i (n + j) := by
  have hr1 : Req n n f g := by
    obtain ⟨⟨s, h1⟩, ⟨t, h2⟩⟩ := hr
    refine ⟨⟨s, fun i j hi hj => ?_⟩, ⟨t, fun i j hi hj => ?_⟩⟩
    · rw [← beside_left f one hj]
      exact h1 i j hi (by omega)
    · rw [h2 i j hi (by omega)]
      exact sg_congr fun x _ => by rw [beside_left f one hj]
  have hl : b.length = n := by
    apply Classical.byContradiction
    intro hne
    obtain ⟨y, k, hk, hy, hz⟩ := hs.null hr1 (by have := hs.le; omega)
    exact hd (dt_null hk hy hz)
  obtain ⟨_, ⟨t, h2⟩⟩ := hr
  refine ⟨hl, unm_left ?_⟩
  have ht : Eqm n n (fun i j => g i (n + j)) t := fun i j hi hj => by
    show g i (n + j) = t i j
    rw [h2 i (n + j) hi (by omega)]
    show (sg n fun x => t i x * beside n f one x (n + j)) = t i j
    rw [sg_congr (g := fun x => t i x * one x j) fun x _ => by rw [beside_right]]
    exact mul_one n n t i j hi hj
  have hf : Eqm n n (Mx.mul n t f) g := fun i j hi hj => by
    rw [h2 i j hi (by omega)]
    exact sg_congr fun x _ => by rw [beside_left f one hj]
  exact ((ht.mul (Eqm.rfl' n n f)).trans hf).trans (hs.full hl)
/-- Fewer steps than rows: nothing undoes it. -/
theorem short_steps {n c : Nat} {b : List Nat} {f g : Nat → Nat → F} (hs : Steps n n b g) (hr : Req n (n + c) (beside n f one) g) (hl : b.length ≠ n) : Mx.dt n f = 0 := by
  have hr1 : Req n n f g := by
    obtain ⟨⟨s, h1⟩, ⟨t, h2⟩⟩ := hr
    refine ⟨⟨s, fun i j hi hj => ?_⟩, ⟨t, fun i j hi hj => ?_⟩⟩
    · rw [← beside_left f one hj]
      exact h1 i j hi (by omega)
    · rw [h2 i j hi (by omega)]
      exact sg_congr fun x _ => by rw [beside_left f one hj]
  obtain ⟨y, k, hk, hy, hz⟩ := hs.null hr1 (by have := hs.le; omega)
  exact dt_null hk hy hz

/-- The products of a column and a row. -/
def outer (u v : Nat → F) : Nat → Nat → F := fun i j => u i * v j
/-- The one and such products in the first k columns. -/
def bend (k : Nat) (a v : Nat → F) : Nat → Nat → F := fun i j => if j < k then one i j + a i * v j else one i j
theorem bend_step (n k : Nat) (a v : Nat → F) : bend (k + 1) a v = setc k (fun i => one i k + v k * a i) (bend k a v) := by
  funext i j
  show (if j < k + 1 then one i j + a i * v j else one i j) = if j = k then one i k + v k * a i else if j < k then one i j + a i * v j else one i j
  rcases Nat.lt_trichotomy j k with h | h | h
  · rw [if_pos (by omega), if_neg (by omega), if_pos h]
  · rw [if_pos (by omega), if_pos h, h]; grind
  · rw [if_neg (by omega), if_neg (by omega), if_neg (by omega)]
theorem bend_same (k : Nat) (a v : Nat → F) : setc k (fun i => one i k) (bend k a v) = bend k a v := by
  have := setc_self k (bend k a v)
  rw [show (fun i => bend k a v i k) = fun i => one i k from funext fun i => by unfold bend; rw [if_neg (Nat.lt_irrefl k)]] at this
  exact this
/-- With the column itself in the place of column t. -/
theorem bend_put (n t : Nat) (a v : Nat → F) (ht : t < n) : ∀ k, k ≤ t → Mx.dt n (setc t a (bend k a v)) = a t
  | 0, _ => by
    rw [show bend 0 a v = one from funext fun i => funext fun j => if_neg (Nat.not_lt_zero j)]
    have h := cramer n t one a ht
    rw [dt_one] at h
    rw [show Mx.dt n (setc t a one) = Mx.dt n (setc t (fun i => sg n fun x => one i x * a x) one) from dt_congr n fun i j hi hj => by
      show (if j = t then a i else one i j) = if j = t then sg n (fun x => one i x * a x) else one i j
      split
      · show a i = sg n fun x => (if i = x then (1 : F) else 0) * a x
        rw [sg_one hi fun x _ hne => by rw [if_neg fun e => hne e.symm]; grind]
        rw [if_pos rfl]; grind
      · rfl]
    rw [h]; grind
  | k + 1, hk => by
    have ih := bend_put n t a v ht k (by omega)
    have hlin := dt_lin n k (by omega) 1 (v k) (fun i => one i k) a (setc t a (bend k a v))
    rw [bend_step n, setc_comm (show t ≠ k by omega)]
    rw [show (fun i => one i k + v k * a i) = fun i => 1 * one i k + v k * a i from funext fun i => by grind, hlin]
    rw [dt_equal (show k < n by omega) ht (by omega) a (bend k a v), setc_comm (show k ≠ t by omega), bend_same, ih]
    grind
theorem dt_bend (n : Nat) (a v : Nat → F) : ∀ k, k ≤ n → Mx.dt n (bend k a v) = 1 + sg k fun t => v t * a t
  | 0, _ => by
    rw [show bend 0 a v = one from funext fun i => funext fun j => if_neg (Nat.not_lt_zero j), dt_one, sg_zero]; grind
  | k + 1, hk => by
    have ih := dt_bend n a v k (by omega)
    have hlin := dt_lin n k (by omega) 1 (v k) (fun i => one i k) a (bend k a v)
    rw [bend_step n, show (fun i => one i k + v k * a i) = fun i => 1 * one i k + v k * a i from funext fun i => by grind, hlin, bend_same, ih,
      bend_put n k a v (by omega) k (Nat.le_refl k), sg_succ]
    grind

/-- A column and a row taken by a matrix. -/
def colv (n : Nat) (t : Nat → Nat → F) (u : Nat → F) : Nat → F := fun i => sg n fun j => t i j * u j
def rowv (n : Nat) (v : Nat → F) (t : Nat → Nat → F) : Nat → F := fun j => sg n fun i => v i * t i j
/-- What a change comes to. -/
def bent (n : Nat) (t : Nat → Nat → F) (u v : Nat → F) : F := 1 + sg n fun i => v i * colv n t u i
theorem colv_mul (n : Nat) (f t : Nat → Nat → F) (u : Nat → F) : colv n f (colv n t u) = colv n (mul n f t) u := by
  funext i
  show (sg n fun x => f i x * sg n fun j => t x j * u j) = sg n fun j => (sg n fun x => f i x * t x j) * u j
  rw [show (fun x => f i x * sg n fun j => t x j * u j) = fun x => sg n fun j => f i x * t x j * u j from funext fun x => by
    rw [← sg_times]; exact sg_congr fun j _ => by grind, sg_swap]
  exact sg_congr fun j _ => by rw [← sg_by]
theorem colv_one (n : Nat) (u : Nat → F) {i : Nat} (hi : i < n) : colv n one u i = u i := by
  show (sg n fun j => (if i = j then (1 : F) else 0) * u j) = u i
  rw [sg_one hi fun x _ hne => by rw [if_neg fun e => hne e.symm]; grind]
  rw [if_pos rfl]; grind
theorem mul_outer (n : Nat) (f : Nat → Nat → F) (u v : Nat → F) : mul n f (outer u v) = outer (colv n f u) v := by
  funext i j
  show (sg n fun x => f i x * (u x * v j)) = (sg n fun x => f i x * u x) * v j
  rw [← sg_by]
  exact sg_congr fun x _ => by grind
theorem outer_mul (n : Nat) (f : Nat → Nat → F) (u v : Nat → F) : mul n (outer u v) f = outer u (rowv n v f) := by
  funext i j
  show (sg n fun x => u i * v x * f x j) = u i * sg n fun x => v x * f x j
  rw [← sg_times]
  exact sg_congr fun x _ => by grind
/-- The determinant of a matrix with such products added. -/
theorem dt_bent {n : Nat} {f t : Nat → Nat → F} (h : Unm n f t) (u v : Nat → F) : Mx.dt n (plus f (outer u v)) = Mx.dt n f * bent n t u v := by
  have e : Eqm n n (plus f (outer u v)) (mul n f (bend n (colv n t u) v)) := fun i j hi hj => by
    have e1 : (mul n f (bend n (colv n t u) v)) i j = plus (mul n f one) (mul n f (outer (colv n t u) v)) i j := by
      rw [← mul_plus]
      exact sg_congr fun x _ => by
        show f i x * (if j < n then one x j + colv n t u x * v j else one x j) = f i x * (one x j + colv n t u x * v j)
        rw [if_pos hj]
    rw [e1]
    show f i j + u i * v j = mul n f one i j + mul n f (outer (colv n t u) v) i j
    rw [mul_one n n f i j hi hj, mul_outer, colv_mul]
    show _ = f i j + colv n (mul n f t) u i * v j
    have e2 : colv n (mul n f t) u i = colv n one u i := sg_congr fun x hx => by rw [h.right i x hi hx]
    rw [e2, colv_one n u hi]
  rw [dt_congr n e, dt_mul, dt_bend n _ _ n (Nat.le_refl n)]
  rfl
/-- Sherman and Morrison: what undoes it. -/
def shm (n : Nat) (t : Nat → Nat → F) (u v : Nat → F) : Nat → Nat → F := fun i j => t i j - colv n t u i * rowv n v t j * Fp.inv (bent n t u v)
theorem unm_bent {n : Nat} {f t : Nat → Nat → F} (h : Unm n f t) (u v : Nat → F) (hk : bent n t u v ≠ 0) : Unm n (plus f (outer u v)) (shm n t u v) := by
  refine (unm_left (n := n) (f := shm n t u v) (t := plus f (outer u v)) fun i j hi hj => ?_).symm
  obtain ⟨c, hc⟩ : ∃ c, c = Fp.inv (bent n t u v) := ⟨_, rfl⟩
  have hci : c * bent n t u v = 1 := by rw [hc]; exact inv_mul hk
  have e0 : shm n t u v = plus t (outer (fun i => -c * colv n t u i) (rowv n v t)) := by
    funext a b
    show t a b - colv n t u a * rowv n v t b * Fp.inv (bent n t u v) = t a b + -c * colv n t u a * rowv n v t b
    rw [← hc]; grind
  rw [e0, plus_mul, mul_plus, mul_plus, mul_outer, outer_mul, outer_mul]
  show mul n f t i j + colv n f (fun i => -c * colv n t u i) i * rowv n v t j + (u i * rowv n v t j + u i * rowv n v (outer (fun i => -c * colv n t u i) (rowv n v t)) j) = one i j
  have e1 : colv n f (fun i => -c * colv n t u i) i = -c * u i := by
    show (sg n fun x => f i x * (-c * colv n t u x)) = _
    rw [show (fun x => f i x * (-c * colv n t u x)) = fun x => -c * (f i x * colv n t u x) from funext fun x => by grind, sg_times]
    have e2 : (sg n fun x => f i x * colv n t u x) = colv n (mul n f t) u i := congrFun (colv_mul n f t u) i
    have e3 : colv n (mul n f t) u i = colv n one u i := sg_congr fun x hx => by rw [h.right i x hi hx]
    rw [e2, e3, colv_one n u hi]
  have e4 : rowv n v (outer (fun i => -c * colv n t u i) (rowv n v t)) j = -c * (bent n t u v - 1) * rowv n v t j := by
    show (sg n fun x => v x * (-c * colv n t u x * rowv n v t j)) = _
    rw [show (fun x => v x * (-c * colv n t u x * rowv n v t j)) = fun x => (-c * rowv n v t j) * (v x * colv n t u x) from funext fun x => by grind, sg_times]
    have e5 : bent n t u v - 1 = sg n fun x => v x * colv n t u x := by unfold bent; grind
    rw [e5]; grind
  rw [h.right i j hi hj, e1, e4]
  generalize bent n t u v = k at *
  grind

end Go.Proofs.YtologiinkilooaaDoor.Mx

/- The body of a range over a function: a region that draws its order and ends in one store; and the iterator 'places' of package mat. -/
namespace Go.Proofs.YtologiinkilooaaDoor
open Go.ChangeShapes Go.WideShapes Go.ChangeAt Go.RowKit Go.Shelf
set_option linter.unusedVariables false

/-- An operation that goes on, and nothing else. -/
def OnlyOn (Q : Exit → Act → World → Prop) : Exit → Act → World → Prop := fun e a w => e = .normal ∧ Q .normal a w

theorem oper_in {l n : Nat} {P : Program} {o : Oper} {a : Act} {w : World} {K K' : Act → World → Prop} {Q Q' : Exit → Act → World → Prop} (hd : ∀ c, o.op ≠ .defer c)
    (hK : ∀ a w, K a w → K' a w) (h : o.wp P a w K (OnlyOn Q)) : o.wpIn (Fence.wide.inRound l) n P a w K' Q' := by
  unfold Oper.wp at h
  unfold Oper.wpIn
  refine ⟨fun _ _ => trivial, ?_⟩
  rw [Oper.semAt_eq _ _ _ hd]
  generalize (execOp a.eval o).run P w = r at *
  cases r with
  | ok x w' =>
    cases x <;> simp only [Oper.upon, Oper.uponIn] at h ⊢
    case value => exact hK _ _ h
    case skip => exact hK _ _ h
    case defer => exact hK _ _ h
    case enter f args =>
      refine ⟨fun e => (by cases e), CallsIn.inRound l ((callsIn_wide (n := n - 1)).2 (h.mono fun e w2 he => ?_))⟩
      cases e with
      | returned v => exact hK _ _ he
      | panicked c => exact absurd he.1 (by simp)
      | outgrown => obtain ⟨_, _, h', _⟩ := he; cases h'
    case row s args =>
      refine ⟨fun e => (by cases e), fun c cs _ => ?_⟩
      obtain ⟨v, w2, h1, h2⟩ := h c cs
      exact ⟨v, w2, hK _ _ h1, stepsIn_wide.2 h2⟩
  | halt x w' =>
    cases x <;> simp only [Oper.upon, Oper.uponIn] at h ⊢
    exact absurd h.1 (by simp)

def noDefer (ops : List Oper) : Bool := ops.all fun o => match o.op with | .defer _ => false | _ => true
theorem noDefer_at {ops : List Oper} (h : noDefer ops = true) {i : Nat} {o : Oper} (hi : ops.toArray[i]? = some o) : ∀ c, o.op ≠ .defer c := fun c e => by
  have hm : o ∈ ops := by
    have : ops[i]? = some o := by simpa using hi
    exact List.mem_of_getElem? this
  have := List.all_eq_true.1 h o hm
  rw [e] at this
  cases this

theorem any_in {l n : Nat} {P : Program} {md : Region.Mode} {ops : List Oper} {Q : Exit → Act → World → Prop} (hd : noDefer ops = true) :
    ∀ (f : Nat) (listed : Array Bool) (a : Act) (w : World), wpAny P md ops.toArray (OnlyOn Q) f listed a w → wpAnyIn (Fence.wide.inRound l) n P md ops.toArray Q f listed a w
  | 0, _, _, _, h => ⟨h.1, h.2.2⟩
  | f + 1, listed, a, w, h => by
    refine ⟨fun h0 => (h.1 h0).2, fun i hi => ?_⟩
    have h2 := h.2 i hi
    unfold wpOp at h2
    unfold wpOpIn
    split
    · rename_i ho; simp only [ho] at h2; exact any_in hd f _ _ _ h2
    · rename_i o ho
      simp only [ho] at h2
      split
      · rename_i hw
        simp only [hw, if_true] at h2
        rcases h2 with h2 | ⟨_, _, _, h3, _⟩
        · exact oper_in (noDefer_at hd ho) (fun a w => any_in hd f _ a w) h2
        · cases h3
      · rename_i hw
        simp only [hw] at h2
        exact ⟨fun _ _ => trivial, any_in hd f _ _ _ h2⟩

/-- In a round: a region that draws its order and whose first k operations only read, the rest one behind the other. -/
theorem region_tail {l n : Nat} {P : Program} {id : Nat} {Q : Exit → Act → World → Prop} {a : Act} {w : World} {ops : List Oper} (k : Nat) (hm : P.follows .mixedOrders = true) (hd : noDefer ops = true)
    (hB : Region.lexTailB .any ops.toArray k = true) (h : wpStill P ops.toArray w.drew (fun a' => wpList P ops.toArray (OnlyOn Q) (ops.drop k) a' w.drew) (ops.take k) a) :
    (Code.region id ops.toArray true).wpIn (Fence.wide.inRound l) n P Q a w := by
  refine wpIn_region_any hm (any_in hd _ _ _ _ ?_)
  simp only [Region.lexTailB, Bool.and_eq_true, decide_eq_true_eq] at hB
  obtain ⟨⟨⟨⟨b1, b2⟩, b3⟩, b4⟩, b5⟩ := hB
  have hk : k < ops.length := by simpa using b2
  have ht : (ops.take k).length = k := by rw [List.length_take]; omega
  have he : (ops.drop k).length = ops.toArray.size - k := by simp
  have start : HeadInv .any ops.toArray k (Array.replicate ops.toArray.size false) :=
    { size := by simp
      closed := fun j oj _ hl => by rw [getD_replicate_false] at hl; cases hl
      tail := fun t _ hlt => getD_in (by simpa using hlt) (getD_replicate_false _ _) }
  have first := wpAnyL_lex (md := .any) (g := ops.toArray.size - k) b1 b3 b4 b2 (ops.take k) 0 _ a
    (fun j hj => by
      rw [ht] at hj
      simp [hj]) (by rw [ht, Nat.zero_add]) start (by rw [ht]; exact b5) h
  have all := wpAny_of_head (Q' := OnlyOn Q) (g := ops.toArray.size - k)
    (fun listed a' hL => by
      have s := wpAny_of_seq (md := .any) (Q' := OnlyOn Q) (ops.drop k) k listed a' w.drew (fun j => by simp [List.getElem?_drop]) (by rw [he]; exact hL.1) hL.2
      rw [he] at s
      exact s) _ _ _ first
  rw [ht, Nat.add_sub_cancel' (Nat.le_of_lt b2)] at all
  exact all

attribute [local go_sem] Oper.semAt_some

/-- Row and column of place k. -/
def rowOf (r c : Nat) (k : Nat) : Nat := k / c % r
def colOf (c : Nat) (k : Nat) : Nat := k % c
theorem rowOf_lt {r c : Nat} (k : Nat) (h : 0 < r) : rowOf r c k < r := Nat.mod_lt _ h
theorem colOf_lt {c : Nat} (k : Nat) (h : 0 < c) : colOf c k < c := Nat.mod_lt _ h
def placeOf (r c : Nat) (k : Nat) : Array Value := #[.int .i64 ((rowOf r c k : Nat) : Int), .int .i64 ((colOf c k : Nat) : Int)]
theorem placeOf_at {r c i j : Nat} (hi : i < r) (hj : j < c) : placeOf r c (i * c + j) = #[.int .i64 (i : Int), .int .i64 (j : Int)] := by
  have hc : 0 < c := by omega
  have e1 : rowOf r c (i * c + j) = i := by unfold rowOf; rw [Nat.mul_comm, Nat.mul_add_div hc, Nat.div_eq_of_lt hj, Nat.add_zero, Nat.mod_eq_of_lt hi]
  have e2 : colOf c (i * c + j) = j := by unfold colOf; rw [Nat.mul_comm, Nat.mul_add_mod, Nat.mod_eq_of_lt hj]
  unfold placeOf
  rw [e1, e2]

set_option maxHeartbeats 800000 in
theorem places_any (A : Option Addr) (n d : Nat) (w : World) :
    Calls Tryd.prog 40 #[.slice A n d] w fun e w' => e = .returned (.func (.func 57) #[] #[.pointer (some ⟨w.heap.size, 0, none⟩)]) ∧ w' = w.alloc (.cells #[.slice A n d] 22) := by
  go_enter Tryd.func40, Tryd.ntmps40
  go_wp2
  go_ret
  exact ⟨rfl, rfl⟩

set_option maxRecDepth 100000 in
set_option maxHeartbeats 2000000 in
theorem places_in (n : Nat) (hn : 1 ≤ n) (l Bs n₀ g r c : Nat) (G : Nat → Nat) (hr : r ≤ 1000) (hc : c ≤ 1000) (hg : g < n₀) (J Jx : List Nat → World → Prop)
    (hY : ∀ pre x W, J pre W → pre.length < r * c → YieldAt Fence.wide (n - 1) Tryd.prog l (placeOf r c x) W fun e W' =>
      (e = .returned (.bool true) ∧ J (pre ++ [x]) W' ∧ Below n₀ W W') ∨ (e = .returned (.bool false) ∧ Jx (pre ++ [x]) W'))
    (W : World) (hBs : W.cell? ⟨Bs, 0, none⟩ = some (.slice (some ⟨g, 0, none⟩) r r)) (hcs : ∀ i, i < r → W.cell? ⟨g, i, none⟩ = some (.slice (some ⟨G i, 0, none⟩) c c)) (h0 : J [] W) :
    CallsIn Fence.wide n Tryd.prog 57 #[.func (.yield l) #[] #[], .pointer (some ⟨Bs, 0, none⟩)] W fun e W' => (∃ v, e = .returned v) ∧
      ((∃ ys, ys = List.range (r * c) ∧ J ys W') ∨ (∃ pre, True ∧ Jx pre W')) := by
  refine callsIn_of_wp Tryd.func57 rfl trivial ?_ rfl
  simp only [Tryd.ntmps57, List.size_toArray, List.length_cons, List.length_nil, Nat.reduceAdd, Nat.reduceSub, Array.replicate_succ, Array.replicate_zero, List.push_toArray, List.append_toArray, List.nil_append, List.cons_append]
  gi_wp2
  gi_loopw [8] (fun i wr => ∃ k : Nat, k ≤ r ∧ i = .int .i64 (k : Int) ∧ J (List.range (k * c)) wr ∧ Below n₀ W wr) (fun i _ => r - (intOf i).toNat)
  case atStart => exact ⟨0, Nat.zero_le _, rfl, by rw [Nat.zero_mul]; exact h0, Below.refl _ _⟩
  case round =>
    obtain ⟨k, hk, rfl, hJs, hnx⟩ := hrel
    by_cases hlt : k < r
    · have hcx : wr.cell? ⟨g, k, none⟩ = some (.slice (some ⟨G k, 0, none⟩) c c) := (hnx.cell (p := ⟨g, k, none⟩) hg).trans (hcs k hlt)
      have JS := Lib.hid hJs
      have NX := Lib.hid hnx
      clear hJs hnx
      gi_wp2
      gi_loopw [15] (fun j wq => ∃ m : Nat, m ≤ c ∧ j = .int .i64 (m : Int) ∧ J (List.range (k * c + m)) wq ∧ Below n₀ W wq) (fun j _ => c - (intOf j).toNat)
      case atStart => exact ⟨0, Nat.zero_le _, rfl, JS.out, NX.out⟩
      case round =>
        obtain ⟨m, hm, rfl, hJq, hnq⟩ := hrel
        by_cases hmt : m < c
        · obtain ⟨fn, tmps, assign, body, hy, hR⟩ := hY _ (k * c + m) _ hJq (by rw [List.length_range]; exact Mx.place_lt hlt hmt)
          rw [placeOf_at hlt hmt] at hy
          have NQ := Lib.hid hnq
          have RR := Lib.hid hR
          clear hnq hJq hR
          gi_wp2
          refine (RR.out).mono ?_
          rintro e W3 (⟨rfl, hJ3, hk3⟩ | ⟨rfl, hJx3⟩)
          · gi_wp2
            go_roundw
            case rel => exact ⟨m + 1, by omega, by go_num, by rw [← Nat.add_assoc, List.range_succ]; exact hJ3, NQ.out.trans hk3⟩
            case measure => simp [intOf]; omega
          · gi_wp2
            refine bodyPost_ret (results_none rfl _ _ _) rfl ?_
            exact ⟨⟨_, rfl⟩, .inr ⟨_, trivial, hJx3⟩⟩
        · obtain rfl : m = c := by omega
          have NQ := Lib.hid hnq
          have JQ := Lib.hid hJq
          clear hnq hJq
          gi_wp2
          go_roundw
          case rel => exact ⟨k + 1, by omega, by go_num, by rw [Nat.add_mul, Nat.one_mul]; exact JQ.out, NQ.out⟩
          case measure => simp [intOf]; omega
    · obtain rfl : k = r := by omega
      gi_wp2
      go_end0
      exact ⟨⟨_, rfl⟩, .inl ⟨_, rfl, hJs⟩⟩

theorem places_stops (n : Nat) (hn : 1 ≤ n) (Bs n₀ g r c : Nat) (G : Nat → Nat) (hr : r ≤ 1000) (hc : c ≤ 1000) (hg : g < n₀) (w : World) (hn0 : n₀ ≤ w.heap.size) (hB : Bs < w.heap.size)
    (hBs : w.cell? ⟨Bs, 0, none⟩ = some (.slice (some ⟨g, 0, none⟩) r r)) (hcs : ∀ i, i < r → w.cell? ⟨g, i, none⟩ = some (.slice (some ⟨G i, 0, none⟩) c c)) :
    SeqStopsK Fence.wide n Tryd.prog 57 #[.pointer (some ⟨Bs, 0, none⟩)] (placeOf r c) (Below n₀) (fun ys => ys = List.range (r * c)) (fun _ => True) (r * c) w := fun l J Jx W hW _ _ hY h0 =>
  places_in n hn l Bs n₀ g r c G hr hc hg J Jx hY W ((hW.cell (p := ⟨Bs, 0, none⟩) hB).trans hBs) (fun i hi => (hW.cell (p := ⟨g, i, none⟩) (by show g < _; omega)).trans (hcs i hi)) h0


end Go.Proofs.YtologiinkilooaaDoor

/- A matrix just made in a variable, what a loop over all places keeps, and the ends of functions that hold such a loop; the contract of package mat's Turn. -/
namespace Go.Proofs.YtologiinkilooaaDoor
open Go.ChangeShapes Go.WideShapes Go.ChangeAt Go.RowKit Go.Shelf
set_option linter.unusedVariables false
attribute [local go_sem] Oper.semAt_some

/-- A matrix just made, all of noughts, and the variable that holds it. -/
structure Fresh (w : World) (p : Value) (r c : Nat) (w' : World) : Prop where
  ex : ∃ B g G, p = .pointer (some ⟨B, 0, none⟩) ∧ w'.cell? ⟨B, 0, none⟩ = some (.slice (some ⟨g, 0, none⟩) r r) ∧ Grid w' g G r c (fun _ _ => 0) ∧ w.heap.size ≤ g ∧ w.heap.size ≤ B ∧ Kp w w'

/-- What the call says: an error, or a matrix. -/
def GivesM (m : List (List Int)) (w : World) (e : Ending) (w' : World) : Prop := ∃ A d, e = .returned (.tuple #[.slice A m.length d, .nilIface]) ∧ m.length ≤ d ∧ LiesM w' A m ∧ Kp w w'
def FailsM (c : Nat) (w : World) (e : Ending) (w' : World) : Prop := e = .returned (.tuple #[.slice none 0 0, errOf c]) ∧ Kp w w'

/-- A row of the call's own heads and rows abides what the loop's own book-keeping does. -/
theorem Grid.kept {W W' : World} {row : Option Nat} {g : Nat} {G : Nat → Nat} {r c : Nat} {f : Nat → Nat → Int} (h : Grid W g G r c f) (hg : W.grownBy W' row)
    (hr : ∀ k, row = some k → ∃ o : Obj, W.heap[k]? = some o ∧ o.isCells = false) : Grid W' g G r c f :=
  ⟨(grownBy_keeps_cells hg hr h.head rfl).trans h.head, fun i hi => (grownBy_keeps_cells hg hr (h.row i hi) rfl).trans (h.row i hi), h.after, h.apart⟩
theorem Grid.far {w : World} {g : Nat} {G : Nat → Nat} {r c : Nat} {f : Nat → Nat → Int} (h : Grid w g G r c f) {a : Addr} (h1 : g ≠ a.block) (h2 : ∀ i, i < r → G i ≠ a.block) (u : Value) : Grid (w.setCell a u) g G r c f :=
  ⟨by rw [heap_setCell_other w a g u h1]; exact h.head, fun i hi => (h.row i hi).far (h2 i hi) u, h.after, h.apart⟩
/-- A variable that holds a matrix is no row of one. -/
theorem Grid.ne {w : World} {g : Nat} {G : Nat → Nat} {r c : Nat} {f : Nat → Nat → Int} (h : Grid w g G r c f) (hc : 0 < c) {i : Nat} (hi : i < r) {B : Nat} {A : Option Addr} {n d : Nat}
    (hB : w.cell? ⟨B, 0, none⟩ = some (.slice A n d)) : B ≠ G i := fun e => by
  have := h.el hi hc
  rw [← e, hB] at this
  cases this

theorem fresh_a {w1 w2 : World} {g : Nat} {G : Nat → Nat} {r c : Nat} (hg : Grid w2 g G r c (fun _ _ => 0)) (hk : Kp w1 w2) (hle : w1.heap.size ≤ g) :
    Fresh w1 (.pointer (some ⟨w2.heap.size, 0, none⟩)) r c (w2.alloc (.cells #[.slice (some ⟨g, 0, none⟩) r r] 22)) :=
  ⟨w2.heap.size, g, G, rfl, by simp, hg.new _, hle, hk.size, hk.new _⟩
theorem fresh_b {w1 w2 : World} {G : Nat → Nat} {r c : Nat} (hg : Grid w2 (w1.heap.size + 1) G r c (fun _ _ => 0)) (hk : Kp w1 w2) (hb : w2.cell? ⟨w1.heap.size, 0, none⟩ = some (.slice none 0 0)) :
    Fresh w1 (.pointer (some ⟨w1.heap.size, 0, none⟩)) r c (w2.setCell ⟨w1.heap.size, 0, none⟩ (.slice (some ⟨w1.heap.size + 1, 0, none⟩) r r)) :=
  ⟨w1.heap.size, w1.heap.size + 1, G, rfl, World.cell?_setCell_same' _ _ _ (by rw [hb]; rfl), hg.far (by show w1.heap.size + 1 ≠ w1.heap.size; omega) (fun i hi => by show G i ≠ w1.heap.size; have := hg.after i hi; omega) _,
    by omega, Nat.le_refl _, hk.put (Nat.le_refl _) _⟩

theorem zero_box (r c : Nat) (w : World) (hr : r ≤ 1000) (hc : c ≤ 1000) :
    Calls Tryd.prog 39 #[.int .i64 (r : Int), .int .i64 (c : Int)] (w.alloc (.cells #[.slice none 0 0] 22)).drew fun e w' =>
      ∃ G, e = .returned (.slice (some ⟨w.heap.size + 1, 0, none⟩) r r) ∧ Grid w' (w.heap.size + 1) G r c (fun _ _ => 0) ∧ Kp (w.alloc (.cells #[.slice none 0 0] 22)).drew w' ∧
        w'.cell? ⟨w.heap.size, 0, none⟩ = some (.slice none 0 0) ∧ w'.frozen? ⟨w.heap.size, 0, none⟩ = false :=
  (zero_any r c _ hr hc).mono fun e w2 ⟨G, he, hg, hk⟩ => by
    have hsz : (w.alloc (.cells #[.slice none 0 0] 22)).drew.heap.size = w.heap.size + 1 := by simp [World.drew]
    have hlt : w.heap.size < (w.alloc (.cells #[.slice none 0 0] 22)).drew.heap.size := by rw [hsz]; exact Nat.lt_succ_self _
    rw [hsz] at he hg
    refine ⟨G, he, hg, hk, (hk.cell (p := ⟨w.heap.size, 0, none⟩) hlt).trans ?_, (hk.frozen (p := ⟨w.heap.size, 0, none⟩) hlt).trans ?_⟩
    · simp
    · simp


end Go.Proofs.YtologiinkilooaaDoor

/- What the rounds over places keep: how many rows there are (for all packages). -/
namespace Go.Proofs.YtologiinkilooaaDoor
open Go.ChangeShapes Go.WideShapes Go.ChangeAt Go.RowKit Go.Shelf
set_option linter.unusedVariables false
attribute [local go_sem] Oper.semAt_some

/-- What a round keeps: how many rows there are. -/
def KeepN (Bs n : Nat) (W W' : World) : Prop := W.cell? ⟨Bs, 0, none⟩ = some (.int .i64 (n : Int)) → W'.cell? ⟨Bs, 0, none⟩ = some (.int .i64 (n : Int))
theorem keepN_t {Bs n : Nat} {a b c : World} (h : KeepN Bs n a b) (h' : KeepN Bs n b c) : KeepN Bs n a c := fun x => h' (h x)
theorem keepN_b {Bs n : Nat} (W : World) (l : Nat) (o o' : Obj) (ho : W.heap[l]? = some o) (h1 : o.isCells = false) : KeepN Bs n W (W.putObj l o') :=
  fun x => cell_kept x (grownBy_putObj' W l o') (fun r e => by cases e; exact ⟨_, ho, h1⟩)
theorem keepN_set {Bs n : Nat} (W : World) (p : Addr) (v : Value) (h : p.block ≠ Bs) : KeepN Bs n W (W.setCell p v) := fun x =>
  (World.cell?_setCell_far W p ⟨Bs, 0, none⟩ v h).trans x

theorem boxed_keptN {W W' : World} {row : Option Nat} {B : Nat} {t : TypeId} {v : Value} (h : Boxed W B t v) (hg : W.grownBy W' row)
    (hr : ∀ r, row = some r → ∃ o : Obj, W.heap[r]? = some o ∧ o.isCells = false) : Boxed W' B t v :=
  h.kept hg fun e => by
    obtain ⟨o, ho, hc⟩ := hr B e.symm
    rw [show W.heap[B]? = _ from h] at ho; cases ho; cases hc
theorem boxed_kp {W W' : World} {B : Nat} {t : TypeId} {v : Value} (h : Boxed W B t v) (hk : Kp W W') : Boxed W' B t v :=
  (hk.block B h.lt).trans h
theorem keeps_kp {W W' : World} (h : Kp W W') : KeepsOthers W W' := ⟨h.size, fun k o hk _ => (h.block k (Array.getElem?_eq_some_iff.1 hk).1).trans hk⟩
theorem boxed_far {W : World} {B : Nat} {t : TypeId} {v : Value} (h : Boxed W B t v) {p : Addr} (hp : B ≠ p.block) (u : Value) : Boxed (W.setCell p u) B t v := by
  unfold Boxed
  rw [heap_setCell_other W p B u hp]; exact h
theorem boxed_same {W : World} {B : Nat} {t : TypeId} {v : Value} (h : Boxed W B t v) : W.setCell ⟨B, 0, none⟩ v = W := by
  have hl := h.lt
  have e : (W.setCell ⟨B, 0, none⟩ v).heap = W.heap := by
    refine Array.ext (by simp [World.setCell]) fun i h1 h2 => ?_
    by_cases e : i = B
    · subst e
      have h3 := Boxed.set v h
      have h4 : W.heap[i]? = some (.cells #[v] t (0, 0)) := h
      have h5 : (W.setCell ⟨i, 0, none⟩ v).heap[i]? = some (.cells #[v] t (0, 0)) := h3
      rw [Array.getElem?_eq_getElem h1] at h5
      rw [Array.getElem?_eq_getElem h2] at h4
      exact Option.some.inj (h5.trans h4.symm)
    · have h3 := heap_setCell_other W ⟨B, 0, none⟩ i v e
      rw [Array.getElem?_eq_getElem h1, Array.getElem?_eq_getElem h2] at h3
      exact Option.some.inj h3
  show { W with heap := (W.setCell ⟨B, 0, none⟩ v).heap } = W
  rw [e]
theorem boxed_drewN {W : World} {B : Nat} {t : TypeId} {v : Value} (h : Boxed W B t v) (n : Nat) : Boxed (W.drewN n) B t v := h

end Go.Proofs.YtologiinkilooaaDoor

/- Contracts of package inv, first part: places, zero. -/
namespace Go.Proofs.YtologiinkilooaaDoor
open Go.ChangeShapes Go.WideShapes Go.ChangeAt Go.RowKit Go.Shelf
set_option linter.unusedVariables false
attribute [local go_sem] Oper.semAt_some

set_option maxHeartbeats 800000 in
theorem iplaces_any (n : Nat) (w : World) :
    Calls Tryd.prog 26 #[.int .i64 (n : Int)] w fun e w' => e = .returned (.func (.func 45) #[] #[.pointer (some ⟨w.heap.size, 0, none⟩)]) ∧ w' = w.alloc (.cells #[.int .i64 (n : Int)] 3) := by
  go_enter Tryd.func26, Tryd.ntmps26
  go_wp2
  go_ret
  exact ⟨rfl, rfl⟩

set_option maxRecDepth 100000 in
set_option maxHeartbeats 2000000 in
theorem iplaces_in (n : Nat) (hn : 1 ≤ n) (l Bs c : Nat) (hc : c ≤ 1000) (J Jx : List Nat → World → Prop)
    (hY : ∀ pre x W, J pre W → pre.length < c * c → YieldAt Fence.wide (n - 1) Tryd.prog l (placeOf c c x) W fun e W' =>
      (e = .returned (.bool true) ∧ J (pre ++ [x]) W' ∧ KeepN Bs c W W') ∨ (e = .returned (.bool false) ∧ Jx (pre ++ [x]) W'))
    (W : World) (hBs : W.cell? ⟨Bs, 0, none⟩ = some (.int .i64 (c : Int))) (h0 : J [] W) :
    CallsIn Fence.wide n Tryd.prog 45 #[.func (.yield l) #[] #[], .pointer (some ⟨Bs, 0, none⟩)] W fun e W' => (∃ v, e = .returned v) ∧
      ((∃ ys, ys = List.range (c * c) ∧ J ys W') ∨ (∃ pre, True ∧ Jx pre W')) := by
  refine callsIn_of_wp Tryd.func45 rfl trivial ?_ rfl
  simp only [Tryd.ntmps45, List.size_toArray, List.length_cons, List.length_nil, Nat.reduceAdd, Nat.reduceSub, Array.replicate_succ, Array.replicate_zero, List.push_toArray, List.append_toArray, List.nil_append, List.cons_append]
  gi_wp2
  gi_loopw [6] (fun i wr => ∃ k : Nat, k ≤ c ∧ i = .int .i64 (k : Int) ∧ J (List.range (k * c)) wr ∧ KeepN Bs c W wr) (fun i _ => c - (intOf i).toNat)
  case atStart => exact ⟨0, Nat.zero_le _, rfl, by rw [Nat.zero_mul]; exact h0, id⟩
  case round =>
    obtain ⟨k, hk, rfl, hJs, hnx⟩ := hrel
    by_cases hlt : k < c
    · have hcx : wr.cell? ⟨Bs, 0, none⟩ = some (.int .i64 (c : Int)) := hnx hBs
      have JS := Lib.hid hJs
      have NX := Lib.hid hnx
      clear hJs hnx
      gi_wp2
      gi_loopw [10] (fun j wq => ∃ m : Nat, m ≤ c ∧ j = .int .i64 (m : Int) ∧ J (List.range (k * c + m)) wq ∧ KeepN Bs c W wq) (fun j _ => c - (intOf j).toNat)
      case atStart => exact ⟨0, Nat.zero_le _, rfl, JS.out, NX.out⟩
      case round =>
        obtain ⟨m, hm, rfl, hJq, hnq⟩ := hrel
        by_cases hmt : m < c
        · obtain ⟨fn, tmps, assign, body, hy, hR⟩ := hY _ (k * c + m) _ hJq (by rw [List.length_range]; exact Mx.place_lt hlt hmt)
          rw [placeOf_at hlt hmt] at hy
          have NQ := Lib.hid hnq
          have RR := Lib.hid hR
          clear hnq hJq hR
          gi_wp2
          refine (RR.out).mono ?_
          rintro e W3 (⟨rfl, hJ3, hk3⟩ | ⟨rfl, hJx3⟩)
          · gi_wp2
            go_roundw
            case rel => exact ⟨m + 1, by omega, by go_num, by rw [← Nat.add_assoc, List.range_succ]; exact hJ3, keepN_t NQ.out hk3⟩
            case measure => simp [intOf]; omega
          · gi_wp2
            refine bodyPost_ret (results_none rfl _ _ _) rfl ?_
            exact ⟨⟨_, rfl⟩, .inr ⟨_, trivial, hJx3⟩⟩
        · obtain rfl : m = c := by omega
          have NQ := Lib.hid hnq
          have JQ := Lib.hid hJq
          clear hnq hJq
          gi_wp2
          go_roundw
          case rel => exact ⟨k + 1, by omega, by go_num, by rw [Nat.add_mul, Nat.one_mul]; exact JQ.out, NQ.out⟩
          case measure => simp [intOf]; omega
    · obtain rfl : k = c := by omega
      gi_wp2
      go_end0
      exact ⟨⟨_, rfl⟩, .inl ⟨_, rfl, hJs⟩⟩

theorem iplaces_stops (n : Nat) (hn : 1 ≤ n) (Bs c : Nat) (hc : c ≤ 1000) (w : World) (hB : Bs < w.heap.size) (hBs : w.cell? ⟨Bs, 0, none⟩ = some (.int .i64 (c : Int))) :
    SeqStopsK Fence.wide n Tryd.prog 45 #[.pointer (some ⟨Bs, 0, none⟩)] (placeOf c c) (KeepN Bs c) (fun ys => ys = List.range (c * c)) (fun _ => True) (c * c) w := fun l J Jx W hW _ _ hY h0 =>
  iplaces_in n hn l Bs c hc J Jx hY W ((hW.cell (p := ⟨Bs, 0, none⟩) hB).trans hBs) h0


end Go.Proofs.YtologiinkilooaaDoor

/- The iterator over a list of numbers without one place; slices.Collect of what it yields. -/
namespace Go.Proofs.YtologiinkilooaaDoor
open Go.ChangeShapes Go.WideShapes Go.ChangeAt Go.RowKit Go.Shelf
set_option linter.unusedVariables false
attribute [local go_sem] Oper.semAt_some

set_option maxHeartbeats 800000 in
theorem others_any (A : Option Addr) (n d : Nat) (k : Int) (w : World) :
    Calls Tryd.prog 65 #[.slice A n d, .int .i64 k] w fun e w' =>
      e = .returned (.func (.func 76) #[] #[.pointer (some ⟨w.heap.size, 0, none⟩), .pointer (some ⟨w.heap.size + 1, 0, none⟩)]) ∧
        w' = (w.alloc (.cells #[.slice A n d] 24)).alloc (.cells #[.int .i64 k] 3) := by
  go_enter Tryd.func65, Tryd.ntmps65
  go_wp2
  go_ret
  exact ⟨rfl, rfl⟩

def numAt (g : Nat → Int) (x : Nat) : Array Value := #[.int .i64 (g x)]

set_option maxRecDepth 100000 in
set_option maxHeartbeats 2000000 in
theorem others_in (n : Nat) (hn : 1 ≤ n) (l B0 B1 n₀ c k d : Nat) (A : Option Addr) (g : Nat → Int) (hc : c ≤ 1000) (hk : k ≤ 1000) (h1 : B1 < n₀) (J Jx : List Nat → World → Prop)
    (hY : ∀ pre x W, J pre W → pre.length < c → YieldAt Fence.wide (n - 1) Tryd.prog l (numAt g x) W fun e W' =>
      (e = .returned (.bool true) ∧ J (pre ++ [x]) W' ∧ Below n₀ W W') ∨ (e = .returned (.bool false) ∧ Jx (pre ++ [x]) W'))
    (W : World) (hB0 : W.cell? ⟨B0, 0, none⟩ = some (.slice A c d)) (hB1 : W.cell? ⟨B1, 0, none⟩ = some (.int .i64 (k : Int))) (hl : LiesIn W n₀ A (Mx.row c g)) (h0 : J [] W) :
    CallsIn Fence.wide n Tryd.prog 76 #[.func (.yield l) #[] #[], .pointer (some ⟨B0, 0, none⟩), .pointer (some ⟨B1, 0, none⟩)] W fun e W' => (∃ v, e = .returned v) ∧
      ((∃ ys, ys = kept k c ∧ J ys W') ∨ (∃ pre, True ∧ Jx pre W')) := by
  have HL := Lib.hid hl
  clear hl
  refine callsIn_of_wp Tryd.func76 rfl trivial ?_ rfl
  simp only [Tryd.ntmps76, List.size_toArray, List.length_cons, List.length_nil, Nat.reduceAdd, Nat.reduceSub, Array.replicate_succ, Array.replicate_zero, List.push_toArray, List.append_toArray, List.nil_append, List.cons_append]
  gi_wp2
  gi_loopw [4, 5, 8] (fun _ _ i wr => ∃ m : Nat, m ≤ c ∧ i = .int .i64 (m : Int) ∧ J (kept k m) wr ∧ Below n₀ W wr) (fun _ _ i _ => c - (intOf i).toNat)
  case atStart => exact ⟨0, Nat.zero_le _, rfl, by rw [kept_zero]; exact h0, Below.refl _ _⟩
  case round =>
    obtain ⟨m, hm, rfl, hJs, hnx⟩ := hrel
    by_cases hlt : m < c
    · have hx1 : wr.cell? ⟨B1, 0, none⟩ = some (.int .i64 (k : Int)) := (hnx.cell (p := ⟨B1, 0, none⟩) h1).trans hB1
      obtain ⟨ad, rfl, hbl, hcl⟩ := (HL.out.below hnx) m (by rw [Mx.len_row]; exact hlt)
      rw [Mx.row_at _ _ _ hlt] at hcl
      by_cases hmk : m = k
      · subst hmk
        have e1 : ((m : Int) != (m : Int)) = false := by simp
        have JS := Lib.hid hJs
        have NX := Lib.hid hnx
        clear hJs hnx
        gi_wp2
        refine ⟨fun _ h => (by cases h), ?_⟩
        gi_wp2
        go_roundw
        case rel => exact ⟨m + 1, by omega, by go_num, by rw [kept_skip]; exact JS.out, NX.out⟩
        case measure => simp [intOf]; omega
      · have e1 : ((m : Int) != (k : Int)) = true := by rw [bne_iff_ne]; omega
        obtain ⟨fn, tmps, assign, body, hy, hR⟩ := hY _ m _ hJs (by rw [kept_len]; exact ct_lt hlt hmk)
        unfold numAt at hy
        have KN := Lib.hid (kept_next hmk)
        have NX := Lib.hid hnx
        have RR := Lib.hid hR
        clear hJs hnx hR hmk
        gi_wp2
        refine (RR.out).mono ?_
        rintro e W3 (⟨rfl, hJ3, hk3⟩ | ⟨rfl, hJx3⟩)
        · gi_wp2
          go_roundw
          case rel => exact ⟨m + 1, by omega, by go_num, by rw [KN.out]; exact hJ3, NX.out.trans hk3⟩
          case measure => simp [intOf]; omega
        · gi_wp2
          refine bodyPost_ret (results_none rfl _ _ _) rfl ?_
          exact ⟨⟨_, rfl⟩, .inr ⟨_, trivial, hJx3⟩⟩
    · obtain rfl : m = c := by omega
      gi_wp2
      go_end0
      exact ⟨⟨_, rfl⟩, .inl ⟨_, rfl, hJs⟩⟩

theorem others_stops (n : Nat) (hn : 1 ≤ n) (B0 B1 n₀ c k d : Nat) (A : Option Addr) (g : Nat → Int) (hc : c ≤ 1000) (hk : k ≤ 1000) (h0 : B0 < n₀) (h1 : B1 < n₀) (w : World) (hn0 : n₀ ≤ w.heap.size)
    (hB0 : w.cell? ⟨B0, 0, none⟩ = some (.slice A c d)) (hB1 : w.cell? ⟨B1, 0, none⟩ = some (.int .i64 (k : Int))) (hl : LiesIn w n₀ A (Mx.row c g)) :
    SeqStopsK Fence.wide n Tryd.prog 76 #[.pointer (some ⟨B0, 0, none⟩), .pointer (some ⟨B1, 0, none⟩)] (numAt g) (Below n₀) (fun ys => ys = kept k c) (fun _ => True) c w := fun l J Jx W hW _ _ hY hj =>
  others_in n hn l B0 B1 n₀ c k d A g hc hk h1 J Jx hY W ((hW.cell (p := ⟨B0, 0, none⟩) (by show B0 < _; omega)).trans hB0) ((hW.cell (p := ⟨B1, 0, none⟩) (by show B1 < _; omega)).trans hB1) (hl.below (hW.mono hn0)) hj


theorem row_kept (g : Nat → Int) (k c : Nat) : (kept k c).map g = Mx.row (ct k c) fun j => g (Mx.sk k j) := by
  unfold kept Mx.row
  rw [List.map_map]
  rfl

set_option maxRecDepth 100000 in
set_option maxHeartbeats 2000000 in
/-- slices.AppendSeq(nil, others(row, k)). -/
theorem appendSeq_any (B0 B1 c k d : Nat) (A : Option Addr) (g : Nat → Int) (hc : c ≤ 1000) (hk : k ≤ 1000) (w : World) (hB0 : w.cell? ⟨B0, 0, none⟩ = some (.slice A c d)) (hB1 : w.cell? ⟨B1, 0, none⟩ = some (.int .i64 (k : Int))) (hl : Lies w A (Mx.row c g)) :
    Calls Tryd.prog 75 #[.slice none 0 0, .func (.func 76) #[] #[.pointer (some ⟨B0, 0, none⟩), .pointer (some ⟨B1, 0, none⟩)]] w fun e w' =>
      ∃ v, e = .returned v ∧ Own w' w.heap.size v (Mx.row (ct k c) fun j => g (Mx.sk k j)) ∧ Kp w w' := by
  obtain ⟨i0, hi, hz0, hz1, hz2⟩ := info_parts int_info
  have b0 := cell_lt hB0
  have b1 := cell_lt hB1
  have HL := Lib.hid hl.in
  clear hl
  refine callsIn_wide.1 (callsIn_of_wp_marks (F := Fence.wide) (n := 9) Tryd.func75 rfl trivial ?_ rfl)
  simp only [Tryd.ntmps75, List.size_toArray, List.length_cons, List.length_nil, Nat.reduceAdd, Nat.reduceSub, Array.replicate_succ, Array.replicate_zero, List.push_toArray, List.append_toArray, List.nil_append, List.cons_append]
  gi_wp2
  have bO := Boxed.new w 24 (.slice none 0 0)
  obtain ⟨w1, hw1⟩ : ∃ x, x = w.alloc (.cells #[.slice none 0 0] 24) := ⟨_, rfl⟩
  rw [← hw1] at bO ⊢
  have s1 : w1.heap.size = w.heap.size + 1 := by rw [hw1]; simp
  have k1 : Kp w w1 := by rw [hw1]; exact (Kp.rfl' w).new _
  clear hw1
  refine wpIn_rangeFunc_ownG rfl (Nat.le_add_left 1 8) (gf := 76) (lb := #[.pointer (some ⟨B0, 0, none⟩), .pointer (some ⟨B1, 0, none⟩)]) rfl trivial (enters_of Tryd.func76 (by kernel_rfl) rfl)
    (others_stops 8 (Nat.le_add_left 1 7) B0 B1 w.heap.size c k d A g hc hk b0 b1 w1 (by omega) ((k1.cell (p := ⟨B0, 0, none⟩) b0).trans hB0) ((k1.cell (p := ⟨B1, 0, none⟩) b1).trans hB1) (HL.out.below k1))
    belowK_t (belowK_b (by omega)) (Below.refl _ _) (fun _ => rfl)
    (fun pre W => (∃ v, Boxed W w.heap.size 24 v ∧ W.ownsRow w.heap.size 3 1 v pre.length (ints (pre.map g)) ∧ True) ∧ Below w.heap.size w W)
    (fun _ _ _ => False)
    (OwnFrom.and (Go.Own.from (holdsRow_own w.heap.size w.heap.size 24 3 1 (fun (pre : List Nat) => pre.length) (fun pre => ints (pre.map g)) (fun _ _ => True)) _) (ownFrom_below (Nat.le_refl _) (by omega)))
    (fun _ _ _ _ _ hs _ _ => hs)
    ⟨⟨_, bO, World.ownsRow_nil _ _ _ _, trivial⟩, k1⟩
    (fun x => { tmps := #[.slice none 0 0, .func (.func 76) #[] #[.pointer (some ⟨B0, 0, none⟩), .pointer (some ⟨B1, 0, none⟩)], .pointer (some ⟨w.heap.size, 0, none⟩), undef, .slice none 0 0, .int .i64 (g x), .func (.func 76) #[] #[.pointer (some ⟨B0, 0, none⟩), .pointer (some ⟨B1, 0, none⟩)], .int .i64 (g x), undef, undef, undef, undef, undef], defers := [] }) ?assign ?body ?done ?stop
  case assign =>
    intro l x W K hK
    unfold numAt
    gi_wp2
    exact hK
  case body =>
    rintro l pre x W ⟨⟨v, hv, hrow, _⟩, hB⟩ hlt
    have hcb := hv.cell
    have hlen : pre.length ≤ 1000 := by omega
    have hsn : (pre ++ [x]).map g = pre.map g ++ [g x] := by rw [List.map_append, List.map_singleton]
    gi_wp2_with (gi_at_builtin; refine wpListIn_append_own _ rfl _ _ 24 rfl w.heap.size 3 i0 (.int .i64 0) 1 8 Tryd.underlying24 hi hz0 hz1 hz2 rfl (by decide) _ _ _ rfl (hrow.alloc _) ⟨W.heap.size, 0, none⟩ 1 1 [.int .i64 (g x)] rfl rfl (cell_one_new _ _ _) (by simp [Value.oneCell']) (by unfold maxLen; omega) (by omega) (by have := hB.size; simp; omega) ?_; intro v' w2 hown' hgrow _; obtain ⟨g', cap', rfl⟩ := ownsRow_succ hown'; obtain ⟨hv1, hv2, hr2, hk2, hb2⟩ := hv.appended (by decide) hrow hB.size (Nat.le_refl _) hown' hgrow; have hc1 := hv1.cell; have hf1 := hv1.frozen)
    refine ⟨hk2.from _, hb2, ⟨_, hv2, ?_, trivial⟩, hB.trans hb2⟩
    rw [List.length_append, List.length_singleton, hsn, ints, List.map_append, List.map_singleton]
    exact hr2
  case done =>
    rintro D ys W hD rfl ⟨⟨v, hv, hrow, _⟩, hB⟩ hK
    have hcb := hv.cell
    gi_wp2
    refine ⟨by simp, .inl ⟨_, _, rfl, run_takeDeferred hK, ?_⟩⟩
    refine ⟨_, results_tmp rfl _ _ _, v, rfl, ?_, hB.trans (belowK_b (w := w) (Nat.le_refl _) W D _ _ (by omega) hK rfl rfl)⟩
    have hrow2 := ownsRow_putObj hrow (.deferred none) hK rfl
    rw [← row_kept]
    unfold Own
    rw [List.length_map]
    exact hrow2
  case stop =>
    rintro D c pre W _ _ h _
    exact h.elim

set_option maxHeartbeats 800000 in
theorem collect_any (B0 B1 c k d : Nat) (A : Option Addr) (g : Nat → Int) (hc : c ≤ 1000) (hk : k ≤ 1000) (w : World) (hB0 : w.cell? ⟨B0, 0, none⟩ = some (.slice A c d)) (hB1 : w.cell? ⟨B1, 0, none⟩ = some (.int .i64 (k : Int))) (hl : Lies w A (Mx.row c g)) :
    Calls Tryd.prog 64 #[.func (.func 76) #[] #[.pointer (some ⟨B0, 0, none⟩), .pointer (some ⟨B1, 0, none⟩)]] w fun e w' =>
      ∃ v, e = .returned v ∧ Own w' w.heap.size v (Mx.row (ct k c) fun j => g (Mx.sk k j)) ∧ Kp w w' := by
  have AP := Lib.hid (appendSeq_any B0 B1 c k d A g hc hk w hB0 hB1 hl)
  clear hl hB0 hB1
  go_enter Tryd.func64, Tryd.ntmps64
  go_wp2_with fail
  refine (AP.out).mono ?_; rintro e w1 ⟨v, rfl, ho, hk1⟩
  have HO := Lib.hid ho
  have HK := Lib.hid hk1
  clear ho hk1
  go_wp2_with fail
  go_ret
  exact ⟨v, rfl, HO.out, HK.out⟩

end Go.Proofs.YtologiinkilooaaDoor

/- The iterator over the rows of a matrix without one of them. -/
namespace Go.Proofs.YtologiinkilooaaDoor
open Go.ChangeShapes Go.WideShapes Go.ChangeAt Go.RowKit Go.Shelf
set_option linter.unusedVariables false
attribute [local go_sem] Oper.semAt_some

set_option maxHeartbeats 800000 in
theorem othersM_any (A : Option Addr) (n d : Nat) (k : Int) (w : World) :
    Calls Tryd.prog 63 #[.slice A n d, .int .i64 k] w fun e w' =>
      e = .returned (.func (.func 74) #[] #[.pointer (some ⟨w.heap.size, 0, none⟩), .pointer (some ⟨w.heap.size + 1, 0, none⟩)]) ∧
        w' = (w.alloc (.cells #[.slice A n d] 22)).alloc (.cells #[.int .i64 k] 3) := by
  go_enter Tryd.func63, Tryd.ntmps63
  go_wp2
  go_ret
  exact ⟨rfl, rfl⟩

/-- The head of row x. -/
def headAt (n c : Nat) (R : Nat → Option Addr) (D : Nat → Nat) (x : Nat) : Array Value := #[.slice (R (x % n)) c (D (x % n))]
/-- What a round keeps: what lay before, and the place that is left out. -/
def KeepB (n₀ B1 : Nat) (k : Int) (W W' : World) : Prop := Below n₀ W W' ∧ (W.cell? ⟨B1, 0, none⟩ = some (.int .i64 k) → W'.cell? ⟨B1, 0, none⟩ = some (.int .i64 k))
theorem keepB_t {n₀ B1 : Nat} {k : Int} {a b c : World} (h : KeepB n₀ B1 k a b) (h' : KeepB n₀ B1 k b c) : KeepB n₀ B1 k a c := ⟨h.1.trans h'.1, fun x => h'.2 (h.2 x)⟩
theorem keepB_b {w : World} {n₀ B1 : Nat} {k : Int} (hn : n₀ ≤ w.heap.size) (W : World) (l : Nat) (o o' : Obj) (hl : w.heap.size ≤ l) (ho : W.heap[l]? = some o) (h1 : o.isCells = false) (h2 : o.isWalk = false) : KeepB n₀ B1 k W (W.putObj l o') :=
  ⟨belowK_b hn W l o o' hl ho h1 h2, fun x => cell_kept x (grownBy_putObj' W l o') (fun r e => by cases e; exact ⟨_, ho, h1⟩)⟩

set_option maxRecDepth 100000 in
set_option maxHeartbeats 2000000 in
theorem othersM_in (n : Nat) (hn : 1 ≤ n) (l B0 B1 n₀ c k d : Nat) (A : Option Addr) (r : Nat) (R : Nat → Option Addr) (D : Nat → Nat) (hc : r ≤ 1000) (hk : k ≤ 1000) (J Jx : List Nat → World → Prop)
    (hY : ∀ pre x W, J pre W → pre.length < r → YieldAt Fence.wide (n - 1) Tryd.prog l (headAt r c R D x) W fun e W' =>
      (e = .returned (.bool true) ∧ J (pre ++ [x]) W' ∧ KeepB n₀ B1 k W W') ∨ (e = .returned (.bool false) ∧ Jx (pre ++ [x]) W'))
    (W : World) (hB0 : W.cell? ⟨B0, 0, none⟩ = some (.slice A r d)) (hB1 : W.cell? ⟨B1, 0, none⟩ = some (.int .i64 (k : Int))) (hl : ∀ i, i < r → ∃ ad, A = some ad ∧ ad.block < n₀ ∧ W.cell? (ad.add i) = some (.slice (R i) c (D i))) (h0 : J [] W) :
    CallsIn Fence.wide n Tryd.prog 74 #[.func (.yield l) #[] #[], .pointer (some ⟨B0, 0, none⟩), .pointer (some ⟨B1, 0, none⟩)] W fun e W' => (∃ v, e = .returned v) ∧
      ((∃ ys, ys = kept k r ∧ J ys W') ∨ (∃ pre, True ∧ Jx pre W')) := by
  have HL := Lib.hid hl
  clear hl
  refine callsIn_of_wp Tryd.func74 rfl trivial ?_ rfl
  simp only [Tryd.ntmps74, List.size_toArray, List.length_cons, List.length_nil, Nat.reduceAdd, Nat.reduceSub, Array.replicate_succ, Array.replicate_zero, List.push_toArray, List.append_toArray, List.nil_append, List.cons_append]
  gi_wp2
  gi_loopw [4, 5, 8] (fun _ _ i wr => ∃ m : Nat, m ≤ r ∧ i = .int .i64 (m : Int) ∧ J (kept k m) wr ∧ KeepB n₀ B1 k W wr) (fun _ _ i _ => r - (intOf i).toNat)
  case atStart => exact ⟨0, Nat.zero_le _, rfl, by rw [kept_zero]; exact h0, Below.refl _ _, id⟩
  case round =>
    obtain ⟨m, hm, rfl, hJs, hnx⟩ := hrel
    by_cases hlt : m < r
    · have hx1 : wr.cell? ⟨B1, 0, none⟩ = some (.int .i64 (k : Int)) := hnx.2 hB1
      obtain ⟨ad, rfl, hbl, hcl0⟩ := HL.out m hlt
      have hcl := (hnx.1.cell (p := ad.add m) (by rw [block_add]; exact hbl)).trans hcl0
      clear hcl0
      by_cases hmk : m = k
      · subst hmk
        have e1 : ((m : Int) != (m : Int)) = false := by simp
        have JS := Lib.hid hJs
        have NX := Lib.hid hnx
        clear hJs hnx
        gi_wp2
        refine ⟨fun _ h => (by cases h), ?_⟩
        gi_wp2
        go_roundw
        case rel => exact ⟨m + 1, by omega, by go_num, by rw [kept_skip]; exact JS.out, NX.out⟩
        case measure => simp [intOf]; omega
      · have e1 : ((m : Int) != (k : Int)) = true := by rw [bne_iff_ne]; omega
        obtain ⟨fn, tmps, assign, body, hy, hR⟩ := hY _ m _ hJs (by rw [kept_len]; exact ct_lt hlt hmk)
        unfold headAt at hy
        rw [Nat.mod_eq_of_lt hlt] at hy
        have KN := Lib.hid (kept_next hmk)
        have NX := Lib.hid hnx
        have RR := Lib.hid hR
        clear hJs hnx hR hmk
        gi_wp2
        refine (RR.out).mono ?_
        rintro e W3 (⟨rfl, hJ3, hk3⟩ | ⟨rfl, hJx3⟩)
        · gi_wp2
          go_roundw
          case rel => exact ⟨m + 1, by omega, by go_num, by rw [KN.out]; exact hJ3, keepB_t NX.out hk3⟩
          case measure => simp [intOf]; omega
        · gi_wp2
          refine bodyPost_ret (results_none rfl _ _ _) rfl ?_
          exact ⟨⟨_, rfl⟩, .inr ⟨_, trivial, hJx3⟩⟩
    · obtain rfl : m = r := by omega
      gi_wp2
      go_end0
      exact ⟨⟨_, rfl⟩, .inl ⟨_, rfl, hJs⟩⟩

theorem othersM_stops (n : Nat) (hn : 1 ≤ n) (B0 B1 n₀ c k d : Nat) (A : Option Addr) (r : Nat) (R : Nat → Option Addr) (D : Nat → Nat) (hc : r ≤ 1000) (hk : k ≤ 1000) (w : World) (hb0 : B0 < w.heap.size) (hb1 : B1 < w.heap.size) (hn0 : n₀ ≤ w.heap.size)
    (hB0 : w.cell? ⟨B0, 0, none⟩ = some (.slice A r d)) (hB1 : w.cell? ⟨B1, 0, none⟩ = some (.int .i64 (k : Int))) (hl : ∀ i, i < r → ∃ ad, A = some ad ∧ ad.block < n₀ ∧ w.cell? (ad.add i) = some (.slice (R i) c (D i))) :
    SeqStopsK Fence.wide n Tryd.prog 74 #[.pointer (some ⟨B0, 0, none⟩), .pointer (some ⟨B1, 0, none⟩)] (headAt r c R D) (KeepB n₀ B1 k) (fun ys => ys = kept k r) (fun _ => True) r w := fun l J Jx W hW _ _ hY hj =>
  othersM_in n hn l B0 B1 n₀ c k d A r R D hc hk J Jx hY W ((hW.cell (p := ⟨B0, 0, none⟩) hb0).trans hB0) ((hW.cell (p := ⟨B1, 0, none⟩) hb1).trans hB1) (fun i hi => by
    obtain ⟨ad, e, h1, h2⟩ := hl i hi
    exact ⟨ad, e, h1, (hW.cell (p := ad.add i) (by rw [block_add]; omega)).trans h2⟩) hj


end Go.Proofs.YtologiinkilooaaDoor

/- Contracts of package minors. -/
namespace Go.Proofs.YtologiinkilooaaDoor
open Go.ChangeShapes Go.WideShapes Go.ChangeAt Go.RowKit Go.Shelf
set_option linter.unusedVariables false
attribute [local go_sem] Oper.semAt_some

section
variable {ops : Array Oper} {o : Oper} {a : Act} {w : World} {K : Act → World → Prop} {Q : Exit → Act → World → Prop}
theorem step_wanted {E : Prop} (hgd : o.guard = Option.none) (h : Oper.wp Tryd.prog o a w K Q) :
    if Region.wanted o (yielded ops a.tmps) = true then Oper.wp Tryd.prog o a w K Q else E := by
  have hw : Region.wanted o (yielded ops a.tmps) = true := by simp [Region.wanted, hgd]
  rw [if_pos hw]; exact h
end

/-- What is the call's own abides the turn of what is no cells. -/
theorem ownsRow_keptN {W W' : World} {row : Option Nat} {B n : Nat} {e : TypeId} {v : Value} {xs : List Value} (h : W.ownsRow B e 1 v n xs) (hg : W.grownBy W' row)
    (hr : ∀ r, row = some r → ∃ o : Obj, W.heap[r]? = some o ∧ o.isCells = false) : W'.ownsRow B e 1 v n xs := by
  refine h.kept hg ?_
  rcases h.2 with ⟨rfl, _⟩ | ⟨g, cap, cur, rfl, _, hgb, _⟩
  · exact .inl rfl
  · refine .inr fun e' => ?_
    obtain ⟨o, ho, hc⟩ := hr g (by simpa [Value.ownBlock] using e'.symm)
    rw [hgb] at ho; cases ho; cases hc
theorem ownM_keptN {W W' : World} {row : Option Nat} {B : Nat} {v : Value} {G C : Nat → Nat} {m : List (List Int)} (h : OwnM W B v G C m) (hg : W.grownBy W' row)
    (hr : ∀ r, row = some r → ∃ o : Obj, W.heap[r]? = some o ∧ o.isCells = false) : OwnM W' B v G C m :=
  ⟨ownsRow_keptN h.top hg hr, fun i hi => ownsRow_keptN (h.row i hi) hg hr, h.apart⟩
/-- A store into a variable's box leaves the rows and their heads. -/
theorem ownM_box {W : World} {B Bx : Nat} {v u u' : Value} {G C : Nat → Nat} {m : List (List Int)} (h : OwnM W B v G C m) (hb : Boxed W Bx 22 u) : OwnM (W.setCell ⟨Bx, 0, none⟩ u') B v G C m := by
  refine ⟨World.ownsRow.kept h.top (grownBy_setCell' W Bx u') (.inr (hb.not_row (by decide) h.top).symm), fun i hi => own_store (h.row i hi) (a := ⟨Bx, 0, none⟩) (fun e => ?_) u', h.apart⟩
  obtain ⟨cur, hh, _⟩ := own_row (h.row i hi)
  have h2 : W.heap[Bx]? = some (.cells #[u] 22 (0, 0)) := hb
  rw [show G i = Bx from e, h2] at hh
  cases hh

/-- The rows x of a list without place j. -/
def mrows (n p j : Nat) (f : Nat → Nat → Fp.F) (pre : List Nat) : List (List Int) := pre.map fun x => Mx.row p fun b => ((f (x % n) (Mx.sk j b)).val : Int)
theorem mrows_len (n p j : Nat) (f : Nat → Nat → Fp.F) (pre : List Nat) : (mrows n p j f pre).length = pre.length := by simp [mrows]
theorem mrows_snoc (n p j : Nat) (f : Nat → Nat → Fp.F) (pre : List Nat) (x : Nat) : mrows n p j f (pre ++ [x]) = mrows n p j f pre ++ [Mx.row p fun b => ((f (x % n) (Mx.sk j b)).val : Int)] := by simp [mrows]
theorem mrows_all {n p i j : Nat} (f : Nat → Nat → Fp.F) (hn : n = p + 1) (hi : i ≤ p) : mrows n p j f (kept i n) = Mx.matl p p (wo f i j) := by
  unfold mrows kept
  rw [hn, ct_end hi, List.map_map]
  unfold Mx.matl Mx.tab
  refine List.map_congr_left fun a ha => ?_
  have ha' := List.mem_range.1 ha
  show Mx.row p _ = Mx.row p _
  refine Mx.row_ext fun b _ => ?_
  show ((f (Mx.sk i a % (p + 1)) (Mx.sk j b)).val : Int) = ((f (Mx.sk i a) (Mx.sk j b)).val : Int)
  rw [Nat.mod_eq_of_lt (Mx.sk_lt ha')]

/-- Between two rounds: in its variable lie the rows so far; the row and the column that are left out are as they were. -/
structure MinAt (w : World) (n p i j : Nat) (f : Nat → Nat → Fp.F) (pre : List Nat) (W : World) : Prop where
  rest : ∃ v G C, Boxed W (w.heap.size + 1) 22 v ∧ OwnM W w.heap.size v G C (mrows n p j f pre)
  col : Boxed W w.heap.size 3 (.int .i64 (j : Int))
  row : Boxed W (w.heap.size + 3) 3 (.int .i64 (i : Int))
theorem minAt_own (w : World) (n p i j : Nat) (f : Nat → Nat → Fp.F) : Go.Own (MinAt w n p i j f) := fun s W W' row hs hg hr => by
  obtain ⟨v, G, C, h1, h2⟩ := hs.rest
  exact ⟨⟨v, G, C, boxed_keptN h1 hg hr, ownM_keptN h2 hg hr⟩, boxed_keptN hs.col hg hr, boxed_keptN hs.row hg hr⟩

theorem min_fin {w W wd w4 w6 : World} {n p i j B x vg vc : Nat} {f : Nat → Nat → Fp.F} {pre : List Nat} {v : Value} {G C G' C' : Nat → Nat} {tmp : Obj} (hw : Below w.heap.size w W) (hkd : Kp W wd) (k4 : Kp wd w4)
    (hv : Boxed W (w.heap.size + 1) 22 v) (ho : OwnM W w.heap.size v G C (mrows n p j f pre)) (hc : Boxed W w.heap.size 3 (.int .i64 (j : Int))) (hr : Boxed W (w.heap.size + 3) 3 (.int .i64 (i : Int)))
    (hg : (w4.alloc tmp).grownBy w6 v.ownBlock) (h6 : OwnM w6 w.heap.size (.slice (some ⟨vg, 0, none⟩) (pre.length + 1) vc) G' C' (mrows n p j f pre ++ [Mx.row p fun b => ((f (x % n) (Mx.sk j b)).val : Int)])) :
    KeepsFrom B W (w6.setCell ⟨w.heap.size + 1, 0, none⟩ (.slice (some ⟨vg, 0, none⟩) (pre.length + 1) vc)) ∧ KeepB w.heap.size (w.heap.size + 3) (i : Int) W (w6.setCell ⟨w.heap.size + 1, 0, none⟩ (.slice (some ⟨vg, 0, none⟩) (pre.length + 1) vc)) ∧
      MinAt w n p i j f (pre ++ [x]) (w6.setCell ⟨w.heap.size + 1, 0, none⟩ (.slice (some ⟨vg, 0, none⟩) (pre.length + 1) vc)) ∧ Below w.heap.size w (w6.setCell ⟨w.heap.size + 1, 0, none⟩ (.slice (some ⟨vg, 0, none⟩) (pre.length + 1) vc)) := by
  have hk4 := hkd.trans k4
  have hs := hw.size
  have hv4 := boxed_kp hv hk4
  have hrow4 := (ho.kp hk4).top
  have hl := hv4.lt
  obtain ⟨b6, b7, _, ko, be⟩ := hv4.appended (by decide) hrow4 (by omega) (Nat.le_succ _) h6.top hg
  have hb : Below w.heap.size W (w6.setCell ⟨w.heap.size + 1, 0, none⟩ (.slice (some ⟨vg, 0, none⟩) (pre.length + 1) vc)) := (hk4.mono hs).trans be
  have far : ∀ (q : Nat) (z : Int), q ≠ w.heap.size + 1 → Boxed W q 3 (.int .i64 z) → Boxed (w6.setCell ⟨w.heap.size + 1, 0, none⟩ (.slice (some ⟨vg, 0, none⟩) (pre.length + 1) vc)) q 3 (.int .i64 z) := fun q z ne hq => by
    have h4 := (boxed_kp hq hk4).alloc tmp
    have h6' := h4.kept hg (h4.not_row (by decide) (hrow4.alloc tmp))
    exact (Below.heap_setCell w6 ⟨w.heap.size + 1, 0, none⟩ _ q ne).trans h6'
  refine ⟨((keeps_kp hk4).trans ko).from B, ⟨hb, fun _ => (far _ _ (by omega) hr).cell⟩, ⟨⟨_, G', C', b7, ?_⟩, far _ _ (by omega) hc, far _ _ (by omega) hr⟩, hw.trans hb⟩
  rw [mrows_snoc]
  exact ownM_box h6 b6


set_option maxRecDepth 100000 in
theorem minor_one (A : Option Addr) (d : Nat) (i j : Int) (w : World) :
    Calls Tryd.prog 44 #[.slice A 1 d, .int .i64 i, .int .i64 j] w fun e w' => e = .returned (.tuple #[.int .i64 1, .nilIface]) ∧ Kp w w' := by
  go_enter Tryd.func44, Tryd.ntmps44
  go_wp2_with fail
  go_ret2
  exact ⟨rfl, (Kp.rfl' w).new _⟩

/-- The heads of the rows, by their numbers. -/
theorem LiesM.heads {w : World} {A : Option Addr} {r c : Nat} {f : Nat → Nat → Fp.F} (h : LiesM w A (Mx.matl r c f)) :
    ∃ (R : Nat → Option Addr) (D : Nat → Nat), ∀ i, i < r → ∃ ad, A = some ad ∧ ad.block < w.heap.size ∧ w.cell? (ad.add i) = some (.slice (R i) c (D i)) ∧ Lies w (R i) (Mx.row c fun b => ((f i b).val : Int)) := by
  have h1 : ∀ i, ∃ q : Option Addr × Nat, i < r → ∃ ad, A = some ad ∧ ad.block < w.heap.size ∧ w.cell? (ad.add i) = some (.slice q.1 c q.2) ∧ Lies w q.1 (Mx.row c fun b => ((f i b).val : Int)) := fun i => by
    by_cases hi : i < r
    · obtain ⟨ad, A', cap, e, hl, hc, _, hr⟩ := h.row hi
      exact ⟨(A', cap), fun _ => ⟨ad, e, hl, hc, hr⟩⟩
    · exact ⟨(Option.none, 0), fun h' => absurd h' hi⟩
  obtain ⟨q, hq⟩ := Classical.axiomOfChoice h1
  exact ⟨fun i => (q i).1, fun i => (q i).2, hq⟩

set_option maxRecDepth 100000 in
set_option maxHeartbeats 4000000 in
theorem minor_more (A : Option Addr) (f : Nat → Nat → Fp.F) (n p i j d : Nat) (w : World) (ha : LiesM w A (Mx.matl n n f)) (hn : n = p + 1) (hi : i ≤ p) (hj : j ≤ p) (hp0 : 0 < p) (hp : p ≤ 5) :
    Calls Tryd.prog 44 #[.slice A n d, .int .i64 (i : Int), .int .i64 (j : Int)] w fun e w' => e = .returned (.tuple #[.int .i64 ((Mx.dt p (wo f i j)).val : Int), .nilIface]) ∧ Kp w w' := by
  obtain ⟨R, D, HR⟩ := ha.heads
  have HR := Lib.hid HR
  have OF := Lib.hid (fun A' d' w' h => Of_ok A' (wo f i j) p d' w' h hp0 hp)
  have ALL := Lib.hid (mrows_all (j := j) f hn hi)
  have e1 : ((n : Int) == 1) = false := by rw [beq_eq_false_iff_ne]; omega
  have HN := Lib.hid hn
  have hn6 : n ≤ 6 := by omega
  have hn0 : 0 < n := by omega
  have hi6 : i ≤ 1000 := by omega
  have hj6 : j ≤ 1000 := by omega
  have HJ := Lib.hid hj
  have HP0 := Lib.hid hp0
  generalize Mx.dt p (wo f i j) = dd at *
  clear ha hn hi hj hp0 hp
  refine callsIn_wide.1 (callsIn_of_wp_marks (F := Fence.wide) (n := 9) Tryd.func44 rfl trivial ?_ rfl)
  simp only [Tryd.ntmps44, List.size_toArray, List.length_cons, List.length_nil, Nat.reduceAdd, Nat.reduceSub, Array.replicate_succ, Array.replicate_zero, List.push_toArray, List.append_toArray, List.nil_append, List.cons_append]
  refine wpIn_wide.2 ?_
  go_wp2_with fail
  refine (othersM_any A n d (i : Int) _).mono ?_; rintro e w' ⟨rfl, hw'⟩
  have b0 : Boxed (w.alloc (.cells #[.int .i64 (j : Int)] 3)) w.heap.size 3 (.int .i64 (j : Int)) := Boxed.new w _ _
  have b1 : Boxed ((w.alloc (.cells #[.int .i64 (j : Int)] 3)).alloc (.cells #[.slice none 0 0] 22)) (w.heap.size + 1) 22 (.slice none 0 0) := by
    have := Boxed.new (w.alloc (.cells #[.int .i64 (j : Int)] 3)) 22 (.slice none 0 0)
    rwa [World.size_alloc] at this
  obtain ⟨w2, hw2⟩ : ∃ x, x = (w.alloc (.cells #[.int .i64 (j : Int)] 3)).alloc (.cells #[.slice none 0 0] 22) := ⟨_, rfl⟩
  have s2 : w2.heap.size = w.heap.size + 2 := by rw [hw2]; simp
  have k2 : Kp w w2 := by rw [hw2]; exact ((Kp.rfl' w).new _).new _
  have c0 : Boxed w2 w.heap.size 3 (.int .i64 (j : Int)) := by rw [hw2]; exact b0.alloc _
  rw [← hw2] at b1 hw' ⊢
  clear hw2 b0
  have d0 : Boxed (w2.alloc (.cells #[.slice A n d] 22)) (w.heap.size + 2) 22 (.slice A n d) := by rw [← s2]; exact Boxed.new w2 _ _
  have d1 : Boxed w' (w.heap.size + 3) 3 (.int .i64 (i : Int)) := by
    rw [hw']
    have := Boxed.new (w2.alloc (.cells #[.slice A n d] 22)) 3 (.int .i64 (i : Int))
    rwa [World.size_alloc, s2] at this
  have k3 : Kp w2 w' := by rw [hw']; exact ((Kp.rfl' w2).new _).new _
  have s3 : w'.heap.size = w.heap.size + 4 := by rw [hw']; simp [s2]
  have d2 : Boxed w' (w.heap.size + 2) 22 (.slice A n d) := by rw [hw']; exact d0.alloc _
  have kw := k2.trans k3
  have M0 : MinAt w n p i j f [] w' := ⟨⟨_, fun _ => 0, fun _ => 0, boxed_kp b1 k3, ownM_none _ _ _ _⟩, boxed_kp c0 k3, d1⟩
  rw [s2]
  clear hw' d0 b1 c0 k2 k3
  go_wp2_with fail
  refine (wpIn_wide (n := 9)).1 (wpIn_rangeFunc_ownG (F := Fence.wide) rfl (Nat.le_add_left 1 8) (gf := 74) (lb := #[.pointer (some ⟨w.heap.size + 2, 0, none⟩), .pointer (some ⟨w.heap.size + 3, 0, none⟩)]) rfl trivial (enters_of Tryd.func74 (by kernel_rfl) rfl)
    (othersM_stops 8 (Nat.le_add_left 1 7) (w.heap.size + 2) (w.heap.size + 3) w.heap.size n i d A n R D (by omega) hi6 w' (by omega) (by omega) (by omega) d2.cell d1.cell (fun x hx => by
      obtain ⟨ad, e, h1, h2, _⟩ := HR.out x hx
      exact ⟨ad, e, h1, (kw.cell (p := ad.add x) (by rw [block_add]; exact h1)).trans h2⟩))
    keepB_t (keepB_b (by omega)) (Below.refl _ _) (fun _ => rfl)
    (fun pre W => MinAt w n p i j f pre W ∧ Below w.heap.size w W)
    (fun _ _ _ => False)
    (OwnFrom.and (Go.Own.from (minAt_own w n p i j f) _) (ownFrom_below (Nat.le_refl _) (by omega)))
    (fun _ _ _ _ _ hs _ _ => hs)
    ⟨M0, kw⟩
    (fun x => { tmps := #[.slice A n d, .int .i64 (i : Int), .int .i64 (j : Int), undef, undef, .pointer (some ⟨w.heap.size, 0, none⟩), .int .i64 0, .nilIface, .pointer (some ⟨w.heap.size + 1, 0, none⟩), .slice (R (x % n)) n (D (x % n)), .slice A n d, .int .i64 (n : Int), .bool false, .slice A n d, .int .i64 (i : Int), .func (.func 74) #[] #[.pointer (some ⟨w.heap.size + 2, 0, none⟩), .pointer (some ⟨w.heap.size + 3, 0, none⟩)], .slice (R (x % n)) n (D (x % n)), undef, undef, undef, undef, undef, undef, undef, undef, undef, undef, undef], defers := [] }) ?assign ?body ?done ?stop)
  case assign =>
    intro l x W K hK
    unfold headAt
    gi_wp2
    exact hK
  case body =>
    rintro l pre x W ⟨⟨⟨v, G, C, hv, ho⟩, hcj, hri⟩, hB⟩ hlt
    have hy : x % n < n := Nat.mod_lt _ hn0
    obtain ⟨ad, _, hadl, _, lr⟩ := HR.out (x % n) hy
    obtain ⟨wd, hwd⟩ : ∃ x, x = W.drew := ⟨_, rfl⟩
    have kd : Kp W wd := by rw [hwd]; exact (Kp.rfl' W).drewN 1
    have FIN := Lib.hid (fun (w4 w6 : World) (tmp : Obj) (vg vc : Nat) (G' C' : Nat → Nat) (k4 : Kp wd w4) (hg : (w4.alloc tmp).grownBy w6 v.ownBlock) (h6 : OwnM w6 w.heap.size (.slice (some ⟨vg, 0, none⟩) (pre.length + 1) vc) G' C' (mrows n p j f pre ++ [Mx.row p fun b => ((f (x % n) (Mx.sk j b)).val : Int)])) =>
      min_fin (B := w'.heap.size) hB kd k4 hv ho hcj hri hg h6)
    have hkw := hB.trans (kd.mono hB.size)
    have SK := Lib.hid (fun (w4 : World) (k : Kp wd w4) => (show w4.cell? ⟨w.heap.size + 1, 0, none⟩ = some v ∧ w4.cell? ⟨w.heap.size, 0, none⟩ = some (.int .i64 (j : Int)) from
      ⟨(boxed_kp hv (kd.trans k)).cell, (boxed_kp hcj (kd.trans k)).cell⟩))
    have OT := Lib.hid (fun w4 => others_any (R (x % n)) n (D (x % n)) (j : Int) w4)
    have L3 := Lib.hid (fun (w3 : World) (h : w3 = (wd.alloc (.cells #[.slice (R (x % n)) n (D (x % n))] 24)).alloc (.cells #[.int .i64 (j : Int)] 3)) =>
      (show Kp wd w3 ∧ w3.cell? ⟨wd.heap.size, 0, none⟩ = some (.slice (R (x % n)) n (D (x % n))) ∧ w3.cell? ⟨wd.heap.size + 1, 0, none⟩ = some (.int .i64 (j : Int)) by
        subst h
        refine ⟨((Kp.rfl' wd).new _).new _, ((Boxed.new wd 24 (.slice (R (x % n)) n (D (x % n)))).alloc _).cell, ?_⟩
        have := (Boxed.new (wd.alloc (.cells #[.slice (R (x % n)) n (D (x % n))] 24)) 3 (.int .i64 (j : Int))).cell
        rwa [World.size_alloc] at this))
    have COL := Lib.hid (fun (w3 : World) (k : Kp wd w3) (h1 : w3.cell? ⟨wd.heap.size, 0, none⟩ = some (.slice (R (x % n)) n (D (x % n)))) (h2 : w3.cell? ⟨wd.heap.size + 1, 0, none⟩ = some (.int .i64 (j : Int))) =>
      (show Calls Tryd.prog 64 #[.func (.func 76) #[] #[.pointer (some ⟨wd.heap.size, 0, none⟩), .pointer (some ⟨wd.heap.size + 1, 0, none⟩)]] w3 fun e w4 =>
          ∃ g gc, e = .returned (.slice (some ⟨g, 0, none⟩) p gc) ∧ Own w4 w.heap.size (.slice (some ⟨g, 0, none⟩) p gc) (Mx.row p fun b => ((f (x % n) (Mx.sk j b)).val : Int)) ∧ Kp wd w4 ∧ ∀ a, a < (mrows n p j f pre).length → G a ≠ g from
        (collect_any wd.heap.size (wd.heap.size + 1) n j (D (x % n)) (R (x % n)) _ (by omega) hj6 w3 h1 h2 (lr.keep (Below.trans hkw (k.mono hkw.size)))).mono fun e w4 ⟨u, he, hu, hk⟩ => by
          rw [show ct j n = p by rw [HN.out]; exact ct_end HJ.out] at hu
          obtain ⟨g, gc, rfl, hg, _⟩ := own_some hu (by rw [Mx.len_row]; exact HP0.out)
          rw [Mx.len_row] at he hu
          have hsz := k.size
          have hsz2 := hkw.size
          exact ⟨g, gc, he, hu.from (by omega), k.trans hk, fun a hal => by have := (ho.lt hal).2; have := kd.size; omega⟩))
    have PM := Lib.hid (fun (w4 : World) (k : Kp wd w4) (o : Obj) => ((ho.kp kd).kp k).new o)
    have HLE := Lib.hid (show (mrows n p j f pre).length + 1 ≤ 1000000 by rw [mrows_len]; omega)
    have HSZ := Lib.hid (fun (w4 : World) (k : Kp wd w4) (o : Obj) => (show w.heap.size ≤ (w4.alloc o).heap.size from Nat.le_trans hkw.size (Nat.le_trans k.size ((Kp.rfl' w4).new o).size)))
    have OS := Lib.hid (fun (v' : Value) (w6 : World) (G' C' : Nat → Nat) (h : OwnM w6 w.heap.size v' G' C' (mrows n p j f pre ++ [Mx.row p fun b => ((f (x % n) (Mx.sk j b)).val : Int)])) =>
      (show ∃ vg vc, v' = .slice (some ⟨vg, 0, none⟩) (pre.length + 1) vc from by
        have ht := h.top
        rw [List.length_append, List.length_singleton, mrows_len] at ht
        exact ownsRow_succ ht))
    have BX := Lib.hid (fun (w4 w6 : World) (tmp : Obj) (k : Kp wd w4) (hg : (w4.alloc tmp).grownBy w6 v.ownBlock) => (show w6.cell? ⟨w.heap.size + 1, 0, none⟩ = some v ∧ w6.frozen? ⟨w.heap.size + 1, 0, none⟩ = false from by
      have b4 := (boxed_kp hv (kd.trans k)).alloc tmp
      have b6 := b4.kept hg (b4.not_row (by decide) (((ho.kp kd).kp k).new tmp).top)
      exact ⟨b6.cell, b6.frozen⟩))
    generalize x % n = y at *
    clear hv ho hcj hri hB kd hkw lr hadl
    refine wpIn_block ?_
    refine wpIn_region_any (by kernel_rfl) (any_in (by kernel_rfl) _ _ _ _ ?_)
    change wpAny _ _ _ _ _ _ _ (World.drew W)
    rw [← hwd]
    clear hwd
    refine wpAny_take (i := 1) (v := .slice (R y) n (D y)) rfl (by kernel_rfl) (by kernel_rfl) (by kernel_rfl) (fun _ _ _ h => by cases h.1) (Or.inl ⟨by rfl, ?_⟩) ?_
    · intro w; go_simp
    try dsimp only [Act.put, List.setIfInBounds_toArray, List.set_cons_zero, List.set_cons_succ]
    refine wpAny_ready (rs := [0, 2]) (by kernel_rfl) (by simp) ?_
    refine AllReady.cons rfl (fun K hK => ?_) (AllReady.cons rfl (fun K hK => ?_) AllReady.nil)
    · have HK := Lib.hid hK
      clear hK
      have hcl := (SK.out _ (Kp.rfl' _)).1
      go_simp
      clear hcl
      refine HK.out _ _ ?_
      (try clear HK K); try dsimp only [Act.put, List.setIfInBounds_toArray, List.set_cons_zero, List.set_cons_succ]
      refine wpAny_ready (rs := [2]) (by kernel_rfl) (by simp) ?_
      refine AllReady.cons rfl (fun K hK => ?_) AllReady.nil
      · have HK := Lib.hid hK
        clear hK
        have hcl := (SK.out _ (Kp.rfl' _)).2
        go_simp
        clear hcl
        refine HK.out _ _ ?_
        (try clear HK K); try dsimp only [Act.put, List.setIfInBounds_toArray, List.set_cons_zero, List.set_cons_succ]
        refine wpAny_ready (rs := [3]) (by kernel_rfl) (by simp) ?_
        refine AllReady.cons rfl (fun K hK => ?_) AllReady.nil
        · have HK := Lib.hid hK
          clear hK
          go_simp
          go_at_call 65; (with_reducible refine (OT.out _).mono ?_); rintro e w3 ⟨rfl, hw3⟩
          obtain ⟨k3, c30, c31⟩ := L3.out w3 hw3
          clear hw3
          go_wp2_with fail
          refine HK.out _ _ ?_
          (try clear HK K); try dsimp only [Act.put, List.setIfInBounds_toArray, List.set_cons_zero, List.set_cons_succ]
          refine wpAny_ready (rs := [4]) (by kernel_rfl) (by simp) ?_
          refine AllReady.cons rfl (fun K hK => ?_) AllReady.nil
          · have HK := Lib.hid hK
            clear hK
            go_simp
            go_at_call 64; (with_reducible refine (COL.out w3 k3 c30 c31).mono ?_); rintro e w4 ⟨g, gc, rfl, o4, k4, hap⟩
            go_wp2_with fail
            refine HK.out _ _ ?_
            (try clear HK K); try dsimp only [Act.put, List.setIfInBounds_toArray, List.set_cons_zero, List.set_cons_succ]
            refine wpAny_ready (rs := [5]) (by kernel_rfl) (by simp) ?_
            refine AllReady.cons rfl (fun K hK => ?_) AllReady.nil
            · have HK := Lib.hid hK
              clear hK
              go_simp
              refine HK.out _ _ ?_
              (try clear HK K); try dsimp only [Act.put, List.setIfInBounds_toArray, List.set_cons_zero, List.set_cons_succ]
              refine wpAny_ready (rs := [6]) (by kernel_rfl) (by simp) ?_
              refine AllReady.cons rfl (fun K hK => ?_) AllReady.nil
              · have HK := Lib.hid hK
                clear hK
                refine step_wanted rfl (wp_pushM _ _ rfl w.heap.size v G C _ _ g p gc w4.heap.size 1 (Mx.len_row _ _) rfl rfl (PM.out w4 k4 _) (cell_made _ _ _ _ 0 rfl) (o4.new _) hap HLE.out (HSZ.out w4 k4 _) fun v' w6 G' C' hom hgr => ?_)
                obtain ⟨vg, vc, rfl⟩ := OS.out v' w6 G' C' hom
                obtain ⟨hc6, hf6⟩ := BX.out w4 w6 _ k4 hgr
                refine HK.out _ _ ?_
                (try clear HK K); try dsimp only [Act.put, List.setIfInBounds_toArray, List.set_cons_zero, List.set_cons_succ]
                refine wpAny_ready (rs := [7]) (by kernel_rfl) (by simp) ?_
                refine AllReady.cons rfl (fun K hK => ?_) AllReady.nil
                · have HK := Lib.hid hK
                  clear hK
                  go_simp
                  refine HK.out _ _ ?_
                  (try clear HK K); try dsimp only [Act.put, List.setIfInBounds_toArray, List.set_cons_zero, List.set_cons_succ]
                  refine wpAny_done (by kernel_rfl) ?_ _
                  exact ⟨rfl, FIN.out w4 w6 _ _ _ _ _ k4 hgr hom⟩
    · have HK := Lib.hid hK
      clear hK
      have hcl := (SK.out _ (Kp.rfl' _)).2
      go_simp
      clear hcl
      refine HK.out _ _ ?_
      (try clear HK K); try dsimp only [Act.put, List.setIfInBounds_toArray, List.set_cons_zero, List.set_cons_succ]
      refine wpAny_ready (rs := [0, 3]) (by kernel_rfl) (by simp) ?_
      refine AllReady.cons rfl (fun K hK => ?_) (AllReady.cons rfl (fun K hK => ?_) AllReady.nil)
      · have HK := Lib.hid hK
        clear hK
        have hcl := (SK.out _ (Kp.rfl' _)).1
        go_simp
        clear hcl
        refine HK.out _ _ ?_
        (try clear HK K); try dsimp only [Act.put, List.setIfInBounds_toArray, List.set_cons_zero, List.set_cons_succ]
        refine wpAny_ready (rs := [3]) (by kernel_rfl) (by simp) ?_
        refine AllReady.cons rfl (fun K hK => ?_) AllReady.nil
        · have HK := Lib.hid hK
          clear hK
          go_simp
          go_at_call 65; (with_reducible refine (OT.out _).mono ?_); rintro e w3 ⟨rfl, hw3⟩
          obtain ⟨k3, c30, c31⟩ := L3.out w3 hw3
          clear hw3
          go_wp2_with fail
          refine HK.out _ _ ?_
          (try clear HK K); try dsimp only [Act.put, List.setIfInBounds_toArray, List.set_cons_zero, List.set_cons_succ]
          refine wpAny_ready (rs := [4]) (by kernel_rfl) (by simp) ?_
          refine AllReady.cons rfl (fun K hK => ?_) AllReady.nil
          · have HK := Lib.hid hK
            clear hK
            go_simp
            go_at_call 64; (with_reducible refine (COL.out w3 k3 c30 c31).mono ?_); rintro e w4 ⟨g, gc, rfl, o4, k4, hap⟩
            go_wp2_with fail
            refine HK.out _ _ ?_
            (try clear HK K); try dsimp only [Act.put, List.setIfInBounds_toArray, List.set_cons_zero, List.set_cons_succ]
            refine wpAny_ready (rs := [5]) (by kernel_rfl) (by simp) ?_
            refine AllReady.cons rfl (fun K hK => ?_) AllReady.nil
            · have HK := Lib.hid hK
              clear hK
              go_simp
              refine HK.out _ _ ?_
              (try clear HK K); try dsimp only [Act.put, List.setIfInBounds_toArray, List.set_cons_zero, List.set_cons_succ]
              refine wpAny_ready (rs := [6]) (by kernel_rfl) (by simp) ?_
              refine AllReady.cons rfl (fun K hK => ?_) AllReady.nil
              · have HK := Lib.hid hK
                clear hK
                refine step_wanted rfl (wp_pushM _ _ rfl w.heap.size v G C _ _ g p gc w4.heap.size 1 (Mx.len_row _ _) rfl rfl (PM.out w4 k4 _) (cell_made _ _ _ _ 0 rfl) (o4.new _) hap HLE.out (HSZ.out w4 k4 _) fun v' w6 G' C' hom hgr => ?_)
                obtain ⟨vg, vc, rfl⟩ := OS.out v' w6 G' C' hom
                obtain ⟨hc6, hf6⟩ := BX.out w4 w6 _ k4 hgr
                refine HK.out _ _ ?_
                (try clear HK K); try dsimp only [Act.put, List.setIfInBounds_toArray, List.set_cons_zero, List.set_cons_succ]
                refine wpAny_ready (rs := [7]) (by kernel_rfl) (by simp) ?_
                refine AllReady.cons rfl (fun K hK => ?_) AllReady.nil
                · have HK := Lib.hid hK
                  clear hK
                  go_simp
                  refine HK.out _ _ ?_
                  (try clear HK K); try dsimp only [Act.put, List.setIfInBounds_toArray, List.set_cons_zero, List.set_cons_succ]
                  refine wpAny_done (by kernel_rfl) ?_ _
                  exact ⟨rfl, FIN.out w4 w6 _ _ _ _ _ k4 hgr hom⟩
      · have HK := Lib.hid hK
        clear hK
        go_simp
        go_at_call 65; (with_reducible refine (OT.out _).mono ?_); rintro e w3 ⟨rfl, hw3⟩
        obtain ⟨k3, c30, c31⟩ := L3.out w3 hw3
        clear hw3
        go_wp2_with fail
        refine HK.out _ _ ?_
        (try clear HK K); try dsimp only [Act.put, List.setIfInBounds_toArray, List.set_cons_zero, List.set_cons_succ]
        refine wpAny_ready (rs := [0, 4]) (by kernel_rfl) (by simp) ?_
        refine AllReady.cons rfl (fun K hK => ?_) (AllReady.cons rfl (fun K hK => ?_) AllReady.nil)
        · have HK := Lib.hid hK
          clear hK
          have hcl := (SK.out _ k3).1
          go_simp
          clear hcl
          refine HK.out _ _ ?_
          (try clear HK K); try dsimp only [Act.put, List.setIfInBounds_toArray, List.set_cons_zero, List.set_cons_succ]
          refine wpAny_ready (rs := [4]) (by kernel_rfl) (by simp) ?_
          refine AllReady.cons rfl (fun K hK => ?_) AllReady.nil
          · have HK := Lib.hid hK
            clear hK
            go_simp
            go_at_call 64; (with_reducible refine (COL.out w3 k3 c30 c31).mono ?_); rintro e w4 ⟨g, gc, rfl, o4, k4, hap⟩
            go_wp2_with fail
            refine HK.out _ _ ?_
            (try clear HK K); try dsimp only [Act.put, List.setIfInBounds_toArray, List.set_cons_zero, List.set_cons_succ]
            refine wpAny_ready (rs := [5]) (by kernel_rfl) (by simp) ?_
            refine AllReady.cons rfl (fun K hK => ?_) AllReady.nil
            · have HK := Lib.hid hK
              clear hK
              go_simp
              refine HK.out _ _ ?_
              (try clear HK K); try dsimp only [Act.put, List.setIfInBounds_toArray, List.set_cons_zero, List.set_cons_succ]
              refine wpAny_ready (rs := [6]) (by kernel_rfl) (by simp) ?_
              refine AllReady.cons rfl (fun K hK => ?_) AllReady.nil
              · have HK := Lib.hid hK
                clear hK
                refine step_wanted rfl (wp_pushM _ _ rfl w.heap.size v G C _ _ g p gc w4.heap.size 1 (Mx.len_row _ _) rfl rfl (PM.out w4 k4 _) (cell_made _ _ _ _ 0 rfl) (o4.new _) hap HLE.out (HSZ.out w4 k4 _) fun v' w6 G' C' hom hgr => ?_)
                obtain ⟨vg, vc, rfl⟩ := OS.out v' w6 G' C' hom
                obtain ⟨hc6, hf6⟩ := BX.out w4 w6 _ k4 hgr
                refine HK.out _ _ ?_
                (try clear HK K); try dsimp only [Act.put, List.setIfInBounds_toArray, List.set_cons_zero, List.set_cons_succ]
                refine wpAny_ready (rs := [7]) (by kernel_rfl) (by simp) ?_
                refine AllReady.cons rfl (fun K hK => ?_) AllReady.nil
                · have HK := Lib.hid hK
                  clear hK
                  go_simp
                  refine HK.out _ _ ?_
                  (try clear HK K); try dsimp only [Act.put, List.setIfInBounds_toArray, List.set_cons_zero, List.set_cons_succ]
                  refine wpAny_done (by kernel_rfl) ?_ _
                  exact ⟨rfl, FIN.out w4 w6 _ _ _ _ _ k4 hgr hom⟩
        · have HK := Lib.hid hK
          clear hK
          go_simp
          go_at_call 64; (with_reducible refine (COL.out w3 k3 c30 c31).mono ?_); rintro e w4 ⟨g, gc, rfl, o4, k4, hap⟩
          go_wp2_with fail
          refine HK.out _ _ ?_
          (try clear HK K); try dsimp only [Act.put, List.setIfInBounds_toArray, List.set_cons_zero, List.set_cons_succ]
          refine wpAny_ready (rs := [0, 5]) (by kernel_rfl) (by simp) ?_
          refine AllReady.cons rfl (fun K hK => ?_) (AllReady.cons rfl (fun K hK => ?_) AllReady.nil)
          · have HK := Lib.hid hK
            clear hK
            have hcl := (SK.out _ k4).1
            go_simp
            clear hcl
            refine HK.out _ _ ?_
            (try clear HK K); try dsimp only [Act.put, List.setIfInBounds_toArray, List.set_cons_zero, List.set_cons_succ]
            refine wpAny_ready (rs := [5]) (by kernel_rfl) (by simp) ?_
            refine AllReady.cons rfl (fun K hK => ?_) AllReady.nil
            · have HK := Lib.hid hK
              clear hK
              go_simp
              refine HK.out _ _ ?_
              (try clear HK K); try dsimp only [Act.put, List.setIfInBounds_toArray, List.set_cons_zero, List.set_cons_succ]
              refine wpAny_ready (rs := [6]) (by kernel_rfl) (by simp) ?_
              refine AllReady.cons rfl (fun K hK => ?_) AllReady.nil
              · have HK := Lib.hid hK
                clear hK
                refine step_wanted rfl (wp_pushM _ _ rfl w.heap.size v G C _ _ g p gc w4.heap.size 1 (Mx.len_row _ _) rfl rfl (PM.out w4 k4 _) (cell_made _ _ _ _ 0 rfl) (o4.new _) hap HLE.out (HSZ.out w4 k4 _) fun v' w6 G' C' hom hgr => ?_)
                obtain ⟨vg, vc, rfl⟩ := OS.out v' w6 G' C' hom
                obtain ⟨hc6, hf6⟩ := BX.out w4 w6 _ k4 hgr
                refine HK.out _ _ ?_
                (try clear HK K); try dsimp only [Act.put, List.setIfInBounds_toArray, List.set_cons_zero, List.set_cons_succ]
                refine wpAny_ready (rs := [7]) (by kernel_rfl) (by simp) ?_
                refine AllReady.cons rfl (fun K hK => ?_) AllReady.nil
                · have HK := Lib.hid hK
                  clear hK
                  go_simp
                  refine HK.out _ _ ?_
                  (try clear HK K); try dsimp only [Act.put, List.setIfInBounds_toArray, List.set_cons_zero, List.set_cons_succ]
                  refine wpAny_done (by kernel_rfl) ?_ _
                  exact ⟨rfl, FIN.out w4 w6 _ _ _ _ _ k4 hgr hom⟩
          · have HK := Lib.hid hK
            clear hK
            go_simp
            refine HK.out _ _ ?_
            (try clear HK K); try dsimp only [Act.put, List.setIfInBounds_toArray, List.set_cons_zero, List.set_cons_succ]
            refine wpAny_ready (rs := [0]) (by kernel_rfl) (by simp) ?_
            refine AllReady.cons rfl (fun K hK => ?_) AllReady.nil
            · have HK := Lib.hid hK
              clear hK
              have hcl := (SK.out _ (k4.new (.cells #[.slice (some ⟨g, 0, none⟩) p gc] 24))).1
              go_simp
              clear hcl
              refine HK.out _ _ ?_
              (try clear HK K); try dsimp only [Act.put, List.setIfInBounds_toArray, List.set_cons_zero, List.set_cons_succ]
              refine wpAny_ready (rs := [6]) (by kernel_rfl) (by simp) ?_
              refine AllReady.cons rfl (fun K hK => ?_) AllReady.nil
              · have HK := Lib.hid hK
                clear hK
                refine step_wanted rfl (wp_pushM _ _ rfl w.heap.size v G C _ _ g p gc w4.heap.size 1 (Mx.len_row _ _) rfl rfl (PM.out w4 k4 _) (cell_made _ _ _ _ 0 rfl) (o4.new _) hap HLE.out (HSZ.out w4 k4 _) fun v' w6 G' C' hom hgr => ?_)
                obtain ⟨vg, vc, rfl⟩ := OS.out v' w6 G' C' hom
                obtain ⟨hc6, hf6⟩ := BX.out w4 w6 _ k4 hgr
                refine HK.out _ _ ?_
                (try clear HK K); try dsimp only [Act.put, List.setIfInBounds_toArray, List.set_cons_zero, List.set_cons_succ]
                refine wpAny_ready (rs := [7]) (by kernel_rfl) (by simp) ?_
                refine AllReady.cons rfl (fun K hK => ?_) AllReady.nil
                · have HK := Lib.hid hK
                  clear hK
                  go_simp
                  refine HK.out _ _ ?_
                  (try clear HK K); try dsimp only [Act.put, List.setIfInBounds_toArray, List.set_cons_zero, List.set_cons_succ]
                  refine wpAny_done (by kernel_rfl) ?_ _
                  exact ⟨rfl, FIN.out w4 w6 _ _ _ _ _ k4 hgr hom⟩
  case done =>
    rintro D' ys W hD rfl ⟨⟨⟨v, G, C, hv, ho⟩, _, _⟩, hB⟩ hK
    rw [ALL.out] at ho
    obtain ⟨A', c', rfl, hl, _⟩ := ho.lies
    rw [Mx.len_matl] at hv
    have hcv := hv.cell
    have HB := Lib.hid hB
    have hDl := (Array.getElem?_eq_some_iff.1 hK).1
    have O1 := Lib.hid (OF.out A' c' W hl)
    have HD := Lib.hid (show w.heap.size ≤ D' by omega)
    clear hv ho hl hB hD
    go_wp2_with fail
    refine (O1.out).mono ?_; rintro e w5 ⟨rfl, k5⟩
    have hK5 := (k5.block D' hDl).trans hK
    have HB5 := Lib.hid (HB.out.trans (k5.mono HB.out.size))
    clear k5 hK
    go_wp2_with fail
    refine ⟨by simp, .inl ⟨_, _, rfl, run_takeDeferred hK5, ?_⟩⟩
    refine ⟨.tuple #[.int .i64 (dd.val : Int), .nilIface], by simp [results, Tryd.results44, go_sem], rfl, HB5.out.trans (belowK_b (w := w) (Nat.le_refl _) w5 D' _ _ HD.out hK5 rfl rfl)⟩
  case stop =>
    rintro D c pre W _ _ h _
    exact h.elim

end Go.Proofs.YtologiinkilooaaDoor

/- Contracts of package minors, second part: Of, Adj. -/
namespace Go.Proofs.YtologiinkilooaaDoor
open Go.ChangeShapes Go.WideShapes Go.ChangeAt Go.RowKit
set_option linter.unusedVariables false

theorem minus_val (d : Fp.F) : (-(d.val : Int)) % 9973 = ((-d).val : Int) := by
  rw [← Fp.ofInt_val]
  congr 2
  have h2 := Fp.ofInt_add (-(d.val : Int)) (d.val : Int)
  rw [Fp.ofInt_self, show -(d.val : Int) + (d.val : Int) = 0 by omega, show Fp.ofInt 0 = 0 from by decide] at h2
  grind

theorem minor_any (A : Option Addr) (f : Nat → Nat → Fp.F) (n p i j d : Nat) (w : World) (ha : LiesM w A (Mx.matl n n f)) (hn : n = p + 1) (hi : i ≤ p) (hj : j ≤ p) (hp : p ≤ 4) :
    Calls Tryd.prog 44 #[.slice A n d, .int .i64 (i : Int), .int .i64 (j : Int)] w fun e w' => e = .returned (.tuple #[.int .i64 ((Mx.dt p (wo f i j)).val : Int), .nilIface]) ∧ Kp w w' := by
  rcases Nat.eq_zero_or_pos p with h0 | h0
  · subst h0 hn
    exact minor_one A d _ _ w
  · exact minor_more A f n p i j d w ha hn hi hj h0 (by omega)


set_option maxRecDepth 100000 in
set_option maxHeartbeats 1600000 in
theorem MAdj_bad (A : Option Addr) (m : List (List Int)) (n d : Nat) (w : World) (ha : LiesM w A m) (hn : m.length = n) (h : qcode 5 0 9972 m ≠ 0) :
    Calls Tryd.prog 25 #[.slice A n d] w fun e w' => e = .returned (.tuple #[.slice none 0 0, errOf (qcode 5 0 9972 m)]) ∧ Kp w w' := by
  have CK := Lib.hid (DChk_any A m n d w ha hn)
  rw [errOf_ne _ h] at CK ⊢
  generalize qcode 5 0 9972 m = z at *
  clear ha hn h
  go_enter Tryd.func25, Tryd.ntmps25
  go_wp2_with fail
  refine (CK.out).mono ?_; rintro e w' ⟨rfl, rfl⟩
  go_wp2_with fail
  go_ret2
  exact ⟨rfl, Kp.rfl' _⟩

theorem sgn_odd {k : Nat} (h : k % 2 = 1) (d : Fp.F) : -d = Mx.sgn k * d := by unfold Mx.sgn; rw [if_neg (by omega)]; grind
theorem sgn_even {k : Nat} (h : k % 2 = 0) (d : Fp.F) : d = Mx.sgn k * d := by unfold Mx.sgn; rw [if_pos h]; grind
theorem par_odd {i j : Nat} (h : (i + j) % 2 = 1) : (((i : Int) + (j : Int)) % 2 == 1) = true := by
  rw [beq_iff_eq]; omega
theorem par_even {i j : Nat} (h : (i + j) % 2 = 0) : (((i : Int) + (j : Int)) % 2 == 1) = false := by
  rw [beq_eq_false_iff_ne]; omega

/-- Row i done as far as place j, the rows below it done, all else nought. -/
def adjTo (p : Nat) (f : Nat → Nat → Fp.F) (i j : Nat) : Nat → Nat → Int := fun a b => if a = i then (if b < j then ((Mx.adj p f a b).val : Int) else 0) else ((Mx.adj p f a b).val : Int)

set_option maxRecDepth 100000 in
set_option maxHeartbeats 3200000 in
theorem MAdj_grid (A : Option Addr) (f : Nat → Nat → Fp.F) (n p d : Nat) (w : World) (ha : LiesM w A (Mx.matl n n f)) (hn : n = p + 1) (hp : p ≤ 4) :
    Calls Tryd.prog 25 #[.slice A n d] w fun e w' => ∃ g G, e = .returned (.tuple #[.slice (some ⟨g, 0, none⟩) n n, .nilIface]) ∧ Grid w' g G n n (fun i j => ((Mx.adj p f i j).val : Int)) ∧ w.heap.size ≤ g ∧ Kp w w' := by
  have CK := Lib.hid (DChk_any A (Mx.matl n n f) n d w ha (Mx.len_matl _ _ _))
  rw [qcode_matl f (by omega) (by omega), errOf_zero] at CK
  have HA := Lib.hid ha
  have MI := Lib.hid (fun (i j : Nat) (w' : World) (h : LiesM w' A (Mx.matl n n f)) (hi : i < n) (hj : j < n) => minor_any A f n p i j d w' h hn (by omega) (by omega) hp)
  have hn5 : n ≤ 5 := by omega
  clear ha hn hp
  obtain ⟨i0, hi, hz0, hz1, hz2⟩ := info_parts int_info
  obtain ⟨j0, hj, hy0, hy1, hy2⟩ := info_parts ints_info
  go_enter Tryd.func25, Tryd.ntmps25
  go_wp2_with fail
  refine (CK.out).mono ?_; rintro e w' ⟨rfl, rfl⟩
  go_wp2_with (at_make; refine wpList_make_full _ rfl _ _ 22 rfl w.heap.size 24 j0 (.slice none 0 0) 1 Tryd.underlying22 hj hy0 hy1 _ _ _ _ n rfl rfl rfl rfl (by rw [hy2]; omega) (by unfold maxLen; omega) (Nat.le_refl _) ?_; intro w1 hown hgrow)
  have hpart : PartF w1 w.heap.size (fun _ => 0) n n 0 (fun i j => ((Mx.adj p f i j).val : Int)) := PartF.start _ hown
  have hkp : Kp w w1 := (Kp.rfl' w).grown hgrow (by simp) (fun k hk => by cases hk)
  clear hown hgrow hj hy0 hy1 hy2
  obtain ⟨g, hg⟩ : ∃ g, g = w.heap.size := ⟨_, rfl⟩
  rw [← hg] at hpart ⊢
  have HG := Lib.hid hg
  clear hg
  go_loopw [6, 7, 8, 9, 20] (fun _ _ _ _ i wr => ∃ (k : Nat) (G : Nat → Nat), k ≤ n ∧ i = .int .i64 (k : Int) ∧ PartF wr g G n n k (fun i j => ((Mx.adj p f i j).val : Int)) ∧ Kp w wr) (fun _ _ _ _ i _ => n - (intOf i).toNat)
  case atStart => exact ⟨0, _, Nat.zero_le _, rfl, hpart, hkp⟩
  case round =>
    clear hpart hkp
    obtain ⟨k, G, hk, rfl, hp, hkp⟩ := hrel
    by_cases hlt : k < n
    · have HP := Lib.hid hp
      have HK := Lib.hid hkp
      clear hp hkp
      obtain ⟨wo', hwo⟩ : ∃ x, x = wr := ⟨_, rfl⟩
      subst hwo
      go_wp2_with (at_make; refine wpList_make_full _ rfl _ _ 24 rfl wo'.heap.size 3 i0 (.int .i64 0) 1 Tryd.underlying24 hi hz0 hz1 _ _ _ _ n rfl rfl rfl rfl (by rw [hz2]; omega) (by unfold maxLen; omega) (Nat.le_refl _) ?_; intro w2 hown hgrow; have hkp2 : Kp wo' w2 := (Kp.rfl' wo').grown hgrow (by simp) (fun k hk => by cases hk); have hcell := (HP.out.keep hkp2).cell (Nat.le_refl k) hlt; have hfree := (HP.out.keep hkp2).free k)
      have HPL := HP.out.lt
      have hpe : PartF wo' g G n n k (adjTo p f k 0) := HP.out.ext (fun i j hi _ => by unfold adjTo; rw [if_neg (by omega)])
      have hrow : Row (w2.setCell ⟨g, k, none⟩ (.slice (some ⟨wo'.heap.size, 0, none⟩) n n)) wo'.heap.size (Mx.row n (adjTo p f k 0 k)) := by
        have h1 : Row (w2.setCell ⟨g, k, none⟩ (.slice (some ⟨wo'.heap.size, 0, none⟩) n n)) wo'.heap.size (List.replicate n 0) := (row_made hown).far (by show wo'.heap.size ≠ g; omega) _
        rw [Mx.row_rep] at h1
        rw [Mx.row_ext (g := adjTo p f k 0 k) (h := fun _ => 0) (fun j hj => by unfold adjTo; rw [if_pos rfl, if_neg (by omega)])]
        exact h1
      have HS := Lib.hid (hpe.step hlt hkp2 hrow (fun b _ => rfl))
      have HK2 := Lib.hid ((HK.out.trans hkp2).put (p := ⟨g, k, none⟩) (by show w.heap.size ≤ g; rw [HG.out]; exact Nat.le_refl _) (.slice (some ⟨wo'.heap.size, 0, none⟩) n n))
      clear hcell hfree hrow hpe hown hgrow hkp2
      generalize hGG : (fun i => if i = k then wo'.heap.size else G i) = GG at *
      clear hGG
      go_loopw [7, 8, 9, 31] (fun _ _ _ i wq => ∃ m : Nat, m ≤ n ∧ i = .int .i64 (m : Int) ∧ PartF wq g GG n n (k + 1) (adjTo p f k m) ∧ Kp w wq) (fun _ _ _ i _ => n - (intOf i).toNat)
      case atStart => exact ⟨0, Nat.zero_le _, rfl, HS.out, HK2.out⟩
      case round =>
        clear HS HK2
        obtain ⟨m, hm, rfl, hq, hkq⟩ := hrel
        by_cases hmt : m < n
        · have HQ := Lib.hid hq
          have HKQ := Lib.hid hkq
          clear hq hkq
          have M1 := Lib.hid (MI.out m k wr (HA.out.keep HKQ.out) hmt hlt)
          have hdl := (Mx.dt p (wo f m k)).isLt
          have HMV := Lib.hid (minus_val (Mx.dt p (wo f m k)))
          have HX : ∃ x : Int, x = ((Mx.adj p f k m).val : Int) := ⟨_, rfl⟩
          have hwr : IntKind.i64.wrap ((k : Int) + (m : Int)) = (k : Int) + (m : Int) := IntWalk.i64_in _ (by omega)
          have HF := Lib.hid (fun (W : World) (x : Int) (hx : x = ((Mx.adj p f k m).val : Int)) (h : PartF W g GG n n (k + 1) (adjTo p f k m)) => (show PartF (W.setCell ⟨GG k, m, none⟩ (.int .i64 x)) g GG n n (k + 1) (adjTo p f k (m + 1)) from
            (h.put (Nat.lt_succ_self k) m x).ext fun a b ha hb => by
              unfold adjTo
              by_cases h1 : a = k
              · by_cases h2 : b = m
                · rw [if_pos ⟨h1, h2⟩, if_pos h1, if_pos (by omega), hx, h1, h2]
                · rw [if_neg (fun h => h2 h.2), if_pos h1, if_pos h1]
                  by_cases h3 : b < m
                  · rw [if_pos h3, if_pos (by omega)]
                  · rw [if_neg h3, if_neg (by omega)]
              · rw [if_neg (fun h => h1 h.1), if_neg h1, if_neg h1]))
          have HAD := Lib.hid (show Mx.adj p f k m = Mx.sgn (k + m) * Mx.dt p (wo f m k) from rfl)
          have HGG := Lib.hid (show w.heap.size ≤ GG k by have := HQ.out.after k (Nat.lt_succ_self k); have := HG.out; omega)
          generalize Mx.dt p (wo f m k) = dd at *
          by_cases hpar : (k + m) % 2 = 1
          · have e1 := par_odd hpar
            have HXX := Lib.hid (show ((-dd).val : Int) = ((Mx.adj p f k m).val : Int) by rw [HAD.out, sgn_odd hpar dd])
            have hws : IntKind.i64.wrap (9973 - (dd.val : Int)) = 9973 - (dd.val : Int) := IntWalk.i64_in _ (by omega)
            clear hpar
            go_wp2_with fail
            refine (M1.out).mono ?_; rintro e w3 ⟨rfl, hk3⟩
            have HQ3 := Lib.hid (HQ.out.keep hk3)
            have HK3 := Lib.hid (HKQ.out.trans hk3)
            have x1 := HQ3.out.cellOf (Nat.lt_succ_self k) hlt
            have x2 := HQ3.out.el (Nat.lt_succ_self k) hmt
            have x3 := HQ3.out.freeOf (Nat.lt_succ_self k) m
            clear hk3
            go_wp2_with fail
            go_roundw
            case rel => exact ⟨m + 1, by omega, by go_num, HF.out _ _ (by rw [HMV.out, HXX.out]) HQ3.out, HK3.out.put (p := ⟨GG k, m, none⟩) HGG.out _⟩
            case measure => simp [intOf]; omega
          · have hpar' : (k + m) % 2 = 0 := by omega
            have e1 := par_even hpar'
            have HXX := Lib.hid (show (dd.val : Int) = ((Mx.adj p f k m).val : Int) by rw [HAD.out, ← sgn_even hpar' dd])
            clear hpar hpar'
            go_wp2_with fail
            refine (M1.out).mono ?_; rintro e w3 ⟨rfl, hk3⟩
            have HQ3 := Lib.hid (HQ.out.keep hk3)
            have HK3 := Lib.hid (HKQ.out.trans hk3)
            have x1 := HQ3.out.cellOf (Nat.lt_succ_self k) hlt
            have x2 := HQ3.out.el (Nat.lt_succ_self k) hmt
            have x3 := HQ3.out.freeOf (Nat.lt_succ_self k) m
            clear hk3
            go_wp2_with fail
            go_roundw
            case rel => exact ⟨m + 1, by omega, by go_num, HF.out _ _ HXX.out HQ3.out, HK3.out.put (p := ⟨GG k, m, none⟩) HGG.out _⟩
            case measure => simp [intOf]; omega
        · obtain rfl : m = n := by omega
          have HQ := Lib.hid hq
          have HKQ := Lib.hid hkq
          clear hq hkq
          go_wp2_with fail
          go_roundw
          case rel => exact ⟨k + 1, GG, by omega, by go_num, HQ.out.ext (fun a b ha hb => by unfold adjTo; by_cases h1 : a = k; (rw [if_pos h1, if_pos hb]); (rw [if_neg h1])), HKQ.out⟩
          case measure => simp [intOf]; omega
    · obtain rfl : k = n := by omega
      have HP := Lib.hid hp
      have HK := Lib.hid hkp
      clear hp hkp
      go_wp2_with fail
      go_ret2
      exact ⟨g, G, rfl, HP.out.done, by rw [HG.out]; exact Nat.le_refl _, HK.out⟩
theorem MAdj_ok (A : Option Addr) (f : Nat → Nat → Fp.F) (n p d : Nat) (w : World) (ha : LiesM w A (Mx.matl n n f)) (hn : n = p + 1) (hp : p ≤ 4) :
    Calls Tryd.prog 25 #[.slice A n d] w fun e w' => ∃ g, e = .returned (.tuple #[.slice (some ⟨g, 0, none⟩) n n, .nilIface]) ∧ LiesM w' (some ⟨g, 0, none⟩) (Mx.matl n n (Mx.adj p f)) ∧ Kp w w' :=
  (MAdj_grid A f n p d w ha hn hp).mono fun e w' ⟨g, G, he, hg, _, hk⟩ => ⟨g, he, hg.lies, hk⟩

end Go.Proofs.YtologiinkilooaaDoor

/- Contract of package inv's Of. -/
namespace Go.Proofs.YtologiinkilooaaDoor
open Go.ChangeShapes Go.WideShapes Go.ChangeAt Go.RowKit Go.Shelf
set_option linter.unusedVariables false
attribute [local go_sem] Oper.semAt_some

/-- A matrix whose places are turned one behind the other, by op. -/
def turns (n : Nat) (op : Nat → Nat → Fp.F → Fp.F) (f : Nat → Nat → Fp.F) (l : List Nat) : Nat → Nat → Fp.F :=
  l.foldl (fun h k => fun a b => if a = rowOf n n k ∧ b = colOf n k then op a b (h a b) else h a b) f
theorem turns_snoc (n : Nat) (op : Nat → Nat → Fp.F → Fp.F) (f : Nat → Nat → Fp.F) (l : List Nat) (k a b : Nat) :
    turns n op f (l ++ [k]) a b = if a = rowOf n n k ∧ b = colOf n k then op a b (turns n op f l a b) else turns n op f l a b := by
  unfold turns
  rw [List.foldl_append]
  rfl
theorem turns_range (n : Nat) (op : Nat → Nat → Fp.F → Fp.F) (f : Nat → Nat → Fp.F) (a b : Nat) (hb : b < n) : ∀ m, m ≤ n * n → turns n op f (List.range m) a b = if a * n + b < m then op a b (f a b) else f a b
  | 0, _ => by rw [if_neg (Nat.not_lt_zero _)]; rfl
  | m + 1, hm => by
    have ih := turns_range n op f a b hb m (by omega)
    have hp := Mx.place (k := m) (a := a) hm hb
    rw [List.range_succ, turns_snoc, ih]
    unfold rowOf colOf
    by_cases h : a * n + b = m
    · rw [if_pos (hp.2 h.symm), if_neg (by omega), if_pos (by omega)]
    · rw [if_neg (fun h' => h (hp.1 h').symm)]
      by_cases h2 : a * n + b < m
      · rw [if_pos h2, if_pos (by omega)]
      · rw [if_neg h2, if_neg (by omega)]
theorem turns_all (n : Nat) (op : Nat → Nat → Fp.F → Fp.F) (f : Nat → Nat → Fp.F) : Mx.Eqm n n (turns n op f (List.range (n * n))) (fun a b => op a b (f a b)) := fun a b ha hb => by
  rw [turns_range n op f a b hb _ (Nat.le_refl _), if_pos (Mx.place_lt ha hb)]

set_option maxRecDepth 100000 in
set_option maxHeartbeats 1600000 in
theorem IOf_bad (A : Option Addr) (m : List (List Int)) (n d : Nat) (w : World) (ha : LiesM w A m) (hn : m.length = n) (h : qcode 5 0 9972 m ≠ 0) :
    Calls Tryd.prog 14 #[.slice A n d] w fun e w' => e = .returned (.tuple #[.slice none 0 0, errOf (qcode 5 0 9972 m)]) ∧ Kp w w' := by
  have CK := Lib.hid (Of_bad A m n d w ha hn h)
  rw [errOf_ne _ h] at CK ⊢
  generalize qcode 5 0 9972 m = z at *
  clear ha hn h
  go_enter Tryd.func14, Tryd.ntmps14
  go_wp2_with fail
  refine (CK.out).mono ?_; rintro e w' ⟨rfl, hk⟩
  have HK := Lib.hid hk
  clear hk
  go_wp2_with fail
  go_ret2
  exact ⟨rfl, HK.out⟩

set_option maxRecDepth 100000 in
set_option maxHeartbeats 1600000 in
theorem IOf_none (A : Option Addr) (f : Nat → Nat → Fp.F) (n d : Nat) (w : World) (ha : LiesM w A (Mx.matl n n f)) (h0 : 0 < n) (hn : n ≤ 5) (hd : Mx.dt n f = 0) :
    Calls Tryd.prog 14 #[.slice A n d] w fun e w' => e = .returned (.tuple #[.slice none 0 0, errOf 5]) ∧ Kp w w' := by
  have CK := Lib.hid (Of_ok A f n d w ha h0 hn)
  rw [hd, show (((0 : Fp.F).val : Nat) : Int) = 0 from rfl] at CK
  have DV := Lib.hid (fun w => div_zero 1 w)
  clear ha h0 hn hd
  go_enter Tryd.func14, Tryd.ntmps14
  go_wp2_with fail
  refine (CK.out).mono ?_; rintro e w1 ⟨rfl, hk⟩
  have HK := Lib.hid hk
  clear hk
  go_wp2_with fail
  refine (DV.out _).mono ?_; rintro e w2 ⟨rfl, rfl⟩
  have HK2 := Lib.hid (HK.out.new (.cells #[.int .i64 0] 3))
  go_wp2_with fail
  go_ret2
  exact ⟨rfl, HK2.out⟩

set_option maxRecDepth 100000 in
set_option maxHeartbeats 1600000 in
theorem IOf_ok (A : Option Addr) (f : Nat → Nat → Fp.F) (n p d : Nat) (w : World) (ha : LiesM w A (Mx.matl n n f)) (hn : n = p + 1) (hp : p ≤ 4) (hd : Mx.dt n f ≠ 0) :
    Calls Tryd.prog 14 #[.slice A n d] w fun e w' => ∃ g, e = .returned (.tuple #[.slice (some ⟨g, 0, none⟩) n n, .nilIface]) ∧ LiesM w' (some ⟨g, 0, none⟩) (Mx.matl n n (Mx.invm p f)) ∧ Kp w w' := by
  have CK := Lib.hid (Of_ok A f n d w ha (by omega) (by omega))
  have DV := Lib.hid (fun w => div_el 1 (Mx.dt n f) w hd)
  have HA := Lib.hid ha
  have AD := Lib.hid (fun w (h : LiesM w A (Mx.matl n n f)) => MAdj_grid A f n p d w h hn hp)
  obtain ⟨x, hx⟩ : ∃ x, x = (1 : Fp.F) * Fp.inv (Mx.dt n f) := ⟨_, rfl⟩
  rw [← hx] at DV
  have HX := Lib.hid (show ∀ a b, Mx.adj p f a b * x = Mx.invm p f a b from fun a b => by rw [hx, hn]; show _ = Fp.inv (Mx.dt (p + 1) f) * Mx.adj p f a b; grind)
  have hn0 : 0 < n := by omega
  have hn5 : n ≤ 5 := by omega
  generalize Mx.dt n f = dd at *
  clear ha hn hp hd hx
  refine callsIn_wide.1 (callsIn_of_wp_marks (F := Fence.wide) (n := 9) Tryd.func14 rfl trivial ?_ rfl)
  simp only [Tryd.ntmps14, List.size_toArray, List.length_cons, List.length_nil, Nat.reduceAdd, Nat.reduceSub, Array.replicate_succ, Array.replicate_zero, List.push_toArray, List.append_toArray, List.nil_append, List.cons_append]
  refine wpIn_wide.2 ?_
  go_wp2_with fail
  refine (CK.out).mono ?_; rintro e w1 ⟨rfl, hk⟩
  have K1 := Lib.hid hk
  clear hk
  go_wp2_with fail
  refine (DV.out _).mono ?_; rintro e w2 ⟨rfl, hk⟩
  have K2 := Lib.hid (K1.out.trans hk.kp)
  clear hk
  go_wp2_with fail
  obtain ⟨w3, hw3⟩ : ∃ y, y = w2.alloc (.cells #[.int .i64 (x.val : Int)] 3) := ⟨_, rfl⟩
  have k3 : Kp w2 w3 := by rw [hw3]; exact (Kp.rfl' w2).new _
  have c3 : w3.cell? ⟨w2.heap.size, 0, none⟩ = some (.int .i64 (x.val : Int)) := by rw [hw3]; simp
  rw [← hw3]
  have s3 : w2.heap.size < w3.heap.size := by rw [hw3]; simp
  clear hw3
  refine (AD.out _ (HA.out.keep (K2.out.trans k3))).mono ?_; rintro e w4 ⟨g, G, rfl, gr4, sg4, k4⟩
  have c4 := (k4.cell (p := ⟨w2.heap.size, 0, none⟩) s3).trans c3
  have GR4 := Lib.hid gr4
  have K4 := Lib.hid ((K2.out.trans k3).trans k4)
  have hsw := K2.out.size
  have HGL := Lib.hid (show ∀ i, i < n → g < G i ∧ G i < w4.heap.size from fun i hi => ⟨gr4.after i hi, (gr4.row i hi).lt⟩)
  have s4 : w2.heap.size < w4.heap.size := Nat.lt_of_lt_of_le s3 k4.size
  clear gr4 k3 k4 c3
  go_wp2_with fail
  obtain ⟨w5, hw5⟩ : ∃ y, y = w4.alloc (.cells #[.slice (some ⟨g, 0, none⟩) n n] 22) := ⟨_, rfl⟩
  have k5 : Kp w4 w5 := by rw [hw5]; exact (Kp.rfl' w4).new _
  have b5 : w5.cell? ⟨w4.heap.size, 0, none⟩ = some (.slice (some ⟨g, 0, none⟩) n n) := by rw [hw5]; simp
  have s5 : w5.heap.size = w4.heap.size + 1 := by rw [hw5]; simp
  rw [← hw5]
  clear hw5
  refine (iplaces_any n w5).mono ?_; rintro e w6 ⟨rfl, hw6⟩
  have k6 : Kp w5 w6 := by rw [hw6]; exact (Kp.rfl' w5).new _
  have n6 : w6.cell? ⟨w5.heap.size, 0, none⟩ = some (.int .i64 (n : Int)) := by rw [hw6]; simp
  have s6 : w6.heap.size = w4.heap.size + 2 := by rw [hw6]; simp [s5]
  rw [s5] at n6 ⊢
  have b6 := (k6.cell (p := ⟨w4.heap.size, 0, none⟩) (by show w4.heap.size < _; omega)).trans b5
  have c6 := ((k5.trans k6).cell (p := ⟨w2.heap.size, 0, none⟩) s4).trans c4
  have GR6 := Lib.hid (GR4.out.keep (k5.trans k6))
  have K6 := Lib.hid ((K4.out.trans k5).trans k6)
  clear hw6 k5 k6 b5 c4 s5
  go_wp2_with fail
  refine (wpIn_wide (n := 9)).1 (wpIn_rangeFunc_ownF (F := Fence.wide) rfl (Nat.le_add_left 1 8) (gf := 45) (lb := #[.pointer (some ⟨w4.heap.size + 1, 0, none⟩)]) rfl trivial (enters_of Tryd.func45 (by kernel_rfl) rfl)
    (iplaces_stops 8 (Nat.le_add_left 1 7) (w4.heap.size + 1) n (by omega) w6 (by omega) n6)
    keepN_t (fun W l o o' _ ho h1 _ => keepN_b W l o o' ho h1) (Below.refl _ _) (fun _ => rfl)
    (fun pre W => (W.cell? ⟨w4.heap.size, 0, none⟩ = some (.slice (some ⟨g, 0, none⟩) n n) ∧ W.cell? ⟨w2.heap.size, 0, none⟩ = some (.int .i64 (x.val : Int)) ∧ Grid W g G n n (fun a b => ((turns n (fun _ _ y => y * x) (Mx.adj p f) pre a b).val : Int))) ∧ Below w.heap.size w W)
    (fun _ _ _ => False)
    (OwnFrom.and (Go.Own.from (fun s W1 W2 row hs hg hr => ⟨cell_kept hs.1 hg hr, cell_kept hs.2.1 hg hr, hs.2.2.kept hg hr⟩) _) (ownFrom_below (Nat.le_refl _) (by have := K6.out.size; omega)))
    (fun _ _ _ _ _ hs _ _ => hs)
    ⟨⟨b6, c6, GR6.out.ext (fun a b _ _ => rfl)⟩, K6.out⟩
    ?a1 ?assign ?body ?done ?stop)
  case assign =>
    intro l x W K hK
    unfold placeOf
    gi_wp2
    exact hK
  case body =>
    rintro l pre y W ⟨⟨q1, q2, q3⟩, q4⟩ _
    have hst := fun a b => turns_snoc n (fun _ _ y => y * x) (Mx.adj p f) pre y a b
    have hi := rowOf_lt (c := n) y hn0
    have hj := colOf_lt y hn0
    generalize rowOf n n y = i at *
    generalize colOf n y = j at *
    have x1 := q3.cell hi
    have x2 := q3.el hi hj
    have x3 := q3.free hi j
    have hn1 : w4.heap.size ≠ G i := q3.ne hn0 hi q1
    have hgl := HGL.out i hi
    have hn2 : w2.heap.size ≠ G i := by omega
    have hn3 : (w4.heap.size + 1) ≠ G i := by omega
    have hp : w.heap.size ≤ G i := by omega
    obtain ⟨u, hu⟩ : ∃ u, u = turns n (fun _ _ y => y * x) (Mx.adj p f) pre i j := ⟨_, rfl⟩
    rw [← hu] at x2
    have hmod := times_mod u x
    have hbd := times_bound u x
    obtain ⟨z, hz⟩ : ∃ z, z = ((u * x).val : Int) := ⟨_, rfl⟩
    rw [← hz] at hmod
    have HZ := Lib.hid hz
    have HU := Lib.hid hu
    generalize (u.val : Int) = u0 at *
    generalize (x.val : Int) = u1 at *
    have hwm : IntKind.i64.wrap (u0 * u1) = u0 * u1 := IntWalk.i64_in _ (by omega)
    have Q1 := Lib.hid q1
    have Q3 := Lib.hid q3
    have Q4 := Lib.hid q4
    have HST := Lib.hid hst
    clear q3 q4 hst hz hu hbd
    refine wpIn_block ?_
    refine region_tail 16 (by kernel_rfl) (by kernel_rfl) (by kernel_rfl) ?_
    simp only [List.take_succ_cons, List.take_zero, List.drop_succ_cons, List.drop_zero]
    repeat still_step
    refine wpStill_nil ?_
    go_wp2_with fail
    refine ⟨rfl, ?_⟩
    refine ⟨(KeepsOthers.setCell _ _ _).trans (KeepsOthers.drew _), keepN_t (keepN_set W ⟨G i, j, none⟩ _ hn3.symm) id, ⟨?_, ?_, ?_⟩, ((Q4.out).setCell (p := ⟨G i, j, none⟩) hp _).drew⟩
    · exact (World.cell?_setCell_far W ⟨G i, j, none⟩ ⟨w4.heap.size, 0, none⟩ _ (fun e => hn1 e.symm)).trans Q1.out
    · exact (World.cell?_setCell_far W ⟨G i, j, none⟩ ⟨w2.heap.size, 0, none⟩ _ (fun e => hn2 e.symm)).trans q2
    · refine ((Q3.out.put hi j _).keep ((Kp.rfl' _).drewN 1)).ext fun a b _ _ => ?_
      rw [HST.out a b]
      by_cases e : a = i ∧ b = j
      · rw [if_pos e, if_pos e, HZ.out, e.1, e.2, HU.out]
      · rw [if_neg e, if_neg e]
  case done =>
    rintro D ys W hD rfl ⟨⟨q1, q2, q3⟩, q4⟩ hK
    have Q3 := Lib.hid q3
    have Q4 := Lib.hid q4
    clear q3 q4
    go_wp2_with fail
    refine ⟨by simp, .inl ⟨_, _, rfl, run_takeDeferred hK, ?_⟩⟩
    refine ⟨.tuple #[.slice (some ⟨g, 0, none⟩) n n, .nilIface], by simp [results, Tryd.results14, go_sem], ?_⟩
    have hg2 := Q3.out.kept (grownBy_putObj' W D (.deferred none)) (fun r e => by cases e; exact ⟨_, hK, rfl⟩)
    have hl2 := hg2.lies
    refine ⟨g, rfl, ?_, Q4.out.trans (belowK_b (w := w) (Nat.le_refl _) W D _ _ (by have := K6.out.size; omega) hK rfl rfl)⟩
    rw [← Mx.matl_ext (fun a b ha hb => (turns_all n (fun _ _ y => y * x) (Mx.adj p f) a b ha hb).trans (HX.out a b))]; exact hl2
  case stop =>
    rintro D c pre W _ _ h _
    exact h.elim

end Go.Proofs.YtologiinkilooaaDoor

/- What inv.Of says of whatever comes in. -/
namespace Go.Proofs.YtologiinkilooaaDoor
open Go.ChangeShapes Go.WideShapes Go.ChangeAt Go.RowKit
set_option linter.unusedVariables false

/-- An error, and nothing else. -/
def FailsI (z : Nat) (w : World) (e : Ending) (w' : World) : Prop := e = .returned (.tuple #[.slice none 0 0, .iface 43 (.int .i64 (z : Int))]) ∧ Kp w w'
theorem IOf_or (A : Option Addr) (m : List (List Int)) (n d : Nat) (hn : m.length = n) :
    (∃ f, Sh n n f m ∧ Mx.dt n f ≠ 0) ∨ ∃ z : Nat, ∀ (w : World), LiesM w A m → Calls Tryd.prog 14 #[.slice A n d] w fun e w' => FailsI z w e w' := by
  rcases sq_or m hn with ⟨f, s⟩ | h
  · by_cases hd : Mx.dt n f = 0
    · refine .inr ⟨5, fun w ha => ?_⟩
      rw [s.eq] at ha
      exact (IOf_none A f n d w ha s.r0 s.r5 hd).mono fun e w' h' => ⟨by rw [h'.1, errOf_ne 5 (by decide)], h'.2⟩
    · exact .inl ⟨f, s, hd⟩
  · exact .inr ⟨qcode 5 0 9972 m, fun w ha => ((IOf_bad A m n d w ha hn h).mono fun e w' h' => ⟨by rw [h'.1, errOf_ne _ h], h'.2⟩)⟩
theorem IOf_sh {A : Option Addr} {m : List (List Int)} {n p : Nat} {f : Nat → Nat → Fp.F} (s : Sh n n f m) (hn : n = p + 1) (hd : Mx.dt n f ≠ 0) (d : Nat) (w : World) (ha : LiesM w A m) :
    Calls Tryd.prog 14 #[.slice A n d] w fun e w' => ∃ g, e = .returned (.tuple #[.slice (some ⟨g, 0, none⟩) n n, .nilIface]) ∧ LiesM w' (some ⟨g, 0, none⟩) (Mx.matl n n (Mx.invm p f)) ∧ Kp w w' := by
  have h5 := s.r5
  rw [s.eq] at ha
  exact IOf_ok A f n p d w ha hn (by omega) hd
theorem Sh.inv {n p : Nat} {f : Nat → Nat → Fp.F} {m : List (List Int)} (s : Sh n n f m) : Sh n n (Mx.invm p f) (Mx.matl n n (Mx.invm p f)) := ⟨rfl, s.r0, s.r5, s.r0, s.r5⟩
end Go.Proofs.YtologiinkilooaaDoor

/- Contract of package mat's Add. -/
namespace Go.Proofs.YtologiinkilooaaDoor
open Go.ChangeShapes Go.WideShapes Go.ChangeAt Go.RowKit Go.Shelf
set_option linter.unusedVariables false
attribute [local go_sem] Oper.semAt_some

theorem fval (a : Fp.F) : 0 ≤ (a.val : Int) ∧ (a.val : Int) ≤ 9972 := by have := a.isLt; omega
theorem sum_mod (a b : Fp.F) : ((a.val : Int) + (b.val : Int)).tmod 9973 = ((a + b).val : Int) := by
  rw [Int.tmod_eq_emod_of_nonneg (by have := fval a; have := fval b; omega), Mx.val_plus]


end Go.Proofs.YtologiinkilooaaDoor

/- Contract of package mat's multiply. -/
namespace Go.Proofs.YtologiinkilooaaDoor
open Go.ChangeShapes Go.WideShapes Go.ChangeAt Go.RowKit Go.Shelf
set_option linter.unusedVariables false
attribute [local go_sem] Oper.semAt_some

theorem mmore_mod (s a b : Fp.F) : ((s.val : Int) + (a.val : Int) * (b.val : Int)).tmod 9973 = ((s + a * b).val : Int) := by
  have h : 0 ≤ (a.val : Int) * (b.val : Int) := Int.mul_nonneg (fval a).1 (fval b).1
  rw [Int.tmod_eq_emod_of_nonneg (by have := fval s; omega), Mx.val_more]
theorem more_bound (s a b : Fp.F) : 0 ≤ (a.val : Int) * (b.val : Int) ∧ (a.val : Int) * (b.val : Int) ≤ 99440784 := by
  have h1 := fval a
  have h2 := fval b
  exact ⟨Int.mul_nonneg h1.1 h2.1, Int.mul_le_mul h1.2 h2.2 h2.1 (by decide)⟩
theorem zero_val : ((0 : Fp.F).val : Int) = 0 := rfl
theorem plus_zero (a : Fp.F) : a + 0 = a := by grind

set_option maxRecDepth 100000 in
set_option maxHeartbeats 3200000 in
theorem multiply_grid (A A' : Option Addr) (f f' : Nat → Nat → Fp.F) (r q c d d' : Nat) (w : World) (ha : LiesM w A (Mx.matl r q f)) (ha' : LiesM w A' (Mx.matl q c f')) (hr0 : 0 < r) (hr : r ≤ 5) (hq0 : 0 < q) (hq : q ≤ 5) (hc0 : 0 < c) (hc : c ≤ 5) :
    Calls Tryd.prog 23 #[.slice A r d, .slice A' q d'] w fun e w' => ∃ g G, e = .returned (.slice (some ⟨g, 0, none⟩) r r) ∧ Grid w' g G r c (fun a b => ((Mx.mul q f f' a b).val : Int)) ∧ w.heap.size ≤ g ∧ Kp w w' := by
  obtain ⟨ad, A0, d0, rfl, hlt0, hc00, _, hr00⟩ := ha.row hr0
  obtain ⟨bd, B0, e0, rfl, hlt1, hc01, _, hr01⟩ := ha'.row hq0
  rw [add_zero'] at hc00 hc01
  have HA := Lib.hid ha
  have HA' := Lib.hid ha'
  clear ha ha' hr00 hr01
  refine callsIn_wide.1 (callsIn_of_wp_marks (F := Fence.wide) (n := 9) Tryd.func23 rfl trivial ?_ rfl)
  simp only [Tryd.ntmps23, List.size_toArray, List.length_cons, List.length_nil, Nat.reduceAdd, Nat.reduceSub, Array.replicate_succ, Array.replicate_zero, List.push_toArray, List.append_toArray, List.nil_append, List.cons_append]
  refine wpIn_wide.2 ?_
  go_wp2_with fail
  obtain ⟨w2, hw1⟩ : ∃ x, x = (w.alloc (.cells #[.slice (some ad) r d] 22)).alloc (.cells #[.slice (some bd) q d'] 22) := ⟨_, rfl⟩
  have k1 : Kp w w2 := by rw [hw1]; exact ((Kp.rfl' w).new _).new _
  have b1 : w2.cell? ⟨w.heap.size, 0, none⟩ = some (.slice (some ad) r d) := by rw [hw1]; simp
  have b2 : w2.cell? ⟨w.heap.size + 1, 0, none⟩ = some (.slice (some bd) q d') := by rw [hw1]; simp
  rw [← hw1]
  have s1 : w.heap.size + 1 < w2.heap.size := by rw [hw1]; simp
  clear hw1
  have c2 := (k1.cell (p := bd) hlt1).trans hc01
  have kd : Kp w2 w2.drew := (Kp.rfl' w2).drewN 1
  have ZA := Lib.hid (zero_any r c w2.drew (by omega) (by omega))
  have ZB := Lib.hid (zero_box r c w2 (by omega) (by omega))
  have kb := ((Kp.rfl' w2).new (.cells #[.slice none 0 0] 22)).drewN 1
  have SK := Lib.hid (fun (w' : World) (h : Kp w2 w') => (show w'.cell? ⟨w.heap.size, 0, none⟩ = some (.slice (some ad) r d) ∧ w'.cell? ⟨w.heap.size + 1, 0, none⟩ = some (.slice (some bd) q d') ∧ w'.cell? bd = some (.slice B0 c e0) ∧ Kp w2 w' from
    ⟨(h.cell (p := ⟨w.heap.size, 0, none⟩) (by show w.heap.size < _; omega)).trans b1, (h.cell (p := ⟨w.heap.size + 1, 0, none⟩) s1).trans b2, (h.cell (p := bd) (by omega)).trans c2, h⟩))
  go_upto_region 1 with (fail)
  go_cut [5] from 5 to 16 (fun p wc => Fresh w2 p r c wc)
  case first =>
    go_region_held3 (fun w' => w'.cell? ⟨w.heap.size, 0, none⟩ = some (.slice (some ad) r d) ∧ w'.cell? ⟨w.heap.size + 1, 0, none⟩ = some (.slice (some bd) q d') ∧ w'.cell? bd = some (.slice B0 c e0) ∧ Kp w2 w')
      (first
      | exact SK.out _ (Kp.rfl' _)
      | exact SK.out _ kd
      | exact SK.out _ (kd.trans k2)
      | exact SK.out _ ((kd.trans k2).new _)
      | exact SK.out _ kb
      | exact SK.out _ (kb.trans k2)
      | exact SK.out _ ((kb.trans k2).put (Nat.le_refl _) _))
      ((first
      | (go_at_call 39; (with_reducible refine (ZA.out).mono ?_); rintro e w2 ⟨G, rfl, gr, k2⟩)
      | (go_at_call 39; (with_reducible refine (ZB.out).mono ?_); rintro e w2 ⟨G, rfl, gr, k2, y1, y2⟩)))
    all_goals
      go_wp2_with fail
      go_meet
      case rel => first | exact fresh_a gr (kd.trans k2) (Nat.le_refl _) | exact fresh_b gr (kb.trans k2) y1
  case rest =>
    obtain ⟨B, g, G, rfl, hb, hgr, hg, hB, hk⟩ := hcut.ex
    have hb1 := (SK.out wc hk).1
    have hb2 := (SK.out wc hk).2.1
    have GR := Lib.hid hgr
    have HK := Lib.hid hk
    clear hcut hgr hk ZA ZB SK c2 b1 b2
    go_wp2_with fail
    refine (places_any (some ⟨g, 0, none⟩) r r wc).mono ?_; rintro e w3 ⟨rfl, rfl⟩
    go_wp2_with fail
    have sB : B < wc.heap.size := cell_lt hb
    have sg := GR.out.lt
    have sw := k1.size
    have sc := HK.out.size
    obtain ⟨w4, hw4⟩ : ∃ x, x = wc.alloc (.cells #[.slice (some ⟨g, 0, none⟩) r r] 22) := ⟨_, rfl⟩
    rw [← hw4]
    have kc : Kp wc w4 := by rw [hw4]; exact (Kp.rfl' wc).new _
    have s4 : w4.heap.size = wc.heap.size + 1 := by rw [hw4]; simp
    have c4 : w4.cell? ⟨wc.heap.size, 0, none⟩ = some (.slice (some ⟨g, 0, none⟩) r r) := by rw [hw4]; simp
    have kw := (k1.trans HK.out).trans kc
    have gr4 := GR.out.keep kc
    have hb4 := (kc.cell (p := ⟨B, 0, none⟩) sB).trans hb
    have hm4 := (kc.cell (p := ⟨w.heap.size, 0, none⟩) (by show w.heap.size < _; omega)).trans hb1
    have hm5 := (kc.cell (p := ⟨w.heap.size + 1, 0, none⟩) (by show w.heap.size + 1 < _; omega)).trans hb2
    clear hw4
    refine (wpIn_wide (n := 9)).1 (wpIn_rangeFunc_ownF (F := Fence.wide) rfl (Nat.le_add_left 1 8) (gf := 57) (lb := #[.pointer (some ⟨wc.heap.size, 0, none⟩)]) rfl trivial (enters_of Tryd.func57 (by kernel_rfl) rfl)
      (places_stops 8 (Nat.le_add_left 1 7) wc.heap.size (g + 1) g r c G (Nat.le_trans hr (by decide)) (Nat.le_trans hc (by decide)) (Nat.lt_succ_self g) w4 (by omega) (by omega) c4 (fun i hi => gr4.cell hi))
      belowK_t (belowK_b (by omega)) (Below.refl _ _) (fun _ => rfl)
      (fun pre W => (W.cell? ⟨B, 0, none⟩ = some (.slice (some ⟨g, 0, none⟩) r r) ∧ W.cell? ⟨w.heap.size, 0, none⟩ = some (.slice (some ad) r d) ∧ W.cell? ⟨w.heap.size + 1, 0, none⟩ = some (.slice (some bd) q d') ∧ Grid W g G r c (fun a b => ((Mx.acc r c (Mx.mul q f f') pre a b).val : Int))) ∧ Below w.heap.size w W)
      (fun _ _ _ => False)
      (OwnFrom.and (Go.Own.from (fun s W1 W2 row hs hg hr => ⟨cell_kept hs.1 hg hr, cell_kept hs.2.1 hg hr, cell_kept hs.2.2.1 hg hr, hs.2.2.2.kept hg hr⟩) _) (ownFrom_below (Nat.le_refl _) (by omega)))
      (fun _ _ _ _ _ hs _ _ => hs)
      ⟨⟨hb4, hm4, hm5, gr4.ext (fun a b _ _ => rfl)⟩, kw⟩
      ?a1 ?assign ?body ?done ?stop)
    case assign =>
      intro l x W K hK
      unfold placeOf
      gi_wp2
      exact hK
    case body =>
      rintro l pre x W ⟨⟨q1, q2, q5, q3⟩, q4⟩ _
      have hst := fun a b => Mx.acc_snoc r c (Mx.mul q f f') pre x a b
      change ∀ a b, _ = _ + if a = rowOf r c x ∧ b = colOf c x then _ else _ at hst
      have hi := rowOf_lt (c := c) x hr0
      have hj := colOf_lt x hc0
      generalize rowOf r c x = i at *
      generalize colOf c x = j at *
      have hbg : ∀ a, a < r → g < G a := q3.after
      have hn : B ≠ G i := q3.ne hc0 hi q1
      have hm : w.heap.size ≠ G i := q3.ne hc0 hi q2
      have hm' : w.heap.size + 1 ≠ G i := q3.ne hc0 hi q5
      have hp : w.heap.size ≤ G i := by have := hbg i hi; omega
      obtain ⟨ad', A1, d1, ea, had, x4w, _, l1⟩ := HA.out.row hi
      obtain rfl := Option.some.inj ea
      have x4 := (q4.cell (p := ad.add i) (by rw [block_add]; exact had)).trans x4w
      obtain ⟨ad1, rfl, had1, _⟩ := l1.el hq0
      have L1 := Lib.hid l1
      have Q3 := Lib.hid q3
      have Q4 := Lib.hid q4
      have HST := Lib.hid hst
      have HBG := Lib.hid hbg
      clear q3 q4 hst l1 hbg
      refine wpIn_block ?_
      gi_wp2
      gi_loopw [26] (fun u wr => ∃ k : Nat, k ≤ q ∧ u = .int .i64 (k : Int) ∧ wr.cell? ⟨B, 0, none⟩ = some (.slice (some ⟨g, 0, none⟩) r r) ∧ wr.cell? ⟨w.heap.size, 0, none⟩ = some (.slice (some ad) r d) ∧ wr.cell? ⟨w.heap.size + 1, 0, none⟩ = some (.slice (some bd) q d') ∧
        Grid wr g G r c (fun a b => ((Mx.acc r c (Mx.mul q f f') pre a b + if a = i ∧ b = j then Mx.sg k (fun x => f i x * f' x j) else 0).val : Int)) ∧ KeepsOthers W wr ∧ Below (g + 1) W wr ∧ Below w.heap.size w wr) (fun u _ => q - (intOf u).toNat)
      case atStart =>
        refine ⟨0, Nat.zero_le _, rfl, q1, q2, q5, Q3.out.ext (fun a b _ _ => ?_), KeepsOthers.refl _, Below.refl _ _, Q4.out⟩
        rw [Mx.sg_zero, ite_self, plus_zero]
      case round =>
        obtain ⟨k, hk, rfl, y1, y2, y5, y3, y6, y7, y8⟩ := hrel
        by_cases hlt : k < q
        · obtain ⟨ad1', e1, _, x5⟩ := (L1.out.keep y8).el hlt
          obtain rfl := Option.some.inj e1
          obtain ⟨bd', B1, d2, eb, _, x6, _, l2⟩ := (HA'.out.keep y8).row hlt
          obtain rfl := Option.some.inj eb
          obtain ⟨bd1, rfl, _, x7⟩ := l2.el hj
          have z1 := y3.cell hi
          have z2 := y3.el hi hj
          have z3 := y3.free hi j
          rw [if_pos ⟨rfl, rfl⟩] at z2
          obtain ⟨s, hs⟩ : ∃ s, s = Mx.acc r c (Mx.mul q f f') pre i j + Mx.sg k (fun x => f i x * f' x j) := ⟨_, rfl⟩
          rw [← hs] at z2
          have hmod := mmore_mod s (f i k) (f' k j)
          have v0 := fval s
          have v3 := more_bound s (f i k) (f' k j)
          obtain ⟨z, hz⟩ : ∃ z, z = ((s + f i k * f' k j).val : Int) := ⟨_, rfl⟩
          rw [← hz] at hmod
          have HZ := Lib.hid hz
          have HS := Lib.hid hs
          generalize (s.val : Int) = u0 at *
          generalize ((f i k).val : Int) = u at *
          generalize ((f' k j).val : Int) = v at *
          have hwm : IntKind.i64.wrap (u * v) = u * v := IntWalk.i64_in _ (by omega)
          have hwa : IntKind.i64.wrap (u0 + u * v) = u0 + u * v := IntWalk.i64_in _ (by omega)
          have Y1 := Lib.hid y1
          have Y3 := Lib.hid y3
          have Y6 := Lib.hid y6
          have Y7 := Lib.hid y7
          have Y8 := Lib.hid y8
          clear y3 y6 y7 y8 hz hs l2 v0 v3
          gi_wp2
          refine region_tail 24 (by kernel_rfl) (by kernel_rfl) (by kernel_rfl) ?_
          simp only [List.take_succ_cons, List.take_zero, List.drop_succ_cons, List.drop_zero]
          repeat still_step
          refine wpStill_nil ?_
          go_wp2_with fail
          refine ⟨rfl, ?_⟩
          gi_wp2
          go_roundw
          case rel =>
            refine ⟨k + 1, by omega, by go_num, ?_, ?_, ?_, ?_, Y6.out.trans ((KeepsOthers.setCell _ _ _).trans (KeepsOthers.drew _)), (Y7.out.setCell (p := ⟨G i, j, none⟩) (by show g + 1 ≤ G i; have := HBG.out i hi; omega) _).drew, ((Y8.out).setCell (p := ⟨G i, j, none⟩) hp _).drew⟩
            · exact (World.cell?_setCell_far wr ⟨G i, j, none⟩ ⟨B, 0, none⟩ _ (fun e => hn e.symm)).trans Y1.out
            · exact (World.cell?_setCell_far wr ⟨G i, j, none⟩ ⟨w.heap.size, 0, none⟩ _ (fun e => hm e.symm)).trans y2
            · exact (World.cell?_setCell_far wr ⟨G i, j, none⟩ ⟨w.heap.size + 1, 0, none⟩ _ (fun e => hm' e.symm)).trans y5
            · refine ((Y3.out.put hi j _).keep ((Kp.rfl' _).drewN 1)).ext fun a b _ _ => ?_
              by_cases e : a = i ∧ b = j
              · rw [if_pos e, if_pos e, HZ.out, e.1, e.2, HS.out, Mx.sg_succ]; congr 2; grind
              · rw [if_neg e, if_neg e, if_neg e]
          case measure => simp [intOf]; omega
        · obtain rfl : k = q := by omega
          have Y1 := Lib.hid y1
          have Y3 := Lib.hid y3
          have Y6 := Lib.hid y6
          have Y7 := Lib.hid y7
          have Y8 := Lib.hid y8
          clear y1 y3 y6 y7 y8
          gi_wp2
          refine ⟨Y6.out, Y7.out, ⟨Y1.out, y2, y5, Y3.out.ext (fun a b _ _ => ?_)⟩, Y8.out⟩
          rw [HST.out a b]
          by_cases e : a = i ∧ b = j
          · rw [if_pos e, if_pos e, e.1, e.2]; rfl
          · rw [if_neg e, if_neg e]
    case done =>
      rintro D ys W hD rfl ⟨⟨q1, q2, q5, q3⟩, q4⟩ hK
      have Q3 := Lib.hid q3
      have Q4 := Lib.hid q4
      clear q3 q4
      go_wp2_with fail
      refine ⟨by simp, .inl ⟨_, _, rfl, run_takeDeferred hK, ?_⟩⟩
      refine ⟨.slice (some ⟨g, 0, none⟩) r r, by simp [results, Tryd.results23, go_sem], ?_⟩
      have hg2 := Q3.out.kept (grownBy_putObj' W D (.deferred none)) (fun r e => by cases e; exact ⟨_, hK, rfl⟩)
      refine ⟨g, G, rfl, ?_, by have := k1.size; omega, Q4.out.trans (belowK_b (w := w) (Nat.le_refl _) W D _ _ (by have := kw.size; omega) hK rfl rfl)⟩
      exact hg2.ext fun a b ha hb => by rw [Mx.acc_all r c (Mx.mul q f f') a b ha hb]
    case stop =>
      rintro D c pre W _ _ h _
      exact h.elim
theorem multiply_any (A A' : Option Addr) (f f' : Nat → Nat → Fp.F) (r q c d d' : Nat) (w : World) (ha : LiesM w A (Mx.matl r q f)) (ha' : LiesM w A' (Mx.matl q c f')) (hr0 : 0 < r) (hr : r ≤ 5) (hq0 : 0 < q) (hq : q ≤ 5) (hc0 : 0 < c) (hc : c ≤ 5) :
    Calls Tryd.prog 23 #[.slice A r d, .slice A' q d'] w fun e w' => ∃ g, e = .returned (.slice (some ⟨g, 0, none⟩) r r) ∧ LiesM w' (some ⟨g, 0, none⟩) (Mx.matl r c (Mx.mul q f f')) ∧ Kp w w' :=
  (multiply_grid A A' f f' r q c d d' w ha ha' hr0 hr hq0 hq hc0 hc).mono fun _ _ ⟨_, _, he, hg, _, hk⟩ => ⟨_, he, hg.lies, hk⟩

end Go.Proofs.YtologiinkilooaaDoor

/- Contracts of package mat's Mul, One, Pow; and the errors of all of its functions. -/
namespace Go.Proofs.YtologiinkilooaaDoor
open Go.ChangeShapes Go.WideShapes Go.ChangeAt Go.RowKit
set_option linter.unusedVariables false



set_option maxHeartbeats 800000 in
theorem Mul_bad (A B : Option Addr) (a b : List (List Int)) (n m c d : Nat) (w : World) (ha : LiesM w A a) (hb : LiesM w B b) (hn : a.length = n) (hm : b.length = m) (hz : mcode2 a b ≠ 0) :
    Calls Tryd.prog 13 #[.slice A n c, .slice B m d] w fun e w' => FailsM (mcode2 a b) w e w' := by
  have CH := Lib.hid (checkBoth_any A B a b n m c d w ha hb hn hm)
  have E := Lib.hid (errOf_ne _ hz)
  rw [errOf_ne _ hz] at CH
  unfold FailsM
  rw [E.out]
  generalize mcode2 a b = z at *
  clear ha hb hn hm hz E
  go_enter Tryd.func13, Tryd.ntmps13
  go_wp2_with fail
  refine (CH.out).mono ?_; rintro e w' ⟨rfl, rfl⟩
  go_wp2_with fail
  refine bodyPost_ret (v := .tuple #[.slice none 0 0, .iface 43 (.int .i64 (z : Int))]) (by simp [results, Tryd.results13, go_sem]) rfl ⟨rfl, Kp.rfl' _⟩

set_option maxHeartbeats 800000 in
theorem Mul_shape (A A' : Option Addr) (f f' : Nat → Nat → Fp.F) (r q q' c d d' : Nat) (w : World) (ha : LiesM w A (Mx.matl r q f)) (ha' : LiesM w A' (Mx.matl q' c f')) (hr0 : 0 < r) (hr : r ≤ 5) (hc0 : 0 < c) (hc : c ≤ 5)
    (hq0 : 0 < q) (hq : q ≤ 5) (hq0' : 0 < q') (hq' : q' ≤ 5) (hne : q ≠ q') :
    Calls Tryd.prog 13 #[.slice A r d, .slice A' q' d'] w fun e w' => FailsM 3 w e w' := by
  have CH := Lib.hid (checkBoth_any A A' (Mx.matl r q f) (Mx.matl q' c f') r q' d d' w ha ha' (Mx.len_matl _ _ _) (Mx.len_matl _ _ _))
  unfold mcode2 at CH
  rw [if_pos (Mx.mcode_matl f hr0 hr hq0 hq), Mx.mcode_matl f' hq0' hq' hc0 hc] at CH
  obtain ⟨ad, A0, d0, rfl, hlt0, hc00, _, _⟩ := ha.row hr0
  rw [add_zero'] at hc00
  have e1 : ((q : Int) != (q' : Int)) = true := by rw [bne_iff_ne]; omega
  clear ha ha'
  go_enter Tryd.func13, Tryd.ntmps13
  go_wp2_with fail
  refine (CH.out).mono ?_; rintro e w' ⟨rfl, rfl⟩
  rw [errOf_zero]
  go_wp2_with fail
  refine bodyPost_ret (v := .tuple #[.slice none 0 0, errOf 3]) (by simp [results, Tryd.results13, go_sem, errOf]) rfl ⟨rfl, Kp.rfl' _⟩

set_option maxHeartbeats 800000 in
theorem Mul_ok (A A' : Option Addr) (f f' : Nat → Nat → Fp.F) (r q c d d' : Nat) (w : World) (ha : LiesM w A (Mx.matl r q f)) (ha' : LiesM w A' (Mx.matl q c f')) (hr0 : 0 < r) (hr : r ≤ 5) (hq0 : 0 < q) (hq : q ≤ 5) (hc0 : 0 < c) (hc : c ≤ 5) :
    Calls Tryd.prog 13 #[.slice A r d, .slice A' q d'] w fun e w' => GivesM (Mx.matl r c (Mx.mul q f f')) w e w' := by
  have CH := Lib.hid (checkBoth_any A A' (Mx.matl r q f) (Mx.matl q c f') r q d d' w ha ha' (Mx.len_matl _ _ _) (Mx.len_matl _ _ _))
  unfold mcode2 at CH
  rw [if_pos (Mx.mcode_matl f hr0 hr hq0 hq), Mx.mcode_matl f' hq0 hq hc0 hc] at CH
  have MU := Lib.hid (multiply_any A A' f f' r q c d d' w ha ha' hr0 hr hq0 hq hc0 hc)
  obtain ⟨ad, A0, d0, rfl, hlt0, hc00, _, _⟩ := ha.row hr0
  rw [add_zero'] at hc00
  have e1 : ((q : Int) != (q : Int)) = false := by simp
  clear ha ha'
  go_enter Tryd.func13, Tryd.ntmps13
  go_wp2_with fail
  refine (CH.out).mono ?_; rintro e w' ⟨rfl, rfl⟩
  rw [errOf_zero]
  go_wp2_with fail
  refine (MU.out).mono ?_; rintro e w' ⟨g, rfl, hl, hk⟩
  have HL := Lib.hid hl
  have HK := Lib.hid hk
  clear hl hk
  go_wp2_with fail
  refine bodyPost_ret (v := .tuple #[.slice (some ⟨g, 0, none⟩) r r, .nilIface]) (by simp [results, Tryd.results13, go_sem]) rfl ⟨some ⟨g, 0, none⟩, r, by rw [Mx.len_matl], by rw [Mx.len_matl]; exact Nat.le_refl _, HL.out, HK.out⟩



end Go.Proofs.YtologiinkilooaaDoor

/- The closed fact of package mat, outright; and what its functions say of whatever comes in. -/
namespace Go.Proofs.YtologiinkilooaaDoor
open Go.ChangeShapes Go.WideShapes Go.ChangeAt Go.RowKit
set_option linter.unusedVariables false

theorem fa1 : Mx.tab 2 2 (n22 1 2 3 4) = Mx.matl 2 2 (f22 1 2 3 4) := by decide +kernel
theorem fa2 : Mx.tab 2 2 (n22 0 1 1 0) = Mx.matl 2 2 (f22 0 1 1 0) := by decide +kernel
theorem fa3 : Mx.tab 2 2 (n22 1 1 0 1) = Mx.matl 2 2 (f22 1 1 0 1) := by decide +kernel
theorem fa4 : Mx.matl 2 2 (Mx.mul 2 (f22 1 2 3 4) (f22 0 1 1 0)) = Mx.tab 2 2 (n22 2 1 4 3) := by decide +kernel
theorem fa5 : Mx.matl 2 2 (Mx.pwm 2 (f22 1 1 0 1) 7) = Mx.tab 2 2 (n22 1 7 0 1) := by decide +kernel


/-- A call that answers an error and nothing else. -/
def FailsAny (w : World) (e : Ending) (w' : World) : Prop := ∃ z : Nat, e = .returned (.tuple #[.slice none 0 0, .iface 43 (.int .i64 (z : Int))]) ∧ Kp w w'
theorem FailsM.any {c : Nat} {w w' : World} {e : Ending} (h : FailsM c w e w') (hc : c ≠ 0) : FailsAny w e w' := ⟨c, by rw [h.1, errOf_ne c hc], h.2⟩

/-- A call that answers a matrix. -/
def Got (r c : Nat) (f : Nat → Nat → Fp.F) (w : World) (e : Ending) (w' : World) : Prop := ∃ A d, e = .returned (.tuple #[.slice A r d, .nilIface]) ∧ LiesM w' A (Mx.matl r c f) ∧ Kp w w'
theorem GivesM.got {r c : Nat} {f : Nat → Nat → Fp.F} {w w' : World} {e : Ending} (h : GivesM (Mx.matl r c f) w e w') : Got r c f w e w' := by
  obtain ⟨A, d, he, _, hl, hk⟩ := h
  rw [Mx.len_matl] at he
  exact ⟨A, d, he, hl, hk⟩

theorem Mul_or (A B : Option Addr) (a b : List (List Int)) (n m c d : Nat) (hn : a.length = n) (hm : b.length = m) :
    (∃ r q k f f', Sh r q f a ∧ Sh q k f' b) ∨ ∀ (w : World), LiesM w A a → LiesM w B b → Calls Tryd.prog 13 #[.slice A n c, .slice B m d] w fun e w' => FailsAny w e w' := by
  by_cases h : mcode2 a b = 0
  · obtain ⟨h1, h2⟩ := mcode2_zero h
    obtain ⟨r, q, f, e, r0, r5, q0, q5⟩ := Mx.mcode_zero h1
    obtain ⟨q', k, f', e', r0', r5', q0', q5'⟩ := Mx.mcode_zero h2
    by_cases hq : q = q'
    · subst hq
      exact .inl ⟨r, q, k, f, f', ⟨e, r0, r5, q0, q5⟩, ⟨e', r0', r5', q0', q5'⟩⟩
    · right
      subst e e'
      rw [Mx.len_matl] at hn hm
      subst hn hm
      intro w ha hb
      exact (Mul_shape A B f f' r q q' k c d w ha hb r0 r5 q0' q5' q0 q5 r0' r5' hq).mono fun e w' h => h.any (by decide)
  · exact .inr fun w ha hb => ((Mul_bad A B a b n m c d w ha hb hn hm h).mono fun e w' h' => h'.any h)
theorem Mul_sh {A B : Option Addr} {a b : List (List Int)} {r q k : Nat} {f f' : Nat → Nat → Fp.F} (sa : Sh r q f a) (sb : Sh q k f' b) (c d : Nat) (w : World) (ha : LiesM w A a) (hb : LiesM w B b) :
    Calls Tryd.prog 13 #[.slice A r c, .slice B q d] w fun e w' => Got r k (Mx.mul q f f') w e w' := by
  rw [sa.eq] at ha
  rw [sb.eq] at hb
  exact (Mul_ok A B f f' r q k c d w ha hb sa.r0 sa.r5 sa.c0 sa.c5 sb.c0 sb.c5).mono fun _ _ h => h.got

end Go.Proofs.YtologiinkilooaaDoor

/- Contracts of plain.Told and rankmeresame.Error: of nil and of an Errno. Go's own text of errors.As is walked, by closed facts on the model's entries for internal/reflectlite at this translation's numbers. The one premise: the variable errors.errorType holds its type. -/
namespace Go.Proofs.YtologiinkilooaaDoor.Told
open Go.RowKit Go.Extern.Stop Go.Stop Go.Extern
set_option linter.unusedVariables false

theorem valueOfP (t : Addr) (w : World) : (ReflectliteValue.unpack (.iface 56 (.pointer (some t)))).run Tryd.prog w
    = .ok (.agg #[.pointer (some ⟨1, 56, none⟩), .pointer (some ⟨w.heap.size, 0, none⟩), .int .u64 150]) (w.alloc (.cells #[.pointer (some t)] 56)) := by kernel_rfl
theorem typeP (a : Addr) (w : World) : (ReflectliteValue.methodAny (ReflectliteValue.valueError "reflectlite.Value.Type" 0) (fun t _ _ _ => ReflectliteType.toType t) #[.agg #[.pointer (some ⟨1, 56, none⟩), .pointer (some a), .int .u64 150]]).run Tryd.prog w
    = .ok (.iface 94 (.agg #[.pointer (some ⟨1, 56, none⟩)])) w := by kernel_rfl
theorem methodKind (h : Value) (w : World) : (Go.method 242 94 (.agg #[h]) "Kind").run Tryd.prog w = .ok (92, h) w := by kernel_rfl
theorem kindP (w : World) : ((ReflectliteType.abiMethod fun t => (fun a : Nat => Value.int IntKind.u8 (a : Int)) <$> Rtype.kind t) #[.pointer (some ⟨1, 56, none⟩)]).run Tryd.prog w = .ok (.int .u8 22) w := by kernel_rfl
theorem kindE (w : World) : ((ReflectliteType.abiMethod fun t => (fun a : Nat => Value.int IntKind.u8 (a : Int)) <$> Rtype.kind t) #[.pointer (some ⟨1, 43, none⟩)]).run Tryd.prog w = .ok (.int .u8 2) w := by kernel_rfl
theorem rlm (z : Sem Value) (f : TypeId → Addr → Nat → Nat → Sem Value) (v : Value) :
    ReflectliteValue.method z f #[v] = (do match ← ReflectliteValue.parts v with | none => z | some (t, a, fl) => f t a fl (fl % 32)) := rfl
theorem partsP (a : Addr) (w : World) : (ReflectliteValue.parts (.agg #[.pointer (some ⟨1, 56, none⟩), .pointer (some a), .int .u64 150])).run Tryd.prog w = .ok (some (56, a, 150)) w := by kernel_rfl
theorem isNilP (a p : Addr) (W : World) (ha : W.cell? a = some (.pointer (some p))) :
    (ReflectliteValue.method (ReflectliteValue.valueError "reflectlite.Value.IsNil" 0) ReflectliteValue.isNil #[.agg #[.pointer (some ⟨1, 56, none⟩), .pointer (some a), .int .u64 150]]).run Tryd.prog W = .ok (.bool false) W := by
  rw [rlm]
  simp only [Sem.run_bind, partsP, Result.andThen]
  simp [ReflectliteValue.isNil, loadVar, isAgg, underlying, Tryd.underlying56, ha, Result.andThen]
theorem methodElem (h : Value) (w : World) : (Go.method 242 94 (.agg #[h]) "Elem").run Tryd.prog w = .ok (102, .agg #[h]) w := by kernel_rfl
theorem methodImplements (h : Value) (w : World) : (Go.method 242 94 (.agg #[h]) "Implements").run Tryd.prog w = .ok (103, .agg #[h]) w := by kernel_rfl
theorem methodAssignableTo (h : Value) (w : World) : (Go.method 242 94 (.agg #[h]) "AssignableTo").run Tryd.prog w = .ok (100, .agg #[h]) w := by kernel_rfl
theorem elemP (w : World) : (ReflectliteType.method ReflectliteType.elem #[.agg #[.pointer (some ⟨1, 56, none⟩)]]).run Tryd.prog w = .ok (.iface 94 (.agg #[.pointer (some ⟨1, 43, none⟩)])) w := by kernel_rfl
theorem implementsE (w : World) : (ReflectliteType.relation "Implements" ReflectliteType.implements_ #[.agg #[.pointer (some ⟨1, 43, none⟩)], .iface 94 (.agg #[.pointer (some ⟨1, 28, none⟩)])]).run Tryd.prog w = .ok (.bool true) w := by kernel_rfl
theorem typeOfE (v : Value) (w : World) : (ReflectliteType.typeOf #[.iface 43 v]).run Tryd.prog w = .ok (.iface 94 (.agg #[.pointer (some ⟨1, 43, none⟩)])) w := by kernel_rfl
theorem assignableE (w : World) : (ReflectliteType.relation "AssignableTo" ReflectliteType.assignableTo #[.agg #[.pointer (some ⟨1, 43, none⟩)], .iface 94 (.agg #[.pointer (some ⟨1, 43, none⟩)])]).run Tryd.prog w = .ok (.bool true) w := by kernel_rfl
theorem valueOfE (n : Int) (w : World) : (ReflectliteValue.unpack (.iface 43 (.int .i64 n))).run Tryd.prog w
    = .ok (.agg #[.pointer (some ⟨1, 43, none⟩), .pointer (some ⟨w.heap.size, 0, none⟩), .int .u64 130]) (w.alloc (.cells #[.int .i64 n] 43)) := by kernel_rfl
theorem elemOfP (w : World) : (Rtype.elem? 56).run Tryd.prog w = .ok (some 43) w := by kernel_rfl
theorem mkE (p : Addr) (w : World) : (ReflectliteValue.mk 43 p ReflectliteValue.flagAddr).run Tryd.prog w = .ok (.agg #[.pointer (some ⟨1, 43, none⟩), .pointer (some p), .int .u64 386]) w := by kernel_rfl
theorem elemVP (a p : Addr) (W : World) (ha : W.cell? a = some (.pointer (some p))) :
    (ReflectliteValue.method (ReflectliteValue.valueError "reflectlite.Value.Elem" 0) ReflectliteValue.elem #[.agg #[.pointer (some ⟨1, 56, none⟩), .pointer (some a), .int .u64 150]]).run Tryd.prog W
      = .ok (.agg #[.pointer (some ⟨1, 43, none⟩), .pointer (some p), .int .u64 386]) W := by
  rw [rlm]
  simp only [Sem.run_bind, partsP, Result.andThen]
  simp [ReflectliteValue.elem, loadVar, isAgg, underlying, Tryd.underlying56, ha, Result.andThen, elemOfP, mkE]
theorem rls (v x : Value) : ReflectliteValue.set #[v, x] = (do
    let (some (dst, a, fl), some (src, b, _)) := (← ReflectliteValue.parts v, ← ReflectliteValue.parts x)
      | unsupported (.noEntry "extern/(internal/reflectlite.Value).Set.zeroValue")
    if fl / ReflectliteValue.flagAddr % 2 == 0 then unsupported (.noEntry "extern/(internal/reflectlite.Value).Set.unaddressable")
    let val ← loadVar src b
    if ← Rtype.directlyAssignable dst src then storeVar dst a val
    else if ← Rtype.implements dst src then
      if (← Rtype.kind src) == 20 then
        match val with
        | .nilIface => unsupported (.noEntry "extern/reflectlite: a nil value of one interface type handed on as a value of another")
        | _ => storeVar dst a val
      else storeVar dst a (.iface src val)
    else panicString ("reflectlite.Set: value of type " ++ (← Rtype.spelt src) ++ " is not assignable to type " ++ (← Rtype.spelt dst))
    pure (.tuple #[])) := rfl
theorem partsEa (a : Addr) (w : World) : (ReflectliteValue.parts (.agg #[.pointer (some ⟨1, 43, none⟩), .pointer (some a), .int .u64 386])).run Tryd.prog w = .ok (some (43, a, 386)) w := by kernel_rfl
theorem partsE (a : Addr) (w : World) : (ReflectliteValue.parts (.agg #[.pointer (some ⟨1, 43, none⟩), .pointer (some a), .int .u64 130])).run Tryd.prog w = .ok (some (43, a, 130)) w := by kernel_rfl
theorem directE (w : World) : (Rtype.directlyAssignable 43 43).run Tryd.prog w = .ok true w := by kernel_rfl
theorem setE (ta b : Addr) (n : Int) (old : Value) (W : World) (hb : W.cell? b = some (.int .i64 n)) (ht : W.cell? ta = some old) (hf : W.frozen? ta = false) :
    (ReflectliteValue.set #[.agg #[.pointer (some ⟨1, 43, none⟩), .pointer (some ta), .int .u64 386], .agg #[.pointer (some ⟨1, 43, none⟩), .pointer (some b), .int .u64 130]]).run Tryd.prog W
      = .ok (.tuple #[]) (W.setCell ta (.int .i64 n)) := by
  rw [rls]
  simp only [Sem.run_bind, partsEa, partsE, Result.andThen]
  simp [ReflectliteValue.flagAddr, loadVar, isAgg, underlying, Tryd.underlying43, hb, Result.andThen, directE, storeVar, Value.cells, storeCells, Addr.add]
  rw [run_store Tryd.prog W ta _ _ (by rfl)]
  simp [ht, hf]

/-- The variable errors.errorType holds its type. -/
abbrev Laid (w : World) : Prop := w.cell? ⟨0, 0, none⟩ = some (.iface 94 (.agg #[.pointer (some ⟨1, 28, none⟩)]))

theorem laid_lt {w : World} (h : Laid w) : 0 < w.heap.size := by
  have h1 : w.cell? ⟨0, 0, none⟩ = some (.iface 94 (.agg #[.pointer (some ⟨1, 28, none⟩)])) := h
  rcases Nat.lt_or_ge 0 w.heap.size with h' | h'
  · exact h'
  · have e : w.heap[0]? = none := Array.getElem?_eq_none h'
    simp [World.cell?, e] at h1

set_option maxHeartbeats 4000000 in
theorem as_hit (n : Int) (t : Addr) (old : Value) (w : World) (hg : Laid w) (ht0 : w.cell? t = some old) (hf0 : w.frozen? t = false) :
    Calls Tryd.prog 30 #[.iface 43 (.int .i64 n), .iface 56 (.pointer (some t))] w fun ev w' => ev = .returned (.bool true) ∧ w' = ((((w.alloc (.cells #[.pointer (some t)] 56)).alloc (.cells #[.pointer (some ⟨1, 56, none⟩), .pointer (some ⟨w.heap.size, 0, none⟩), .int .u64 150] 75)).alloc (.cells #[.pointer (some ⟨1, 56, none⟩), .pointer (some ⟨w.heap.size, 0, none⟩), .int .u64 150] 75)).alloc (.cells #[.int .i64 n] 43)).setCell t (.int .i64 n) := by
  have h6 := @run_callFunc_extern Tryd.prog 49 _ (fun args => ReflectliteValue.unpack (args.getD 0 (.tuple #[]))) Tryd.func49 (by kernel_rfl) (by kernel_rfl) (by kernel_rfl) (by kernel_rfl)
  have h7 := @run_callFunc_extern Tryd.prog 50 _ (ReflectliteValue.methodAny (ReflectliteValue.valueError "reflectlite.Value.Type" 0) (fun t _ _ _ => ReflectliteType.toType t)) Tryd.func50 (by kernel_rfl) (by kernel_rfl) (by kernel_rfl) (by kernel_rfl)
  have h8 := @run_callFunc_extern Tryd.prog 51 _ (ReflectliteValue.method (ReflectliteValue.valueError "reflectlite.Value.IsNil" 0) ReflectliteValue.isNil) Tryd.func51 (by kernel_rfl) (by kernel_rfl) (by kernel_rfl) (by kernel_rfl)
  have h27 := @run_callFunc_extern Tryd.prog 92 _ (ReflectliteType.abiMethod fun t => do pure (.int .u8 (← Rtype.kind t))) Tryd.func92 (by kernel_rfl) (by kernel_rfl) (by kernel_rfl) (by kernel_rfl)
  have h37 := @run_callFunc_extern Tryd.prog 102 _ (ReflectliteType.method ReflectliteType.elem) Tryd.func102 (by kernel_rfl) (by kernel_rfl) (by kernel_rfl) (by kernel_rfl)
  have h38 := @run_callFunc_extern Tryd.prog 103 _ (ReflectliteType.relation "Implements" ReflectliteType.implements_) Tryd.func103 (by kernel_rfl) (by kernel_rfl) (by kernel_rfl) (by kernel_rfl)
  have h10 := @run_callFunc_extern Tryd.prog 66 _ ReflectliteType.typeOf Tryd.func66 (by kernel_rfl) (by kernel_rfl) (by kernel_rfl) (by kernel_rfl)
  have h35 := @run_callFunc_extern Tryd.prog 100 _ (ReflectliteType.relation "AssignableTo" ReflectliteType.assignableTo) Tryd.func100 (by kernel_rfl) (by kernel_rfl) (by kernel_rfl) (by kernel_rfl)
  have h11 := @run_callFunc_extern Tryd.prog 67 _ (ReflectliteValue.method (ReflectliteValue.valueError "reflectlite.Value.Elem" 0) ReflectliteValue.elem) Tryd.func67 (by kernel_rfl) (by kernel_rfl) (by kernel_rfl) (by kernel_rfl)
  have h12 := @run_callFunc_extern Tryd.prog 68 _ ReflectliteValue.set Tryd.func68 (by kernel_rfl) (by kernel_rfl) (by kernel_rfl) (by kernel_rfl)
  have tO := typeOfE
  have mA := methodAssignableTo
  have a25 := assignableE
  have v25 := valueOfE
  have f6 := valueOfP
  have f7 := typeP
  have mK := methodKind
  have mE := methodElem
  have mI := methodImplements
  have k27 := kindP
  have k25 := kindE
  have e27 := elemP
  have i25 := implementsE
  have n8 := isNilP ⟨w.heap.size, 0, none⟩ t ((w.alloc (.cells #[.pointer (some t)] 56)).alloc (.cells #[.pointer (some ⟨1, 56, none⟩), .pointer (some ⟨w.heap.size, 0, none⟩), .int .u64 150] 75)) (by simp)
  have hlt : 0 < w.heap.size := laid_lt hg
  have hg2 : ((w.alloc (.cells #[.pointer (some t)] 56)).alloc (.cells #[.pointer (some ⟨1, 56, none⟩), .pointer (some ⟨w.heap.size, 0, none⟩), .int .u64 150] 75)).cell? ⟨0, 0, none⟩ = some (.iface 94 (.agg #[.pointer (some ⟨1, 28, none⟩)])) := by
    rw [World.cell?_alloc_lt _ _ ⟨0, 0, none⟩ (by show 0 < (w.heap.push _).size; rw [Array.size_push]; omega), World.cell?_alloc_lt _ _ ⟨0, 0, none⟩ hlt]; exact hg
  have htl : t.block < w.heap.size := by
    rcases Nat.lt_or_ge t.block w.heap.size with h | h
    · exact h
    · simp [World.cell?, Array.getElem?_eq_none h] at ht0
  have el := elemVP ⟨w.heap.size, 0, none⟩ t (((w.alloc (.cells #[.pointer (some t)] 56)).alloc (.cells #[.pointer (some ⟨1, 56, none⟩), .pointer (some ⟨w.heap.size, 0, none⟩), .int .u64 150] 75)).alloc (.cells #[.pointer (some ⟨1, 56, none⟩), .pointer (some ⟨w.heap.size, 0, none⟩), .int .u64 150] 75)) (by rw [World.cell?_alloc_lt _ _ ⟨w.heap.size, 0, none⟩ (by simp; omega)]; simp)
  have st := setE t ⟨w.heap.size + 1 + 1 + 1, 0, none⟩ n old ((((w.alloc (.cells #[.pointer (some t)] 56)).alloc (.cells #[.pointer (some ⟨1, 56, none⟩), .pointer (some ⟨w.heap.size, 0, none⟩), .int .u64 150] 75)).alloc (.cells #[.pointer (some ⟨1, 56, none⟩), .pointer (some ⟨w.heap.size, 0, none⟩), .int .u64 150] 75)).alloc (.cells #[.int .i64 n] 43))
    (by rw [World.cell?_alloc_at _ _ _ _ (by simp)]; rfl)
    (by rw [World.cell?_alloc_lt _ _ t (by simp; omega), World.cell?_alloc_lt _ _ t (by simp; omega), World.cell?_alloc_lt _ _ t (by simp; omega), World.cell?_alloc_lt _ _ t htl]; exact ht0)
    (by rw [World.frozen?_alloc_old _ _ t (by simp; omega), World.frozen?_alloc_old _ _ t (by simp; omega), World.frozen?_alloc_old _ _ t (by simp; omega), World.frozen?_alloc_old _ _ t (Nat.ne_of_lt htl)]; exact hf0)
  go_enter Tryd.func30, Tryd.ntmps30
  go_wp2
  refine wp_loop_rounds 1 ?_
  rw [rounds_succ]
  go_wp2
  go_ret
  exact ⟨rfl, rfl⟩

end Go.Proofs.YtologiinkilooaaDoor.Told

/- Contracts of plain.Told and rankmeresame.Error: of nil and of an Errno; nothing that was there turns. The one premise: the variable errors.errorType holds its type. -/
namespace Go.Proofs.YtologiinkilooaaDoor
open Go.RowKit Go.Proofs.YtologiinkilooaaDoor.Told
set_option linter.unusedVariables false

theorem laid_kp {w w' : World} (h : Laid w) (hg : Kp w w') : Laid w' :=
  (hg.cell (p := ⟨0, 0, none⟩) (laid_lt h)).trans h

theorem toldK_nil (w : World) :
    Calls Tryd.prog 18 #[.nilIface] w fun e w' => e = .returned (.int .i64 0) ∧ w = w' := by
  go_enter Tryd.func18, Tryd.ntmps18
  go_wp2
  go_ret
  exact ⟨rfl, rfl⟩

set_option maxHeartbeats 4000000 in
theorem toldK_hit (n : Int) (w : World) (hg : Laid w) :
    Calls Tryd.prog 18 #[.iface 43 (.int .i64 n)] w fun e w' => e = .returned (.int .i64 n) ∧ Kp w w' := by
  have hgA := Lib.hid (laid_kp hg ((Kp.rfl' w).new (.cells #[.int .i64 0] 43)))
  clear hg
  go_enter Tryd.func18, Tryd.ntmps18
  go_wp2_with (go_at_call 30; refine (as_hit n _ (.int .i64 0) _ hgA.out (by simp) (by simp)).mono ?_; rintro e w' ⟨rfl, rfl⟩)
  go_ret
  exact ⟨rfl, ((((((Kp.rfl' w).new _).new _).new _).new _).new _)⟩

/-- rankmeresame.Error on no error. -/
theorem errorK_nil (c : Int) (w : World) (b : Bool) (hb : ((0 : Int) == c) = b) :
    Calls Tryd.prog 9 #[.nilIface, .int .i64 c] w fun e w' => e = .returned (.bool b) ∧ Kp w w' := by
  have H := Lib.hid hb
  clear hb
  go_enter Tryd.func9, Tryd.ntmps9
  go_wp2_with (go_at_call 18; refine (toldK_nil _).mono ?_; rintro e w' ⟨rfl, rfl⟩)
  go_ret
  exact ⟨congrArg (fun b => Ending.returned (.bool b)) H.out, Kp.rfl' _⟩

/-- rankmeresame.Error on an Errno. -/
theorem errorK_hit (n c : Int) (w : World) (hg : Laid w) (hn : 0 ≤ n ∧ n ≤ 100) (b : Bool) (hb : (n == c) = b) :
    Calls Tryd.prog 9 #[.iface 43 (.int .i64 n), .int .i64 c] w fun e w' => e = .returned (.bool b) ∧ Kp w w' := by
  have H := Lib.hid hb
  have HG := Lib.hid hg
  clear hb hg
  go_enter Tryd.func9, Tryd.ntmps9
  go_wp2_with (go_at_call 18; refine (toldK_hit _ _ HG.out).mono ?_; rintro e w' ⟨rfl, hw⟩)
  go_ret
  exact ⟨congrArg (fun b => Ending.returned (.bool b)) H.out, hw⟩

end Go.Proofs.YtologiinkilooaaDoor

/- rankmeresame.Error at the errors by number. -/
namespace Go.Proofs.YtologiinkilooaaDoor
open Go.ChangeShapes Go.WideShapes Go.ChangeAt Go.RowKit
set_option linter.unusedVariables false

/-- Error says yes to the error that is told. -/
theorem error_says (c : Nat) (w : World) (hl : Told.Laid w) (hc : c ≤ 100) :
    Calls Tryd.prog 9 #[errOf c, .int .i64 (c : Int)] w fun e w' => e = .returned (.bool true) ∧ Kp w w' := by
  by_cases h : c = 0
  · subst h; exact errorK_nil 0 w true rfl
  · rw [errOf_ne c h]
    exact errorK_hit c c w hl (by omega) true (by simp)

end Go.Proofs.YtologiinkilooaaDoor

/- The law CharBoth. -/
namespace Go.Proofs.YtologiinkilooaaDoor
open Go.ChangeShapes Go.WideShapes Go.ChangeAt Go.RowKit
set_option linter.unusedVariables false

theorem ch_alike {n : Nat} (hn : n < 9973) {f g t : Nat → Nat → Fp.F} (un : Mx.Unm n g t) : ∀ k, k ≤ n → Mx.ch n (Mx.mul n (Mx.mul n g f) t) k = Mx.ch n f k := fun k hk => by
  rw [Mx.ch_both hn _ _ k hk]
  refine Mx.ch_congr hn (fun i j hi hj => ?_) k hk
  rw [← Mx.mul_assoc, Mx.Eqm.mul un.left (Mx.Eqm.rfl' n n f) i j hi hj, Mx.one_mul n n f i j hi hj]

set_option maxRecDepth 100000 in
set_option maxHeartbeats 6400000 in
theorem walk_CharBoth (A : Option Addr) (a : List (List Int)) (c : Nat) (B : Option Addr) (b : List (List Int)) (c' : Nat) (w : World) (hl : Told.Laid w) (ha : LiesM w A a) (hb : LiesM w B b) :
    Calls Tryd.prog 4 #[.slice A a.length c, .slice B b.length c'] w fun e w' => e = .returned (.bool true) ∧ Kp w w' := by
  obtain ⟨n, hn⟩ : ∃ n, n = a.length := ⟨_, rfl⟩
  obtain ⟨m, hm⟩ : ∃ m, m = b.length := ⟨_, rfl⟩
  rw [← hn, ← hm]
  have HA := Lib.hid ha
  have HB := Lib.hid hb
  have HL := Lib.hid hl
  have FA := Lib.hid (charFact_any w)
  clear ha hb hl
  rcases Trace_or A a n c hn.symm with ⟨f, sa⟩ | bad
  · have n0 := sa.r0
    have n5 := sa.r5
    obtain ⟨p, hp⟩ : ∃ p, n = p + 1 := ⟨n - 1, by omega⟩
    have T1 := Lib.hid (fun w h => Trace_sh (A := A) sa c w h)
    rcases Trace_or B b m c' hm.symm with ⟨f', sb⟩ | bad
    · have T2 := Lib.hid (fun w h => Trace_sh (A := B) sb c' w h)
      by_cases he : n = m
      · subst he
        have e1 : ((n : Int) != (n : Int)) = false := by rw [bne_eq_false_iff_eq]
        have M1 := Lib.hid (fun w ha hb => Mul_sh (A := A) (B := B) sa sb c c' w ha hb)
        have M2 := Lib.hid (fun w ha hb => Mul_sh (A := B) (B := A) sb sa c' c w ha hb)
        have O1 := Lib.hid (fun X d w h => COf_sh (A := X) (sa.mul sb) d w h)
        have O2 := Lib.hid (fun X d w h => COf_sh (A := X) (sb.mul sa) d w h)
        have EB := Lib.hid (Mx.chl_ext (Mx.ch_both (n := n) (by omega) f f'))
        have OA := Lib.hid (fun w h => COf_sh (A := A) sa c w h)
        by_cases hd : Mx.dt n f' = 0
        · have IO := Lib.hid (fun w h => IOf_none B f' n c' w h n0 n5 hd)
          rw [errOf_ne 5 (by decide)] at IO
          have hsb := sb.eq
          have HBM := Lib.hid (show ∀ w', Kp w w' → LiesM w' B (Mx.matl n n f') from fun w' k => by rw [← hsb]; exact HB.out.keep k)
          have ERR := Lib.hid (fun (wx : World) (hx : Kp w wx) => show Calls Tryd.prog 9 #[.iface 43 (.int .i64 ((5 : Nat) : Int)), .int .i64 ((5 : Nat) : Int)] wx fun e w' => e = .returned (.bool true) ∧ Kp wx w' from by
            have h := error_says 5 wx (laid_kp HL.out hx) (by decide)
            rw [errOf_ne 5 (by decide)] at h
            exact h)
          rw [show ((5 : Nat) : Int) = 5 from rfl] at IO ERR
          clear hn hm sa sb hd hp hsb
          go_enter Tryd.func4, Tryd.ntmps4
          go_wp2_with fail
          refine (FA.out).mono ?_; rintro e w1 ⟨rfl, k1⟩
          have K := Lib.hid k1; clear k1
          go_wp2_with fail
          refine (T1.out w1 (HA.out.keep K.out)).mono ?_; rintro e w2 ⟨rfl, k2⟩
          replace K := Lib.hid (K.out.trans k2); clear k2
          go_wp2_with fail
          refine (T2.out w2 (HB.out.keep K.out)).mono ?_; rintro e w3 ⟨rfl, k3⟩
          replace K := Lib.hid (K.out.trans k3); clear k3
          go_wp2_with fail
          refine (M1.out w3 (HA.out.keep K.out) (HB.out.keep K.out)).mono ?_; rintro e w4 ⟨P, dp, rfl, lp, k4⟩
          replace K := Lib.hid (K.out.trans k4); have LP := Lib.hid lp; clear k4 lp
          go_wp2_with fail
          refine (M2.out w4 (HB.out.keep K.out) (HA.out.keep K.out)).mono ?_; rintro e w5 ⟨Q, dq, rfl, lq, k5⟩
          replace K := Lib.hid (K.out.trans k5); have LQ := Lib.hid lq; replace LP := Lib.hid (LP.out.keep k5); clear k5 lq
          go_wp2_with fail
          refine (O1.out P dp w5 LP.out).mono ?_; rintro e w6 ⟨X, cx, rfl, hx, _, k6⟩
          rw [EB.out] at hx
          replace K := Lib.hid (K.out.trans k6); replace LQ := Lib.hid (LQ.out.keep k6); have LX := Lib.hid hx; clear k6 hx
          go_wp2_with fail
          refine (O2.out Q dq w6 LQ.out).mono ?_; rintro e w7 ⟨Y, cy, rfl, hy, _, k7⟩
          replace K := Lib.hid (K.out.trans k7); replace LX := Lib.hid (LX.out.keep k7); have LY := Lib.hid hy; clear k7 hy
          have IC := Lib.hid (same_eq X Y _ _ (n + 1) (n + 1) cx cy w7 LX.out LY.out (by rw [Pol.len_vals, Mx.len_chl]) (by rw [Pol.len_vals, Mx.len_chl]) (by omega) rfl)
          go_wp2_with fail
          refine (IC.out).mono ?_; rintro e w8 ⟨rfl, k8⟩
          replace K := Lib.hid (K.out.trans k8); clear k8
          go_wp2_with fail
          refine (IO.out w8 (HBM.out w8 K.out)).mono ?_; rintro e w9 ⟨rfl, k9⟩
          replace K := Lib.hid (K.out.trans k9); clear k9
          go_wp2_with fail
          refine (ERR.out w9 K.out).mono ?_; rintro e w10 ⟨rfl, k10⟩
          replace K := Lib.hid (K.out.trans k10); clear k10
          go_wp2_with fail
          go_ret
          exact ⟨rfl, K.out⟩
        · have IO := Lib.hid (fun w h => IOf_sh (A := B) sb hp hd c' w h)
          have un : Mx.Unm n f' (Mx.invm p f') := by rw [hp] at hd ⊢; exact Mx.unm_invm p f' hd
          have M3 := Lib.hid (fun X Y d e w hx hy => Mul_sh (A := X) (B := Y) (sb.mul sa) (sb.inv (p := p)) d e w hx hy)
          have O3 := Lib.hid (fun X d w h => COf_sh (A := X) ((sb.mul sa).mul (sb.inv (p := p))) d w h)
          have EA := Lib.hid (Mx.chl_ext (ch_alike (by omega) (f := f) un))
          clear hn hm sa sb hd hp un
          go_enter Tryd.func4, Tryd.ntmps4
          go_wp2_with fail
          refine (FA.out).mono ?_; rintro e w1 ⟨rfl, k1⟩
          have K := Lib.hid k1; clear k1
          go_wp2_with fail
          refine (T1.out w1 (HA.out.keep K.out)).mono ?_; rintro e w2 ⟨rfl, k2⟩
          replace K := Lib.hid (K.out.trans k2); clear k2
          go_wp2_with fail
          refine (T2.out w2 (HB.out.keep K.out)).mono ?_; rintro e w3 ⟨rfl, k3⟩
          replace K := Lib.hid (K.out.trans k3); clear k3
          go_wp2_with fail
          refine (M1.out w3 (HA.out.keep K.out) (HB.out.keep K.out)).mono ?_; rintro e w4 ⟨P, dp, rfl, lp, k4⟩
          replace K := Lib.hid (K.out.trans k4); have LP := Lib.hid lp; clear k4 lp
          go_wp2_with fail
          refine (M2.out w4 (HB.out.keep K.out) (HA.out.keep K.out)).mono ?_; rintro e w5 ⟨Q, dq, rfl, lq, k5⟩
          replace K := Lib.hid (K.out.trans k5); have LQ := Lib.hid lq; replace LP := Lib.hid (LP.out.keep k5); clear k5 lq
          go_wp2_with fail
          refine (O1.out P dp w5 LP.out).mono ?_; rintro e w6 ⟨X, cx, rfl, hx, _, k6⟩
          rw [EB.out] at hx
          replace K := Lib.hid (K.out.trans k6); replace LQ := Lib.hid (LQ.out.keep k6); have LX := Lib.hid hx; clear k6 hx
          go_wp2_with fail
          refine (O2.out Q dq w6 LQ.out).mono ?_; rintro e w7 ⟨Y, cy, rfl, hy, _, k7⟩
          replace K := Lib.hid (K.out.trans k7); replace LX := Lib.hid (LX.out.keep k7); replace LQ := Lib.hid (LQ.out.keep k7); have LY := Lib.hid hy; clear k7 hy
          have IC := Lib.hid (same_eq X Y _ _ (n + 1) (n + 1) cx cy w7 LX.out LY.out (by rw [Pol.len_vals, Mx.len_chl]) (by rw [Pol.len_vals, Mx.len_chl]) (by omega) rfl)
          go_wp2_with fail
          refine (IC.out).mono ?_; rintro e w8 ⟨rfl, k8⟩
          replace K := Lib.hid (K.out.trans k8); replace LQ := Lib.hid (LQ.out.keep k8); clear k8
          go_wp2_with fail
          refine (IO.out w8 (HB.out.keep K.out)).mono ?_; rintro e w9 ⟨gk, rfl, lk, k9⟩
          replace K := Lib.hid (K.out.trans k9); replace LQ := Lib.hid (LQ.out.keep k9); have LK := Lib.hid lk; clear k9 lk
          go_wp2_with fail
          refine (M3.out Q _ dq n w9 LQ.out LK.out).mono ?_; rintro e w10 ⟨U, du, rfl, lu, k10⟩
          replace K := Lib.hid (K.out.trans k10); have LU := Lib.hid lu; clear k10 lu
          go_wp2_with fail
          refine (OA.out w10 (HA.out.keep K.out)).mono ?_; rintro e w11 ⟨W, cw, rfl, hw, _, k11⟩
          replace K := Lib.hid (K.out.trans k11); replace LU := Lib.hid (LU.out.keep k11); have LW := Lib.hid hw; clear k11 hw
          go_wp2_with fail
          refine (O3.out U du w11 LU.out).mono ?_; rintro e w12 ⟨V, cv, rfl, hv, _, k12⟩
          rw [EA.out] at hv
          replace K := Lib.hid (K.out.trans k12); replace LW := Lib.hid (LW.out.keep k12); have LV := Lib.hid hv; clear k12 hv
          have IC2 := Lib.hid (same_eq V W _ _ (n + 1) (n + 1) cv cw w12 LV.out LW.out (by rw [Pol.len_vals, Mx.len_chl]) (by rw [Pol.len_vals, Mx.len_chl]) (by omega) rfl)
          go_wp2_with fail
          refine (IC2.out).mono ?_; rintro e w13 ⟨rfl, k13⟩
          replace K := Lib.hid (K.out.trans k13); clear k13
          go_wp2_with fail
          go_ret
          exact ⟨rfl, K.out⟩
      · have e1 : ((n : Int) != (m : Int)) = true := by rw [bne_iff_ne]; omega
        clear hn hm sa sb hp he
        go_enter Tryd.func4, Tryd.ntmps4
        go_wp2_with fail
        refine (FA.out).mono ?_; rintro e w1 ⟨rfl, k1⟩
        have K := Lib.hid k1; clear k1
        go_wp2_with fail
        refine (T1.out w1 (HA.out.keep K.out)).mono ?_; rintro e w2 ⟨rfl, k2⟩
        replace K := Lib.hid (K.out.trans k2); clear k2
        go_wp2_with fail
        refine (T2.out w2 (HB.out.keep K.out)).mono ?_; rintro e w3 ⟨rfl, k3⟩
        replace K := Lib.hid (K.out.trans k3); clear k3
        go_wp2_with fail
        go_ret
        exact ⟨rfl, K.out⟩
    · have BAD := Lib.hid bad
      clear hn hm sa hp bad
      go_enter Tryd.func4, Tryd.ntmps4
      go_wp2_with fail
      refine (FA.out).mono ?_; rintro e w1 ⟨rfl, k1⟩
      have K := Lib.hid k1; clear k1
      go_wp2_with fail
      refine (T1.out w1 (HA.out.keep K.out)).mono ?_; rintro e w2 ⟨rfl, k2⟩
      replace K := Lib.hid (K.out.trans k2); clear k2
      go_wp2_with fail
      refine (BAD.out w2 (HB.out.keep K.out)).mono ?_; rintro e w3 ⟨z, rfl, k3⟩
      replace K := Lib.hid (K.out.trans k3); clear k3
      go_wp2_with fail
      go_ret
      exact ⟨rfl, K.out⟩
  · have BAD := Lib.hid bad
    have TB := Lib.hid (fun w h => show Calls Tryd.prog 8 #[.slice B m c'] w fun e w' => ∃ v er, e = .returned (.tuple #[v, er]) ∧ Kp w w' from by
      rcases Trace_or B b m c' hm.symm with ⟨f', sb⟩ | bad
      · exact (Trace_sh (A := B) sb c' w h).mono fun e w' hh => ⟨_, _, hh.1, hh.2⟩
      · exact (bad w h).mono fun e w' ⟨z, he, hk⟩ => ⟨_, _, he, hk⟩)
    clear hn hm bad
    go_enter Tryd.func4, Tryd.ntmps4
    go_wp2_with fail
    refine (FA.out).mono ?_; rintro e w1 ⟨rfl, k1⟩
    have K := Lib.hid k1; clear k1
    go_wp2_with fail
    refine (BAD.out w1 (HA.out.keep K.out)).mono ?_; rintro e w2 ⟨z, rfl, k2⟩
    replace K := Lib.hid (K.out.trans k2); clear k2
    go_wp2_with fail
    refine (TB.out w2 (HB.out.keep K.out)).mono ?_; rintro e w3 ⟨v, er, rfl, k3⟩
    replace K := Lib.hid (K.out.trans k3); clear k3
    go_wp2_with fail
    go_ret
    exact ⟨rfl, K.out⟩
end Go.Proofs.YtologiinkilooaaDoor
