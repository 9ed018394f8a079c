/- Several texts, one behind the other: CpC2, RowsG, ShM, DeFact, CpFact, MxRef, MxRef2, MxRef3, MxRef4, CpRef, Told, ErrK, ErrG, CpSays. -/
import Derived.Test.YtologiinkilooaaDoorCharSaysProofG2
import Derived.Test.YtologiinkilooaaDoorCharSaysProofG1
import Derived.StillTailTactics
import Derived.BigQuiet
import Derived.Deep.RegionHeld3
import Derived.Test.YtologiinkilooaaDoorProg
import Derived.WalkKit
import Derived.LaidEql
import Derived.Stop.Asserts
import Derived.RowKitTokens
import Derived.Handy
import Derived.ProofKit
import Derived.OpenShut
import Derived.Lib.Hide

/- Contracts of package charpoly, second part: Trace, Of. -/
namespace Go.Proofs.YtologiinkilooaaDoor
open Go.ChangeShapes Go.WideShapes Go.ChangeAt Go.RowKit
set_option linter.unusedVariables false

theorem Trace_bad (A : Option Addr) (m : List (List Int)) (n d : Nat) (w : World) (ha : LiesM w A m) (hn : m.length = n) (h : qcode 5 0 9972 m ≠ 0) :
    Calls Tryd.prog 8 #[.slice A n d] w fun e w' => e = .returned (.tuple #[.int .i64 0, errOf (qcode 5 0 9972 m)]) ∧ Kp w w' := by
  have CK := Lib.hid (fun w (ha : LiesM w A m) => DChk_any A m n d w ha hn)
  rw [errOf_ne _ h] at CK ⊢
  generalize qcode 5 0 9972 m = z at *
  have HA := Lib.hid ha
  clear ha h hn
  go_enter Tryd.func8, Tryd.ntmps8
  go_wp2_with fail
  refine (CK.out _ HA.out).mono ?_; rintro e w' ⟨rfl, rfl⟩
  go_wp2_with fail
  go_ret2
  exact ⟨rfl, Kp.rfl' _⟩

set_option maxRecDepth 100000 in
set_option maxHeartbeats 1600000 in
theorem Trace_ok (A : Option Addr) (f : Nat → Nat → Fp.F) (n d : Nat) (w : World) (ha : LiesM w A (Mx.matl n n f)) (h0 : 0 < n) (hn : n ≤ 5) :
    Calls Tryd.prog 8 #[.slice A n d] w fun e w' => e = .returned (.tuple #[.int .i64 ((Mx.sg n fun i => f i i).val : Int), .nilIface]) ∧ Kp w w' := by
  have CK := Lib.hid (fun w (ha : LiesM w A (Mx.matl n n f)) => DChk_any A (Mx.matl n n f) n d w ha (Mx.len_matl _ _ _))
  rw [qcode_matl f h0 hn, errOf_zero] at CK
  have HA := Lib.hid ha
  clear ha h0
  go_enter Tryd.func8, Tryd.ntmps8
  go_wp2_with fail
  refine (CK.out _ HA.out).mono ?_; rintro e w' ⟨rfl, rfl⟩
  go_wp2_with fail
  go_loop [5, 6, 7, 15] (fun s _ _ i => ∃ (k : Nat) (z : Int), k ≤ n ∧ i = .int .i64 (k : Int) ∧ s = .int .i64 z ∧ 0 ≤ z ∧ z ≤ 9972 * k ∧ Fp.ofInt z = Mx.sg k fun i => f i i) (fun _ _ _ i => n - (intOf i).toNat)
  case atStart => exact ⟨0, 0, Nat.zero_le _, rfl, rfl, by omega, by omega, rfl⟩
  case round =>
    obtain ⟨k, z, hk, rfl, rfl, z0, z1, hz⟩ := hrel
    have HZ := Lib.hid hz
    clear hz
    by_cases hlt : k < n
    · obtain ⟨ad, A1, d1, rfl, _, x1, _, l1⟩ := HA.out.row hlt
      obtain ⟨bd, rfl, _, x2⟩ := l1.el hlt
      have hb := cval (f k k)
      have HF := Lib.hid (show Fp.ofInt (z + ((f k k).val : Int)) = Mx.sg (k + 1) fun i => f i i by rw [Fp.ofInt_add, HZ.out, Fp.ofInt_self, Mx.sg_succ])
      generalize ((f k k).val : Int) = v at *
      have hw : IntKind.i64.wrap (z + v) = z + v := IntWalk.i64_in _ (by omega)
      clear l1
      go_wp2_with fail
      go_round
      case rel => exact ⟨k + 1, z + v, by omega, by go_num, rfl, by omega, by omega, HF.out⟩
      case measure => simp [intOf]; omega
    · obtain rfl : k = n := by omega
      have HM := Lib.hid (show z % 9973 = ((Mx.sg k fun i => f i i).val : Int) by rw [← HZ.out, Fp.ofInt_val])
      go_wp2_with fail
      go_ret2
      refine ⟨?_, Kp.rfl' _⟩
      show Ending.returned (.tuple #[.int .i64 (z % 9973), .nilIface]) = _
      rw [HM.out]

theorem COf_bad (A : Option Addr) (m : List (List Int)) (n d : Nat) (w : World) (ha : LiesM w A m) (hn : m.length = n) (h : qcode 5 0 9972 m ≠ 0) :
    Calls Tryd.prog 10 #[.slice A n d] w fun e w' => Fails (qcode 5 0 9972 m) w e w' := by
  have CK := Lib.hid (fun w (ha : LiesM w A m) => DChk_any A m n d w ha hn)
  unfold Fails
  rw [errOf_ne _ h] at CK ⊢
  generalize qcode 5 0 9972 m = z at *
  have HA := Lib.hid ha
  clear ha h hn
  go_enter Tryd.func10, Tryd.ntmps10
  go_wp2_with fail
  refine (CK.out _ HA.out).mono ?_; rintro e w' ⟨rfl, rfl⟩
  go_wp2_with fail
  go_ret2
  exact ⟨rfl, Kp.rfl' _⟩

theorem vals_snoc (p : List Fp.F) (a : Fp.F) : Pol.vals (p ++ [a]) = Pol.vals p ++ [(a.val : Int)] := by simp [Pol.vals]

set_option maxRecDepth 100000 in
set_option maxHeartbeats 3200000 in
theorem COf_ok (A : Option Addr) (f : Nat → Nat → Fp.F) (n d : Nat) (w : World) (ha : LiesM w A (Mx.matl n n f)) (h0 : 0 < n) (hn : n ≤ 5) :
    Calls Tryd.prog 10 #[.slice A n d] w fun e w' => Gives (Mx.chl n f) w e w' := by
  have CK := Lib.hid (fun w (ha : LiesM w A (Mx.matl n n f)) => DChk_any A (Mx.matl n n f) n d w ha (Mx.len_matl _ _ _))
  rw [qcode_matl f h0 hn, errOf_zero] at CK
  have HA := Lib.hid ha
  have DI := Lib.hid (fun (x : Nat) (hx : x ≤ 5) w1 (k : Kp w w1) => difference_any A f n d x w1 (ha.keep k) hn hx)
  have OF := Lib.hid (fun (x g : Nat) w1 h => Of_ok (some ⟨g, 0, none⟩) (Mx.chm f (Fp.ofInt (x : Int))) n n w1 h h0 hn)
  have TH := Lib.hid (fun (X Y : Option Addr) (c1 c2 : Nat) w1 h1 h2 (hc : n + 1 ≤ c1) => through_ok X Y (Mx.upto (n + 1)) (Mx.cdet n f (n + 1)) (n + 1) c1 c2 w1 h1 h2 (Mx.len_upto _).symm (Mx.len_cdet _ _ _).symm (by omega) hc (Mx.upto_apart (Nat.le_refl _) (by omega)))
  rw [Mx.thr_chl (by omega)] at TH
  clear ha h0
  go_enter Tryd.func10, Tryd.ntmps10
  go_wp2_with fail
  refine (CK.out _ HA.out).mono ?_; rintro e w' ⟨rfl, rfl⟩
  have hwn : IntKind.i64.wrap ((n : Int) + 1) = (n : Int) + 1 := IntWalk.i64_in _ (by omega)
  go_wp2_with fail
  go_loopw [2, 3, 5, 6, 7, 8, 9, 18] (fun _ _ V1 V2 _ _ _ i wr => ∃ k : Nat, k ≤ n + 1 ∧ i = .int .i64 (k : Int) ∧ Two w V1 V2 (Pol.vals (Mx.upto k)) (Pol.vals (Mx.cdet n f k)) wr) (fun _ _ _ _ _ _ _ i _ => n + 1 - (intOf i).toNat)
  case atStart => exact ⟨0, Nat.zero_le _, rfl, ⟨Own.none _ _, Own.none _ _, fun g e => (by cases e), Kp.rfl' _⟩⟩
  case round =>
    obtain ⟨k, hk, rfl, ht⟩ := hrel
    have HT := Lib.hid ht
    clear ht
    by_cases hlt : k < n + 1
    · have hlt' : (k : Int) < (n : Int) + 1 := by omega
      have DI1 := Lib.hid (DI.out k (by omega) wr HT.out.kp)
      have HR1 := Lib.hid (show Pol.vals (Mx.upto (k + 1)) = Pol.vals (Mx.upto k) ++ [(k : Int)] by rw [Mx.upto_succ, vals_snoc, Fp.ofInt_of _ (by omega) (by omega)])
      obtain ⟨y, hy⟩ : ∃ y, y = ((Mx.dt n (Mx.chm f (Fp.ofInt (k : Int)))).val : Int) := ⟨_, rfl⟩
      have HR2 := Lib.hid (show Pol.vals (Mx.cdet n f (k + 1)) = Pol.vals (Mx.cdet n f k) ++ [y] by rw [Mx.cdet_succ, vals_snoc, hy])
      have OF1 := Lib.hid (OF.out k)
      rw [← hy] at OF1
      have hl1 : (Pol.vals (Mx.upto k)).length + 1 ≤ 17000000000000 := by rw [Pol.len_vals, Mx.len_upto]; omega
      have hl2 : (Pol.vals (Mx.cdet n f k)).length + 1 ≤ 17000000000000 := by rw [Pol.len_vals, Mx.len_cdet]; omega
      have HL1 := Lib.hid hl1
      have HL2 := Lib.hid hl2
      obtain ⟨r1, hr1⟩ : ∃ r, r = Pol.vals (Mx.upto k) := ⟨_, rfl⟩
      obtain ⟨r2, hr2⟩ : ∃ r, r = Pol.vals (Mx.cdet n f k) := ⟨_, rfl⟩
      rw [← hr1] at HT HR1 HL1
      rw [← hr2] at HT HR2 HL2
      clear hl1 hl2 hr1 hr2 hy
      go_wp2_with fail
      refine (DI1.out).mono ?_; rintro e w1 ⟨g, rfl, hl, k1⟩
      have HLx := Lib.hid hl
      have HT1 := Lib.hid (show Two w _ _ r1 r2 w1 from ⟨HT.out.one.kp k1, HT.out.two.kp k1, HT.out.apart, HT.out.kp.trans k1⟩)
      clear hl k1 HT DI1
      go_wp2_with fail
      refine (OF1.out g w1 HLx.out).mono ?_; rintro e w2 ⟨rfl, k2⟩
      have HT2 := Lib.hid (show Two w _ _ r1 r2 w2 from ⟨HT1.out.one.kp k2, HT1.out.two.kp k2, HT1.out.apart, HT1.out.kp.trans k2⟩)
      have hs2 := HT2.out.kp.size
      clear k2 HT1 HLx OF1
      go_wp2_with (first
        | (at_builtin; refine wpList_push rfl _ _ rfl w.heap.size _ r1 (k : Int) w2.heap.size 1 rfl rfl (HT2.out.one.new _) (by simp) HL1.out (by simp; omega) ?_; intro v3 w3 h1 h2 h3; have TW := Lib.hid ((HT2.out.new _).grown h1 h2 h3); have hs3 := TW.out.kp.size; clear h1 h2 h3)
        | (at_builtin; refine wpList_push rfl _ _ rfl w.heap.size _ r2 y w3.heap.size 1 rfl rfl (TW.out.two.new _) (by simp) HL2.out (by simp; omega) ?_; intro v4 w4 h1 h2 h3; have TZ := Lib.hid (((TW.out.symm).new _).grown h1 h2 h3).symm; clear h1 h2 h3))
      go_roundw
      case rel => exact ⟨k + 1, by omega, by go_num, by rw [HR1.out, HR2.out]; exact TZ.out⟩
      case measure => simp [intOf]; omega
    · obtain rfl : k = n + 1 := by omega
      obtain ⟨g1, c1, e1, _, hc1⟩ := own_some HT.out.one (by rw [Pol.len_vals, Mx.len_upto]; omega)
      obtain ⟨X, _, e1', L1⟩ := HT.out.one.lies
      obtain ⟨Y, c2, e2, L2⟩ := HT.out.two.lies
      rw [Pol.len_vals, Mx.len_upto] at e1 hc1 e1'
      rw [Pol.len_vals, Mx.len_cdet] at e2
      rw [e1] at e1'
      cases e1'
      subst e1 e2
      have hlt' : ¬ (((n + 1 : Nat) : Int) < (n : Int) + 1) := by omega
      have K3 := Lib.hid HT.out.kp
      have T1 := Lib.hid (TH.out _ Y c1 c2 wr L1 L2 hc1)
      clear HT L1 L2
      go_wp2_with fail
      refine (T1.out).mono ?_; rintro e w2 ⟨Z, cz, rfl, hz, hcz, k2⟩
      have HZ := Lib.hid hz
      have HCZ := Lib.hid hcz
      have K4 := Lib.hid (K3.out.trans k2)
      clear hz hcz k2 K3
      go_wp2_with fail
      go_ret2
      exact ⟨Z, cz, rfl, HZ.out, HCZ.out, K4.out⟩
end Go.Proofs.YtologiinkilooaaDoor

/- Comparing rows and matrices, small matrices just laid down: for all packages. -/
namespace Go.Proofs.YtologiinkilooaaDoor
open Go.ChangeShapes Go.WideShapes Go.ChangeAt Go.RowKit
set_option linter.unusedVariables false

set_option maxHeartbeats 1600000 in
theorem ints_drew (A B : Option Addr) (l m : List Int) (c d : Nat) (w : World) (ha : Lies w A l) (hb : Lies w B m) (hn : l.length ≤ 1000000) (hm : m.length ≤ 1000000) :
    Calls Tryd.prog 11 #[.slice A l.length c, .slice B m.length d] w fun e w' => Tells (l = m) e ∧ Drew w w' := by
  have HA := Lib.hid ha
  have HB := Lib.hid hb
  obtain ⟨n, hn'⟩ : ∃ n, n = l.length := ⟨_, rfl⟩
  obtain ⟨q, hq'⟩ : ∃ q, q = m.length := ⟨_, rfl⟩
  rw [← hn'] at hn ⊢
  rw [← hq'] at hm ⊢
  have HN := Lib.hid hn'
  have HQ := Lib.hid hq'
  clear ha hb hn' hq'
  by_cases he : n = q
  · subst he
    have hne : ((n : Int) != (n : Int)) = false := by simp
    go_enter Tryd.func11, Tryd.ntmps11
    go_wp2_with fail
    go_loopw [5] (fun i wr => ∃ k : Nat, k ≤ n ∧ i = .int .i64 (k : Int) ∧ (∀ j, j < k → l.getD j 0 = m.getD j 0) ∧ Drew w wr) (fun i _ => n - (intOf i).toNat)
    case atStart => exact ⟨0, Nat.zero_le _, rfl, fun j hj => absurd hj (by omega), Drew.refl _⟩
    case round =>
      obtain ⟨k, hk, rfl, hg, hkp⟩ := hrel
      have HG := Lib.hid hg
      have HK := Lib.hid hkp
      clear hg hkp
      by_cases hlt : k < n
      · obtain ⟨ad, rfl, _, hc⟩ := (HA.out.keep HK.out.kp) k (by have := HN.out; omega)
        obtain ⟨bd, rfl, _, hd⟩ := (HB.out.keep HK.out.kp) k (by have := HQ.out; omega)
        obtain ⟨x, hx⟩ : ∃ x, x = l.getD k 0 := ⟨_, rfl⟩
        obtain ⟨y, hy⟩ : ∃ y, y = m.getD k 0 := ⟨_, rfl⟩
        rw [← hx] at hc
        rw [← hy] at hd
        by_cases hxy : x = y
        · have GG := Lib.hid (show ∀ j, j < k + 1 → l.getD j 0 = m.getD j 0 from fun j hj => by
            by_cases e : j = k
            · subst e; rw [← hx, ← hy]; exact hxy
            · exact HG.out j (by omega))
          have hb : (x != y) = false := by rw [hxy]; simp
          clear hx hy hxy
          go_wp2_with fail
          go_quiet (fail)
          go_wp2_with fail
          go_roundw
          case rel => exact ⟨k + 1, by omega, by go_num, GG.out, HK.out.more _⟩
          case measure => simp [intOf]; omega
        · have NF := Lib.hid (show ¬ l = m from fun e => hxy (by rw [hx, hy, e]))
          have hb : (x != y) = true := by rw [bne_iff_ne]; exact hxy
          clear hx hy hxy
          go_wp2_with fail
          go_quiet (fail)
          go_wp2_with fail
          go_ret
          exact ⟨.inr ⟨NF.out, rfl⟩, HK.out.more _⟩
      · have YES := Lib.hid (show l = m from list_same l m (by rw [← HN.out, ← HQ.out]) fun j hj => HG.out j (by have := HN.out; omega))
        go_wp2_with fail
        go_ret
        exact ⟨.inl ⟨YES.out, rfl⟩, HK.out⟩
  · have hne : ((n : Int) != (q : Int)) = true := by rw [bne_iff_ne]; omega
    have NF := Lib.hid (show ¬ l = m from fun e => he (by rw [HN.out, HQ.out, e]))
    clear he
    go_enter Tryd.func11, Tryd.ntmps11
    go_wp2_with fail
    go_ret
    exact ⟨.inr ⟨NF.out, rfl⟩, Drew.refl _⟩
theorem rows_same (a b : List (List Int)) (h : a.length = b.length) (h2 : ∀ k, k < a.length → a.getD k [] = b.getD k []) : a = b := by
  refine List.ext_getElem h fun k h3 h4 => ?_
  have := h2 k h3
  rwa [List.getD_eq_getElem?_getD, List.getD_eq_getElem?_getD, List.getElem?_eq_getElem h3, List.getElem?_eq_getElem h4] at this

/-- No row is longer than a slice may be. -/
def Modest (m : List (List Int)) : Prop := m.length ≤ 1000000 ∧ ∀ k, k < m.length → (m.getD k []).length ≤ 1000000
theorem modest_tab {r c : Nat} (g : Nat → Nat → Int) (hr : r ≤ 1000000) (hc : c ≤ 1000000) : Modest (Mx.tab r c g) :=
  ⟨by rw [Mx.len_tab]; exact hr, fun k hk => by rw [Mx.len_tab] at hk; rw [Mx.tab_len _ _ _ _ hk]; exact hc⟩
theorem modest_nil : Modest [] := ⟨by decide, fun k hk => absurd hk (by simp)⟩


theorem cell_just (w : World) (cs : Array Value) (e : TypeId) (g k : Nat) (h : g = w.heap.size) : (w.alloc (.cells cs e)).cell? ⟨g, k, none⟩ = cs[k]? := by
  subst h
  exact cell_of_row _ _ k _ e (0, 0) (heap_alloc_new w _)
/-- What came in: the rows up to the capacity, each with its numbers up to its own; its rows are the first of them. -/
theorem liesM_open {w : World} {a : Addr} {len cap : Nat} {A : Nat → Option Addr} {L C : Nat → Nat} {Z : Nat → List Int} (hl : len ≤ cap)
    (h : ∀ r, r < cap → w.cell? (a.add r) = some (.slice (A r) (L r) (C r)) ∧ L r ≤ C r ∧ C r ≤ maxLen ∧ (Z r).length = C r ∧ (∀ n ∈ Z r, (Lit.int .i64 n).wf = true) ∧ (A r = none → C r = 0) ∧
      ∀ a', A r = some a' → 0 ≤ a'.block ∧ ∀ c, c < C r → w.cell? (a'.add c) = some (.int .i64 ((Z r).getD c 0))) :
    ((List.range len).map fun r => (Z r).take (L r)).length = len ∧ LiesM w (some a) ((List.range len).map fun r => (Z r).take (L r)) := by
  refine ⟨by simp, fun k hk => ?_⟩
  have hk' : k < len := by simpa using hk
  obtain ⟨h1, h2, _, h4, _, h6, h7⟩ := h k (by omega)
  have e : ((List.range len).map fun r => (Z r).take (L r)).getD k [] = (Z k).take (L k) := by simp [hk']
  have el : ((Z k).take (L k)).length = L k := by rw [List.length_take]; omega
  rw [e, el]
  refine ⟨a, A k, C k, rfl, ?_, h1, h2, ?_⟩
  · have := cell_lt h1; rwa [block_add] at this
  · cases hA : A k with
    | none =>
      intro j hj
      have := h6 hA
      rw [el] at hj
      omega
    | some a' => exact (lies_take (w := w) (x := a') h2 h4 (fun i hi => (h7 a' hA).2 i (by omega))).2
/-- Two rows of two, and the heads of both, just laid down. -/
def laid22 (w : World) (x : Nat → Nat → Int) : World :=
  ((w.alloc (.cells #[.int .i64 (x 0 0), .int .i64 (x 0 1)] 3)).alloc (.cells #[.int .i64 (x 1 0), .int .i64 (x 1 1)] 3)).alloc (.cells #[.slice (some ⟨w.heap.size, 0, none⟩) 2 2, .slice (some ⟨w.heap.size + 1, 0, none⟩) 2 2] 24)
theorem laid22_kp (w : World) (x : Nat → Nat → Int) : Kp w (laid22 w x) := (((Kp.rfl' w).new _).new _).new _
theorem laid22_size (w : World) (x : Nat → Nat → Int) : (laid22 w x).heap.size = w.heap.size + 3 := by simp [laid22]
theorem laid22_lies (w : World) (x : Nat → Nat → Int) : LiesM (laid22 w x) (some ⟨w.heap.size + 2, 0, none⟩) (Mx.tab 2 2 x) := by
  have h0 : Lies (w.alloc (.cells #[.int .i64 (x 0 0), .int .i64 (x 0 1)] 3)) (some ⟨w.heap.size, 0, none⟩) (Mx.row 2 (x 0)) := lies_new' w _ [x 0 0, x 0 1] _ rfl
  have h1 : Lies ((w.alloc (.cells #[.int .i64 (x 0 0), .int .i64 (x 0 1)] 3)).alloc (.cells #[.int .i64 (x 1 0), .int .i64 (x 1 1)] 3)) (some ⟨w.heap.size + 1, 0, none⟩) (Mx.row 2 (x 1)) :=
    lies_new' (w.alloc _) _ [x 1 0, x 1 1] _ (by simp)
  have k2 := ((Kp.rfl' (w.alloc (.cells #[.int .i64 (x 0 0), .int .i64 (x 0 1)] 3))).new (.cells #[.int .i64 (x 1 0), .int .i64 (x 1 1)] 3)).new (.cells #[.slice (some ⟨w.heap.size, 0, none⟩) 2 2, .slice (some ⟨w.heap.size + 1, 0, none⟩) 2 2] 24)
  have k3 := (Kp.rfl' ((w.alloc (.cells #[.int .i64 (x 0 0), .int .i64 (x 0 1)] 3)).alloc (.cells #[.int .i64 (x 1 0), .int .i64 (x 1 1)] 3))).new (.cells #[.slice (some ⟨w.heap.size, 0, none⟩) 2 2, .slice (some ⟨w.heap.size + 1, 0, none⟩) 2 2] 24)
  have hs : w.heap.size + 2 < (laid22 w x).heap.size := by rw [laid22_size]; omega
  intro k hk
  rw [Mx.len_tab] at hk
  match k, hk with
  | 0, _ => exact ⟨_, some ⟨w.heap.size, 0, none⟩, 2, rfl, hs, by rw [add_at]; unfold laid22; rw [cell_just _ _ _ _ _ (by simp)]; simp [Mx.tab, Mx.row], by simp [Mx.tab, Mx.row], h0.keep k2⟩
  | 1, _ => exact ⟨_, some ⟨w.heap.size + 1, 0, none⟩, 2, rfl, hs, by rw [add_at]; unfold laid22; rw [cell_just _ _ _ _ _ (by simp)]; simp [Mx.tab, Mx.row], by simp [Mx.tab, Mx.row], h1.keep k3⟩

def n22 (a b c d : Int) : Nat → Nat → Int := fun i j => if i = 0 then (if j = 0 then a else b) else (if j = 0 then c else d)
/-- The same with the numbers and the block as they stand in a walk. -/
abbrev lit22 (w : World) (g : Nat) (a b c d : Int) : World :=
  ((w.alloc (.cells #[.int .i64 a, .int .i64 b] 3)).alloc (.cells #[.int .i64 c, .int .i64 d] 3)).alloc (.cells #[.slice (some ⟨g, 0, none⟩) 2 2, .slice (some ⟨g + 1, 0, none⟩) 2 2] 24)
theorem lit22_lies (w : World) (g : Nat) (a b c d : Int) (h : g = w.heap.size) : LiesM (lit22 w g a b c d) (some ⟨g + 1 + 1, 0, none⟩) (Mx.tab 2 2 (n22 a b c d)) := by
  subst h
  exact laid22_lies w (n22 a b c d)
theorem lit22_kp (w : World) (g : Nat) (a b c d : Int) : Kp w (lit22 w g a b c d) := (((Kp.rfl' w).new _).new _).new _
theorem lit22_size (w : World) (g : Nat) (a b c d : Int) : (lit22 w g a b c d).heap.size = w.heap.size + 1 + 1 + 1 := by simp [lit22]

end Go.Proofs.YtologiinkilooaaDoor

/- Good matrices, as package mat wants them. For all packages on matrices. -/
namespace Go.Proofs.YtologiinkilooaaDoor
set_option linter.unusedVariables false

def f22 (a b c d : Fp.F) : Nat → Nat → Fp.F := fun i j => if i = 0 then (if j = 0 then a else b) else (if j = 0 then c else d)
/-- A matrix of r rows and c columns, as package mat wants it. -/
structure Sh (r c : Nat) (f : Nat → Nat → Fp.F) (m : List (List Int)) : Prop where
  eq : m = Mx.matl r c f
  r0 : 0 < r
  r5 : r ≤ 5
  c0 : 0 < c
  c5 : c ≤ 5
theorem Sh.len {r c : Nat} {f : Nat → Nat → Fp.F} {m : List (List Int)} (h : Sh r c f m) : m.length = r := by rw [h.eq, Mx.len_matl]
theorem Sh.mat {r c : Nat} {f : Nat → Nat → Fp.F} {m : List (List Int)} (h : Sh r c f m) : Sh r c f (Mx.matl r c f) := ⟨rfl, h.r0, h.r5, h.c0, h.c5⟩
theorem sh_or (m : List (List Int)) : (Mx.mcode 5 0 9972 m = 0 ∧ ∃ r c f, Sh r c f m) ∨ Mx.mcode 5 0 9972 m ≠ 0 := by
  by_cases h : Mx.mcode 5 0 9972 m = 0
  · obtain ⟨r, c, f, e, h1, h2, h3, h4⟩ := Mx.mcode_zero h
    exact .inl ⟨h, r, c, f, ⟨e, h1, h2, h3, h4⟩⟩
  · exact .inr h
theorem Sh.code {r c : Nat} {f : Nat → Nat → Fp.F} {m : List (List Int)} (h : Sh r c f m) : Mx.mcode 5 0 9972 m = 0 := by
  rw [h.eq]; exact Mx.mcode_matl f h.r0 h.r5 h.c0 h.c5

theorem Sh.mul {r q k : Nat} {f f' : Nat → Nat → Fp.F} {a b : List (List Int)} (sa : Sh r q f a) (sb : Sh q k f' b) : Sh r k (Mx.mul q f f') (Mx.matl r k (Mx.mul q f f')) := ⟨rfl, sa.r0, sa.r5, sb.c0, sb.c5⟩
theorem Sh.flip {r q : Nat} {f : Nat → Nat → Fp.F} {a : List (List Int)} (sa : Sh r q f a) : Sh q r (Mx.flip f) (Mx.matl q r (Mx.flip f)) := ⟨rfl, sa.c0, sa.c5, sa.r0, sa.r5⟩
theorem Sh.plus {r q : Nat} {f f' : Nat → Nat → Fp.F} {a : List (List Int)} (sa : Sh r q f a) : Sh r q (Mx.plus f f') (Mx.matl r q (Mx.plus f f')) := ⟨rfl, sa.r0, sa.r5, sa.c0, sa.c5⟩
theorem Sh.pow {r : Nat} {f : Nat → Nat → Fp.F} {a : List (List Int)} (sa : Sh r r f a) (k : Nat) : Sh r r (Mx.pwm r f k) (Mx.matl r r (Mx.pwm r f k)) := ⟨rfl, sa.r0, sa.r5, sa.c0, sa.c5⟩
theorem Sh.one {r q : Nat} {f : Nat → Nat → Fp.F} {a : List (List Int)} (sa : Sh r q f a) : Sh r r Mx.one (Mx.matl r r Mx.one) := ⟨rfl, sa.r0, sa.r5, sa.r0, sa.r5⟩
theorem Sh.modest {r q : Nat} {f : Nat → Nat → Fp.F} {a : List (List Int)} (sa : Sh r q f a) : Modest a := by
  rw [sa.eq]; exact modest_tab _ (Nat.le_trans sa.r5 (by decide)) (Nat.le_trans sa.c5 (by decide))

end Go.Proofs.YtologiinkilooaaDoor

/- What det says of whatever comes in; its closed fact. -/
namespace Go.Proofs.YtologiinkilooaaDoor
open Go.ChangeShapes Go.WideShapes Go.ChangeAt Go.RowKit
set_option linter.unusedVariables false

theorem sq_or (m : List (List Int)) {n : Nat} (hn : m.length = n) : (∃ f, Sh n n f m) ∨ qcode 5 0 9972 m ≠ 0 := by
  by_cases h : qcode 5 0 9972 m = 0
  · obtain ⟨h1, h2⟩ := qcode_zero h
    obtain ⟨r, c, f, e, r0, r5, c0, c5⟩ := Mx.mcode_zero h1
    have hr : r = n := by rw [← hn, e, Mx.len_matl]
    have hc : c = n := by
      rw [e, Mx.len_matl] at h2
      rw [← hr, h2]
      exact (Mx.tab_len r c _ 0 r0).symm
    subst hr hc
    exact .inl ⟨f, e, r0, r5, c0, c5⟩
  · exact .inr h
theorem Sh.code2 {n : Nat} {f : Nat → Nat → Fp.F} {m : List (List Int)} (h : Sh n n f m) : qcode 5 0 9972 m = 0 := by
  rw [h.eq]; exact qcode_matl f h.r0 h.r5

theorem Of_or (A : Option Addr) (m : List (List Int)) (n d : Nat) (hn : m.length = n) :
    (∃ f, Sh n n f m) ∨ ∀ (w : World), LiesM w A m → Calls Tryd.prog 19 #[.slice A n d] w fun e w' => ∃ z : Nat, e = .returned (.tuple #[.int .i64 0, .iface 43 (.int .i64 (z : Int))]) ∧ Kp w w' := by
  rcases sq_or m hn with h | h
  · exact .inl h
  · exact .inr fun w ha => ((Of_bad A m n d w ha hn h).mono fun e w' h' => ⟨qcode 5 0 9972 m, by rw [h'.1, errOf_ne _ h], h'.2⟩)
theorem Of_sh {A : Option Addr} {m : List (List Int)} {n : Nat} {f : Nat → Nat → Fp.F} (s : Sh n n f m) (d : Nat) (w : World) (ha : LiesM w A m) :
    Calls Tryd.prog 19 #[.slice A n d] w fun e w' => e = .returned (.tuple #[.int .i64 ((Mx.dt n f).val : Int), .nilIface]) ∧ Kp w w' := by
  rw [s.eq] at ha
  exact Of_ok A f n d w ha s.r0 s.r5

def fdet : Nat → Nat → Fp.F := f22 1 2 3 4
theorem fdet_mat : Mx.tab 2 2 (n22 1 2 3 4) = Mx.matl 2 2 fdet := by decide +kernel
theorem fdet_val : ((Mx.dt 2 fdet).val : Int) = 9971 := by decide +kernel
theorem sp_10 : Mx.sp 2 (fun i => [(1 : Int), 0].getD i 0) = -1 := by decide +kernel
theorem sp_11 : Mx.sp 2 (fun i => [(1 : Int), 1].getD i 0) = 0 := by decide +kernel


end Go.Proofs.YtologiinkilooaaDoor

/- What the laws on package charpoly share: the closed fact, the cases, what a row of factors holds. -/
namespace Go.Proofs.YtologiinkilooaaDoor
open Go.ChangeShapes Go.WideShapes Go.ChangeAt Go.RowKit
set_option linter.unusedVariables false

theorem minus_mod (d : Fp.F) : (-(d.val : Int)) % 9973 = ((-d : Fp.F).val : Int) := by
  rw [← Fp.ofInt_val]
  congr 2
  have h2 := Fp.ofInt_add (-(d.val : Int)) (d.val : Int)
  rw [Fp.ofInt_self, show -(d.val : Int) + (d.val : Int) = 0 by omega, show Fp.ofInt 0 = 0 from by decide] at h2
  grind
theorem val_mod (d : Fp.F) : (d.val : Int) % 9973 = (d.val : Int) := by have := d.isLt; omega
theorem vals_el {w : World} {A : Option Addr} {p : List Fp.F} (h : Lies w A (Pol.vals p)) {k : Nat} (hk : k < p.length) : ∃ ad, A = some ad ∧ ad.block < w.heap.size ∧ w.cell? (ad.add k) = some (.int .i64 ((Pol.co p k).val : Int)) := by
  obtain ⟨ad, e, hl, hc⟩ := h k (by rw [Pol.len_vals]; exact hk)
  rw [Pol.vals_at] at hc
  exact ⟨ad, e, hl, hc⟩
theorem chl_el {w : World} {A : Option Addr} {n : Nat} {f : Nat → Nat → Fp.F} (h : Lies w A (Pol.vals (Mx.chl n f))) {k : Nat} (hk : k ≤ n) : ∃ ad, A = some ad ∧ ad.block < w.heap.size ∧ w.cell? (ad.add k) = some (.int .i64 ((Mx.ch n f k).val : Int)) := by
  obtain ⟨ad, e, hl, hc⟩ := vals_el h (k := k) (by rw [Mx.len_chl]; omega)
  rw [Mx.co_chl f hk] at hc
  exact ⟨ad, e, hl, hc⟩

/-- A row of factors is the answer. -/
def GivesCh (n : Nat) (f : Nat → Nat → Fp.F) (w : World) (e : Ending) (w' : World) : Prop :=
  ∃ A c, e = .returned (.tuple #[.slice A (n + 1) c, .nilIface]) ∧ Lies w' A (Pol.vals (Mx.chl n f)) ∧ n + 1 ≤ c ∧ Kp w w'

theorem COf_or (A : Option Addr) (m : List (List Int)) (n d : Nat) (hn : m.length = n) :
    (∃ f, Sh n n f m) ∨ ∀ (w : World), LiesM w A m → Calls Tryd.prog 10 #[.slice A n d] w fun e w' => ∃ z : Nat, e = .returned (.tuple #[.slice none 0 0, .iface 43 (.int .i64 (z : Int))]) ∧ Kp w w' := by
  rcases sq_or m hn with h | h
  · exact .inl h
  · exact .inr fun w ha => ((COf_bad A m n d w ha hn h).mono fun e w' h' => ⟨qcode 5 0 9972 m, by rw [h'.1, errOf_ne _ h], h'.2⟩)
theorem COf_sh {A : Option Addr} {m : List (List Int)} {n : Nat} {f : Nat → Nat → Fp.F} (s : Sh n n f m) (d : Nat) (w : World) (ha : LiesM w A m) :
    Calls Tryd.prog 10 #[.slice A n d] w fun e w' => GivesCh n f w e w' := by
  rw [s.eq] at ha
  refine (COf_ok A f n d w ha s.r0 s.r5).mono fun e w' h => ?_
  unfold Gives at h
  rw [Mx.len_chl] at h
  exact h
theorem Trace_sh {A : Option Addr} {m : List (List Int)} {n : Nat} {f : Nat → Nat → Fp.F} (s : Sh n n f m) (d : Nat) (w : World) (ha : LiesM w A m) :
    Calls Tryd.prog 8 #[.slice A n d] w fun e w' => e = .returned (.tuple #[.int .i64 ((Mx.sg n fun i => f i i).val : Int), .nilIface]) ∧ Kp w w' := by
  rw [s.eq] at ha
  exact Trace_ok A f n d w ha s.r0 s.r5
theorem Trace_or (A : Option Addr) (m : List (List Int)) (n d : Nat) (hn : m.length = n) :
    (∃ f, Sh n n f m) ∨ ∀ (w : World), LiesM w A m → Calls Tryd.prog 8 #[.slice A n d] w fun e w' => ∃ z : Nat, e = .returned (.tuple #[.int .i64 0, .iface 43 (.int .i64 (z : Int))]) ∧ Kp w w' := by
  rcases sq_or m hn with h | h
  · exact .inl h
  · exact .inr fun w ha => ((Trace_bad A m n d w ha hn h).mono fun e w' h' => ⟨qcode 5 0 9972 m, by rw [h'.1, errOf_ne _ h], h'.2⟩)

theorem fch_val : Pol.vals (Mx.chl 2 fdet) = [9971, 9968, 1] := by decide +kernel

set_option maxRecDepth 100000 in
set_option maxHeartbeats 1600000 in
theorem charFact_any (w : World) : Calls Tryd.prog 12 #[] w fun e w' => e = .returned (.bool true) ∧ Kp w w' := by
  have A1 : LiesM (lit22 w w.heap.size 1 2 3 4) (some ⟨w.heap.size + 1 + 1, 0, none⟩) (Mx.matl 2 2 fdet) := by
    rw [← fdet_mat]; exact lit22_lies w _ 1 2 3 4 rfl
  have O1 := Lib.hid (COf_ok _ fdet 2 2 _ A1 (by decide) (by decide))
  unfold Gives at O1
  rw [fch_val, Mx.len_chl] at O1
  clear A1
  go_enter Tryd.func12, Tryd.ntmps12
  go_wp2_with fail
  refine (O1.out).mono ?_; rintro e w1 ⟨Z, cz, rfl, hz, hcz, k1⟩
  have K1 := Lib.hid ((lit22_kp w w.heap.size 1 2 3 4).trans k1)
  have HZ := Lib.hid hz
  clear k1 O1 hz hcz
  go_wp2_with fail
  refine (same_eq Z _ _ _ 3 3 cz 3 _ (HZ.out.keep ((Kp.rfl' w1).new _)) (lies_new w1 3 [9971, 9968, 1]) rfl rfl (by decide) rfl).mono ?_; rintro e w2 ⟨rfl, k2⟩
  have K2 := Lib.hid ((K1.out.new _).trans k2)
  clear k2
  go_wp2_with fail
  go_ret
  exact ⟨rfl, K2.out⟩
end Go.Proofs.YtologiinkilooaaDoor

/- Contracts of the document's answer on matrices (package rankmereref1: Mod, Unit, Flip, Copy, MatMul, MatAdd, Matrix, Field). For all packages. -/
namespace Go.Proofs.YtologiinkilooaaDoor
open Go.ChangeShapes Go.WideShapes Go.ChangeAt Go.RowKit
set_option linter.unusedVariables false

theorem own_made {w : World} {base g n : Nat} (h : w.ownsRow base 3 1 (.slice (some ⟨g, 0, none⟩) n n) n (madeCells #[.int .i64 0] (n * 1)).toList) : Own w base (.slice (some ⟨g, 0, none⟩) n n) (Mx.row n fun _ => 0) := by
  unfold Own
  rw [Mx.len_row, ← Mx.row_rep]
  rw [toList_madeCells_one, Nat.mul_one] at h
  simpa [ints] using h
theorem rval (a : Fp.F) : 0 ≤ (a.val : Int) ∧ (a.val : Int) ≤ 9972 := by have := a.isLt; omega
theorem rprod (a b : Fp.F) : 0 ≤ (a.val : Int) * (b.val : Int) ∧ (a.val : Int) * (b.val : Int) ≤ 99440784 := by
  have h1 := rval a
  have h2 := rval b
  exact ⟨Int.mul_nonneg h1.1 h2.1, Int.mul_le_mul h1.2 h2.2 h2.1 (by decide)⟩
theorem rzero : ((0 : Fp.F).val : Int) = 0 := rfl

theorem rMod_any (n : Int) (w : World) (h1 : -1000000000000000 ≤ n) (h2 : n ≤ 1000000000000000) :
    Calls Tryd.prog 6 #[.int .i64 n] w fun e w' => e = .returned (.int .i64 (n % 9973)) ∧ w = w' := by
  obtain ⟨f1, f2⟩ := Num.tmod_fix n 9973 (by omega)
  obtain ⟨b2, b1⟩ := Num.tmod_bound n 9973 (by omega)
  have F1 := Lib.hid f1
  have F2 := Lib.hid f2
  clear f1 f2
  by_cases h : n.tmod 9973 < 0
  · go_enter Tryd.func6, Tryd.ntmps6
    go_wp2
    go_ret
    exact ⟨ret_int (F1.out h), rfl⟩
  · have h' : 0 ≤ n.tmod 9973 := by omega
    clear h
    go_enter Tryd.func6, Tryd.ntmps6
    go_wp2
    go_ret
    exact ⟨ret_int (F2.out h'), rfl⟩

/-- A matrix that the call made. -/
def Made (r c : Nat) (f : Nat → Nat → Fp.F) (w : World) (e : Ending) (w' : World) : Prop := ∃ A d, e = .returned (.slice A r d) ∧ LiesM w' A (Mx.matl r c f) ∧ Kp w w'
/-- The same, to be written to. -/
def MadeOwn (r c : Nat) (f : Nat → Nat → Fp.F) (w : World) (e : Ending) (w' : World) : Prop := ∃ v G C, e = .returned v ∧ OwnM w' w.heap.size v G C (Mx.matl r c f) ∧ Kp w w'



end Go.Proofs.YtologiinkilooaaDoor

/- Contracts of the document's answer on matrices, second part: Copy, MatMul, MatAdd, Matrix, Field. For all packages. -/
namespace Go.Proofs.YtologiinkilooaaDoor
open Go.ChangeShapes Go.WideShapes Go.ChangeAt Go.RowKit
set_option linter.unusedVariables false

/-- Where the heads lie. -/
theorem OwnM.some {w : World} {B : Nat} {v : Value} {G C : Nat → Nat} {m : List (List Int)} (h : OwnM w B v G C m) (h0 : 0 < m.length) : ∃ g c, v = .slice (.some ⟨g, 0, .none⟩) m.length c ∧ B ≤ g := by
  rcases h.top.2 with ⟨_, h1⟩ | ⟨g, cap, cur, e, hg, _⟩
  · omega
  · exact ⟨g, cap, e, hg⟩




end Go.Proofs.YtologiinkilooaaDoor

/- Contracts of the document's answer on matrices, third part: All, Matrix, Field. For all packages. -/
namespace Go.Proofs.YtologiinkilooaaDoor
open Go.ChangeShapes Go.WideShapes Go.ChangeAt Go.RowKit
set_option linter.unusedVariables false

/-- The first k rows have no fault. -/
def rowsUp (lo hi : Int) (m : List (List Int)) (k : Nat) : Prop := Mx.rows lo hi (m.getD 0 []).length m = Mx.rows lo hi (m.getD 0 []).length (m.drop k)
theorem rowsUp_go {lo hi : Int} {m : List (List Int)} {k : Nat} (hk : k < m.length) (h : rowsUp lo hi m k) (h0 : Mx.rcode lo hi (m.getD 0 []).length (m.getD k []) = 0) : rowsUp lo hi m (k + 1) := by
  unfold rowsUp at *
  rw [h, Mx.rows_drop hk, if_pos h0]

set_option maxRecDepth 100000 in
set_option maxHeartbeats 3200000 in
theorem rMatrix_main (A : Option Addr) (m : List (List Int)) (n d q most : Nat) (lo hi : Int) (w : World) (ha : LiesM w A m) (hn : m.length = n) (hq : (m.getD 0 []).length = q) (h1 : 0 < n) (h2 : n ≤ most) (h3 : 0 < q) (h4 : q ≤ most) (hmo : most ≤ 1000) :
    Calls Tryd.prog 15 #[.slice A n d, .int .i64 (most : Int), .int .i64 lo, .int .i64 hi] w fun e w' => e = .returned (.int .i64 (Mx.mcode most lo hi m : Int)) ∧ Drew w w' := by
  have hm : Mx.mcode most lo hi m = Mx.rows lo hi (m.getD 0 []).length m := by
    unfold Mx.mcode
    rw [if_neg (by omega), if_neg (by omega)]
  rw [hm]
  obtain ⟨v, hv⟩ : ∃ v, v = Mx.rows lo hi (m.getD 0 []).length m := ⟨_, rfl⟩
  have hg0 : rowsUp lo hi m 0 := by unfold rowsUp; rw [List.drop_zero]
  have RNG := Lib.hid (fun (k : Nat) (hk : k < n) (hg : rowsUp lo hi m k) (h0 : Mx.rcode lo hi q (m.getD k []) ≠ 0) => show v = Mx.rcode lo hi q (m.getD k []) by
    unfold rowsUp at hg
    rw [hv, hg, Mx.rows_drop (by omega), hq, if_neg h0])
  have OKS := Lib.hid (fun (hg : rowsUp lo hi m n) => show v = 0 by
    unfold rowsUp at hg
    rw [hv, hg, Mx.rows_end (by omega)])
  have STP := Lib.hid (fun (k : Nat) (hk : k < n) (hg : rowsUp lo hi m k) (h0 : Mx.rcode lo hi q (m.getD k []) = 0) => rowsUp_go (by omega) hg (by rw [hq]; exact h0))
  rw [← hv]
  obtain ⟨ad, A0, d0, rfl, hlt0, hc0, _, hr0⟩ := ha 0 (by omega)
  rw [hq] at hc0
  rw [add_zero'] at hc0
  have HA := Lib.hid ha
  have HN := Lib.hid hn
  have G0 := Lib.hid hg0
  have C0 := Lib.hid hc0
  have e0 : ((n : Int) == 0) = false := by rw [beq_eq_false_iff_ne]; omega
  have e1 : ((q : Int) == 0) = false := by rw [beq_eq_false_iff_ne]; omega
  have e2 : ¬ (most : Int) < n := by omega
  have e3 : ¬ (most : Int) < q := by omega
  clear ha hn hg0 hm hv hq hr0
  go_enter Tryd.func15, Tryd.ntmps15
  go_wp2_with fail
  clear hc0
  go_loopw [9] (fun i wr => ∃ k : Nat, k ≤ n ∧ i = .int .i64 (k : Int) ∧ rowsUp lo hi m k ∧ Drew w wr) (fun i _ => n - (intOf i).toNat)
  case atStart => exact ⟨0, Nat.zero_le _, rfl, G0.out, Drew.refl _⟩
  case round =>
    obtain ⟨k, hk, rfl, hg, hdr⟩ := hrel
    have HG := Lib.hid hg
    have HD := Lib.hid hdr
    have hc0 := (hdr.kp.cell (p := ad) hlt0).trans C0.out
    by_cases hlt : k < n
    · obtain ⟨ad', A1, d1, ea, _, hc1, _, hr1⟩ := (HA.out.keep hdr.kp) k (by have := HN.out; omega)
      obtain rfl := Option.some.inj ea
      have AL := Lib.hid (fun (wx : World) (hx : Kp wr wx) (hl : (m.getD k []).length ≤ 1000000) => all_any A1 (m.getD k []) d1 lo hi wx (hr1.keep hx) hl)
      obtain ⟨p, hp⟩ : ∃ p, p = (m.getD k []).length := ⟨_, rfl⟩
      rw [← hp] at hc1 AL
      clear hg hdr hr1
      by_cases hpq : p = q
      · subst hpq
        have e4 : ((p : Int) != (p : Int)) = false := by simp
        have ALL := Lib.hid (fun (wx : World) (hx : Kp wr wx) => AL.out wx hx (by omega))
        by_cases hin : AllIn (m.getD k []) lo hi
        · have ST := Lib.hid (STP.out k hlt HG.out (Mx.rcode_ok hp.symm (fun j hj => hin j hj)))
          have IN := Lib.hid hin
          clear hin hp AL
          go_wp2_with fail
          go_quiet (fail)
          go_wp2_with fail
          refine (ALL.out _ ((Kp.rfl' wr).drewN _)).mono ?_; rintro e w' ⟨ht, rfl⟩
          obtain rfl := tells_yes ht IN.out
          go_wp2_with fail
          go_roundw
          case rel => exact ⟨k + 1, by omega, by go_num, ST.out, HD.out.more _⟩
          case measure => simp [intOf]; omega
        · have EV := Lib.hid ((RNG.out k hlt HG.out (by rw [Mx.rcode_bad' hp.symm hin]; decide)).trans (Mx.rcode_bad' hp.symm hin))
          have NIN := Lib.hid hin
          clear hin hp AL
          go_wp2_with fail
          go_quiet (fail)
          go_wp2_with fail
          refine (ALL.out _ ((Kp.rfl' wr).drewN _)).mono ?_; rintro e w' ⟨ht, rfl⟩
          obtain rfl := tells_no ht NIN.out
          go_wp2_with fail
          go_ret
          exact ⟨by rw [EV.out]; rfl, HD.out.more _⟩
      · have e4 : ((p : Int) != (q : Int)) = true := by rw [bne_iff_ne]; omega
        have hne : (m.getD k []).length ≠ q := by omega
        have EV := Lib.hid ((RNG.out k hlt HG.out (by rw [Mx.rcode_len hne]; decide)).trans (Mx.rcode_len hne))
        clear hp hpq hne AL
        go_wp2_with fail
        go_quiet (fail)
        go_wp2_with fail
        go_ret
        exact ⟨by rw [EV.out]; rfl, HD.out.more _⟩
    · have EV := Lib.hid (OKS.out (by have h : k = n := by omega
                                      rw [← h]; exact HG.out))
      clear hg hdr
      go_wp2_with fail
      go_ret
      exact ⟨by rw [EV.out]; rfl, HD.out⟩

set_option maxHeartbeats 1600000 in
theorem rMatrix_any (A : Option Addr) (m : List (List Int)) (n d most : Nat) (lo hi : Int) (w : World) (ha : LiesM w A m) (hn : m.length = n) (hmo : most ≤ 1000) :
    Calls Tryd.prog 15 #[.slice A n d, .int .i64 (most : Int), .int .i64 lo, .int .i64 hi] w fun e w' => e = .returned (.int .i64 (Mx.mcode most lo hi m : Int)) ∧ Drew w w' := by
  by_cases h1 : n = 0
  · have hm : Mx.mcode most lo hi m = 5 := by unfold Mx.mcode; rw [if_pos (by omega)]
    rw [hm]
    subst h1
    clear hm ha hn
    go_enter Tryd.func15, Tryd.ntmps15
    go_wp2
    go_ret
    exact ⟨rfl, Drew.refl _⟩
  obtain ⟨ad, A0, d0, rfl, _, hc0, _, hr0⟩ := ha 0 (by omega)
  rw [add_zero'] at hc0
  obtain ⟨q, hq⟩ : ∃ q, q = (m.getD 0 []).length := ⟨_, rfl⟩
  rw [← hq] at hc0
  have e0 : ((n : Int) == 0) = false := by rw [beq_eq_false_iff_ne]; omega
  have hn0 : (0 : Int) < n := by omega
  by_cases h2 : q = 0
  · have hm : Mx.mcode most lo hi m = 5 := by unfold Mx.mcode; rw [if_pos (by omega)]
    rw [hm]
    subst h2
    clear hm ha hn hr0 h1 hq
    go_enter Tryd.func15, Tryd.ntmps15
    go_wp2
    go_ret
    exact ⟨rfl, Drew.refl _⟩
  have e1 : ((q : Int) == 0) = false := by rw [beq_eq_false_iff_ne]; omega
  by_cases h3 : most < n
  · have hm : Mx.mcode most lo hi m = 4 := by unfold Mx.mcode; rw [if_neg (by omega), if_pos (by omega)]
    rw [hm]
    have e3 : (most : Int) < n := by omega
    clear hm ha hn hr0 h1 hq h2 h3
    go_enter Tryd.func15, Tryd.ntmps15
    go_wp2
    go_ret
    exact ⟨rfl, Drew.refl _⟩
  by_cases h4 : most < q
  · have hm : Mx.mcode most lo hi m = 4 := by unfold Mx.mcode; rw [if_neg (by omega), if_pos (by omega)]
    rw [hm]
    have e3 : ¬ (most : Int) < n := by omega
    have e4 : (most : Int) < q := by omega
    clear hm ha hn hr0 h1 hq h2 h3 h4
    go_enter Tryd.func15, Tryd.ntmps15
    go_wp2
    go_ret
    exact ⟨rfl, Drew.refl _⟩
  exact rMatrix_main (some ad) m n d q most lo hi w ha hn hq.symm (by omega) (by omega) (by omega) (by omega) hmo


end Go.Proofs.YtologiinkilooaaDoor

/- Contracts of the document's answer on matrices, fourth part: Without, DetMod, Square. For all packages. -/
namespace Go.Proofs.YtologiinkilooaaDoor
open Go.ChangeShapes Go.WideShapes Go.ChangeAt Go.RowKit
set_option linter.unusedVariables false

theorem wo_del (f : Nat → Nat → Fp.F) (j : Nat) : wo f 0 j = Mx.del j f := by
  funext a b
  unfold wo Mx.del
  congr 1

set_option maxRecDepth 100000 in
set_option maxHeartbeats 6400000 in
theorem rWithout_any (A : Option Addr) (f : Nat → Nat → Fp.F) (p a b d : Nat) (w : World) (ha : LiesM w A (Mx.matl (p + 1) (p + 1) f)) (hpa : a ≤ p) (hpb : b ≤ p) (hp : p ≤ 1000) :
    Calls Tryd.prog 47 #[.slice A ((p + 1 : Nat) : Int).toNat d, .int .i64 (a : Int), .int .i64 (b : Int)] w fun e w' => Made p p (wo f a b) w e w' := by
  rw [Int.toNat_natCast]
  have HA := Lib.hid ha
  clear ha
  obtain ⟨n, hn⟩ : ∃ n, n = p + 1 := ⟨_, rfl⟩
  rw [← hn] at HA ⊢
  have HN := Lib.hid hn
  have hn1 : n ≤ 1001 := by omega
  clear hn
  go_enter Tryd.func47, Tryd.ntmps47
  go_wp2_with fail
  go_loopw [7, 8] (fun v i wr => ∃ (k : Nat) (G C : Nat → Nat), k ≤ n ∧ i = .int .i64 (k : Int) ∧ OwnM wr w.heap.size v G C (Mx.matl (ct a k) p (wo f a b)) ∧ Kp w wr) (fun _ i _ => n - (intOf i).toNat)
  case atStart => exact ⟨0, fun _ => 0, fun _ => 0, Nat.zero_le _, rfl, by rw [ct_zero]; exact ownM_none _ _ _ _, Kp.rfl' _⟩
  case round =>
    obtain ⟨k, G, C, hk, rfl, ho, hkp⟩ := hrel
    obtain ⟨wo', hwo⟩ : ∃ x, x = wr := ⟨_, rfl⟩
    subst hwo
    have HO := Lib.hid ho
    have HK := Lib.hid hkp
    clear ho hkp
    by_cases hlt : k < n
    · by_cases hka : k = a
      · subst hka
        have e1 : ((k : Int) == (k : Int)) = true := by simp
        have HC := Lib.hid (ct_skip k)
        go_wp2_with fail
        go_roundw
        case rel => exact ⟨k + 1, G, C, by omega, by go_num, by rw [HC.out]; exact HO.out, HK.out⟩
        case measure => simp [intOf]; omega
      · have e1 : ((k : Int) == (a : Int)) = false := by rw [beq_eq_false_iff_ne]; omega
        have hp0 : 0 < p := by have := HN.out; omega
        have HC := Lib.hid (ct_next hka)
        have HSK := Lib.hid (sk_ct hka)
        have HS := Lib.hid (show Mx.matl (ct a k + 1) p (wo f a b) = Mx.matl (ct a k) p (wo f a b) ++ [Mx.row p fun j => ((f k (Mx.sk b j)).val : Int)] by
          rw [Mx.matl, Mx.tab_snoc]
          congr 2
          refine Mx.row_ext fun j _ => ?_
          show ((f (Mx.sk a (ct a k)) (Mx.sk b j)).val : Int) = _
          rw [HSK.out])
        have HCL := Lib.hid (show ct a k ≤ 2000 by have := ct_le (a := a) (p := p) (t := k) hpa (by have := HN.out; omega); omega)
        clear hka
        obtain ⟨ad, A1, d1, rfl, _, x1, _, l1⟩ := (HA.out.keep HK.out).row hlt
        have L1 := Lib.hid l1
        have X1 := Lib.hid x1
        clear l1 x1
        go_wp2_with fail
        go_loopw [9, 10] (fun u i wq => ∃ t : Nat, t ≤ n ∧ i = .int .i64 (t : Int) ∧ Own wq wo'.heap.size u (Mx.row (ct b t) fun j => ((f k (Mx.sk b j)).val : Int)) ∧ Kp wo' wq) (fun _ i _ => n - (intOf i).toNat)
        case atStart => exact ⟨0, Nat.zero_le _, rfl, by rw [ct_zero]; exact Own.none _ _, Kp.rfl' _⟩
        case round =>
          obtain ⟨t, ht, rfl, hu, hkq⟩ := hrel
          have HU := Lib.hid hu
          have HQ := Lib.hid hkq
          have x2 := (hkq.cell (p := ad.add k) (cell_lt X1.out)).trans X1.out
          by_cases hlt2 : t < n
          · by_cases htb : t = b
            · subst htb
              have e2 : ((t : Int) != (t : Int)) = false := by simp
              have HC2 := Lib.hid (ct_skip t)
              clear hu hkq
              go_wp2_with fail
              go_roundw
              case rel => exact ⟨t + 1, by omega, by go_num, by rw [HC2.out]; exact HU.out, HQ.out⟩
              case measure => simp [intOf]; omega
            · have e2 : ((t : Int) != (b : Int)) = true := by rw [bne_iff_ne]; omega
              have HC2 := Lib.hid (ct_next htb)
              have HSK2 := Lib.hid (sk_ct htb)
              obtain ⟨ad1, rfl, _, x3⟩ := (L1.out.keep hkq).el hlt2
              have hlen : (Mx.row (ct b t) fun j => ((f k (Mx.sk b j)).val : Int)).length + 1 ≤ 17000000000000 := by
                rw [Mx.len_row]; have := ct_le (a := b) (p := p) (t := t) hpb (by have := HN.out; omega); omega
              have HSN := Lib.hid (show Mx.row (ct b t + 1) (fun j => ((f k (Mx.sk b j)).val : Int)) = (Mx.row (ct b t) fun j => ((f k (Mx.sk b j)).val : Int)) ++ [((f k t).val : Int)] by
                rw [Mx.row_snoc, HSK2.out])
              have hsz := HQ.out.size
              generalize ((f k t).val : Int) = z at *
              obtain ⟨wd, hwd⟩ : ∃ x, x = wr := ⟨_, rfl⟩
              subst hwd
              clear hu hkq htb
              go_wp2_with (at_builtin; refine wpList_push rfl _ _ rfl wo'.heap.size _ (Mx.row (ct b t) fun j => ((f k (Mx.sk b j)).val : Int)) z wd.heap.size 1 rfl rfl (HU.out.new _) (by simp; done) hlen (Nat.le_trans hsz ((Kp.rfl' _).new _).size) ?_; intro v' w' h1 h2 _)
              have HU' := Lib.hid h1
              have HQ' := Lib.hid (own_below (HU.out.new _) (HQ.out.new _) (Nat.le_trans hsz ((Kp.rfl' _).new _).size) h2)
              clear h1 h2
              go_wp2_with fail
              go_roundw
              case rel => exact ⟨t + 1, by omega, by go_num, by rw [HC2.out, HSN.out]; exact HU'.out, HQ'.out⟩
              case measure => simp [intOf]; omega
          · obtain rfl : t = n := by omega
            rw [show ct b t = p by rw [HN.out]; exact ct_end hpb] at HU
            obtain ⟨g, gc, rfl, hg, hgc⟩ := own_some HU.out (by rw [Mx.len_row]; exact hp0)
            rw [Mx.len_row] at HU hgc ⊢
            clear hu hkq
            have OM := Lib.hid (HO.out.kp HQ.out)
            have HAP := Lib.hid (show ∀ i, i < (Mx.matl (ct a k) p (wo f a b)).length → G i ≠ g from fun i hi => by have := (HO.out.lt hi).2; omega)
            have HLE := Lib.hid (show (Mx.matl (ct a k) p (wo f a b)).length + 1 ≤ 1000000 by rw [Mx.len_matl]; have := HCL.out; omega)
            go_wp2_with (at_builtin; refine wpList_pushM rfl _ _ rfl w.heap.size _ G C (Mx.matl (ct a k) p (wo f a b)) _ g p gc _ 1 (Mx.len_row _ _) rfl rfl (OM.out.new _) (cell_made _ _ _ _ 0 rfl) ((HU.out.from HK.out.size).new _) HAP.out HLE.out (Nat.le_trans HK.out.size (Nat.le_trans HQ.out.size ((Kp.rfl' _).new _).size)) ?_; intro v' w' G' C' ho' hk')
            have HO' := Lib.hid ho'
            have HK' := Lib.hid (hk' w (Nat.le_refl _) ((HK.out.trans HQ.out).new _))
            clear ho' hk'
            go_wp2_with fail
            go_roundw
            case rel => exact ⟨k + 1, G', C', by omega, by go_num, by rw [HC.out, HS.out]; exact HO'.out, HK'.out⟩
            case measure => simp [intOf]; omega
    · obtain rfl : k = n := by omega
      obtain ⟨A, d2, rfl, hl, _⟩ := HO.out.lies
      rw [Mx.len_matl, show ct a k = p by rw [HN.out]; exact ct_end hpa] at *
      have HL := Lib.hid hl
      clear hl
      go_wp2_with fail
      go_ret
      exact ⟨A, d2, rfl, HL.out, HK.out⟩

/-- The sign of a place as a whole number. -/
def sgnI (j : Nat) : Int := if j % 2 = 0 then 1 else -1
theorem sgnI_some (j : Nat) : sgnI j = 1 ∨ sgnI j = -1 := by unfold sgnI; split <;> simp
theorem sgnI_succ (j : Nat) : sgnI (j + 1) = -(sgnI j) := by
  unfold sgnI
  by_cases h : j % 2 = 0
  · rw [if_pos h, if_neg (by omega)]
  · rw [if_neg h, if_pos (by omega)]; rfl
theorem sgnI_F (j : Nat) : Fp.ofInt (sgnI j) = Mx.sgn j := by
  unfold sgnI Mx.sgn
  split <;> decide
theorem det_step (s x d : Fp.F) (k : Nat) : ((s.val : Int) + sgnI k * (x.val : Int) * (d.val : Int)) % 9973 = ((s + Mx.sgn k * x * d).val : Int) := by
  rw [← Fp.ofInt_val, Fp.ofInt_add, Fp.ofInt_mul, Fp.ofInt_mul, Fp.ofInt_self, Fp.ofInt_self, Fp.ofInt_self, sgnI_F]
theorem det_bound (x d : Fp.F) (k : Nat) : (-9972 ≤ sgnI k * (x.val : Int) ∧ sgnI k * (x.val : Int) ≤ 9972) ∧ -99440784 ≤ sgnI k * (x.val : Int) * (d.val : Int) ∧ sgnI k * (x.val : Int) * (d.val : Int) ≤ 99440784 := by
  have h := rprod x d
  have hx := rval x
  rcases sgnI_some k with e | e
  · rw [e, Int.one_mul]; omega
  · rw [e, Int.neg_one_mul, Int.neg_mul]; omega

set_option maxRecDepth 100000 in
set_option maxHeartbeats 6400000 in
theorem rDetMod_step (A : Option Addr) (f : Nat → Nat → Fp.F) (p n d : Nat) (w : World) (ha : LiesM w A (Mx.matl n n f)) (hn : n = p + 1) (hp : p ≤ 1000)
    (ih : ∀ (A : Option Addr) (f : Nat → Nat → Fp.F) (d : Nat) (w : World), LiesM w A (Mx.matl p p f) → Calls Tryd.prog 28 #[.slice A p d] w fun e w' => e = .returned (.int .i64 ((Mx.dt p f).val : Int)) ∧ Kp w w') :
    Calls Tryd.prog 28 #[.slice A n d] w fun e w' => e = .returned (.int .i64 ((Mx.dt n f).val : Int)) ∧ Kp w w' := by
  have HA := Lib.hid ha
  have IH := Lib.hid ih
  have hdt : Mx.dt n f = Mx.sg n fun j => Mx.sgn j * f 0 j * Mx.dt p (Mx.del j f) := by rw [hn]; rfl
  rw [hdt]
  have h0 : 0 < n := by omega
  have hn1 : n ≤ 1001 := by omega
  have e0 : ((n : Int) == 0) = false := by rw [beq_eq_false_iff_ne]; omega
  have WO := Lib.hid (fun (k : Nat) (w : World) (hk : k < n) (h : LiesM w A (Mx.matl n n f)) => show Calls Tryd.prog 47 #[.slice A n d, .int .i64 0, .int .i64 (k : Int)] w fun e w' => Made p p (Mx.del k f) w e w' by
    subst hn
    have := rWithout_any A f p 0 k d w h (Nat.zero_le _) (by omega) hp
    rw [Int.toNat_natCast, wo_del] at this
    exact this)
  clear ha ih hdt hn
  go_enter Tryd.func28, Tryd.ntmps28
  go_wp2_with fail
  go_loopw [3, 4, 5] (fun s g i wr => ∃ k : Nat, k ≤ n ∧ i = .int .i64 (k : Int) ∧ g = .int .i64 (sgnI k) ∧ s = .int .i64 ((Mx.sg k fun j => Mx.sgn j * f 0 j * Mx.dt p (Mx.del j f)).val : Int) ∧ Kp w wr) (fun _ _ i _ => n - (intOf i).toNat)
  case atStart => exact ⟨0, Nat.zero_le _, rfl, rfl, rfl, Kp.rfl' _⟩
  case round =>
    obtain ⟨k, hk, rfl, rfl, rfl, hkp⟩ := hrel
    have HK := Lib.hid hkp
    by_cases hlt : k < n
    · obtain ⟨ad, A0, d0, ea, hl0, x1, _, l1⟩ := (HA.out.keep hkp).row h0
      subst ea
      rw [add_zero'] at x1
      obtain ⟨ad1, ea, hl1, x2⟩ := l1.el hlt
      subst ea
      obtain ⟨s, hs⟩ : ∃ s, s = Mx.sg k fun j => Mx.sgn j * f 0 j * Mx.dt p (Mx.del j f) := ⟨_, rfl⟩
      rw [← hs]
      have hs2 : (Mx.sg (k + 1) fun j => Mx.sgn j * f 0 j * Mx.dt p (Mx.del j f)) = s + Mx.sgn k * f 0 k * Mx.dt p (Mx.del k f) := by rw [Mx.sg_succ, hs]
      have HSG := Lib.hid (sgnI_succ k)
      have hsg := sgnI_some k
      have hb := det_bound (f 0 k) (Mx.dt p (Mx.del k f)) k
      have hst := det_step s (f 0 k) (Mx.dt p (Mx.del k f)) k
      have hsv := rval s
      have hneg : IntKind.i64.wrap (-(sgnI k)) = -(sgnI k) := IntWalk.i64_in _ (by omega)
      rw [← hs2] at hst
      clear l1 hs
      by_cases hz : f 0 k = 0
      · have HS := Lib.hid (show (s.val : Int) = ((Mx.sg (k + 1) fun j => Mx.sgn j * f 0 j * Mx.dt p (Mx.del j f)).val : Int) by rw [hs2, hz]; congr 2; grind)
        rw [hz, show (((0 : Fp.F).val : Nat) : Int) = 0 from rfl] at x2
        generalize (s.val : Int) = sv at *
        generalize sgnI k = gi at *
        clear hb hst hsv hkp hz hs2
        go_wp2_with fail
        go_roundw
        case rel => exact ⟨k + 1, by omega, by go_num, by rw [HSG.out], by rw [HS.out], HK.out⟩
        case measure => simp [intOf]; omega
      · have hv := Fp.ne_val hz
        have e1 : (((f 0 k).val : Int) != 0) = true := by rw [bne_iff_ne]; omega
        have HI := Lib.hid (fun A' d' w' h => IH.out A' (Mx.del k f) d' w' h)
        obtain ⟨u, hu⟩ : ∃ u, u = ((Mx.sg (k + 1) fun j => Mx.sgn j * f 0 j * Mx.dt p (Mx.del j f)).val : Int) := ⟨_, rfl⟩
        rw [← hu] at hst
        have HU := Lib.hid hu
        generalize (s.val : Int) = sv at *
        generalize ((f 0 k).val : Int) = xv at *
        generalize ((Mx.dt p (Mx.del k f)).val : Int) = dv at *
        generalize sgnI k = gi at *
        obtain ⟨y, hy⟩ : ∃ y, y = gi * xv := ⟨_, rfl⟩
        rw [← hy] at hb hst
        obtain ⟨z, hz'⟩ : ∃ z, z = y * dv := ⟨_, rfl⟩
        rw [← hz'] at hb hst
        have hw1 : IntKind.i64.wrap (gi * xv) = y := by rw [← hy]; exact IntWalk.i64_in _ (by omega)
        have hw2 : IntKind.i64.wrap (y * dv) = z := by rw [← hz']; exact IntWalk.i64_in _ (by omega)
        have hw3 : IntKind.i64.wrap (sv + z) = sv + z := IntWalk.i64_in _ (by omega)
        have MO := Lib.hid (fun w => rMod_any (sv + z) w (by omega) (by omega))
        rw [hst] at MO
        have kd : Kp wr wr.drew := (Kp.rfl' wr).drewN 1
        have W1 := Lib.hid (WO.out k wr.drew hlt (HA.out.keep (hkp.trans kd)))
        have SK := Lib.hid (fun (w' : World) (h : Kp wr w') => (show w'.cell? ad = some (.slice (some ad1) n d0) ∧ w'.cell? (ad1.add k) = some (.int .i64 xv) ∧ Kp wr w' from
          ⟨(h.cell (p := ad) hl0).trans x1, (h.cell (p := ad1.add k) (by rw [block_add]; exact hl1)).trans x2, h⟩))
        clear hb hst hsv hkp hz hs2 hu hv hy hz' hsg
        go_wp2_with fail
        go_region_held3 (fun w' => w'.cell? ad = some (.slice (some ad1) n d0) ∧ w'.cell? (ad1.add k) = some (.int .i64 xv) ∧ Kp wr w')
          (first
          | exact SK.out _ (Kp.rfl' _)
          | exact SK.out _ kd
          | exact SK.out _ (kd.trans k1)
          | exact SK.out _ ((kd.trans k1).trans k2))
          ((first
          | (go_at_call 47; (with_reducible refine (W1.out).mono ?_); rintro e w1 ⟨A1, c1, rfl, l1, k1⟩)
          | (go_at_call 28; (with_reducible refine (HI.out A1 c1 _ l1).mono ?_); rintro e w2 ⟨rfl, k2⟩)
          | (go_at_call 6; (with_reducible refine (MO.out _).mono ?_); rintro e w' ⟨rfl, rfl⟩)))
        have HK2 := Lib.hid (HK.out.trans ((kd.trans k1).trans k2))
        clear k1 k2 l1 x1 x2
        go_wp2_with fail
        go_roundw
        case rel => exact ⟨k + 1, by omega, by go_num, by rw [HSG.out], by rw [HU.out], HK2.out⟩
        case measure => simp [intOf]; omega
    · obtain rfl : k = n := by omega
      clear hkp
      go_wp2_with fail
      go_ret
      exact ⟨rfl, HK.out⟩

theorem rDetMod_any : ∀ (n : Nat) (hn : n ≤ 1000) (A : Option Addr) (f : Nat → Nat → Fp.F) (d : Nat) (w : World) (ha : LiesM w A (Mx.matl n n f)),
    Calls Tryd.prog 28 #[.slice A n d] w fun e w' => e = .returned (.int .i64 ((Mx.dt n f).val : Int)) ∧ Kp w w'
  | 0, _, A, f, d, w, ha => by
    have e1 : ((Mx.dt 0 f).val : Int) = 1 := rfl
    rw [e1]
    clear ha
    go_enter Tryd.func28, Tryd.ntmps28
    go_wp2
    go_ret
    exact ⟨rfl, Kp.rfl' _⟩
  | p + 1, hp, A, f, d, w, ha => rDetMod_step A f p (p + 1) d w ha rfl (by omega) (fun A f d w h => rDetMod_any p (by omega) A f d w h)

set_option maxHeartbeats 1600000 in
theorem rSquare_any (A : Option Addr) (m : List (List Int)) (n d most : Nat) (lo hi : Int) (w : World) (ha : LiesM w A m) (hn : m.length = n) (hmo : most ≤ 1000) :
    Calls Tryd.prog 5 #[.slice A n d, .int .i64 (most : Int), .int .i64 lo, .int .i64 hi] w fun e w' => e = .returned (.int .i64 (qcode most lo hi m : Int)) ∧ Drew w w' := by
  have MX := Lib.hid (rMatrix_any A m n d most lo hi w ha hn hmo)
  by_cases h0 : Mx.mcode most lo hi m = 0
  · have h0n : 0 < m.length := by
      rcases Nat.eq_zero_or_pos m.length with h | h
      · exfalso; unfold Mx.mcode at h0; rw [if_pos (.inl h)] at h0; cases h0
      · exact h
    obtain ⟨ad, A0, d0, rfl, hl0, hc0, _, _⟩ := ha 0 h0n
    rw [add_zero'] at hc0
    have HC := Lib.hid hc0
    have EV := Lib.hid (show qcode most lo hi m = if n ≠ (m.getD 0 []).length then 3 else 0 by
      unfold qcode
      rw [h0, hn]
      by_cases h : n ≠ (m.getD 0 []).length
      · rw [if_pos ⟨rfl, h⟩, if_pos h]
      · rw [if_neg (fun h' => h h'.2), if_neg h])
    rw [h0] at MX
    have hn0 : (0 : Int) < n := by omega
    generalize (m.getD 0 []).length = q at *
    generalize qcode most lo hi m = z at *
    have HN0 := Lib.hid hn0
    clear ha h0 hn h0n hc0
    by_cases hq : n = q
    · subst hq
      have E2 := Lib.hid (show z = 0 by rw [EV.out, if_neg (fun h => h rfl)])
      have e1 : ((n : Int) != (n : Int)) = false := by simp
      go_enter Tryd.func5, Tryd.ntmps5
      go_wp2_with fail
      refine (MX.out).mono ?_; rintro e w1 ⟨rfl, hd⟩
      have HD := Lib.hid hd
      have hc := (hd.kp.cell (p := ad) hl0).trans HC.out
      clear hd
      go_wp2_with fail
      go_ret
      exact ⟨by rw [E2.out]; rfl, HD.out⟩
    · have E2 := Lib.hid (show z = 3 by rw [EV.out, if_pos hq])
      have e1 : ((n : Int) != (q : Int)) = true := by rw [bne_iff_ne]; omega
      go_enter Tryd.func5, Tryd.ntmps5
      go_wp2_with fail
      refine (MX.out).mono ?_; rintro e w1 ⟨rfl, hd⟩
      have HD := Lib.hid hd
      have hc := (hd.kp.cell (p := ad) hl0).trans HC.out
      clear hd
      go_wp2_with fail
      go_ret
      exact ⟨by rw [E2.out]; rfl, HD.out⟩
  · have EV : qcode most lo hi m = Mx.mcode most lo hi m := by unfold qcode; rw [if_neg (fun h => h0 h.1)]
    rw [EV]
    have e1 : ((Mx.mcode most lo hi m : Int) == 0) = false := by rw [beq_eq_false_iff_ne]; omega
    generalize Mx.mcode most lo hi m = z at *
    clear ha hn EV h0
    go_enter Tryd.func5, Tryd.ntmps5
    go_wp2_with fail
    refine (MX.out).mono ?_; rintro e w1 ⟨rfl, hd⟩
    have HD := Lib.hid hd
    clear hd
    go_wp2_with fail
    go_ret
    exact ⟨rfl, HD.out⟩
end Go.Proofs.YtologiinkilooaaDoor

/- Contracts of the document's answer for package charpoly: the sum of the determinants of some rows and the same columns, the factors. -/
namespace Go.Proofs.YtologiinkilooaaDoor
open Go.ChangeShapes Go.WideShapes Go.ChangeAt Go.RowKit
set_option linter.unusedVariables false

/-- Places as whole numbers. -/
def hz (h : List Nat) : List Int := h.map fun (x : Nat) => (x : Int)
theorem len_hz (h : List Nat) : (hz h).length = h.length := by simp [hz]
theorem hz_at (h : List Nat) (i : Nat) : (hz h).getD i 0 = ((h.getD i 0 : Nat) : Int) := by
  simp only [hz, List.getD_eq_getElem?_getD, List.getElem?_map]
  cases h[i]? <;> rfl
theorem hz_snoc (h : List Nat) (i : Nat) : hz (h ++ [i]) = hz h ++ [(i : Int)] := by simp [hz]
theorem hz_el {w : World} {A : Option Addr} {h : List Nat} (hl : Lies w A (hz h)) {i : Nat} (hi : i < h.length) : ∃ ad, A = some ad ∧ ad.block < w.heap.size ∧ w.cell? (ad.add i) = some (.int .i64 ((h.getD i 0 : Nat) : Int)) := by
  obtain ⟨ad, e, hb, hc⟩ := hl i (by rw [len_hz]; exact hi)
  rw [hz_at] at hc
  exact ⟨ad, e, hb, hc⟩
theorem getD_mem {h : List Nat} {n i : Nat} (hb : ∀ x ∈ h, x < n) (hi : i < h.length) : h.getD i 0 < n := by
  rw [List.getD_eq_getElem?_getD, List.getElem?_eq_getElem hi]
  exact hb _ (List.getElem_mem hi)
theorem rest_cons {n i : Nat} (h : i < n) : List.range' i (n - i) = i :: List.range' (i + 1) (n - (i + 1)) := by
  rw [show n - i = (n - (i + 1)) + 1 by omega, List.range'_succ]
theorem rest_none (n : Nat) : List.range' n (n - n) = [] := by rw [Nat.sub_self]; rfl

set_option maxRecDepth 100000 in
set_option maxHeartbeats 6400000 in
theorem rPrin_here (A : Option Addr) (f : Nat → Nat → Fp.F) (n d fr : Nat) (H : Option Addr) (h : List Nat) (l c : Nat) (w : World) (ha : LiesM w A (Mx.matl n n f)) (hh : Lies w H (hz h)) (hl : h.length = l) (hb : ∀ x ∈ h, x < n) (l5 : l ≤ 5) :
    Calls Tryd.prog 16 #[.slice A n d, .int .i64 (fr : Int), .slice H l c, .int .i64 (l : Int)] w fun e w' => e = .returned (.int .i64 ((Mx.dt l (Mx.sub f h)).val : Int)) ∧ Kp w w' := by
  have HA := Lib.hid ha
  have HH := Lib.hid hh
  have HL := Lib.hid hl
  have HB := Lib.hid (fun i (hi : i < l) => show h.getD i 0 < n from getD_mem hb (by omega))
  have DM := Lib.hid (fun B d w hb => rDetMod_any l (by omega) B (Mx.sub f h) d w hb)
  clear ha hh hl hb
  go_enter Tryd.func16, Tryd.ntmps16
  go_wp2_with fail
  go_loopw [9, 10, 11, 12] (fun v u _ _ wr => ∃ (k : Nat) (G C : Nat → Nat), k ≤ l ∧ u = .int .i64 (k : Int) ∧ OwnM wr w.heap.size v G C (Mx.matl k l (Mx.sub f h)) ∧ Kp w wr) (fun _ u _ _ _ => l - (intOf u).toNat)
  case atStart => exact ⟨0, fun _ => 0, fun _ => 0, Nat.zero_le _, rfl, ownM_none _ _ _ _, Kp.rfl' _⟩
  case round =>
    obtain ⟨k, G, C, hk, rfl, ho, hkp⟩ := hrel
    obtain ⟨wo', hwo⟩ : ∃ x, x = wr := ⟨_, rfl⟩
    subst hwo
    have HO := Lib.hid ho
    have HK := Lib.hid hkp
    clear ho hkp
    by_cases hlt : k < l
    · have HS := Lib.hid (show Mx.matl (k + 1) l (Mx.sub f h) = Mx.matl k l (Mx.sub f h) ++ [Mx.row l fun j => ((Mx.sub f h k j).val : Int)] by rw [Mx.matl, Mx.tab_snoc]; rfl)
      go_wp2_with fail
      go_loopw [11, 12] (fun u i wq => ∃ t : Nat, t ≤ l ∧ i = .int .i64 (t : Int) ∧ Own wq wo'.heap.size u (Mx.row t fun j => ((Mx.sub f h k j).val : Int)) ∧ Kp wo' wq) (fun _ i _ => l - (intOf i).toNat)
      case atStart => exact ⟨0, Nat.zero_le _, rfl, Own.none _ _, Kp.rfl' _⟩
      case round =>
        obtain ⟨t, ht, rfl, hu, hkq⟩ := hrel
        have HU := Lib.hid hu
        have HQ := Lib.hid hkq
        by_cases hlt2 : t < l
        · have hx := HB.out k hlt
          have hy := HB.out t hlt2
          obtain ⟨hd, rfl, _, z1⟩ := hz_el (HH.out.keep (HK.out.trans hkq)) (show k < h.length by rw [HL.out]; exact hlt)
          obtain ⟨hd', eh, _, z2⟩ := hz_el (HH.out.keep (HK.out.trans hkq)) (show t < h.length by rw [HL.out]; exact hlt2)
          obtain rfl := Option.some.inj eh
          have HSN := Lib.hid (show Mx.row (t + 1) (fun j => ((Mx.sub f h k j).val : Int)) = (Mx.row t fun j => ((Mx.sub f h k j).val : Int)) ++ [((f (h.getD k 0) (h.getD t 0)).val : Int)] by
            rw [Mx.row_snoc]; rfl)
          generalize h.getD k 0 = x at *
          generalize h.getD t 0 = y at *
          obtain ⟨ad, A1, d1, rfl, _, x1, _, l1⟩ := (HA.out.keep (HK.out.trans hkq)).row hx
          obtain ⟨ad1, rfl, _, x3⟩ := l1.el hy
          have hlen : (Mx.row t fun j => ((Mx.sub f h k j).val : Int)).length + 1 ≤ 17000000000000 := by rw [Mx.len_row]; omega
          have hsz := HQ.out.size
          generalize ((f x y).val : Int) = z at *
          obtain ⟨wd, hwd⟩ : ∃ x, x = wr := ⟨_, rfl⟩
          subst hwd
          clear hu hkq l1
          go_wp2_with fail
          go_region_law (refine step_push (by rfl) _ _ (by rfl) wo'.heap.size _ (Mx.row t fun j => ((Mx.sub f h k j).val : Int)) z _ 1 (by rfl) (by rfl) ((HU.out.drewN 1).new _) (by simp; done) hlen (Nat.le_trans hsz ((Kp.rfl' wd).new _).size) ?_; intro v' w' h1 h2 _; have HU' := Lib.hid h1; have HQ' := Lib.hid (own_below ((HU.out.drewN 1).new (.cells #[.int .i64 z] 3)) ((HQ.out.drewN 1).new _) (Nat.le_trans hsz ((Kp.rfl' wd).new _).size) h2); clear h1 h2)
          all_goals
            go_wp2_with fail
            go_roundw
            case rel => exact ⟨t + 1, by omega, by go_num, by rw [HSN.out]; exact HU'.out, HQ'.out⟩
            case measure => simp [intOf]; omega
        · obtain rfl : t = l := by omega
          obtain ⟨g, gc, rfl, hg, hgc⟩ := own_some HU.out (by rw [Mx.len_row]; omega)
          rw [Mx.len_row] at HU hgc ⊢
          clear hu hkq
          have OM := Lib.hid (HO.out.kp HQ.out)
          have HAP := Lib.hid (show ∀ i, i < (Mx.matl k t (Mx.sub f h)).length → G i ≠ g from fun i hi => by have := (HO.out.lt hi).2; omega)
          go_wp2_with (at_builtin; refine wpList_pushM rfl _ _ rfl w.heap.size _ G C (Mx.matl k t (Mx.sub f h)) _ g t gc _ 1 (Mx.len_row _ _) rfl rfl (OM.out.new _) (cell_made _ _ _ _ 0 rfl) ((HU.out.from HK.out.size).new _) HAP.out (by rw [Mx.len_matl]; omega) (Nat.le_trans HK.out.size (Nat.le_trans HQ.out.size ((Kp.rfl' _).new _).size)) ?_; intro v' w' G' C' ho' hk')
          have HO' := Lib.hid ho'
          have HK' := Lib.hid (hk' w (Nat.le_refl _) ((HK.out.trans HQ.out).new _))
          clear ho' hk'
          go_wp2_with fail
          go_roundw
          case rel => exact ⟨k + 1, G', C', by omega, by go_num, by rw [HS.out]; exact HO'.out, HK'.out⟩
          case measure => simp [intOf]; omega
    · obtain rfl : k = l := by omega
      obtain ⟨B, d2, rfl, hl, _⟩ := HO.out.lies
      rw [Mx.len_matl]
      have DD := Lib.hid (DM.out B d2 wo' hl)
      clear hl
      go_wp2_with fail
      refine (DD.out).mono ?_; rintro e w3 ⟨rfl, k3⟩
      have K3 := Lib.hid (HK.out.trans k3); clear k3
      go_wp2_with fail
      go_ret
      exact ⟨rfl, K3.out⟩

set_option maxRecDepth 100000 in
set_option maxHeartbeats 6400000 in
theorem rPrin_on (A : Option Addr) (f : Nat → Nat → Fp.F) (n d fr k : Nat) (H : Option Addr) (h : List Nat) (l c : Nat) (w : World) (ha : LiesM w A (Mx.matl n n f)) (hh : Lies w H (hz h)) (hl : h.length = l) (hb : ∀ x ∈ h, x < n)
    (hfr : fr ≤ n) (hn : n ≤ 5) (l100 : l ≤ 100) (hne : l ≠ k)
    (IH : ∀ (i c' : Nat) (H' : Option Addr) (w' : World), fr ≤ i → i < n → LiesM w' A (Mx.matl n n f) → Lies w' H' (hz (h ++ [i])) →
      Calls Tryd.prog 16 #[.slice A n d, .int .i64 ((i + 1 : Nat) : Int), .slice H' (l + 1) c', .int .i64 (k : Int)] w' fun e w'' => e = .returned (.int .i64 ((Mx.prin f (h ++ [i]) (List.range' (i + 1) (n - (i + 1))) k).val : Int)) ∧ Kp w' w'') :
    Calls Tryd.prog 16 #[.slice A n d, .int .i64 (fr : Int), .slice H l c, .int .i64 (k : Int)] w fun e w' => e = .returned (.int .i64 ((Mx.prin f h (List.range' fr (n - fr)) k).val : Int)) ∧ Kp w w' := by
  have HA := Lib.hid ha
  have HH := Lib.hid hh
  have HL := Lib.hid hl
  have HI := Lib.hid IH
  have e0 : ((l : Int) == (k : Int)) = false := by rw [beq_eq_false_iff_ne]; omega
  have HC := Lib.hid (fun i (hi : i < n) => show Mx.prin f h (List.range' i (n - i)) k = Mx.prin f (h ++ [i]) (List.range' (i + 1) (n - (i + 1))) k + Mx.prin f h (List.range' (i + 1) (n - (i + 1))) k by
    rw [rest_cons hi, Mx.prin_cons f h i _ (by rw [hl]; exact hne)])
  have HE := Lib.hid (show Mx.prin f h (List.range' n (n - n)) k = 0 by rw [rest_none]; unfold Mx.prin; rw [if_neg (by rw [hl]; exact hne)])
  obtain ⟨X, hX⟩ : ∃ X, X = Mx.prin f h (List.range' fr (n - fr)) k := ⟨_, rfl⟩
  rw [← hX]
  have HX := Lib.hid hX
  clear ha hh hl hb IH hne hX
  go_enter Tryd.func16, Tryd.ntmps16
  go_wp2_with fail
  go_loopw [13, 14, 15] (fun s u _ wr => ∃ (i : Nat) (S : Fp.F), fr ≤ i ∧ i ≤ n ∧ u = .int .i64 (i : Int) ∧ s = .int .i64 (S.val : Int) ∧ S + Mx.prin f h (List.range' i (n - i)) k = X ∧ Kp w wr) (fun _ u _ _ => n - (intOf u).toNat)
  case atStart => exact ⟨fr, 0, Nat.le_refl _, hfr, rfl, rfl, by rw [HX.out]; grind, Kp.rfl' _⟩
  case round =>
    obtain ⟨i, S, hi, hin, rfl, rfl, hS, hkp⟩ := hrel
    have HSS := Lib.hid hS
    have HK := Lib.hid hkp
    by_cases hlt : i < n
    · have HN := Lib.hid (HC.out i hlt)
      have hz1 : hz h = [] ++ hz h := rfl
      have hsz := hkp.size
      have hl1 : l = (hz h).length := by rw [len_hz, HL.out]
      have HL1 := Lib.hid hl1
      have hle : ([] : List Int).length + (hz h).length ≤ 17000000000000 := by rw [← hl1]; simp; omega
      have HLE := Lib.hid hle
      have hle2 : ([] ++ hz h : List Int).length + 1 ≤ 17000000000000 := by rw [List.nil_append, ← hl1]; omega
      have HLE2 := Lib.hid hle2
      clear hS hkp hz1 hl1 hle hle2
      go_wp2_with (first
        | (at_builtin; refine wpList_cat rfl (.tmp 59) (.tmp 60) rfl w.heap.size (.slice none 0 0) [] (hz h) H l c rfl rfl HL1.out (Own.none _ _) (HH.out.keep HK.out) HLE.out hsz ?_; intro v6 w6 p1 p2 p3; have O6 := Lib.hid p1; have K6 := Lib.hid (show Kp w w6 from own_below (Own.none wr w.heap.size) HK.out hsz p2); have hs6 := K6.out.size; clear p1 p2 p3)
        | (at_builtin; refine wpList_push rfl _ _ rfl w.heap.size _ ([] ++ hz h) (i : Int) w6.heap.size 1 rfl rfl (O6.out.new _) (by simp) HLE2.out (by simp; omega) ?_; intro v7 w7 p1 p2 p3; have O7 := Lib.hid p1; have K7 := Lib.hid (show Kp w w7 from own_below (O6.out.new _) (K6.out.new _) (by simp; omega) p2); clear p1 p2 p3))
      obtain ⟨B7, c7, rfl, l7⟩ := O7.out.lies
      rw [List.nil_append, ← hz_snoc] at l7
      rw [show ([] ++ hz h ++ [(i : Int)] : List Int).length = l + 1 by rw [List.nil_append, List.length_append, ← HL1.out]; rfl]
      have IC := Lib.hid (HI.out i c7 B7 w7 hi hlt (HA.out.keep K7.out) l7)
      rw [show ((i + 1 : Nat) : Int) = (i : Int) + 1 by omega] at IC
      have hwi : IntKind.i64.wrap ((i : Int) + 1) = (i : Int) + 1 := IntWalk.i64_in _ (by omega)
      have b1 := cval S
      obtain ⟨P, hP⟩ : ∃ P, P = Mx.prin f (h ++ [i]) (List.range' (i + 1) (n - (i + 1))) k := ⟨_, rfl⟩
      rw [← hP] at IC HN
      have b2 := cval P
      have MO := Lib.hid (fun w => rMod_any ((S.val : Int) + (P.val : Int)) w (by omega) (by omega))
      rw [show ((S.val : Int) + (P.val : Int)) % 9973 = ((S + P).val : Int) by rw [← Fp.ofInt_val, Fp.ofInt_add, Fp.ofInt_self, Fp.ofInt_self]] at MO
      have hwa : IntKind.i64.wrap ((S.val : Int) + (P.val : Int)) = (S.val : Int) + (P.val : Int) := IntWalk.i64_in _ (by omega)
      have HSP := Lib.hid (show S + P + Mx.prin f h (List.range' (i + 1) (n - (i + 1))) k = X by rw [← HSS.out, HN.out]; grind)
      obtain ⟨z, hz'⟩ : ∃ z, z = ((S + P).val : Int) := ⟨_, rfl⟩
      rw [← hz'] at MO
      have HZ := Lib.hid hz'
      generalize (P.val : Int) = pv at *
      generalize (S.val : Int) = sv at *
      clear l7 b1 b2 hz' hP
      go_wp2_with fail
      (with_reducible refine (IC.out).mono ?_); rintro e w8 ⟨rfl, k8⟩
      have K8 := Lib.hid (K7.out.trans k8); clear k8
      go_wp2_with fail
      refine (MO.out _).mono ?_; rintro e w9 ⟨rfl, rfl⟩
      go_wp2_with fail
      go_roundw
      case rel => exact ⟨i + 1, S + P, by omega, by omega, by go_num, by rw [HZ.out], HSP.out, K8.out⟩
      case measure => simp [intOf]; omega
    · obtain rfl : i = n := by omega
      have hSX : S = X := by rw [← HSS.out, HE.out]; grind
      subst hSX
      clear hS hkp
      go_wp2_with fail
      go_ret
      exact ⟨rfl, HK.out⟩

theorem rPrin_any (A : Option Addr) (f : Nat → Nat → Fp.F) (n d k : Nat) (hn : n ≤ 5) (hk : k ≤ 5) (m : Nat) : ∀ (fr : Nat) (H : Option Addr) (h : List Nat) (l c : Nat) (w : World), n - fr = m → fr ≤ n → LiesM w A (Mx.matl n n f) → Lies w H (hz h) → h.length = l → (∀ x ∈ h, x < n) → l + m ≤ 50 →
    Calls Tryd.prog 16 #[.slice A n d, .int .i64 (fr : Int), .slice H l c, .int .i64 (k : Int)] w fun e w' => e = .returned (.int .i64 ((Mx.prin f h (List.range' fr (n - fr)) k).val : Int)) ∧ Kp w w' := by
  induction m using Nat.strongRecOn with
  | ind m ih =>
    intro fr H h l c w hm hfr ha hh hl hb h50
    by_cases e : l = k
    · subst e
      have h1 := Mx.prin_is f h (List.range' fr (n - fr))
      rw [hl] at h1
      rw [h1]
      exact rPrin_here A f n d fr H h l c w ha hh hl hb hk
    · refine rPrin_on A f n d fr k H h l c w ha hh hl hb hfr hn (by omega) e fun i c' H' w' hi hin ha' hh' => ?_
      refine ih (n - (i + 1)) (by omega) (i + 1) H' (h ++ [i]) (l + 1) c' w' rfl (by omega) ha' hh' (by rw [List.length_append, hl]; rfl) (fun x hx => ?_) (by omega)
      rcases List.mem_append.1 hx with hx | hx
      · exact hb x hx
      · have := List.mem_singleton.1 hx; omega
theorem rPrin_top (A : Option Addr) (f : Nat → Nat → Fp.F) (n d k : Nat) (w : World) (hn : n ≤ 5) (hk : k ≤ 5) (ha : LiesM w A (Mx.matl n n f)) :
    Calls Tryd.prog 16 #[.slice A n d, .int .i64 0, .slice none 0 0, .int .i64 (k : Int)] w fun e w' => e = .returned (.int .i64 ((Mx.prn f n k).val : Int)) ∧ Kp w w' := by
  have h := rPrin_any A f n d k hn hk n 0 none [] 0 0 w rfl (Nat.zero_le _) ha (Lies.empty _ _) rfl (fun x hx => by cases hx) (by omega)
  rw [Nat.sub_zero, ← List.range_eq_range'] at h
  exact h

/-- The factors from the highest on, k of them. -/
def chDone (n : Nat) (f : Nat → Nat → Fp.F) (k j : Nat) : Int := if n < j + k then ((Mx.ch n f j).val : Int) else 0

set_option maxRecDepth 100000 in
set_option maxHeartbeats 6400000 in
theorem rChar_any (A : Option Addr) (f : Nat → Nat → Fp.F) (n d : Nat) (w : World) (ha : LiesM w A (Mx.matl n n f)) (hn : n ≤ 5) :
    Calls Tryd.prog 7 #[.slice A n d] w fun e w' => ∃ B, e = .returned (.slice B (n + 1) (n + 1)) ∧ Lies w' B (Pol.vals (Mx.chl n f)) ∧ Kp w w' := by
  have HA := Lib.hid ha
  have PR := Lib.hid (fun (k : Nat) (hk : k ≤ n) w h => rPrin_top A f n d k w hn (by omega) h)
  clear ha
  obtain ⟨i0, hi, hz0, hz1, hz2⟩ := info_parts int_info
  obtain ⟨m, hm⟩ : ∃ m, m = n + 1 := ⟨_, rfl⟩
  have HM := Lib.hid hm
  have hnw : IntKind.i64.wrap ((n : Int) + 1) = (m : Int) := by rw [show (n : Int) + 1 = (m : Int) by omega]; exact IntWalk.i64_in _ (by omega)
  have hnw2 : (n : Int) + 1 = (m : Int) := by omega
  have hm6 : m ≤ 6 := by omega
  rw [← hm]
  clear hm
  go_enter Tryd.func7, Tryd.ntmps7
  go_wp2_with (at_make; refine wpList_make_full _ rfl _ _ 24 rfl w.heap.size 3 i0 (.int .i64 0) 1 Tryd.underlying24 hi hz0 hz1 _ _ _ _ m rfl rfl rfl rfl (by rw [hz2]; omega) (by unfold maxLen; omega) (Nat.le_refl _) ?_; intro w2 hown hgrow; have hkp2 : Kp w w2 := (Kp.rfl' w).grown hgrow (by simp) (fun k hk => by cases hk))
  have HR := Lib.hid (show Row w2 w.heap.size (Mx.row m (chDone n f 0)) by
    have h1 := row_made hown
    rw [Mx.row_rep] at h1
    rw [Mx.row_ext (g := chDone n f 0) (h := fun _ => 0) (fun j hj => by unfold chDone; rw [if_neg (by have := HM.out; omega)])]
    exact h1)
  have HK := Lib.hid hkp2
  clear hown hgrow hkp2
  obtain ⟨g, hg⟩ : ∃ g, g = w.heap.size := ⟨_, rfl⟩
  rw [← hg] at HR ⊢
  have HG := Lib.hid hg
  clear hg
  go_loopw [5, 6] (fun s u wr => ∃ k : Nat, k ≤ m ∧ u = .int .i64 (k : Int) ∧ s = .int .i64 (sgnI k) ∧ Row wr g (Mx.row m (chDone n f k)) ∧ Kp w wr) (fun _ u _ => m - (intOf u).toNat)
  case atStart => exact ⟨0, Nat.zero_le _, rfl, rfl, HR.out, HK.out⟩
  case round =>
    clear HR HK
    obtain ⟨k, hk, rfl, rfl, hr, hkp⟩ := hrel
    have HR := Lib.hid hr
    have HK := Lib.hid hkp
    by_cases hlt : k < m
    · have hle : (k : Int) ≤ (n : Int) := by have := HM.out; omega
      obtain ⟨q, hq⟩ : ∃ q, q = n - k := ⟨_, rfl⟩
      have HQ := Lib.hid hq
      have hqe : (n : Int) - (k : Int) = (q : Int) := by omega
      have hqw : IntKind.i64.wrap ((n : Int) - (k : Int)) = (q : Int) := by rw [hqe]; exact IntWalk.i64_in _ (by omega)
      have hqm : q < m := by have := HM.out; omega
      have P1 := Lib.hid (PR.out k (by have := HM.out; omega) wr (HA.out.keep hkp))
      have hb := det_bound (Mx.prn f n k) 0 k
      have hb1 := hb.1
      have hs := sgnI_some k
      have hsn := sgnI_succ k
      have HC := Lib.hid (show Mx.ch n f q = Mx.sgn k * Mx.prn f n k by rw [hq]; exact Mx.ch_prn (by have := HM.out; omega) f)
      have MO := Lib.hid (fun w => rMod_any (sgnI k * ((Mx.prn f n k).val : Int)) w (by omega) (by omega))
      rw [show sgnI k * ((Mx.prn f n k).val : Int) % 9973 = ((Mx.ch n f q).val : Int) by rw [← Fp.ofInt_val, Fp.ofInt_mul, Fp.ofInt_self, sgnI_F, HC.out]] at MO
      have hwm : IntKind.i64.wrap (sgnI k * ((Mx.prn f n k).val : Int)) = sgnI k * ((Mx.prn f n k).val : Int) := IntWalk.i64_in _ (by omega)
      have hws : IntKind.i64.wrap (-(sgnI k)) = -(sgnI k) := IntWalk.i64_in _ (by omega)
      obtain ⟨z, hz⟩ : ∃ z, z = ((Mx.ch n f q).val : Int) := ⟨_, rfl⟩
      rw [← hz] at MO
      have HZ := Lib.hid hz
      generalize ((Mx.prn f n k).val : Int) = pv at *
      have HSN := Lib.hid hsn
      obtain ⟨sg, hsg⟩ : ∃ sg, sg = sgnI k := ⟨_, rfl⟩
      rw [← hsg] at MO hwm hws HSN ⊢
      clear hr hkp hb hb1 hs hsn hz hq hsg
      go_wp2_with fail
      (with_reducible refine (P1.out).mono ?_); rintro e w3 ⟨rfl, k3⟩
      have HR3 := Lib.hid (HR.out.keep k3)
      have K3 := Lib.hid (HK.out.trans k3)
      clear k3 HR HK
      have x1 := HR3.out.cell q (by rw [Mx.len_row]; exact hqm)
      have x2 := HR3.out.free q
      go_wp2_with fail
      refine (MO.out _).mono ?_; rintro e w4 ⟨rfl, rfl⟩
      go_wp2_with fail
      go_roundw
      case rel =>
        refine ⟨k + 1, by omega, by go_num, by rw [HSN.out], ?_, K3.out.put (p := ⟨g, q, none⟩) (by show w.heap.size ≤ g; rw [HG.out]; exact Nat.le_refl _) _⟩
        have h4 := HR3.out.put q z
        rw [Mx.row_set] at h4
        rw [Mx.row_ext (g := chDone n f (k + 1)) (h := fun j => if j = q then z else chDone n f k j) (fun j hj => ?_)]
        · exact h4
        · have h1 := HQ.out
          have h2 := HM.out
          unfold chDone
          by_cases e : j = q
          · rw [if_pos (by omega), if_pos e, HZ.out, e]
          · rw [if_neg e]
            by_cases e2 : n < j + k
            · rw [if_pos e2, if_pos (by omega)]
            · rw [if_neg e2, if_neg (by omega)]
      case measure => simp [intOf]; omega
    · obtain rfl : k = m := by omega
      have hle : ¬ (k : Int) ≤ (n : Int) := by have := HM.out; omega
      have HL := Lib.hid (show Pol.vals (Mx.chl n f) = Mx.row k (chDone n f k) by
        have h2 := HM.out
        rw [h2]
        unfold Pol.vals Mx.chl Mx.row
        rw [List.map_map]
        refine List.map_congr_left fun j hj => ?_
        have := List.mem_range.1 hj
        unfold chDone
        rw [if_pos (by omega)]; rfl)
      clear hr hkp
      go_wp2_with fail
      go_ret
      refine ⟨some ⟨g, 0, none⟩, rfl, ?_, HK.out⟩
      rw [HL.out]
      exact HR.out.lies
end Go.Proofs.YtologiinkilooaaDoor

/- Contracts of plain.Told and rankmeresame.Error: of nil and of an Errno. Go's own text of errors.As is walked, by closed facts on the model's entries for internal/reflectlite at this translation's numbers. The one premise: the variable errors.errorType holds its type. -/
namespace Go.Proofs.YtologiinkilooaaDoor.Told
open Go.RowKit Go.Extern.Stop Go.Stop Go.Extern
set_option linter.unusedVariables false

theorem valueOfP (t : Addr) (w : World) : (ReflectliteValue.unpack (.iface 56 (.pointer (some t)))).run Tryd.prog w
    = .ok (.agg #[.pointer (some ⟨1, 56, none⟩), .pointer (some ⟨w.heap.size, 0, none⟩), .int .u64 150]) (w.alloc (.cells #[.pointer (some t)] 56)) := by kernel_rfl
theorem typeP (a : Addr) (w : World) : (ReflectliteValue.methodAny (ReflectliteValue.valueError "reflectlite.Value.Type" 0) (fun t _ _ _ => ReflectliteType.toType t) #[.agg #[.pointer (some ⟨1, 56, none⟩), .pointer (some a), .int .u64 150]]).run Tryd.prog w
    = .ok (.iface 94 (.agg #[.pointer (some ⟨1, 56, none⟩)])) w := by kernel_rfl
theorem methodKind (h : Value) (w : World) : (Go.method 242 94 (.agg #[h]) "Kind").run Tryd.prog w = .ok (92, h) w := by kernel_rfl
theorem kindP (w : World) : ((ReflectliteType.abiMethod fun t => (fun a : Nat => Value.int IntKind.u8 (a : Int)) <$> Rtype.kind t) #[.pointer (some ⟨1, 56, none⟩)]).run Tryd.prog w = .ok (.int .u8 22) w := by kernel_rfl
theorem kindE (w : World) : ((ReflectliteType.abiMethod fun t => (fun a : Nat => Value.int IntKind.u8 (a : Int)) <$> Rtype.kind t) #[.pointer (some ⟨1, 43, none⟩)]).run Tryd.prog w = .ok (.int .u8 2) w := by kernel_rfl
theorem rlm (z : Sem Value) (f : TypeId → Addr → Nat → Nat → Sem Value) (v : Value) :
    ReflectliteValue.method z f #[v] = (do match ← ReflectliteValue.parts v with | none => z | some (t, a, fl) => f t a fl (fl % 32)) := rfl
theorem partsP (a : Addr) (w : World) : (ReflectliteValue.parts (.agg #[.pointer (some ⟨1, 56, none⟩), .pointer (some a), .int .u64 150])).run Tryd.prog w = .ok (some (56, a, 150)) w := by kernel_rfl
theorem isNilP (a p : Addr) (W : World) (ha : W.cell? a = some (.pointer (some p))) :
    (ReflectliteValue.method (ReflectliteValue.valueError "reflectlite.Value.IsNil" 0) ReflectliteValue.isNil #[.agg #[.pointer (some ⟨1, 56, none⟩), .pointer (some a), .int .u64 150]]).run Tryd.prog W = .ok (.bool false) W := by
  rw [rlm]
  simp only [Sem.run_bind, partsP, Result.andThen]
  simp [ReflectliteValue.isNil, loadVar, isAgg, underlying, Tryd.underlying56, ha, Result.andThen]
theorem methodElem (h : Value) (w : World) : (Go.method 242 94 (.agg #[h]) "Elem").run Tryd.prog w = .ok (102, .agg #[h]) w := by kernel_rfl
theorem methodImplements (h : Value) (w : World) : (Go.method 242 94 (.agg #[h]) "Implements").run Tryd.prog w = .ok (103, .agg #[h]) w := by kernel_rfl
theorem methodAssignableTo (h : Value) (w : World) : (Go.method 242 94 (.agg #[h]) "AssignableTo").run Tryd.prog w = .ok (100, .agg #[h]) w := by kernel_rfl
theorem elemP (w : World) : (ReflectliteType.method ReflectliteType.elem #[.agg #[.pointer (some ⟨1, 56, none⟩)]]).run Tryd.prog w = .ok (.iface 94 (.agg #[.pointer (some ⟨1, 43, none⟩)])) w := by kernel_rfl
theorem implementsE (w : World) : (ReflectliteType.relation "Implements" ReflectliteType.implements_ #[.agg #[.pointer (some ⟨1, 43, none⟩)], .iface 94 (.agg #[.pointer (some ⟨1, 28, none⟩)])]).run Tryd.prog w = .ok (.bool true) w := by kernel_rfl
theorem typeOfE (v : Value) (w : World) : (ReflectliteType.typeOf #[.iface 43 v]).run Tryd.prog w = .ok (.iface 94 (.agg #[.pointer (some ⟨1, 43, none⟩)])) w := by kernel_rfl
theorem assignableE (w : World) : (ReflectliteType.relation "AssignableTo" ReflectliteType.assignableTo #[.agg #[.pointer (some ⟨1, 43, none⟩)], .iface 94 (.agg #[.pointer (some ⟨1, 43, none⟩)])]).run Tryd.prog w = .ok (.bool true) w := by kernel_rfl
theorem valueOfE (n : Int) (w : World) : (ReflectliteValue.unpack (.iface 43 (.int .i64 n))).run Tryd.prog w
    = .ok (.agg #[.pointer (some ⟨1, 43, none⟩), .pointer (some ⟨w.heap.size, 0, none⟩), .int .u64 130]) (w.alloc (.cells #[.int .i64 n] 43)) := by kernel_rfl
theorem elemOfP (w : World) : (Rtype.elem? 56).run Tryd.prog w = .ok (some 43) w := by kernel_rfl
theorem mkE (p : Addr) (w : World) : (ReflectliteValue.mk 43 p ReflectliteValue.flagAddr).run Tryd.prog w = .ok (.agg #[.pointer (some ⟨1, 43, none⟩), .pointer (some p), .int .u64 386]) w := by kernel_rfl
theorem elemVP (a p : Addr) (W : World) (ha : W.cell? a = some (.pointer (some p))) :
    (ReflectliteValue.method (ReflectliteValue.valueError "reflectlite.Value.Elem" 0) ReflectliteValue.elem #[.agg #[.pointer (some ⟨1, 56, none⟩), .pointer (some a), .int .u64 150]]).run Tryd.prog W
      = .ok (.agg #[.pointer (some ⟨1, 43, none⟩), .pointer (some p), .int .u64 386]) W := by
  rw [rlm]
  simp only [Sem.run_bind, partsP, Result.andThen]
  simp [ReflectliteValue.elem, loadVar, isAgg, underlying, Tryd.underlying56, ha, Result.andThen, elemOfP, mkE]
theorem rls (v x : Value) : ReflectliteValue.set #[v, x] = (do
    let (some (dst, a, fl), some (src, b, _)) := (← ReflectliteValue.parts v, ← ReflectliteValue.parts x)
      | unsupported (.noEntry "extern/(internal/reflectlite.Value).Set.zeroValue")
    if fl / ReflectliteValue.flagAddr % 2 == 0 then unsupported (.noEntry "extern/(internal/reflectlite.Value).Set.unaddressable")
    let val ← loadVar src b
    if ← Rtype.directlyAssignable dst src then storeVar dst a val
    else if ← Rtype.implements dst src then
      if (← Rtype.kind src) == 20 then
        match val with
        | .nilIface => unsupported (.noEntry "extern/reflectlite: a nil value of one interface type handed on as a value of another")
        | _ => storeVar dst a val
      else storeVar dst a (.iface src val)
    else panicString ("reflectlite.Set: value of type " ++ (← Rtype.spelt src) ++ " is not assignable to type " ++ (← Rtype.spelt dst))
    pure (.tuple #[])) := rfl
theorem partsEa (a : Addr) (w : World) : (ReflectliteValue.parts (.agg #[.pointer (some ⟨1, 43, none⟩), .pointer (some a), .int .u64 386])).run Tryd.prog w = .ok (some (43, a, 386)) w := by kernel_rfl
theorem partsE (a : Addr) (w : World) : (ReflectliteValue.parts (.agg #[.pointer (some ⟨1, 43, none⟩), .pointer (some a), .int .u64 130])).run Tryd.prog w = .ok (some (43, a, 130)) w := by kernel_rfl
theorem directE (w : World) : (Rtype.directlyAssignable 43 43).run Tryd.prog w = .ok true w := by kernel_rfl
theorem setE (ta b : Addr) (n : Int) (old : Value) (W : World) (hb : W.cell? b = some (.int .i64 n)) (ht : W.cell? ta = some old) (hf : W.frozen? ta = false) :
    (ReflectliteValue.set #[.agg #[.pointer (some ⟨1, 43, none⟩), .pointer (some ta), .int .u64 386], .agg #[.pointer (some ⟨1, 43, none⟩), .pointer (some b), .int .u64 130]]).run Tryd.prog W
      = .ok (.tuple #[]) (W.setCell ta (.int .i64 n)) := by
  rw [rls]
  simp only [Sem.run_bind, partsEa, partsE, Result.andThen]
  simp [ReflectliteValue.flagAddr, loadVar, isAgg, underlying, Tryd.underlying43, hb, Result.andThen, directE, storeVar, Value.cells, storeCells, Addr.add]
  rw [run_store Tryd.prog W ta _ _ (by rfl)]
  simp [ht, hf]

/-- The variable errors.errorType holds its type. -/
abbrev Laid (w : World) : Prop := w.cell? ⟨0, 0, none⟩ = some (.iface 94 (.agg #[.pointer (some ⟨1, 28, none⟩)]))

theorem laid_lt {w : World} (h : Laid w) : 0 < w.heap.size := by
  have h1 : w.cell? ⟨0, 0, none⟩ = some (.iface 94 (.agg #[.pointer (some ⟨1, 28, none⟩)])) := h
  rcases Nat.lt_or_ge 0 w.heap.size with h' | h'
  · exact h'
  · have e : w.heap[0]? = none := Array.getElem?_eq_none h'
    simp [World.cell?, e] at h1

set_option maxHeartbeats 4000000 in
theorem as_hit (n : Int) (t : Addr) (old : Value) (w : World) (hg : Laid w) (ht0 : w.cell? t = some old) (hf0 : w.frozen? t = false) :
    Calls Tryd.prog 30 #[.iface 43 (.int .i64 n), .iface 56 (.pointer (some t))] w fun ev w' => ev = .returned (.bool true) ∧ w' = ((((w.alloc (.cells #[.pointer (some t)] 56)).alloc (.cells #[.pointer (some ⟨1, 56, none⟩), .pointer (some ⟨w.heap.size, 0, none⟩), .int .u64 150] 75)).alloc (.cells #[.pointer (some ⟨1, 56, none⟩), .pointer (some ⟨w.heap.size, 0, none⟩), .int .u64 150] 75)).alloc (.cells #[.int .i64 n] 43)).setCell t (.int .i64 n) := by
  have h6 := @run_callFunc_extern Tryd.prog 49 _ (fun args => ReflectliteValue.unpack (args.getD 0 (.tuple #[]))) Tryd.func49 (by kernel_rfl) (by kernel_rfl) (by kernel_rfl) (by kernel_rfl)
  have h7 := @run_callFunc_extern Tryd.prog 50 _ (ReflectliteValue.methodAny (ReflectliteValue.valueError "reflectlite.Value.Type" 0) (fun t _ _ _ => ReflectliteType.toType t)) Tryd.func50 (by kernel_rfl) (by kernel_rfl) (by kernel_rfl) (by kernel_rfl)
  have h8 := @run_callFunc_extern Tryd.prog 51 _ (ReflectliteValue.method (ReflectliteValue.valueError "reflectlite.Value.IsNil" 0) ReflectliteValue.isNil) Tryd.func51 (by kernel_rfl) (by kernel_rfl) (by kernel_rfl) (by kernel_rfl)
  have h27 := @run_callFunc_extern Tryd.prog 92 _ (ReflectliteType.abiMethod fun t => do pure (.int .u8 (← Rtype.kind t))) Tryd.func92 (by kernel_rfl) (by kernel_rfl) (by kernel_rfl) (by kernel_rfl)
  have h37 := @run_callFunc_extern Tryd.prog 102 _ (ReflectliteType.method ReflectliteType.elem) Tryd.func102 (by kernel_rfl) (by kernel_rfl) (by kernel_rfl) (by kernel_rfl)
  have h38 := @run_callFunc_extern Tryd.prog 103 _ (ReflectliteType.relation "Implements" ReflectliteType.implements_) Tryd.func103 (by kernel_rfl) (by kernel_rfl) (by kernel_rfl) (by kernel_rfl)
  have h10 := @run_callFunc_extern Tryd.prog 66 _ ReflectliteType.typeOf Tryd.func66 (by kernel_rfl) (by kernel_rfl) (by kernel_rfl) (by kernel_rfl)
  have h35 := @run_callFunc_extern Tryd.prog 100 _ (ReflectliteType.relation "AssignableTo" ReflectliteType.assignableTo) Tryd.func100 (by kernel_rfl) (by kernel_rfl) (by kernel_rfl) (by kernel_rfl)
  have h11 := @run_callFunc_extern Tryd.prog 67 _ (ReflectliteValue.method (ReflectliteValue.valueError "reflectlite.Value.Elem" 0) ReflectliteValue.elem) Tryd.func67 (by kernel_rfl) (by kernel_rfl) (by kernel_rfl) (by kernel_rfl)
  have h12 := @run_callFunc_extern Tryd.prog 68 _ ReflectliteValue.set Tryd.func68 (by kernel_rfl) (by kernel_rfl) (by kernel_rfl) (by kernel_rfl)
  have tO := typeOfE
  have mA := methodAssignableTo
  have a25 := assignableE
  have v25 := valueOfE
  have f6 := valueOfP
  have f7 := typeP
  have mK := methodKind
  have mE := methodElem
  have mI := methodImplements
  have k27 := kindP
  have k25 := kindE
  have e27 := elemP
  have i25 := implementsE
  have n8 := isNilP ⟨w.heap.size, 0, none⟩ t ((w.alloc (.cells #[.pointer (some t)] 56)).alloc (.cells #[.pointer (some ⟨1, 56, none⟩), .pointer (some ⟨w.heap.size, 0, none⟩), .int .u64 150] 75)) (by simp)
  have hlt : 0 < w.heap.size := laid_lt hg
  have hg2 : ((w.alloc (.cells #[.pointer (some t)] 56)).alloc (.cells #[.pointer (some ⟨1, 56, none⟩), .pointer (some ⟨w.heap.size, 0, none⟩), .int .u64 150] 75)).cell? ⟨0, 0, none⟩ = some (.iface 94 (.agg #[.pointer (some ⟨1, 28, none⟩)])) := by
    rw [World.cell?_alloc_lt _ _ ⟨0, 0, none⟩ (by show 0 < (w.heap.push _).size; rw [Array.size_push]; omega), World.cell?_alloc_lt _ _ ⟨0, 0, none⟩ hlt]; exact hg
  have htl : t.block < w.heap.size := by
    rcases Nat.lt_or_ge t.block w.heap.size with h | h
    · exact h
    · simp [World.cell?, Array.getElem?_eq_none h] at ht0
  have el := elemVP ⟨w.heap.size, 0, none⟩ t (((w.alloc (.cells #[.pointer (some t)] 56)).alloc (.cells #[.pointer (some ⟨1, 56, none⟩), .pointer (some ⟨w.heap.size, 0, none⟩), .int .u64 150] 75)).alloc (.cells #[.pointer (some ⟨1, 56, none⟩), .pointer (some ⟨w.heap.size, 0, none⟩), .int .u64 150] 75)) (by rw [World.cell?_alloc_lt _ _ ⟨w.heap.size, 0, none⟩ (by simp; omega)]; simp)
  have st := setE t ⟨w.heap.size + 1 + 1 + 1, 0, none⟩ n old ((((w.alloc (.cells #[.pointer (some t)] 56)).alloc (.cells #[.pointer (some ⟨1, 56, none⟩), .pointer (some ⟨w.heap.size, 0, none⟩), .int .u64 150] 75)).alloc (.cells #[.pointer (some ⟨1, 56, none⟩), .pointer (some ⟨w.heap.size, 0, none⟩), .int .u64 150] 75)).alloc (.cells #[.int .i64 n] 43))
    (by rw [World.cell?_alloc_at _ _ _ _ (by simp)]; rfl)
    (by rw [World.cell?_alloc_lt _ _ t (by simp; omega), World.cell?_alloc_lt _ _ t (by simp; omega), World.cell?_alloc_lt _ _ t (by simp; omega), World.cell?_alloc_lt _ _ t htl]; exact ht0)
    (by rw [World.frozen?_alloc_old _ _ t (by simp; omega), World.frozen?_alloc_old _ _ t (by simp; omega), World.frozen?_alloc_old _ _ t (by simp; omega), World.frozen?_alloc_old _ _ t (Nat.ne_of_lt htl)]; exact hf0)
  go_enter Tryd.func30, Tryd.ntmps30
  go_wp2
  refine wp_loop_rounds 1 ?_
  rw [rounds_succ]
  go_wp2
  go_ret
  exact ⟨rfl, rfl⟩

end Go.Proofs.YtologiinkilooaaDoor.Told

/- Contracts of plain.Told and rankmeresame.Error: of nil and of an Errno; nothing that was there turns. The one premise: the variable errors.errorType holds its type. -/
namespace Go.Proofs.YtologiinkilooaaDoor
open Go.RowKit Go.Proofs.YtologiinkilooaaDoor.Told
set_option linter.unusedVariables false

theorem laid_kp {w w' : World} (h : Laid w) (hg : Kp w w') : Laid w' :=
  (hg.cell (p := ⟨0, 0, none⟩) (laid_lt h)).trans h

theorem toldK_nil (w : World) :
    Calls Tryd.prog 18 #[.nilIface] w fun e w' => e = .returned (.int .i64 0) ∧ w = w' := by
  go_enter Tryd.func18, Tryd.ntmps18
  go_wp2
  go_ret
  exact ⟨rfl, rfl⟩

set_option maxHeartbeats 4000000 in
theorem toldK_hit (n : Int) (w : World) (hg : Laid w) :
    Calls Tryd.prog 18 #[.iface 43 (.int .i64 n)] w fun e w' => e = .returned (.int .i64 n) ∧ Kp w w' := by
  have hgA := Lib.hid (laid_kp hg ((Kp.rfl' w).new (.cells #[.int .i64 0] 43)))
  clear hg
  go_enter Tryd.func18, Tryd.ntmps18
  go_wp2_with (go_at_call 30; refine (as_hit n _ (.int .i64 0) _ hgA.out (by simp) (by simp)).mono ?_; rintro e w' ⟨rfl, rfl⟩)
  go_ret
  exact ⟨rfl, ((((((Kp.rfl' w).new _).new _).new _).new _).new _)⟩

/-- rankmeresame.Error on no error. -/
theorem errorK_nil (c : Int) (w : World) (b : Bool) (hb : ((0 : Int) == c) = b) :
    Calls Tryd.prog 9 #[.nilIface, .int .i64 c] w fun e w' => e = .returned (.bool b) ∧ Kp w w' := by
  have H := Lib.hid hb
  clear hb
  go_enter Tryd.func9, Tryd.ntmps9
  go_wp2_with (go_at_call 18; refine (toldK_nil _).mono ?_; rintro e w' ⟨rfl, rfl⟩)
  go_ret
  exact ⟨congrArg (fun b => Ending.returned (.bool b)) H.out, Kp.rfl' _⟩

/-- rankmeresame.Error on an Errno. -/
theorem errorK_hit (n c : Int) (w : World) (hg : Laid w) (hn : 0 ≤ n ∧ n ≤ 100) (b : Bool) (hb : (n == c) = b) :
    Calls Tryd.prog 9 #[.iface 43 (.int .i64 n), .int .i64 c] w fun e w' => e = .returned (.bool b) ∧ Kp w w' := by
  have H := Lib.hid hb
  have HG := Lib.hid hg
  clear hb hg
  go_enter Tryd.func9, Tryd.ntmps9
  go_wp2_with (go_at_call 18; refine (toldK_hit _ _ HG.out).mono ?_; rintro e w' ⟨rfl, hw⟩)
  go_ret
  exact ⟨congrArg (fun b => Ending.returned (.bool b)) H.out, hw⟩

end Go.Proofs.YtologiinkilooaaDoor

/- rankmeresame.Error at the errors by number. -/
namespace Go.Proofs.YtologiinkilooaaDoor
open Go.ChangeShapes Go.WideShapes Go.ChangeAt Go.RowKit
set_option linter.unusedVariables false

/-- Error says yes to the error that is told. -/
theorem error_says (c : Nat) (w : World) (hl : Told.Laid w) (hc : c ≤ 100) :
    Calls Tryd.prog 9 #[errOf c, .int .i64 (c : Int)] w fun e w' => e = .returned (.bool true) ∧ Kp w w' := by
  by_cases h : c = 0
  · subst h; exact errorK_nil 0 w true rfl
  · rw [errOf_ne c h]
    exact errorK_hit c c w hl (by omega) true (by simp)

end Go.Proofs.YtologiinkilooaaDoor

/- The law CharSays. -/
namespace Go.Proofs.YtologiinkilooaaDoor
open Go.ChangeShapes Go.WideShapes Go.ChangeAt Go.RowKit
set_option linter.unusedVariables false

set_option maxRecDepth 100000 in
set_option maxHeartbeats 6400000 in
theorem chsays_good (A : Option Addr) (a : List (List Int)) (f : Nat → Nat → Fp.F) (n d : Nat) (w : World) (hl : Told.Laid w) (ha : LiesM w A a) (sa : Sh n n f a) :
    Calls Tryd.prog 3 #[.slice A n d] w fun e w' => e = .returned (.bool true) ∧ Kp w w' := by
  have HA := Lib.hid ha
  have HL := Lib.hid hl
  have n5 := sa.r5
  have hs := sa.eq
  have HAM := Lib.hid (show ∀ w', Kp w w' → LiesM w' A (Mx.matl n n f) from fun w' k => by rw [← hs]; exact ha.keep k)
  have SQ := Lib.hid (rSquare_any A a n d 5 0 9972 w ha sa.len (by omega))
  rw [sa.code2] at SQ
  have RC := Lib.hid (fun w h => rChar_any A f n d w h n5)
  have T1 := Lib.hid (fun w h => Trace_sh (A := A) sa d w h)
  have O1 := Lib.hid (fun w h => COf_sh (A := A) sa d w h)
  have ERR := Lib.hid (fun (wx : World) (hx : Kp w wx) => show Calls Tryd.prog 9 #[.nilIface, .int .i64 0] wx fun e w' => e = .returned (.bool true) ∧ Kp wx w' from error_says 0 wx (laid_kp HL.out hx) (by decide))
  clear ha hl hs sa
  go_enter Tryd.func3, Tryd.ntmps3
  go_wp2_with fail
  refine (SQ.out).mono ?_; rintro e w1 ⟨rfl, hd⟩
  have K1 := Lib.hid hd.kp
  clear hd
  go_wp2_with fail
  go_loopw [4, 6] (fun s u wr => ∃ k : Nat, k ≤ n ∧ u = .int .i64 (k : Int) ∧ s = .int .i64 ((Mx.sg k fun i => f i i).val : Int) ∧ Kp w wr) (fun _ u _ => n - (intOf u).toNat)
  case atStart => exact ⟨0, Nat.zero_le _, rfl, rfl, K1.out⟩
  case round =>
    obtain ⟨k, hk, rfl, rfl, hkp⟩ := hrel
    have HK := Lib.hid hkp
    by_cases hlt : k < n
    · obtain ⟨ad, A1, d1, rfl, _, x1, _, l1⟩ := (HAM.out wr hkp).row hlt
      obtain ⟨bd, rfl, _, x2⟩ := l1.el hlt
      have b1 := cval (Mx.sg k fun i => f i i)
      have b2 := cval (f k k)
      have MO := Lib.hid (fun w => rMod_any (((Mx.sg k fun i => f i i).val : Int) + ((f k k).val : Int)) w (by omega) (by omega))
      rw [show (((Mx.sg k fun i => f i i).val : Int) + ((f k k).val : Int)) % 9973 = ((Mx.sg (k + 1) fun i => f i i).val : Int) by rw [Mx.sg_succ, ← Fp.ofInt_val, Fp.ofInt_add, Fp.ofInt_self, Fp.ofInt_self]] at MO
      have hwa : IntKind.i64.wrap (((Mx.sg k fun i => f i i).val : Int) + ((f k k).val : Int)) = ((Mx.sg k fun i => f i i).val : Int) + ((f k k).val : Int) := IntWalk.i64_in _ (by omega)
      obtain ⟨z, hz⟩ : ∃ z, z = ((Mx.sg (k + 1) fun i => f i i).val : Int) := ⟨_, rfl⟩
      rw [← hz] at MO
      have HZ := Lib.hid hz
      generalize ((Mx.sg k fun i => f i i).val : Int) = s0 at *
      generalize ((f k k).val : Int) = v0 at *
      clear hkp l1 b1 b2 hz
      go_wp2_with fail
      refine (MO.out _).mono ?_; rintro e w' ⟨rfl, rfl⟩
      go_wp2_with fail
      go_roundw
      case rel => exact ⟨k + 1, by omega, by go_num, by rw [HZ.out], HK.out⟩
      case measure => simp [intOf]; omega
    · obtain rfl : k = n := by omega
      obtain ⟨wo, hwo⟩ : ∃ x, x = wr := ⟨_, rfl⟩
      subst hwo
      have R1 := Lib.hid (RC.out wo (HAM.out wo hkp))
      obtain ⟨tr, htr⟩ : ∃ tr, tr = ((Mx.sg k fun i => f i i).val : Int) := ⟨_, rfl⟩
      rw [← htr] at T1 ⊢
      have e0 : (tr == tr) = true := by simp
      clear hkp htr
      go_wp2_with fail
      refine (R1.out).mono ?_; rintro e w2 ⟨B, rfl, hb, k2⟩
      have LB := Lib.hid hb
      have K := Lib.hid (HK.out.trans k2)
      clear hb k2
      go_wp2_with fail
      refine (T1.out w2 (HA.out.keep K.out)).mono ?_; rintro e w3 ⟨rfl, k3⟩
      replace K := Lib.hid (K.out.trans k3); replace LB := Lib.hid (LB.out.keep k3); clear k3
      go_wp2_with fail
      refine (ERR.out w3 K.out).mono ?_; rintro e w4 ⟨rfl, k4⟩
      replace K := Lib.hid (K.out.trans k4); replace LB := Lib.hid (LB.out.keep k4); clear k4
      go_wp2_with fail
      refine (O1.out w4 (HA.out.keep K.out)).mono ?_; rintro e w5 ⟨Z, cz, rfl, hz, _, k5⟩
      replace K := Lib.hid (K.out.trans k5); replace LB := Lib.hid (LB.out.keep k5); have LZ := Lib.hid hz; clear k5 hz
      go_wp2_with fail
      refine (ERR.out w5 K.out).mono ?_; rintro e w6 ⟨rfl, k6⟩
      replace K := Lib.hid (K.out.trans k6); replace LB := Lib.hid (LB.out.keep k6); replace LZ := Lib.hid (LZ.out.keep k6); clear k6
      have IC := Lib.hid (same_eq Z B _ _ (k + 1) (k + 1) cz (k + 1) w6 LZ.out LB.out (by rw [Pol.len_vals, Mx.len_chl]) (by rw [Pol.len_vals, Mx.len_chl]) (by omega) rfl)
      go_wp2_with fail
      refine (IC.out).mono ?_; rintro e w7 ⟨rfl, k7⟩
      replace K := Lib.hid (K.out.trans k7); clear k7
      go_wp2_with fail
      go_ret
      exact ⟨ret_bool (by simp), K.out⟩

set_option maxRecDepth 100000 in
set_option maxHeartbeats 6400000 in
theorem chsays_bad (A : Option Addr) (a : List (List Int)) (n d : Nat) (w : World) (hl : Told.Laid w) (ha : LiesM w A a) (hn : a.length = n) (h : qcode 5 0 9972 a ≠ 0) :
    Calls Tryd.prog 3 #[.slice A n d] w fun e w' => e = .returned (.bool true) ∧ Kp w w' := by
  have HA := Lib.hid ha
  have HL := Lib.hid hl
  have SQ := Lib.hid (rSquare_any A a n d 5 0 9972 w ha hn (by omega))
  have T1 := Lib.hid (fun w ha => Trace_bad A a n d w ha hn h)
  have O1 := Lib.hid (fun w ha => COf_bad A a n d w ha hn h)
  have hz := qcode_le 5 0 9972 a
  have ERR := Lib.hid (fun (wx : World) (hx : Kp w wx) => error_says (qcode 5 0 9972 a) wx (laid_kp HL.out hx) (by omega))
  unfold Fails at O1
  rw [errOf_ne _ h] at T1 O1 ERR
  have e1 : ((qcode 5 0 9972 a : Int) == 0) = false := by rw [beq_eq_false_iff_ne]; omega
  generalize qcode 5 0 9972 a = z at *
  clear ha hl hn h
  go_enter Tryd.func3, Tryd.ntmps3
  go_wp2_with fail
  refine (SQ.out).mono ?_; rintro e w1 ⟨rfl, hd⟩
  have K := Lib.hid hd.kp
  clear hd
  go_wp2_with fail
  go_loopw [4, 6] (fun s u wr => u = .int .i64 0 ∧ s = .int .i64 0 ∧ w1 = wr) (fun _ _ _ => 0)
  case atStart => exact ⟨rfl, rfl, rfl⟩
  case round =>
    obtain ⟨rfl, rfl, rfl⟩ := hrel
    by_cases h0 : n = 0
    · have t0 : ¬ (0 : Int) < (n : Int) := by omega
      clear h0
      go_wp2_with fail
      refine (T1.out _ (HA.out.keep K.out)).mono ?_; rintro e w3 ⟨rfl, k3⟩
      replace K := Lib.hid (K.out.trans k3); clear k3
      go_wp2_with fail
      refine (ERR.out w3 K.out).mono ?_; rintro e w4 ⟨rfl, k4⟩
      replace K := Lib.hid (K.out.trans k4); clear k4
      go_wp2_with fail
      refine (O1.out w4 (HA.out.keep K.out)).mono ?_; rintro e w5 ⟨rfl, k5⟩
      replace K := Lib.hid (K.out.trans k5); clear k5
      go_wp2_with fail
      refine (ERR.out w5 K.out).mono ?_; rintro e w6 ⟨rfl, k6⟩
      replace K := Lib.hid (K.out.trans k6); clear k6
      go_wp2_with fail
      refine (same_nil w6).mono ?_; rintro e w7 ⟨rfl, k7⟩
      replace K := Lib.hid (K.out.trans k7); clear k7
      go_wp2_with fail
      go_ret
      exact ⟨ret_bool (by simp), K.out⟩
    · have t0 : (0 : Int) < (n : Int) := by omega
      clear h0
      go_wp2_with fail
      refine (T1.out _ (HA.out.keep K.out)).mono ?_; rintro e w3 ⟨rfl, k3⟩
      replace K := Lib.hid (K.out.trans k3); clear k3
      go_wp2_with fail
      refine (ERR.out w3 K.out).mono ?_; rintro e w4 ⟨rfl, k4⟩
      replace K := Lib.hid (K.out.trans k4); clear k4
      go_wp2_with fail
      refine (O1.out w4 (HA.out.keep K.out)).mono ?_; rintro e w5 ⟨rfl, k5⟩
      replace K := Lib.hid (K.out.trans k5); clear k5
      go_wp2_with fail
      refine (ERR.out w5 K.out).mono ?_; rintro e w6 ⟨rfl, k6⟩
      replace K := Lib.hid (K.out.trans k6); clear k6
      go_wp2_with fail
      refine (same_nil w6).mono ?_; rintro e w7 ⟨rfl, k7⟩
      replace K := Lib.hid (K.out.trans k7); clear k7
      go_wp2_with fail
      go_ret
      exact ⟨ret_bool (by simp), K.out⟩

theorem walk_CharSays (A : Option Addr) (a : List (List Int)) (d : Nat) (w : World) (hl : Told.Laid w) (ha : LiesM w A a) :
    Calls Tryd.prog 3 #[.slice A a.length d] w fun e w' => e = .returned (.bool true) ∧ Kp w w' := by
  rcases sq_or a rfl with ⟨f, sa⟩ | h
  · exact chsays_good A a f a.length d w hl ha sa
  · exact chsays_bad A a a.length d w hl ha rfl h
end Go.Proofs.YtologiinkilooaaDoor
