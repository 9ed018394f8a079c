/- The law IpolSum. -/
import Derived.Test.YteaonlmiifpjfaaIpFact
import Derived.Deep.RegionHeld3
import Derived.WalkSpells
namespace Go.Proofs.Yteaonlmiifpjfaa
open Go.ChangeShapes Go.WideShapes Go.ChangeAt Go.RowKit
set_option linter.unusedVariables false

theorem own_far {w : World} {B : Nat} {v : Value} {l : List Int} (h : Own w B v l) {p : Addr} (hp : p.block < B) : some p.block ≠ v.ownBlock := fun e => by
  have := (World.ownsRow.lt h _ e.symm).1
  omega
theorem row_snoc (n : Nat) (g : Nat → Fp.F) : Pol.row (n + 1) g = Pol.row n g ++ [g n] := by
  unfold Pol.row; rw [List.range_succ, List.map_append]; rfl

set_option maxRecDepth 100000 in
set_option maxHeartbeats 3200000 in
theorem sum_ok (A B C : Option Addr) (p q r : List Fp.F) (n ca cb cc : Nat) (w : World) (ha : Lies w A (Pol.vals p)) (hb : Lies w B (Pol.vals q)) (hc : Lies w C (Pol.vals r)) (hp : n = p.length) (hq : n = q.length) (hr : n = r.length) (ln : n ≤ 6) (lc : n ≤ ca) (hX : Pol.Apart (Pol.co p) n) :
    Calls Try.prog 5 #[.slice A n ca, .slice B n cb, .slice C n cc] w fun e w' => e = .returned (.bool true) ∧ Kp w w' := by
  have HA := Lib.hid ha
  have HB := Lib.hid hb
  have HC := Lib.hid hc
  have HP := Lib.hid hp
  have HQ := Lib.hid hq
  have HR := Lib.hid hr
  have HX := Lib.hid hX
  have LC := Lib.hid lc
  have LA := Lib.hid (Pol.len_thr (Pol.co p) (Pol.co q) n (by omega))
  have LB := Lib.hid (Pol.len_thr (Pol.co p) (Pol.co r) n (by omega))
  clear ha hb hc hp hq hr hX lc
  go_enter Try.func5, Try.ntmps5
  go_wp2_with fail
  refine (ipFact_any _).mono ?_; rintro e w1 ⟨rfl, hk⟩
  have K1 := Lib.hid hk
  clear hk
  go_wp2_with fail
  refine (through_ok A B p q n _ _ _ (HA.out.keep K1.out) (HB.out.keep K1.out) HP.out HQ.out ln LC.out HX.out).mono ?_
  rintro e w2 ⟨Aa, na, rfl, l, _, hk⟩
  have La := Lib.hid l
  have T2 := Lib.hid (K1.out.trans hk)
  clear l hk
  go_wp2_with fail
  refine (through_ok A C p r n _ _ _ (HA.out.keep T2.out) (HC.out.keep T2.out) HP.out HR.out ln LC.out HX.out).mono ?_
  rintro e w3 ⟨Ab, nb, rfl, l, _, hk⟩
  have Lb := Lib.hid l
  have K3 := Lib.hid hk
  have T3 := Lib.hid (T2.out.trans hk)
  clear l hk
  go_wp2_with fail
  go_loopw [12, 13] (fun v i wr => ∃ k : Nat, k ≤ n ∧ i = .int .i64 (k : Int) ∧ Own wr w3.heap.size v (Pol.vals (Pol.row k (fun i => Pol.co q i + Pol.co r i))) ∧ Kp w3 wr) (fun _ i _ => n - (intOf i).toNat)
  case atStart => exact ⟨0, Nat.zero_le _, rfl, Own.none _ _, Kp.rfl' _⟩
  case round =>
    obtain ⟨k, hk, rfl, hown, hkp⟩ := hrel
    have HO := Lib.hid hown
    have HK := Lib.hid hkp
    have hsz := hkp.size
    clear hown hkp
    by_cases hlt : k < n
    · obtain ⟨bd, rfl, _, yc⟩ := (HB.out.keep (T3.out.trans HK.out)) k (by rw [Pol.len_vals, ← HQ.out]; exact hlt)
      obtain ⟨cd, rfl, _, zc⟩ := (HC.out.keep (T3.out.trans HK.out)) k (by rw [Pol.len_vals, ← HR.out]; exact hlt)
      have NB := Lib.hid (own_far HO.out (p := bd.add k) (by obtain ⟨x, e, hx, _⟩ := HB.out k (by rw [Pol.len_vals, ← HQ.out]; exact hlt); cases e; rw [block_add]; exact Nat.lt_of_lt_of_le hx T3.out.size))
      have NC := Lib.hid (own_far HO.out (p := cd.add k) (by obtain ⟨x, e, hx, _⟩ := HC.out k (by rw [Pol.len_vals, ← HR.out]; exact hlt); cases e; rw [block_add]; exact Nat.lt_of_lt_of_le hx T3.out.size))
      rw [Pol.vals_at] at yc zc
      have HROW := Lib.hid (show Pol.vals (Pol.row (k + 1) (fun i => Pol.co q i + Pol.co r i)) = Pol.vals (Pol.row k (fun i => Pol.co q i + Pol.co r i)) ++ [((Pol.co q k + Pol.co r k).val : Int)] by
        rw [row_snoc, Pol.vals_append]; rfl)
      have y1 := Fp.val_bound (Pol.co q k)
      have z1 := Fp.val_bound (Pol.co r k)
      have MD := Lib.hid (fun w => refMod_el (((Pol.co q k).val : Int) + ((Pol.co r k).val : Int)) w (by omega) (by omega))
      rw [Fp.ofInt_add, Fp.ofInt_self, Fp.ofInt_self] at MD
      have hlen : (Pol.vals (Pol.row k (fun i => Pol.co q i + Pol.co r i))).length + 1 ≤ 17000000000000 := by rw [Pol.len_vals, Pol.len_row]; omega
      unfold el at *
      generalize hz : ((Pol.co q k + Pol.co r k).val : Int) = z at *
      clear hz
      generalize ((Pol.co q k).val : Int) = yv at *
      generalize ((Pol.co r k).val : Int) = zv at *
      have hw1 : IntKind.i64.wrap (yv + zv) = yv + zv := IntWalk.i64_in _ (by omega)
      clear y1 z1
      go_wp2_with fail
      go_region_held3 (fun w' => w'.cell? (bd.add k) = some (.int .i64 yv) ∧ w'.cell? (cd.add k) = some (.int .i64 zv))
        (first
        | go_keep
        | (refine ⟨World.grownBy.cell g6 ?_ NB.out, World.grownBy.cell g6 ?_ NC.out⟩ <;> go_keep))
        ((first
        | (refine step_push (by rfl) _ _ (by rfl) w3.heap.size _ (Pol.vals (Pol.row k (fun i => Pol.co q i + Pol.co r i))) z _ 1 (by rfl) (by rfl) ?_ ?_ hlen ?_ ?_; (· exact ((HO.out.drewN 1).new _)); (· simp; done); (· simp; omega); intro v' w' h1 g6 _)
        | (go_at_call 17; refine (MD.out _).mono ?_; rintro e w' ⟨rfl, rfl⟩)))
      have HO' := Lib.hid (show Own w' w3.heap.size v' (Pol.vals (Pol.row (k + 1) (fun i => Pol.co q i + Pol.co r i))) by rw [HROW.out]; exact h1)
      have HK' := Lib.hid (own_below ((HO.out.drewN 1).new _) ((HK.out.drewN 1).new _) (Nat.le_trans hsz (by simp)) g6)
      clear h1 g6
      go_wp2_with fail
      go_roundw
      case rel => exact ⟨k + 1, by omega, by go_num, HO'.out, HK'.out⟩
      case measure => simp [intOf]; omega
    · obtain rfl : k = n := by omega
      obtain ⟨As, cs, rfl, hl, _⟩ := HO.out.cap
      rw [Pol.len_vals, Pol.len_row]
      have LS := Lib.hid hl
      have T4 := Lib.hid (T3.out.trans HK.out)
      have EQ := Lib.hid (show Pol.thr (Pol.co p) (Pol.co (Pol.row k (fun i => Pol.co q i + Pol.co r i))) k = Pol.add (Pol.thr (Pol.co p) (Pol.co q) k) (Pol.thr (Pol.co p) (Pol.co r) k) by
        rw [← Pol.thr_sum _ _ _ _ (by omega) HX.out]
        exact (Pol.thr_congr (by omega) HX.out (fun _ _ => rfl) (fun i hi => Pol.co_row _ _ _ hi)).2)
      clear hl
      go_wp2_with fail
      refine (through_ok A As p (Pol.row k (fun i => Pol.co q i + Pol.co r i)) k _ _ _ (HA.out.keep T4.out) LS.out HP.out (Pol.len_row _ _).symm ln LC.out HX.out).mono ?_
      rintro e w5 ⟨Ac, nc, rfl, l, _, hk⟩
      rw [EQ.out] at l ⊢
      have Lc := Lib.hid l
      have K5 := Lib.hid hk
      have T5 := Lib.hid (T4.out.trans hk)
      clear l hk
      go_wp2_with fail
      refine (add_ok' Aa Ab (Pol.thr (Pol.co p) (Pol.co q) k) (Pol.thr (Pol.co p) (Pol.co r) k) _ _ _ _ _ (La.out.keep (K3.out.trans (HK.out.trans K5.out))) (Lb.out.keep (HK.out.trans K5.out)) rfl rfl (by have := LA.out; omega) (by have := LB.out; omega)).mono ?_
      rintro e w6 ⟨Ad, nd, rfl, l, _, hk⟩
      have Ld := Lib.hid l
      have K6 := Lib.hid hk
      have T6 := Lib.hid (T5.out.trans hk)
      have LL := Lib.hid (Pol.len_add (Pol.thr (Pol.co p) (Pol.co q) k) (Pol.thr (Pol.co p) (Pol.co r) k))
      clear l hk
      go_wp2_with fail
      refine (ints_eq' Ac Ad _ _ _ _ _ _ _ (Lc.out.keep K6.out) Ld.out rfl rfl (by have := LL.out; have := LA.out; have := LB.out; omega) rfl).mono ?_
      rintro e w7 ⟨rfl, hk7⟩
      have T7 := Lib.hid (T6.out.trans hk7)
      clear hk7
      go_wp2_with fail
      go_ret
      exact ⟨rfl, T7.out⟩

set_option maxRecDepth 100000 in
set_option maxHeartbeats 1600000 in
theorem sum_bad (A B C : Option Addr) (l m o : List Int) (ca cb cc : Nat) (w : World) (ha : Lies w A l) (hb : Lies w B m) (hc : Lies w C o) (lc : l.length ≤ ca) (h : dcode l m ≠ 0) :
    Calls Try.prog 5 #[.slice A l.length ca, .slice B m.length cb, .slice C o.length cc] w fun e w' => e = .returned (.bool true) ∧ Kp w w' := by
  have T1 := Lib.hid (fun (w' : World) (k : Kp w w') => through_bad A B l m ca cb w' (ha.keep k) (hb.keep k) lc h)
  have T2 := Lib.hid (fun (w' : World) (k : Kp w w') => through_some A C l o ca cc w' (ha.keep k) (hc.keep k) lc)
  unfold Fails at T1
  unfold SomeEr at T2
  have e := errOf_ne _ h
  rw [e] at T1
  clear e h ha hb hc lc
  generalize dcode l m = x at *
  generalize dcode l o = y at *
  generalize l.length = n1 at *
  generalize m.length = n2 at *
  generalize o.length = n3 at *
  go_enter Try.func5, Try.ntmps5
  go_wp2_with fail
  refine (ipFact_any _).mono ?_; rintro e w1 ⟨rfl, hk⟩
  have K1 := Lib.hid hk
  clear hk
  go_wp2_with fail
  refine (T1.out _ K1.out).mono ?_; rintro e w2 ⟨rfl, hk⟩
  have K2 := Lib.hid (K1.out.trans hk)
  clear hk
  go_wp2_with fail
  refine (T2.out _ K2.out).mono ?_; rintro e w3 ⟨v, rfl, hk⟩
  have K3 := Lib.hid (K2.out.trans hk)
  clear hk
  generalize errOf y = ey at *
  go_wp2_with fail
  go_ret
  exact ⟨rfl, K3.out⟩

set_option maxRecDepth 100000 in
set_option maxHeartbeats 1600000 in
theorem sum_bad2 (A B C : Option Addr) (l m o : List Int) (ca cb cc : Nat) (w : World) (ha : Lies w A l) (hb : Lies w B m) (hc : Lies w C o) (lc : l.length ≤ ca) (h0 : dcode l m = 0) (h : dcode l o ≠ 0) :
    Calls Try.prog 5 #[.slice A l.length ca, .slice B m.length cb, .slice C o.length cc] w fun e w' => e = .returned (.bool true) ∧ Kp w w' := by
  have T1 := Lib.hid (fun (w' : World) (k : Kp w w') => through_some A B l m ca cb w' (ha.keep k) (hb.keep k) lc)
  have T2 := Lib.hid (fun (w' : World) (k : Kp w w') => through_bad A C l o ca cc w' (ha.keep k) (hc.keep k) lc h)
  unfold Fails at T2
  unfold SomeEr at T1
  have e := errOf_ne _ h
  rw [e] at T2
  rw [h0, errOf_zero] at T1
  clear e h ha hb hc lc h0
  generalize dcode l o = y at *
  generalize l.length = n1 at *
  generalize m.length = n2 at *
  generalize o.length = n3 at *
  go_enter Try.func5, Try.ntmps5
  go_wp2_with fail
  refine (ipFact_any _).mono ?_; rintro e w1 ⟨rfl, hk⟩
  have K1 := Lib.hid hk
  clear hk
  go_wp2_with fail
  refine (T1.out _ K1.out).mono ?_; rintro e w2 ⟨v, rfl, hk⟩
  have K2 := Lib.hid (K1.out.trans hk)
  clear hk
  go_wp2_with fail
  refine (T2.out _ K2.out).mono ?_; rintro e w3 ⟨rfl, hk⟩
  have K3 := Lib.hid (K2.out.trans hk)
  clear hk
  go_wp2_with fail
  go_ret
  exact ⟨rfl, K3.out⟩

theorem walk_IpolSum (A : Option Addr) (l : List Int) (ca : Nat) (B : Option Addr) (m : List Int) (cb : Nat) (C : Option Addr) (o : List Int) (cc : Nat) (w : World) (ha : Lies w A l) (lc : l.length ≤ ca) (hb : Lies w B m) (hc : Lies w C o) :
    Calls Try.prog 5 #[.slice A l.length ca, .slice B m.length cb, .slice C o.length cc] w fun e w' => e = .returned (.bool true) ∧ Kp w w' := by
  by_cases h : dcode l m = 0
  · by_cases h' : dcode l o = 0
    · obtain ⟨p, q, rfl, rfl, h1, h2, h3⟩ := dcode_zero h
      obtain ⟨p', r, e, rfl, _, h5, _⟩ := dcode_zero h'
      obtain rfl := Pol.vals_inj e
      rw [Pol.len_vals, Pol.len_vals, Pol.len_vals, h2, h5]
      rw [Pol.len_vals] at lc
      exact sum_ok A B C p q r p.length ca cb cc w ha hb hc rfl h2.symm h5.symm h1 lc h3
    · exact sum_bad2 A B C l m o ca cb cc w ha hb hc lc h h'
  · exact sum_bad A B C l m o ca cb cc w ha hb hc lc h

end Go.Proofs.Yteaonlmiifpjfaa
