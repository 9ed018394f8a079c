/- Contracts of package tree, third part: withoutFirst, Count. -/
import Derived.Test.YtgfhmffkdhfoeaaDoorTrC2
import Derived.Test.YtgfhmffkdhfoeaaDoorOwnM
import Derived.Test.YtgfhmffkdhfoeaaDoorOwnH
import Derived.Test.YtgfhmffkdhfoeaaDoorDeC3
import Derived.Test.YtgfhmffkdhfoeaaDoorMatH
namespace Go.Proofs.YtgfhmffkdhfoeaaDoor
open Go.ChangeShapes Go.WideShapes Go.ChangeAt Go.RowKit
set_option linter.unusedVariables false

theorem rest_tmod {x : Int} (h1 : -15 ≤ x) (h2 : x ≤ 15) : (x + 9973).tmod 9973 = ((Fp.ofInt x).val : Int) := by
  rw [Fp.ofInt_val, Int.tmod_eq_emod_of_nonneg (by omega)]; omega
theorem add_from (g k i : Nat) : Addr.add ⟨g, k, none⟩ i = ⟨g, k + i, none⟩ := by
  unfold Addr.add
  by_cases h : i = 0
  · rw [if_pos h, h]; rfl
  · rw [if_neg h]

set_option maxRecDepth 100000 in
set_option maxHeartbeats 3200000 in
theorem first_any (g : Nat) (G : Nat → Nat) (n p : Nat) (f : Nat → Nat → Int) (w : World) (h : Grid w g G n n f) (hn : n = p + 1) (hp : 1 ≤ p) (h5 : p ≤ 5) (hf : ∀ i j, -15 ≤ f i j ∧ f i j ≤ 15) :
    Calls Tryd.prog 22 #[.slice (some ⟨g, 0, none⟩) n n] w fun e w' => ∃ A c, e = .returned (.slice A p c) ∧ LiesM w' A (Mx.matl p p fun i j => Fp.ofInt (f (i + 1) (j + 1))) ∧ Kp w w' := by
  have H := Lib.hid h
  have HN := Lib.hid hn
  have HF := Lib.hid hf
  have n1 : ¬ n = 1 := by omega
  have n2 : (1 : Int) ≤ n := by omega
  have n3 : n - 1 = p := by omega
  have n4 : (n : Int) - 1 = p := by omega
  clear h hn hf
  go_enter Tryd.func22, Tryd.ntmps22
  go_wp2_with fail
  go_loopw [3, 12] (fun v i wr => ∃ (k : Nat) (R C : Nat → Nat), k ≤ p ∧ i = .int .i64 (k : Int) ∧ OwnM wr w.heap.size v R C (Mx.tab k p fun i j => ((Fp.ofInt (f (i + 1) (j + 1))).val : Int)) ∧ Kp w wr) (fun _ i _ => p - (intOf i).toNat)
  case atStart => exact ⟨0, fun _ => 0, fun _ => 0, Nat.zero_le _, rfl, ownM_none _ _ _ _, Kp.rfl' _⟩
  case round =>
    obtain ⟨k, R, C, hk, rfl, ho, hkp⟩ := hrel
    obtain ⟨wo', hwo⟩ : ∃ x, x = wr := ⟨_, rfl⟩
    subst hwo
    have HO := Lib.hid ho
    have HK := Lib.hid hkp
    clear ho hkp
    by_cases hlt : k < p
    · have H1 := Lib.hid (H.out.keep HK.out)
      have x1 := H1.out.cell (i := 1 + k) (by have := HN.out; omega)
      have HS := Lib.hid (show Mx.tab (k + 1) p (fun i j => ((Fp.ofInt (f (i + 1) (j + 1))).val : Int)) = Mx.tab k p (fun i j => ((Fp.ofInt (f (i + 1) (j + 1))).val : Int)) ++ [Mx.row p fun j => ((Fp.ofInt (f (k + 1) (j + 1))).val : Int)] from Mx.tab_snoc _ _ _)
      go_wp2_with fail
      go_loopw [6, 19] (fun u i wq => ∃ t : Nat, t ≤ p ∧ i = .int .i64 (t : Int) ∧ Own wq wo'.heap.size u (Mx.row t fun j => ((Fp.ofInt (f (k + 1) (j + 1))).val : Int)) ∧ Kp wo' wq) (fun _ i _ => p - (intOf i).toNat)
      case atStart => exact ⟨0, Nat.zero_le _, rfl, Own.none _ _, Kp.rfl' _⟩
      case round =>
        obtain ⟨t, ht, rfl, hu, hkq⟩ := hrel
        have HU := Lib.hid hu
        have HQ := Lib.hid hkq
        by_cases hlt2 : t < p
        · have x2 := (H1.out.keep hkq).el (i := 1 + k) (j := 1 + t) (by have := HN.out; omega) (by have := HN.out; omega)
          have HSN := Lib.hid (Mx.row_snoc t fun j => ((Fp.ofInt (f (k + 1) (j + 1))).val : Int))
          have hlen : (Mx.row t fun j => ((Fp.ofInt (f (k + 1) (j + 1))).val : Int)).length + 1 ≤ 17000000000000 := by rw [Mx.len_row]; omega
          have hsz := HQ.out.size
          have b1 := HF.out (k + 1) (t + 1)
          have y1 := rest_tmod b1.1 b1.2
          rw [show f (1 + k) (1 + t) = f (k + 1) (t + 1) by rw [Nat.add_comm 1 k, Nat.add_comm 1 t]] at x2
          obtain ⟨z, hz⟩ : ∃ z, z = ((Fp.ofInt (f (k + 1) (t + 1))).val : Int) := ⟨_, rfl⟩
          rw [← hz] at HSN y1
          generalize f (k + 1) (t + 1) = x at *
          have v1 : IntKind.i64.wrap (x + 9973) = x + 9973 := IntWalk.i64_in _ (by omega)
          obtain ⟨wd, hwd⟩ : ∃ x, x = wr := ⟨_, rfl⟩
          subst hwd
          clear hu hkq hz
          go_wp2_with (at_builtin; refine wpList_push rfl _ _ rfl wo'.heap.size _ (Mx.row t fun j => ((Fp.ofInt (f (k + 1) (j + 1))).val : Int)) z wd.heap.size 1 rfl rfl (HU.out.new _) (by simp; done) hlen (Nat.le_trans hsz ((Kp.rfl' _).new _).size) ?_; intro v' w' h1 h2 _)
          have HU' := Lib.hid h1
          have HQ' := Lib.hid (own_below (HU.out.new _) (HQ.out.new _) (Nat.le_trans hsz ((Kp.rfl' _).new _).size) h2)
          clear h1 h2
          go_wp2_with fail
          go_roundw
          case rel => exact ⟨t + 1, by omega, by go_num, by rw [HSN.out]; exact HU'.out, HQ'.out⟩
          case measure => simp [intOf]; omega
        · obtain rfl : t = p := by omega
          obtain ⟨gr, gc, rfl, hg, hgc⟩ := own_some HU.out (by rw [Mx.len_row]; omega)
          rw [Mx.len_row] at HU hgc ⊢
          clear hu hkq
          have OM := Lib.hid (HO.out.kp HQ.out)
          have HAP := Lib.hid (show ∀ i, i < (Mx.tab k t fun i j => ((Fp.ofInt (f (i + 1) (j + 1))).val : Int)).length → R i ≠ gr from fun i hi => by have := (HO.out.lt hi).2; omega)
          have HLE := Lib.hid (show (Mx.tab k t fun i j => ((Fp.ofInt (f (i + 1) (j + 1))).val : Int)).length + 1 ≤ 1000000 by rw [Mx.len_tab]; omega)
          go_wp2_with (at_builtin; refine wpList_pushM rfl _ _ rfl w.heap.size _ R C (Mx.tab k t fun i j => ((Fp.ofInt (f (i + 1) (j + 1))).val : Int)) _ gr t gc _ 1 (Mx.len_row _ _) rfl rfl (OM.out.new _) (cell_made _ _ _ _ 0 rfl) ((HU.out.from HK.out.size).new _) HAP.out HLE.out (Nat.le_trans HK.out.size (Nat.le_trans HQ.out.size ((Kp.rfl' _).new _).size)) ?_; intro v' w' G' C' ho' hk')
          have HO' := Lib.hid ho'
          have HK' := Lib.hid (hk' w (Nat.le_refl _) ((HK.out.trans HQ.out).new _))
          clear ho' hk'
          go_wp2_with fail
          go_roundw
          case rel => exact ⟨k + 1, G', C', by omega, by go_num, by rw [HS.out]; exact HO'.out, HK'.out⟩
          case measure => simp [intOf]; omega
    · obtain rfl : k = p := by omega
      obtain ⟨A, d2, rfl, hl, _⟩ := HO.out.lies
      rw [Mx.len_tab] at *
      have HL := Lib.hid hl
      clear hl
      go_wp2_with fail
      go_ret
      exact ⟨A, d2, rfl, HL.out, HK.out⟩

/-- How many trees a graph has. -/
def trn (n : Nat) (l : List (Nat × Nat)) : Nat := Zx.trs (fun i => i) l (n - 1)
theorem Gr.trn_le {n : Nat} {l : List (Nat × Nat)} {m : List (List Int)} (s : Gr n l m) : trn n l ≤ 3003 := Zx.trs_le s.few (by have := s.n6; omega)
/-- It is a determinant, over whole numbers and over what the prime leaves. -/
theorem Gr.det {n p : Nat} {l : List (Nat × Nat)} {m : List (List Int)} (s : Gr n l m) (hn : n = p + 1) {r : Nat} (hr : r < n) : Zx.dt p (Zx.wo (lpm l) r r) = (trn n l : Int) := by
  subst hn
  exact Zx.kir s.ok (by omega)
theorem Gr.detF {n p : Nat} {l : List (Nat × Nat)} {m : List (List Int)} (s : Gr n l m) (hn : n = p + 1) : ((Mx.dt p fun i j => Fp.ofInt (lpm l (i + 1) (j + 1))).val : Int) = (trn n l : Int) := by
  have h := s.det hn (r := 0) (by omega)
  have h2 := s.trn_le
  have e := Zx.dt_ofInt p (Zx.wo (lpm l) 0 0)
  rw [h] at e
  have e2 : (Mx.dt p fun i j => Fp.ofInt (Zx.wo (lpm l) 0 0 i j)) = Mx.dt p fun i j => Fp.ofInt (lpm l (i + 1) (j + 1)) := by
    congr 1
  rw [← e2, ← e, Fp.ofInt_of _ (by omega) (by omega)]

set_option maxHeartbeats 800000 in
theorem TCnt_no (n : Int) (A : Option Addr) (m : List (List Int)) (q d : Nat) (w : World) (ha : LiesM w A m) (hq : m.length = q) (h : trcd n m ≠ 0) :
    Calls Tryd.prog 12 #[.int .i64 n, .slice A q d] w fun e w' => e = .returned (.tuple #[.int .i64 0, errOf (trcd n m)]) ∧ Kp w w' := by
  have CK := Lib.hid (Lapl_no n A m q d w ha hq h)
  rw [errOf_ne _ h] at CK ⊢
  generalize trcd n m = z at *
  clear ha hq h
  go_enter Tryd.func12, Tryd.ntmps12
  go_wp2_with fail
  refine (CK.out).mono ?_; rintro e w' ⟨rfl, hd⟩
  have K1 := Lib.hid hd
  clear hd
  go_wp2_with fail
  go_ret2
  exact ⟨rfl, K1.out⟩

set_option maxHeartbeats 1600000 in
theorem TCnt_ok (n : Nat) (l : List (Nat × Nat)) (m : List (List Int)) (s : Gr n l m) (A : Option Addr) (q d : Nat) (w : World) (ha : LiesM w A m) (hq : m.length = q) :
    Calls Tryd.prog 12 #[.int .i64 (n : Int), .slice A q d] w fun e w' => e = .returned (.tuple #[.int .i64 (trn n l : Int), .nilIface]) ∧ Kp w w' := by
  have LA := Lib.hid (Lapl_ok n l m s A q d w ha hq)
  by_cases h1 : n = 1
  · have e1 : ((n : Int) == 1) = true := by rw [h1]; rfl
    have E := Lib.hid (show trn n l = 1 by rw [h1]; cases l <;> rfl)
    clear ha hq s h1
    go_enter Tryd.func12, Tryd.ntmps12
    go_wp2_with fail
    refine (LA.out).mono ?_; rintro e w' ⟨g, G, rfl, hg, hlt, hk⟩
    have K1 := Lib.hid hk
    clear hk hg hlt
    go_wp2_with fail
    go_ret2
    exact ⟨by rw [E.out]; rfl, K1.out⟩
  · have e1 : ((n : Int) == 1) = false := by rw [beq_eq_false_iff_ne]; omega
    obtain ⟨p, hp⟩ : ∃ p, n = p + 1 := ⟨n - 1, by have := s.n1; omega⟩
    have p1 : 1 ≤ p := by omega
    have p5 : p ≤ 5 := by have := s.n6; omega
    have WF := Lib.hid (fun g G w h => first_any g G n p (lpm l) w h hp p1 p5 (lpm_ab s.few))
    have DO := Lib.hid (fun A d w h => Of_ok A (fun i j => Fp.ofInt (lpm l (i + 1) (j + 1))) p d w h p1 p5)
    rw [s.detF hp] at DO
    generalize (trn n l : Int) = z at *
    clear ha hq s h1 hp p1 p5
    go_enter Tryd.func12, Tryd.ntmps12
    go_wp2_with fail
    refine (LA.out).mono ?_; rintro e w1 ⟨g, G, rfl, hg, hlt, hk⟩
    have K1 := Lib.hid hk
    have G1 := Lib.hid hg
    clear hk hg hlt
    go_wp2_with fail
    refine (WF.out _ _ _ G1.out).mono ?_; rintro e w2 ⟨B, c, rfl, hl, hk⟩
    have K2 := Lib.hid (K1.out.trans hk)
    have L2 := Lib.hid hl
    clear hk hl
    go_wp2_with fail
    refine (DO.out _ _ _ L2.out).mono ?_; rintro e w3 ⟨rfl, hk⟩
    have K3 := Lib.hid (K2.out.trans hk)
    clear hk
    go_wp2_with fail
    go_ret2
    exact ⟨rfl, K3.out⟩

end Go.Proofs.YtgfhmffkdhfoeaaDoor
