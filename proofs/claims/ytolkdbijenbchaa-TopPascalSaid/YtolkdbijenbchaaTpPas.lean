/- The law TopPascal. -/
import Derived.Test.YtolkdbijenbchaaPhFact
import Derived.Test.YtolkdbijenbchaaDeC3
import Derived.Test.YtolkdbijenbchaaOwnM
namespace Go.Proofs.Ytolkdbijenbchaa
open Go.ChangeShapes Go.WideShapes Go.ChangeAt Go.RowKit
set_option linter.unusedVariables false

/-- Pascal's square modulo the prime. -/
def psq (i j : Nat) : Fp.F := Fp.ofInt (Zx.wy i j)
theorem psq_val : ∀ i, i < 5 → ∀ j, j < 5 → ((psq i j).val : Int) = Zx.wy i j := by decide +kernel
theorem psq_dt {n : Nat} (h1 : 1 ≤ n) (h5 : n ≤ 5) : ((Mx.dt n psq).val : Int) = 1 := by
  rcases (show n = 1 ∨ n = 2 ∨ n = 3 ∨ n = 4 ∨ n = 5 by omega) with rfl | rfl | rfl | rfl | rfl <;> decide +kernel
theorem one_ph {wd u : Nat} (hw : wd ≤ 4) (hu : u ≤ 6) : Ph wd [0] [u] [0] [(u : Int)] := ⟨hw, rfl, rfl, by decide, by decide, rfl, by show 0 < 7; decide, by show u < 7; omega⟩
theorem one_ap {wd u : Nat} (hu : u ≤ 6) : Zx.ap wd [0] [u] = Zx.wy wd u := by
  rw [Zx.ap1 wd (by omega), Zx.dt_d1]
  show Zx.way wd 0 u = _
  exact Zx.way_is wd u (by omega) (by omega)
set_option maxRecDepth 100000 in
set_option maxHeartbeats 6400000 in
theorem pascal_main (n : Int) (r u : Nat) (hr : r ≤ 4) (hu : u ≤ 6) (w : World) :
    Calls Try.prog 5 #[.int .i64 n, .int .i64 (r : Int), .int .i64 (u : Int)] w fun e w' => e = .returned (.bool true) ∧ Kp w w' := by
  have W0 := Lib.hid (fun w => PWay_ok 0 0 w (by decide) (by decide))
  rw [show Zx.wy 0 0 = 1 from rfl] at W0
  have W1 := Lib.hid (fun w => PWay_ok r u w hr hu)
  have AP := Lib.hid (fun (w1 : World) (g1 g2 : Nat) (h1 : Lies w1 (some ⟨g1, 0, none⟩) [0]) (h2 : Lies w1 (some ⟨g2, 0, none⟩) [(u : Int)]) => Apart_ok r [0] [u] [0] [(u : Int)] (one_ph hr hu) (some ⟨g1, 0, none⟩) (some ⟨g2, 0, none⟩) 1 1 1 1 w1 h1 h2 rfl rfl)
  rw [one_ap hu] at AP
  obtain ⟨z, hz⟩ : ∃ z, z = Zx.wy r u := ⟨_, rfl⟩
  rw [← hz] at W1 AP
  have ez : (z != z) = false := by simp
  clear hz
  by_cases hn : 1 ≤ n ∧ n ≤ 5
  · obtain ⟨N, rfl⟩ : ∃ N : Nat, n = (N : Int) := ⟨n.toNat, by omega⟩
    have IN := Lib.hid (fun w => topIn_any (N : Int) 1 5 w true (by rw [decide_eq_true hn.1, decide_eq_true hn.2]; rfl))
    have n1 : 1 ≤ N := by omega
    have n5 : N ≤ 5 := by omega
    have PV := Lib.hid (show Mx.tab N N Zx.wy = Mx.matl N N psq from Mx.tab_ext fun i j hi hj => (psq_val i (by omega) j (by omega)).symm)
    have DT := Lib.hid (fun (A' : Option Addr) (d' : Nat) (w' : World) (h : LiesM w' A' (Mx.matl N N psq)) => Of_ok A' psq N d' w' h (by omega) n5)
    rw [psq_dt n1 n5] at DT
    have PW := Lib.hid (fun (i j : Nat) (hi : i < N) (hj : j < N) (w' : World) => PWay_ok i j w' (by omega) (by omega))
    have WB := Lib.hid (fun (i j : Nat) (hi : i < N) (hj : j < N) => Zx.wy_most i (by omega) j (by omega))
    clear hn hr hu
    go_enter Try.func5, Try.ntmps5
    go_wp2_with fail
    refine (W0.out _).mono ?_; rintro e w1 ⟨rfl, k1⟩
    have K1 := Lib.hid k1
    clear k1
    go_wp2_with fail
    refine (W1.out _).mono ?_; rintro e w2 ⟨rfl, k2⟩
    have K2 := Lib.hid (K1.out.trans k2)
    clear k2
    go_wp2_with fail
    refine (AP.out _ w2.heap.size (w2.heap.size + 1) ((lies_new w2 _ [0]).keep ((Kp.rfl' _).new _)) (lies_new' (w2.alloc _) _ [(u : Int)] _ (by simp))).mono ?_; rintro e w3 ⟨rfl, k3⟩
    have K3 := Lib.hid (((K2.out.new _).new _).trans k3)
    clear k3 K1 K2 W0 W1 AP
    go_wp2_with fail
    refine (IN.out _).mono ?_; rintro e w4 ⟨rfl, rfl⟩
    go_wp2_with fail
    go_loopw [12, 13] (fun v i wr => ∃ (k : Nat) (G C : Nat → Nat), k ≤ N ∧ i = .int .i64 (k : Int) ∧ OwnM wr w3.heap.size v G C (Mx.tab k N Zx.wy) ∧ Kp w3 wr) (fun _ i _ => N - (intOf i).toNat)
    case atStart => exact ⟨0, fun _ => 0, fun _ => 0, Nat.zero_le _, rfl, ownM_none _ _ _ _, Kp.rfl' _⟩
    case round =>
      obtain ⟨k, G, C, hk, rfl, ho, hkp⟩ := hrel
      obtain ⟨wo, hwo⟩ : ∃ x, x = wr := ⟨_, rfl⟩
      subst hwo
      have HO := Lib.hid ho
      have HK := Lib.hid hkp
      clear ho hkp
      by_cases hlt : k < N
      · have HS := Lib.hid (show Mx.tab (k + 1) N Zx.wy = Mx.tab k N Zx.wy ++ [Mx.row N (Zx.wy k)] by rw [Mx.tab_snoc])
        go_wp2_with fail
        go_loopw [14, 15] (fun u i wq => ∃ t : Nat, t ≤ N ∧ i = .int .i64 (t : Int) ∧ Own wq wo.heap.size u (Mx.row t (Zx.wy k)) ∧ Kp wo wq) (fun _ i _ => N - (intOf i).toNat)
        case atStart => exact ⟨0, Nat.zero_le _, rfl, Own.none _ _, Kp.rfl' _⟩
        case round =>
          obtain ⟨t, ht, rfl, hu, hkq⟩ := hrel
          have HU := Lib.hid hu
          have HQ := Lib.hid hkq
          by_cases hlt2 : t < N
          · clear hu hkq
            have hlen : (Mx.row t (Zx.wy k)).length + 1 ≤ 17000000000000 := by rw [Mx.len_row]; omega
            have HSN := Lib.hid (Mx.row_snoc t (Zx.wy k))
            have wb := WB.out k t hlt hlt2
            have PW1 := Lib.hid (PW.out k t hlt hlt2)
            generalize Zx.wy k t = p at *
            have IN2 := Lib.hid (fun w' => topIn_any p 1 300 w' true (by rw [decide_eq_true (by omega), decide_eq_true (by omega)]; rfl))
            clear wb
            go_wp2_with fail
            refine (PW1.out _).mono ?_; rintro e w5 ⟨rfl, k5⟩
            have U6 := Lib.hid (HU.out.kp k5)
            have K6 := Lib.hid (HQ.out.trans k5)
            clear k5
            go_wp2_with fail
            refine (IN2.out _).mono ?_; rintro e w6 ⟨rfl, rfl⟩
            go_wp2_with (at_builtin; refine wpList_push rfl _ _ rfl wo.heap.size _ (Mx.row t (Zx.wy k)) p w5.heap.size 1 rfl rfl (U6.out.new _) (by simp; done) hlen (Nat.le_trans K6.out.size ((Kp.rfl' _).new _).size) ?_; intro v' w' h1 h2 _)
            have HU' := Lib.hid h1
            have HQ' := Lib.hid (own_below (U6.out.new _) (K6.out.new _) (by have := K6.out.size; simp; omega) h2)
            clear h1 h2
            go_wp2_with fail
            go_roundw
            case rel => exact ⟨t + 1, by omega, by go_num, by rw [HSN.out]; exact HU'.out, HQ'.out⟩
            case measure => simp [intOf]; omega
          · obtain rfl : t = N := by omega
            obtain ⟨g, gc, rfl, hg, hgc⟩ := own_some hu (by rw [Mx.len_row]; omega)
            rw [Mx.len_row] at HU hgc ⊢
            clear hu hkq
            have OM := Lib.hid (HO.out.kp HQ.out)
            have HAP := Lib.hid (show ∀ i, i < (Mx.tab k t Zx.wy).length → G i ≠ g from fun i hi => by have := (HO.out.lt hi).2; omega)
            go_wp2_with (at_builtin; refine wpList_pushM rfl _ _ rfl w3.heap.size _ G C (Mx.tab k t Zx.wy) _ g t gc _ 1 (Mx.len_row _ _) rfl rfl (OM.out.new _) (by simp; done) ((HU.out.from HK.out.size).new _) HAP.out (by rw [Mx.len_tab]; omega) (Nat.le_trans HK.out.size (Nat.le_trans HQ.out.size ((Kp.rfl' _).new _).size)) ?_; intro v' w' G' C' ho' hk')
            have HO' := Lib.hid ho'
            have HK' := Lib.hid (hk' w3 (Nat.le_refl _) ((HK.out.trans HQ.out).new _))
            clear ho' hk'
            go_wp2_with fail
            go_roundw
            case rel => exact ⟨k + 1, G', C', by omega, by go_num, by rw [HS.out]; exact HO'.out, HK'.out⟩
            case measure => simp [intOf]; omega
      · obtain rfl : k = N := by omega
        obtain ⟨A', d', rfl, hl, _⟩ := HO.out.lies
        rw [PV.out] at hl
        have D5 := Lib.hid (DT.out A' d' _ hl)
        rw [Mx.len_tab]
        clear hl
        go_wp2_with fail
        refine (D5.out).mono ?_; rintro e w5 ⟨rfl, k5⟩
        have K6 := Lib.hid ((K3.out.trans HK.out).trans k5)
        clear k5
        go_wp2_with fail
        go_ret
        exact ⟨rfl, K6.out⟩
  · have IN := Lib.hid (fun w => topIn_any n 1 5 w false (by
      by_cases h : 1 ≤ n
      · rw [decide_eq_true h, decide_eq_false (by omega)]; rfl
      · rw [decide_eq_false h]; rfl))
    clear hn hr hu
    go_enter Try.func5, Try.ntmps5
    go_wp2_with fail
    refine (W0.out _).mono ?_; rintro e w1 ⟨rfl, k1⟩
    have K1 := Lib.hid k1
    clear k1
    go_wp2_with fail
    refine (W1.out _).mono ?_; rintro e w2 ⟨rfl, k2⟩
    have K2 := Lib.hid (K1.out.trans k2)
    clear k2
    go_wp2_with fail
    refine (AP.out _ w2.heap.size (w2.heap.size + 1) ((lies_new w2 _ [0]).keep ((Kp.rfl' _).new _)) (lies_new' (w2.alloc _) _ [(u : Int)] _ (by simp))).mono ?_; rintro e w3 ⟨rfl, k3⟩
    have K3 := Lib.hid (((K2.out.new _).new _).trans k3)
    clear k3 K1 K2 W0 W1 AP
    go_wp2_with fail
    refine (IN.out _).mono ?_; rintro e w4 ⟨rfl, rfl⟩
    go_wp2_with fail
    go_ret
    exact ⟨rfl, K3.out⟩

set_option maxHeartbeats 800000 in
theorem walk_TopPascal (n r u : Int) (w : World) :
    Calls Try.prog 5 #[.int .i64 n, .int .i64 r, .int .i64 u] w fun e w' => e = .returned (.bool true) ∧ Kp w w' := by
  rcases st_or r u with ⟨a, b, rfl, rfl, ha, hb⟩ | h
  · exact pascal_main n a b ha hb w
  · have W0 := Lib.hid (fun w => PWay_ok 0 0 w (by decide) (by decide))
    rw [show Zx.wy 0 0 = 1 from rfl] at W0
    have W1 := Lib.hid (fun w => PWay_err r u w h)
    clear h
    go_enter Try.func5, Try.ntmps5
    go_wp2_with fail
    refine (W0.out _).mono ?_; rintro e w1 ⟨rfl, k1⟩
    have K1 := Lib.hid k1
    clear k1
    go_wp2_with fail
    refine (W1.out _).mono ?_; rintro e w2 ⟨rfl, rfl⟩
    go_wp2_with fail
    go_ret
    exact ⟨rfl, K1.out⟩

end Go.Proofs.Ytolkdbijenbchaa
