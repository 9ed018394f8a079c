/- Contracts of package band, fifth part: Mul of a band and a row. -/
import Derived.Test.YtbmkkcpdlakgbaaDoorBdC4
namespace Go.Proofs.YtbmkkcpdlakgbaaDoor
open Go.ChangeShapes Go.WideShapes Go.ChangeAt Go.RowKit
set_option linter.unusedVariables false

theorem info_wide : (Tryd.prog.info? 53).map (·.size) = some 12 := by kernel_rfl

set_option maxRecDepth 100000 in
set_option maxHeartbeats 6400000 in
theorem BMul_ok (A B C X : Option Addr) (q c d f e : Nat) (m a b x : Nat → Fp.F) (w : World) (ha : Lies w A (rowF (q + 1) m)) (hb : Lies w B (rowF q a)) (hc : Lies w C (rowF q b)) (hq : q ≤ 9) (hx : Lies w X (rowF (q + 1) x)) :
    Calls Tryd.prog 12 #[.slice A (q + 1) c, .slice B q d, .slice C q f, .slice X (q + 1) e] w fun e w' => ∃ g, e = .returned (.tuple #[.slice (some ⟨g, 0, none⟩) (q + 1) (q + 1), .nilIface]) ∧ Row w' g (rowF (q + 1) (Mx.tov (q + 1) (Mx.bnd m a b) x)) ∧ Kp w w' := by
  have CK := Lib.hid (bChk_bd (c := c) (d := d) (f := f) ha hb hc hq)
  have EL := Lib.hid (show Calls Tryd.prog 17 #[.slice X (q + 1) e] w fun e w' => e = .returned (.bool true) ∧ w = w' by
    have := elements_any X (rowF (q + 1) x) e w hx (by rw [Mx.len_row]; omega) true ⟨fun _ => browF_in _ _, fun _ => rfl⟩
    rwa [Mx.len_row] at this)
  have RO := Lib.hid (rowsOf_any A B C q c d f m a b w ha hb hc hq)
  have HX := Lib.hid hx
  clear ha hb hc hx
  obtain ⟨H, hH⟩ : ∃ H, H = ce m a b (q + 1) q q := ⟨_, rfl⟩
  have ST := Lib.hid (show ∀ i, i < q + 1 → s3 H (wid (q + 1) x) i 3 = Mx.tov (q + 1) (Mx.bnd m a b) x i from fun i hi => by rw [hH]; exact s3_tov m a b x q i hi)
  rw [← hH] at RO
  clear hH
  generalize Mx.tov (q + 1) (Mx.bnd m a b) x = yy at *
  have e1 : ((((q + 1 : Nat) : Int)) != ((q + 1 : Nat) : Int)) = false := by simp
  have hn0 : 0 < q + 1 := by omega
  obtain ⟨n, hn⟩ : ∃ n, n = q + 1 := ⟨_, rfl⟩
  rw [← hn] at CK RO ST EL HX e1 hn0 ⊢
  have hn10 : n ≤ 10 := by omega
  have hn10i : (n : Int) ≤ 10 := by omega
  obtain ⟨j0, hj, hz0, hz1, hz2⟩ := info_parts int_info
  clear hn
  go_enter Tryd.func12, Tryd.ntmps12
  go_wp2_with fail
  refine (CK.out).mono ?_; rintro e w' ⟨rfl, rfl⟩
  go_wp2_with fail
  refine (EL.out).mono ?_; rintro e w' ⟨rfl, rfl⟩
  go_wp2_with fail
  refine (RO.out).mono ?_; rintro e w1 ⟨rfl, hk1⟩
  go_wp2_with (refine wpList_store_aft 49 rfl _ _ rfl _ rfl (flat3 H) rfl (List.replicate 30 0) (Cl.made w1 (List.replicate 30 0)) (by rw [len_flat3]; rfl) (by rw [len_flat3]; exact info_rows) ?_; intro w2 hw2)
  have hne : w1.heap.size < w2.heap.size := by have := hw2.size; simp at this; omega
  have hwz := hk1.size
  have G1 : Cl 49 (w2.alloc (.cells (ints (List.replicate 12 0)).toArray 53)) w1.heap.size (flat3 H) := hw2.own.new _
  have G2 : Cl 53 (w2.alloc (.cells (ints (List.replicate 12 0)).toArray 53)) w2.heap.size (List.replicate 12 0) := Cl.made _ _
  have G3 : Kp w (w2.alloc (.cells (ints (List.replicate 12 0)).toArray 53)) := (hw2.kp (hk1.new _) (hk1.size)).new _
  obtain ⟨w3, hw3⟩ : ∃ w3, w3 = w2.alloc (.cells (ints (List.replicate 12 0)).toArray 53) := ⟨_, rfl⟩
  rw [← hw3] at G1 G2 G3
  change Oper.upon _ _ _ _ _ ((Sem.run _ _ (w2.alloc (.cells (ints (List.replicate 12 0)).toArray 53))).andThen _)
  rw [← hw3]
  have hrun := cl_copy w3 53 w2.heap.size 1 11 11 X (rowF n x) n e 3 (List.replicate 12 0) G2 (Mx.len_row _ _) (by rw [List.length_replicate]; omega) (HX.out.keep G3) hn0 (by omega)
  rw [wid_copy n x hn10] at hrun
  rw [hrun]
  have AF := cl_aft (m := rowF 12 (wid n x)) G2
  obtain ⟨w4, hw4⟩ : ∃ w4, w4 = w3.setRow w2.heap.size (ints (rowF 12 (wid n x))).toArray := ⟨_, rfl⟩
  rw [← hw4] at AF ⊢
  have I1 := AF.far (Nat.ne_of_lt hne) G1
  have I2 := AF.own
  have I3 := AF.kp G3 (by omega)
  clear hw4 AF hrun hw3 G1 G2 G3 hw2 hk1
  obtain ⟨g1, hg1⟩ : ∃ x, x = w1.heap.size := ⟨_, rfl⟩
  obtain ⟨g2, hg2⟩ : ∃ x, x = w2.heap.size := ⟨_, rfl⟩
  rw [← hg1] at I1 hne hwz ⊢
  rw [← hg2] at I2 hne ⊢
  clear hg1 hg2
  have HI1 := Lib.hid I1
  have HI2 := Lib.hid I2
  have HI3 := Lib.hid I3
  clear I1 I2 I3
  go_wp2_with (at_make; refine wpList_make_full _ rfl _ _ 22 rfl w4.heap.size 3 j0 (.int .i64 0) 1 Tryd.underlying22 hj hz0 hz1 _ _ _ _ n rfl rfl rfl rfl (by rw [hz2]; omega) (by unfold maxLen; omega) (Nat.le_refl _) ?_; intro w5 hown hgrow)
  have K5 : Kp w4 w5 := (Kp.rfl' w4).grown hgrow (by simp) (fun k hk => by cases hk)
  have J1 := Lib.hid (HI1.out.keep K5)
  have J2 := Lib.hid (HI2.out.keep K5)
  have J3 := Lib.hid (HI3.out.trans K5)
  have J4 := Lib.hid (row_made hown)
  have n1 := HI1.out.lt
  have n2 := HI2.out.lt
  have n3 := HI3.out.size
  obtain ⟨gp, hgp⟩ : ∃ x, x = w4.heap.size := ⟨_, rfl⟩
  rw [← hgp] at J4 n1 n2 n3 ⊢
  clear hgp hown hgrow K5 HI1 HI2 HI3 hj hz0 hz1 hz2
  rw [pcol_zero H (wid n x)] at J4
  go_wp2_with fail
  go_loopw [46] (fun i wr => ∃ k : Nat, k ≤ n ∧ i = .int .i64 (k : Int) ∧ Cl 49 wr g1 (flat3 H) ∧ Cl 53 wr g2 (rowF 12 (wid n x)) ∧ Row wr gp (rowF n (pcol H (wid n x) k 0)) ∧ Kp w wr) (fun i _ => n - (intOf i).toNat)
  case atStart => exact ⟨0, Nat.zero_le _, rfl, J1.out, J2.out, J4.out, J3.out⟩
  case round =>
    obtain ⟨k, hk, rfl, h1, h2, h4, h3⟩ := hrel
    clear J1 J2 J3 J4
    by_cases hlt : k < n
    · have HR := Lib.hid (flat3_range h1 (i := k) (by omega))
      have H1 := Lib.hid h1
      have H2 := Lib.hid h2
      have H3 := Lib.hid h3
      have H4 := Lib.hid h4
      clear h1 h2 h3 h4
      obtain ⟨w6, hw6⟩ : ∃ x, x = wr := ⟨_, rfl⟩
      subst hw6
      obtain ⟨L, hL⟩ : ∃ L, L = ints [((H k 0).val : Int), ((H k 1).val : Int), ((H k 2).val : Int)] := ⟨_, rfl⟩
      rw [← hL] at HR
      have HLL := Lib.hid hL
      clear hL
      go_wp2_with (refine wpList_load_mid rfl 48 _ rfl g1 (k * 3) rfl L _ HR.out Tryd.underlying48 rfl (by rw [HLL.out]; exact info_row) ?_)
      go_loopw [52] (fun i wr => ∃ t : Nat, t ≤ 3 ∧ i = .int .i64 (t : Int) ∧ Cl 49 wr g1 (flat3 H) ∧ Cl 53 wr g2 (rowF 12 (wid n x)) ∧ Row wr gp (rowF n (pcol H (wid n x) k t)) ∧ Kp w wr) (fun i _ => 3 - (intOf i).toNat)
      case atStart => exact ⟨0, Nat.zero_le _, rfl, H1.out, H2.out, H4.out, H3.out⟩
      case round =>
        obtain ⟨t, ht, rfl, h1, h2, h4, h3⟩ := hrel
        clear HR H1 H2 H3 H4
        by_cases hlt2 : t < 3
        · obtain ⟨s, hs⟩ : ∃ s, s = k + t := ⟨_, rfl⟩
          have hsi : (k : Int) + (t : Int) = (s : Int) := by omega
          have hs12 : s < 12 := by omega
          have hs12i : (s : Int) < 12 := by omega
          have hidx := Lib.hid (fun wx => index_r3 L t ((H k t).val : Int) wx hlt2 (by
            rw [HLL.out]
            rcases (show t = 0 ∨ t = 1 ∨ t = 2 by omega) with rfl | rfl | rfl <;> rfl))
          have c1 := h2.cell s (by rw [Mx.len_row]; exact hs12)
          rw [Mx.row_at _ _ _ hs12] at c1
          have c2 := h4.cell k (by rw [Mx.len_row]; exact hlt)
          rw [Mx.row_at _ _ _ hlt, show pcol H (wid n x) k t k = s3 H (wid n x) k t by unfold pcol; rw [if_neg (by omega), if_pos rfl]] at c2
          have c3 := h4.free k
          have HSET := Lib.hid (pcol_more H (wid n x) t hlt)
          have hv := more_mod (s3 H (wid n x) k t) (H k t) (wid n x s)
          rw [show s3 H (wid n x) k t + H k t * wid n x s = s3 H (wid n x) k (t + 1) by rw [hs]; rfl] at hv
          have b1 := times_bound (H k t) (wid n x s)
          have b2 := gval (s3 H (wid n x) k t)
          have K1 := Lib.hid h1
          have K2 := Lib.hid h2
          have K3 := Lib.hid h3
          have K4 := Lib.hid h4
          obtain ⟨v, hv'⟩ : ∃ v, v = ((s3 H (wid n x) k (t + 1)).val : Int) := ⟨_, rfl⟩
          rw [← hv'] at hv HSET
          clear h1 h2 h3 h4 hs hv'
          generalize ((s3 H (wid n x) k t).val : Int) = z0 at *
          generalize ((H k t).val : Int) = z1 at *
          generalize ((wid n x s).val : Int) = z2 at *
          have hw1 : IntKind.i64.wrap (s : Int) = (s : Int) := IntWalk.i64_in _ (by omega)
          have hw2 : IntKind.i64.wrap (z1 * z2) = z1 * z2 := IntWalk.i64_in _ (by omega)
          have hw3 : IntKind.i64.wrap (z0 + z1 * z2) = z0 + z1 * z2 := IntWalk.i64_in _ (by omega)
          go_wp2_with fail
          rw [hidx.out]
          go_wp2_with fail
          clear hidx b1 b2
          go_still_tail 16, (by kernel_rfl)
          change wpList _ _ _ _ _ wr.drew
          go_wp2_with fail
          go_roundw
          case rel =>
            have a1 : Cl 49 wr.drew g1 (flat3 H) := K1.out
            have a2 : Cl 53 wr.drew g2 (rowF 12 (wid n x)) := K2.out
            have a4 : Row wr.drew gp (rowF n (pcol H (wid n x) k t)) := K4.out
            refine ⟨t + 1, by omega, by go_num, a1.far (Nat.ne_of_lt n1) _, a2.far (Nat.ne_of_lt n2) _, ?_, (K3.out.drewN 1).put (p := ⟨gp, k, none⟩) n3 _⟩
            rw [← HSET.out]
            exact a4.put _ _
          case measure => simp [intOf]; omega
        · obtain rfl : t = 3 := by omega
          rw [pcol_next] at h4
          have K1 := Lib.hid h1
          have K2 := Lib.hid h2
          have K3 := Lib.hid h3
          have K4 := Lib.hid h4
          clear h1 h2 h3 h4
          go_wp2_with fail
          go_roundw
          case rel => exact ⟨k + 1, by omega, by go_num, K1.out, K2.out, K4.out, K3.out⟩
          case measure => simp [intOf]; omega
    · obtain rfl : k = n := by omega
      have K3 := Lib.hid h3
      have K4 := Lib.hid h4
      clear h1 h2 h3 h4
      go_wp2_with fail
      go_ret2
      refine ⟨gp, rfl, ?_, K3.out⟩
      have := K4.out
      rw [show rowF k (pcol H (wid k x) k 0) = rowF k yy from Mx.row_ext fun j hj => by
        have : pcol H (wid k x) k 0 j = yy j := by unfold pcol; rw [if_pos hj]; exact ST.out j hj
        rw [this]] at this
      exact this

end Go.Proofs.YtbmkkcpdlakgbaaDoor
