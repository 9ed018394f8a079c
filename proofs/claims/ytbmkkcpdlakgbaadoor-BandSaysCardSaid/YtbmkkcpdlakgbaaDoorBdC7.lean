/- Contracts of package band, seventh part: Full of a band. -/
import Derived.Test.YtbmkkcpdlakgbaaDoorBdC6
namespace Go.Proofs.YtbmkkcpdlakgbaaDoor
open Go.ChangeShapes Go.WideShapes Go.ChangeAt Go.RowKit
set_option linter.unusedVariables false

theorem BFull_bad (A B C : Option Addr) (L M N : List Int) (n q p c d f : Nat) (w : World) (ha : Lies w A L) (hb : Lies w B M) (hc : Lies w C N) (hn : L.length = n) (hq : M.length = q) (hp : N.length = p) (h : bcode L M N ≠ 0) :
    Calls Tryd.prog 14 #[.slice A n c, .slice B q d, .slice C p f] w fun e w' => e = .returned (.tuple #[.slice none 0 0, errOf (bcode L M N)]) ∧ w = w' := by
  subst hn hq hp
  have CK := Lib.hid (bChk_any A B C L M N c d f w ha hb hc)
  rw [errOf_ne _ h] at CK ⊢
  generalize bcode L M N = z at *
  generalize L.length = n at *
  generalize M.length = q at *
  generalize N.length = p at *
  clear ha hb hc h
  go_enter Tryd.func14, Tryd.ntmps14
  go_wp2_with fail
  refine (CK.out).mono ?_; rintro e w' ⟨rfl, rfl⟩
  go_wp2_with fail
  go_ret2
  exact ⟨rfl, rfl⟩
theorem BFull_big (A B C : Option Addr) (q c d f : Nat) (m a b : Nat → Fp.F) (w : World) (ha : Lies w A (rowF (q + 1) m)) (hb : Lies w B (rowF q a)) (hc : Lies w C (rowF q b)) (hq : q ≤ 9) (h : 4 < q) :
    Calls Tryd.prog 14 #[.slice A (q + 1) c, .slice B q d, .slice C q f] w fun e w' => e = .returned (.tuple #[.slice none 0 0, errOf 4]) ∧ w = w' := by
  have CK := Lib.hid (bChk_bd (c := c) (d := d) (f := f) ha hb hc hq)
  clear ha hb hc
  have e1 : (5 : Int) < ((q + 1 : Nat) : Int) := by omega
  generalize q + 1 = n at *
  go_enter Tryd.func14, Tryd.ntmps14
  go_wp2_with fail
  refine (CK.out).mono ?_; rintro e w' ⟨rfl, rfl⟩
  go_wp2_with fail
  go_ret2
  exact ⟨rfl, rfl⟩

/-- A matrix made. -/
def MadeM (n : Nat) (f : Nat → Nat → Fp.F) (w : World) (e : Ending) (w' : World) : Prop := ∃ A d, e = .returned (.tuple #[.slice A n d, .nilIface]) ∧ n ≤ d ∧ LiesM w' A (Mx.matl n n f) ∧ Kp w w'

theorem info_wide7 : (Tryd.prog.info? 54).map (·.size) = some 7 := by kernel_rfl

/-- The cells from the second one on, so many. -/
theorem slice7 (g n : Nat) (hn : n ≤ 5) (w : World) : (Instr.sliceAt 54 (.pointer (some ⟨g, 0, none⟩)) (some (.int .i64 1)) (some (.int .i64 ((n : Int) + 1))) none).run Tryd.prog w = .ok (.slice (some ⟨g, 1, none⟩) n 6) w := by
  obtain ⟨i0, hi, hz0, hz1, hz2⟩ := info_parts int_info
  have hu : Tryd.prog.underlying 54 = some (.array 7 3) := Tryd.underlying54
  have hl : Tryd.prog.arrayLen 54 = 7 := by unfold Program.arrayLen; rw [hu]
  have he : Tryd.prog.elem 54 = 3 := by unfold Program.elem; rw [hu]
  rw [run_sliceAt_array_lh w 54 _ (by rw [hl, he]; exact hu) .i64 .i64 1 ((n : Int) + 1) (by omega) (by omega) (by rw [hl]; omega)]
  simp [he, hl, sizeOf, typeInfo, hi, hz1, slicedAt, Addr.add]

set_option maxRecDepth 100000 in
set_option maxHeartbeats 6400000 in
theorem BFull_ok (A B C : Option Addr) (q c d f : Nat) (m a b : Nat → Fp.F) (w : World) (ha : Lies w A (rowF (q + 1) m)) (hb : Lies w B (rowF q a)) (hc : Lies w C (rowF q b)) (hq : q ≤ 4) :
    Calls Tryd.prog 14 #[.slice A (q + 1) c, .slice B q d, .slice C q f] w fun e w' => MadeM (q + 1) (Mx.bnd m a b) w e w' := by
  have CK := Lib.hid (bChk_bd (c := c) (d := d) (f := f) ha hb hc (by omega))
  have RO := Lib.hid (rowsOf_any A B C q c d f m a b w ha hb hc (by omega))
  clear ha hb hc
  obtain ⟨H, hH⟩ : ∃ H, H = ce m a b (q + 1) q q := ⟨_, rfl⟩
  have WR := Lib.hid (show ∀ k, k < q + 1 → ∀ j, j < q + 1 → ((Mx.bnd m a b k j).val : Int) = ((List.replicate 7 (0 : Int)).take k ++ [((H k 0).val : Int), ((H k 1).val : Int), ((H k 2).val : Int)] ++ (List.replicate 7 (0 : Int)).drop (k + 3)).getD (1 + j) 0 from fun k hk => by rw [hH]; exact wide_row m a b q k hk hq)
  rw [← hH] at RO
  clear hH
  generalize Mx.bnd m a b = F at *
  obtain ⟨n, hn⟩ : ∃ n, n = q + 1 := ⟨_, rfl⟩
  rw [← hn] at CK RO WR ⊢
  have hn0 : 0 < n := by omega
  have hn5 : n ≤ 5 := by omega
  have hn5i : decide ((5 : Int) < (n : Int)) = false := by simp; omega
  have hn10i : (n : Int) + 1 ≤ 7 := by omega
  obtain ⟨j0, hj, hz0, hz1, hz2⟩ := info_parts ints_info
  clear hn
  go_enter Tryd.func14, Tryd.ntmps14
  go_wp2_with fail
  refine (CK.out).mono ?_; rintro e w' ⟨rfl, rfl⟩
  go_wp2_with fail
  refine (RO.out).mono ?_; rintro e w1 ⟨rfl, hk1⟩
  go_wp2_with (first
    | (at_make; refine wpList_make_full _ rfl _ _ 28 rfl _ 22 j0 (.slice none 0 0) 1 Tryd.underlying28 hj hz0 hz1 _ _ _ _ n rfl rfl rfl rfl (by rw [hz2]; omega) (by unfold maxLen; omega) (Nat.le_refl _) ?_; intro w3 hown hgrow)
    | (refine wpList_store_aft 49 rfl _ _ rfl _ rfl (flat3 H) rfl (List.replicate 30 0) (Cl.made w1 (List.replicate 30 0)) (by rw [len_flat3]; rfl) (by rw [len_flat3]; exact info_rows) ?_; intro w2 hw2))
  have hne : w1.heap.size < w2.heap.size := by have := hw2.size; simp at this; omega
  have hwz := hk1.size
  have K3 : Kp w2 w3 := (Kp.rfl' w2).grown hgrow (by simp) (fun k hk => by cases hk)
  have G1 : Cl 49 w3 w1.heap.size (flat3 H) := hw2.own.keep K3
  have G2 : HdP w3 w2.heap.size (fun _ => 0) (fun _ => 0) n 0 (fun i j => ((F i j).val : Int)) := HdP.start _ hown
  have G3 : Kp w w3 := (hw2.kp (hk1.new _) (hk1.size)).trans K3
  clear hown hgrow hj hz0 hz1 hz2 K3 hw2 hk1
  obtain ⟨g1, hg1⟩ : ∃ x, x = w1.heap.size := ⟨_, rfl⟩
  obtain ⟨g2, hg2⟩ : ∃ x, x = w2.heap.size := ⟨_, rfl⟩
  rw [← hg1] at G1 hne hwz ⊢
  rw [← hg2] at G2 hne ⊢
  clear hg1 hg2
  have H1 := Lib.hid G1
  have H2 := Lib.hid G2
  have H3 := Lib.hid G3
  clear G1 G2 G3
  go_loopw [33] (fun i wr => ∃ (k : Nat) (G C : Nat → Nat), k ≤ n ∧ i = .int .i64 (k : Int) ∧ Cl 49 wr g1 (flat3 H) ∧ HdP wr g2 G C n k (fun i j => ((F i j).val : Int)) ∧ Kp w wr) (fun i _ => n - (intOf i).toNat)
  case atStart => exact ⟨0, _, _, Nat.zero_le _, rfl, H1.out, H2.out, H3.out⟩
  case round =>
    obtain ⟨k, G, C, hk, rfl, h1, h2, h3⟩ := hrel
    clear H1 H2 H3
    by_cases hlt : k < n
    · obtain ⟨w6, hw6⟩ : ∃ x, x = wr := ⟨_, rfl⟩
      subst hw6
      have H1 := Lib.hid h1
      have H2 := Lib.hid h2
      have H3 := Lib.hid h3
      have l1 := h1.lt
      have l2 := h2.lt
      clear h1 h2 h3
      have hk7 : (k : Int) ≤ 7 := by omega
      have hk10 : (k : Int) < 10 := by omega
      go_wp2_with fail
      obtain ⟨w7, hw7⟩ : ∃ w7, w7 = w6.alloc (.cells (ints (List.replicate 7 0)).toArray 54) := ⟨_, rfl⟩
      have I1 : Cl 49 w7 g1 (flat3 H) := by rw [hw7]; exact H1.out.new _
      have I2 : HdP w7 g2 G C n k (fun i j => ((F i j).val : Int)) := by rw [hw7]; exact H2.out.keep ((Kp.rfl' w6).new _)
      have I3 : Kp w w7 := by rw [hw7]; exact H3.out.new _
      have I4 : Cl 54 w7 w6.heap.size (List.replicate 7 0) := by rw [hw7]; exact Cl.made _ _
      change Code.wp _ _ _ _ (w6.alloc (.cells (ints (List.replicate 7 0)).toArray 54))
      rw [← hw7]
      have HW7 := Lib.hid hw7
      clear hw7
      have h7 : ¬ 7 = k := by omega
      go_still_tail 5, (by kernel_rfl)
      change wpList _ _ _ _ _ w7.drew
      go_wp2_with fail
      have D1 : Cl 49 w7.drew g1 (flat3 H) := I1
      have D4 : Cl 54 w7.drew w6.heap.size (List.replicate 7 0) := I4
      have hrun := cl_copy w7.drew 54 w6.heap.size k (7 - k) (7 - k) (some ⟨g1, k * 3, none⟩) [((H k 0).val : Int), ((H k 1).val : Int), ((H k 2).val : Int)] 3 3 3 (List.replicate 7 0) D4 rfl (by rw [List.length_replicate]; omega)
        (D1.liesAt (k * 3) (by rw [len_flat3]; show k * 3 + 3 ≤ 30; omega) fun j hj => by
          have hj : j < 3 := hj
          rw [flat3_at H (by omega) hj]
          rcases (show j = 0 ∨ j = 1 ∨ j = 2 by omega) with rfl | rfl | rfl <;> rfl) (by omega) (by omega)
      rw [hrun]
      obtain ⟨l, hl⟩ : ∃ l, l = (List.replicate 7 (0 : Int)).take k ++ [((H k 0).val : Int), ((H k 1).val : Int), ((H k 2).val : Int)] ++ (List.replicate 7 (0 : Int)).drop (k + 3) := ⟨_, rfl⟩
      have AF := cl_aft (m := l) D4
      have wr1 := WR.out k hlt
      rw [← hl] at wr1 ⊢
      have hll : l.length = 7 := by rw [hl]; simp; omega
      have J1 := AF.far (Nat.ne_of_lt l1) D1
      have J2 : HdP (w7.drew.setRow w6.heap.size (ints l).toArray) g2 G C n k (fun i j => ((F i j).val : Int)) := H2.out.keep (AF.kp (w0 := w6) (by rw [HW7.out]; exact ((Kp.rfl' w6).new _).drewN 1) (Nat.le_refl _))
      have J3 := AF.kp (I3.drewN 1) H3.out.size
      have J4 : Lies (w7.drew.setRow w6.heap.size (ints l).toArray) (some ⟨w6.heap.size, 1, none⟩) (Mx.row n fun j => ((F k j).val : Int)) := AF.own.liesAt 1 (by rw [Mx.len_row]; omega) fun j hj => by
        rw [Mx.len_row] at hj
        rw [Mx.row_at _ _ _ hj]; exact wr1 j hj
      obtain ⟨w8, hw8⟩ : ∃ w8, w8 = w7.drew.setRow w6.heap.size (ints l).toArray := ⟨_, rfl⟩
      rw [← hw8] at J1 J2 J3 J4 ⊢
      have CL := Lib.hid (show Calls Tryd.prog 22 #[.slice (some ⟨w6.heap.size, 1, none⟩) n 6] w8 fun e w' => ∃ z cz, e = .returned (.slice (some ⟨z, 0, none⟩) n cz) ∧ w8.heap.size ≤ z ∧ n ≤ cz ∧ Lies w' (some ⟨z, 0, none⟩) (Mx.row n fun j => ((F k j).val : Int)) ∧ Kp w8 w' by
        have h := sclone_any (some ⟨w6.heap.size, 1, none⟩) _ 6 w8 J4 (by rw [Mx.len_row]; omega)
        rw [Mx.len_row] at h
        refine h.mono ?_
        rintro e w'' ⟨v, rfl, hv, hk2⟩
        obtain ⟨z, cz, rfl, hz, hcz⟩ := own_some hv (by rw [Mx.len_row]; exact hn0)
        obtain ⟨A', c', e', hl'⟩ := hv.lies
        cases e'
        rw [Mx.len_row] at hcz ⊢
        exact ⟨z, cz, rfl, hz, hcz, hl', hk2⟩)
      have L1 := Lib.hid J1
      have L2 := Lib.hid J2
      have L3 := Lib.hid J3
      clear J1 J2 J3 J4 AF hrun hw8 hl hll wr1 D1 D4 I1 I2 I3 I4 HW7 H1 H2 H3
      have SL := Lib.hid (slice7 w6.heap.size n hn5 w8)
      go_wp2_with fail
      rw [SL.out]
      go_wp2_with fail
      refine (CL.out).mono ?_; rintro e w9 ⟨z, cz, rfl, hz, hcz, hlz, hk9⟩
      have hsz := L2.out.lt
      have M2 := L2.out.keep hk9
      have x1 := M2.cell (Nat.le_refl k) hlt
      have x2 := M2.free k
      have M2' := Lib.hid (M2.step hlt hlz hcz (by omega))
      have M1 := Lib.hid ((L1.out.keep hk9).far (a := ⟨g2, k, none⟩) (Nat.ne_of_lt hne) (.slice (some ⟨z, 0, none⟩) n cz))
      have M3 := Lib.hid ((L3.out.trans hk9).put (p := ⟨g2, k, none⟩) (by show w.heap.size ≤ g2; omega) (.slice (some ⟨z, 0, none⟩) n cz))
      clear M2 hlz hk9 hz CL
      go_wp2_with fail
      go_roundw
      case rel => exact ⟨k + 1, _, _, by omega, by go_num, M1.out, M2'.out, M3.out⟩
      case measure => simp [intOf]; omega
    · obtain rfl : k = n := by omega
      have H2 := Lib.hid h2
      have H3 := Lib.hid h3
      clear h1 h2 h3
      go_wp2_with fail
      go_ret2
      exact ⟨_, k, rfl, Nat.le_refl _, H2.out.lies, H3.out⟩

end Go.Proofs.YtbmkkcpdlakgbaaDoor
