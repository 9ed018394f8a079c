/- Contracts of package tree, second part: Laplace. -/
import Derived.Test.YtgfhmffkdhfoeaaDoorTrC1
import Derived.StillTailTactics
import Derived.Deep.Cut
namespace Go.Proofs.YtgfhmffkdhfoeaaDoor
open Go.ChangeShapes Go.WideShapes Go.ChangeAt Go.RowKit
set_option linter.unusedVariables false

/-- A graph's matrix. -/
def lpm (l : List (Nat × Nat)) : Nat → Nat → Int := Zx.lap (fun i => i) l
theorem take_more {α : Type} (d : α) : ∀ {l : List α} {k : Nat}, k < l.length → l.take (k + 1) = l.take k ++ [l.getD k d]
  | [], k, h => absurd h (by simp)
  | x :: l, 0, _ => rfl
  | x :: l, k + 1, h => by
    rw [List.take_succ_cons, take_more d (l := l) (k := k) (by rw [List.length_cons] at h; omega), List.take_succ_cons, List.getD_cons_succ]; rfl
theorem lpm_next {l : List (Nat × Nat)} {k : Nat} (hk : k < l.length) (i j : Nat) : lpm (l.take (k + 1)) i j = lpm (l.take k) i j + Zx.ed (l.getD k (0, 0)).1 (l.getD k (0, 0)).2 i j := by
  unfold lpm
  rw [take_more (0, 0) hk, Zx.lap_cat]
  show _ + (Zx.ed (l.getD k (0, 0)).1 (l.getD k (0, 0)).2 i j + 0) = _
  omega
theorem lpm_ab {l : List (Nat × Nat)} (h : l.length ≤ 15) (i j : Nat) : -15 ≤ lpm l i j ∧ lpm l i j ≤ 15 := by
  have := Zx.lap_ab (fun i => i) l i j
  unfold lpm
  omega
/-- One cell told anew. -/
def bmp (f : Nat → Nat → Int) (a b : Nat) (x : Int) : Nat → Nat → Int := fun i j => if i = a ∧ j = b then x else f i j
theorem bmp_here (f : Nat → Nat → Int) (a b : Nat) (x : Int) : bmp f a b x a b = x := if_pos ⟨rfl, rfl⟩
theorem bmp_else (f : Nat → Nat → Int) (a b : Nat) (x : Int) {i j : Nat} (h : ¬ (i = a ∧ j = b)) : bmp f a b x i j = f i j := if_neg h
theorem bmp_ed (f : Nat → Nat → Int) {a b : Nat} (hne : a ≠ b) (i j : Nat) : bmp (bmp (bmp (bmp f a a (f a a + 1)) b b (f b b + 1)) a b (f a b - 1)) b a (f b a - 1) i j = f i j + Zx.ed a b i j := by
  unfold Zx.ed
  by_cases c1 : i = a
  · subst c1
    by_cases c2 : j = i
    · subst c2
      rw [bmp_else _ _ _ _ (by omega), bmp_else _ _ _ _ (by omega), bmp_else _ _ _ _ (by omega), bmp_here, Zx.un1_self, Zx.un1_ne hne]; omega
    · by_cases c3 : j = b
      · subst c3
        rw [bmp_else _ _ _ _ (by omega), bmp_here, Zx.un1_self, Zx.un1_ne hne, Zx.un1_ne c2, Zx.un1_self]; omega
      · rw [bmp_else _ _ _ _ (by omega), bmp_else _ _ _ _ (by omega), bmp_else _ _ _ _ (by omega), bmp_else _ _ _ _ (by omega), Zx.un1_ne c2, Zx.un1_ne c3]; omega
  · by_cases c4 : i = b
    · subst c4
      by_cases c2 : j = i
      · subst c2
        rw [bmp_else _ _ _ _ (by omega), bmp_else _ _ _ _ (by omega), bmp_here, Zx.un1_self, Zx.un1_ne c1]; omega
      · by_cases c3 : j = a
        · subst c3
          rw [bmp_here, Zx.un1_self, Zx.un1_ne c1, Zx.un1_ne c2, Zx.un1_self]; omega
        · rw [bmp_else _ _ _ _ (by omega), bmp_else _ _ _ _ (by omega), bmp_else _ _ _ _ (by omega), bmp_else _ _ _ _ (by omega), Zx.un1_ne c2, Zx.un1_ne c3]; omega
    · rw [bmp_else _ _ _ _ (by omega), bmp_else _ _ _ _ (by omega), bmp_else _ _ _ _ (by omega), bmp_else _ _ _ _ (by omega), Zx.un1_ne c1, Zx.un1_ne c4]; omega
theorem Grid.bump {w : World} {g : Nat} {G : Nat → Nat} {r c : Nat} {f : Nat → Nat → Int} (h : Grid w g G r c f) {i : Nat} (hi : i < r) (j : Nat) (x : Int) : Grid (w.setCell ⟨G i, j, none⟩ (.int .i64 x)) g G r c (bmp f i j x) := h.put hi j x
/-- A matrix made of its own. -/
def GotG (n : Nat) (f : Nat → Nat → Int) (w : World) (e : Ending) (w' : World) : Prop := ∃ g G, e = .returned (.tuple #[.slice (some ⟨g, 0, none⟩) n n, .nilIface]) ∧ Grid w' g G n n f ∧ w.heap.size ≤ g ∧ Kp w w'

set_option maxHeartbeats 800000 in
theorem Lapl_no (n : Int) (A : Option Addr) (m : List (List Int)) (q d : Nat) (w : World) (ha : LiesM w A m) (hq : m.length = q) (h : trcd n m ≠ 0) :
    Calls Tryd.prog 10 #[.int .i64 n, .slice A q d] w fun e w' => e = .returned (.tuple #[.slice none 0 0, errOf (trcd n m)]) ∧ Kp w w' := by
  have CK := Lib.hid (TChk_any n A m q d w ha hq)
  rw [errOf_ne _ h] at CK ⊢
  generalize trcd n m = z at *
  clear ha hq h
  go_enter Tryd.func10, Tryd.ntmps10
  go_wp2_with fail
  refine (CK.out).mono ?_; rintro e w' ⟨rfl, hd⟩
  have K1 := Lib.hid hd.kp
  clear hd
  go_wp2_with fail
  go_ret2
  exact ⟨rfl, K1.out⟩

set_option maxRecDepth 100000 in
set_option maxHeartbeats 3200000 in
theorem Lapl_ok (n : Nat) (l : List (Nat × Nat)) (m : List (List Int)) (s : Gr n l m) (A : Option Addr) (q d : Nat) (w : World) (ha : LiesM w A m) (hq : m.length = q) :
    Calls Tryd.prog 10 #[.int .i64 (n : Int), .slice A q d] w fun e w' => GotG n (lpm l) w e w' := by
  have CK := Lib.hid (TChk_any (n : Int) A m q d w ha hq)
  rw [s.code, errOf_zero] at CK
  have HA := Lib.hid ha
  have hn6 := s.n6
  have HS := Lib.hid s
  have hql : q = l.length := by rw [← hq, s.len]
  have q15 : q ≤ 15 := by rw [hql]; exact s.few
  have HQ := Lib.hid hql
  obtain ⟨i0, hi, hz0, hz1, hz2⟩ := info_parts int_info
  obtain ⟨j0, hj, hy0, hy1, hy2⟩ := info_parts ints_info
  clear ha hq s hql
  go_enter Tryd.func10, Tryd.ntmps10
  go_wp2_with fail
  refine (CK.out).mono ?_; rintro e w1 ⟨rfl, hd⟩
  have K1 := Lib.hid hd.kp
  clear hd
  go_wp2_with (at_make; refine wpList_make_full _ rfl _ _ 22 rfl w1.heap.size 28 j0 (.slice none 0 0) 1 Tryd.underlying22 hj hy0 hy1 _ _ _ _ n rfl rfl rfl rfl (by rw [hy2]; omega) (by unfold maxLen; omega) (Nat.le_refl _) ?_; intro w2 hown hgrow)
  have hpart : Part w2 w1.heap.size (fun _ => 0) n n 0 := Part.start hown
  have hkp : Kp w w2 := K1.out.trans ((Kp.rfl' w1).grown hgrow (by simp) (fun k hk => by cases hk))
  have hwg : w.heap.size ≤ w1.heap.size := K1.out.size
  clear hown hgrow hj hy0 hy1 hy2 CK K1
  obtain ⟨g, hg⟩ : ∃ g, g = w1.heap.size := ⟨_, rfl⟩
  rw [← hg] at hpart hwg ⊢
  clear hg
  have HP0 := Lib.hid hpart
  have HK0 := Lib.hid hkp
  clear hpart hkp
  go_loopw [23] (fun i wr => ∃ (k : Nat) (G : Nat → Nat), k ≤ n ∧ i = .int .i64 (k : Int) ∧ Part wr g G n n k ∧ Kp w wr) (fun i _ => n - (intOf i).toNat)
  case atStart => exact ⟨0, _, Nat.zero_le _, rfl, HP0.out, HK0.out⟩
  case round =>
    obtain ⟨k, G, hk, rfl, hp, hkp⟩ := hrel
    clear HP0 HK0
    have HP := Lib.hid hp
    have HK := Lib.hid hkp
    clear hp hkp
    by_cases hlt : k < n
    · go_wp2_with (at_make; refine wpList_make_full _ rfl _ _ 28 rfl wr.heap.size 3 i0 (.int .i64 0) 1 Tryd.underlying28 hi hz0 hz1 _ _ _ _ n rfl rfl rfl rfl (by rw [hz2]; omega) (by unfold maxLen; omega) (Nat.le_refl _) ?_; intro w3 hown hgrow; have hkp2 : Kp wr w3 := (Kp.rfl' wr).grown hgrow (by simp) (fun k hk => by cases hk); have hcell := (HP.out.keep hkp2).cell (Nat.le_refl k) hlt; have hfree := (HP.out.keep hkp2).free k)
      go_roundw
      case rel => exact ⟨k + 1, _, by omega, by go_num, HP.out.step hlt (row_made hown) hkp2, (HK.out.trans hkp2).put (p := ⟨g, k, none⟩) hwg _⟩
      case measure => simp [intOf]; omega
    · obtain rfl : k = n := by omega
      have GR := Lib.hid (show Grid wr g G k k (lpm (l.take 0)) from HP.out.done.ext fun _ _ _ _ => rfl)
      clear HP hi hz0 hz1 hz2
      go_wp2_with fail
      go_loopw [34] (fun i wq => ∃ j : Nat, j ≤ q ∧ i = .int .i64 (j : Int) ∧ Grid wq g G k k (lpm (l.take j)) ∧ Kp w wq) (fun i _ => q - (intOf i).toNat)
      case atStart => exact ⟨0, Nat.zero_le _, rfl, GR.out, HK.out⟩
      case round =>
        obtain ⟨j, hj, rfl, hgr, hkq⟩ := hrel
        obtain ⟨wo, hwo⟩ : ∃ x, x = wr := ⟨_, rfl⟩
        subst hwo
        by_cases hlt2 : j < q
        · have hjl : j < l.length := by rw [← HQ.out]; exact hlt2
          obtain ⟨ad, A1, d1, rfl, _, hc1, _, hr1⟩ := (HA.out.keep hkq) j (by rw [HS.out.len]; exact hjl)
          rw [HS.out.at' hjl] at hc1 hr1
          obtain ⟨a1, rfl, _, c0⟩ := hr1 0 (by show 0 < 2; decide)
          obtain ⟨a1', e', _, c1⟩ := hr1 1 (by show 1 < 2; decide)
          obtain rfl := Option.some.inj e'
          have NX := Lib.hid (lpm_next hjl)
          obtain ⟨ha, hb, hne⟩ := HS.out.mem hjl
          have AB := Lib.hid (lpm_ab (l := l.take j) (by rw [List.length_take]; omega))
          have hc1 : wo.cell? (ad.add j) = some (.slice (some a1) 2 d1) := hc1
          generalize lpm (l.take j) = f at *
          generalize l.getD j (0, 0) = ev at *
          obtain ⟨a, b⟩ := ev
          have c0 : wo.cell? a1 = some (.int .i64 (a : Int)) := by rw [add_zero'] at c0; exact c0
          have c1 : wo.cell? ⟨a1.block, a1.off + 1, none⟩ = some (.int .i64 (b : Int)) := c1
          have ha : a < k := ha
          have hb : b < k := hb
          have hne : a ≠ b := hne
          have HNE := Lib.hid hne
          have HJL := Lib.hid hjl
          have b1 := AB.out a a
          have b2 := AB.out b b
          have b3 := AB.out a b
          have b4 := AB.out b a
          have BE := Lib.hid (bmp_ed f hne)
          clear hr1 e' hne hjl GR HK
          have G0 := Lib.hid hgr
          have K0 := Lib.hid hkq
          clear hgr hkq
          go_upto_region 13 with (fail)
          go_quiet (fail)
          obtain ⟨x1, hx1⟩ : ∃ x, x = f a a := ⟨_, rfl⟩
          obtain ⟨x2, hx2⟩ : ∃ x, x = f b b := ⟨_, rfl⟩
          obtain ⟨x3, hx3⟩ : ∃ x, x = f a b := ⟨_, rfl⟩
          obtain ⟨x4, hx4⟩ : ∃ x, x = f b a := ⟨_, rfl⟩
          rw [← hx1] at b1
          rw [← hx2] at b2
          rw [← hx3] at b3
          rw [← hx4] at b4
          have HX := Lib.hid (And.intro (And.intro hx1 hx2) (And.intro hx3 hx4))
          clear hx1 hx2 hx3 hx4 c0 c1 hc1
          obtain ⟨w4, hw4⟩ : ∃ x, x = wo.drewN nq := ⟨_, rfl⟩
          have G1 := Lib.hid (show Grid w4 g G k k f by rw [hw4]; exact G0.out.drewN nq)
          have K1 := Lib.hid (show Kp w w4 by rw [hw4]; exact K0.out.drewN nq)
          rw [← hw4]
          clear hw4 G0 K0
          have z1 := G1.out.cell ha
          have z2 := G1.out.el ha ha
          have z3 := G1.out.free ha a
          rw [← HX.out.1.1] at z2
          obtain ⟨w5, hw⟩ : ∃ x, x = w4.setCell ⟨G a, a, none⟩ (.int .i64 (x1 + 1)) := ⟨_, rfl⟩
          have G2 := Lib.hid (show Grid w5 g G k k _ by rw [hw]; exact G1.out.bump ha a (x1 + 1))
          have K2 := Lib.hid (show Kp w w5 by rw [hw]; exact K1.out.put (p := ⟨G a, a, none⟩) (by show w.heap.size ≤ G a; have := G1.out.after a ha; omega) _)
          have HW := Lib.hid hw
          clear hw G1 K1
          go_upto_region 15 with (fail)
          rw [← HW.out]
          clear HW z1 z2 z3
          have z1 := G2.out.cell hb
          have z2 := G2.out.el hb hb
          have z3 := G2.out.free hb b
          rw [bmp_else _ _ _ _ (by have := HNE.out; omega), ← HX.out.1.2] at z2
          obtain ⟨w6, hw⟩ : ∃ x, x = w5.setCell ⟨G b, b, none⟩ (.int .i64 (x2 + 1)) := ⟨_, rfl⟩
          have G3 := Lib.hid (show Grid w6 g G k k _ by rw [hw]; exact G2.out.bump hb b (x2 + 1))
          have K3 := Lib.hid (show Kp w w6 by rw [hw]; exact K2.out.put (p := ⟨G b, b, none⟩) (by show w.heap.size ≤ G b; have := G2.out.after b hb; omega) _)
          have HW := Lib.hid hw
          clear hw G2 K2
          go_upto_region 16 with (fail)
          rw [← HW.out]
          clear HW z1 z2 z3
          have z1 := G3.out.cell ha
          have z2 := G3.out.el ha hb
          have z3 := G3.out.free ha b
          rw [bmp_else _ _ _ _ (by have := HNE.out; omega), bmp_else _ _ _ _ (by have := HNE.out; omega), ← HX.out.2.1] at z2
          obtain ⟨w7, hw⟩ : ∃ x, x = w6.setCell ⟨G a, b, none⟩ (.int .i64 (x3 - 1)) := ⟨_, rfl⟩
          have G4 := Lib.hid (show Grid w7 g G k k _ by rw [hw]; exact G3.out.bump ha b (x3 - 1))
          have K4 := Lib.hid (show Kp w w7 by rw [hw]; exact K3.out.put (p := ⟨G a, b, none⟩) (by show w.heap.size ≤ G a; have := G3.out.after a ha; omega) _)
          have HW := Lib.hid hw
          clear hw G3 K3
          go_upto_region 17 with (fail)
          rw [← HW.out]
          clear HW z1 z2 z3
          have z1 := G4.out.cell hb
          have z2 := G4.out.el hb ha
          have z3 := G4.out.free hb a
          rw [bmp_else _ _ _ _ (by have := HNE.out; omega), bmp_else _ _ _ _ (by have := HNE.out; omega), bmp_else _ _ _ _ (by have := HNE.out; omega), ← HX.out.2.2] at z2
          obtain ⟨w8, hw⟩ : ∃ x, x = w7.setCell ⟨G b, a, none⟩ (.int .i64 (x4 - 1)) := ⟨_, rfl⟩
          have G5 := Lib.hid (show Grid w8 g G k k _ by rw [hw]; exact G4.out.bump hb a (x4 - 1))
          have K5 := Lib.hid (show Kp w w8 by rw [hw]; exact K4.out.put (p := ⟨G b, a, none⟩) (by show w.heap.size ≤ G b; have := G4.out.after b hb; omega) _)
          have HW := Lib.hid hw
          clear hw G4 K4
          go_upto_region 18 with (fail)
          rw [← HW.out]
          clear HW z1 z2 z3
          go_wp2_with fail
          go_roundw
          case rel => exact ⟨j + 1, by omega, by go_num, G5.out.ext fun c d _ _ => by rw [HX.out.1.1, HX.out.1.2, HX.out.2.1, HX.out.2.2, BE.out, NX.out], K5.out⟩
          case measure => simp [intOf]; omega
        · obtain rfl : j = q := by omega
          have GR2 := Lib.hid (show Grid wo g G k k (lpm l) by rw [HQ.out, List.take_length] at hgr; exact hgr)
          have HK2 := Lib.hid hkq
          clear hgr hkq
          go_wp2_with fail
          go_ret2
          exact ⟨g, G, rfl, GR2.out, hwg, HK2.out⟩

end Go.Proofs.YtgfhmffkdhfoeaaDoor
