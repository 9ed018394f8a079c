/- Contracts of package minors, second part: Of, Adj. -/
import Derived.Test.YtofdhdnffkhojaaDoorMiC
import Derived.Test.YtofdhdnffkhojaaDoorPartF
import Derived.Test.YtofdhdnffkhojaaDoorMatL
namespace Go.Proofs.YtofdhdnffkhojaaDoor
open Go.ChangeShapes Go.WideShapes Go.ChangeAt Go.RowKit
set_option linter.unusedVariables false

theorem minus_val (d : Fp.F) : (-(d.val : Int)) % 9973 = ((-d).val : Int) := by
  rw [← Fp.ofInt_val]
  congr 2
  have h2 := Fp.ofInt_add (-(d.val : Int)) (d.val : Int)
  rw [Fp.ofInt_self, show -(d.val : Int) + (d.val : Int) = 0 by omega, show Fp.ofInt 0 = 0 from by decide] at h2
  grind

theorem minor_any (A : Option Addr) (f : Nat → Nat → Fp.F) (n p i j d : Nat) (w : World) (ha : LiesM w A (Mx.matl n n f)) (hn : n = p + 1) (hi : i ≤ p) (hj : j ≤ p) (hp : p ≤ 4) :
    Calls Tryd.prog 55 #[.slice A n d, .int .i64 (i : Int), .int .i64 (j : Int)] w fun e w' => e = .returned (.tuple #[.int .i64 ((Mx.dt p (wo f i j)).val : Int), .nilIface]) ∧ Kp w w' := by
  rcases Nat.eq_zero_or_pos p with h0 | h0
  · subst h0 hn
    exact minor_one A d _ _ w
  · exact minor_more A f n p i j d w ha hn hi hj h0 (by omega)


set_option maxRecDepth 100000 in
set_option maxHeartbeats 1600000 in
theorem MAdj_bad (A : Option Addr) (m : List (List Int)) (n d : Nat) (w : World) (ha : LiesM w A m) (hn : m.length = n) (h : qcode 5 0 9972 m ≠ 0) :
    Calls Tryd.prog 30 #[.slice A n d] w fun e w' => e = .returned (.tuple #[.slice none 0 0, errOf (qcode 5 0 9972 m)]) ∧ Kp w w' := by
  have CK := Lib.hid (DChk_any A m n d w ha hn)
  rw [errOf_ne _ h] at CK ⊢
  generalize qcode 5 0 9972 m = z at *
  clear ha hn h
  go_enter Tryd.func30, Tryd.ntmps30
  go_wp2_with fail
  refine (CK.out).mono ?_; rintro e w' ⟨rfl, rfl⟩
  go_wp2_with fail
  go_ret2
  exact ⟨rfl, Kp.rfl' _⟩

theorem sgn_odd {k : Nat} (h : k % 2 = 1) (d : Fp.F) : -d = Mx.sgn k * d := by unfold Mx.sgn; rw [if_neg (by omega)]; grind
theorem sgn_even {k : Nat} (h : k % 2 = 0) (d : Fp.F) : d = Mx.sgn k * d := by unfold Mx.sgn; rw [if_pos h]; grind
theorem par_odd {i j : Nat} (h : (i + j) % 2 = 1) : (((i : Int) + (j : Int)) % 2 == 1) = true := by
  rw [beq_iff_eq]; omega
theorem par_even {i j : Nat} (h : (i + j) % 2 = 0) : (((i : Int) + (j : Int)) % 2 == 1) = false := by
  rw [beq_eq_false_iff_ne]; omega

/-- Row i done as far as place j, the rows below it done, all else nought. -/
def adjTo (p : Nat) (f : Nat → Nat → Fp.F) (i j : Nat) : Nat → Nat → Int := fun a b => if a = i then (if b < j then ((Mx.adj p f a b).val : Int) else 0) else ((Mx.adj p f a b).val : Int)

set_option maxRecDepth 100000 in
set_option maxHeartbeats 3200000 in
theorem MAdj_grid (A : Option Addr) (f : Nat → Nat → Fp.F) (n p d : Nat) (w : World) (ha : LiesM w A (Mx.matl n n f)) (hn : n = p + 1) (hp : p ≤ 4) :
    Calls Tryd.prog 30 #[.slice A n d] w fun e w' => ∃ g G, e = .returned (.tuple #[.slice (some ⟨g, 0, none⟩) n n, .nilIface]) ∧ Grid w' g G n n (fun i j => ((Mx.adj p f i j).val : Int)) ∧ w.heap.size ≤ g ∧ Kp w w' := by
  have CK := Lib.hid (DChk_any A (Mx.matl n n f) n d w ha (Mx.len_matl _ _ _))
  rw [qcode_matl f (by omega) (by omega), errOf_zero] at CK
  have HA := Lib.hid ha
  have MI := Lib.hid (fun (i j : Nat) (w' : World) (h : LiesM w' A (Mx.matl n n f)) (hi : i < n) (hj : j < n) => minor_any A f n p i j d w' h hn (by omega) (by omega) hp)
  have hn5 : n ≤ 5 := by omega
  clear ha hn hp
  obtain ⟨i0, hi, hz0, hz1, hz2⟩ := info_parts int_info
  obtain ⟨j0, hj, hy0, hy1, hy2⟩ := info_parts ints_info
  go_enter Tryd.func30, Tryd.ntmps30
  go_wp2_with fail
  refine (CK.out).mono ?_; rintro e w' ⟨rfl, rfl⟩
  go_wp2_with (at_make; refine wpList_make_full _ rfl _ _ 22 rfl w.heap.size 23 j0 (.slice none 0 0) 1 Tryd.underlying22 hj hy0 hy1 _ _ _ _ n rfl rfl rfl rfl (by rw [hy2]; omega) (by unfold maxLen; omega) (Nat.le_refl _) ?_; intro w1 hown hgrow)
  have hpart : PartF w1 w.heap.size (fun _ => 0) n n 0 (fun i j => ((Mx.adj p f i j).val : Int)) := PartF.start _ hown
  have hkp : Kp w w1 := (Kp.rfl' w).grown hgrow (by simp) (fun k hk => by cases hk)
  clear hown hgrow hj hy0 hy1 hy2
  obtain ⟨g, hg⟩ : ∃ g, g = w.heap.size := ⟨_, rfl⟩
  rw [← hg] at hpart ⊢
  have HG := Lib.hid hg
  clear hg
  go_loopw [6, 7, 8, 9, 20] (fun _ _ _ _ i wr => ∃ (k : Nat) (G : Nat → Nat), k ≤ n ∧ i = .int .i64 (k : Int) ∧ PartF wr g G n n k (fun i j => ((Mx.adj p f i j).val : Int)) ∧ Kp w wr) (fun _ _ _ _ i _ => n - (intOf i).toNat)
  case atStart => exact ⟨0, _, Nat.zero_le _, rfl, hpart, hkp⟩
  case round =>
    clear hpart hkp
    obtain ⟨k, G, hk, rfl, hp, hkp⟩ := hrel
    by_cases hlt : k < n
    · have HP := Lib.hid hp
      have HK := Lib.hid hkp
      clear hp hkp
      obtain ⟨wo', hwo⟩ : ∃ x, x = wr := ⟨_, rfl⟩
      subst hwo
      go_wp2_with (at_make; refine wpList_make_full _ rfl _ _ 23 rfl wo'.heap.size 3 i0 (.int .i64 0) 1 Tryd.underlying23 hi hz0 hz1 _ _ _ _ n rfl rfl rfl rfl (by rw [hz2]; omega) (by unfold maxLen; omega) (Nat.le_refl _) ?_; intro w2 hown hgrow; have hkp2 : Kp wo' w2 := (Kp.rfl' wo').grown hgrow (by simp) (fun k hk => by cases hk); have hcell := (HP.out.keep hkp2).cell (Nat.le_refl k) hlt; have hfree := (HP.out.keep hkp2).free k)
      have HPL := HP.out.lt
      have hpe : PartF wo' g G n n k (adjTo p f k 0) := HP.out.ext (fun i j hi _ => by unfold adjTo; rw [if_neg (by omega)])
      have hrow : Row (w2.setCell ⟨g, k, none⟩ (.slice (some ⟨wo'.heap.size, 0, none⟩) n n)) wo'.heap.size (Mx.row n (adjTo p f k 0 k)) := by
        have h1 : Row (w2.setCell ⟨g, k, none⟩ (.slice (some ⟨wo'.heap.size, 0, none⟩) n n)) wo'.heap.size (List.replicate n 0) := (row_made hown).far (by show wo'.heap.size ≠ g; omega) _
        rw [Mx.row_rep] at h1
        rw [Mx.row_ext (g := adjTo p f k 0 k) (h := fun _ => 0) (fun j hj => by unfold adjTo; rw [if_pos rfl, if_neg (by omega)])]
        exact h1
      have HS := Lib.hid (hpe.step hlt hkp2 hrow (fun b _ => rfl))
      have HK2 := Lib.hid ((HK.out.trans hkp2).put (p := ⟨g, k, none⟩) (by show w.heap.size ≤ g; rw [HG.out]; exact Nat.le_refl _) (.slice (some ⟨wo'.heap.size, 0, none⟩) n n))
      clear hcell hfree hrow hpe hown hgrow hkp2
      generalize hGG : (fun i => if i = k then wo'.heap.size else G i) = GG at *
      clear hGG
      go_loopw [7, 8, 9, 31] (fun _ _ _ i wq => ∃ m : Nat, m ≤ n ∧ i = .int .i64 (m : Int) ∧ PartF wq g GG n n (k + 1) (adjTo p f k m) ∧ Kp w wq) (fun _ _ _ i _ => n - (intOf i).toNat)
      case atStart => exact ⟨0, Nat.zero_le _, rfl, HS.out, HK2.out⟩
      case round =>
        clear HS HK2
        obtain ⟨m, hm, rfl, hq, hkq⟩ := hrel
        by_cases hmt : m < n
        · have HQ := Lib.hid hq
          have HKQ := Lib.hid hkq
          clear hq hkq
          have M1 := Lib.hid (MI.out m k wr (HA.out.keep HKQ.out) hmt hlt)
          have hdl := (Mx.dt p (wo f m k)).isLt
          have HMV := Lib.hid (minus_val (Mx.dt p (wo f m k)))
          have HX : ∃ x : Int, x = ((Mx.adj p f k m).val : Int) := ⟨_, rfl⟩
          have hwr : IntKind.i64.wrap ((k : Int) + (m : Int)) = (k : Int) + (m : Int) := IntWalk.i64_in _ (by omega)
          have HF := Lib.hid (fun (W : World) (x : Int) (hx : x = ((Mx.adj p f k m).val : Int)) (h : PartF W g GG n n (k + 1) (adjTo p f k m)) => (show PartF (W.setCell ⟨GG k, m, none⟩ (.int .i64 x)) g GG n n (k + 1) (adjTo p f k (m + 1)) from
            (h.put (Nat.lt_succ_self k) m x).ext fun a b ha hb => by
              unfold adjTo
              by_cases h1 : a = k
              · by_cases h2 : b = m
                · rw [if_pos ⟨h1, h2⟩, if_pos h1, if_pos (by omega), hx, h1, h2]
                · rw [if_neg (fun h => h2 h.2), if_pos h1, if_pos h1]
                  by_cases h3 : b < m
                  · rw [if_pos h3, if_pos (by omega)]
                  · rw [if_neg h3, if_neg (by omega)]
              · rw [if_neg (fun h => h1 h.1), if_neg h1, if_neg h1]))
          have HAD := Lib.hid (show Mx.adj p f k m = Mx.sgn (k + m) * Mx.dt p (wo f m k) from rfl)
          have HGG := Lib.hid (show w.heap.size ≤ GG k by have := HQ.out.after k (Nat.lt_succ_self k); have := HG.out; omega)
          generalize Mx.dt p (wo f m k) = dd at *
          by_cases hpar : (k + m) % 2 = 1
          · have e1 := par_odd hpar
            have HXX := Lib.hid (show ((-dd).val : Int) = ((Mx.adj p f k m).val : Int) by rw [HAD.out, sgn_odd hpar dd])
            have hws : IntKind.i64.wrap (9973 - (dd.val : Int)) = 9973 - (dd.val : Int) := IntWalk.i64_in _ (by omega)
            clear hpar
            go_wp2_with fail
            refine (M1.out).mono ?_; rintro e w3 ⟨rfl, hk3⟩
            have HQ3 := Lib.hid (HQ.out.keep hk3)
            have HK3 := Lib.hid (HKQ.out.trans hk3)
            have x1 := HQ3.out.cellOf (Nat.lt_succ_self k) hlt
            have x2 := HQ3.out.el (Nat.lt_succ_self k) hmt
            have x3 := HQ3.out.freeOf (Nat.lt_succ_self k) m
            clear hk3
            go_wp2_with fail
            go_roundw
            case rel => exact ⟨m + 1, by omega, by go_num, HF.out _ _ (by rw [HMV.out, HXX.out]) HQ3.out, HK3.out.put (p := ⟨GG k, m, none⟩) HGG.out _⟩
            case measure => simp [intOf]; omega
          · have hpar' : (k + m) % 2 = 0 := by omega
            have e1 := par_even hpar'
            have HXX := Lib.hid (show (dd.val : Int) = ((Mx.adj p f k m).val : Int) by rw [HAD.out, ← sgn_even hpar' dd])
            clear hpar hpar'
            go_wp2_with fail
            refine (M1.out).mono ?_; rintro e w3 ⟨rfl, hk3⟩
            have HQ3 := Lib.hid (HQ.out.keep hk3)
            have HK3 := Lib.hid (HKQ.out.trans hk3)
            have x1 := HQ3.out.cellOf (Nat.lt_succ_self k) hlt
            have x2 := HQ3.out.el (Nat.lt_succ_self k) hmt
            have x3 := HQ3.out.freeOf (Nat.lt_succ_self k) m
            clear hk3
            go_wp2_with fail
            go_roundw
            case rel => exact ⟨m + 1, by omega, by go_num, HF.out _ _ HXX.out HQ3.out, HK3.out.put (p := ⟨GG k, m, none⟩) HGG.out _⟩
            case measure => simp [intOf]; omega
        · obtain rfl : m = n := by omega
          have HQ := Lib.hid hq
          have HKQ := Lib.hid hkq
          clear hq hkq
          go_wp2_with fail
          go_roundw
          case rel => exact ⟨k + 1, GG, by omega, by go_num, HQ.out.ext (fun a b ha hb => by unfold adjTo; by_cases h1 : a = k; (rw [if_pos h1, if_pos hb]); (rw [if_neg h1])), HKQ.out⟩
          case measure => simp [intOf]; omega
    · obtain rfl : k = n := by omega
      have HP := Lib.hid hp
      have HK := Lib.hid hkp
      clear hp hkp
      go_wp2_with fail
      go_ret2
      exact ⟨g, G, rfl, HP.out.done, by rw [HG.out]; exact Nat.le_refl _, HK.out⟩
theorem MAdj_ok (A : Option Addr) (f : Nat → Nat → Fp.F) (n p d : Nat) (w : World) (ha : LiesM w A (Mx.matl n n f)) (hn : n = p + 1) (hp : p ≤ 4) :
    Calls Tryd.prog 30 #[.slice A n d] w fun e w' => ∃ g, e = .returned (.tuple #[.slice (some ⟨g, 0, none⟩) n n, .nilIface]) ∧ LiesM w' (some ⟨g, 0, none⟩) (Mx.matl n n (Mx.adj p f)) ∧ Kp w w' :=
  (MAdj_grid A f n p d w ha hn hp).mono fun e w' ⟨g, G, he, hg, _, hk⟩ => ⟨g, he, hg.lies, hk⟩

end Go.Proofs.YtofdhdnffkhojaaDoor
