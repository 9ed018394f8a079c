/- The law DefiniteSum. -/
import Derived.Test.YtapcnlbcookldaaDfFact
import Derived.Test.YtapcnlbcookldaaZRef
import Derived.Test.YtapcnlbcookldaaSame
namespace Go.Proofs.Ytapcnlbcookldaa
open Go.ChangeShapes Go.WideShapes Go.ChangeAt Go.RowKit Go.Shelf
set_option linter.unusedVariables false

theorem row_turn (n : Nat) (g : Nat → Int) : (Mx.row n g).reverse = Mx.row n fun j => g (n - 1 - j) := by
  refine List.ext_getElem (by rw [List.length_reverse, Mx.len_row, Mx.len_row]) fun i h1 h2 => ?_
  rw [Mx.len_row] at h2
  simp [Mx.row]
theorem Sf.rev {n : Nat} {x : Nat → Nat → Int} {m : List (List Int)} (s : Sf n x m) : Sf n (Zx.rev n x) (Mx.tab n n (Zx.rev n x)) :=
  ⟨⟨rfl, s.shz.n0, s.shz.n5, fun i j hi hj => s.shz.ab _ _ (by have := s.shz.n0; omega) (by have := s.shz.n0; omega)⟩, s.n4, s.sym.rev⟩
theorem posB_rev {n : Nat} {x : Nat → Nat → Int} (h : Zx.Sym n x) : posB n (Zx.rev n x) = posB n x := by
  have e : posB n (Zx.rev n x) = true ↔ posB n x = true := (posB_pos h.rev).trans (Zx.pos_rev.trans (posB_pos h).symm)
  cases h1 : posB n x <;> cases h2 : posB n (Zx.rev n x)
  · rfl
  · rw [e.1 h2] at h1; cases h1
  · rw [e.2 h1] at h2; cases h2
  · rfl
def plusz (x y : Nat → Nat → Int) : Nat → Nat → Int := fun i j => x i j + y i j
/-- A sum of two such forms: one of them, or no form of small numbers. -/
theorem sum_or {n : Nat} {x y : Nat → Nat → Int} {m m' : List (List Int)} (s : Sf n x m) (t : Sf n y m') (hx : posB n x = true) (hy : posB n y = true) :
    (Sf n (plusz x y) (Mx.tab n n (plusz x y)) ∧ posB n (plusz x y) = true) ∨ ∃ z, Fb n (Mx.tab n n (plusz x y)) z := by
  have hs : Zx.Sym n (plusz x y) := fun i j hi hj => by unfold plusz; rw [s.sym i j hi hj, t.sym i j hi hj]
  rcases sf_or (Mx.tab n n (plusz x y)) (Mx.len_tab _ _ _) with ⟨x', s'⟩ | h
  · left
    refine ⟨⟨⟨rfl, s.shz.n0, s.shz.n5, fun i j hi hj => ?_⟩, s.n4, hs⟩, (posB_pos hs).2 (((posB_pos s.sym).1 hx).plus ((posB_pos t.sym).1 hy))⟩
    have := s'.shz.ab i j hi hj
    rwa [← Mx.tab_el n n x' i j hi hj, ← s'.shz.eq, Mx.tab_el _ _ _ _ _ hi hj] at this
  · exact .inr h

set_option maxRecDepth 100000 in
set_option maxHeartbeats 6400000 in
theorem dsum_good (A B : Option Addr) (a b : List (List Int)) (x : Nat → Nat → Int) (n p c d : Nat) (w : World) (ha : LiesM w A a) (hb : LiesM w B b) (hp : b.length = p) (s : Sf n x a) :
    Calls Try.prog 5 #[.slice A n c, .slice B p d] w fun e w' => e = .returned (.bool true) ∧ Kp w w' := by
  have FA := Lib.hid (definiteFact_any w)
  have HA := Lib.hid ha
  have HB := Lib.hid hb
  have SA := Lib.hid s
  have IA := Lib.hid (fun w1 (k : Kp w w1) => DIs_ok A a x n c w1 (ha.keep k) s)
  have IT := Lib.hid (fun w1 A1 c1 (h : LiesM w1 A1 (Mx.tab n n (Zx.rev n x))) => DIs_ok A1 _ _ n c1 w1 h s.rev)
  rw [posB_rev s.sym] at IT
  have HX := Lib.hid (show LiesM w A (Mx.tab n n x) by rw [← s.shz.eq]; exact ha)
  have CP := Lib.hid (fun w1 (k : Kp w w1) => rCopyZ_any A x n n c w1 (HX.out.keep k) s.shz.n0 (by have := s.n4; omega) (by have := s.n4; omega))
  have n0 := s.shz.n0
  have n4 := s.n4
  have HP := Lib.hid hp
  obtain ⟨P, hP⟩ : ∃ P, P = posB n x := ⟨_, rfl⟩
  rw [← hP] at IA IT
  have HPP := Lib.hid hP
  clear ha hb s hp hP
  go_enter Try.func5, Try.ntmps5
  go_wp2_with fail
  refine (FA.out).mono ?_; rintro e w1 ⟨rfl, k1⟩
  have K1 := Lib.hid k1; clear k1
  go_wp2_with fail
  refine (IA.out w1 K1.out).mono ?_; rintro e w2 ⟨rfl, k2⟩
  have K2 := Lib.hid (K1.out.trans k2); clear k2
  have hwn : IntKind.i64.wrap ((n : Int) - 1) = (n : Int) - 1 := IntWalk.i64_in _ (by omega)
  go_wp2_with fail
  go_loopw [9, 10] (fun v i wr => ∃ (j : Nat) (G C : Nat → Nat), j ≤ n ∧ i = .int .i64 ((j : Int) - 1) ∧ OwnM wr w2.heap.size v G C (Mx.tab (n - j) n (Zx.rev n x)) ∧ Kp w2 wr) (fun _ i _ => (intOf i + 1).toNat)
  case atStart => exact ⟨n, fun _ => 0, fun _ => 0, Nat.le_refl _, rfl, by rw [Nat.sub_self]; exact ownM_none _ _ _ _, Kp.rfl' _⟩
  case round =>
    clear hwn
    obtain ⟨j, G, C, hj, rfl, ho, hkp⟩ := hrel
    obtain ⟨wo, hwo⟩ : ∃ y, y = wr := ⟨_, rfl⟩
    subst hwo
    have HO := Lib.hid ho
    have HK := Lib.hid hkp
    clear ho hkp
    cases j with
    | succ j =>
      obtain ⟨ad, A1, d1, rfl, _, x1, _, l1⟩ := (HX.out.keep (K2.out.trans HK.out)).row (show j < n by omega)
      have ei : ((j + 1 : Nat) : Int) - 1 = (j : Int) := by omega
      rw [ei]
      have hjn : j < n := by omega
      have TU := Lib.hid (turned_any A1 (Mx.row n (x j)) d1 wo l1 (by rw [Mx.len_row]; omega))
      rw [Mx.len_row, row_turn] at TU
      have HS := Lib.hid (show Mx.tab (n - j) n (Zx.rev n x) = Mx.tab (n - (j + 1)) n (Zx.rev n x) ++ [Mx.row n fun q => x j (n - 1 - q)] by
        rw [show n - j = (n - (j + 1)) + 1 by omega, Mx.tab_snoc]
        congr 2
        refine Mx.row_ext fun q hq => ?_
        show x (n - 1 - (n - (j + 1))) (n - 1 - q) = _
        rw [show n - 1 - (n - (j + 1)) = j by omega])
      have LE := Lib.hid (show (Mx.tab (n - (j + 1)) n (Zx.rev n x)).length + 1 ≤ 1000000 by rw [Mx.len_tab]; omega)
      have hw1 : IntKind.i64.wrap ((j : Int) - 1) = (j : Int) - 1 := IntWalk.i64_in _ (by omega)
      have hj0 : (0 : Int) ≤ (j : Int) := by omega
      clear ei l1
      go_wp2_with fail
      refine (TU.out).mono ?_; rintro e w3 ⟨v3, rfl, o3, k3⟩
      obtain ⟨g3, c3, rfl, hg3, hgc3⟩ := own_some o3 (by rw [Mx.len_row]; exact n0)
      rw [Mx.len_row] at o3 hgc3 ⊢
      have HU := Lib.hid (o3.from HK.out.size)
      have OM := Lib.hid (HO.out.kp k3)
      have HAP := Lib.hid (show ∀ i, i < (Mx.tab (n - (j + 1)) n (Zx.rev n x)).length → G i ≠ g3 from fun i hi => by have := (HO.out.lt hi).2; omega)
      have HQ := Lib.hid k3
      clear o3 k3 hg3 hgc3
      go_wp2_with (at_builtin; refine wpList_pushM rfl _ _ rfl w2.heap.size _ G C (Mx.tab (n - (j + 1)) n (Zx.rev n x)) _ g3 n c3 _ 1 (Mx.len_row _ _) rfl rfl (OM.out.new _) (cell_made _ _ _ _ 0 rfl) (HU.out.new _) HAP.out LE.out (Nat.le_trans HK.out.size (Nat.le_trans HQ.out.size ((Kp.rfl' _).new _).size)) ?_; intro v' w' G' C' ho' hk')
      have HO' := Lib.hid ho'
      have HK' := Lib.hid (hk' w2 (Nat.le_refl _) ((HK.out.trans HQ.out).new _))
      clear ho' hk'
      go_wp2_with fail
      go_roundw
      case rel => exact ⟨j, G', C', by omega, rfl, by rw [HS.out]; exact HO'.out, HK'.out⟩
      case measure => simp [intOf]
    | zero =>
      obtain ⟨At, ct, rfl, lt, _⟩ := HO.out.lies
      rw [Mx.len_tab, Nat.sub_zero] at *
      have LT := Lib.hid lt
      have K3 := Lib.hid (K2.out.trans HK.out)
      clear lt HO
      have hj0 : ¬ (0 : Int) ≤ ((0 : Nat) : Int) - 1 := by decide
      go_wp2_with fail
      refine (IT.out wo At ct LT.out).mono ?_; rintro e w4 ⟨rfl, k4⟩
      have K4 := Lib.hid (K3.out.trans k4)
      clear k4 LT
      have hPP : (P != P) = false := by simp
      go_wp2_with fail
      rcases DIs_or B b p d HP.out with ⟨y, t⟩ | bad
      · have IB := Lib.hid (DIs_ok B b y p d w4 (HB.out.keep K4.out) t)
        obtain ⟨Q, hQ⟩ : ∃ Q, Q = posB p y := ⟨_, rfl⟩
        rw [← hQ] at IB
        have p4 := t.n4
        refine (IB.out).mono ?_; rintro e w5 ⟨rfl, k5⟩
        have K5 := Lib.hid (K4.out.trans k5)
        clear IB k5 hPP
        cases hPv : P
        · clear hQ
          subst hPv
          go_wp2_with fail
          go_ret
          exact ⟨rfl, K5.out⟩
        · subst hPv
          cases hQv : Q
          · subst hQv
            clear hQ
            go_wp2_with fail
            go_ret
            exact ⟨rfl, K5.out⟩
          · subst hQv
            by_cases hnp : p = n
            · subst hnp
              have e1 : ((p : Int) != (p : Int)) = false := by simp
              have OR := Lib.hid (sum_or SA.out t HPP.out.symm hQ.symm)
              have HY := Lib.hid (show LiesM w B (Mx.tab p p y) by rw [← t.shz.eq]; exact HB.out)
              have AX := Lib.hid SA.out.shz.ab
              have AY := Lib.hid t.shz.ab
              clear hQ t
              go_wp2_with fail
              refine (CP.out w5 K5.out).mono ?_; rintro e w6 ⟨v6, G, C, rfl, o6, k6⟩
              obtain ⟨g, gc, rfl, hg⟩ := o6.some (by rw [Mx.len_tab]; exact n0)
              rw [Mx.len_tab] at o6 ⊢
              have HO6 := Lib.hid o6
              have K6 := Lib.hid (K5.out.trans k6)
              have k6' := Lib.hid k6
              clear o6 k6 HK HPP CP SA FA IA
              go_wp2_with fail
              go_loopw [14] (fun i wr => ∃ k : Nat, k ≤ p ∧ i = .int .i64 (k : Int) ∧ OwnM wr w5.heap.size (.slice (some ⟨g, 0, none⟩) p gc) G C (Mx.tab p p fun a b => if a < k then plusz x y a b else x a b) ∧ Kp w5 wr) (fun i _ => p - (intOf i).toNat)
              case atStart => exact ⟨0, Nat.zero_le _, rfl, HO6.out.ext (fun a b _ _ => by rw [if_neg (by omega)]), k6'.out⟩
              case round =>
                obtain ⟨k, hk, rfl, ho, hkp⟩ := hrel
                obtain ⟨wz, hwz⟩ : ∃ x, x = wr := ⟨_, rfl⟩
                subst hwz
                have HO1 := Lib.hid ho
                have HK1 := Lib.hid hkp
                clear ho hkp
                by_cases hlt : k < p
                · go_wp2_with fail
                  go_loopw [15] (fun i wq => ∃ q : Nat, q ≤ p ∧ i = .int .i64 (q : Int) ∧ OwnM wq w5.heap.size (.slice (some ⟨g, 0, none⟩) p gc) G C (Mx.tab p p fun a b => if a < k ∨ (a = k ∧ b < q) then plusz x y a b else x a b) ∧ Kp w5 wq) (fun i _ => p - (intOf i).toNat)
                  case atStart => exact ⟨0, Nat.zero_le _, rfl, HO1.out.ext (fun a b _ _ => by
                    by_cases e : a < k
                    · rw [if_pos e, if_pos (.inl e)]
                    · rw [if_neg e, if_neg (by omega)]), HK1.out⟩
                  case round =>
                    obtain ⟨q, hq, rfl, ho, hkq⟩ := hrel
                    by_cases hlt2 : q < p
                    · have kq := K5.out.trans hkq
                      obtain ⟨xd, X1, c1, rfl, _, x1, _, l1⟩ := (HX.out.keep kq).row hlt
                      obtain ⟨xd1, rfl, _, x2⟩ := l1.el hlt2
                      obtain ⟨yd, Y1, c2, rfl, _, x3, _, l2⟩ := (HY.out.keep kq).row hlt
                      obtain ⟨yd1, rfl, _, x4⟩ := l2.el hlt2
                      have y1 := ho.head (i := k) (by rw [Mx.len_tab]; exact hlt)
                      have y2 := ho.el (i := k) (j := q) (by rw [Mx.len_tab]; exact hlt) (by rw [Mx.tab_len _ _ _ _ hlt]; exact hlt2)
                      have y3 := ho.free (i := k) (by rw [Mx.len_tab]; exact hlt) q
                      have y4 := (ho.lt (i := k) (by rw [Mx.len_tab]; exact hlt)).1
                      rw [Mx.tab_len _ _ _ _ hlt] at y1
                      rw [Mx.tab_el _ _ _ _ _ hlt hlt2, if_neg (by omega)] at y2
                      have HO2 := Lib.hid ho
                      have HK2 := Lib.hid hkq
                      have v1 := AX.out k q hlt hlt2
                      have v2 := AY.out k q hlt hlt2
                      have HZZ := Lib.hid (show x k q + y k q = plusz x y k q from rfl)
                      generalize x k q = n1 at *
                      generalize y k q = n2 at *
                      have hwa : IntKind.i64.wrap (n1 + n2) = n1 + n2 := IntWalk.i64_in _ (by omega)
                      clear ho hkq kq v1 v2 l1 l2
                      go_wp2_with fail
                      refine wp_region_still_tail 21 (by kernel_rfl) (by kernel_rfl) ?_
                      simp only [List.take_succ_cons, List.take_zero, List.drop_succ_cons, List.drop_zero]
                      repeat still_step
                      refine wpStill_nil ?_
                      change wpList _ _ _ _ _ wr.drew
                      go_wp2_with fail
                      go_roundw
                      case rel =>
                        refine ⟨q + 1, by omega, by go_num, ((HO2.out.drewN 1).put hlt q (n1 + n2)).ext (fun a b ha hb => ?_), (HK2.out.drewN 1).put (p := ⟨G k, q, none⟩) y4 _⟩
                        by_cases e : a = k ∧ b = q
                        · rw [if_pos e, if_pos (by omega), e.1, e.2]; exact HZZ.out
                        · rw [if_neg e]
                          by_cases e2 : a < k ∨ (a = k ∧ b < q)
                          · rw [if_pos e2, if_pos (by omega)]
                          · rw [if_neg e2, if_neg (by omega)]
                      case measure => simp [intOf]; omega
                    · obtain rfl : q = p := by omega
                      have HO2 := Lib.hid ho
                      have HK2 := Lib.hid hkq
                      clear ho hkq
                      go_wp2_with fail
                      go_roundw
                      case rel =>
                        refine ⟨k + 1, by omega, by go_num, HO2.out.ext (fun a b ha hb => ?_), HK2.out⟩
                        by_cases e : a < k ∨ (a = k ∧ b < q)
                        · rw [if_pos e, if_pos (by omega)]
                        · rw [if_neg e, if_neg (by omega)]
                      case measure => simp [intOf]; omega
                · obtain rfl : k = p := by omega
                  have hm := HO1.out.ext (f' := plusz x y) (fun a b ha hb => by rw [if_pos ha])
                  obtain ⟨As, cs, es, ls, _⟩ := hm.lies
                  rw [Mx.len_tab] at es
                  obtain ⟨rfl, rfl⟩ : some (⟨g, 0, none⟩ : Addr) = As ∧ gc = cs := by
                    injection es with e1 e2 e3
                    exact ⟨e1, e3⟩
                  have K7 := Lib.hid (K5.out.trans HK1.out)
                  rcases OR.out with ⟨s, hb⟩ | ⟨z, hz⟩
                  · have IS := Lib.hid (DIs_ok _ _ _ k gc wz ls s)
                    rw [hb] at IS
                    clear hm ls s hb es HO1
                    go_wp2_with fail
                    refine (IS.out).mono ?_; rintro e w8 ⟨rfl, k8⟩
                    have K8 := Lib.hid (K7.out.trans k8)
                    go_wp2_with fail
                    go_ret
                    exact ⟨rfl, K8.out⟩
                  · have IS := Lib.hid (DIs_bad _ _ k gc z wz ls (Mx.len_tab _ _ _) hz)
                    clear hm ls hz es HO1
                    go_wp2_with fail
                    refine (IS.out).mono ?_; rintro e w8 ⟨rfl, k8⟩
                    have K8 := Lib.hid (K7.out.trans k8)
                    go_wp2_with fail
                    go_ret
                    exact ⟨ret_bool (by simp), K8.out⟩
            · have e1 : ((p : Int) != (n : Int)) = true := by rw [bne_iff_ne]; omega
              clear hQ t hnp
              go_wp2_with fail
              go_ret
              exact ⟨rfl, K5.out⟩
      · refine (bad w4 (HB.out.keep K4.out)).mono ?_; rintro e w5 ⟨z, rfl, k5⟩
        have K5 := Lib.hid (K4.out.trans k5)
        clear k5 hPP bad
        go_wp2_with fail
        go_ret
        exact ⟨ret_bool (by simp), K5.out⟩

set_option maxRecDepth 100000 in
set_option maxHeartbeats 1600000 in
theorem walk_DefiniteSum (A : Option Addr) (a : List (List Int)) (c : Nat) (B : Option Addr) (b : List (List Int)) (d : Nat) (w : World) (ha : LiesM w A a) (hb : LiesM w B b) :
    Calls Try.prog 5 #[.slice A a.length c, .slice B b.length d] w fun e w' => e = .returned (.bool true) ∧ Kp w w' := by
  obtain ⟨n, hn⟩ : ∃ n, n = a.length := ⟨_, rfl⟩
  rw [← hn]
  rcases DIs_or A a n c hn.symm with ⟨x, s⟩ | bad
  · exact dsum_good A B a b x n _ c d w ha hb rfl s
  · have FA := Lib.hid (definiteFact_any w)
    have HA := Lib.hid ha
    have BAD := Lib.hid bad
    generalize b.length = p
    clear hn bad ha hb
    go_enter Try.func5, Try.ntmps5
    go_wp2_with fail
    refine (FA.out).mono ?_; rintro e w1 ⟨rfl, k1⟩
    have K1 := Lib.hid k1; clear k1
    go_wp2_with fail
    refine (BAD.out w1 (HA.out.keep K1.out)).mono ?_; rintro e w2 ⟨z, rfl, k2⟩
    have K2 := Lib.hid (K1.out.trans k2); clear k2
    go_wp2_with fail
    go_ret
    exact ⟨rfl, K2.out⟩
end Go.Proofs.Ytapcnlbcookldaa
