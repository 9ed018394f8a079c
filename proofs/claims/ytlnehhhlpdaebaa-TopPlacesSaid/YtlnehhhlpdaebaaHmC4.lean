/- Contracts of package hermite, fourth part: the form of a matrix. -/
import Derived.Test.YtlnehhhlpdaebaaHmC1
import Derived.Test.YtlnehhhlpdaebaaHmC3
import Derived.Test.YtlnehhhlpdaebaaClone
import Derived.Test.YtlnehhhlpdaebaaRowG
namespace Go.Proofs.Ytlnehhhlpdaebaa
open Go.ChangeShapes Go.WideShapes Go.ChangeAt Go.RowKit
set_option linter.unusedVariables false

/-- A square matrix of up to three rows of numbers from -20 to 20. -/
structure Shh (n : Nat) (x : Nat → Nat → Int) (m : List (List Int)) : Prop where
  eq : m = Mx.tab n n x
  n0 : 0 < n
  n3 : n ≤ 3
  ab : ∀ i j, i < n → j < n → -20 ≤ x i j ∧ x i j ≤ 20
theorem Shh.len {n : Nat} {x : Nat → Nat → Int} {m : List (List Int)} (h : Shh n x m) : m.length = n := by rw [h.eq, Mx.len_tab]
theorem shh_or (m : List (List Int)) {n : Nat} (hn : m.length = n) : (∃ x, Shh n x m) ∨ qcode 3 (-20) 20 m ≠ 0 := by
  by_cases h : qcode 3 (-20) 20 m = 0
  · left
    have hm : Mx.mcode 3 (-20) 20 m = 0 ∧ m.length = (m.getD 0 []).length := by
      unfold qcode at h
      by_cases h0 : Mx.mcode 3 (-20) 20 m = 0 ∧ m.length ≠ (m.getD 0 []).length
      · rw [if_pos h0] at h; cases h
      · rw [if_neg h0] at h
        exact ⟨h, Classical.byContradiction fun e => h0 ⟨h, e⟩⟩
    obtain ⟨h1, h2⟩ := hm
    unfold Mx.mcode at h1
    by_cases c1 : m.length = 0 ∨ (m.getD 0 []).length = 0
    · rw [if_pos c1] at h1; cases h1
    rw [if_neg c1] at h1
    by_cases c2 : 3 < m.length ∨ 3 < (m.getD 0 []).length
    · rw [if_pos c2] at h1; cases h1
    rw [if_neg c2] at h1
    have hr := Mx.rows_zero h1
    have hl : ∀ i, i < m.length → (m.getD i []).length = n := fun i hi => by rw [(Mx.rcode_zero (hr i hi)).1, ← h2, hn]
    refine ⟨fun i j => (m.getD i []).getD j 0, ⟨?_, by omega, by omega, fun i j hi hj => ?_⟩⟩
    · have := Mx.is_tab hl
      rw [hn] at this
      exact this
    · exact (Mx.rcode_zero (hr i (by omega))).2 j (by rw [hl i (by omega)]; exact hj)
  · exact .inr h
theorem Shh.code {n : Nat} {x : Nat → Nat → Int} {m : List (List Int)} (h : Shh n x m) : qcode 3 (-20) 20 m = 0 := by
  obtain ⟨rfl, h0, h5, hab⟩ := h
  have e0 : ((Mx.tab n n x).getD 0 []).length = n := Mx.tab_len n n x 0 h0
  have hm : Mx.mcode 3 (-20) 20 (Mx.tab n n x) = 0 := by
    unfold Mx.mcode
    rw [Mx.len_tab, e0, if_neg (by omega), if_neg (by omega)]
    refine Mx.rows_ok fun i hi => ?_
    rw [Mx.len_tab] at hi
    refine Mx.rcode_ok (Mx.tab_len n n x i hi) fun k hk => ?_
    rw [Mx.tab_len n n x i hi] at hk
    rw [Mx.tab_el n n x i k hi hk]
    exact hab i k hi hk
  unfold qcode
  rw [if_neg (fun h => h.2 (by rw [Mx.len_tab, e0])), hm]
theorem Shh.small {n : Nat} {x : Nat → Nat → Int} {m : List (List Int)} (h : Shh n x m) : ∀ i j, i < n → j < n → Zx.ab (x i j) ≤ 20 := fun i j hi hj => by
  have := h.ab i j hi hj
  unfold Zx.ab; omega

theorem ownM_slice {w : World} {B : Nat} {v : Value} {G C : Nat → Nat} {m : List (List Int)} {k : Nat} (h : OwnM w B v G C m) (hk : m.length = k) (h0 : 0 < k) : ∃ g cap, v = .slice (some ⟨g, 0, none⟩) k cap ∧ k ≤ cap := by
  rcases h.top.2 with ⟨_, e⟩ | ⟨g, cap, cur, rfl, _, _, hnc, _⟩
  · omega
  · exact ⟨g, cap, by rw [hk], by omega⟩
/-- The form of a matrix, or that it has no determinant. -/
def FormIs (n : Nat) (x : Nat → Nat → Int) (w : World) (e : Ending) (w' : World) : Prop :=
  (Zx.dt n x = 0 ∧ e = .returned (.tuple #[.slice none 0 0, .iface 51 (.int .i64 6)]) ∧ Kp w w') ∨
  (∃ g cap G C a, Zx.Hnf n a ∧ Zx.Eql n a x ∧ e = .returned (.tuple #[.slice (some ⟨g, 0, none⟩) n cap, .nilIface]) ∧ OwnM w' w.heap.size (.slice (some ⟨g, 0, none⟩) n cap) G C (Mx.tab n n a) ∧ n ≤ cap ∧ Kp w w')
theorem Form_bad (A : Option Addr) (m : List (List Int)) (n d : Nat) (w : World) (ha : LiesM w A m) (hn : m.length = n) (h : qcode 3 (-20) 20 m ≠ 0) :
    Calls Try.prog 36 #[.slice A n d] w fun e w' => e = .returned (.tuple #[.slice none 0 0, errOf (qcode 3 (-20) 20 m)]) ∧ Kp w w' := by
  have C := Lib.hid (HChk_any A m n d w ha hn)
  rw [errOf_ne _ h] at C ⊢
  generalize qcode 3 (-20) 20 m = z at *
  clear ha hn h
  go_enter Try.func36, Try.ntmps36
  go_wp2_with fail
  refine (C.out).mono ?_; rintro e w' ⟨rfl, hk⟩
  have HK := Lib.hid hk
  clear hk
  go_wp2_with fail
  go_ret2
  exact ⟨rfl, HK.out⟩

set_option maxRecDepth 100000 in
set_option maxHeartbeats 6400000 in
theorem Form_main (A : Option Addr) (m : List (List Int)) (x : Nat → Nat → Int) (n d : Nat) (w : World) (s : Shh n x m) (ha : LiesM w A m) :
    Calls Try.prog 36 #[.slice A n d] w fun e w' => FormIs n x w e w' := by
  have ck0 := HChk_any A m n d w ha s.len
  rw [s.code, errOf_zero] at ck0
  have CK := Lib.hid ck0
  rw [s.eq] at ha
  have HA := Lib.hid ha
  have F0 := Lib.hid (Zx.Fm.start s.small)
  have hn0 : 0 < n := s.n0
  have hn3 : n ≤ 3 := s.n3
  clear ha s ck0
  go_enter Try.func36, Try.ntmps36
  go_wp2_with fail
  refine (CK.out).mono ?_; rintro e w1 ⟨rfl, hk1⟩
  have HK1 := Lib.hid hk1
  clear hk1
  go_wp2_with fail
  go_loopw [5, 7, 19] (fun v _ i wr => ∃ (k : Nat) (G C : Nat → Nat), k ≤ n ∧ i = .int .i64 (k : Int) ∧ OwnM wr w.heap.size v G C (Mx.tab k n x) ∧ Kp w wr) (fun _ _ i _ => n - (intOf i).toNat)
  case atStart => exact ⟨0, fun _ => 0, fun _ => 0, Nat.zero_le _, rfl, ownM_none _ _ _ _, HK1.out⟩
  case round =>
    obtain ⟨k, G, C, hk, rfl, ho, hkp⟩ := hrel
    have HO := Lib.hid ho
    have HK := Lib.hid hkp
    by_cases hlt : k < n
    · obtain ⟨ad, A1, d1, rfl, _, x1, _, l1⟩ := (HA.out.keep hkp).row hlt
      clear ho hkp
      have cl0 := sclone_any A1 (Mx.row n fun j => x k j) d1 wr l1 (by rw [Mx.len_row]; omega)
      rw [Mx.len_row] at cl0
      have CL := Lib.hid cl0
      clear l1 cl0
      have HS := Lib.hid (show Mx.tab (k + 1) n x = Mx.tab k n x ++ [Mx.row n fun j => x k j] by exact Mx.tab_snoc k n x)
      go_wp2_with fail
      refine (CL.out).mono ?_; rintro e w2 ⟨v1, rfl, h1, kp2⟩
      obtain ⟨g, gc, rfl, hg, hgc⟩ := own_some h1 (by rw [Mx.len_row]; exact hn0)
      rw [Mx.len_row] at h1 hgc ⊢
      have HU := Lib.hid h1
      have HQ := Lib.hid kp2
      have OM := Lib.hid (HO.out.kp kp2)
      have HAP := Lib.hid (show ∀ i, i < (Mx.tab k n x).length → G i ≠ g from fun i hi => by have := (HO.out.lt hi).2; omega)
      clear h1 kp2
      go_wp2_with (at_builtin; refine wpList_pushM rfl _ _ rfl w.heap.size _ G C (Mx.tab k n x) _ g n gc _ 1 (Mx.len_row _ _) rfl rfl (OM.out.new _) (cell_made _ _ _ _ 0 rfl) ((HU.out.from HK.out.size).new _) HAP.out (by rw [Mx.len_tab]; omega) (Nat.le_trans HK.out.size (Nat.le_trans HQ.out.size ((Kp.rfl' _).new _).size)) ?_; intro v' w' G' C' ho' hk')
      have HO' := Lib.hid ho'
      have HK' := Lib.hid (hk' w (Nat.le_refl _) ((HK.out.trans HQ.out).new _))
      clear ho' hk'
      go_wp2_with fail
      go_roundw
      case rel => exact ⟨k + 1, G', C', by omega, by go_num, by rw [HS.out]; exact HO'.out, HK'.out⟩
      case measure => simp [intOf]; omega
    · obtain rfl : n = k := by omega
      obtain ⟨g, cap, rfl, hnc⟩ := ownM_slice ho (Mx.len_tab _ _ _) hn0
      have HKP := Lib.hid hkp
      have hws : w.heap.size ≤ wr.heap.size := hkp.size
      clear ho hkp hk hlt HK1 HK CK HA
      go_wp2_with fail
      go_loopw [2, 3, 8, 9, 11, 31] (fun _ _ _ _ _ i wq => ∃ (k : Nat) (G C : Nat → Nat) (f : Nat → Nat → Int), k ≤ n ∧ i = .int .i64 (k : Int) ∧ OwnM wq w.heap.size (.slice (some ⟨g, 0, none⟩) n cap) G C (Mx.tab n n f) ∧ Zx.Fm n k x f ∧ Kp w wq) (fun _ _ _ _ _ i _ => n - (intOf i).toNat)
      case atStart => exact ⟨0, G, C, x, Nat.zero_le _, rfl, HO.out, F0.out, HKP.out⟩
      case round =>
        clear HO HKP hws F0
        obtain ⟨k, G, C, f, hk, rfl, ho, hf, hkp⟩ := hrel
        have HM := Lib.hid ho
        have HF := Lib.hid hf
        have HK := Lib.hid hkp
        clear ho hf hkp
        by_cases hlt : k < n
        · have hck : ¬ cap = k := by omega
          have hkc : k ≤ cap := by omega
          have GA := Lib.hid (gather_any (B := w.heap.size) (g := g) (cap := cap) (n := n) (k := k) (p := n - k) (G := G) (C := C) (f0 := f) wr (by omega) (by omega) hn3 HK.out.size HM.out (fun r j h1 h2 h3 => HF.out.low r j h2 h3 (by omega)) (fun r j h1 h2 h3 => HF.out.bl r j h1 h2 h3) (cap - k))
          go_wp2_with fail
          refine (GA.out).mono ?_; rintro e w2 ⟨G1, C1, f1, rfl, ho2, hg2, hb2⟩
          have HM2 := Lib.hid ho2
          have HG2 := Lib.hid hg2
          have HK2 := Lib.hid (show Kp w w2 from below_trans HK.out hb2)
          clear ho2 hg2 hb2 GA HM HK
          have y0 := HM2.out.weak.head hlt
          have y1 := HM2.out.weak.el hlt hlt
          by_cases h0 : f1 k k = 0
          · have Z := Lib.hid (show Zx.dt n x = 0 from HF.out.none hlt HG2.out h0)
            rw [h0] at y1
            clear h0
            go_wp2_with fail
            go_ret2
            exact .inl ⟨Z.out, rfl, HK2.out⟩
          · have MID := Lib.hid (HF.out.mid hn3 hlt HG2.out h0)
            have NX := Lib.hid (HF.out.next hn3 hlt HG2.out h0)
            have e1 : (f1 k k == 0) = false := by rw [beq_eq_false_iff_ne]; exact h0
            have RD := Lib.hid (reduc_any (some ⟨G1 k, 0, none⟩) n (C1 k) k w2)
            have BK := Lib.hid (show f1 k k ≤ 1000000000000000 by
              have a1 := HG2.out.cl k (Nat.le_refl k) hlt
              have a2 := Zx.lbd_le k
              omega)
            clear h0
            generalize hx : f1 k k = xk at y1 e1
            clear hx
            go_wp2_with fail
            refine (RD.out).mono ?_; rintro e w3 ⟨P, R, rfl, hPR, c1, c2, k1⟩
            have HPR := Lib.hid hPR
            have C1' := Lib.hid c1
            have C2' := Lib.hid c2
            have HM3 := Lib.hid (HM2.out.kp k1)
            have HGL := Lib.hid (show ∀ i, i < n → w.heap.size ≤ G1 i ∧ G1 i < w2.heap.size from fun i hi => HM2.out.weak.lt hi)
            have HK3 := Lib.hid (show Kp w w3 from HK2.out.trans k1)
            clear hPR c1 c2 k1 y0 y1 RD
            go_wp2_with fail
            go_loopw [11, 58] (fun _ i wq => ∃ t : Nat, t ≤ k ∧ i = .int .i64 (t : Int) ∧ OwnM wq w.heap.size (.slice (some ⟨g, 0, none⟩) n cap) G1 C1 (Mx.tab n n (Zx.upr k t f1)) ∧ Only G1 n w3 wq) (fun _ i _ => k - (intOf i).toNat)
            case atStart => exact ⟨0, Nat.zero_le _, rfl, HM3.out.ext (fun i j _ _ => by unfold Zx.upr; rw [if_neg (Nat.not_lt_zero i)]), Only.refl _ _ _⟩
            case round =>
              obtain ⟨t, ht, rfl, ho, hon⟩ := hrel
              have HM4 := Lib.hid ho
              have HN := Lib.hid hon
              clear ho hon
              by_cases hlt2 : t < k
              · have htn : t < n := by omega
                have ek : Zx.upr k t f1 k = f1 k := if_neg (by omega)
                have et : Zx.upr k t f1 t = f1 t := if_neg (Nat.lt_irrefl t)
                have RM := red_mat (B := w.heap.size) (g := g) (cap := cap) (n := n) (G := G1) (C := C1) (f := Zx.upr k t f1) (a := t) (i := k) (k := k) (P := P) (R := R) wr HM4.out htn hlt (by omega) hlt hn3
                  (HN.out.cell C1'.out fun i hi e => by
                    have a := HGL.out i hi
                    have b := HPR.out.1
                    have c : P = G1 i := e
                    omega)
                  (HN.out.cell C2'.out fun i hi e => by
                    have a := HGL.out i hi
                    have b := HPR.out.2
                    have c : R = G1 i := e
                    omega)
                  (fun e => by have a := HGL.out t htn; have b := HPR.out.1; omega) (fun e => by have a := HGL.out t htn; have b := HPR.out.2; omega)
                  (by rw [ek]; exact MID.out.2) (by rw [ek]; exact BK.out) (fun j hj => by
                    rw [ek, et]
                    have a := MID.out.1 t hlt2 j hj
                    omega)
                have RM := Lib.hid RM
                have UP := Lib.hid (Zx.upr_step hlt2 f1)
                have y3 := HM4.out.weak.head htn
                have htc : t < n := htn
                clear ek et
                go_wp2_with fail
                refine (RM.out).mono ?_; rintro e w4 ⟨rfl, ho4, hb4⟩
                have HM5 := Lib.hid (ho4.ext fun i j _ _ => UP.out i j)
                have HN5 := Lib.hid (HN.out.trans (hb4.wide htn rfl))
                clear ho4 hb4
                go_wp2_with fail
                go_roundw
                case rel => exact ⟨t + 1, by omega, by go_num, HM5.out, HN5.out⟩
                case measure => simp [intOf]; omega
              · obtain rfl : t = k := by omega
                have HK5 := Lib.hid (show Kp w wr from HN.out.below HK3.out HK3.out.size fun i hi => (HGL.out i hi).1)
                clear ht hlt2
                go_wp2_with fail
                go_roundw
                case rel => exact ⟨t + 1, G1, C1, _, by omega, by go_num, HM4.out, NX.out, HK5.out⟩
                case measure => simp [intOf]; omega
        · obtain rfl : n = k := by omega
          go_wp2_with fail
          go_ret2
          exact .inr ⟨g, cap, G, C, f, HF.out.hnf, HF.out.eql, rfl, HM.out, hnc, HK.out⟩
end Go.Proofs.Ytlnehhhlpdaebaa
