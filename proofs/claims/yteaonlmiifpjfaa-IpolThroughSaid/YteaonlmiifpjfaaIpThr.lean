/- The law IpolThrough. -/
import Derived.Test.YteaonlmiifpjfaaIpSum
namespace Go.Proofs.Yteaonlmiifpjfaa
open Go.ChangeShapes Go.WideShapes Go.ChangeAt Go.RowKit
set_option linter.unusedVariables false

/-- What the third list is: too long, no row of factors, or one. -/
def Third (o : List Int) (n : Nat) : Prop := n < o.length ∨ (o.length ≤ n ∧ Pol.code o ≠ 0) ∨ (o.length ≤ n ∧ ∃ g : List Fp.F, o = Pol.vals g)
theorem third_any (o : List Int) (n : Nat) : Third o n := by
  by_cases h : n < o.length
  · exact .inl h
  · by_cases h2 : Pol.code o = 0
    · obtain ⟨g, e, _⟩ := Pol.code_zero h2
      exact .inr (.inr ⟨by omega, g, e⟩)
    · exact .inr (.inl ⟨by omega, h2⟩)

set_option maxRecDepth 100000 in
set_option maxHeartbeats 3200000 in
theorem thru_ok (A B C : Option Addr) (p q : List Fp.F) (o : List Int) (n no ca cb cc : Nat) (w : World) (ha : Lies w A (Pol.vals p)) (hb : Lies w B (Pol.vals q)) (hc : Lies w C o) (hp : n = p.length) (hq : n = q.length) (ho : no = o.length) (ln : n ≤ 6) (lc : n ≤ ca) (lo : no ≤ cc) (hX : Pol.Apart (Pol.co p) n) :
    Calls Try.prog 3 #[.slice A n ca, .slice B n cb, .slice C no cc] w fun e w' => e = .returned (.bool true) ∧ Kp w w' := by
  have HA := Lib.hid ha
  have HB := Lib.hid hb
  have HC := Lib.hid hc
  have HP := Lib.hid hp
  have HQ := Lib.hid hq
  have HNO := Lib.hid ho
  have HX := Lib.hid hX
  have LC := Lib.hid lc
  have LO := Lib.hid lo
  have LA := Lib.hid (Pol.len_thr (Pol.co p) (Pol.co q) n (by omega))
  have la := LA.out
  have TH := Lib.hid (Pol.th_thr (Pol.co p) (Pol.co q) n (by omega) hX)
  have H3 := Lib.hid (third_any o n)
  clear ha hb hc hp hq ho hX lc lo
  obtain ⟨f, hf⟩ : ∃ f, f = Pol.thr (Pol.co p) (Pol.co q) n := ⟨_, rfl⟩
  rw [← hf] at LA TH la
  have HF := Lib.hid hf
  clear hf
  obtain ⟨nf, hnf⟩ : ∃ nf, nf = f.length := ⟨_, rfl⟩
  rw [← hnf] at LA la
  have HNF := Lib.hid hnf
  have lb : decide (n < nf) = false := by simp; omega
  have lb2 : ¬ n < nf := by omega
  clear hnf la
  go_enter Try.func3, Try.ntmps3
  go_wp2_with fail
  refine (ipFact_any _).mono ?_; rintro e w1 ⟨rfl, hk⟩
  have K1 := Lib.hid hk
  clear hk
  go_wp2_with fail
  refine (through_ok A B p q n _ _ _ (HA.out.keep K1.out) (HB.out.keep K1.out) HP.out HQ.out ln LC.out HX.out).mono ?_
  rintro e w2 ⟨Aa, na, rfl, l, _, hk⟩
  rw [← HF.out] at l ⊢
  rw [← HNF.out]
  have La := Lib.hid l
  have T2 := Lib.hid (K1.out.trans hk)
  clear l hk
  go_wp2_with fail
  go_loopw [10] (fun i wr => ∃ k : Nat, k ≤ n ∧ i = .int .i64 (k : Int) ∧ w2 = wr) (fun i _ => n - (intOf i).toNat)
  case atStart => exact ⟨0, Nat.zero_le _, rfl, rfl⟩
  case round =>
    obtain ⟨k, hk, rfl, rfl⟩ := hrel
    by_cases hlt : k < n
    · obtain ⟨ad, rfl, _, xc⟩ := (HA.out.keep T2.out) k (by rw [Pol.len_vals, ← HP.out]; exact hlt)
      obtain ⟨bd, rfl, _, yc⟩ := (HB.out.keep T2.out) k (by rw [Pol.len_vals, ← HQ.out]; exact hlt)
      rw [Pol.vals_at] at xc yc
      have AT := Lib.hid (at_ok' Aa f nf na (Pol.co p k) w2 La.out HNF.out (by have := LA.out; omega))
      rw [TH.out.2 k hlt] at AT
      unfold el at *
      generalize ((Pol.co p k).val : Int) = xv at *
      generalize ((Pol.co q k).val : Int) = yv at *
      go_wp2_with fail
      refine (AT.out).mono ?_; rintro e w' ⟨rfl, rfl⟩
      go_wp2_with fail
      go_roundw
      case rel => exact ⟨k + 1, by omega, by go_num, trivial⟩
      case measure => simp [intOf]; omega
    · obtain rfl : k = n := by omega
      have FA := Lib.hid (refFactors_any C o cc w2 (HC.out.keep T2.out))
      rw [← HNO.out] at FA
      rcases H3.out with h3 | ⟨h3, h4⟩ | ⟨h3, g, hg⟩
      · rw [← HNO.out] at h3
        have h3' : (k : Int) < (no : Int) := by omega
        go_wp2_with fail
        go_ret
        exact ⟨rfl, T2.out⟩
      · rw [← HNO.out] at h3
        have h3' : ¬ (k : Int) < (no : Int) := by omega
        have h4' : ((Pol.code o : Int) != 0) = true := by simp; omega
        clear h4 h3
        generalize (Pol.code o : Int) = cv at *
        go_wp2_with fail
        refine (FA.out).mono ?_; rintro e w' ⟨rfl, rfl⟩
        go_wp2_with fail
        go_ret
        exact ⟨rfl, T2.out⟩
      · subst hg
        rw [← HNO.out] at h3
        have h3' : ¬ (k : Int) < (no : Int) := by omega
        rw [Pol.code_vals g (by have := HNO.out; rw [Pol.len_vals] at this; omega)] at FA
        have HG := Lib.hid (show no = g.length by rw [HNO.out, Pol.len_vals])
        clear HNO
        go_wp2_with fail
        refine (FA.out).mono ?_; rintro e w' ⟨rfl, rfl⟩
        go_wp2_with fail
        go_loopw [13, 14] (fun v i wr => ∃ t : Nat, t ≤ k ∧ i = .int .i64 (t : Int) ∧ Own wr w2.heap.size v (Pol.vals (Pol.row t (fun i => Pol.ev g (Pol.co p i)))) ∧ Kp w2 wr) (fun _ i _ => k - (intOf i).toNat)
        case atStart => exact ⟨0, Nat.zero_le _, rfl, Own.none _ _, Kp.rfl' _⟩
        case round =>
          obtain ⟨t, ht, rfl, hown, hkp⟩ := hrel
          have HO := Lib.hid hown
          have HK := Lib.hid hkp
          have hsz := hkp.size
          clear hown hkp
          by_cases hlt2 : t < k
          · obtain ⟨ad, rfl, _, xc⟩ := (HA.out.keep (T2.out.trans HK.out)) t (by rw [Pol.len_vals, ← HP.out]; exact hlt2)
            rw [Pol.vals_at] at xc
            have AT := Lib.hid (at_ok' C g no cc (Pol.co p t) wr (HC.out.keep (T2.out.trans HK.out)) HG.out (by omega))
            have HROW := Lib.hid (show Pol.vals (Pol.row (t + 1) (fun i => Pol.ev g (Pol.co p i))) = Pol.vals (Pol.row t (fun i => Pol.ev g (Pol.co p i))) ++ [((Pol.ev g (Pol.co p t)).val : Int)] by
              rw [row_snoc, Pol.vals_append]; rfl)
            have hlen : (Pol.vals (Pol.row t (fun i => Pol.ev g (Pol.co p i)))).length + 1 ≤ 17000000000000 := by rw [Pol.len_vals, Pol.len_row]; omega
            unfold el at *
            generalize hz : ((Pol.ev g (Pol.co p t)).val : Int) = z at *
            clear hz
            generalize ((Pol.co p t).val : Int) = xv at *
            go_wp2_with fail
            refine (AT.out).mono ?_; rintro e w' ⟨rfl, rfl⟩
            go_wp2_with (at_builtin; refine wpList_push rfl _ _ rfl w2.heap.size _ (Pol.vals (Pol.row t (fun i => Pol.ev g (Pol.co p i)))) z wr.heap.size 1 rfl rfl (HO.out.new _) (by simp) hlen (by simp; omega) ?_; intro v' w' h1 h2 _)
            have HO' := Lib.hid (show Own w' w2.heap.size v' (Pol.vals (Pol.row (t + 1) (fun i => Pol.ev g (Pol.co p i)))) by rw [HROW.out]; exact h1)
            have HK' := Lib.hid (own_below (HO.out.new _) (HK.out.new _) (Nat.le_trans hsz (by simp)) h2)
            clear h1 h2
            go_wp2_with fail
            go_roundw
            case rel => exact ⟨t + 1, by omega, by go_num, HO'.out, HK'.out⟩
            case measure => simp [intOf]; omega
          · obtain rfl : t = k := by omega
            obtain ⟨As, cs, rfl, hl, _⟩ := HO.out.cap
            rw [Pol.len_vals, Pol.len_row]
            have LS := Lib.hid hl
            have T4 := Lib.hid (T2.out.trans HK.out)
            have EQ := Lib.hid (show Pol.thr (Pol.co p) (Pol.co (Pol.row t (fun i => Pol.ev g (Pol.co p i)))) t = Pol.trim g by
              refine (Pol.thr_of (by omega) HX.out ⟨Nat.le_trans (Pol.len_trim g) (by rw [← HG.out]; exact h3), fun i hi => ?_⟩ (Pol.tr_trim g)).symm
              rw [Pol.ev_trim, Pol.co_row _ _ _ hi])
            have TR := Lib.hid (fun (wx : World) (hx : Kp w wx) => trim_ok' C g no cc wx (HC.out.keep hx) HG.out LO.out (by omega))
            clear hl
            go_wp2_with fail
            refine (through_ok A As p (Pol.row t (fun i => Pol.ev g (Pol.co p i))) t _ _ _ (HA.out.keep T4.out) LS.out HP.out (Pol.len_row _ _).symm ln LC.out HX.out).mono ?_
            rintro e w5 ⟨Ac, nc, rfl, l, _, hk⟩
            rw [EQ.out] at l ⊢
            have Lc := Lib.hid l
            have T5 := Lib.hid (T4.out.trans hk)
            clear l hk
            go_wp2_with fail
            refine (TR.out _ T5.out).mono ?_; rintro e w' ⟨rfl, rfl⟩
            go_wp2_with fail
            refine (ints_eq' Ac C _ _ _ _ _ _ _ Lc.out (HC.out.keep T5.out).trim rfl rfl (by have := Pol.len_trim g; have := HG.out; omega) rfl).mono ?_
            rintro e w7 ⟨rfl, hk7⟩
            have T7 := Lib.hid (T5.out.trans hk7)
            clear hk7
            go_wp2_with fail
            go_ret
            exact ⟨rfl, T7.out⟩

set_option maxRecDepth 100000 in
set_option maxHeartbeats 1600000 in
theorem thru_bad (A B C : Option Addr) (l m o : List Int) (ca cb cc : Nat) (w : World) (ha : Lies w A l) (hb : Lies w B m) (lc : l.length ≤ ca) (h : dcode l m ≠ 0) :
    Calls Try.prog 3 #[.slice A l.length ca, .slice B m.length cb, .slice C o.length cc] w fun e w' => e = .returned (.bool true) ∧ Kp w w' := by
  have T1 := Lib.hid (fun (w' : World) (k : Kp w w') => through_bad A B l m ca cb w' (ha.keep k) (hb.keep k) lc h)
  unfold Fails at T1
  have e := errOf_ne _ h
  rw [e] at T1
  clear e h ha hb lc
  generalize dcode l m = x at *
  generalize l.length = n1 at *
  generalize m.length = n2 at *
  generalize o.length = n3 at *
  go_enter Try.func3, Try.ntmps3
  go_wp2_with fail
  refine (ipFact_any _).mono ?_; rintro e w1 ⟨rfl, hk⟩
  have K1 := Lib.hid hk
  clear hk
  go_wp2_with fail
  refine (T1.out _ K1.out).mono ?_; rintro e w2 ⟨rfl, hk⟩
  have K2 := Lib.hid (K1.out.trans hk)
  clear hk
  go_wp2_with fail
  go_ret
  exact ⟨rfl, K2.out⟩

theorem walk_IpolThrough (A : Option Addr) (l : List Int) (ca : Nat) (B : Option Addr) (m : List Int) (cb : Nat) (C : Option Addr) (o : List Int) (cc : Nat) (w : World) (ha : Lies w A l) (lc : l.length ≤ ca) (hb : Lies w B m) (hc : Lies w C o) (lo : o.length ≤ cc) :
    Calls Try.prog 3 #[.slice A l.length ca, .slice B m.length cb, .slice C o.length cc] w fun e w' => e = .returned (.bool true) ∧ Kp w w' := by
  by_cases h : dcode l m = 0
  · obtain ⟨p, q, rfl, rfl, h1, h2, h3⟩ := dcode_zero h
    rw [Pol.len_vals, Pol.len_vals, h2]
    rw [Pol.len_vals] at lc
    exact thru_ok A B C p q o p.length o.length ca cb cc w ha hb hc rfl h2.symm rfl h1 lc lo h3
  · exact thru_bad A B C l m o ca cb cc w ha hb lc h

end Go.Proofs.Yteaonlmiifpjfaa
