/- Contracts of package poly, third part: divide. -/
import Derived.Test.YtakhnacfnobldaaDoorPolC2
namespace Go.Proofs.YtakhnacfnobldaaDoor
open Go.ChangeShapes Go.WideShapes Go.ChangeAt Go.RowKit
set_option linter.unusedVariables false

/-- The answer is two rows of factors, and no error. -/
def GivesTwo (q r : List Fp.F) (w : World) (e : Ending) (w' : World) : Prop :=
  ∃ A c B d, e = .returned (.tuple #[.slice A q.length c, .slice B r.length d, .nilIface]) ∧ Lies w' A (Pol.vals q) ∧ q.length ≤ c ∧ Lies w' B (Pol.vals r) ∧ r.length ≤ d ∧ Kp w w'

theorem msub_bound (t c : Fp.F) : 0 ≤ (9973 - (t.val : Int)) * (c.val : Int) ∧ (9973 - (t.val : Int)) * (c.val : Int) ≤ 99450756 := by
  have h1 := Fp.val_bound t
  have h2 := Fp.val_bound c
  have := Int.mul_le_mul (show 9973 - (t.val : Int) ≤ 9973 by omega) h2.2 h2.1 (by omega)
  exact ⟨Int.mul_nonneg (by omega) h2.1, by omega⟩

/-- What dividing keeps: so many places of the quotient are still to come. -/
structure Left (p g R Q : List Fp.F) (j : Nat) : Prop where
  lr : R.length = p.length
  lq : Q.length = p.length - (g.length - 1)
  eq : ∀ x, Pol.ev p x = Pol.ev g x * Pol.ev Q x + Pol.ev R x
  zr : ∀ k, j + (g.length - 1) ≤ k → Pol.co R k = 0
  zq : ∀ k, k < j → Pol.co Q k = 0

theorem co_zeros (n k : Nat) : Pol.co (List.replicate n 0) k = 0 := by
  unfold Pol.co
  rw [List.getD_eq_getElem?_getD, List.getElem?_replicate]
  split <;> rfl

theorem left_start (p g : List Fp.F) : Left p g p (List.replicate (p.length - (g.length - 1)) 0) (p.length - (g.length - 1)) :=
  ⟨rfl, List.length_replicate .., fun x => by rw [Pol.ev_zeros]; grind, fun k hk => Pol.co_out _ _ (by omega), fun k _ => co_zeros _ k⟩

theorem left_step (p g R Q : List Fp.F) (j : Nat) (hg : Pol.Tr g) (g0 : g ≠ []) (hj : j + 1 ≤ p.length - (g.length - 1)) (h : Left p g R Q (j + 1)) (t : Fp.F) (ht : t = Pol.co R (j + (g.length - 1)) * Fp.inv (Pol.top g)) :
    Left p g (Pol.addAt R (-t) g j g.length) (Q.set j t) j := by
  have l := List.length_pos_iff.2 g0
  have lr := h.lr
  have lq := h.lq
  have tg := Pol.top_ne hg g0
  refine ⟨by rw [Pol.len_addAt, lr], by rw [List.length_set, lq], fun x => ?_, fun k hk => ?_, fun k hk => ?_⟩
  · rw [Pol.ev_set _ _ _ _ (by omega), Pol.ev_addAt _ _ _ _ _ (by omega), List.take_length, h.zq j (by omega), h.eq]; grind
  · by_cases e : k = j + (g.length - 1)
    · have e1 := Pol.co_addAt_top R (-t) g j (g.length - 1) (by omega)
      rw [Nat.sub_add_cancel (by omega)] at e1
      rw [e, e1, ht]
      exact Pol.cancel _ _ _ (Fp.inv_mul tg)
    · rw [Pol.co_addAt_far _ _ _ _ _ _ (by omega) (by omega)]
      exact h.zr k (by omega)
  · rw [Pol.co_set _ _ _ _ (by omega), if_neg (by omega)]
    exact h.zq k (by omega)

theorem left_end (p g R Q : List Fp.F) (hp : Pol.Tr p) (hg : Pol.Tr g) (g0 : g ≠ []) (lp : p.length ≤ 1000) (lg : g.length ≤ 1000) (h : Left p g R Q 0) : Pol.Dv p g Q (Pol.trim R) := by
  have l := List.length_pos_iff.2 g0
  refine Pol.Dv.full hp hg lp lg g0 h.lq ?_ h.eq
  have := Pol.trim_short R (g.length - 1) fun k hk => h.zr k (by omega)
  omega

theorem divide_el (b : Fp.F) (w : World) (hb : b ≠ 0) :
    Calls Tryd.prog 32 #[.int .i64 1, el b] w fun e w' => e = .returned (.tuple #[el (Fp.inv b), .nilIface]) ∧ Drew w w' := by
  have h := div_el 1 b w hb
  rw [Fin.one_mul] at h
  exact h

set_option maxRecDepth 100000 in
set_option maxHeartbeats 3200000 in
theorem divide_any (A B : Option Addr) (p g : List Fp.F) (c d : Nat) (w : World) (ha : Lies w A (Pol.vals p)) (hb : Lies w B (Pol.vals g)) (hp : Pol.Tr p) (hg : Pol.Tr g) (g0 : g ≠ []) (lp : p.length ≤ 100) (lg : g.length ≤ 100) :
    Calls Tryd.prog 27 #[.slice A p.length c, .slice B g.length d] w fun e w' => ∃ q r, Pol.Dv p g q r ∧ GivesTwo q r w e w' := by
  have HA := Lib.hid ha
  have HB := Lib.hid hb
  have HT := Lib.hid (Pol.top_ne hg g0)
  have HS := Lib.hid (fun R Q j => left_step p g R Q j hg g0)
  have HE := Lib.hid (fun R Q => left_end p g R Q hp hg g0 (by omega) (by omega))
  obtain ⟨l, hm⟩ : ∃ l, g.length = l + 1 := ⟨g.length - 1, by have := List.length_pos_iff.2 g0; omega⟩
  obtain ⟨n, hn⟩ : ∃ n, n = p.length := ⟨_, rfl⟩
  rw [← hn] at lp ⊢
  rw [hm] at lg ⊢
  have HN := Lib.hid hn
  have HM := Lib.hid hm
  clear ha hb hn hm hp hg g0
  obtain ⟨bd, rfl, _, hcell⟩ := HB.out l (by rw [Pol.len_vals, HM.out]; omega)
  rw [Pol.vals_at] at hcell
  obtain ⟨b, hb⟩ : ∃ b, b = Pol.top g := ⟨_, rfl⟩
  rw [← hb] at HT
  rw [show Pol.co g l = b by rw [hb, Pol.top, HM.out]; rfl] at hcell
  have HTOP := Lib.hid hb
  clear hb
  obtain ⟨i0, hi, hz0, hz1, hz2⟩ := info_parts int_info
  go_enter Tryd.func27, Tryd.ntmps27
  go_wp2_with fail
  refine (divide_el b _ HT.out).mono ?_; rintro e wd ⟨rfl, hd⟩
  have HD := Lib.hid hd
  clear hd hcell
  obtain ⟨iv, hiv⟩ : ∃ iv, iv = Fp.inv b := ⟨_, rfl⟩
  rw [← hiv]
  have HIV := Lib.hid hiv
  clear hiv
  go_wp2_with (at_make; refine wpList_make_full _ rfl _ _ 22 rfl wd.heap.size 3 i0 (.int .i64 0) 1 Tryd.underlying22 hi hz0 hz1 _ _ _ _ n rfl rfl rfl rfl (by rw [hz2]; omega) (by unfold maxLen; omega) (Nat.le_refl _) ?_; intro w1 hown hgrow; have hrow : Row w1 wd.heap.size (Pol.vals (List.replicate n 0)) := (by rw [Pol.vals_zeros]; exact row_made hown); have hkp : Kp w w1 := HD.out.kp.grown hgrow HD.out.kp.size (fun k hk => by cases hk); clear hown hgrow)
  obtain ⟨w2, hrun, hr2, hk2⟩ := copy_run w1 wd.heap.size n n c A p 3 hrow (HA.out.keep hkp) HN.out (Nat.le_refl n)
  rw [hrun]
  clear hrun
  rw [Nat.sub_self, List.replicate_zero, List.append_nil] at hr2
  obtain ⟨gr, hgr⟩ : ∃ gr, gr = wd.heap.size := ⟨_, rfl⟩
  rw [← hgr] at hr2 hk2 ⊢
  have hgw : w.heap.size ≤ gr := by rw [hgr]; exact HD.out.kp.size
  have HKP2 := Lib.hid (show Kp w w2 from hk2 _ _ hkp hgw)
  have HR2 := Lib.hid hr2
  have HGW := Lib.hid hgw
  clear hrow hkp hk2 hgr HD hr2 hgw
  obtain ⟨K, hK⟩ : ∃ K, K = n - l := ⟨_, rfl⟩
  have hKb : K ≤ 100 := by omega
  have HK0 := Lib.hid hK
  clear hK
  go_wp2_with (at_make; refine wpList_make_full _ rfl _ _ 22 rfl w2.heap.size 3 i0 (.int .i64 0) 1 Tryd.underlying22 hi hz0 hz1 _ _ _ _ K rfl rfl (by have := HK0.out; omega) (by have := HK0.out; omega) (by rw [hz2]; have := HK0.out; omega) (by unfold maxLen; have := HK0.out; omega) (Nat.le_refl _) ?_; intro w3 hown hgrow; have hrow : Row w3 w2.heap.size (Pol.vals (List.replicate K 0)) := (by rw [Pol.vals_zeros]; exact row_made hown); have hkp : Kp w w3 := HKP2.out.grown hgrow HKP2.out.size (fun k hk => by cases hk); have hr3 : Row w3 gr (Pol.vals p) := (HR2.out.keep ((Kp.rfl' w2).grown hgrow (Nat.le_refl _) (fun k hk => by cases hk))); clear hown hgrow)
  all_goals
    have hK1 : K ≤ n := by have := HK0.out; omega
    obtain ⟨gq, hgq⟩ : ∃ gq, gq = w2.heap.size := ⟨_, rfl⟩
    rw [← hgq] at hrow ⊢
    have hgg : gr ≠ gq := by have := HR2.out.lt; omega
    have HGQ := Lib.hid (show w.heap.size ≤ gq by have := HKP2.out.size; omega)
    have HGG := Lib.hid hgg
    clear hgq hgg HKP2 HR2 hi hz0 hz1 hz2
    go_loopw [9] (fun i wr => ∃ (j : Nat) (R Q : List Fp.F), j ≤ K ∧ i = .int .i64 ((j : Int) - 1) ∧ Row wr gr (Pol.vals R) ∧ Row wr gq (Pol.vals Q) ∧ Left p g R Q j ∧ Kp w wr) (fun i _ => (intOf i + 1).toNat)
    case atStart => exact ⟨K, p, List.replicate K 0, Nat.le_refl _, rfl, hr3, hrow, by have := left_start p g; rw [HM.out, ← HN.out, Nat.add_sub_cancel, ← HK0.out] at this; exact this, hkp⟩
    case round =>
      clear hr3 hrow hkp
      obtain ⟨j, R, Q, hj, rfl, hr, hq, hl, hkp⟩ := hrel
      have HR := Lib.hid hr
      have HQ := Lib.hid hq
      have HL := Lib.hid hl
      have HK := Lib.hid hkp
      clear hr hq hl hkp
      have hlr := Lib.hid (show R.length = n by rw [HL.out.lr, HN.out])
      have hlq := Lib.hid (show Q.length = K by rw [HL.out.lq, ← HN.out, HM.out, Nat.add_sub_cancel, HK0.out])
      cases j with
      | zero =>
        have ei : ((0 : Nat) : Int) - 1 = -1 := by decide
        rw [ei]
        have HDV := Lib.hid (HE.out R Q HL.out)
        have T := Lib.hid (trimmed_any (some ⟨gr, 0, none⟩) R n)
        rw [hlr.out] at T
        go_wp2_with fail
        refine (T.out _ HR.out.lies (Nat.le_refl n) (by omega)).mono ?_; rintro e w' ⟨rfl, rfl⟩
        go_wp2_with fail
        refine bodyPost_ret (v := .tuple #[.slice (some ⟨gq, 0, none⟩) K K, .slice (some ⟨gr, 0, none⟩) (Pol.trim R).length n, .nilIface]) (by simp [results, Tryd.results27, go_sem]) rfl ⟨Q, Pol.trim R, HDV.out, some ⟨gq, 0, none⟩, K, some ⟨gr, 0, none⟩, n, by rw [hlq.out], HQ.out.lies, by rw [hlq.out]; exact Nat.le_refl _, HR.out.trim, by have := Pol.len_trim R; rw [hlr.out] at this; exact this, HK.out⟩
      | succ j =>
        have ei : ((j + 1 : Nat) : Int) - 1 = (j : Int) := by omega
        rw [ei]
        have hjn : j + l < n := by have := HK0.out; omega
        have hcell := HR.out.cell (j + l) (by rw [Pol.len_vals, hlr.out]; exact hjn)
        rw [Pol.vals_at] at hcell
        obtain ⟨s, hs⟩ : ∃ s, s = Pol.co R (j + l) := ⟨_, rfl⟩
        rw [← hs] at hcell
        have hfree := HQ.out.free j
        have hlenq : (Pol.vals Q).length = K := by rw [Pol.len_vals, hlq.out]
        have hqcell := HQ.out.cell j (by rw [Pol.len_vals, hlq.out]; omega)
        have HV := Lib.hid (Fp.mul_val s iv)
        obtain ⟨t, ht⟩ : ∃ t, t = s * iv := ⟨_, rfl⟩
        rw [← ht] at HV
        have HSTEP := Lib.hid (HS.out R Q j (by rw [← HN.out, HM.out, Nat.add_sub_cancel, ← HK0.out]; exact hj) HL.out t (by rw [ht, HM.out, Nat.add_sub_cancel, ← hs, HIV.out, HTOP.out]))
        clear hlenq
        obtain ⟨p1, p2⟩ := prod_bound s iv
        have s1 := Fp.val_bound s
        have v1 := Fp.val_bound iv
        clear hs ht
        generalize (s.val : Int) = x at *
        try (exfalso; omega)
        all_goals
          go_wp2_with fail
          rw [← HV.out]
          have hrow1 : Row (wr.setCell ⟨gq, j, none⟩ (el t)) gr (Pol.vals R) := HR.out.far HGG.out _
          have hrow2 : Row (wr.setCell ⟨gq, j, none⟩ (el t)) gq (Pol.vals (Q.set j t)) := by rw [Pol.vals_set]; exact HQ.out.put j _
          have hkp1 : Kp w (wr.setCell ⟨gq, j, none⟩ (el t)) := HK.out.put (p := ⟨gq, j, none⟩) HGQ.out _
          clear p1 p2 s1 v1 hcell hfree hqcell HV
          go_loopw [61] (fun jj wr' => ∃ m : Nat, m ≤ l + 1 ∧ jj = .int .i64 (m : Int) ∧ Row wr' gr (Pol.vals (Pol.addAt R (-t) g j m)) ∧ Row wr' gq (Pol.vals (Q.set j t)) ∧ Kp w wr') (fun jj _ => l + 1 - (intOf jj).toNat)
          case atStart => exact ⟨0, Nat.zero_le _, rfl, hrow1, hrow2, hkp1⟩
          case round =>
            clear hrow1 hrow2 hkp1
            obtain ⟨m, hm, rfl, hr2, hq2, hkp2⟩ := hrel
            have HR2 := Lib.hid hr2
            have HQ2 := Lib.hid hq2
            have HKP2 := Lib.hid hkp2
            clear hr2 hq2 hkp2
            by_cases hlt : m < l + 1
            · obtain ⟨ad, e, _, hd⟩ := (HB.out.keep HKP2.out) m (by rw [Pol.len_vals, HM.out]; exact hlt)
              injection e with e
              subst e
              rw [Pol.vals_at] at hd
              obtain ⟨y, hy⟩ : ∃ y, y = Pol.co g m := ⟨_, rfl⟩
              rw [← hy] at hd
              have hlen : (Pol.vals (Pol.addAt R (-t) g j m)).length = n := by rw [Pol.len_vals, Pol.len_addAt, hlr.out]
              have hcell := HR2.out.cell (j + m) (by omega)
              have hfree := HR2.out.free (j + m)
              rw [Pol.vals_at] at hcell
              have HSS := Lib.hid (show Pol.addAt R (-t) g j (m + 1) = (Pol.addAt R (-t) g j m).set (j + m) (Pol.co (Pol.addAt R (-t) g j m) (j + m) + -t * y) by rw [Pol.addAt, hy])
              clear hy hlen
              generalize Pol.co (Pol.addAt R (-t) g j m) (j + m) = s at *
              have HV := Lib.hid (Pol.val_msub s t y)
              obtain ⟨p1, p2⟩ := msub_bound t y
              have s1 := Fp.val_bound s
              have y1 := Fp.val_bound y
              have t1 := Fp.val_bound t
              generalize (t.val : Int) = tv at *
              generalize (y.val : Int) = yv at *
              generalize (s.val : Int) = sv at *
              go_wp2_with fail
              go_roundw
              case rel =>
                refine ⟨m + 1, by omega, by go_num, ?_, HQ2.out.far (fun e => HGG.out e.symm) _, HKP2.out.put (p := ⟨gr, j + m, none⟩) HGW.out _⟩
                rw [HSS.out, Pol.vals_set, HV.out]
                exact HR2.out.put _ _
              case measure => simp [intOf]; omega
            · have HR3 := Lib.hid (show Row wr gr (Pol.vals (Pol.addAt R (-t) g j g.length)) by rw [HM.out, show l + 1 = m by omega]; exact HR2.out)
              go_wp2_with fail
              go_roundw
              case rel => exact ⟨j, _, _, by omega, by go_num, HR3.out, HQ2.out, HSTEP.out, HKP2.out⟩
              case measure => simp [intOf]

end Go.Proofs.YtakhnacfnobldaaDoor
