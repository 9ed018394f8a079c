/- Contracts of package bareiss, third part: Leading, Of. -/
import Derived.Test.YtkebjmapdcbnaaaBaC3
namespace Go.Proofs.Ytkebjmapdcbnaaa
open Go.ChangeShapes Go.WideShapes Go.ChangeAt Go.RowKit
set_option linter.unusedVariables false

/-- The determinants of the first rows and columns. -/
def leads (n : Nat) (x : Nat → Nat → Int) : List Int := Mx.row n fun i => Zx.dt (i + 1) x
def GotLead (n : Nat) (x : Nat → Nat → Int) (w : World) (e : Ending) (w' : World) : Prop := ∃ g, e = .returned (.tuple #[.slice (some ⟨g, 0, none⟩) n n, .nilIface]) ∧ Row w' g (leads n x) ∧ Kp w w'

set_option maxRecDepth 100000 in
set_option maxHeartbeats 1600000 in
theorem Lead_bad (A : Option Addr) (m : List (List Int)) (n d : Nat) (w : World) (ha : LiesM w A m) (hn : m.length = n) (h : qcode 5 (-9) 9 m ≠ 0) :
    Calls Try.prog 18 #[.slice A n d] w fun e w' => e = .returned (.tuple #[.slice none 0 0, errOf (qcode 5 (-9) 9 m)]) ∧ Kp w w' := by
  have CK := Lib.hid (BChk_any A m n d w ha hn)
  rw [errOf_ne _ h] at CK ⊢
  generalize qcode 5 (-9) 9 m = z at *
  clear ha hn h
  go_enter Try.func18, Try.ntmps18
  go_wp2_with fail
  refine (CK.out).mono ?_; rintro e w' ⟨rfl, rfl⟩
  go_wp2_with fail
  go_ret2
  exact ⟨rfl, Kp.rfl' w⟩

set_option maxRecDepth 100000 in
set_option maxHeartbeats 6400000 in
theorem Lead_ok (A : Option Addr) (x : Nat → Nat → Int) (m : List (List Int)) (n d : Nat) (w : World) (ha : LiesM w A m) (s : Shz n x m) :
    Calls Try.prog 18 #[.slice A n d] w fun e w' => GotLead n x w e w' := by
  have CK := Lib.hid (BChk_any A m n d w ha s.len)
  rw [s.code, errOf_zero] at CK
  rw [s.eq] at ha
  have HA := Lib.hid ha
  have S5 := s.n5
  have NN := Lib.hid s.nine
  clear ha s
  obtain ⟨i0, hi, hz0, hz1, hz2⟩ := info_parts int_info
  go_enter Try.func18, Try.ntmps18
  go_wp2_with fail
  refine (CK.out).mono ?_; rintro e w' ⟨rfl, rfl⟩
  go_wp2_with (at_make; refine wpList_make_full _ rfl _ _ 32 rfl w.heap.size 3 i0 (.int .i64 0) 1 Try.underlying32 hi hz0 hz1 _ _ _ _ n rfl rfl rfl rfl (by rw [hz2]; omega) (by unfold maxLen; omega) (Nat.le_refl _) ?_; intro w1 hown hgrow)
  have HR := Lib.hid (row_made hown)
  have HK := Lib.hid (show Kp w w1 from (Kp.rfl' w).grown hgrow (by simp) (fun k hk => by cases hk))
  obtain ⟨g, hg⟩ : ∃ g, g = w.heap.size := ⟨_, rfl⟩
  rw [← hg] at HR ⊢
  have HG := Lib.hid (show w.heap.size ≤ g by omega)
  clear hown hgrow hg hi hz0 hz1 hz2
  go_loopw [6, 7, 8, 24] (fun u v l i wr => ∃ (k : Nat) (p : Nat → Nat) (H : Nat → Value), k ≤ n ∧ i = .int .i64 (k : Int) ∧ l = .int .i64 (Zx.lp x p k) ∧ Zx.El n x p k ∧
    Run w wr g u v H k (Mx.row k fun i => (p i : Int)) (Mx.row n fun i => if i < k then Zx.dt (i + 1) x else 0) n x p) (fun _ _ _ i _ => n - (intOf i).toNat)
  case atStart =>
    refine ⟨0, fun _ => 0, fun _ => .nilFunc, Nat.zero_le _, rfl, rfl, Zx.El.start n x _, ⟨HK.out, HG.out, ?_, fnsV_none _ _ _, Own.none _ _, fun i hi => absurd hi (by omega)⟩⟩
    have := HR.out
    rw [Mx.row_rep] at this
    rw [show (Mx.row n fun i => if i < 0 then Zx.dt (i + 1) x else 0) = Mx.row n fun _ => 0 from Mx.row_ext fun i _ => by rw [if_neg (by omega)]]
    exact this
  case round =>
    obtain ⟨k, p, H, hk, rfl, rfl, hel, hrun⟩ := hrel
    obtain ⟨wo, hwo⟩ : ∃ y, y = wr := ⟨_, rfl⟩
    subst hwo
    have EL := Lib.hid hel
    have RN := Lib.hid hrun
    clear HR HK
    by_cases hlt : k < n
    · obtain ⟨ad, A1, d1, rfl, _, x1, _, l1⟩ := (HA.out.keep hrun.kp).row hlt
      have CL := Lib.hid (sclone_any A1 (Mx.row n (x k)) d1 wo l1 (by rw [Mx.len_row]; omega))
      rw [Mx.len_row] at CL
      obtain ⟨Au, cu, hu, hcu, _⟩ := hrun.st.form
      have hku : k ≤ 1000 := by omega
      clear l1 hel hrun
      go_wp2_with fail
      refine (CL.out).mono ?_; rintro e w1 ⟨vr, rfl, hor, hkr⟩
      obtain ⟨z, cz, rfl, hz, hcz⟩ := own_some hor (by rw [Mx.len_row]; omega)
      rw [Mx.len_row] at hor hcz ⊢
      have HOR := Lib.hid hor
      have HKR := Lib.hid hkr
      clear hor hkr
      subst hu
      go_wp2_with fail
      go_loopw [34] (fun j wq => ∃ t : Nat, t ≤ k ∧ j = .int .i64 (t : Int) ∧ Own wq wo.heap.size (.slice (some ⟨z, 0, none⟩) n cz) (Mx.row n (Zx.bd x p t k)) ∧ Kp wo wq) (fun j _ => k - (intOf j).toNat)
      case atStart => exact ⟨0, Nat.zero_le _, rfl, by
        rw [show Mx.row n (Zx.bd x p 0 k) = Mx.row n (x k) from Mx.row_ext fun j _ => Zx.bd_zero x p k j]
        exact HOR.out, HKR.out⟩
      case round =>
        obtain ⟨t, ht, rfl, ho, hkq⟩ := hrel
        have HO := Lib.hid ho
        have HQ := Lib.hid hkq
        clear HOR HKR ho hkq
        by_cases htk : t < k
        · obtain ⟨Au', cu', e', _, hx⟩ := (RN.out.keep HQ.out).st.form
          cases e'
          obtain ⟨ad1, rfl, _, x2⟩ := hx t htk
          obtain ⟨P, R, L, Z, cc, hs, f1, f2, f3, f4⟩ := RN.out.fn t htk
          rw [(hs.keep HQ.out).fn] at x2
          have hb := fun j (hj : j < n) => EL.out.bound S5 NN.out (t := t) (r := k) (by omega) (by omega) hlt hj
          have hb2 := fun j (hj : j < n) => EL.out.bound S5 NN.out (t := t) (r := t) (by omega) (by omega) (by omega) hj
          have ST := Lib.hid (step_any _ P R L Z n cc (p t) (Zx.lp x p t) (Zx.bd x p t t) (Zx.bd x p t k) wr wo.heap.size z cz (hs.keep HQ.out) HO.out
            (by have := f1.2.1; omega) (by have := f2.2.1; omega) (by have := f3.2.1; omega) (by have := f4.2.1; omega) (EL.out.lt t htk) (by omega) (EL.out.ne (by omega)) hb hb2)
          rw [show (Mx.row n fun j => (Zx.bd x p t k j * Zx.bd x p t t (p t) - Zx.bd x p t k (p t) * Zx.bd x p t t j).tdiv (Zx.lp x p t)) = Mx.row n (Zx.bd x p (t + 1) k) from Mx.row_ext fun j _ => EL.out.step htk k j] at ST
          clear hs f1 f2 f3 f4 hb hb2 hx
          go_wp2_with fail
          refine (ST.out).mono ?_; rintro e w2 ⟨rfl, ho2, hk2⟩
          have HO2 := Lib.hid ho2
          have HQ2 := Lib.hid (hk2 wo hz HQ.out)
          clear ho2 hk2
          go_wp2_with fail
          go_roundw
          case rel => exact ⟨t + 1, by omega, by go_num, HO2.out, HQ2.out⟩
          case measure => simp [intOf]; omega
        · obtain rfl : t = k := by omega
          obtain ⟨Az, cz', ez, lz, _⟩ := HO.out.cap
          rw [Mx.len_row] at ez
          cases ez
          have IX := Lib.hid (idx_any (some ⟨z, 0, none⟩) (Mx.row n (Zx.bd x p t t)) n cz wr lz (Mx.len_row _ _) (by omega))
          clear lz
          go_wp2_with fail
          refine (IX.out).mono ?_; rintro e w2 ⟨hc, rfl⟩
          rcases hc with ⟨q, hq, hq1, hq2, rfl⟩ | ⟨hall, rfl⟩
          · rw [Mx.row_at _ _ _ hq] at hq1
            have EL2 := Lib.hid (EL.out.next hq hq1 fun j hj => by have := hq2 j hj; rw [Mx.row_at _ _ _ (by omega)] at this; exact this)
            have hqn : ¬ ((q : Int) < 0) := by omega
            have EM := Lib.hid (fun w => elim_any (some ⟨z, 0, none⟩) n cz (q : Int) (Zx.lp x p t) w)
            clear hq1 hq2
            go_wp2_with fail
            refine (EM.out _).mono ?_; rintro e w3 ⟨P, R, L, rfl, ⟨b1, b2, b3⟩, y1, y2, y3, k3⟩
            have R3 := Lib.hid (RN.out.keep (HQ.out.trans k3))
            have c3 := (k3.cell (p := ⟨z, q, none⟩) (cell_lt (own_cell HO.out q (by rw [Mx.len_row]; exact hq)))).trans (own_cell HO.out q (by rw [Mx.len_row]; exact hq))
            rw [Mx.row_at _ _ _ hq] at c3
            have hzl := cell_lt c3
            have hws := HQ.out.size
            have FZ := Lib.hid (fun (w' : World) (hs : w3.heap.size ≤ w'.heap.size) => RN.out.free (w' := w') hz (Nat.lt_of_lt_of_le hzl hs))
            have SF := Lib.hid (show StepFree w3 g (.slice Au t cu) u7 (.func (.func 32) #[] #[.pointer (some ⟨P, 0, none⟩), .pointer (some ⟨R, 0, none⟩), .pointer (some ⟨L, 0, none⟩)]) n x (Zx.upd p t q) t by
              refine ⟨P, R, L, z, cz, ⟨rfl, ?_, y2, ?_, fun j hj => ?_⟩, RN.out.free (Nat.le_trans hws b1) (cell_lt y1), RN.out.free (Nat.le_trans hws b2) (cell_lt y2), RN.out.free (Nat.le_trans hws b3) (cell_lt y3), RN.out.free hz hzl⟩
              · rw [Zx.upd_self]; exact y1
              · rw [Zx.lp_upd (Nat.le_refl t)]; exact y3
              · rw [Zx.bd_upd (Nat.le_refl t)]
                have := (k3.cell (p := ⟨z, j, none⟩) (cell_lt (own_cell HO.out j (by rw [Mx.len_row]; exact hj)))).trans (own_cell HO.out j (by rw [Mx.len_row]; exact hj))
                rw [Mx.row_at _ _ _ hj] at this
                exact this)
            have hg3 := R3.out.min.lt
            clear y1 y2 y3 k3 b1 b2 b3
            have epl : (Mx.row t fun i => (p i : Int)) ++ [(q : Int)] = Mx.row (t + 1) fun i => (Zx.upd p t q i : Int) := by
              rw [Mx.row_snoc, Zx.upd_self]
              congr 1
              exact Mx.row_ext fun i hi => by rw [Zx.upd_lt hi]
            have EP := Lib.hid epl
            have hyb := EL.out.bound S5 NN.out (t := t) (r := t) (Nat.le_refl _) (Nat.le_refl _) hlt hq
            have LP := Lib.hid (Zx.lp_next x p t q)
            obtain ⟨y, hy⟩ : ∃ y, y = Zx.bd x p t t q := ⟨_, rfl⟩
            rw [← hy] at c3 hyb LP
            clear hy epl
            go_wp2_with (at_builtin; first
              | (refine wpList_pushF rfl _ _ rfl (g + 1) _ t H _ w3.heap.size 1 rfl rfl (R3.out.keep ((Kp.rfl' w3).new _)).st (cell_made _ _ _ _ 0 rfl) rfl (by omega) (by simp; omega) ?_
                 intro u' w5 h1 h2 h3
                 have R5 := Lib.hid ((R3.out.keep ((Kp.rfl' w3).new _)).left (q := q) h1 h2 h3 (SF.out.keep ((Kp.rfl' w3).new _)))
                 have c5 := h2.cell (((Kp.rfl' w3).new _).cell (p := ⟨z, q, none⟩) hzl |>.trans c3) (fun e => (FZ.out w3 (Nat.le_refl _)).2.2.1 e.symm)
                 have hg5 := R5.out.min.lt
                 clear h1 h2 h3 c3)
              | (refine wpList_push rfl _ _ rfl (g + 1) _ (Mx.row t fun i => (p i : Int)) (q : Int) w5.heap.size 1 rfl rfl (R5.out.keep ((Kp.rfl' w5).new _)).pv (cell_made _ _ _ _ 0 rfl) (by rw [Mx.len_row]; omega) (by simp; omega) ?_
                 intro v' w6 h1 h2 h3
                 rw [EP.out] at h1
                 have R6 := Lib.hid ((R5.out.keep ((Kp.rfl' w5).new _)).right h1 h2 h3)
                 have c6 := h2.cell (((Kp.rfl' w5).new _).cell (p := ⟨z, q, none⟩) (cell_lt c5) |>.trans c5) (fun e => (FZ.out w3 (Nat.le_refl _)).2.2.2 e.symm)
                 obtain ⟨Av, cv, rfl, lv, _⟩ := h1.cap
                 rw [Mx.len_row] at R6 ⊢
                 have SG := Lib.hid (Sign_any Av (Mx.row (t + 1) fun i => (Zx.upd p t q i : Int)) (t + 1) cv w6 lv (Mx.len_row _ _) (by omega))
                 clear h1 h2 h3 c5 lv))
            refine (SG.out).mono ?_; rintro e w7 ⟨sv, rfl, hsg, k7⟩
            have R7 := Lib.hid (R6.out.keep k7)
            have hsb := hsg.bound
            have hw7 : IntKind.i64.wrap (sv * y) = sv * y := IntWalk.i64_in _ (by have := mul_within sv y (by omega) hyb; omega)
            have z1 := R7.out.min.cell t (by rw [Mx.len_row]; exact hlt)
            have z2 := R7.out.min.free t
            have DT := Lib.hid (show sv * y = Zx.dt (t + 1) x by
              have e1 := sign_sp hsg
              rw [Zx.sp_congr fun i hi => Mx.row_at _ _ _ hi] at e1
              rw [e1, ← LP.out]
              exact EL2.out.lead)
            clear hsg k7 hsb hyb c6
            go_wp2_with fail
            go_roundw
            case rel =>
              have := R7.out.store t (sv * y)
              rw [Mx.row_set] at this
              have ee : (Mx.row n fun j => if j = t then sv * y else if j < t then Zx.dt (j + 1) x else 0) = Mx.row n fun i => if i < t + 1 then Zx.dt (i + 1) x else 0 := Mx.row_ext fun j _ => by
                by_cases e : j = t
                · rw [if_pos e, if_pos (by omega), e, DT.out]
                · rw [if_neg e]
                  by_cases e2 : j < t
                  · rw [if_pos e2, if_pos (by omega)]
                  · rw [if_neg e2, if_neg (by omega)]
              rw [ee] at this
              exact ⟨t + 1, Zx.upd p t q, _, by omega, by go_num, by rw [LP.out], EL2.out, this⟩
            case measure => simp [intOf]; omega
          · have R2 := Lib.hid (RN.out.keep HQ.out)
            have ML := Lib.hid (show (Mx.row n fun i => if i < t then Zx.dt (i + 1) x else 0) = leads n x from Mx.row_ext fun i hi => by
              by_cases e : i < t
              · rw [if_pos e]
              · rw [if_neg e]
                exact (EL.out.null (fun j hj => by have := hall j hj; rw [Mx.row_at _ _ _ hj] at this; exact this) (by omega) (by omega)).symm)
            clear hall
            go_wp2_with fail
            go_ret2
            exact ⟨g, rfl, by rw [← ML.out]; exact R2.out.min, R2.out.kp⟩
    · obtain rfl : k = n := by omega
      have R2 := Lib.hid (show Row wo g (leads k x) by
        rw [show leads k x = Mx.row k fun i => if i < k then Zx.dt (i + 1) x else 0 from Mx.row_ext fun i hi => by rw [if_pos hi]]
        exact hrun.min)
      clear hel hrun
      go_wp2_with fail
      go_ret2
      exact ⟨g, rfl, R2.out, RN.out.kp⟩

set_option maxRecDepth 100000 in
set_option maxHeartbeats 1600000 in
theorem BOf_bad (A : Option Addr) (m : List (List Int)) (n d : Nat) (w : World) (ha : LiesM w A m) (hn : m.length = n) (h : qcode 5 (-9) 9 m ≠ 0) :
    Calls Try.prog 10 #[.slice A n d] w fun e w' => e = .returned (.tuple #[.int .i64 0, errOf (qcode 5 (-9) 9 m)]) ∧ Kp w w' := by
  have LB := Lib.hid (Lead_bad A m n d w ha hn h)
  rw [errOf_ne _ h] at LB ⊢
  generalize qcode 5 (-9) 9 m = z at *
  clear ha hn h
  go_enter Try.func10, Try.ntmps10
  go_wp2_with fail
  refine (LB.out).mono ?_; rintro e w' ⟨rfl, hk⟩
  have HK := Lib.hid hk
  clear hk
  go_wp2_with fail
  go_ret2
  exact ⟨rfl, HK.out⟩

set_option maxRecDepth 100000 in
set_option maxHeartbeats 1600000 in
theorem BOf_ok (A : Option Addr) (x : Nat → Nat → Int) (m : List (List Int)) (n d : Nat) (w : World) (ha : LiesM w A m) (s : Shz n x m) :
    Calls Try.prog 10 #[.slice A n d] w fun e w' => e = .returned (.tuple #[.int .i64 (Zx.dt n x), .nilIface]) ∧ Kp w w' := by
  have LO := Lib.hid (Lead_ok A x m n d w ha s)
  have h0 := s.n0
  have h5 := s.n5
  obtain ⟨k, hk⟩ : ∃ k, n = k + 1 := ⟨n - 1, by omega⟩
  have HN := Lib.hid hk
  have hk5 : k < 5 := by omega
  have e1 : (n : Int) - 1 = (k : Int) := by omega
  have hkn : k < n := by omega
  clear ha s hk
  go_enter Try.func10, Try.ntmps10
  go_wp2_with fail
  refine (LO.out).mono ?_; rintro e w' ⟨g, rfl, hr, hk⟩
  have x1 := hr.cell k (by unfold leads; rw [Mx.len_row]; exact hkn)
  unfold leads at x1
  rw [Mx.row_at _ _ _ hkn, ← HN.out] at x1
  have HK := Lib.hid hk
  clear hr hk
  go_wp2_with fail
  go_ret2
  exact ⟨rfl, HK.out⟩

end Go.Proofs.Ytkebjmapdcbnaaa
