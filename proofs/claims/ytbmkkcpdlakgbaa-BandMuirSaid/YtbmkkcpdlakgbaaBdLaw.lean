/- The walk of BandMuir. -/
import Derived.Test.YtbmkkcpdlakgbaaBdFact
import Derived.Test.YtbmkkcpdlakgbaaLawIn
import Derived.Test.YtbmkkcpdlakgbaaMxRef
namespace Go.Proofs.Ytbmkkcpdlakgbaa
open Go.ChangeShapes Go.WideShapes Go.ChangeAt Go.RowKit
set_option linter.unusedVariables false

theorem rowF_rev (n : Nat) (u : Nat → Fp.F) : (rowF n u).reverse = rowF n fun i => u (n - 1 - i) := by
  refine List.ext_getElem (by simp [Mx.row]) fun i h1 h2 => ?_
  simp [Mx.row]
theorem rowF_take (n k : Nat) (u : Nat → Fp.F) (h : k ≤ n) : (rowF n u).take k = rowF k u := by
  refine List.ext_getElem (by simp [Mx.row]; omega) fun i h1 h2 => ?_
  simp [Mx.row]
theorem muir_mod (x y z u : Fp.F) : ((x.val : Int) * (y.val : Int) - (z.val : Int) * (u.val : Int)) % 9973 = ((x * y - z * u).val : Int) := by
  have h := Fp.ofInt_add ((x.val : Int) * (y.val : Int) - (z.val : Int) * (u.val : Int)) ((z.val : Int) * (u.val : Int))
  rw [show (x.val : Int) * (y.val : Int) - (z.val : Int) * (u.val : Int) + (z.val : Int) * (u.val : Int) = (x.val : Int) * (y.val : Int) by omega, Fp.ofInt_mul, Fp.ofInt_mul, Fp.ofInt_self, Fp.ofInt_self, Fp.ofInt_self, Fp.ofInt_self] at h
  rw [← Fp.ofInt_val]
  have : Fp.ofInt ((x.val : Int) * (y.val : Int) - (z.val : Int) * (u.val : Int)) = x * y - z * u := by grind
  rw [this]

set_option maxRecDepth 100000 in
set_option maxHeartbeats 6400000 in
theorem walk_BandMuir (A : Option Addr) (L : List Int) (c : Nat) (B : Option Addr) (M : List Int) (d : Nat) (C : Option Addr) (N : List Int) (f : Nat) (w : World)
    (ha : Lies w A L) (lc : L.length ≤ c) (hb : Lies w B M) (ld : M.length ≤ d) (hc : Lies w C N) (lf : N.length ≤ f) :
    Calls Try.prog 3 #[.slice A L.length c, .slice B M.length d, .slice C N.length f] w fun e w' => e = .returned (.bool true) ∧ Kp w w' := by
  have FA := Lib.hid (bandFact_any w)
  have HA := Lib.hid ha
  have HB := Lib.hid hb
  have HC := Lib.hid hc
  rcases bd_or L M N with ⟨q, m, a, b, bd⟩ | bad
  · obtain ⟨e1, e2, e3, hq⟩ := bd
    subst e1 e2 e3
    rw [Mx.len_row] at lc ld lf ⊢
    rw [Mx.len_row, Mx.len_row]
    have D1 := Lib.hid (fun w' (k : Kp w w') => BDet_ok A B C q c d f m a b w' (HA.out.keep k) (HB.out.keep k) (HC.out.keep k) hq)
    have T1 := Lib.hid (fun w' (k : Kp w w') => show Calls Try.prog 8 #[.slice A (q + 1) c] w' fun e w'' => ∃ A' c', e = .returned (.slice A' (q + 1) c') ∧ Lies w'' A' (rowF (q + 1) fun i => m (q + 1 - 1 - i)) ∧ Kp w' w'' by
      have h := turned_any A _ c w' (HA.out.keep k) (by rw [Mx.len_row]; omega)
      rw [Mx.len_row, rowF_rev] at h
      refine h.mono ?_
      rintro e w'' ⟨v, rfl, ho, k'⟩
      obtain ⟨A', c', rfl, hl⟩ := ho.lies
      rw [Mx.len_row]
      exact ⟨A', c', rfl, hl, k'⟩)
    have T2 := Lib.hid (fun w' (k : Kp w w') => show Calls Try.prog 8 #[.slice C q f] w' fun e w'' => ∃ A' c', e = .returned (.slice A' q c') ∧ Lies w'' A' (rowF q fun i => b (q - 1 - i)) ∧ Kp w' w'' by
      have h := turned_any C _ f w' (HC.out.keep k) (by rw [Mx.len_row]; omega)
      rw [Mx.len_row, rowF_rev] at h
      refine h.mono ?_
      rintro e w'' ⟨v, rfl, ho, k'⟩
      obtain ⟨A', c', rfl, hl⟩ := ho.lies
      rw [Mx.len_row]
      exact ⟨A', c', rfl, hl, k'⟩)
    have T3 := Lib.hid (fun w' (k : Kp w w') => show Calls Try.prog 8 #[.slice B q d] w' fun e w'' => ∃ A' c', e = .returned (.slice A' q c') ∧ Lies w'' A' (rowF q fun i => a (q - 1 - i)) ∧ Kp w' w'' by
      have h := turned_any B _ d w' (HB.out.keep k) (by rw [Mx.len_row]; omega)
      rw [Mx.len_row, rowF_rev] at h
      refine h.mono ?_
      rintro e w'' ⟨v, rfl, ho, k'⟩
      obtain ⟨A', c', rfl, hl⟩ := ho.lies
      rw [Mx.len_row]
      exact ⟨A', c', rfl, hl, k'⟩)
    have D2 := Lib.hid (fun (w' : World) (A' B' C' : Option Addr) (c' d' f' : Nat) (h1 : Lies w' A' (rowF (q + 1) fun i => m (q + 1 - 1 - i))) (h2 : Lies w' B' (rowF q fun i => b (q - 1 - i))) (h3 : Lies w' C' (rowF q fun i => a (q - 1 - i))) => show Calls Try.prog 7 #[.slice A' (q + 1) c', .slice B' q d', .slice C' q f'] w' fun e w'' => e = .returned (.tuple #[.int .i64 ((Mx.ko (q + 1) m (fun i => a i * b i)).val : Int), .nilIface]) ∧ Kp w' w'' by
      have h := BDet_ok A' B' C' q c' d' f' _ _ _ w' h1 h2 h3 hq
      have e : Mx.ko (q + 1) (fun i => m (q + 1 - 1 - i)) (fun i => b (q - 1 - i) * a (q - 1 - i)) = Mx.ko (q + 1) m (fun i => a i * b i) := by
        rw [← Mx.ko_turn (q + 1) m (fun i => a i * b i)]
        refine Mx.ko_congr _ (fun i _ => rfl) fun i hi => ?_
        show _ = a (q + 1 - 2 - i) * b (q + 1 - 2 - i)
        rw [show q + 1 - 2 - i = q - 1 - i by omega]; exact Fin.mul_comm _ _
      rw [e] at h
      exact h)
    by_cases h3 : q < 2
    · clear ha hb hc
      have hn3 : ((q + 1 : Nat) : Int) < 3 := by omega
      generalize ((Mx.ko (q + 1) m (fun i => a i * b i)).val : Int) = dv at *
      generalize (rowF (q + 1) fun i => m (q + 1 - 1 - i)) = l1 at *
      generalize (rowF q fun i => b (q - 1 - i)) = l2 at *
      generalize (rowF q fun i => a (q - 1 - i)) = l3 at *
      generalize q + 1 = n at *
      go_enter Try.func3, Try.ntmps3
      go_wp2_with fail
      refine (FA.out).mono ?_; rintro e w1 ⟨rfl, k1⟩
      have K1 := Lib.hid k1; clear k1
      go_wp2_with fail
      refine (D1.out w1 K1.out).mono ?_; rintro e w2 ⟨rfl, k2⟩
      have K2 := Lib.hid (K1.out.trans k2); clear k2
      go_wp2_with fail
      refine (T1.out w2 K2.out).mono ?_; rintro e w3 ⟨A', c', rfl, x1, k3⟩
      have K3 := Lib.hid (K2.out.trans k3); clear k3
      have X1 := Lib.hid x1; clear x1
      go_wp2_with fail
      refine (T2.out w3 K3.out).mono ?_; rintro e w4 ⟨B', d', rfl, x2, k4⟩
      have K4 := Lib.hid (K3.out.trans k4)
      have X2 := Lib.hid x2
      have X1' := Lib.hid (X1.out.keep k4); clear x2 k4
      go_wp2_with fail
      refine (T3.out w4 K4.out).mono ?_; rintro e w5 ⟨C', f', rfl, x3, k5⟩
      have K5 := Lib.hid (K4.out.trans k5)
      have DE := Lib.hid (D2.out w5 A' B' C' c' d' f' (X1'.out.keep k5) (X2.out.keep k5) x3); clear x3 k5
      go_wp2_with fail
      refine (DE.out).mono ?_; rintro e w6 ⟨rfl, k6⟩
      have K6 := Lib.hid (K5.out.trans k6); clear k6
      go_wp2_with fail
      go_ret
      exact ⟨rfl, K6.out⟩
    · obtain ⟨p, rfl⟩ : ∃ p, q = p + 2 := ⟨q - 2, by omega⟩
      have D3 := Lib.hid (fun w' (k : Kp w w') => show Calls Try.prog 7 #[.slice A (p + 2) c, .slice B (p + 1) d, .slice C (p + 1) f] w' fun e w'' => e = .returned (.tuple #[.int .i64 ((Mx.ko (p + 2) m (fun i => a i * b i)).val : Int), .nilIface]) ∧ Kp w' w'' by
        refine BDet_ok A B C (p + 1) c d f m a b w' ?_ ?_ ?_ (by omega)
        · have := (HA.out.keep k).take (p + 1 + 1); rwa [rowF_take _ _ _ (by omega)] at this
        · have := (HB.out.keep k).take (p + 1); rwa [rowF_take _ _ _ (by omega)] at this
        · have := (HC.out.keep k).take (p + 1); rwa [rowF_take _ _ _ (by omega)] at this)
      have D4 := Lib.hid (fun w' (k : Kp w w') => show Calls Try.prog 7 #[.slice A (p + 1) c, .slice B p d, .slice C p f] w' fun e w'' => e = .returned (.tuple #[.int .i64 ((Mx.ko (p + 1) m (fun i => a i * b i)).val : Int), .nilIface]) ∧ Kp w' w'' by
        refine BDet_ok A B C p c d f m a b w' ?_ ?_ ?_ (by omega)
        · have := (HA.out.keep k).take (p + 1); rwa [rowF_take _ _ _ (by omega)] at this
        · have := (HB.out.keep k).take p; rwa [rowF_take _ _ _ (by omega)] at this
        · have := (HC.out.keep k).take p; rwa [rowF_take _ _ _ (by omega)] at this)
      have ZM := Lib.hid (show (((m (p + 2)).val : Int) * ((Mx.ko (p + 2) m (fun i => a i * b i)).val : Int) - ((a (p + 1) * b (p + 1)).val : Int) * ((Mx.ko (p + 1) m (fun i => a i * b i)).val : Int)) % 9973 = ((Mx.ko (p + 2 + 1) m (fun i => a i * b i)).val : Int) by
        have h := muir_mod (m (p + 2)) (Mx.ko (p + 2) m (fun i => a i * b i)) (a (p + 1) * b (p + 1)) (Mx.ko (p + 1) m (fun i => a i * b i))
        rw [← Mx.ko_next (p + 1) m (fun i => a i * b i)] at h
        exact h)
      have ZP := Lib.hid (show ((a (p + 1)).val : Int) * ((b (p + 1)).val : Int) % 9973 = ((a (p + 1) * b (p + 1)).val : Int) by rw [Fp.mul_val])
      have v1 := gval (Mx.ko (p + 2) m (fun i => a i * b i))
      have v2 := gval (Mx.ko (p + 1) m (fun i => a i * b i))
      have b1 := times_bound (m (p + 2)) (Mx.ko (p + 2) m (fun i => a i * b i))
      have b2 := times_bound (a (p + 1)) (b (p + 1))
      have b3 := times_bound (a (p + 1) * b (p + 1)) (Mx.ko (p + 1) m (fun i => a i * b i))
      obtain ⟨ad, rfl, _, _⟩ := ha.el (j := p + 2) (by omega)
      obtain ⟨bd, rfl, _, _⟩ := hb.el (j := p + 1) (by omega)
      obtain ⟨cd, rfl, _, _⟩ := hc.el (j := p + 1) (by omega)
      have CE := Lib.hid (show ∀ w', Kp w w' → w'.cell? (ad.add (p + 2)) = some (.int .i64 ((m (p + 2)).val : Int)) ∧ w'.cell? (bd.add (p + 1)) = some (.int .i64 ((a (p + 1)).val : Int)) ∧ w'.cell? (cd.add (p + 1)) = some (.int .i64 ((b (p + 1)).val : Int)) from fun w' k => by
        obtain ⟨_, y1, _, x1⟩ := (HA.out.keep k).el (j := p + 2) (by omega)
        obtain ⟨_, y2, _, x2⟩ := (HB.out.keep k).el (j := p + 1) (by omega)
        obtain ⟨_, y3, _, x3⟩ := (HC.out.keep k).el (j := p + 1) (by omega)
        cases y1; cases y2; cases y3
        exact ⟨x1, x2, x3⟩)
      clear ha hb hc HA HB HC
      have hn3 : ¬ ((p + 2 + 1 : Nat) : Int) < 3 := by omega
      have w1 : IntKind.i64.wrap (((p + 2 + 1 : Nat) : Int) - 1) = ((p + 2 : Nat) : Int) := by rw [IntWalk.i64_in _ (by omega)]; omega
      have w2 : IntKind.i64.wrap (((p + 2 + 1 : Nat) : Int) - 2) = ((p + 1 : Nat) : Int) := by rw [IntWalk.i64_in _ (by omega)]; omega
      have w3 : IntKind.i64.wrap (((p + 2 + 1 : Nat) : Int) - 3) = ((p : Nat) : Int) := by rw [IntWalk.i64_in _ (by omega)]; omega
      have s1 : ((p + 2 : Nat) : Int) ≤ (c : Int) := by omega
      have s2 : ((p + 1 : Nat) : Int) ≤ (d : Int) := by omega
      have s3 : ((p + 1 : Nat) : Int) ≤ (f : Int) := by omega
      have s4 : ((p + 1 : Nat) : Int) ≤ (c : Int) := by omega
      have s5 : (p : Int) ≤ (d : Int) := by omega
      have s6 : (p : Int) ≤ (f : Int) := by omega
      have r1 : ((p + 2 : Nat) : Int) < ((p + 2 + 1 : Nat) : Int) := by omega
      have r2 : ((p + 1 : Nat) : Int) < ((p + 2 : Nat) : Int) := by omega
      generalize ((Mx.ko (p + 2 + 1) m (fun i => a i * b i)).val : Int) = dv at *
      generalize ((Mx.ko (p + 2) m (fun i => a i * b i)).val : Int) = av at *
      generalize ((Mx.ko (p + 1) m (fun i => a i * b i)).val : Int) = bv at *
      generalize (rowF (p + 2 + 1) fun i => m (p + 2 + 1 - 1 - i)) = l1 at *
      generalize (rowF (p + 2) fun i => b (p + 2 - 1 - i)) = l2 at *
      generalize (rowF (p + 2) fun i => a (p + 2 - 1 - i)) = l3 at *
      generalize ((a (p + 1) * b (p + 1)).val : Int) = pv at *
      generalize ((m (p + 2)).val : Int) = mv at *
      generalize ((a (p + 1)).val : Int) = av1 at *
      generalize ((b (p + 1)).val : Int) = bv1 at *
      generalize p + 2 + 1 = n at *
      generalize p + 2 = n1 at *
      generalize p + 1 = n2 at *
      have m1 : IntKind.i64.wrap (mv * av) = mv * av := IntWalk.i64_in _ (by omega)
      have m2 : IntKind.i64.wrap (av1 * bv1) = av1 * bv1 := IntWalk.i64_in _ (by omega)
      have m3 : IntKind.i64.wrap (pv * bv) = pv * bv := IntWalk.i64_in _ (by omega)
      have m4 : IntKind.i64.wrap (mv * av - pv * bv) = mv * av - pv * bv := IntWalk.i64_in _ (by omega)
      have MO1 := Lib.hid (fun w => rMod_any (av1 * bv1) w (by omega) (by omega))
      have MO2 := Lib.hid (fun w => rMod_any (mv * av - pv * bv) w (by omega) (by omega))
      rw [ZP.out] at MO1
      rw [ZM.out] at MO2
      have IN1 := Lib.hid (fun w => law3In_any av 0 9972 w true (by rw [decide_eq_true v1.1, decide_eq_true v1.2]; rfl))
      have IN2 := Lib.hid (fun w => law3In_any bv 0 9972 w true (by rw [decide_eq_true v2.1, decide_eq_true v2.2]; rfl))
      clear v1 v2 b1 b2 b3 ZM ZP
      go_enter Try.func3, Try.ntmps3
      go_wp2_with fail
      refine (FA.out).mono ?_; rintro e w1 ⟨rfl, k1⟩
      have K1 := Lib.hid k1; clear k1
      go_wp2_with fail
      refine (D1.out w1 K1.out).mono ?_; rintro e w2 ⟨rfl, k2⟩
      have K2 := Lib.hid (K1.out.trans k2); clear k2
      go_wp2_with fail
      refine (T1.out w2 K2.out).mono ?_; rintro e w3 ⟨A', c', rfl, x1, k3⟩
      have K3 := Lib.hid (K2.out.trans k3); clear k3
      have X1 := Lib.hid x1; clear x1
      go_wp2_with fail
      refine (T2.out w3 K3.out).mono ?_; rintro e w4 ⟨B', d', rfl, x2, k4⟩
      have K4 := Lib.hid (K3.out.trans k4)
      have X2 := Lib.hid x2
      have X1' := Lib.hid (X1.out.keep k4); clear x2 k4
      go_wp2_with fail
      refine (T3.out w4 K4.out).mono ?_; rintro e w5 ⟨C', f', rfl, x3, k5⟩
      have K5 := Lib.hid (K4.out.trans k5)
      have DE := Lib.hid (D2.out w5 A' B' C' c' d' f' (X1'.out.keep k5) (X2.out.keep k5) x3); clear x3 k5
      go_wp2_with fail
      refine (DE.out).mono ?_; rintro e w6 ⟨rfl, k6⟩
      have K6 := Lib.hid (K5.out.trans k6); clear k6 DE X1 X2 X1' T1 T2 T3 D1 D2 FA K1 K2 K3 K4 K5
      go_wp2_with fail
      go_region_law (first
        | (go_simp; go_at_call 7; refine (D3.out _ (K6.out.drewN 1)).mono ?_; rintro e w7 ⟨rfl, k7⟩; have K7 := Lib.hid ((K6.out.drewN 1).trans k7); clear k7))
      all_goals
        go_wp2_with fail
        go_region_law (first
          | (go_simp; go_at_call 7; refine (D4.out _ (K7.out.drewN 1)).mono ?_; rintro e w8 ⟨rfl, k8⟩; have K8 := Lib.hid ((K7.out.drewN 1).trans k8); clear k8))
      all_goals
        go_wp2_with fail
        refine (IN1.out _).mono ?_; rintro e w' ⟨rfl, rfl⟩
        go_wp2_with fail
        refine (IN2.out _).mono ?_; rintro e w' ⟨rfl, rfl⟩
        obtain ⟨x1, x2, x3⟩ := CE.out w8 K8.out
        go_wp2_with fail
        go_quiet ((first
          | (with_reducible exact quiet_here (MO1.out _))
          | (with_reducible exact quiet_more (MO1.out _))
          | (with_reducible exact quiet_here (MO2.out _))
          | (with_reducible exact quiet_more (MO2.out _))))
        go_wp2_with fail
        go_ret
        exact ⟨rfl, K8.out.drewN _⟩
  · have DB := Lib.hid (fun w' (k : Kp w w') => BDet_bad A B C L M N _ _ _ c d f w' (HA.out.keep k) (HB.out.keep k) (HC.out.keep k) rfl rfl rfl bad)
    rw [errOf_ne _ bad] at DB
    generalize bcode L M N = z at *
    generalize L.length = n1 at *
    generalize M.length = n2 at *
    generalize N.length = n3 at *
    clear ha hb hc bad lc ld lf
    go_enter Try.func3, Try.ntmps3
    go_wp2_with fail
    refine (FA.out).mono ?_; rintro e w1 ⟨rfl, k1⟩
    have K1 := Lib.hid k1; clear k1
    go_wp2_with fail
    refine (DB.out w1 K1.out).mono ?_; rintro e w2 ⟨rfl, rfl⟩
    go_wp2_with fail
    go_ret
    exact ⟨rfl, K1.out⟩

end Go.Proofs.Ytbmkkcpdlakgbaa
