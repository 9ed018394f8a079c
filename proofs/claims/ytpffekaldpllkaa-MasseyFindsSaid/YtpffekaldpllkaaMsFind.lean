/- The law MasseyFinds. -/
import Derived.Test.YtpffekaldpllkaaMsFact
import Derived.Test.YtpffekaldpllkaaRcFact
import Derived.Test.YtpffekaldpllkaaLawIn
import Derived.Test.YtpffekaldpllkaaSumG
namespace Go.Proofs.Ytpffekaldpllkaa
open Go.ChangeShapes Go.WideShapes Go.ChangeAt Go.RowKit
set_option linter.unusedVariables false

theorem noughts_bound {N : Nat} {x : Nat → Fp.F} (h : ∀ i, i < N → x i = 0) (k : Nat) : Ka.at' (rowF N x) k = 0 := by
  show (rowF N x).getD k 0 = 0
  rcases Nat.lt_or_ge k N with hk | hk
  · rw [rowF, Mx.row_at _ _ _ hk, h k hk]; rfl
  · rw [rowF, Mx.row_out _ _ _ hk]
theorem found_same {N n l : Nat} {f s g : Nat → Fp.F} (hn : 0 < n) (hl : 0 < l) (hln : l ≤ n) (h2 : 2 * n ≤ N) (hg : Mx.Gn N l g (Mx.sq n f s)) :
    rowF 16 (Mx.sq n f s) = rowF 16 (Mx.sq l g (Mx.sq n f s)) := by
  have h1 := Mx.gn_on hg ((Mx.sq_goes n f s hn).gn 16) (by omega)
  have h3 := (Mx.sq_goes l g (Mx.sq n f s) hl).gn 16
  exact Mx.row_ext fun i hi => by rw [Mx.gn_equal h1 h3 (fun j hj => (Mx.sq_start l g _ hj).symm) i hi]

set_option maxRecDepth 100000 in
set_option maxHeartbeats 6400000 in
theorem finds_main (A : Option Addr) (L : List Int) (c : Nat) (B : Option Addr) (S : List Int) (d : Nat) (n N : Nat) (f s : Nat → Fp.F) (w : World) (ha : Lies w A L) (hb : Lies w B S) (rc : Rc n f s L S) (hN : N ≤ 16) :
    Calls Try.prog 3 #[.slice A n c, .slice B n d, .int .i64 (N : Int)] w fun e w' => e = .returned (.bool true) ∧ Kp w w' := by
  have FA := Lib.hid (masseyFact_any w)
  have RO := Lib.hid (fun w' (k : Kp w w') => Row_rc rc A B c d N w' (ha.keep k) (hb.keep k) (by omega))
  have RO16 := Lib.hid (fun w' (k : Kp w w') => Row_rc rc A B c d 16 w' (ha.keep k) (hb.keep k) (by omega))
  have n0 := rc.pos
  have n5 := rc.le
  obtain ⟨x, hx⟩ : ∃ x, x = Mx.sq n f s := ⟨_, rfl⟩
  have hgo : Mx.Gn N n f x := by rw [hx]; exact (Mx.sq_goes n f s n0).gn N
  obtain ⟨l, hlN, hf⟩ := Mx.few_some N x
  have hln := hf.le hgo
  have SAME := Lib.hid (fun g (hg : Mx.Gn N l g x) (h0 : 0 < l) (h2 : 2 * n ≤ N) => show rowF 16 x = rowF 16 (Mx.sq l g x) by rw [hx] at hg ⊢; exact found_same n0 h0 hln h2 hg)
  rw [← hx] at RO RO16
  have HF := Lib.hid hf
  have IN := Lib.hid (fun w => law3In_any (N : Int) 0 16 w true (by simp; omega))
  have l0 : ¬ (l : Int) < 0 := by omega
  have l1 : ¬ (n : Int) < (l : Int) := by omega
  have hwn : IntKind.i64.wrap (2 * (n : Int)) = 2 * (n : Int) := IntWalk.i64_in _ (by omega)
  clear ha hb hx hgo hf rc
  go_enter Try.func3, Try.ntmps3
  go_wp2_with fail
  refine (FA.out).mono ?_; rintro e w1 ⟨rfl, k1⟩
  have K1 := Lib.hid k1
  clear k1 FA
  go_wp2_with fail
  refine (RO.out _ K1.out).mono ?_; rintro e w2 ⟨g, rfl, hr, _, k2⟩
  have HR := Lib.hid hr
  have K2 := Lib.hid (K1.out.trans k2)
  clear k2 hr RO
  go_wp2_with fail
  refine (IN.out _).mono ?_; rintro e w' ⟨rfl, rfl⟩
  go_wp2_with fail
  refine (Fewest_ok (some ⟨g, 0, none⟩) N N l x _ HR.out.lies hN HF.out).mono ?_; rintro e w3 ⟨rfl, k3⟩
  have HR3 := Lib.hid (HR.out.keep k3)
  have K3 := Lib.hid (K2.out.trans k3)
  clear k3 HR IN
  by_cases h1 : N ≤ n
  · have h1' : (N : Int) ≤ (n : Int) := by omega
    have h2' : (l : Int) ≤ (N : Int) := by omega
    clear h1
    go_wp2_with fail
    go_ret
    exact ⟨rfl, K3.out⟩
  · have h1' : ¬ (N : Int) ≤ (n : Int) := by omega
    by_cases h2 : N < 2 * n
    · have h2' : (N : Int) < 2 * (n : Int) := by omega
      clear h1 h2
      go_wp2_with fail
      go_ret
      exact ⟨rfl, K3.out⟩
    · have h2' : ¬ (N : Int) < 2 * (n : Int) := by omega
      have FC := Lib.hid (Factors_ok (some ⟨g, 0, none⟩) N N l x w3 HR3.out.lies hN HF.out (by omega))
      have H2 := Lib.hid (show 2 * n ≤ N by omega)
      have ll : ((l : Int) != (l : Int)) = false := by simp
      clear h1 h2
      go_wp2_with fail
      refine (FC.out).mono ?_; rintro e w4 ⟨Z, dz, f', rfl, hz, hg, k4⟩
      have HZ := Lib.hid hz
      have HG := Lib.hid hg
      have HR4 := Lib.hid (HR3.out.keep k4)
      have K4 := Lib.hid (K3.out.trans k4)
      clear hz hg k4 FC HR3 K3
      by_cases h0 : l = 0
      · have e0 : ((l : Int) == 0) = true := by rw [h0]; rfl
        have hz0 := Lib.hid (fun k => noughts_bound (x := x) (N := N) (Mx.gn_none (c := f') (by have := HG.out; rw [h0] at this; exact this)) k)
        have SU := Lib.hid (rsum_any (some ⟨g, 0, none⟩) (rowF N x) N N w4 HR4.out.lies (Mx.len_row _ _) (by omega) (fun k => by rw [hz0.out k]; omega))
        rw [Ka.sm_none fun i _ => hz0.out i] at SU
        clear h0
        go_wp2_with fail
        refine (SU.out).mono ?_; rintro e w5 ⟨rfl, rfl⟩
        go_wp2_with fail
        go_ret
        exact ⟨rfl, K4.out⟩
      · have e0 : ((l : Int) == 0) = false := by rw [beq_eq_false_iff_ne]; omega
        have SM := Lib.hid (SAME.out f' HG.out (by omega) H2.out)
        have RCC : Rc l f' x (rowF l f') (rowF l x) := ⟨rfl, rfl, by omega, by omega⟩
        have RO2 := Lib.hid (fun w' h1 h2 => Row_rc RCC Z (some ⟨g, 0, none⟩) dz N 16 w' h1 h2 (by omega))
        have hlN' : (l : Int) ≤ (N : Int) := by omega
        have R16 := Lib.hid (RO16.out _ K4.out)
        clear h0 RCC RO16 SAME
        go_wp2_with fail
        refine (R16.out).mono ?_; rintro e w5 ⟨g5, rfl, hr5, _, k5⟩
        have HR5 := Lib.hid hr5
        have K5 := Lib.hid (K4.out.trans k5)
        have LX := Lib.hid (show Lies w5 (some ⟨g, 0, none⟩) (rowF l x) by
          have h := (HR4.out.keep k5).lies.take l
          rwa [show (rowF N x).take l = rowF l x from by
            refine List.ext_getElem (by rw [List.length_take, Mx.len_row, Mx.len_row]; omega) fun j h1 h2 => ?_
            simp [rowF, Mx.row]] at h)
        have LZ := Lib.hid (HZ.out.keep k5)
        have R2 := Lib.hid (RO2.out w5 LZ.out LX.out)
        clear hr5 k5 R16 RO2 HZ HR4 K4
        go_wp2_with fail
        refine (R2.out).mono ?_; rintro e w6 ⟨g6, rfl, hr6, _, k6⟩
        have HR6 := Lib.hid hr6
        have HR56 := Lib.hid (HR5.out.keep k6)
        have K6 := Lib.hid (K5.out.trans k6)
        clear hr6 k6 R2
        go_wp2_with fail
        refine (same_eq (some ⟨g5, 0, none⟩) (some ⟨g6, 0, none⟩) (rowF 16 x) (rowF 16 (Mx.sq l f' x)) 16 16 16 16 w6 HR56.out.lies HR6.out.lies (Mx.len_row _ _).symm (Mx.len_row _ _).symm (by decide) SM.out).mono ?_; rintro e w7 ⟨rfl, k7⟩
        have K7 := Lib.hid (K6.out.trans k7)
        clear k7
        go_wp2_with fail
        go_ret
        exact ⟨rfl, K7.out⟩

set_option maxRecDepth 100000 in
set_option maxHeartbeats 3200000 in
theorem walk_MasseyFinds (A : Option Addr) (L : List Int) (c : Nat) (B : Option Addr) (S : List Int) (d : Nat) (m : Int) (w : World) (ha : Lies w A L) (hb : Lies w B S) :
    Calls Try.prog 3 #[.slice A L.length c, .slice B S.length d, .int .i64 m] w fun e w' => e = .returned (.bool true) ∧ Kp w w' := by
  have FA := Lib.hid (masseyFact_any w)
  rcases Row_or L S m with ⟨n, f, s, N, rc, rfl, hN⟩ | bad
  · rw [rc.fl, rc.sl]
    by_cases h16 : N ≤ 16
    · exact finds_main A L c B S d n N f s w ha hb rc h16
    · have RO := Lib.hid (fun w' (k : Kp w w') => Row_rc rc A B c d N w' (ha.keep k) (hb.keep k) hN)
      have IN := Lib.hid (fun w => law3In_any (N : Int) 0 16 w false (by simp; omega))
      clear ha hb rc h16
      go_enter Try.func3, Try.ntmps3
      go_wp2_with fail
      refine (FA.out).mono ?_; rintro e w1 ⟨rfl, k1⟩
      have K1 := Lib.hid k1
      clear k1 FA
      go_wp2_with fail
      refine (RO.out _ K1.out).mono ?_; rintro e w2 ⟨g, rfl, _, _, k2⟩
      have K2 := Lib.hid (K1.out.trans k2)
      clear k2 RO
      go_wp2_with fail
      refine (IN.out _).mono ?_; rintro e w' ⟨rfl, rfl⟩
      go_wp2_with fail
      go_ret
      exact ⟨rfl, K2.out⟩
  · have RB := Lib.hid (fun w' (k : Kp w w') => bad A B c d w' (ha.keep k) (hb.keep k))
    generalize L.length = n1 at *
    generalize S.length = n2 at *
    clear ha hb bad
    go_enter Try.func3, Try.ntmps3
    go_wp2_with fail
    refine (FA.out).mono ?_; rintro e w1 ⟨rfl, k1⟩
    have K1 := Lib.hid k1
    clear k1 FA
    go_wp2_with fail
    refine (RB.out _ K1.out).mono ?_; rintro e w2 ⟨z, rfl, k2⟩
    have K2 := Lib.hid (K1.out.trans k2)
    clear k2 RB
    go_wp2_with fail
    go_ret
    exact ⟨rfl, K2.out⟩

end Go.Proofs.Ytpffekaldpllkaa
