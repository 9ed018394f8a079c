/- The law MasseyLeast. -/
import Derived.Test.YtpffekaldpllkaaDoorMsFact
import Derived.Test.YtpffekaldpllkaaDoorLawIn
import Derived.Test.YtpffekaldpllkaaDoorErrG
namespace Go.Proofs.YtpffekaldpllkaaDoor
open Go.ChangeShapes Go.WideShapes Go.ChangeAt Go.RowKit
set_option linter.unusedVariables false

set_option maxRecDepth 100000 in
set_option maxHeartbeats 6400000 in
theorem least_bad (A : Option Addr) (L : List Int) (c : Nat) (B : Option Addr) (S : List Int) (d : Nat) (w : World) (ha : Lies w A L) (h : scd L ≠ 0) :
    Calls Tryd.prog 4 #[.slice A L.length c, .slice B S.length d] w fun e w' => e = .returned (.bool true) ∧ Kp w w' := by
  have FA := Lib.hid (masseyFact_any w)
  have FE := Lib.hid (fun w' (k : Kp w w') => Fewest_bad A L c w' (ha.keep k) h)
  rw [errOf_ne _ h] at FE
  generalize scd L = z at *
  generalize L.length = n1 at *
  generalize S.length = n2 at *
  clear ha h
  go_enter Tryd.func4, Tryd.ntmps4
  go_wp2_with fail
  refine (FA.out).mono ?_; rintro e w1 ⟨rfl, k1⟩
  have K := Lib.hid k1
  clear k1 FA
  go_wp2_with fail
  refine (FE.out _ K.out).mono ?_; rintro e w2 ⟨rfl, k2⟩
  replace K := Lib.hid (K.out.trans k2); clear k2
  go_wp2_with fail
  go_ret
  exact ⟨rfl, K.out⟩

set_option maxRecDepth 100000 in
set_option maxHeartbeats 12800000 in
theorem least_good (A : Option Addr) (L : List Int) (c : Nat) (B : Option Addr) (S : List Int) (d : Nat) (N : Nat) (x : Nat → Fp.F) (w : World) (hl : Told.Laid w) (ha : Lies w A L) (hb : Lies w B S) (sr : Sr N x L) :
    Calls Tryd.prog 4 #[.slice A N c, .slice B S.length d] w fun e w' => e = .returned (.bool true) ∧ Kp w w' := by
  have HL := Lib.hid hl
  have FA := Lib.hid (masseyFact_any w)
  have HN := sr.le
  have HA := Lib.hid (show Lies w A (rowF N x) by rw [← sr.row]; exact ha)
  have HB := Lib.hid hb
  have GB := Lib.hid (fun (h : scd S ≠ 0) w' (k : Kp w w') => show Calls Tryd.prog 12 #[.slice A N c, .slice B S.length d] w' fun e w'' => e = .returned (.tuple #[.bool false, errOf (scd S)]) ∧ w' = w'' by
    have h1 := SGoes_bad2 A B L S c d w' (ha.keep k) (hb.keep k) sr.code h
    rw [sr.len] at h1
    exact h1)
  obtain ⟨l, hlN, hf⟩ := Mx.few_some N x
  have HF := Lib.hid hf
  have IN := Lib.hid (fun w => law3In_any (l : Int) 0 (N : Int) w true (by simp; omega))
  have ERR5 := Lib.hid (fun (wx : World) (hx : Kp w wx) => show Calls Tryd.prog 6 #[.iface 39 (.int .i64 5), .int .i64 5] wx fun e w' => e = .returned (.bool true) ∧ Kp wx w' from error_says 5 wx (laid_kp HL.out hx) (by decide))
  have GOOD := Lib.hid (fun h : scd S = 0 => sr_of h)
  obtain ⟨n2, hn2⟩ : ∃ n2, n2 = S.length := ⟨_, rfl⟩
  rw [← hn2] at GB GOOD ⊢
  have HN2 := Lib.hid hn2
  have hwl : IntKind.i64.wrap (2 * (l : Int)) = 2 * (l : Int) := IntWalk.i64_in _ (by omega)
  have ell : ((l : Int) != (l : Int)) = false := by simp
  clear ha hl hb sr hn2 hf
  go_enter Tryd.func4, Tryd.ntmps4
  go_wp2_with fail
  refine (FA.out).mono ?_; rintro e w1 ⟨rfl, k1⟩
  have K := Lib.hid k1
  clear k1 FA
  go_wp2_with fail
  refine (Fewest_ok A N c l x _ (HA.out.keep K.out) HN HF.out).mono ?_; rintro e w3 ⟨rfl, k3⟩
  replace K := Lib.hid (K.out.trans k3)
  clear k3
  go_wp2_with fail
  refine (IN.out _).mono ?_; rintro e w' ⟨rfl, rfl⟩
  by_cases h2 : N < 2 * l
  · have h2' : ¬ 2 * (l : Int) ≤ (N : Int) := by omega
    have FC := Lib.hid (fun w' (k : Kp w w') => Factors_none A N c l x w' (HA.out.keep k) HN HF.out h2)
    rw [show errOf 5 = .iface 39 (.int .i64 5) from rfl] at FC
    clear h2
    go_wp2_with fail
    refine (FC.out _ K.out).mono ?_; rintro e w5 ⟨rfl, k5⟩
    replace K := Lib.hid (K.out.trans k5); clear k5 FC
    go_wp2_with fail
    refine (ERR5.out _ K.out).mono ?_; rintro e w6 ⟨rfl, k6⟩
    replace K := Lib.hid (K.out.trans k6); clear k6
    by_cases hz : scd S = 0
    · obtain ⟨y, sy⟩ := GOOD.out hz
      have hse := sy.le
      rw [sy.row] at HB
      by_cases hgo : Mx.Gn N n2 y x
      · have G1 := Lib.hid (fun w' (k : Kp w w') => SGoes_ok A B N n2 c d x y w' (HA.out.keep k) (HB.out.keep k) HN hse true ⟨fun _ => hgo, fun _ => rfl⟩)
        have hle : (l : Int) ≤ (n2 : Int) := by have := HF.out.le hgo; omega
        clear hz hgo GOOD GB sy
        go_wp2_with fail
        refine (G1.out _ K.out).mono ?_; rintro e w9 ⟨rfl, rfl⟩
        go_wp2_with fail
        go_ret
        exact ⟨rfl, K.out⟩
      · have G1 := Lib.hid (fun w' (k : Kp w w') => SGoes_ok A B N n2 c d x y w' (HA.out.keep k) (HB.out.keep k) HN hse false ⟨fun h => (by cases h), fun h => absurd h hgo⟩)
        clear hz hgo GOOD GB sy
        go_wp2_with fail
        refine (G1.out _ K.out).mono ?_; rintro e w9 ⟨rfl, rfl⟩
        go_wp2_with fail
        go_ret
        exact ⟨rfl, K.out⟩
    · have G1 := Lib.hid (GB.out hz)
      rw [errOf_ne _ hz] at G1
      generalize scd S = z at *
      clear hz GOOD GB
      go_wp2_with fail
      refine (G1.out _ K.out).mono ?_; rintro e w9 ⟨rfl, rfl⟩
      go_wp2_with fail
      go_ret
      exact ⟨rfl, K.out⟩
  · have FC := Lib.hid (fun w' (k : Kp w w') => Factors_ok A N c l x w' (HA.out.keep k) HN HF.out (by omega))
    clear h2
    go_wp2_with fail
    refine (FC.out _ K.out).mono ?_; rintro e w5 ⟨Z2, d2, f2, rfl, l2, hg2, k5⟩
    replace K := Lib.hid (K.out.trans k5)
    have G0 := Lib.hid (SGoes_ok A Z2 N l c d2 x f2 w5 (HA.out.keep K.out) l2 HN (by omega) true ⟨fun _ => hg2, fun _ => rfl⟩)
    clear k5 l2 hg2 FC
    go_wp2_with fail
    refine (G0.out).mono ?_; rintro e w6 ⟨rfl, rfl⟩
    by_cases hz : scd S = 0
    · obtain ⟨y, sy⟩ := GOOD.out hz
      have hse := sy.le
      rw [sy.row] at HB
      by_cases hgo : Mx.Gn N n2 y x
      · have G1 := Lib.hid (fun w' (k : Kp w w') => SGoes_ok A B N n2 c d x y w' (HA.out.keep k) (HB.out.keep k) HN hse true ⟨fun _ => hgo, fun _ => rfl⟩)
        have hle : (l : Int) ≤ (n2 : Int) := by have := HF.out.le hgo; omega
        clear hz hgo GOOD GB sy
        go_wp2_with fail
        refine (G1.out _ K.out).mono ?_; rintro e w9 ⟨rfl, rfl⟩
        go_wp2_with fail
        go_ret
        exact ⟨rfl, K.out⟩
      · have G1 := Lib.hid (fun w' (k : Kp w w') => SGoes_ok A B N n2 c d x y w' (HA.out.keep k) (HB.out.keep k) HN hse false ⟨fun h => (by cases h), fun h => absurd h hgo⟩)
        clear hz hgo GOOD GB sy
        go_wp2_with fail
        refine (G1.out _ K.out).mono ?_; rintro e w9 ⟨rfl, rfl⟩
        go_wp2_with fail
        go_ret
        exact ⟨rfl, K.out⟩
    · have G1 := Lib.hid (GB.out hz)
      rw [errOf_ne _ hz] at G1
      generalize scd S = z at *
      clear hz GOOD GB
      go_wp2_with fail
      refine (G1.out _ K.out).mono ?_; rintro e w9 ⟨rfl, rfl⟩
      go_wp2_with fail
      go_ret
      exact ⟨rfl, K.out⟩

theorem walk_MasseyLeast (A : Option Addr) (L : List Int) (c : Nat) (B : Option Addr) (S : List Int) (d : Nat) (w : World) (hl : Told.Laid w) (ha : Lies w A L) (hb : Lies w B S) :
    Calls Tryd.prog 4 #[.slice A L.length c, .slice B S.length d] w fun e w' => e = .returned (.bool true) ∧ Kp w w' := by
  rcases sr_or L with ⟨N, x, sr⟩ | h
  · rw [sr.len]
    exact least_good A L c B S d N x w hl ha hb sr
  · exact least_bad A L c B S d w ha h

end Go.Proofs.YtpffekaldpllkaaDoor
